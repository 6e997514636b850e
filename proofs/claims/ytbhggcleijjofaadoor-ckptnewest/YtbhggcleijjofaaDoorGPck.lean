/-
  A record's bytes: the walks of both sides' Put. No condition. Rows of records. No condition. Records packed into texts, and taken off them again, said plainly; how many texts that makes. No condition. group.Pack and group.Pages. Condition: records that may be, at most 100 of them. The law's own 'good'. No condition.
-/
import Derived.Test.YtbhggcleijjofaaDoorGMay
import Derived.Laws.OwnMore
import Derived.Lib.SmallJoins
import Derived.Lib.AppendStr
import Derived.Laws.BytesArg
namespace Go.Proofs.YtbhggcleijjofaaDoor.Gp
open Go Go.RowKit

set_option maxRecDepth 100000
def numB (n : Nat) : ByteArray := ⟨(numL n).toArray⟩
theorem append_nilB (a : ByteArray) : a ++ (⟨#[]⟩ : ByteArray) = a := by
  apply ByteArray.ext
  simp
theorem encNumB_any (n : Nat) (hn : n < 18446744073709551616) (w : World) :
    Calls Tryd.prog 44 #[.int .u64 n] w fun e w' => e = .returned (.string (numB n)) ∧ Below w.heap.size w w' := encNum_any n hn w

/-- the bytes of numbers, one behind the other -/
def numsB : List Int → ByteArray
  | [] => ⟨#[]⟩
  | x :: l => numB x.toNat ++ numsB l
/-- a record's bytes -/
def putB (K : Int) (l : List Int) : ByteArray := ⟨#[UInt8.ofNat K.toNat]⟩ ++ numsB (valsL (flds K) l)
theorem numsB_snoc (l : List Int) (x : Int) : numsB (l ++ [x]) = numsB l ++ numB x.toNat := by
  induction l with
  | nil => simp [numsB]; apply ByteArray.ext; simp
  | cons a l ih => rw [List.cons_append, numsB, ih, numsB, ByteArray.append_assoc]
/-- a record that may be has numbers within their limits -/
theorem may_vals {K S P A T N : Int} (h : mayR K S P A T N) : 1 ≤ K ∧ K ≤ 9 ∧ 0 < (flds K).length ∧ ∀ f ∈ flds K, f.2.1 ≤ [K, S, P, A, T, N].getD f.1 0 ∧ [K, S, P, A, T, N].getD f.1 0 ≤ f.2.2 := by
  rcases h with h | h | h | h | h | h | h | h | h
  all_goals
    have hk := h.1
    subst hk
    simp [flds]
    omega
theorem valsL_length (fs : List Fl) (l : List Int) : (valsL fs l).length = fs.length := by simp [valsL]
theorem valsL_getD (fs : List Fl) (l : List Int) (k : Nat) (h : k < fs.length) : (valsL fs l).getD k 0 = l.getD (fs.getD k (0, 0, 0)).1 0 := by
  simp [valsL, List.getD_eq_getElem?_getD, h]
theorem take_snocI (l : List Int) (k : Nat) (h : k < l.length) : l.take (k + 1) = l.take k ++ [l.getD k 0] := by
  rw [List.take_succ_eq_append_getElem h]
  simp [List.getD_eq_getElem?_getD, h]
theorem one_size (b : UInt8) : (⟨#[b]⟩ : ByteArray).size = 1 := rfl
theorem numB_size (n : Nat) (h : n < 18446744073709551616) : (numB n).size ≤ 9 := numL_size n h
theorem numsB_size (l : List Int) (h : ∀ x ∈ l, 0 ≤ x ∧ x ≤ 1073741824) : (numsB l).size ≤ 9 * l.length := by
  induction l with
  | nil => exact Nat.le_refl _
  | cons a l ih =>
    rw [numsB, ByteArray.size_append]
    have h1 := h a (by simp)
    have h2 := numB_size a.toNat (by omega)
    have h3 := ih (fun x hx => h x (by simp [hx]))
    rw [List.length_cons]
    omega
theorem fix_one (K : Int) (h : 0 ≤ K ∧ K ≤ 255) : (⟨(fixL K.toNat (wid 1).toNat).toArray⟩ : ByteArray) = ⟨#[UInt8.ofNat K.toNat]⟩ := by
  have e : (wid 1).toNat = 1 := rfl
  rw [e, fixL, fixL, Nat.mod_eq_of_lt (by omega)]
theorem NumsAt.mono {w : World} {B B' R a fs} (h : NumsAt w B R a fs) (hB : B' ≤ B) : NumsAt w B' R a fs := fun h0 => by
  obtain ⟨g, ha, hg, hb⟩ := h h0
  exact ⟨g, ha, by omega, hb⟩
theorem u64_wrap (x : Int) (h0 : 0 ≤ x) (h1 : x ≤ 1073741824) : IntKind.u64.wrap x = x := by rw [IntKind.wrap_u64]; omega
theorem encFixedI_any (x : Int) (h : 0 ≤ x ∧ x ≤ 255) (w : World) : Calls Tryd.prog 42 #[.int .u64 x, .int .i64 1] w fun e w' => e = .returned (.string ⟨#[UInt8.ofNat x.toNat]⟩) ∧ Below w.heap.size w w' := by
  have q := encFixed_any x.toNat 1 w
  rw [fix_one x h, Int.toNat_of_nonneg h.1] at q
  exact q
theorem encNumI_any (x : Int) (h : 0 ≤ x ∧ x ≤ 1073741824) (w : World) : Calls Tryd.prog 44 #[.int .u64 x] w fun e w' => e = .returned (.string (numB x.toNat)) ∧ Below w.heap.size w w' := by
  have q := encNumB_any x.toNat (by omega) w
  rw [Int.toNat_of_nonneg h.1] at q
  exact q
/-- what holds in Put -/
def PutS (w : World) (K : Int) (l : List Int) (a : Option Addr) (wr : World) : Prop := Row wr w.heap.size 74 .i64 l ∧ NumsAt wr 0 w.heap.size a (flds K) ∧ Below w.heap.size w wr
/-- what the walks of both Puts hold of a record that may be -/
structure PutF (K S P A T N : Int) (n : Nat) (O RES : ByteArray) (g : Nat → ByteArray) : Prop where
  len : (flds K).length = n
  pos : 0 < n
  kind : 1 ≤ K ∧ K ≤ 9
  val : ∀ f ∈ flds K, 0 ≤ [K, S, P, A, T, N].getD f.1 0 ∧ [K, S, P, A, T, N].getD f.1 0 ≤ 1073741824
  first : g 0 = O
  one : (⟨#[UInt8.ofNat K.toNat]⟩ : ByteArray) = O
  step : ∀ k, k < n → g (k + 1) = g k ++ numB ([K, S, P, A, T, N].getD ((flds K).getD k (0, 0, 0)).1 0).toNat
  last : g n = RES
  size : ∀ k, (g k).size ≤ 100
  res : putB K [K, S, P, A, T, N] = RES
theorem putF {K S P A T N : Int} (hm : mayB K S P A T N = true) : ∃ n O RES g, n ≤ 3 ∧ O.size ≤ 100 ∧ PutF K S P A T N n O RES g := by
  have hv := may_vals (mayB_iff.1 hm)
  have h3 := flds_len K
  have hsz : ∀ k : Nat, ((⟨#[UInt8.ofNat K.toNat]⟩ : ByteArray) ++ numsB ((valsL (flds K) [K, S, P, A, T, N]).take k)).size ≤ 100 := by
    intro k
    have h1 := numsB_size ((valsL (flds K) [K, S, P, A, T, N]).take k) (fun x hx => by
      have hx2 := List.mem_of_mem_take hx
      simp only [valsL, List.mem_map] at hx2
      obtain ⟨f, hf, rfl⟩ := hx2
      have q1 := hv.2.2.2 f hf
      have q2 := flds_off K f hf
      omega)
    rw [ByteArray.size_append, one_size]
    have h2 : ((valsL (flds K) [K, S, P, A, T, N]).take k).length ≤ (flds K).length := by
      rw [List.length_take, valsL_length]
      omega
    omega
  have hr0 : (⟨#[UInt8.ofNat K.toNat]⟩ : ByteArray) ++ numsB ((valsL (flds K) [K, S, P, A, T, N]).take 0) = ⟨#[UInt8.ofNat K.toNat]⟩ := by
    rw [List.take_zero, numsB]
    exact append_nilB _
  have hall : (valsL (flds K) [K, S, P, A, T, N]).take (flds K).length = valsL (flds K) [K, S, P, A, T, N] := List.take_of_length_le (by rw [valsL_length]; exact Nat.le_refl _)
  refine ⟨(flds K).length, ⟨#[UInt8.ofNat K.toNat]⟩, putB K [K, S, P, A, T, N], fun k => (⟨#[UInt8.ofNat K.toNat]⟩ : ByteArray) ++ numsB ((valsL (flds K) [K, S, P, A, T, N]).take k), h3, by rw [one_size]; omega,
    ⟨rfl, hv.2.2.1, ⟨hv.1, hv.2.1⟩, fun f hf => ?_, hr0, rfl, fun k hk => ?_, ?_, hsz, rfl⟩⟩
  · have q1 := hv.2.2.2 f hf
    have q2 := flds_off K f hf
    omega
  · show (⟨#[UInt8.ofNat K.toNat]⟩ : ByteArray) ++ numsB ((valsL (flds K) [K, S, P, A, T, N]).take (k + 1)) = _
    rw [take_snocI _ k (by rw [valsL_length]; exact hk), numsB_snoc, valsL_getD _ _ _ hk, ByteArray.append_assoc]
  · show (⟨#[UInt8.ofNat K.toNat]⟩ : ByteArray) ++ numsB ((valsL (flds K) [K, S, P, A, T, N]).take (flds K).length) = _
    rw [hall]
    rfl
theorem put_any (K S P A T N : Int) (w : World) : Calls Tryd.prog 24 #[rv K S P A T N] w fun e w' => e = .returned (.string (if mayB K S P A T N then putB K [K, S, P, A, T, N] else ⟨#[]⟩)) ∧ Below w.heap.size w w' := by
  by_cases hm : mayB K S P A T N = true
  case neg =>
    rw [if_neg hm]
    replace hm : mayB K S P A T N = false := by simpa using hm
    replace hm := Hid.mk hm
    unfold rv
    go_enter Tryd.func24, Tryd.ntmps24
    go_upto_region 1 with fail
    have p1 : Row (w.alloc (.cells #[.int .i64 K, .int .i64 S, .int .i64 P, .int .i64 A, .int .i64 T, .int .i64 N] 74)) w.heap.size 74 .i64 [K, S, P, A, T, N] := Row.fresh w 74 .i64 [K, S, P, A, T, N]
    have p2 := below_one w (.cells #[.int .i64 K, .int .i64 S, .int .i64 P, .int .i64 A, .int .i64 T, .int .i64 N] 74)
    generalize (w.alloc (.cells #[.int .i64 K, .int .i64 S, .int .i64 P, .int .i64 A, .int .i64 T, .int .i64 N] 74)) = W at *
    obtain ⟨c0, c1, c2, c3, c4, c5⟩ := p1.six
    have H := Hid.mk p2
    clear p1 p2
    go_wp2_with (go_at_call 41; refine (checkB_any K S P A T N _).mono ?_; rintro e w1 ⟨rfl, b1⟩; rw [hm.out])
    go_ret
    exact ⟨rfl, below3 H.out b1⟩
  rw [if_pos hm]
  obtain ⟨n, O, RES, g, h3, hz0, F⟩ := putF hm
  rw [F.res]
  have hk64 := u64_wrap K (by have := F.kind; omega) (by have := F.kind; omega)
  replace hm := Hid.mk hm
  replace F := Hid.mk F
  unfold rv
  go_enter Tryd.func24, Tryd.ntmps24
  go_upto_region 1 with fail
  have p1 : Row (w.alloc (.cells #[.int .i64 K, .int .i64 S, .int .i64 P, .int .i64 A, .int .i64 T, .int .i64 N] 74)) w.heap.size 74 .i64 [K, S, P, A, T, N] := Row.fresh w 74 .i64 [K, S, P, A, T, N]
  have p2 := below_one w (.cells #[.int .i64 K, .int .i64 S, .int .i64 P, .int .i64 A, .int .i64 T, .int .i64 N] 74)
  generalize (w.alloc (.cells #[.int .i64 K, .int .i64 S, .int .i64 P, .int .i64 A, .int .i64 T, .int .i64 N] 74)) = W at *
  obtain ⟨c0, c1, c2, c3, c4, c5⟩ := p1.six
  have H := Hid.mk (And.intro p1 p2)
  clear p1 p2
  go_upto_region 4 with (first
    | (go_at_call 41; refine (checkB_any K S P A T N _).mono ?_; rintro e w1 ⟨rfl, b1⟩; rw [hm.out]; replace H := Hid.mk (And.intro (H.out.1.call b1) (below3 H.out.2 b1)); clear b1 c0 c1 c2 c3 c4 c5; have c0 := H.out.1.six.1)
    | (go_at_call 42; refine (encFixedI_any K (by have := F.out.kind; omega) _).mono ?_; rintro e w2 ⟨rfl, b1⟩; rw [F.out.one]; replace H := Hid.mk (And.intro (H.out.1.call b1) (below3 H.out.2 b1)); clear b1 c0))
  go_upto_region 5 with (go_at_call 43; refine (numbers_any (K := K) H.out.1.lt (H.out.1.cell 0 (by simp))).mono ?_; rintro e w3 ⟨a, rfl, b1, n1⟩; rw [F.out.len])
  have s0 : Hid (PutS w K [K, S, P, A, T, N] a w3) := Hid.mk ⟨H.out.1.call b1, n1.mono (Nat.zero_le _), below3 H.out.2 b1⟩
  clear H n1 b1 hk64 hm
  go_loopw [3, 15] (fun s i wr => ∃ (k : Nat) (X : ByteArray), k ≤ n ∧ i = .int .i64 k ∧ s = .string X ∧ X = g k ∧ PutS w K [K, S, P, A, T, N] a wr) (fun _ i _ => n - (intOf i).toNat)
  case atStart => exact ⟨0, O, Nat.zero_le _, rfl, rfl, F.out.first.symm, s0.out⟩
  case round =>
    clear s0 hz0
    obtain ⟨k, X, hk, rfl, rfl, hX, hs⟩ := hrel
    have hz := F.out.size k
    rw [← hX] at hz
    by_cases hkn : k < n
    · have hkl : k < (flds K).length := by rw [F.out.len]; exact hkn
      obtain ⟨gg, rfl, _, hgl, c0, c1, c2⟩ := hs.2.1.cells k hkl
      have hoff := flds_off K _ (getD_mem _ k hkl)
      have hval := F.out.val _ (getD_mem _ k hkl)
      have hst := F.out.step k hkn
      generalize (flds K).getD k (0, 0, 0) = f at *
      obtain ⟨o, lo, hi⟩ := f
      simp only at c0 c1 c2 hoff hval hst
      have cx := hs.1.cell o (by simp; omega)
      generalize [K, S, P, A, T, N].getD o 0 = x at *
      have hx64 := u64_wrap x hval.1 hval.2
      have hzn := numB_size x.toNat (by omega)
      generalize hB : numB x.toNat = Bx at *
      have HS := Hid.mk (And.intro hs (And.intro hval (And.intro hB (And.intro hst (And.intro hX cx)))))
      clear hs hval hB hst hoff hX cx
      go_upto_region 7 with fail
      have p1 : PutS w K [K, S, P, A, T, N] (some ⟨gg, 0, none⟩) (wr.alloc (.cells #[.pointer (some ⟨w.heap.size, o, none⟩), .int .i64 lo, .int .i64 hi] 120)) := ⟨HS.out.1.1.alloc _, HS.out.1.2.1.alloc _, HS.out.1.2.2.alloc HS.out.1.2.2.size _⟩
      have p2 := three_cells (heap_alloc_new wr (.cells #[.pointer (some ⟨w.heap.size, o, none⟩), .int .i64 lo, .int .i64 hi] 120))
      have p3 : (wr.alloc (.cells #[.pointer (some ⟨w.heap.size, o, none⟩), .int .i64 lo, .int .i64 hi] 120)).cell? ⟨w.heap.size, o, none⟩ = some (.int .i64 x) := (((Below.refl _ wr).alloc (Nat.le_refl _) _).cell (p := ⟨w.heap.size, o, none⟩) HS.out.1.1.lt).trans HS.out.2.2.2.2.2
      generalize (wr.alloc (.cells #[.pointer (some ⟨w.heap.size, o, none⟩), .int .i64 lo, .int .i64 hi] 120)) = W2 at *
      generalize wr.heap.size = G at *
      obtain ⟨d0, d1, d2⟩ := p2
      replace HS := Hid.mk (And.intro p1 HS.out.2)
      clear p1 c0 c1 c2
      go_wp2_with (go_at_call 44; refine (encNumI_any x HS.out.2.1 _).mono ?_; rintro e w5 ⟨rfl, b5⟩; rw [HS.out.2.2.1])
      obtain ⟨hp, _, hB, hst, hX, _⟩ := HS.out
      exact ⟨⟨k + 1, X ++ Bx, by omega, by go_num, rfl, by rw [hst, hX], hp.1.call b5, hp.2.1.call b5, below3 hp.2.2 b5⟩, by simp [intOf]; omega⟩
    · have hk2 : k = n := by omega
      rw [hk2, F.out.last] at hX
      subst hX
      have HS := Hid.mk hs
      clear hs hk2
      go_wp2_with fail
      go_ret
      exact ⟨rfl, HS.out.2.2⟩
set_option maxRecDepth 100000

/-- six numbers -/
abbrev R6 := Int × Int × Int × Int × Int × Int
def R6.l (r : R6) : List Int := [r.1, r.2.1, r.2.2.1, r.2.2.2.1, r.2.2.2.2.1, r.2.2.2.2.2]
def R6.may (r : R6) : Bool := mayB r.1 r.2.1 r.2.2.1 r.2.2.2.1 r.2.2.2.2.1 r.2.2.2.2.2
def R6.put (r : R6) : ByteArray := putB r.1 r.l
def R6.cells (r : R6) : List Value := r.l.map (Value.int .i64)
/-- records as bytes, one behind the other -/
def puts : List R6 → ByteArray
  | [] => ⟨#[]⟩
  | r :: l => r.put ++ puts l
theorem puts_snoc (l : List R6) (r : R6) : puts (l ++ [r]) = puts l ++ r.put := by
  induction l with
  | nil => simp [puts]; apply ByteArray.ext; simp
  | cons a l ih => rw [List.cons_append, puts, ih, puts, ByteArray.append_assoc]
/-- records as cells -/
def rowsC (l : List R6) : List Value := l.flatMap R6.cells
theorem rowsC_snoc (l : List R6) (r : R6) : rowsC (l ++ [r]) = rowsC l ++ r.cells := by simp [rowsC]
theorem rowsC_length (l : List R6) : (rowsC l).length = l.length * 6 := by
  induction l with
  | nil => rfl
  | cons a l ih =>
    show (a.cells ++ rowsC l).length = _
    rw [List.length_append, ih, List.length_cons]
    show 6 + _ = _
    omega
theorem rowsC_get (l : List R6) (j c : Nat) (hj : j < l.length) (hc : c < 6) : (rowsC l)[j * 6 + c]? = some (.int .i64 ((l.getD j (0, 0, 0, 0, 0, 0)).l.getD c 0)) := by
  induction l generalizing j with
  | nil => simp at hj
  | cons a l ih =>
    show (a.cells ++ rowsC l)[j * 6 + c]? = _
    have h6 : a.cells.length = 6 := rfl
    cases j with
    | zero =>
      rw [List.getElem?_append_left (by rw [h6]; omega)]
      match c, hc with
      | 0, _ => rfl
      | 1, _ => rfl
      | 2, _ => rfl
      | 3, _ => rfl
      | 4, _ => rfl
      | 5, _ => rfl
    | succ j =>
      rw [List.getElem?_append_right (by rw [h6]; omega), h6, show (j + 1) * 6 + c - 6 = j * 6 + c by omega, ih j (by simpa using hj)]
      simp
theorem puts_drop (l : List R6) (j : Nat) (h : j < l.length) : puts (l.drop j) = (l.getD j (0, 0, 0, 0, 0, 0)).put ++ puts (l.drop (j + 1)) := by
  rw [List.drop_eq_getElem_cons h, puts]
  simp [List.getD_eq_getElem?_getD, h]
theorem put6_size (r : R6) (h : r.may = true) : r.put.size ≤ 100 := by
  obtain ⟨n, O, RES, g, h3, hz0, F⟩ := putF h
  have := F.size n
  rw [F.last, ← F.res] at this
  exact this
/-- a row of records that is handed in -/
def RecsF (w : World) (a : Option Addr) (n : Nat) (f : Nat → R6) : Prop := ∀ i, i < n → ∃ g o, a = some ⟨g, o, none⟩ ∧ g < w.heap.size ∧
  w.cell? ⟨g, o + i * 6, none⟩ = some (.int .i64 (f i).1) ∧ w.cell? ⟨g, o + i * 6 + 1, none⟩ = some (.int .i64 (f i).2.1) ∧ w.cell? ⟨g, o + i * 6 + 2, none⟩ = some (.int .i64 (f i).2.2.1) ∧
  w.cell? ⟨g, o + i * 6 + 3, none⟩ = some (.int .i64 (f i).2.2.2.1) ∧ w.cell? ⟨g, o + i * 6 + 4, none⟩ = some (.int .i64 (f i).2.2.2.2.1) ∧ w.cell? ⟨g, o + i * 6 + 5, none⟩ = some (.int .i64 (f i).2.2.2.2.2)
/-- the one record that a literal of one lays -/
theorem rec_cells (w : World) (r : R6) : ∀ j u, (R6.cells r)[j]? = some u → (w.alloc (.cells #[.int .i64 r.1, .int .i64 r.2.1, .int .i64 r.2.2.1, .int .i64 r.2.2.2.1, .int .i64 r.2.2.2.2.1, .int .i64 r.2.2.2.2.2] 74)).cell? ((⟨w.heap.size, 0, none⟩ : Addr).add j) = some u := by
  intro j u hu
  have ea : (⟨w.heap.size, 0, none⟩ : Addr).add j = ⟨w.heap.size, j, none⟩ := by unfold Addr.add; split <;> simp_all
  rw [ea, cell_of_row _ _ j _ 74 _ (heap_alloc_new w _), ← hu]
  simp [R6.cells, R6.l]
theorem cells_one (r : R6) : ∀ u ∈ R6.cells r, u.oneCell' = true := by
  intro u hu
  simp only [R6.cells, List.mem_map] at hu
  obtain ⟨x, _, rfl⟩ := hu
  rfl
theorem info23z : ∃ i z, Tryd.prog.info? 74 = some i ∧ i.zero = some z ∧ i.size = 6 ∧ i.bytes = 48 ∧ z.cells.size = 6 := ⟨_, _, rfl, rfl, rfl, rfl, rfl⟩
theorem RecsF.below {w w' : World} {a n f} (h : RecsF w a n f) (b : Below w.heap.size w w') : RecsF w' a n f := by
  intro i hi
  obtain ⟨g, o, ha, hg, c0, c1, c2, c3, c4, c5⟩ := h i hi
  have e : ∀ j, w'.cell? ⟨g, j, none⟩ = w.cell? ⟨g, j, none⟩ := fun j => b.cell (p := ⟨g, j, none⟩) hg
  exact ⟨g, o, ha, Nat.lt_of_lt_of_le hg b.size, by rw [e]; exact c0, by rw [e]; exact c1, by rw [e]; exact c2, by rw [e]; exact c3, by rw [e]; exact c4, by rw [e]; exact c5⟩
/-- what the first loop holds: records rs that may be, in a slice of the call's own -/
structure Rw (w : World) (v : Value) (rs : List R6) (wr : World) : Prop where
  own : wr.ownsRow w.heap.size 74 6 v rs.length (rowsC rs)
  may : ∀ r ∈ rs, R6.may r = true
  below : Below w.heap.size w wr
theorem Rw.call {w v rs wr w2} (h : Rw w v rs wr) (b : Below wr.heap.size wr w2) : Rw w v rs w2 :=
  ⟨h.own.kept (row := none) ⟨b.os, b.tape, b.output, b.size, fun j hj _ => b.block j hj⟩ (by cases hv : v.ownBlock <;> simp), h.may, below3 h.below b⟩
theorem Rw.form {w v rs wr} (h : Rw w v rs wr) : ∃ a cap, v = .slice a rs.length cap := by
  rcases Go.Joins.ownsRow_forms h.own with ⟨h1, h2⟩ | ⟨g, cap, h1⟩
  · exact ⟨none, 0, by rw [h1, h2]⟩
  · exact ⟨_, cap, h1⟩
theorem Rw.more {w v rs wr w3 v2} (h : Rw w v rs wr) (o : Obj) (r : R6) (hm : r.may = true) (hown : w3.ownsRow w.heap.size 74 6 v2 (rs.length + 1) (rowsC rs ++ r.cells)) (hg : (wr.alloc o).grownBy w3 v.ownBlock) : Rw w v2 (rs ++ [r]) w3 := by
  refine ⟨?_, fun x hx => ?_, ?_⟩
  · rw [rowsC_snoc, List.length_append]
    exact hown
  · rcases List.mem_append.1 hx with hx | hx
    · exact h.may x hx
    · rw [List.mem_singleton.1 hx]
      exact hm
  · exact (h.below.alloc h.below.size o).grown hg (h.below.alloc h.below.size o).size (fun k hk => ((h.own.alloc o).lt k hk).1)
theorem Rw.grown {w v rs wr w2 G} (h : Rw w v rs wr) (b : wr.grownBy w2 (some G)) (hne : v.ownBlock ≠ some G) (hG : w.heap.size ≤ G) : Rw w v rs w2 :=
  ⟨h.own.kept b (Or.inr hne), h.may, below_grown h.below b h.below.size hG⟩
theorem Rw.apart {w v rs wr} (h : Rw w v rs wr) : v.ownBlock ≠ some wr.heap.size := fun e => by
  have := (h.own.lt _ e).2
  omega
/-- the cells of one of the records -/
theorem Rw.at {w a c rs wr} (h : Rw w (.slice a rs.length c) rs wr) (j : Nat) (hj : j < rs.length) {K S P A T N : Int} (hr : rs.getD j (0, 0, 0, 0, 0, 0) = (K, S, P, A, T, N)) : ∃ g, a = some ⟨g, 0, none⟩ ∧ g < wr.heap.size ∧
    wr.cell? ⟨g, j * 6, none⟩ = some (.int .i64 K) ∧ wr.cell? ⟨g, j * 6 + 1, none⟩ = some (.int .i64 S) ∧ wr.cell? ⟨g, j * 6 + 2, none⟩ = some (.int .i64 P) ∧ wr.cell? ⟨g, j * 6 + 3, none⟩ = some (.int .i64 A) ∧ wr.cell? ⟨g, j * 6 + 4, none⟩ = some (.int .i64 T) ∧ wr.cell? ⟨g, j * 6 + 5, none⟩ = some (.int .i64 N) := by
  obtain ⟨g, cap, e⟩ := Go.Joins.ownsRow_form h.own (by omega)
  simp only [Value.slice.injEq] at e
  obtain ⟨rfl, _, rfl⟩ := e
  have hc : ∀ c, c < 6 → wr.cell? ⟨g, j * 6 + c, none⟩ = some (.int .i64 (R6.l (K, S, P, A, T, N) |>.getD c 0)) := fun c hc => by
    rw [h.own.cellAt (j * 6 + c) (by omega), rowsC_get rs j c hj hc, hr]
  exact ⟨g, rfl, (h.own.lt g rfl).2, hc 0 (by omega), hc 1 (by omega), hc 2 (by omega), hc 3 (by omega), hc 4 (by omega), hc 5 (by omega)⟩
theorem Rw.mayAt {w v rs wr} (h : Rw w v rs wr) (j : Nat) (hj : j < rs.length) {K S P A T N : Int} (hr : rs.getD j (0, 0, 0, 0, 0, 0) = (K, S, P, A, T, N)) : mayB K S P A T N = true := by
  have hm : rs.getD j (0, 0, 0, 0, 0, 0) ∈ rs := by simp [List.getD_eq_getElem?_getD, hj]
  have := h.may _ hm
  rw [hr] at this
  exact this
set_option maxRecDepth 100000

theorem nb_small {n k : Nat} (h : n < 256 ^ k) : nb n ≤ k := by
  by_cases h0 : n = 0
  · subst h0
    rw [nb_zero]
    exact Nat.zero_le _
  · have h1 := nb_ge n h0
    have h2 := nb_pos n h0
    by_cases q : nb n ≤ k
    · exact q
    · exact absurd (Nat.lt_of_lt_of_le h (Nat.pow_le_pow_right (by omega) (by omega : k ≤ nb n - 1))) (by omega)
theorem numB_le {n : Nat} (k : Nat) (h : n < 256 ^ k) : (numB n).size ≤ k + 1 := by
  show (numL n).toArray.size ≤ k + 1
  rw [List.size_toArray, numL_length]
  have := nb_small h
  omega
theorem numB_1 {x : Int} (h : 0 ≤ x ∧ x ≤ 255) : (numB x.toNat).size ≤ 2 := numB_le 1 (by omega)
theorem numB_2 {x : Int} (h : 0 ≤ x ∧ x ≤ 65535) : (numB x.toNat).size ≤ 3 := numB_le 2 (by omega)
theorem numB_4 {x : Int} (h : 0 ≤ x ∧ x ≤ 4294967295) : (numB x.toNat).size ≤ 5 := numB_le 4 (by omega)
/-- how long a record is -/
theorem put6_le (r : R6) (h : r.may = true) : 1 ≤ r.put.size ∧ r.put.size ≤ 9 := by
  obtain ⟨K, S, P, A, T, N⟩ := r
  have hm : mayR K S P A T N := mayB_iff.1 h
  have h0 : ∀ b : UInt8, (⟨#[b]⟩ : ByteArray).size = 1 := fun _ => rfl
  have h00 : (⟨#[]⟩ : ByteArray).size = 0 := rfl
  show 1 ≤ (putB K [K, S, P, A, T, N]).size ∧ (putB K [K, S, P, A, T, N]).size ≤ 9
  unfold putB
  rw [ByteArray.size_append, h0]
  refine ⟨by omega, ?_⟩
  rcases hm with h | h | h | h | h | h | h | h | h
  · obtain ⟨rfl, h⟩ := h
    have a1 := numB_1 (x := S) (by omega)
    have a2 := numB_2 (x := P) (by omega)
    have a3 := numB_2 (x := A) (by omega)
    show 1 + (numB S.toNat ++ (numB P.toNat ++ (numB A.toNat ++ ⟨#[]⟩))).size ≤ 9
    rw [ByteArray.size_append, ByteArray.size_append, ByteArray.size_append, h00]
    omega
  · obtain ⟨rfl, h⟩ := h
    have a1 := numB_1 (x := S) (by omega)
    have a2 := numB_2 (x := P) (by omega)
    show 1 + (numB S.toNat ++ (numB P.toNat ++ ⟨#[]⟩)).size ≤ 9
    rw [ByteArray.size_append, ByteArray.size_append, h00]
    omega
  · obtain ⟨rfl, h⟩ := h
    have a1 := numB_2 (x := A) (by omega)
    have a2 := numB_2 (x := T) (by omega)
    show 1 + (numB A.toNat ++ (numB T.toNat ++ ⟨#[]⟩)).size ≤ 9
    rw [ByteArray.size_append, ByteArray.size_append, h00]
    omega
  · obtain ⟨rfl, h⟩ := h
    have a1 := numB_1 (x := S) (by omega)
    have a2 := numB_2 (x := N) (by omega)
    show 1 + (numB S.toNat ++ (numB N.toNat ++ ⟨#[]⟩)).size ≤ 9
    rw [ByteArray.size_append, ByteArray.size_append, h00]
    omega
  · obtain ⟨rfl, h⟩ := h
    have a1 := numB_1 (x := S) (by omega)
    show 1 + (numB S.toNat ++ ⟨#[]⟩).size ≤ 9
    rw [ByteArray.size_append, h00]
    omega
  · obtain ⟨rfl, h⟩ := h
    have a1 := numB_1 (x := S) (by omega)
    have a2 := numB_2 (x := T) (by omega)
    show 1 + (numB S.toNat ++ (numB T.toNat ++ ⟨#[]⟩)).size ≤ 9
    rw [ByteArray.size_append, ByteArray.size_append, h00]
    omega
  · obtain ⟨rfl, h⟩ := h
    have a1 := numB_1 (x := S) (by omega)
    show 1 + (numB S.toNat ++ ⟨#[]⟩).size ≤ 9
    rw [ByteArray.size_append, h00]
    omega
  · obtain ⟨rfl, h⟩ := h
    have a1 := numB_1 (x := A) (by omega)
    show 1 + (numB A.toNat ++ ⟨#[]⟩).size ≤ 9
    rw [ByteArray.size_append, h00]
    omega
  · obtain ⟨rfl, h⟩ := h
    have a1 := numB_1 (x := A) (by omega)
    have a2 := numB_4 (x := N) (by omega)
    show 1 + (numB A.toNat ++ (numB N.toNat ++ ⟨#[]⟩)).size ≤ 9
    rw [ByteArray.size_append, ByteArray.size_append, h00]
    omega

/-- records' bytes laid into texts of so many bytes, behind these texts and that one -/
def packGo (n : Int) : List ByteArray → List ByteArray → ByteArray → List ByteArray
  | [], ts, t => ts ++ [t]
  | s :: l, ts, t => if 0 < t.size ∧ n < (t.size + s.size : Nat) then packGo n l (ts ++ [t]) s else packGo n l ts (t ++ s)
/-- how many bytes there are in all -/
def sumS : List ByteArray → Nat
  | [] => 0
  | s :: l => s.size + sumS l
theorem sumS_snoc (l : List ByteArray) (s : ByteArray) : sumS (l ++ [s]) = sumS l + s.size := by
  induction l with
  | nil => simp [sumS]
  | cons a l ih => rw [List.cons_append, sumS, ih, sumS]; omega
theorem sumS_le (l : List ByteArray) (h : ∀ s ∈ l, s.size ≤ 9) : sumS l ≤ 9 * l.length := by
  induction l with
  | nil => simp [sumS]
  | cons a l ih =>
    rw [sumS, List.length_cons]
    have h1 := h a (by simp)
    have h2 := ih (fun s hs => h s (List.mem_cons_of_mem _ hs))
    omega
theorem packGo_len (n : Int) (l ts : List ByteArray) (t : ByteArray) : ts.length + 1 ≤ (packGo n l ts t).length ∧ (packGo n l ts t).length ≤ ts.length + l.length + 1 := by
  induction l generalizing ts t with
  | nil => rw [packGo]; simp
  | cons s l ih =>
    rw [packGo]
    split
    · have := ih (ts ++ [t]) s
      simp only [List.length_append, List.length_cons, List.length_nil] at this ⊢
      omega
    · have := ih ts (t ++ s)
      simp only [List.length_cons] at this ⊢
      omega
theorem packGo_most (n : Int) (l ts : List ByteArray) (t : ByteArray) (A : Int) (h9 : ∀ s ∈ l, s.size ≤ 9) (hA : (ts.length : Int) * (n - 10) + t.size ≤ A) :
    (((packGo n l ts t).length : Int) - 1) * (n - 10) ≤ A + sumS l := by
  induction l generalizing ts t A with
  | nil =>
    rw [packGo, List.length_append, List.length_singleton, sumS]
    have e : (((ts.length + 1 : Nat) : Int) - 1) = (ts.length : Int) := by omega
    rw [e]
    omega
  | cons s l ih =>
    have h1 := h9 s (by simp)
    have h2 : ∀ s ∈ l, s.size ≤ 9 := fun s hs => h9 s (List.mem_cons_of_mem _ hs)
    rw [packGo, sumS]
    split
    · rename_i hc
      have hA2 : ((ts ++ [t]).length : Int) * (n - 10) + s.size ≤ A + s.size := by
        have e : ((ts ++ [t]).length : Int) = (ts.length : Int) + 1 := by simp
        rw [e, Int.add_mul]
        omega
      have := ih (ts ++ [t]) s (A + s.size) h2 hA2
      omega
    · have hA2 : (ts.length : Int) * (n - 10) + (t ++ s).size ≤ A + s.size := by
        rw [ByteArray.size_append]
        omega
      have := ih ts (t ++ s) (A + s.size) h2 hA2
      omega
set_option maxRecDepth 100000
theorem empty_of_size {T : ByteArray} (h : T.size = 0) : T = ⟨#[]⟩ := by
  apply ByteArray.ext
  exact Array.eq_empty_of_size_eq_zero h
theorem putMay_any {K S P A T N : Int} (hm : mayB K S P A T N = true) (w : World) : Calls Tryd.prog 24 #[rv K S P A T N] w fun e w' => e = .returned (.string (putB K [K, S, P, A, T, N])) ∧ Below w.heap.size w w' := by
  have q := put_any K S P A T N w
  rw [if_pos hm] at q
  exact q

/-- what the loop holds: texts, and the one that is being filled -/
structure Pk (w : World) (v5 v6 : Value) (ts : List ByteArray) (t : ByteArray) (wr : World) : Prop where
  tx : wr.ownsRow w.heap.size 9 1 v5 ts.length (ts.map Value.string)
  bt : wr.ownsRow w.heap.size 5 1 v6 t.size (Go.Lib.strCells t)
  below : Below w.heap.size w wr
theorem owns_call {B e size v n xs} {wr w2 : World} (h : wr.ownsRow B e size v n xs) (b : Below wr.heap.size wr w2) : w2.ownsRow B e size v n xs :=
  h.kept (row := none) ⟨b.os, b.tape, b.output, b.size, fun j hj _ => b.block j hj⟩ (by cases hv : v.ownBlock <;> simp)
theorem owns_ne {B e1 e2 s1 s2 v1 v2 n1 n2 x1 x2} {w : World} (h1 : w.ownsRow B e1 s1 v1 n1 x1) (h2 : w.ownsRow B e2 s2 v2 n2 x2) (hne : e1 ≠ e2) : v1.ownBlock = none ∨ v1.ownBlock ≠ v2.ownBlock := by
  rcases h1.2 with ⟨rfl, _⟩ | ⟨g1, c1, a1, rfl, _, hg1, _⟩
  · exact .inl rfl
  · right
    rcases h2.2 with ⟨rfl, _⟩ | ⟨g2, c2, a2, rfl, _, hg2, _⟩
    · intro q
      cases q
    · intro q
      obtain rfl : g1 = g2 := by simpa [Value.ownBlock] using q
      rw [hg1] at hg2
      simp at hg2
      exact hne hg2.2
theorem owns_form {B e size v n xs} {w : World} (h : w.ownsRow B e size v n xs) : ∃ a c, v = .slice a n c := by
  rcases h.2 with ⟨rfl, rfl⟩ | ⟨g, cap, cur, rfl, _⟩
  · exact ⟨none, 0, rfl⟩
  · exact ⟨_, cap, rfl⟩
theorem owns_form1 {B e size v n xs} {w : World} (h : w.ownsRow B e size v n xs) (hn : 0 < n) : ∃ g c, v = .slice (some ⟨g, 0, none⟩) n c ∧ n ≤ c := by
  rcases h.2 with ⟨rfl, rfl⟩ | ⟨g, cap, cur, rfl, _, _, h1, _⟩
  · omega
  · exact ⟨g, cap, rfl, h1⟩
theorem Pk.call {w v5 v6 ts t wr w2} (h : Pk w v5 v6 ts t wr) (b : Below wr.heap.size wr w2) : Pk w v5 v6 ts t w2 := ⟨owns_call h.tx b, owns_call h.bt b, below3 h.below b⟩
theorem Pk.nil (w : World) : Pk w (.slice none 0 0) (.slice none 0 0) [] ⟨#[]⟩ w := ⟨World.ownsRow_nil _ _ _ _, World.ownsRow_nil _ _ _ _, Below.refl _ _⟩
/-- string(text) -/
theorem owns_string {B v} {t : ByteArray} {w : World} (h : w.ownsRow B 5 1 v t.size (Go.Lib.strCells t)) : (convert 51 9 v).run Tryd.prog w = .ok (.string t) w := by
  rcases h.2 with ⟨rfl, h0⟩ | ⟨g, cap, cur, rfl, _, hg, h1, _⟩
  · rw [empty_of_size h0]
    exact run_convert_bytes_nil w 51 5 Tryd.underlying51 Tryd.underlying5 0 0 9 Tryd.underlying9
  · have hb : HasBytes w g t.data.toList := by
      intro j hj
      have hj2 : j < t.size := by simpa using hj
      refine ⟨?_, frozen_of_row w g j cur 5 hg⟩
      have ea : (⟨g, 0, none⟩ : Addr).add j = ⟨g, j, none⟩ := by unfold Addr.add; split <;> simp_all
      rw [← ea]
      refine h.cells rfl j _ ?_
      have hj3 : j < t.data.size := hj2
      simp [Go.Lib.strCells, List.getD_eq_getElem?_getD]
      exact ⟨t.data[j], Array.getElem?_eq_getElem hj3, by rw [Array.getElem?_eq_getElem hj3]; rfl⟩
    have := hb.back (P := Tryd.prog) 51 9 5 t.size cap (by simp) Tryd.underlying51 Tryd.underlying5 Tryd.underlying9
    simpa using this
theorem strCells_append (t B : ByteArray) : Go.Lib.strCells (t ++ B) = Go.Lib.strCells t ++ Go.Lib.strCells B := by simp [Go.Lib.strCells]
theorem owns_zero {B e size g n c xs} {w : World} (h : w.ownsRow B e size (.slice (some ⟨g, 0, none⟩) n c) n xs) : w.ownsRow B e size (.slice (some ⟨g, 0, none⟩) 0 c) 0 [] := by
  rcases h.2 with ⟨q, _⟩ | ⟨g2, cap, cur, q, h1, h2, h3, h4, h5, h6⟩
  · cases q
  · obtain ⟨rfl, rfl⟩ : g = g2 ∧ c = cap := by simpa using q
    exact ⟨by simp, .inr ⟨g, c, cur, rfl, h1, h2, Nat.zero_le _, h4, h5, by simp⟩⟩
theorem string_one (w : World) (t : ByteArray) : ∀ j u, ([t].map Value.string)[j]? = some u → (w.alloc (.cells #[.string t] 9)).cell? ((⟨w.heap.size, 0, none⟩ : Addr).add j) = some u := by
  intro j u hu
  have ea : (⟨w.heap.size, 0, none⟩ : Addr).add j = ⟨w.heap.size, j, none⟩ := by unfold Addr.add; split <;> simp_all
  rw [ea, cell_of_row _ _ j _ 9 _ (heap_alloc_new w _), ← hu]
  simp
theorem strings_one (l : List ByteArray) : ∀ u ∈ l.map Value.string, u.oneCell' = true := by
  intro u hu
  simp only [List.mem_map] at hu
  obtain ⟨x, _, rfl⟩ := hu
  rfl
/-- one text more -/
theorem Pk.more {w v5 v6 ts t wr w3 v2} (h : Pk w v5 v6 ts t wr) (o : Obj) (s : ByteArray) (hown : w3.ownsRow w.heap.size 9 1 v2 (ts.length + 1) (ts.map Value.string ++ [s].map Value.string)) (hg : (wr.alloc o).grownBy w3 v5.ownBlock) : Pk w v2 v6 (ts ++ [s]) t w3 := by
  refine ⟨?_, (h.bt.alloc o).kept hg (owns_ne h.bt h.tx (by decide)), ?_⟩
  · rw [List.map_append, List.length_append]
    exact hown
  · exact (h.below.alloc h.below.size o).grown hg (h.below.alloc h.below.size o).size (fun k hk => ((h.tx.alloc o).lt k hk).1)
/-- the text, longer -/
theorem Pk.fill {w v5 v6 ts t wr w3 v2} (h : Pk w v5 v6 ts t wr) (s : ByteArray) (hown : w3.ownsRow w.heap.size 5 1 v2 (t.size + s.size) (Go.Lib.strCells t ++ Go.Lib.strCells s)) (hg : wr.grownBy w3 v6.ownBlock) : Pk w v5 v2 ts (t ++ s) w3 := by
  refine ⟨h.tx.kept hg (owns_ne h.tx h.bt (by decide)), ?_, h.below.grown hg h.below.size (fun k hk => (h.bt.lt k hk).1)⟩
  rw [strCells_append, ByteArray.size_append]
  exact hown
theorem Pk.clear {w v5 g c ts t wr} (h : Pk w v5 (.slice (some ⟨g, 0, none⟩) t.size c) ts t wr) : Pk w v5 (.slice (some ⟨g, 0, none⟩) 0 c) ts ⟨#[]⟩ wr := ⟨h.tx, owns_zero h.bt, h.below⟩
theorem empty_append (s : ByteArray) : (⟨#[]⟩ : ByteArray) ++ s = s := by apply ByteArray.ext; simp
theorem not_empty {B : ByteArray} (h : 1 ≤ B.size) : B.toList.isEmpty = false := by
  rw [ByteArray.toList_eq]
  have h2 : B.data.toList.length = B.size := by simp
  cases hl : B.data.toList with
  | nil => rw [hl] at h2; simp at h2; omega
  | cons _ _ => rfl
theorem info9z : ∃ i z, Tryd.prog.info? 9 = some i ∧ i.zero = some z ∧ i.size = 1 ∧ i.bytes = 16 ∧ z.cells.size = 1 := ⟨_, _, rfl, rfl, rfl, rfl, rfl⟩
theorem info5z : ∃ i, Tryd.prog.info? 5 = some i ∧ i.zero = some (.int .u8 0) ∧ i.size = 1 ∧ i.bytes = 1 := ⟨_, rfl, rfl, rfl, rfl⟩
set_option maxRecDepth 20000 in
set_option maxHeartbeats 2000000 in
theorem pack_any (a : Option Addr) (cap : Nat) (n : Int) (rs : List R6) (w : World) (hx : RecsF w a rs.length (fun i => rs.getD i (0, 0, 0, 0, 0, 0))) (hm : ∀ r ∈ rs, R6.may r = true) (h100 : rs.length ≤ 100) : Calls Tryd.prog 10 #[.slice a rs.length cap, .int .i64 n] w fun e w' =>
    ∃ v, e = .returned v ∧ w'.ownsRow w.heap.size 9 1 v (packGo n (rs.map R6.put) [] ⟨#[]⟩).length ((packGo n (rs.map R6.put) [] ⟨#[]⟩).map Value.string) ∧ Below w.heap.size w w' := by
  have HX := Hid.mk (And.intro hx hm)
  clear hx hm
  obtain ⟨RES, hRES⟩ : ∃ R, packGo n (rs.map R6.put) [] ⟨#[]⟩ = R := ⟨_, rfl⟩
  rw [hRES]
  replace hRES := Hid.mk hRES
  generalize hn : rs.length = len at *
  replace hn := Hid.mk hn
  go_enter Tryd.func10, Tryd.ntmps10
  go_upto_region 4 with fail
  go_loopw [5, 6, 12] (fun v5 v6 i wr => ∃ (k : Nat) (ts : List ByteArray) (t : ByteArray), k ≤ len ∧ ts.length ≤ k ∧ t.size ≤ 9 * k ∧ i = .int .i64 k ∧ Pk w v5 v6 ts t wr ∧ packGo n ((rs.drop k).map R6.put) ts t = RES) (fun _ _ i _ => len - (intOf i).toNat)
  case atStart => exact ⟨0, [], ⟨#[]⟩, Nat.zero_le _, Nat.zero_le _, Nat.zero_le _, rfl, Pk.nil w, hRES.out⟩
  case round =>
    clear hRES
    obtain ⟨k, ts, t, hk, htk, htz, rfl, hs, hpk⟩ := hrel
    by_cases hlt : k < len
    · have hltl : k < rs.length := by rw [hn.out]; exact hlt
      obtain ⟨g, o, rfl, hg, c0, c1, c2, c3, c4, c5⟩ := HX.out.1.below hs.below k (by first | exact hltl | exact hlt)
      dsimp only at c0 c1 c2 c3 c4 c5
      have hmay := HX.out.2 (rs.getD k (0, 0, 0, 0, 0, 0)) (by simp [List.getD_eq_getElem?_getD, hltl])
      have hdr : rs.drop k = rs.getD k (0, 0, 0, 0, 0, 0) :: rs.drop (k + 1) := by rw [List.drop_eq_getElem_cons hltl]; simp [List.getD_eq_getElem?_getD, hltl]
      rw [hdr, List.map_cons, packGo] at hpk
      clear hdr
      generalize hr : rs.getD k (0, 0, 0, 0, 0, 0) = r at *
      obtain ⟨K, S, P, A, T, N⟩ := r
      simp only at c0 c1 c2 c3 c4 c5
      have hps := put6_le _ hmay
      have hput := fun w => putMay_any hmay w
      generalize hPB : R6.put (K, S, P, A, T, N) = B at *
      have hPB2 : putB K [K, S, P, A, T, N] = B := hPB
      rw [hPB2] at hput
      have HS := Hid.mk (And.intro hs (And.intro hpk hput))
      clear hs hpk hput hPB hPB2 hr hmay hltl
      obtain ⟨hp1, hp9⟩ := hps
      have hBe : ¬ B = ByteArray.empty := fun q => by rw [q] at hp1; simp at hp1
      go_upto_region 7 with (go_at_call 24; refine (HS.out.2.2 _).mono ?_; rintro e w1 ⟨rfl, b1⟩)
      have p1 := (HS.out.1.call (below_one wr _)).call b1
      have p2 := HS.out.2.1
      clear b1 HS hg c0 c1 c2 c3 c4 c5 hBe
      have hBe : B.toList.isEmpty = false := not_empty hp1
      obtain ⟨i9, z9, q1, q2, q3, q4, q5⟩ := info9z
      have H9 := Hid.mk (And.intro q1 (And.intro q2 (And.intro q3 (And.intro q4 q5))))
      clear q1 q2 q3 q4 q5
      obtain ⟨i5, q1, q2, q3, q4⟩ := info5z
      have H5 := Hid.mk (And.intro q1 (And.intro q2 (And.intro q3 q4)))
      clear q1 q2 q3 q4
      rw [show ((t.size + B.size : Nat) : Int) = (t.size : Int) + B.size by omega] at p2
      by_cases hc : 0 < t.size ∧ n < (t.size : Int) + B.size
      · rw [if_pos hc] at p2
        obtain ⟨hc1, hc2⟩ := hc
        obtain ⟨a5, c5, rfl⟩ := owns_form p1.tx
        obtain ⟨g6, c6, rfl, hc6⟩ := owns_form1 p1.bt hc1
        have hcv := owns_string p1.bt
        have HS := Hid.mk (And.intro p1 p2)
        clear p1 p2
        go_upto_region 10 with (first
          | (at_builtin; refine wpList_append_own _ rfl (.tmp 32) (.tmp 35) 37 rfl w.heap.size 9 i9 z9 1 16 Tryd.underlying37 H9.out.1 H9.out.2.1 H9.out.2.2.1 H9.out.2.2.2.1 H9.out.2.2.2.2 (by decide) (.slice a5 ts.length c5) ts.length (ts.map Value.string) rfl (HS.out.1.tx.alloc _) ⟨w1.heap.size, 0, none⟩ 1 1 ([t].map Value.string) rfl rfl (string_one w1 t) (strings_one _) (by simp [maxLen]; omega) (by omega) (Nat.le_trans HS.out.1.below.size (by rw [size_alloc]; omega)) ?_; intro v2 w3 hown hgrow _))
        have p1 := (HS.out.1.more _ _ hown hgrow).clear
        have p2 := HS.out.2
        clear HS hown hgrow hcv
        have HS := Hid.mk (And.intro p1 p2)
        clear p1 p2
        go_wp2_with (first
          | (at_builtin; refine Go.Lib.wpList_append_own_string _ rfl (.tmp 39) (.tmp 40) 51 9 rfl w.heap.size 5 i5 Tryd.underlying51 Tryd.underlying9 H5.out.1 H5.out.2.1 H5.out.2.2.1 H5.out.2.2.2 (.slice (some ⟨g6, 0, none⟩) 0 c6) 0 [] rfl HS.out.1.bt B rfl (by simp [maxLen]; omega) (by omega) HS.out.1.below.size ?_; intro v4 w4 hown hgrow _))
        have p1 := HS.out.1.fill B hown hgrow
        rw [empty_append] at p1
        exact ⟨⟨k + 1, ts ++ [t], B, by omega, by rw [List.length_append, List.length_singleton]; omega, by omega, by go_num, p1, HS.out.2⟩, by simp [intOf]; omega⟩
      · rw [if_neg hc] at p2
        obtain ⟨a6, c6, rfl⟩ := owns_form p1.bt
        have HS := Hid.mk (And.intro p1 p2)
        clear p1 p2
        have hc2 : ¬ 0 < t.size ∨ (0 < t.size ∧ ¬ n < (t.size : Int) + B.size) := by omega
        clear hc
        rcases hc2 with hc2 | ⟨hc1, hc2⟩
        all_goals
          go_wp2_with (first
            | (at_builtin; refine Go.Lib.wpList_append_own_string _ rfl (.tmp 39) (.tmp 40) 51 9 rfl w.heap.size 5 i5 Tryd.underlying51 Tryd.underlying9 H5.out.1 H5.out.2.1 H5.out.2.2.1 H5.out.2.2.2 (.slice a6 t.size c6) t.size (Go.Lib.strCells t) rfl HS.out.1.bt B rfl (by simp [maxLen]; omega) (by omega) HS.out.1.below.size ?_; intro v4 w4 hown hgrow _))
          have p1 := HS.out.1.fill B hown hgrow
          exact ⟨⟨k + 1, ts, t ++ B, by omega, by omega, by rw [ByteArray.size_append]; omega, by go_num, p1, HS.out.2⟩, by simp [intOf]; omega⟩
    · obtain rfl : k = len := by omega
      have hq := hpk
      rw [← hn.out, List.drop_length, List.map_nil, packGo] at hq
      obtain ⟨a5, c5, rfl⟩ := owns_form hs.tx
      obtain ⟨a6, c6, rfl⟩ := owns_form hs.bt
      have hcv := owns_string hs.bt
      have HS := Hid.mk (And.intro hs hq)
      clear hs hq hpk
      obtain ⟨i9, z9, q1, q2, q3, q4, q5⟩ := info9z
      have H9 := Hid.mk (And.intro q1 (And.intro q2 (And.intro q3 (And.intro q4 q5))))
      clear q1 q2 q3 q4 q5
      go_wp2_with (first
          | (at_builtin; refine wpList_append_own _ rfl (.tmp 43) (.tmp 46) 37 rfl w.heap.size 9 i9 z9 1 16 Tryd.underlying37 H9.out.1 H9.out.2.1 H9.out.2.2.1 H9.out.2.2.2.1 H9.out.2.2.2.2 (by decide) (.slice a5 ts.length c5) ts.length (ts.map Value.string) rfl (HS.out.1.tx.alloc _) ⟨wr.heap.size, 0, none⟩ 1 1 ([t].map Value.string) rfl rfl (string_one wr t) (strings_one _) (by simp [maxLen]; omega) (by omega) (Nat.le_trans HS.out.1.below.size (by rw [size_alloc]; omega)) ?_; intro v2 w3 hown hgrow _))
      have p1 := HS.out.1.more _ _ hown hgrow
      go_ret
      exact ⟨_, rfl, by rw [← HS.out.2]; exact p1.tx, p1.below⟩
set_option maxRecDepth 100000

set_option maxHeartbeats 2000000 in
theorem good_any (a : Option Addr) (len cap : Nat) (f : Nat → R6) (w : World) (hx : RecsF w a len f) : Calls Tryd.prog 8 #[.slice a len cap] w fun e w' => ∃ v rs, e = .returned v ∧ Rw w v rs w' ∧ rs.length ≤ 30 := by
  have HX := Hid.mk hx
  clear hx
  go_enter Tryd.func8, Tryd.ntmps8
  go_upto_region 3 with fail
  have r0 : Rw w (.slice (some ⟨w.heap.size, 0, none⟩) 0 0) [] (w.alloc (.cells #[] 74)) := ⟨World.ownsRow_made w #[] 0 (Nat.le_refl _) (Nat.zero_le _) rfl, fun _ h => (by cases h), below_one w _⟩
  generalize (w.alloc (.cells #[] 74)) = W at *
  replace r0 := Hid.mk r0
  go_loopw [3, 4] (fun v i wr => ∃ (k : Nat) (rs : List R6), k ≤ 30 ∧ k ≤ len ∧ rs.length ≤ k ∧ i = .int .i64 k ∧ Rw w v rs wr) (fun _ i _ => 30 - (intOf i).toNat)
  case atStart => exact ⟨0, [], by omega, Nat.zero_le _, Nat.le_refl _, rfl, r0.out⟩
  case round =>
    clear r0
    obtain ⟨k, rs, hk30, hklen, hrk, rfl, hs⟩ := hrel
    by_cases hgo : k < len ∧ k < 30
    · obtain ⟨h1, h2⟩ := hgo
      obtain ⟨g, o, rfl, hg, c0, c1, c2, c3, c4, c5⟩ := HX.out.below hs.below k h1
      generalize hr : f k = r at *
      obtain ⟨K, S, P, A, T, N⟩ := r
      simp only at c0 c1 c2 c3 c4 c5
      have HS := Hid.mk (And.intro hs hr)
      clear hs hr
      have h2i : (k : Int) < 30 := by omega
      go_upto_region 5 with fail
      by_cases hm : mayB K S P A T N = true
      · replace hm := Hid.mk hm
        go_upto_region 6 with (go_at_call 23; refine (refCheckB_any K S P A T N _).mono ?_; rintro e w1 ⟨rfl, b1⟩; rw [hm.out])
        replace HS := Hid.mk (And.intro (HS.out.1.call b1) HS.out.2)
        have e1 : ∀ j, w1.cell? ⟨g, j, none⟩ = wr.cell? ⟨g, j, none⟩ := fun j => b1.cell (p := ⟨g, j, none⟩) hg
        rw [← e1] at c0 c1 c2 c3 c4 c5
        have hg1 := Nat.lt_of_lt_of_le hg b1.size
        clear e1 b1 hg
        obtain ⟨i27, z27, q1, q2, q3, q4, q5⟩ := info23z
        have HI := Hid.mk (And.intro q1 (And.intro q2 (And.intro q3 (And.intro q4 q5))))
        clear q1 q2 q3 q4 q5
        go_wp2_with (first | (at_builtin; refine wpList_append_own _ rfl (.tmp 21) (.tmp 26) 22 rfl w.heap.size 74 i27 z27 6 48 Tryd.underlying22 HI.out.1 HI.out.2.1 HI.out.2.2.1 HI.out.2.2.2.1 HI.out.2.2.2.2 (by decide) u3 rs.length (rowsC rs) rfl (HS.out.1.own.alloc _) ⟨w1.heap.size, 0, none⟩ 1 1 (R6.cells (K, S, P, A, T, N)) rfl rfl (rec_cells w1 (K, S, P, A, T, N)) (cells_one _) (by simp [maxLen]; omega) (by omega) (Nat.le_trans HS.out.1.below.size (by rw [size_alloc]; omega)) ?_; intro v2 w3 hown hgrow _))
        exact ⟨⟨k + 1, rs ++ [(K, S, P, A, T, N)], by omega, by omega, by rw [List.length_append, List.length_singleton]; omega, by go_num, HS.out.1.more _ _ hm.out hown hgrow⟩, by simp [intOf]; omega⟩
      · replace hm : mayB K S P A T N = false := by simpa using hm
        replace hm := Hid.mk hm
        go_wp2_with (go_at_call 23; refine (refCheckB_any K S P A T N _).mono ?_; rintro e w1 ⟨rfl, b1⟩; rw [hm.out])
        exact ⟨⟨k + 1, rs, by omega, by omega, by omega, by go_num, HS.out.1.call b1⟩, by simp [intOf]; omega⟩
    · have hex : ¬ ((k : Int) < (len : Int)) ∨ ((k : Int) < (len : Int) ∧ ¬ ((k : Int) < 30)) := by omega
      have HS := Hid.mk hs
      clear hs hgo
      rcases hex with hex | ⟨hex0, hex⟩
      all_goals
        go_wp2_with fail
        go_ret
        exact ⟨_, rfl, rs, HS.out, by omega⟩
/-- a row of records of the call's own, as one that is handed on -/
theorem Rw.recs {w a c rs wr} (h : Rw w (.slice a rs.length c) rs wr) : RecsF wr a rs.length (fun i => rs.getD i (0, 0, 0, 0, 0, 0)) := by
  intro i hi
  obtain ⟨r, hr⟩ : ∃ r, rs.getD i (0, 0, 0, 0, 0, 0) = r := ⟨_, rfl⟩
  obtain ⟨K, S, P, A, T, N⟩ := r
  obtain ⟨g, ha, hg, d0, d1, d2, d3, d4, d5⟩ := h.at i hi hr
  refine ⟨g, 0, ha, hg, ?_, ?_, ?_, ?_, ?_, ?_⟩ <;> (dsimp only; rw [hr, Nat.zero_add]; assumption)
end Go.Proofs.YtbhggcleijjofaaDoor.Gp
