/-
  A record's bytes: the walks of both sides' Put. No condition.
-/
import Derived.Test.YtdapoonojhfkkaaMay
namespace Go.Proofs.Ytdapoonojhfkkaa
open Go Go.RowKit

/-- the bytes of numbers, one behind the other -/
def numsB : List Int → ByteArray
  | [] => ⟨#[]⟩
  | x :: l => numB x.toNat ++ numsB l
/-- a record's bytes -/
def putB (K : Int) (l : List Int) : ByteArray := ⟨#[UInt8.ofNat K.toNat]⟩ ++ numsB (valsL (flds K) l)
theorem numsB_snoc (l : List Int) (x : Int) : numsB (l ++ [x]) = numsB l ++ numB x.toNat := by
  induction l with
  | nil => simp [numsB]; apply ByteArray.ext; simp
  | cons a l ih => rw [List.cons_append, numsB, ih, numsB, ByteArray.append_assoc]
/-- a record that may be has numbers within their limits -/
theorem may_vals {K S P A T N : Int} (h : mayR K S P A T N) : 1 ≤ K ∧ K ≤ 9 ∧ 0 < (flds K).length ∧ ∀ f ∈ flds K, f.2.1 ≤ [K, S, P, A, T, N].getD f.1 0 ∧ [K, S, P, A, T, N].getD f.1 0 ≤ f.2.2 := by
  rcases h with h | h | h | h | h | h | h | h | h
  all_goals
    have hk := h.1
    subst hk
    simp [flds]
    omega
theorem valsL_length (fs : List Fl) (l : List Int) : (valsL fs l).length = fs.length := by simp [valsL]
theorem valsL_getD (fs : List Fl) (l : List Int) (k : Nat) (h : k < fs.length) : (valsL fs l).getD k 0 = l.getD (fs.getD k (0, 0, 0)).1 0 := by
  simp [valsL, List.getD_eq_getElem?_getD, h]
theorem take_snocI (l : List Int) (k : Nat) (h : k < l.length) : l.take (k + 1) = l.take k ++ [l.getD k 0] := by
  rw [List.take_succ_eq_append_getElem h]
  simp [List.getD_eq_getElem?_getD, h]
theorem one_size (b : UInt8) : (⟨#[b]⟩ : ByteArray).size = 1 := rfl
theorem numB_size (n : Nat) (h : n < 18446744073709551616) : (numB n).size ≤ 9 := numL_size n h
theorem numsB_size (l : List Int) (h : ∀ x ∈ l, 0 ≤ x ∧ x ≤ 1073741824) : (numsB l).size ≤ 9 * l.length := by
  induction l with
  | nil => exact Nat.le_refl _
  | cons a l ih =>
    rw [numsB, ByteArray.size_append]
    have h1 := h a (by simp)
    have h2 := numB_size a.toNat (by omega)
    have h3 := ih (fun x hx => h x (by simp [hx]))
    rw [List.length_cons]
    omega
theorem fix_one (K : Int) (h : 0 ≤ K ∧ K ≤ 255) : (⟨(fixL K.toNat (wid 1).toNat).toArray⟩ : ByteArray) = ⟨#[UInt8.ofNat K.toNat]⟩ := by
  have e : (wid 1).toNat = 1 := rfl
  rw [e, fixL, fixL, Nat.mod_eq_of_lt (by omega)]
theorem NumsAt.mono {w : World} {B B' R a fs} (h : NumsAt w B R a fs) (hB : B' ≤ B) : NumsAt w B' R a fs := fun h0 => by
  obtain ⟨g, ha, hg, hb⟩ := h h0
  exact ⟨g, ha, by omega, hb⟩
theorem u64_wrap (x : Int) (h0 : 0 ≤ x) (h1 : x ≤ 1073741824) : IntKind.u64.wrap x = x := by rw [IntKind.wrap_u64]; omega
theorem encFixedI_any (x : Int) (h : 0 ≤ x ∧ x ≤ 255) (w : World) : Calls Try.prog 33 #[.int .u64 x, .int .i64 1] w fun e w' => e = .returned (.string ⟨#[UInt8.ofNat x.toNat]⟩) ∧ Below w.heap.size w w' := by
  have q := encFixed_any x.toNat 1 w
  rw [fix_one x h, Int.toNat_of_nonneg h.1] at q
  exact q
theorem refFixedI_any (x : Int) (h : 0 ≤ x ∧ x ≤ 255) (w : World) : Calls Try.prog 21 #[.int .u64 x, .int .i64 1] w fun e w' => e = .returned (.string ⟨#[UInt8.ofNat x.toNat]⟩) ∧ Below w.heap.size w w' := by
  have q := refFixed_any x.toNat (by omega) 1 w
  rw [fix_one x h, Int.toNat_of_nonneg h.1] at q
  exact q
theorem encNumI_any (x : Int) (h : 0 ≤ x ∧ x ≤ 1073741824) (w : World) : Calls Try.prog 34 #[.int .u64 x] w fun e w' => e = .returned (.string (numB x.toNat)) ∧ Below w.heap.size w w' := by
  have q := encNumB_any x.toNat (by omega) w
  rw [Int.toNat_of_nonneg h.1] at q
  exact q
theorem refNumI_any (x : Int) (h : 0 ≤ x ∧ x ≤ 1073741824) (w : World) : Calls Try.prog 22 #[.int .u64 x] w fun e w' => e = .returned (.string (numB x.toNat)) ∧ Below w.heap.size w w' := by
  have q := refNumB_any x.toNat (by omega) w
  rw [Int.toNat_of_nonneg h.1] at q
  exact q
/-- what holds in Put -/
def PutS (w : World) (K : Int) (l : List Int) (a : Option Addr) (wr : World) : Prop := Row wr w.heap.size 27 .i64 l ∧ NumsAt wr 0 w.heap.size a (flds K) ∧ Below w.heap.size w wr
/-- what the walks of both Puts hold of a record that may be -/
structure PutF (K S P A T N : Int) (n : Nat) (O RES : ByteArray) (g : Nat → ByteArray) : Prop where
  len : (flds K).length = n
  pos : 0 < n
  kind : 1 ≤ K ∧ K ≤ 9
  val : ∀ f ∈ flds K, 0 ≤ [K, S, P, A, T, N].getD f.1 0 ∧ [K, S, P, A, T, N].getD f.1 0 ≤ 1073741824
  first : g 0 = O
  one : (⟨#[UInt8.ofNat K.toNat]⟩ : ByteArray) = O
  step : ∀ k, k < n → g (k + 1) = g k ++ numB ([K, S, P, A, T, N].getD ((flds K).getD k (0, 0, 0)).1 0).toNat
  last : g n = RES
  size : ∀ k, (g k).size ≤ 100
  res : putB K [K, S, P, A, T, N] = RES
theorem putF {K S P A T N : Int} (hm : mayB K S P A T N = true) : ∃ n O RES g, n ≤ 3 ∧ O.size ≤ 100 ∧ PutF K S P A T N n O RES g := by
  have hv := may_vals (mayB_iff.1 hm)
  have h3 := flds_len K
  have hsz : ∀ k : Nat, ((⟨#[UInt8.ofNat K.toNat]⟩ : ByteArray) ++ numsB ((valsL (flds K) [K, S, P, A, T, N]).take k)).size ≤ 100 := by
    intro k
    have h1 := numsB_size ((valsL (flds K) [K, S, P, A, T, N]).take k) (fun x hx => by
      have hx2 := List.mem_of_mem_take hx
      simp only [valsL, List.mem_map] at hx2
      obtain ⟨f, hf, rfl⟩ := hx2
      have q1 := hv.2.2.2 f hf
      have q2 := flds_off K f hf
      omega)
    rw [ByteArray.size_append, one_size]
    have h2 : ((valsL (flds K) [K, S, P, A, T, N]).take k).length ≤ (flds K).length := by
      rw [List.length_take, valsL_length]
      omega
    omega
  have hr0 : (⟨#[UInt8.ofNat K.toNat]⟩ : ByteArray) ++ numsB ((valsL (flds K) [K, S, P, A, T, N]).take 0) = ⟨#[UInt8.ofNat K.toNat]⟩ := by
    rw [List.take_zero, numsB]
    exact append_nilB _
  have hall : (valsL (flds K) [K, S, P, A, T, N]).take (flds K).length = valsL (flds K) [K, S, P, A, T, N] := List.take_of_length_le (by rw [valsL_length]; exact Nat.le_refl _)
  refine ⟨(flds K).length, ⟨#[UInt8.ofNat K.toNat]⟩, putB K [K, S, P, A, T, N], fun k => (⟨#[UInt8.ofNat K.toNat]⟩ : ByteArray) ++ numsB ((valsL (flds K) [K, S, P, A, T, N]).take k), h3, by rw [one_size]; omega,
    ⟨rfl, hv.2.2.1, ⟨hv.1, hv.2.1⟩, fun f hf => ?_, hr0, rfl, fun k hk => ?_, ?_, hsz, rfl⟩⟩
  · have q1 := hv.2.2.2 f hf
    have q2 := flds_off K f hf
    omega
  · show (⟨#[UInt8.ofNat K.toNat]⟩ : ByteArray) ++ numsB ((valsL (flds K) [K, S, P, A, T, N]).take (k + 1)) = _
    rw [take_snocI _ k (by rw [valsL_length]; exact hk), numsB_snoc, valsL_getD _ _ _ hk, ByteArray.append_assoc]
  · show (⟨#[UInt8.ofNat K.toNat]⟩ : ByteArray) ++ numsB ((valsL (flds K) [K, S, P, A, T, N]).take (flds K).length) = _
    rw [hall]
    rfl
theorem put_any (K S P A T N : Int) (w : World) : Calls Try.prog 29 #[rv K S P A T N] w fun e w' => e = .returned (.string (if mayB K S P A T N then putB K [K, S, P, A, T, N] else ⟨#[]⟩)) ∧ Below w.heap.size w w' := by
  by_cases hm : mayB K S P A T N = true
  case neg =>
    rw [if_neg hm]
    replace hm : mayB K S P A T N = false := by simpa using hm
    replace hm := Hid.mk hm
    unfold rv
    go_enter Try.func29, Try.ntmps29
    go_upto_region 1 with fail
    have p1 : Row (w.alloc (.cells #[.int .i64 K, .int .i64 S, .int .i64 P, .int .i64 A, .int .i64 T, .int .i64 N] 27)) w.heap.size 27 .i64 [K, S, P, A, T, N] := Row.fresh w 27 .i64 [K, S, P, A, T, N]
    have p2 := below_one w (.cells #[.int .i64 K, .int .i64 S, .int .i64 P, .int .i64 A, .int .i64 T, .int .i64 N] 27)
    generalize (w.alloc (.cells #[.int .i64 K, .int .i64 S, .int .i64 P, .int .i64 A, .int .i64 T, .int .i64 N] 27)) = W at *
    obtain ⟨c0, c1, c2, c3, c4, c5⟩ := p1.six
    have H := Hid.mk p2
    clear p1 p2
    go_wp2_with (go_at_call 28; refine (checkB_any K S P A T N _).mono ?_; rintro e w1 ⟨rfl, b1⟩; rw [hm.out])
    go_ret
    exact ⟨rfl, below3 H.out b1⟩
  rw [if_pos hm]
  obtain ⟨n, O, RES, g, h3, hz0, F⟩ := putF hm
  rw [F.res]
  have hk64 := u64_wrap K (by have := F.kind; omega) (by have := F.kind; omega)
  replace hm := Hid.mk hm
  replace F := Hid.mk F
  unfold rv
  go_enter Try.func29, Try.ntmps29
  go_upto_region 1 with fail
  have p1 : Row (w.alloc (.cells #[.int .i64 K, .int .i64 S, .int .i64 P, .int .i64 A, .int .i64 T, .int .i64 N] 27)) w.heap.size 27 .i64 [K, S, P, A, T, N] := Row.fresh w 27 .i64 [K, S, P, A, T, N]
  have p2 := below_one w (.cells #[.int .i64 K, .int .i64 S, .int .i64 P, .int .i64 A, .int .i64 T, .int .i64 N] 27)
  generalize (w.alloc (.cells #[.int .i64 K, .int .i64 S, .int .i64 P, .int .i64 A, .int .i64 T, .int .i64 N] 27)) = W at *
  obtain ⟨c0, c1, c2, c3, c4, c5⟩ := p1.six
  have H := Hid.mk (And.intro p1 p2)
  clear p1 p2
  go_upto_region 4 with (first
    | (go_at_call 28; refine (checkB_any K S P A T N _).mono ?_; rintro e w1 ⟨rfl, b1⟩; rw [hm.out]; replace H := Hid.mk (And.intro (H.out.1.call b1) (below3 H.out.2 b1)); clear b1 c0 c1 c2 c3 c4 c5; have c0 := H.out.1.six.1)
    | (go_at_call 33; refine (encFixedI_any K (by have := F.out.kind; omega) _).mono ?_; rintro e w2 ⟨rfl, b1⟩; rw [F.out.one]; replace H := Hid.mk (And.intro (H.out.1.call b1) (below3 H.out.2 b1)); clear b1 c0))
  go_upto_region 5 with (go_at_call 25; refine (numbers_any (K := K) H.out.1.lt (H.out.1.cell 0 (by simp))).mono ?_; rintro e w3 ⟨a, rfl, b1, n1⟩; rw [F.out.len])
  have s0 : Hid (PutS w K [K, S, P, A, T, N] a w3) := Hid.mk ⟨H.out.1.call b1, n1.mono (Nat.zero_le _), below3 H.out.2 b1⟩
  clear H n1 b1 hk64 hm
  go_loopw [3, 15] (fun s i wr => ∃ (k : Nat) (X : ByteArray), k ≤ n ∧ i = .int .i64 k ∧ s = .string X ∧ X = g k ∧ PutS w K [K, S, P, A, T, N] a wr) (fun _ i _ => n - (intOf i).toNat)
  case atStart => exact ⟨0, O, Nat.zero_le _, rfl, rfl, F.out.first.symm, s0.out⟩
  case round =>
    clear s0 hz0
    obtain ⟨k, X, hk, rfl, rfl, hX, hs⟩ := hrel
    have hz := F.out.size k
    rw [← hX] at hz
    by_cases hkn : k < n
    · have hkl : k < (flds K).length := by rw [F.out.len]; exact hkn
      obtain ⟨gg, rfl, _, hgl, c0, c1, c2⟩ := hs.2.1.cells k hkl
      have hoff := flds_off K _ (getD_mem _ k hkl)
      have hval := F.out.val _ (getD_mem _ k hkl)
      have hst := F.out.step k hkn
      generalize (flds K).getD k (0, 0, 0) = f at *
      obtain ⟨o, lo, hi⟩ := f
      simp only at c0 c1 c2 hoff hval hst
      have cx := hs.1.cell o (by simp; omega)
      generalize [K, S, P, A, T, N].getD o 0 = x at *
      have hx64 := u64_wrap x hval.1 hval.2
      have hzn := numB_size x.toNat (by omega)
      generalize hB : numB x.toNat = Bx at *
      have HS := Hid.mk (And.intro hs (And.intro hval (And.intro hB (And.intro hst (And.intro hX cx)))))
      clear hs hval hB hst hoff hX cx
      go_upto_region 7 with fail
      have p1 : PutS w K [K, S, P, A, T, N] (some ⟨gg, 0, none⟩) (wr.alloc (.cells #[.pointer (some ⟨w.heap.size, o, none⟩), .int .i64 lo, .int .i64 hi] 67)) := ⟨HS.out.1.1.alloc _, HS.out.1.2.1.alloc _, HS.out.1.2.2.alloc HS.out.1.2.2.size _⟩
      have p2 := three_cells (heap_alloc_new wr (.cells #[.pointer (some ⟨w.heap.size, o, none⟩), .int .i64 lo, .int .i64 hi] 67))
      have p3 : (wr.alloc (.cells #[.pointer (some ⟨w.heap.size, o, none⟩), .int .i64 lo, .int .i64 hi] 67)).cell? ⟨w.heap.size, o, none⟩ = some (.int .i64 x) := (((Below.refl _ wr).alloc (Nat.le_refl _) _).cell (p := ⟨w.heap.size, o, none⟩) HS.out.1.1.lt).trans HS.out.2.2.2.2.2
      generalize (wr.alloc (.cells #[.pointer (some ⟨w.heap.size, o, none⟩), .int .i64 lo, .int .i64 hi] 67)) = W2 at *
      generalize wr.heap.size = G at *
      obtain ⟨d0, d1, d2⟩ := p2
      replace HS := Hid.mk (And.intro p1 HS.out.2)
      clear p1 c0 c1 c2
      go_wp2_with (go_at_call 34; refine (encNumI_any x HS.out.2.1 _).mono ?_; rintro e w5 ⟨rfl, b5⟩; rw [HS.out.2.2.1])
      obtain ⟨hp, _, hB, hst, hX, _⟩ := HS.out
      exact ⟨⟨k + 1, X ++ Bx, by omega, by go_num, rfl, by rw [hst, hX], hp.1.call b5, hp.2.1.call b5, below3 hp.2.2 b5⟩, by simp [intOf]; omega⟩
    · have hk2 : k = n := by omega
      rw [hk2, F.out.last] at hX
      subst hX
      have HS := Hid.mk hs
      clear hs hk2
      go_wp2_with fail
      go_ret
      exact ⟨rfl, HS.out.2.2⟩
end Go.Proofs.Ytdapoonojhfkkaa
