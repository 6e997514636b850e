/-
  The answer's lists of a record's numbers, of their least and of their most; the record of such a list: the walks of row and of. No condition. The record of a kind with these numbers: the walk of the answer's of. No condition. Which records may be, as the answer reckons it: the walk of its Check. No condition. Which records may be, said plainly: both sides' Checks answer just that. No condition. A record's bytes: the walks of both sides' Put. No condition. Rows of records. No condition. Records packed into texts, and taken off them again, said plainly; how many texts that makes. No condition. group.Pack and group.Pages. Condition: records that may be, at most 100 of them. The law's own 'good'. No condition. What was written is read again; the law's own 'awake' and 'few'. No condition. A record off a reader: the walk of Take. No condition. What is put is taken again; what is taken off has just its own bytes. No condition. Records laid into texts, and read off them again: Unpack of texts that hold whole records. Condition: records that may be, at most 100 in a text, at most 200 texts.
-/
import Derived.Test.YtcmmhfjnhlaepabGreatDoorRK7
import Derived.Test.YtcmmhfjnhlaepabGreatDoorRK2
import Derived.Laws.OwnMore
import Derived.Lib.SmallJoins
import Derived.Lib.AppendStr
import Derived.Laws.BytesArg
namespace Go.Proofs.YtcmmhfjnhlaepabGreatDoor.Gp
open Go Go.RowKit Pg
set_option maxRecDepth 100000
def valsL (fs : List Fl) (l : List Int) : List Int := fs.map fun f => l.getD f.1 0
def laySet : List Fl -> List Int -> List Int -> List Int
 | [], _, r => r
 | f :: fs, l, r => laySet fs l.tail (r.set f.1 (l.headD 0))
theorem info47 : (Tryz.prog.info? 47).map (·.size) = some 6 := by kernel_rfl
def within : List Int -> List Int -> List Int -> Bool
 | x :: xs, y :: ys, z :: zs => if x < y \/ z < x then false else within xs ys zs
 | _, _, _ => true
def mayR (K S P A T N : Int) : Prop :=
 (K = 1 /\ 1 <= S /\ S <= 15 /\ 0 <= P /\ P <= 1023 /\ 0 <= A /\ A <= 511 /\ T = 0 /\ N = 0) \/ (K = 2 /\ 1 <= S /\ S <= 15 /\ 0 <= P /\ P <= 1023 /\ A = 0 /\ T = 0 /\ N = 0) ∨
 (K = 3 /\ S = 0 /\ P = 0 /\ 0 <= A /\ A <= 511 /\ 0 <= T /\ T <= 511 /\ N = 0) \/ (K = 4 /\ 1 <= S /\ S <= 15 /\ P = 0 /\ A = 0 /\ T = 0 /\ 1 <= N /\ N <= 1024) ∨
 (K = 5 /\ 1 <= S /\ S <= 15 /\ P = 0 /\ A = 0 /\ T = 0 /\ N = 0) \/ (K = 6 /\ 1 <= S /\ S <= 15 /\ P = 0 /\ A = 0 /\ 1 <= T /\ T <= 15 /\ N = 0) ∨
 (K = 7 /\ 1 <= S /\ S <= 15 /\ P = 0 /\ A = 0 /\ T = 0 /\ N = 0) \/ (K = 8 /\ S = 0 /\ P = 0 /\ 0 <= A /\ A <= 31 /\ T = 0 /\ N = 0) ∨
 (K = 9 /\ S = 0 /\ P = 0 /\ 0 <= A /\ A <= 31 /\ T = 0 /\ 0 <= N /\ N <= 1073741824)
theorem chk_iff (K S P A T N : Int) : chkL K [K, S, P, A, T, N] = true ↔ mayR K S P A T N := by
 rcases kinds K with rfl | rfl | rfl | rfl | rfl | rfl | rfl | rfl | rfl | ⟨h1, h2, h3, h4, h5, h6, h7, h8, h9⟩
 case inr.inr.inr.inr.inr.inr.inr.inr.inr =>
  unfold chkL
  rw [flds_none h1 h2 h3 h4 h5 h6 h7 h8 h9]
  simp [chkGo, mayR, h1, h2, h3, h4, h5, h6, h7, h8, h9]
 all_goals
  unfold chkL
  split
  ·rename_i hq
   simp [flds, chkGo] at hq
   simp [mayR]
   omega
  ·rename_i m hq
   simp [flds, chkGo] at hq
   simp [flds, mayR]
   first
   | obtain ⟨h1, h2, h3, rfl⟩ := hq
   | obtain ⟨h1, h2, rfl⟩ := hq
   | obtain ⟨h1, rfl⟩ := hq
   simp
   omega
def mayB (K S P A T N : Int) : Bool := chkL K [K, S, P, A, T, N]
theorem mayB_iff {K S P A T N : Int} : mayB K S P A T N = true ↔ mayR K S P A T N := chk_iff K S P A T N
theorem checkB_any (K S P A T N : Int) (w : World) : Calls Tryz.prog 91 #[rv K S P A T N] w fun e w' => e = .returned (.bool (mayB K S P A T N)) /\ Below w.heap.size w w' := check_any K S P A T N w
end Go.Proofs.YtcmmhfjnhlaepabGreatDoor.Gp
namespace Go.Proofs.YtcmmhfjnhlaepabGreatDoor.Gp
open Go Go.RowKit Pg
set_option maxRecDepth 100000
def numB (n : Nat) : ByteArray := ⟨(numL n).toArray⟩
theorem append_nilB (a : ByteArray) : a ++ (⟨#[]⟩ : ByteArray) = a := by
 apply ByteArray.ext
 simp
theorem encNumB_any (n : Nat) (hn : n < 18446744073709551616) (w : World) :
  Calls Tryz.prog 224 #[.int .u64 n] w fun e w' => e = .returned (.string (numB n)) /\ Below w.heap.size w w' := encNum_any n hn w
def numsB : List Int -> ByteArray
 | [] => ⟨#[]⟩
 | x :: l => numB x.toNat ++ numsB l
def putB (K : Int) (l : List Int) : ByteArray := ⟨#[UInt8.ofNat K.toNat]⟩ ++ numsB (valsL (flds K) l)
theorem numsB_snoc (l : List Int) (x : Int) : numsB (l ++ [x]) = numsB l ++ numB x.toNat := by
 induction l with
 | nil => simp [numsB]; apply ByteArray.ext; simp
 | cons a l ih => rw [List.cons_append, numsB, ih, numsB, ByteArray.append_assoc]
theorem may_vals {K S P A T N : Int} (h : mayR K S P A T N) : 1 <= K /\ K <= 9 /\ 0 < (flds K).length /\ ∀ f ∈ flds K, f.2.1 <= [K, S, P, A, T, N].getD f.1 0 /\ [K, S, P, A, T, N].getD f.1 0 <= f.2.2 := by
 rcases h with h | h | h | h | h | h | h | h | h
 all_goals
  have hk := h.1
  subst hk
  simp [flds]
  omega
theorem valsL_length (fs : List Fl) (l : List Int) : (valsL fs l).length = fs.length := by simp [valsL]
theorem valsL_getD (fs : List Fl) (l : List Int) (k : Nat) (h : k < fs.length) : (valsL fs l).getD k 0 = l.getD (fs.getD k (0, 0, 0)).1 0 := by
 simp [valsL, List.getD_eq_getElem?_getD, h]
theorem take_snocI (l : List Int) (k : Nat) (h : k < l.length) : l.take (k + 1) = l.take k ++ [l.getD k 0] := by
 rw [List.take_succ_eq_append_getElem h]
 simp [List.getD_eq_getElem?_getD, h]
theorem one_size (b : UInt8) : (⟨#[b]⟩ : ByteArray).size = 1 := rfl
theorem numB_size (n : Nat) (h : n < 18446744073709551616) : (numB n).size <= 9 := numL_size n h
theorem numsB_size (l : List Int) (h : ∀ x ∈ l, 0 <= x /\ x <= 1073741824) : (numsB l).size <= 9 * l.length := by
 induction l with
 | nil => exact Nat.le_refl _
 | cons a l ih =>
  rw [numsB, ByteArray.size_append]
  have h1 := h a (by simp)
  have h2 := numB_size a.toNat (by omega)
  have h3 := ih (fun x hx => h x (by simp [hx]))
  rw [List.length_cons]
  omega
theorem fix_one (K : Int) (h : 0 <= K /\ K <= 255) : (⟨(fixL K.toNat (wid 1).toNat).toArray⟩ : ByteArray) = ⟨#[UInt8.ofNat K.toNat]⟩ := by
 have e : (wid 1).toNat = 1 := rfl
 rw [e, fixL, fixL, Nat.mod_eq_of_lt (by omega)]
theorem NumsAt.mono {w : World} {B B' R a fs} (h : NumsAt w B R a fs) (hB : B' <= B) : NumsAt w B' R a fs := fun h0 => by
 obtain ⟨g, ha, hg, hb⟩ := h h0
 exact ⟨g, ha, by omega, hb⟩
theorem u64_wrap (x : Int) (h0 : 0 <= x) (h1 : x <= 1073741824) : IntKind.u64.wrap x = x := by rw [IntKind.wrap_u64]; omega
theorem encFixedI_any (x : Int) (h : 0 <= x /\ x <= 255) (w : World) : Calls Tryz.prog 186 #[.int .u64 x, .int .i64 1] w fun e w' => e = .returned (.string ⟨#[UInt8.ofNat x.toNat]⟩) /\ Below w.heap.size w w' := by
 have q := encFixed_any x.toNat 1 w
 rw [fix_one x h, Int.toNat_of_nonneg h.1] at q
 exact q
theorem encNumI_any (x : Int) (h : 0 <= x /\ x <= 1073741824) (w : World) : Calls Tryz.prog 224 #[.int .u64 x] w fun e w' => e = .returned (.string (numB x.toNat)) /\ Below w.heap.size w w' := by
 have q := encNumB_any x.toNat (by omega) w
 rw [Int.toNat_of_nonneg h.1] at q
 exact q
def PutS (w : World) (K : Int) (l : List Int) (a : Option Addr) (wr : World) : Prop := Row wr w.heap.size 47 .i64 l /\ NumsAt wr 0 w.heap.size a (flds K) /\ Below w.heap.size w wr
structure PutF (K S P A T N : Int) (n : Nat) (O RES : ByteArray) (g : Nat -> ByteArray) : Prop where
 len : (flds K).length = n
 pos : 0 < n
 kind : 1 <= K /\ K <= 9
 val : ∀ f ∈ flds K, 0 <= [K, S, P, A, T, N].getD f.1 0 /\ [K, S, P, A, T, N].getD f.1 0 <= 1073741824
 first : g 0 = O
 one : (⟨#[UInt8.ofNat K.toNat]⟩ : ByteArray) = O
 step : ∀ k, k < n -> g (k + 1) = g k ++ numB ([K, S, P, A, T, N].getD ((flds K).getD k (0, 0, 0)).1 0).toNat
 last : g n = RES
 size : ∀ k, (g k).size <= 100
 res : putB K [K, S, P, A, T, N] = RES
theorem putF {K S P A T N : Int} (hm : mayB K S P A T N = true) : ∃ n O RES g, n <= 3 /\ O.size <= 100 /\ PutF K S P A T N n O RES g := by
 have hv := may_vals (mayB_iff.1 hm)
 have h3 := flds_len K
 have hsz : ∀ k : Nat, ((⟨#[UInt8.ofNat K.toNat]⟩ : ByteArray) ++ numsB ((valsL (flds K) [K, S, P, A, T, N]).take k)).size <= 100 := by
  intro k
  have h1 := numsB_size ((valsL (flds K) [K, S, P, A, T, N]).take k) (fun x hx => by
   have hx2 := List.mem_of_mem_take hx
   simp only [valsL, List.mem_map] at hx2
   obtain ⟨f, hf, rfl⟩ := hx2
   have q1 := hv.2.2.2 f hf
   have q2 := flds_off K f hf
   omega)
  rw [ByteArray.size_append, one_size]
  have h2 : ((valsL (flds K) [K, S, P, A, T, N]).take k).length <= (flds K).length := by
   rw [List.length_take, valsL_length]
   omega
  omega
 have hr0 : (⟨#[UInt8.ofNat K.toNat]⟩ : ByteArray) ++ numsB ((valsL (flds K) [K, S, P, A, T, N]).take 0) = ⟨#[UInt8.ofNat K.toNat]⟩ := by
  rw [List.take_zero, numsB]
  exact append_nilB _
 have hall : (valsL (flds K) [K, S, P, A, T, N]).take (flds K).length = valsL (flds K) [K, S, P, A, T, N] := List.take_of_length_le (by rw [valsL_length]; exact Nat.le_refl _)
 refine ⟨(flds K).length, ⟨#[UInt8.ofNat K.toNat]⟩, putB K [K, S, P, A, T, N], fun k => (⟨#[UInt8.ofNat K.toNat]⟩ : ByteArray) ++ numsB ((valsL (flds K) [K, S, P, A, T, N]).take k), h3, by rw [one_size]; omega,
  ⟨rfl, hv.2.2.1, ⟨hv.1, hv.2.1⟩, fun f hf => ?_, hr0, rfl, fun k hk => ?_, ?_, hsz, rfl⟩⟩
 ·have q1 := hv.2.2.2 f hf
  have q2 := flds_off K f hf
  omega
 ·show (⟨#[UInt8.ofNat K.toNat]⟩ : ByteArray) ++ numsB ((valsL (flds K) [K, S, P, A, T, N]).take (k + 1)) = _
  rw [take_snocI _ k (by rw [valsL_length]; exact hk), numsB_snoc, valsL_getD _ _ _ hk, ByteArray.append_assoc]
 ·show (⟨#[UInt8.ofNat K.toNat]⟩ : ByteArray) ++ numsB ((valsL (flds K) [K, S, P, A, T, N]).take (flds K).length) = _
  rw [hall]
  rfl
theorem put_any (K S P A T N : Int) (w : World) : Calls Tryz.prog 200 #[rv K S P A T N] w fun e w' => e = .returned (.string (if mayB K S P A T N then putB K [K, S, P, A, T, N] else ⟨#[]⟩)) /\ Below w.heap.size w w' := by
 by_cases hm : mayB K S P A T N = true
 case neg =>
  rw [if_neg hm]
  replace hm : mayB K S P A T N = false := by simpa using hm
  replace hm := Hid.mk hm
  unfold rv
  go_enter Tryz.func200, Tryz.ntmps200
  go_upto_region 1 with fail
  have p1 : Row (w.alloc (.cells #[.int .i64 K, .int .i64 S, .int .i64 P, .int .i64 A, .int .i64 T, .int .i64 N] 47)) w.heap.size 47 .i64 [K, S, P, A, T, N] := Row.fresh w 47 .i64 [K, S, P, A, T, N]
  have p2 := below_one w (.cells #[.int .i64 K, .int .i64 S, .int .i64 P, .int .i64 A, .int .i64 T, .int .i64 N] 47)
  generalize (w.alloc (.cells #[.int .i64 K, .int .i64 S, .int .i64 P, .int .i64 A, .int .i64 T, .int .i64 N] 47)) = W at *
  obtain ⟨c0, c1, c2, c3, c4, c5⟩ := p1.six
  have H := Hid.mk p2
  clear p1 p2
  go_wp2_with (go_at_call 91; refine (checkB_any K S P A T N _).mono ?_; rintro e w1 ⟨rfl, b1⟩; rw [hm.out])
  go_ret
  exact ⟨rfl, below3 H.out b1⟩
 rw [if_pos hm]
 obtain ⟨n, O, RES, g, h3, hz0, F⟩ := putF hm
 rw [F.res]
 have hk64 := u64_wrap K (by have := F.kind; omega) (by have := F.kind; omega)
 replace hm := Hid.mk hm
 replace F := Hid.mk F
 unfold rv
 go_enter Tryz.func200, Tryz.ntmps200
 go_upto_region 1 with fail
 have p1 : Row (w.alloc (.cells #[.int .i64 K, .int .i64 S, .int .i64 P, .int .i64 A, .int .i64 T, .int .i64 N] 47)) w.heap.size 47 .i64 [K, S, P, A, T, N] := Row.fresh w 47 .i64 [K, S, P, A, T, N]
 have p2 := below_one w (.cells #[.int .i64 K, .int .i64 S, .int .i64 P, .int .i64 A, .int .i64 T, .int .i64 N] 47)
 generalize (w.alloc (.cells #[.int .i64 K, .int .i64 S, .int .i64 P, .int .i64 A, .int .i64 T, .int .i64 N] 47)) = W at *
 obtain ⟨c0, c1, c2, c3, c4, c5⟩ := p1.six
 have H := Hid.mk (And.intro p1 p2)
 clear p1 p2
 go_upto_region 4 with (first
  | (go_at_call 91; refine (checkB_any K S P A T N _).mono ?_; rintro e w1 ⟨rfl, b1⟩; rw [hm.out]; replace H := Hid.mk (And.intro (H.out.1.call b1) (below3 H.out.2 b1)); clear b1 c0 c1 c2 c3 c4 c5; have c0 := H.out.1.six.1)
  | (go_at_call 186; refine (encFixedI_any K (by have := F.out.kind; omega) _).mono ?_; rintro e w2 ⟨rfl, b1⟩; rw [F.out.one]; replace H := Hid.mk (And.intro (H.out.1.call b1) (below3 H.out.2 b1)); clear b1 c0))
 go_upto_region 5 with (go_at_call 147; refine (numbers_any (K := K) H.out.1.lt (H.out.1.cell 0 (by simp))).mono ?_; rintro e w3 ⟨a, rfl, b1, n1⟩; rw [F.out.len])
 have s0 : Hid (PutS w K [K, S, P, A, T, N] a w3) := Hid.mk ⟨H.out.1.call b1, n1.mono (Nat.zero_le _), below3 H.out.2 b1⟩
 clear H n1 b1 hk64 hm
 go_loopw [3, 15] (fun s i wr => ∃ (k : Nat) (X : ByteArray), k <= n /\ i = .int .i64 k /\ s = .string X /\ X = g k /\ PutS w K [K, S, P, A, T, N] a wr) (fun _ i _ => n - (intOf i).toNat)
 case atStart => exact ⟨0, O, Nat.zero_le _, rfl, rfl, F.out.first.symm, s0.out⟩
 case round =>
  clear s0 hz0
  obtain ⟨k, X, hk, rfl, rfl, hX, hs⟩ := hrel
  have hz := F.out.size k
  rw [<- hX] at hz
  by_cases hkn : k < n
  ·have hkl : k < (flds K).length := by rw [F.out.len]; exact hkn
   obtain ⟨gg, rfl, _, hgl, c0, c1, c2⟩ := hs.2.1.cells k hkl
   have hoff := flds_off K _ (getD_mem _ k hkl)
   have hval := F.out.val _ (getD_mem _ k hkl)
   have hst := F.out.step k hkn
   generalize (flds K).getD k (0, 0, 0) = f at *
   obtain ⟨o, lo, hi⟩ := f
   simp only at c0 c1 c2 hoff hval hst
   have cx := hs.1.cell o (by simp; omega)
   generalize [K, S, P, A, T, N].getD o 0 = x at *
   have hx64 := u64_wrap x hval.1 hval.2
   have hzn := numB_size x.toNat (by omega)
   generalize hB : numB x.toNat = Bx at *
   have HS := Hid.mk (And.intro hs (And.intro hval (And.intro hB (And.intro hst (And.intro hX cx)))))
   clear hs hval hB hst hoff hX cx
   go_upto_region 7 with fail
   have p1 : PutS w K [K, S, P, A, T, N] (some ⟨gg, 0, none⟩) (wr.alloc (.cells #[.pointer (some ⟨w.heap.size, o, none⟩), .int .i64 lo, .int .i64 hi] 206)) := ⟨HS.out.1.1.alloc _, HS.out.1.2.1.alloc _, HS.out.1.2.2.alloc HS.out.1.2.2.size _⟩
   have p2 := three_cells (heap_alloc_new wr (.cells #[.pointer (some ⟨w.heap.size, o, none⟩), .int .i64 lo, .int .i64 hi] 206))
   have p3 : (wr.alloc (.cells #[.pointer (some ⟨w.heap.size, o, none⟩), .int .i64 lo, .int .i64 hi] 206)).cell? ⟨w.heap.size, o, none⟩ = some (.int .i64 x) := (((Below.refl _ wr).alloc (Nat.le_refl _) _).cell (p := ⟨w.heap.size, o, none⟩) HS.out.1.1.lt).trans HS.out.2.2.2.2.2
   generalize (wr.alloc (.cells #[.pointer (some ⟨w.heap.size, o, none⟩), .int .i64 lo, .int .i64 hi] 206)) = W2 at *
   generalize wr.heap.size = G at *
   obtain ⟨d0, d1, d2⟩ := p2
   replace HS := Hid.mk (And.intro p1 HS.out.2)
   clear p1 c0 c1 c2
   go_wp2_with (go_at_call 224; refine (encNumI_any x HS.out.2.1 _).mono ?_; rintro e w5 ⟨rfl, b5⟩; rw [HS.out.2.2.1])
   obtain ⟨hp, _, hB, hst, hX, _⟩ := HS.out
   exact ⟨⟨k + 1, X ++ Bx, by omega, by go_num, rfl, by rw [hst, hX], hp.1.call b5, hp.2.1.call b5, below3 hp.2.2 b5⟩, by simp [intOf]; omega⟩
  ·have hk2 : k = n := by omega
   rw [hk2, F.out.last] at hX
   subst hX
   have HS := Hid.mk hs
   clear hs hk2
   go_wp2_with fail
   go_ret
   exact ⟨rfl, HS.out.2.2⟩
set_option maxRecDepth 100000
abbrev R6 := Int × Int × Int × Int × Int × Int
def R6.l (r : R6) : List Int := [r.1, r.2.1, r.2.2.1, r.2.2.2.1, r.2.2.2.2.1, r.2.2.2.2.2]
def R6.may (r : R6) : Bool := mayB r.1 r.2.1 r.2.2.1 r.2.2.2.1 r.2.2.2.2.1 r.2.2.2.2.2
def R6.put (r : R6) : ByteArray := putB r.1 r.l
def R6.cells (r : R6) : List Value := r.l.map (Value.int .i64)
def puts : List R6 -> ByteArray
 | [] => ⟨#[]⟩
 | r :: l => r.put ++ puts l
def rowsC (l : List R6) : List Value := l.flatMap R6.cells
theorem rowsC_snoc (l : List R6) (r : R6) : rowsC (l ++ [r]) = rowsC l ++ r.cells := by simp [rowsC]
theorem rowsC_get (l : List R6) (j c : Nat) (hj : j < l.length) (hc : c < 6) : (rowsC l)[j * 6 + c]? = some (.int .i64 ((l.getD j (0, 0, 0, 0, 0, 0)).l.getD c 0)) := by
 induction l generalizing j with
 | nil => simp at hj
 | cons a l ih =>
  show (a.cells ++ rowsC l)[j * 6 + c]? = _
  have h6 : a.cells.length = 6 := rfl
  cases j with
  | zero =>
   rw [List.getElem?_append_left (by rw [h6]; omega)]
   match c, hc with
   | 0, _ => rfl
   | 1, _ => rfl
   | 2, _ => rfl
   | 3, _ => rfl
   | 4, _ => rfl
   | 5, _ => rfl
  | succ j =>
   rw [List.getElem?_append_right (by rw [h6]; omega), h6, show (j + 1) * 6 + c - 6 = j * 6 + c by omega, ih j (by simpa using hj)]
   simp
theorem puts_drop (l : List R6) (j : Nat) (h : j < l.length) : puts (l.drop j) = (l.getD j (0, 0, 0, 0, 0, 0)).put ++ puts (l.drop (j + 1)) := by
 rw [List.drop_eq_getElem_cons h, puts]
 simp [List.getD_eq_getElem?_getD, h]
def RecsF (w : World) (a : Option Addr) (n : Nat) (f : Nat -> R6) : Prop := ∀ i, i < n -> ∃ g o, a = some ⟨g, o, none⟩ /\ g < w.heap.size ∧
 w.cell? ⟨g, o + i * 6, none⟩ = some (.int .i64 (f i).1) /\ w.cell? ⟨g, o + i * 6 + 1, none⟩ = some (.int .i64 (f i).2.1) /\ w.cell? ⟨g, o + i * 6 + 2, none⟩ = some (.int .i64 (f i).2.2.1) ∧
 w.cell? ⟨g, o + i * 6 + 3, none⟩ = some (.int .i64 (f i).2.2.2.1) /\ w.cell? ⟨g, o + i * 6 + 4, none⟩ = some (.int .i64 (f i).2.2.2.2.1) /\ w.cell? ⟨g, o + i * 6 + 5, none⟩ = some (.int .i64 (f i).2.2.2.2.2)
theorem rec_cells (w : World) (r : R6) : ∀ j u, (R6.cells r)[j]? = some u -> (w.alloc (.cells #[.int .i64 r.1, .int .i64 r.2.1, .int .i64 r.2.2.1, .int .i64 r.2.2.2.1, .int .i64 r.2.2.2.2.1, .int .i64 r.2.2.2.2.2] 47)).cell? ((⟨w.heap.size, 0, none⟩ : Addr).add j) = some u := by
 intro j u hu
 have ea : (⟨w.heap.size, 0, none⟩ : Addr).add j = ⟨w.heap.size, j, none⟩ := by unfold Addr.add; split <;> simp_all
 rw [ea, cell_of_row _ _ j _ 47 _ (heap_alloc_new w _), <- hu]
 simp [R6.cells, R6.l]
theorem cells_one (r : R6) : ∀ u ∈ R6.cells r, u.oneCell' = true := by
 intro u hu
 simp only [R6.cells, List.mem_map] at hu
 obtain ⟨x, _, rfl⟩ := hu
 rfl
theorem info23z : ∃ i z, Tryz.prog.info? 47 = some i /\ i.zero = some z /\ i.size = 6 /\ i.bytes = 48 /\ z.cells.size = 6 := ⟨_, _, rfl, rfl, rfl, rfl, rfl⟩
theorem RecsF.below {w w' : World} {a n f} (h : RecsF w a n f) (b : Below w.heap.size w w') : RecsF w' a n f := by
 intro i hi
 obtain ⟨g, o, ha, hg, c0, c1, c2, c3, c4, c5⟩ := h i hi
 have e : ∀ j, w'.cell? ⟨g, j, none⟩ = w.cell? ⟨g, j, none⟩ := fun j => b.cell (p := ⟨g, j, none⟩) hg
 exact ⟨g, o, ha, Nat.lt_of_lt_of_le hg b.size, by rw [e]; exact c0, by rw [e]; exact c1, by rw [e]; exact c2, by rw [e]; exact c3, by rw [e]; exact c4, by rw [e]; exact c5⟩
structure Rw (w : World) (v : Value) (rs : List R6) (wr : World) : Prop where
 own : wr.ownsRow w.heap.size 47 6 v rs.length (rowsC rs)
 may : ∀ r ∈ rs, R6.may r = true
 below : Below w.heap.size w wr
theorem Rw.call {w v rs wr w2} (h : Rw w v rs wr) (b : Below wr.heap.size wr w2) : Rw w v rs w2 :=
 ⟨h.own.kept (row := none) ⟨b.os, b.tape, b.output, b.size, fun j hj _ => b.block j hj⟩ (by cases hv : v.ownBlock <;> simp), h.may, below3 h.below b⟩
theorem Rw.form {w v rs wr} (h : Rw w v rs wr) : ∃ a cap, v = .slice a rs.length cap := by
 rcases Go.Joins.ownsRow_forms h.own with ⟨h1, h2⟩ | ⟨g, cap, h1⟩
 ·exact ⟨none, 0, by rw [h1, h2]⟩
 ·exact ⟨_, cap, h1⟩
theorem Rw.more {w v rs wr w3 v2} (h : Rw w v rs wr) (o : Obj) (r : R6) (hm : r.may = true) (hown : w3.ownsRow w.heap.size 47 6 v2 (rs.length + 1) (rowsC rs ++ r.cells)) (hg : (wr.alloc o).grownBy w3 v.ownBlock) : Rw w v2 (rs ++ [r]) w3 := by
 refine ⟨?_, fun x hx => ?_, ?_⟩
 ·rw [rowsC_snoc, List.length_append]
  exact hown
 ·rcases List.mem_append.1 hx with hx | hx
  ·exact h.may x hx
  ·rw [List.mem_singleton.1 hx]
   exact hm
 ·exact (h.below.alloc h.below.size o).grown hg (h.below.alloc h.below.size o).size (fun k hk => ((h.own.alloc o).lt k hk).1)
theorem Rw.grown {w v rs wr w2 G} (h : Rw w v rs wr) (b : wr.grownBy w2 (some G)) (hne : v.ownBlock ≠ some G) (hG : w.heap.size <= G) : Rw w v rs w2 :=
 ⟨h.own.kept b (Or.inr hne), h.may, below_grown h.below b h.below.size hG⟩
theorem Rw.at {w a c rs wr} (h : Rw w (.slice a rs.length c) rs wr) (j : Nat) (hj : j < rs.length) {K S P A T N : Int} (hr : rs.getD j (0, 0, 0, 0, 0, 0) = (K, S, P, A, T, N)) : ∃ g, a = some ⟨g, 0, none⟩ /\ g < wr.heap.size ∧
  wr.cell? ⟨g, j * 6, none⟩ = some (.int .i64 K) /\ wr.cell? ⟨g, j * 6 + 1, none⟩ = some (.int .i64 S) /\ wr.cell? ⟨g, j * 6 + 2, none⟩ = some (.int .i64 P) /\ wr.cell? ⟨g, j * 6 + 3, none⟩ = some (.int .i64 A) /\ wr.cell? ⟨g, j * 6 + 4, none⟩ = some (.int .i64 T) /\ wr.cell? ⟨g, j * 6 + 5, none⟩ = some (.int .i64 N) := by
 obtain ⟨g, cap, e⟩ := Go.Joins.ownsRow_form h.own (by omega)
 simp only [Value.slice.injEq] at e
 obtain ⟨rfl, _, rfl⟩ := e
 have hc : ∀ c, c < 6 -> wr.cell? ⟨g, j * 6 + c, none⟩ = some (.int .i64 (R6.l (K, S, P, A, T, N) |>.getD c 0)) := fun c hc => by
  rw [h.own.cellAt (j * 6 + c) (by omega), rowsC_get rs j c hj hc, hr]
 exact ⟨g, rfl, (h.own.lt g rfl).2, hc 0 (by omega), hc 1 (by omega), hc 2 (by omega), hc 3 (by omega), hc 4 (by omega), hc 5 (by omega)⟩
set_option maxRecDepth 100000
theorem nb_small {n k : Nat} (h : n < 256 ^ k) : nb n <= k := by
 by_cases h0 : n = 0
 ·subst h0
  rw [nb_zero]
  exact Nat.zero_le _
 ·have h1 := nb_ge n h0
  have h2 := nb_pos n h0
  by_cases q : nb n <= k
  ·exact q
  ·exact absurd (Nat.lt_of_lt_of_le h (Nat.pow_le_pow_right (by omega) (by omega : k <= nb n - 1))) (by omega)
theorem numB_le {n : Nat} (k : Nat) (h : n < 256 ^ k) : (numB n).size <= k + 1 := by
 show (numL n).toArray.size <= k + 1
 rw [List.size_toArray, numL_length]
 have := nb_small h
 omega
theorem numB_1 {x : Int} (h : 0 <= x /\ x <= 255) : (numB x.toNat).size <= 2 := numB_le 1 (by omega)
theorem numB_2 {x : Int} (h : 0 <= x /\ x <= 65535) : (numB x.toNat).size <= 3 := numB_le 2 (by omega)
theorem numB_4 {x : Int} (h : 0 <= x /\ x <= 4294967295) : (numB x.toNat).size <= 5 := numB_le 4 (by omega)
theorem put6_le (r : R6) (h : r.may = true) : 1 <= r.put.size /\ r.put.size <= 9 := by
 obtain ⟨K, S, P, A, T, N⟩ := r
 have hm : mayR K S P A T N := mayB_iff.1 h
 have h0 : ∀ b : UInt8, (⟨#[b]⟩ : ByteArray).size = 1 := fun _ => rfl
 have h00 : (⟨#[]⟩ : ByteArray).size = 0 := rfl
 show 1 <= (putB K [K, S, P, A, T, N]).size /\ (putB K [K, S, P, A, T, N]).size <= 9
 unfold putB
 rw [ByteArray.size_append, h0]
 refine ⟨by omega, ?_⟩
 rcases hm with h | h | h | h | h | h | h | h | h
 ·obtain ⟨rfl, h⟩ := h
  have a1 := numB_1 (x := S) (by omega)
  have a2 := numB_2 (x := P) (by omega)
  have a3 := numB_2 (x := A) (by omega)
  show 1 + (numB S.toNat ++ (numB P.toNat ++ (numB A.toNat ++ ⟨#[]⟩))).size <= 9
  rw [ByteArray.size_append, ByteArray.size_append, ByteArray.size_append, h00]
  omega
 ·obtain ⟨rfl, h⟩ := h
  have a1 := numB_1 (x := S) (by omega)
  have a2 := numB_2 (x := P) (by omega)
  show 1 + (numB S.toNat ++ (numB P.toNat ++ ⟨#[]⟩)).size <= 9
  rw [ByteArray.size_append, ByteArray.size_append, h00]
  omega
 ·obtain ⟨rfl, h⟩ := h
  have a1 := numB_2 (x := A) (by omega)
  have a2 := numB_2 (x := T) (by omega)
  show 1 + (numB A.toNat ++ (numB T.toNat ++ ⟨#[]⟩)).size <= 9
  rw [ByteArray.size_append, ByteArray.size_append, h00]
  omega
 ·obtain ⟨rfl, h⟩ := h
  have a1 := numB_1 (x := S) (by omega)
  have a2 := numB_2 (x := N) (by omega)
  show 1 + (numB S.toNat ++ (numB N.toNat ++ ⟨#[]⟩)).size <= 9
  rw [ByteArray.size_append, ByteArray.size_append, h00]
  omega
 ·obtain ⟨rfl, h⟩ := h
  have a1 := numB_1 (x := S) (by omega)
  show 1 + (numB S.toNat ++ ⟨#[]⟩).size <= 9
  rw [ByteArray.size_append, h00]
  omega
 ·obtain ⟨rfl, h⟩ := h
  have a1 := numB_1 (x := S) (by omega)
  have a2 := numB_2 (x := T) (by omega)
  show 1 + (numB S.toNat ++ (numB T.toNat ++ ⟨#[]⟩)).size <= 9
  rw [ByteArray.size_append, ByteArray.size_append, h00]
  omega
 ·obtain ⟨rfl, h⟩ := h
  have a1 := numB_1 (x := S) (by omega)
  show 1 + (numB S.toNat ++ ⟨#[]⟩).size <= 9
  rw [ByteArray.size_append, h00]
  omega
 ·obtain ⟨rfl, h⟩ := h
  have a1 := numB_1 (x := A) (by omega)
  show 1 + (numB A.toNat ++ ⟨#[]⟩).size <= 9
  rw [ByteArray.size_append, h00]
  omega
 ·obtain ⟨rfl, h⟩ := h
  have a1 := numB_1 (x := A) (by omega)
  have a2 := numB_4 (x := N) (by omega)
  show 1 + (numB A.toNat ++ (numB N.toNat ++ ⟨#[]⟩)).size <= 9
  rw [ByteArray.size_append, ByteArray.size_append, h00]
  omega
def packGo (n : Int) : List ByteArray -> List ByteArray -> ByteArray -> List ByteArray
 | [], ts, t => ts ++ [t]
 | s :: l, ts, t => if 0 < t.size /\ n < (t.size + s.size : Nat) then packGo n l (ts ++ [t]) s else packGo n l ts (t ++ s)
theorem packGo_len (n : Int) (l ts : List ByteArray) (t : ByteArray) : ts.length + 1 <= (packGo n l ts t).length /\ (packGo n l ts t).length <= ts.length + l.length + 1 := by
 induction l generalizing ts t with
 | nil => rw [packGo]; simp
 | cons s l ih =>
  rw [packGo]
  split
  ·have := ih (ts ++ [t]) s
   simp only [List.length_append, List.length_cons, List.length_nil] at this |-
   omega
  ·have := ih ts (t ++ s)
   simp only [List.length_cons] at this |-
   omega
set_option maxRecDepth 100000
theorem empty_of_size {T : ByteArray} (h : T.size = 0) : T = ⟨#[]⟩ := by
 apply ByteArray.ext
 exact Array.eq_empty_of_size_eq_zero h
theorem putMay_any {K S P A T N : Int} (hm : mayB K S P A T N = true) (w : World) : Calls Tryz.prog 200 #[rv K S P A T N] w fun e w' => e = .returned (.string (putB K [K, S, P, A, T, N])) /\ Below w.heap.size w w' := by
 have q := put_any K S P A T N w
 rw [if_pos hm] at q
 exact q
structure Pk (w : World) (v5 v6 : Value) (ts : List ByteArray) (t : ByteArray) (wr : World) : Prop where
 tx : wr.ownsRow w.heap.size 9 1 v5 ts.length (ts.map Value.string)
 bt : wr.ownsRow w.heap.size 5 1 v6 t.size (Go.Lib.strCells t)
 below : Below w.heap.size w wr
theorem owns_call {B e size v n xs} {wr w2 : World} (h : wr.ownsRow B e size v n xs) (b : Below wr.heap.size wr w2) : w2.ownsRow B e size v n xs :=
 h.kept (row := none) ⟨b.os, b.tape, b.output, b.size, fun j hj _ => b.block j hj⟩ (by cases hv : v.ownBlock <;> simp)
theorem owns_ne {B e1 e2 s1 s2 v1 v2 n1 n2 x1 x2} {w : World} (h1 : w.ownsRow B e1 s1 v1 n1 x1) (h2 : w.ownsRow B e2 s2 v2 n2 x2) (hne : e1 ≠ e2) : v1.ownBlock = none \/ v1.ownBlock ≠ v2.ownBlock := by
 rcases h1.2 with ⟨rfl, _⟩ | ⟨g1, c1, a1, rfl, _, hg1, _⟩
 ·exact .inl rfl
 ·right
  rcases h2.2 with ⟨rfl, _⟩ | ⟨g2, c2, a2, rfl, _, hg2, _⟩
  ·intro q
   cases q
  ·intro q
   obtain rfl : g1 = g2 := by simpa [Value.ownBlock] using q
   rw [hg1] at hg2
   simp at hg2
   exact hne hg2.2
theorem owns_form {B e size v n xs} {w : World} (h : w.ownsRow B e size v n xs) : ∃ a c, v = .slice a n c := by
 rcases h.2 with ⟨rfl, rfl⟩ | ⟨g, cap, cur, rfl, _⟩
 ·exact ⟨none, 0, rfl⟩
 ·exact ⟨_, cap, rfl⟩
theorem owns_form1 {B e size v n xs} {w : World} (h : w.ownsRow B e size v n xs) (hn : 0 < n) : ∃ g c, v = .slice (some ⟨g, 0, none⟩) n c /\ n <= c := by
 rcases h.2 with ⟨rfl, rfl⟩ | ⟨g, cap, cur, rfl, _, _, h1, _⟩
 ·omega
 ·exact ⟨g, cap, rfl, h1⟩
theorem Pk.call {w v5 v6 ts t wr w2} (h : Pk w v5 v6 ts t wr) (b : Below wr.heap.size wr w2) : Pk w v5 v6 ts t w2 := ⟨owns_call h.tx b, owns_call h.bt b, below3 h.below b⟩
theorem Pk.nil (w : World) : Pk w (.slice none 0 0) (.slice none 0 0) [] ⟨#[]⟩ w := ⟨World.ownsRow_nil _ _ _ _, World.ownsRow_nil _ _ _ _, Below.refl _ _⟩
theorem owns_string {B v} {t : ByteArray} {w : World} (h : w.ownsRow B 5 1 v t.size (Go.Lib.strCells t)) : (convert 257 9 v).run Tryz.prog w = .ok (.string t) w := by
 rcases h.2 with ⟨rfl, h0⟩ | ⟨g, cap, cur, rfl, _, hg, h1, _⟩
 ·rw [empty_of_size h0]
  exact run_convert_bytes_nil w 257 5 Tryz.underlying257 Tryz.underlying5 0 0 9 Tryz.underlying9
 ·have hb : HasBytes w g t.data.toList := by
   intro j hj
   have hj2 : j < t.size := by simpa using hj
   refine ⟨?_, frozen_of_row w g j cur 5 hg⟩
   have ea : (⟨g, 0, none⟩ : Addr).add j = ⟨g, j, none⟩ := by unfold Addr.add; split <;> simp_all
   rw [<- ea]
   refine h.cells rfl j _ ?_
   have hj3 : j < t.data.size := hj2
   simp [Go.Lib.strCells, List.getD_eq_getElem?_getD]
   exact ⟨t.data[j], Array.getElem?_eq_getElem hj3, by rw [Array.getElem?_eq_getElem hj3]; rfl⟩
  have := hb.back (P := Tryz.prog) 257 9 5 t.size cap (by simp) Tryz.underlying257 Tryz.underlying5 Tryz.underlying9
  simpa using this
theorem strCells_append (t B : ByteArray) : Go.Lib.strCells (t ++ B) = Go.Lib.strCells t ++ Go.Lib.strCells B := by simp [Go.Lib.strCells]
theorem owns_zero {B e size g n c xs} {w : World} (h : w.ownsRow B e size (.slice (some ⟨g, 0, none⟩) n c) n xs) : w.ownsRow B e size (.slice (some ⟨g, 0, none⟩) 0 c) 0 [] := by
 rcases h.2 with ⟨q, _⟩ | ⟨g2, cap, cur, q, h1, h2, h3, h4, h5, h6⟩
 ·cases q
 ·obtain ⟨rfl, rfl⟩ : g = g2 /\ c = cap := by simpa using q
  exact ⟨by simp, .inr ⟨g, c, cur, rfl, h1, h2, Nat.zero_le _, h4, h5, by simp⟩⟩
theorem string_one (w : World) (t : ByteArray) : ∀ j u, ([t].map Value.string)[j]? = some u -> (w.alloc (.cells #[.string t] 9)).cell? ((⟨w.heap.size, 0, none⟩ : Addr).add j) = some u := by
 intro j u hu
 have ea : (⟨w.heap.size, 0, none⟩ : Addr).add j = ⟨w.heap.size, j, none⟩ := by unfold Addr.add; split <;> simp_all
 rw [ea, cell_of_row _ _ j _ 9 _ (heap_alloc_new w _), <- hu]
 simp
theorem strings_one (l : List ByteArray) : ∀ u ∈ l.map Value.string, u.oneCell' = true := by
 intro u hu
 simp only [List.mem_map] at hu
 obtain ⟨x, _, rfl⟩ := hu
 rfl
theorem Pk.more {w v5 v6 ts t wr w3 v2} (h : Pk w v5 v6 ts t wr) (o : Obj) (s : ByteArray) (hown : w3.ownsRow w.heap.size 9 1 v2 (ts.length + 1) (ts.map Value.string ++ [s].map Value.string)) (hg : (wr.alloc o).grownBy w3 v5.ownBlock) : Pk w v2 v6 (ts ++ [s]) t w3 := by
 refine ⟨?_, (h.bt.alloc o).kept hg (owns_ne h.bt h.tx (by decide)), ?_⟩
 ·rw [List.map_append, List.length_append]
  exact hown
 ·exact (h.below.alloc h.below.size o).grown hg (h.below.alloc h.below.size o).size (fun k hk => ((h.tx.alloc o).lt k hk).1)
theorem Pk.fill {w v5 v6 ts t wr w3 v2} (h : Pk w v5 v6 ts t wr) (s : ByteArray) (hown : w3.ownsRow w.heap.size 5 1 v2 (t.size + s.size) (Go.Lib.strCells t ++ Go.Lib.strCells s)) (hg : wr.grownBy w3 v6.ownBlock) : Pk w v5 v2 ts (t ++ s) w3 := by
 refine ⟨h.tx.kept hg (owns_ne h.tx h.bt (by decide)), ?_, h.below.grown hg h.below.size (fun k hk => (h.bt.lt k hk).1)⟩
 rw [strCells_append, ByteArray.size_append]
 exact hown
theorem Pk.clear {w v5 g c ts t wr} (h : Pk w v5 (.slice (some ⟨g, 0, none⟩) t.size c) ts t wr) : Pk w v5 (.slice (some ⟨g, 0, none⟩) 0 c) ts ⟨#[]⟩ wr := ⟨h.tx, owns_zero h.bt, h.below⟩
theorem empty_append (s : ByteArray) : (⟨#[]⟩ : ByteArray) ++ s = s := by apply ByteArray.ext; simp
theorem not_empty {B : ByteArray} (h : 1 <= B.size) : B.toList.isEmpty = false := by
 rw [ByteArray.toList_eq]
 have h2 : B.data.toList.length = B.size := by simp
 cases hl : B.data.toList with
 | nil => rw [hl] at h2; simp at h2; omega
 | cons _ _ => rfl
theorem info9z : ∃ i z, Tryz.prog.info? 9 = some i /\ i.zero = some z /\ i.size = 1 /\ i.bytes = 16 /\ z.cells.size = 1 := ⟨_, _, rfl, rfl, rfl, rfl, rfl⟩
theorem info5z : ∃ i, Tryz.prog.info? 5 = some i /\ i.zero = some (.int .u8 0) /\ i.size = 1 /\ i.bytes = 1 := ⟨_, rfl, rfl, rfl, rfl⟩
set_option maxRecDepth 20000 in
set_option maxHeartbeats 2000000 in
theorem pack_any (a : Option Addr) (cap : Nat) (n : Int) (rs : List R6) (w : World) (hx : RecsF w a rs.length (fun i => rs.getD i (0, 0, 0, 0, 0, 0))) (hm : ∀ r ∈ rs, R6.may r = true) (h100 : rs.length <= 20000) : Calls Tryz.prog 163 #[.slice a rs.length cap, .int .i64 n] w fun e w' =>
  ∃ v, e = .returned v /\ w'.ownsRow w.heap.size 9 1 v (packGo n (rs.map R6.put) [] ⟨#[]⟩).length ((packGo n (rs.map R6.put) [] ⟨#[]⟩).map Value.string) /\ Below w.heap.size w w' := by
 have HX := Hid.mk (And.intro hx hm)
 clear hx hm
 obtain ⟨RES, hRES⟩ : ∃ R, packGo n (rs.map R6.put) [] ⟨#[]⟩ = R := ⟨_, rfl⟩
 rw [hRES]
 replace hRES := Hid.mk hRES
 generalize hn : rs.length = len at *
 replace hn := Hid.mk hn
 go_enter Tryz.func163, Tryz.ntmps163
 go_upto_region 4 with fail
 go_loopw [5, 6, 12] (fun v5 v6 i wr => ∃ (k : Nat) (ts : List ByteArray) (t : ByteArray), k <= len /\ ts.length <= k /\ t.size <= 9 * k /\ i = .int .i64 k /\ Pk w v5 v6 ts t wr /\ packGo n ((rs.drop k).map R6.put) ts t = RES) (fun _ _ i _ => len - (intOf i).toNat)
 case atStart => exact ⟨0, [], ⟨#[]⟩, Nat.zero_le _, Nat.zero_le _, Nat.zero_le _, rfl, Pk.nil w, hRES.out⟩
 case round =>
  clear hRES
  obtain ⟨k, ts, t, hk, htk, htz, rfl, hs, hpk⟩ := hrel
  by_cases hlt : k < len
  ·have hltl : k < rs.length := by rw [hn.out]; exact hlt
   obtain ⟨g, o, rfl, hg, c0, c1, c2, c3, c4, c5⟩ := HX.out.1.below hs.below k (by first | exact hltl | exact hlt)
   dsimp only at c0 c1 c2 c3 c4 c5
   have hmay := HX.out.2 (rs.getD k (0, 0, 0, 0, 0, 0)) (by simp [List.getD_eq_getElem?_getD, hltl])
   have hdr : rs.drop k = rs.getD k (0, 0, 0, 0, 0, 0) :: rs.drop (k + 1) := by rw [List.drop_eq_getElem_cons hltl]; simp [List.getD_eq_getElem?_getD, hltl]
   rw [hdr, List.map_cons, packGo] at hpk
   clear hdr
   generalize hr : rs.getD k (0, 0, 0, 0, 0, 0) = r at *
   obtain ⟨K, S, P, A, T, N⟩ := r
   simp only at c0 c1 c2 c3 c4 c5
   have hps := put6_le _ hmay
   have hput := fun w => putMay_any hmay w
   generalize hPB : R6.put (K, S, P, A, T, N) = B at *
   have hPB2 : putB K [K, S, P, A, T, N] = B := hPB
   rw [hPB2] at hput
   have HS := Hid.mk (And.intro hs (And.intro hpk hput))
   clear hs hpk hput hPB hPB2 hr hmay hltl
   obtain ⟨hp1, hp9⟩ := hps
   have hBe : ¬ B = ByteArray.empty := fun q => by rw [q] at hp1; simp at hp1
   go_upto_region 7 with (go_at_call 200; refine (HS.out.2.2 _).mono ?_; rintro e w1 ⟨rfl, b1⟩)
   have p1 := (HS.out.1.call (below_one wr _)).call b1
   have p2 := HS.out.2.1
   clear b1 HS hg c0 c1 c2 c3 c4 c5 hBe
   have hBe : B.toList.isEmpty = false := not_empty hp1
   obtain ⟨i9, z9, q1, q2, q3, q4, q5⟩ := info9z
   have H9 := Hid.mk (And.intro q1 (And.intro q2 (And.intro q3 (And.intro q4 q5))))
   clear q1 q2 q3 q4 q5
   obtain ⟨i5, q1, q2, q3, q4⟩ := info5z
   have H5 := Hid.mk (And.intro q1 (And.intro q2 (And.intro q3 q4)))
   clear q1 q2 q3 q4
   rw [show ((t.size + B.size : Nat) : Int) = (t.size : Int) + B.size by omega] at p2
   by_cases hc : 0 < t.size /\ n < (t.size : Int) + B.size
   ·rw [if_pos hc] at p2
    obtain ⟨hc1, hc2⟩ := hc
    obtain ⟨a5, c5, rfl⟩ := owns_form p1.tx
    obtain ⟨g6, c6, rfl, hc6⟩ := owns_form1 p1.bt hc1
    have hcv := owns_string p1.bt
    have HS := Hid.mk (And.intro p1 p2)
    clear p1 p2
    go_upto_region 10 with (first
     | (at_builtin; refine wpList_append_own _ rfl (.tmp 32) (.tmp 35) 76 rfl w.heap.size 9 i9 z9 1 16 Tryz.underlying76 H9.out.1 H9.out.2.1 H9.out.2.2.1 H9.out.2.2.2.1 H9.out.2.2.2.2 (by decide) (.slice a5 ts.length c5) ts.length (ts.map Value.string) rfl (HS.out.1.tx.alloc _) ⟨w1.heap.size, 0, none⟩ 1 1 ([t].map Value.string) rfl rfl (string_one w1 t) (strings_one _) (by simp [maxLen]; omega) (by omega) (Nat.le_trans HS.out.1.below.size (by rw [size_alloc]; omega)) ?_; intro v2 w3 hown hgrow _))
    have p1 := (HS.out.1.more _ _ hown hgrow).clear
    have p2 := HS.out.2
    clear HS hown hgrow hcv
    have HS := Hid.mk (And.intro p1 p2)
    clear p1 p2
    go_wp2_with (first
     | (at_builtin; refine Go.Lib.wpList_append_own_string _ rfl (.tmp 39) (.tmp 40) 257 9 rfl w.heap.size 5 i5 Tryz.underlying257 Tryz.underlying9 H5.out.1 H5.out.2.1 H5.out.2.2.1 H5.out.2.2.2 (.slice (some ⟨g6, 0, none⟩) 0 c6) 0 [] rfl HS.out.1.bt B rfl (by simp [maxLen]; omega) (by omega) HS.out.1.below.size ?_; intro v4 w4 hown hgrow _))
    have p1 := HS.out.1.fill B hown hgrow
    rw [empty_append] at p1
    exact ⟨⟨k + 1, ts ++ [t], B, by omega, by rw [List.length_append, List.length_singleton]; omega, by omega, by go_num, p1, HS.out.2⟩, by simp [intOf]; omega⟩
   ·rw [if_neg hc] at p2
    obtain ⟨a6, c6, rfl⟩ := owns_form p1.bt
    have HS := Hid.mk (And.intro p1 p2)
    clear p1 p2
    have hc2 : ¬ 0 < t.size \/ (0 < t.size /\ ¬ n < (t.size : Int) + B.size) := by omega
    clear hc
    rcases hc2 with hc2 | ⟨hc1, hc2⟩
    all_goals
     go_wp2_with (first
      | (at_builtin; refine Go.Lib.wpList_append_own_string _ rfl (.tmp 39) (.tmp 40) 257 9 rfl w.heap.size 5 i5 Tryz.underlying257 Tryz.underlying9 H5.out.1 H5.out.2.1 H5.out.2.2.1 H5.out.2.2.2 (.slice a6 t.size c6) t.size (Go.Lib.strCells t) rfl HS.out.1.bt B rfl (by simp [maxLen]; omega) (by omega) HS.out.1.below.size ?_; intro v4 w4 hown hgrow _))
     have p1 := HS.out.1.fill B hown hgrow
     exact ⟨⟨k + 1, ts, t ++ B, by omega, by omega, by rw [ByteArray.size_append]; omega, by go_num, p1, HS.out.2⟩, by simp [intOf]; omega⟩
  ·obtain rfl : k = len := by omega
   have hq := hpk
   rw [<- hn.out, List.drop_length, List.map_nil, packGo] at hq
   obtain ⟨a5, c5, rfl⟩ := owns_form hs.tx
   obtain ⟨a6, c6, rfl⟩ := owns_form hs.bt
   have hcv := owns_string hs.bt
   have HS := Hid.mk (And.intro hs hq)
   clear hs hq hpk
   obtain ⟨i9, z9, q1, q2, q3, q4, q5⟩ := info9z
   have H9 := Hid.mk (And.intro q1 (And.intro q2 (And.intro q3 (And.intro q4 q5))))
   clear q1 q2 q3 q4 q5
   go_wp2_with (first
     | (at_builtin; refine wpList_append_own _ rfl (.tmp 43) (.tmp 46) 76 rfl w.heap.size 9 i9 z9 1 16 Tryz.underlying76 H9.out.1 H9.out.2.1 H9.out.2.2.1 H9.out.2.2.2.1 H9.out.2.2.2.2 (by decide) (.slice a5 ts.length c5) ts.length (ts.map Value.string) rfl (HS.out.1.tx.alloc _) ⟨wr.heap.size, 0, none⟩ 1 1 ([t].map Value.string) rfl rfl (string_one wr t) (strings_one _) (by simp [maxLen]; omega) (by omega) (Nat.le_trans HS.out.1.below.size (by rw [size_alloc]; omega)) ?_; intro v2 w3 hown hgrow _))
   have p1 := HS.out.1.more _ _ hown hgrow
   go_ret
   exact ⟨_, rfl, by rw [<- HS.out.2]; exact p1.tx, p1.below⟩
set_option maxRecDepth 100000
end Go.Proofs.YtcmmhfjnhlaepabGreatDoor.Gp
namespace Go.Proofs.YtcmmhfjnhlaepabGreatDoor.Gp
open Go Go.RowKit Pg
theorem rF_byte_app (b : UInt8) (t : ByteArray) : rF (⟨#[b]⟩ ++ t) 0 1 = (t, 0, b.toNat) := by
 unfold rF
 rw [rB_app ⟨#[b]⟩ t (wid 1) rfl]
 simp [leL]
theorem rF_digs_app (n : Nat) (t : ByteArray) (h : n < 18446744073709551616) : rF (⟨(digs n).toArray⟩ ++ t) 0 (nb n) = (t, 0, n) := by
 unfold rF
 have h8 := nb_le8 n h
 have hw : wid (nb n : Int) = (nb n : Int) := by unfold wid; rw [if_neg (by omega), if_neg (by omega)]
 rw [hw, rB_app ⟨(digs n).toArray⟩ t (nb n) (by
  show (nb n : Int) = (((digs n).toArray.size : Nat) : Int)
  rw [List.size_toArray, digs_length])]
 simp only [leL_digs]
theorem numB_split (n : Nat) (t : ByteArray) : numB n ++ t = ⟨#[UInt8.ofNat (nb n)]⟩ ++ (⟨(digs n).toArray⟩ ++ t) := by
 unfold numB numL
 apply ByteArray.ext
 rw [ByteArray.data_append, ByteArray.data_append, ByteArray.data_append, <- Array.append_assoc]
 simp
theorem rN_app (n : Nat) (t : ByteArray) (most : Int) (h : n < 18446744073709551616) :
  rN (numB n ++ t) 0 most = if most < n then (⟨#[]⟩, 5, 0) else (t, 0, n) := by
 have h8 := nb_le8 n h
 have hb : (UInt8.ofNat (nb n)).toNat = nb n := by rw [UInt8.toNat_ofNat']; omega
 unfold rN
 rw [numB_split, rF_byte_app]
 simp only [hb]
 rw [rF_digs_app n t h, if_neg (by omega), if_neg (by simp)]
 have hn : ¬ (0 < nb n /\ n < 256 ^ (nb n - 1)) := by
  intro hh
  by_cases h0 : n = 0
  ·subst h0
   rw [nb_zero] at hh
   omega
  ·have := nb_ge n h0
   omega
 rw [if_neg hn]
theorem num_any {w : World} {g s e} (h : Rd w g s e) (most : Int) : Calls Tryz.prog 206 #[.pointer (some ⟨g, 0, none⟩), .int .u64 most] w fun x w' =>
  x = .returned (.int .u64 (rN s e most).2.2) /\ Rd w' g (rN s e most).1 (rN s e most).2.1 /\ w.grownBy w' (some g) := by
 have hc := rF_byte s e
 have HH := Hid.mk (And.intro h (grown_refl w (some g)))
 clear h
 unfold rN
 generalize hq1 : rF s e 1 = q1 at *
 obtain ⟨s1, e1, c⟩ := q1
 simp only at hc |-
 by_cases h8 : 8 < c
 ·rw [if_pos h8]
  generalize hq2 : rF ⟨#[]⟩ 3 c = q2
  have hq3 : q2 = (⟨#[]⟩, 3, 0) := by
   rw [<- hq2]
   unfold rF rB
   rw [if_pos (by decide)]
   rfl
  rw [hq3] at hq2
  go_enter Tryz.func206, Tryz.ntmps206
  go_wp2_with (first
   | (go_at_call 180; refine (fixedF_any HH.out.1 _).mono ?_; rintro x w1 ⟨rfl, r1, g1⟩; (first | rw [hq1] at r1 |- | rw [hq2] at r1 |-); replace HH := Hid.mk (And.intro r1 (grown_trans HH.out.2 g1)); clear r1 g1)
   | (go_at_call 207; refine (err_any HH.out.1).mono ?_; rintro x w' ⟨rfl, rfl⟩)
   | (go_at_call 228; refine (fail_any HH.out.1 _).mono ?_; rintro x w1 ⟨rfl, r1, g1⟩; replace HH := Hid.mk (And.intro r1 (grown_trans HH.out.2 g1)); clear r1 g1))
  go_ret
  exact ⟨rfl, HH.out⟩
 ·rw [if_neg h8]
  have hn := rF_lt s1 e1 c
  generalize hq2 : rF s1 e1 c = q2 at *
  obtain ⟨s2, e2, n⟩ := q2
  simp only at hn |-
  by_cases he : e2 = 0
  ·subst he
   rw [if_neg (by decide)]
   by_cases hc0 : 0 < c
   ·have hsh := shifted n (c - 1)
    by_cases hz : n < 256 ^ (c - 1)
    ·rw [if_pos ⟨hc0, hz⟩]
     rw [decide_eq_true hz] at hsh
     go_enter Tryz.func206, Tryz.ntmps206
     go_wp2_with (first
   | (go_at_call 180; refine (fixedF_any HH.out.1 _).mono ?_; rintro x w1 ⟨rfl, r1, g1⟩; (first | rw [hq1] at r1 |- | rw [hq2] at r1 |-); replace HH := Hid.mk (And.intro r1 (grown_trans HH.out.2 g1)); clear r1 g1)
   | (go_at_call 207; refine (err_any HH.out.1).mono ?_; rintro x w' ⟨rfl, rfl⟩)
   | (go_at_call 228; refine (fail_any HH.out.1 _).mono ?_; rintro x w1 ⟨rfl, r1, g1⟩; replace HH := Hid.mk (And.intro r1 (grown_trans HH.out.2 g1)); clear r1 g1))
     go_ret
     exact ⟨rfl, HH.out⟩
    ·rw [if_neg (fun hh => hz hh.2)]
     rw [decide_eq_false hz] at hsh
     by_cases hm : most < n
     ·rw [if_pos hm]
      go_enter Tryz.func206, Tryz.ntmps206
      go_wp2_with (first
   | (go_at_call 180; refine (fixedF_any HH.out.1 _).mono ?_; rintro x w1 ⟨rfl, r1, g1⟩; (first | rw [hq1] at r1 |- | rw [hq2] at r1 |-); replace HH := Hid.mk (And.intro r1 (grown_trans HH.out.2 g1)); clear r1 g1)
   | (go_at_call 207; refine (err_any HH.out.1).mono ?_; rintro x w' ⟨rfl, rfl⟩)
   | (go_at_call 228; refine (fail_any HH.out.1 _).mono ?_; rintro x w1 ⟨rfl, r1, g1⟩; replace HH := Hid.mk (And.intro r1 (grown_trans HH.out.2 g1)); clear r1 g1))
      go_ret
      exact ⟨rfl, HH.out⟩
     ·rw [if_neg hm]
      go_enter Tryz.func206, Tryz.ntmps206
      go_wp2_with (first
   | (go_at_call 180; refine (fixedF_any HH.out.1 _).mono ?_; rintro x w1 ⟨rfl, r1, g1⟩; (first | rw [hq1] at r1 |- | rw [hq2] at r1 |-); replace HH := Hid.mk (And.intro r1 (grown_trans HH.out.2 g1)); clear r1 g1)
   | (go_at_call 207; refine (err_any HH.out.1).mono ?_; rintro x w' ⟨rfl, rfl⟩)
   | (go_at_call 228; refine (fail_any HH.out.1 _).mono ?_; rintro x w1 ⟨rfl, r1, g1⟩; replace HH := Hid.mk (And.intro r1 (grown_trans HH.out.2 g1)); clear r1 g1))
      go_ret
      exact ⟨rfl, HH.out⟩
   ·rw [if_neg (fun hh => hc0 hh.1)]
    by_cases hm : most < n
    ·rw [if_pos hm]
     go_enter Tryz.func206, Tryz.ntmps206
     go_wp2_with (first
   | (go_at_call 180; refine (fixedF_any HH.out.1 _).mono ?_; rintro x w1 ⟨rfl, r1, g1⟩; (first | rw [hq1] at r1 |- | rw [hq2] at r1 |-); replace HH := Hid.mk (And.intro r1 (grown_trans HH.out.2 g1)); clear r1 g1)
   | (go_at_call 207; refine (err_any HH.out.1).mono ?_; rintro x w' ⟨rfl, rfl⟩)
   | (go_at_call 228; refine (fail_any HH.out.1 _).mono ?_; rintro x w1 ⟨rfl, r1, g1⟩; replace HH := Hid.mk (And.intro r1 (grown_trans HH.out.2 g1)); clear r1 g1))
     go_ret
     exact ⟨rfl, HH.out⟩
    ·rw [if_neg hm]
     go_enter Tryz.func206, Tryz.ntmps206
     go_wp2_with (first
   | (go_at_call 180; refine (fixedF_any HH.out.1 _).mono ?_; rintro x w1 ⟨rfl, r1, g1⟩; (first | rw [hq1] at r1 |- | rw [hq2] at r1 |-); replace HH := Hid.mk (And.intro r1 (grown_trans HH.out.2 g1)); clear r1 g1)
   | (go_at_call 207; refine (err_any HH.out.1).mono ?_; rintro x w' ⟨rfl, rfl⟩)
   | (go_at_call 228; refine (fail_any HH.out.1 _).mono ?_; rintro x w1 ⟨rfl, r1, g1⟩; replace HH := Hid.mk (And.intro r1 (grown_trans HH.out.2 g1)); clear r1 g1))
     go_ret
     exact ⟨rfl, HH.out⟩
  ·rw [if_pos he]
   go_enter Tryz.func206, Tryz.ntmps206
   go_wp2_with (first
   | (go_at_call 180; refine (fixedF_any HH.out.1 _).mono ?_; rintro x w1 ⟨rfl, r1, g1⟩; (first | rw [hq1] at r1 |- | rw [hq2] at r1 |-); replace HH := Hid.mk (And.intro r1 (grown_trans HH.out.2 g1)); clear r1 g1)
   | (go_at_call 207; refine (err_any HH.out.1).mono ?_; rintro x w' ⟨rfl, rfl⟩)
   | (go_at_call 228; refine (fail_any HH.out.1 _).mono ?_; rintro x w1 ⟨rfl, r1, g1⟩; replace HH := Hid.mk (And.intro r1 (grown_trans HH.out.2 g1)); clear r1 g1))
   go_ret
   exact ⟨rfl, HH.out⟩
theorem left_any {w : World} {g s e} (h : Rd w g s e) : Calls Tryz.prog 173 #[.pointer (some ⟨g, 0, none⟩)] w fun x w' => x = .returned (.int .i64 s.size) /\ w' = w := by
 have c1 := h.rest
 have HH := Hid.mk h
 clear h
 go_enter Tryz.func173, Tryz.ntmps173
 go_wp2
 go_ret
 exact ⟨rfl, rfl⟩
end Go.Proofs.YtcmmhfjnhlaepabGreatDoor.Gp
namespace Go.Proofs.YtcmmhfjnhlaepabGreatDoor.Gp
open Go Go.RowKit Pg
def tkGo : List Fl -> ByteArray -> Int -> ByteArray × Int × List Int
 | [], s, e => (s, e, [])
 | f :: fs, s, e => ((tkGo fs (rN s e f.2.2).1 (rN s e f.2.2).2.1).1, (tkGo fs (rN s e f.2.2).1 (rN s e f.2.2).2.1).2.1, ((rN s e f.2.2).2.2 : Int) :: (tkGo fs (rN s e f.2.2).1 (rN s e f.2.2).2.1).2.2)
def tkQ (s : ByteArray) (e : Int) : ByteArray × Int × List Int := tkGo (flds (rF s e 1).2.2) (rF s e 1).1 (rF s e 1).2.1
def tkL (s : ByteArray) (e : Int) : List Int := laySet (flds (rF s e 1).2.2) (tkQ s e).2.2 [((rF s e 1).2.2 : Int), 0, 0, 0, 0, 0]
def tkE (s : ByteArray) (e : Int) : Int := if (tkQ s e).2.1 ≠ 0 then (tkQ s e).2.1 else if chkL ((tkL s e).getD 0 0) (tkL s e) then 0 else 3
def tkR (s : ByteArray) (e : Int) : List Int := if tkE s e = 0 then tkL s e else [0, 0, 0, 0, 0, 0]
theorem grown_setNew {a b : World} {g : Option Nat} (h : a.grownBy b g) {p : Addr} (hp : a.heap.size <= p.block) (v : Value) : a.grownBy (b.setCell p v) g :=
 ⟨h.os, h.tape, h.output, Nat.le_trans h.size (by simp [World.setCell]), fun i hi hne => (heap_setCell_other b p i v (by omega)).trans (h.block i hi hne)⟩
theorem _root_.Go.Proofs.YtcmmhfjnhlaepabGreatDoor.Row.kept {w w' : World} {g g0 t k l} (h : Row w g t k l) (b : w.grownBy w' (some g0)) (hne : g ≠ g0) : Row w' g t k l := (b.block g h.lt (by simpa using hne)).trans h
theorem rec_result2 {fn : Func} {p u : Tmp} (h : fn.results = #[.cell p 47, .tmp u]) {tmps : Array Value} {w : World} {g : Nat} {l : List Int} (hp : tmps.getD p undef = .pointer (some ⟨g, 0, none⟩)) (hs : l.length = 6) (hg : Row w g 47 .i64 l) :
  (results fn tmps).run Tryz.prog w = .ok (.tuple #[rvL l, tmps.getD u undef]) w := by
 rw [results_cell_tmp h, hp]
 have q := run_loadVar_row (P := Tryz.prog) w g 47 47 (cellsOf .i64 l) (0, 0) _ hg Tryz.underlying47 rfl (by rw [cellsOf_size, hs]; exact info47)
 simp only [asAddr, Sem.run_pure, Result.andThen, q]
 rfl
structure TkS (w : World) (g R Z : Nat) (a : Option Addr) (fs : List Fl) (q : ByteArray × Int) (L : List Int) (k : Nat) (s : ByteArray) (e : Int) (l : List Int) (wr : World) : Prop where
 len : l.length = 6
 rd : Rd wr g s e
 row : Row wr R 47 .i64 l
 zero : Row wr Z 47 .i64 [0, 0, 0, 0, 0, 0]
 nums : NumsAt wr (R + 1) R a fs
 rest : ((tkGo (fs.drop k) s e).1, (tkGo (fs.drop k) s e).2.1) = q
 lay : laySet (fs.drop k) (tkGo (fs.drop k) s e).2.2 l = L
 grown : w.grownBy wr (some g)
 ords : g < w.heap.size /\ w.heap.size <= Z /\ Z < R
theorem TkS.alloc {w : World} {g R Z a fs q L k s e l wr} (h : TkS w g R Z a fs q L k s e l wr) (o : Obj) : TkS w g R Z a fs q L k s e l (wr.alloc o) :=
 { h with rd := h.rd.alloc o, row := h.row.alloc o, zero := h.zero.alloc o, nums := h.nums.alloc o, grown := grown_alloc h.grown o }
theorem TkS.after {w : World} {g R Z a fs q L k s e l W2} (h : TkS w g R Z a fs q L k s e l W2) {G : Nat} {x y z : Value} (ph : W2.heap[G]? = some (.cells #[x, y, z] 206 (0, 0))) (hG : g < G) {w5 : World} (g5 : W2.drew.grownBy w5 (some g)) (o : Nat) (ho : o <= 5) :
  w5.cell? ⟨G, 0, none⟩ = some x /\ w5.cell? ⟨R, o, none⟩ = some (.int .i64 (l.getD o 0)) /\ w5.frozen? ⟨R, o, none⟩ = false := by
 have h1 : w5.heap[G]? = some (.cells #[x, y, z] 206 (0, 0)) := (g5.block G (Array.getElem?_eq_some_iff.1 ph).1 (by simp; omega)).trans ph
 have h2 : Row w5 R 47 .i64 l := h.row.drew.kept g5 (by have := h.ords; omega)
 exact ⟨(three_cells h1).1, h2.cell o (by rw [h.len]; omega), h2.frozen o⟩
theorem TkS.next {w : World} {g R Z a fs q L k s e l W2} (h : TkS w g R Z a fs q L k s e l W2) {w5 : World} (g5 : W2.drew.grownBy w5 (some g)) {s2 : ByteArray} {e2 : Int} (r5 : Rd w5 g s2 e2) (o : Nat) (m : Int)
  (hrest : ((tkGo (fs.drop (k + 1)) s2 e2).1, (tkGo (fs.drop (k + 1)) s2 e2).2.1) = q) (hlay : laySet (fs.drop (k + 1)) (tkGo (fs.drop (k + 1)) s2 e2).2.2 (l.set o m) = L) :
  TkS w g R Z a fs q L (k + 1) s2 e2 (l.set o m) (w5.setCell ⟨R, o, none⟩ (.int .i64 m)) := by
 have hR : Row w5 R 47 .i64 l := h.row.drew.kept g5 (by have := h.ords; omega)
 have hZ : Row w5 Z 47 .i64 [0, 0, 0, 0, 0, 0] := h.zero.drew.kept g5 (by have := h.ords; omega)
 exact { len := by rw [List.length_set]; exact h.len
         rd := r5.other (by show R ≠ g; have := h.ords; omega) _
         row := hR.stored o m
         zero := hZ.other (by show R ≠ Z; have := h.ords; omega) _
         nums := (h.nums.drew.kept g5 (by have := h.ords; omega)).set (by show R < R + 1; omega) _
         rest := hrest
         lay := hlay
         grown := grown_setNew (grown_trans (grown_drewN h.grown 1) g5) (by show w.heap.size <= R; have := h.ords; omega) _
         ords := h.ords }
theorem TkS.call {w : World} {g R Z a fs q L k s e l wr w6} (h : TkS w g R Z a fs q L k s e l wr) (b : Below wr.heap.size wr w6) : TkS w g R Z a fs q L k s e l w6 :=
 { h with rd := h.rd.call b, row := h.row.call b, zero := h.zero.call b, nums := h.nums.call b, grown := grown_below h.grown b }
theorem TkS.done {w : World} {g R Z a fs q L k s e l w6} (h : TkS w g R Z a fs q L k s e l w6) (x0 x1 x2 x3 x4 x5 : Int) :
  Row ((((((w6.setCell ⟨Z, 0, none⟩ (.int .i64 x0)).setCell ⟨Z, 1, none⟩ (.int .i64 x1)).setCell ⟨Z, 2, none⟩ (.int .i64 x2)).setCell ⟨Z, 3, none⟩ (.int .i64 x3)).setCell ⟨Z, 4, none⟩ (.int .i64 x4)).setCell ⟨Z, 5, none⟩ (.int .i64 x5)) Z 47 .i64 [x0, x1, x2, x3, x4, x5] /\ Rd ((((((w6.setCell ⟨Z, 0, none⟩ (.int .i64 x0)).setCell ⟨Z, 1, none⟩ (.int .i64 x1)).setCell ⟨Z, 2, none⟩ (.int .i64 x2)).setCell ⟨Z, 3, none⟩ (.int .i64 x3)).setCell ⟨Z, 4, none⟩ (.int .i64 x4)).setCell ⟨Z, 5, none⟩ (.int .i64 x5)) g s e /\ w.grownBy ((((((w6.setCell ⟨Z, 0, none⟩ (.int .i64 x0)).setCell ⟨Z, 1, none⟩ (.int .i64 x1)).setCell ⟨Z, 2, none⟩ (.int .i64 x2)).setCell ⟨Z, 3, none⟩ (.int .i64 x3)).setCell ⟨Z, 4, none⟩ (.int .i64 x4)).setCell ⟨Z, 5, none⟩ (.int .i64 x5)) (some g) := by
 have hZ : Z ≠ g := by have := h.ords; omega
 have hz := h.ords.2.1
 exact ⟨(((((h.zero.stored 0 x0).stored 1 x1).stored 2 x2).stored 3 x3).stored 4 x4).stored 5 x5, (((((h.rd.other hZ _).other hZ _).other hZ _).other hZ _).other hZ _).other hZ _,
  grown_setNew (grown_setNew (grown_setNew (grown_setNew (grown_setNew (grown_setNew h.grown hz _) hz _) hz _) hz _) hz _) hz _⟩
theorem take_any {w : World} {g : Nat} {s : ByteArray} {e : Int} (h : Rd w g s e) : Calls Tryz.prog 174 #[.pointer (some ⟨g, 0, none⟩)] w fun x w' =>
  x = .returned (.tuple #[rvL (tkR s e), .int .i64 (tkE s e)]) /\ Rd w' g (tkQ s e).1 (tkQ s e).2.1 /\ w.grownBy w' (some g) := by
 have hb := rF_byte s e
 unfold tkR tkE
 generalize hL : tkL s e = L
 have hQ : tkQ s e = tkGo (flds (rF s e 1).2.2) (rF s e 1).1 (rF s e 1).2.1 := rfl
 unfold tkL at hL
 rw [hQ] at hL |-
 clear hQ
 have hrf := fun w (h : Rd w g s e) => fixedF_any h 1
 generalize rF s e 1 = q1 at *
 obtain ⟨s1, e1, b⟩ := q1
 simp only at hb hL hrf |-
 have hw : IntKind.i64.wrap (b : Int) = b := by simp [IntKind.wrap, IntKind.bits, IntKind.signed]; omega
 generalize hq : ((tkGo (flds b) s1 e1).1, (tkGo (flds b) s1 e1).2.1) = q at *
 have hq1 : (tkGo (flds b) s1 e1).1 = q.1 := by rw [<- hq]
 have hq2 : (tkGo (flds b) s1 e1).2.1 = q.2 := by rw [<- hq]
 rw [hq1, hq2]
 obtain ⟨s', e'⟩ := q
 clear hq1 hq2
 simp only
 generalize hE : (if e' ≠ 0 then e' else if chkL (L.getD 0 0) L = true then 0 else 3) = E
 have H := Hid.mk (And.intro h (And.intro hrf (And.intro hL (And.intro hq hE))))
 have hgl := h.lt
 clear h hrf hL hq hE
 go_enter Tryz.func174, Tryz.ntmps174
 go_upto_region 1 with fail
 have p1 : Row (w.alloc (.cells #[.int .i64 0, .int .i64 0, .int .i64 0, .int .i64 0, .int .i64 0, .int .i64 0] 47)) w.heap.size 47 .i64 [0, 0, 0, 0, 0, 0] := Row.fresh w 47 .i64 [0, 0, 0, 0, 0, 0]
 have p2 : Rd (w.alloc (.cells #[.int .i64 0, .int .i64 0, .int .i64 0, .int .i64 0, .int .i64 0, .int .i64 0] 47)) g s e := H.out.1.alloc _
 have p3 : w.grownBy (w.alloc (.cells #[.int .i64 0, .int .i64 0, .int .i64 0, .int .i64 0, .int .i64 0, .int .i64 0] 47)) (some g) := grown_alloc (grown_refl w _) _
 generalize (w.alloc (.cells #[.int .i64 0, .int .i64 0, .int .i64 0, .int .i64 0, .int .i64 0, .int .i64 0] 47)) = W at *
 have G := Hid.mk (And.intro p1 (And.intro p2 p3))
 clear p1 p2 p3
 go_upto_region 2 with (go_at_call 180; refine (H.out.2.1 _ G.out.2.1).mono ?_; rintro x w1 ⟨rfl, r1, g1⟩)
 have p1 : Row (w1.alloc (.cells #[.int .i64 b, .int .i64 0, .int .i64 0, .int .i64 0, .int .i64 0, .int .i64 0] 47)) w1.heap.size 47 .i64 [(b : Int), 0, 0, 0, 0, 0] := Row.fresh w1 47 .i64 [(b : Int), 0, 0, 0, 0, 0]
 have p2 : Row (w1.alloc (.cells #[.int .i64 b, .int .i64 0, .int .i64 0, .int .i64 0, .int .i64 0, .int .i64 0] 47)) w.heap.size 47 .i64 [0, 0, 0, 0, 0, 0] := (G.out.1.kept g1 (by omega)).alloc _
 have p3 : Rd (w1.alloc (.cells #[.int .i64 b, .int .i64 0, .int .i64 0, .int .i64 0, .int .i64 0, .int .i64 0] 47)) g s1 e1 := r1.alloc _
 have p4 : w.grownBy (w1.alloc (.cells #[.int .i64 b, .int .i64 0, .int .i64 0, .int .i64 0, .int .i64 0, .int .i64 0] 47)) (some g) := grown_alloc (grown_trans G.out.2.2 g1) _
 have p5 : w.heap.size < w1.heap.size := Nat.lt_of_lt_of_le G.out.1.lt g1.size
 have p6 := size_alloc w1 (.cells #[.int .i64 b, .int .i64 0, .int .i64 0, .int .i64 0, .int .i64 0, .int .i64 0] 47)
 clear r1 g1 G
 generalize (w1.alloc (.cells #[.int .i64 b, .int .i64 0, .int .i64 0, .int .i64 0, .int .i64 0, .int .i64 0] 47)) = W1 at *
 generalize w1.heap.size = R at *
 have G := Hid.mk (And.intro p1 (And.intro p2 (And.intro p3 (And.intro p4 (And.intro p5 p6)))))
 clear p1 p2 p3 p4 p5 p6
 go_upto_region 3 with (go_at_call 147; refine (numbers_any (K := b) G.out.1.lt (G.out.1.cell 0 (by simp))).mono ?_; rintro x w3 ⟨a, rfl, b1, n1⟩)
 have s0 : TkS w g R w.heap.size a (flds b) (s', e') L 0 s1 e1 [(b : Int), 0, 0, 0, 0, 0] w3 :=
  ⟨rfl, G.out.2.2.1.call b1, G.out.1.call b1, G.out.2.1.call b1, by rw [<- G.out.2.2.2.2.2]; exact n1, H.out.2.2.2.1, H.out.2.2.1, grown_below G.out.2.2.2.1 b1, hgl, Nat.le_refl _, G.out.2.2.2.2.1⟩
 replace s0 := Hid.mk s0
 have hE := Hid.mk H.out.2.2.2.2
 have hn3 := flds_len b
 have hoffs := Hid.mk (flds_off b)
 clear H G n1 b1 hw
 generalize hfs : flds (b : Int) = fs at *
 clear hfs
 generalize hn : fs.length = n at *
 replace hn := Hid.mk hn
 go_loopw [14] (fun i wr => ∃ (k : Nat) (sk : ByteArray) (ek : Int) (lk : List Int), k <= n /\ i = .int .i64 k /\ TkS w g R w.heap.size a fs (s', e') L k sk ek lk wr) (fun i _ => n - (intOf i).toNat)
 case atStart => exact ⟨0, s1, e1, _, Nat.zero_le _, rfl, s0.out⟩
 case round =>
  clear s0
  obtain ⟨k, sk, ek, lk, hk, rfl, hs⟩ := hrel
  by_cases hkn : k < n
  ·have hkl : k < fs.length := by rw [hn.out]; exact hkn
   obtain ⟨gg, rfl, hg, hggl, c0, c1, c2⟩ := hs.nums.cells k hkl
   have hoff := hoffs.out _ (getD_mem _ k hkl)
   have hrest := hs.rest
   have hlay := hs.lay
   rw [drop_getD _ k hkl] at hrest hlay
   generalize fs.getD k (0, 0, 0) = f at *
   obtain ⟨o, lo, hi⟩ := f
   simp only [tkGo, laySet, List.headD_cons, List.tail_cons] at c0 c1 c2 hoff hrest hlay
   have hle := rN_le sk ek hi (by omega)
   have hnum := fun w (h : Rd w g sk ek) => num_any h hi
   generalize rN sk ek hi = rr at *
   obtain ⟨s2, e2, m⟩ := rr
   simp only at hrest hlay hle hnum
   have hw1 : IntKind.u64.wrap hi = hi := u64_wrap hi (by omega) (by omega)
   have hw2 : IntKind.i64.wrap (m : Int) = m := by simp [IntKind.wrap, IntKind.bits, IntKind.signed]; omega
   have HS := Hid.mk (And.intro hs (And.intro hoff (And.intro hrest (And.intro hlay hnum))))
   clear hs hoff hrest hlay hnum
   go_upto_region 5 with fail
   have p1 := HS.out.1.alloc (.cells #[.pointer (some ⟨R, o, none⟩), .int .i64 lo, .int .i64 hi] 206)
   have p2 := heap_alloc_new wr (.cells #[.pointer (some ⟨R, o, none⟩), .int .i64 lo, .int .i64 hi] 206)
   generalize (wr.alloc (.cells #[.pointer (some ⟨R, o, none⟩), .int .i64 lo, .int .i64 hi] 206)) = W2 at *
   have p4 := HS.out.1.rd.lt
   generalize wr.heap.size = G at *
   clear c0 c1 c2
   obtain ⟨d0, d1, d2⟩ := three_cells p2
   replace HS := Hid.mk (And.intro p1 (And.intro p2 HS.out.2))
   clear p1 p2
   go_region_with (go_at_call 206; refine (HS.out.2.2.2.2.2 _ HS.out.1.rd.drew).mono ?_; rintro x w5 ⟨rfl, r5, g5⟩; obtain ⟨d3, cx, fx⟩ := HS.out.1.after HS.out.2.1 p4 g5 o HS.out.2.2.1.2.1)
   all_goals
    go_wp2_with fail
    exact ⟨⟨k + 1, s2, e2, _, by omega, by go_num, HS.out.1.next g5 r5 o m HS.out.2.2.2.1 HS.out.2.2.2.2.1⟩, by simp [intOf]; omega⟩
  ·have hk2 : k = n := by omega
   have h1 := hs.rest
   have h2 := hs.lay
   rw [hk2, <- hn.out, List.drop_length] at h1 h2
   simp only [tkGo, laySet, Prod.mk.injEq] at h1 h2
   obtain ⟨rfl, rfl⟩ := h1
   subst h2
   obtain ⟨x0, x1, x2, x3, x4, x5, rfl⟩ := six hs.len
   obtain ⟨c0, c1, c2, c3, c4, c5⟩ := hs.row.six
   obtain ⟨d0, d1, d2, d3, d4, d5⟩ := hs.zero.six
   have f0 := hs.zero.frozen 0
   have f1 := hs.zero.frozen 1
   have f2 := hs.zero.frozen 2
   have f3 := hs.zero.frozen 3
   have f4 := hs.zero.frozen 4
   have f5 := hs.zero.frozen 5
   have HS := Hid.mk hs
   clear hs hk2 hoffs hn
   by_cases he : ek = 0
   ·subst he
    have hE2 : (if mayB x0 x1 x2 x3 x4 x5 = true then 0 else 3) = E := hE.out
    clear hE
    clear d0 d1 d2 d3 d4 d5 f0 f1 f2 f3 f4 f5
    by_cases hm : mayB x0 x1 x2 x3 x4 x5 = true
    ·rw [if_pos hm] at hE2
     subst hE2
     replace hm := Hid.mk hm
     go_upto_region 12 with (first
      | (go_at_call 207; refine (err_any HS.out.rd).mono ?_; rintro x w' ⟨rfl, rfl⟩)
      | (go_at_call 91; refine (checkB_any x0 x1 x2 x3 x4 x5 _).mono ?_; rintro x w6 ⟨rfl, b6⟩; rw [hm.out]))
     replace HS := Hid.mk (HS.out.call b6)
     clear b6 c0 c1 c2 c3 c4 c5
     obtain ⟨c0, c1, c2, c3, c4, c5⟩ := HS.out.row.six
     obtain ⟨d0, d1, d2, d3, d4, d5⟩ := HS.out.zero.six
     have f0 := HS.out.zero.frozen 0
     have f1 := HS.out.zero.frozen 1
     have f2 := HS.out.zero.frozen 2
     have f3 := HS.out.zero.frozen 3
     have f4 := HS.out.zero.frozen 4
     have f5 := HS.out.zero.frozen 5
     go_wp2_with fail
     have hd := HS.out.done x0 x1 x2 x3 x4 x5
     exact bodyPost_ret (rec_result2 rfl rfl rfl hd.1) rfl ⟨rfl, hd.2⟩
    ·rw [if_neg hm] at hE2
     subst hE2
     replace hm : mayB x0 x1 x2 x3 x4 x5 = false := by simpa using hm
     replace hm := Hid.mk hm
     go_upto_region 11 with (first
      | (go_at_call 207; refine (err_any HS.out.rd).mono ?_; rintro x w' ⟨rfl, rfl⟩)
      | (go_at_call 91; refine (checkB_any x0 x1 x2 x3 x4 x5 _).mono ?_; rintro x w6 ⟨rfl, b6⟩; rw [hm.out]))
     replace HS := Hid.mk (HS.out.call b6)
     clear b6 c0 c1 c2 c3 c4 c5
     obtain ⟨c0, c1, c2, c3, c4, c5⟩ := HS.out.row.six
     obtain ⟨d0, d1, d2, d3, d4, d5⟩ := HS.out.zero.six
     have f0 := HS.out.zero.frozen 0
     have f1 := HS.out.zero.frozen 1
     have f2 := HS.out.zero.frozen 2
     have f3 := HS.out.zero.frozen 3
     have f4 := HS.out.zero.frozen 4
     have f5 := HS.out.zero.frozen 5
     go_wp2_with fail
     have hd := HS.out.done 0 0 0 0 0 0
     exact bodyPost_ret (rec_result2 rfl rfl rfl hd.1) rfl ⟨rfl, hd.2⟩
   ·have hE2 : ek = E := by
     have := hE.out
     rw [if_pos he] at this
     exact this
    subst hE2
    clear hE c0 c1 c2 c3 c4 c5
    go_wp2_with (go_at_call 207; refine (err_any HS.out.rd).mono ?_; rintro x w' ⟨rfl, rfl⟩)
    have hd := HS.out.done 0 0 0 0 0 0
    exact bodyPost_ret (rec_result2 rfl rfl rfl hd.1) rfl ⟨rfl, hd.2⟩
end Go.Proofs.YtcmmhfjnhlaepabGreatDoor.Gp
namespace Go.Proofs.YtcmmhfjnhlaepabGreatDoor.Gp
open Go Go.RowKit Pg
theorem tkGo_put (fs : List Fl) (vs : List Int) (t : ByteArray) (hl : vs.length = fs.length) (h : ∀ j, j < fs.length -> 0 <= vs.getD j 0 /\ vs.getD j 0 <= (fs.getD j (0, 0, 0)).2.2 /\ vs.getD j 0 <= 1073741824) :
  tkGo fs (numsB vs ++ t) 0 = (t, 0, vs) := by
 induction fs generalizing vs with
 | nil =>
  obtain rfl : vs = [] := List.eq_nil_of_length_eq_zero hl
  rw [tkGo, numsB]
  have e : (⟨#[]⟩ : ByteArray) ++ t = t := by apply ByteArray.ext; simp
  rw [e]
 | cons f fs ih =>
  match vs, hl with
  | v :: vs, hl =>
   have h0 := h 0 (by simp)
   simp only [List.getD_cons_zero] at h0
   have hr := rN_app v.toNat (numsB vs ++ t) f.2.2 (by omega)
   rw [if_neg (by omega)] at hr
   have hi := ih vs (by simpa using hl) (fun j hj => by simpa using h (j + 1) (by simpa using hj))
   rw [numsB, ByteArray.append_assoc, tkGo, hr]
   simp only [hi]
   rw [Int.toNat_of_nonneg h0.1]
theorem tk_put {K S P A T N : Int} (hm : mayB K S P A T N = true) (t : ByteArray) : tkQ (putB K [K, S, P, A, T, N] ++ t) 0 = (t, 0, valsL (flds K) [K, S, P, A, T, N]) /\ tkL (putB K [K, S, P, A, T, N] ++ t) 0 = [K, S, P, A, T, N] := by
 have hv := may_vals (mayB_iff.1 hm)
 have hb : (((UInt8.ofNat K.toNat).toNat : Nat) : Int) = K := by rw [UInt8.toNat_ofNat']; omega
 have hF : rF (putB K [K, S, P, A, T, N] ++ t) 0 1 = (numsB (valsL (flds K) [K, S, P, A, T, N]) ++ t, 0, (UInt8.ofNat K.toNat).toNat) := by
  unfold putB
  rw [ByteArray.append_assoc, rF_byte_app]
 have hQ : tkQ (putB K [K, S, P, A, T, N] ++ t) 0 = (t, 0, valsL (flds K) [K, S, P, A, T, N]) := by
  unfold tkQ
  rw [hF]
  simp only [hb]
  refine tkGo_put _ _ _ (valsL_length _ _) (fun j hj => ?_)
  rw [valsL_getD _ _ _ hj]
  have q1 := hv.2.2.2 _ (getD_mem _ j hj)
  have q2 := flds_off K _ (getD_mem _ j hj)
  omega
 refine ⟨hQ, ?_⟩
 unfold tkL
 rw [hQ, hF]
 simp only [hb]
 have hw := mayB_iff.1 hm
 clear hQ hF hv hb hm
 rcases hw with h | h | h | h | h | h | h | h | h
 all_goals
  obtain ⟨rfl, h⟩ := h
  simp [flds, valsL, laySet]
  try omega
theorem tkE_put {K S P A T N : Int} (hm : mayB K S P A T N = true) (t : ByteArray) : tkE (putB K [K, S, P, A, T, N] ++ t) 0 = 0 := by
 unfold tkE
 rw [(tk_put hm t).1, (tk_put hm t).2, if_neg (by simp)]
 exact if_pos hm
theorem tkR_put {K S P A T N : Int} (hm : mayB K S P A T N = true) (t : ByteArray) : tkR (putB K [K, S, P, A, T, N] ++ t) 0 = [K, S, P, A, T, N] := by
 unfold tkR
 rw [if_pos (tkE_put hm t), (tk_put hm t).2]
theorem takePut_any {K S P A T N : Int} (hm : mayB K S P A T N = true) (t : ByteArray) {w : World} {g : Nat} (h : Rd w g (putB K [K, S, P, A, T, N] ++ t) 0) : Calls Tryz.prog 174 #[.pointer (some ⟨g, 0, none⟩)] w fun x w' =>
  x = .returned (.tuple #[rv K S P A T N, .int .i64 0]) /\ Rd w' g t 0 /\ w.grownBy w' (some g) := by
 have q := take_any h
 rw [tkE_put hm t, tkR_put hm t, (tk_put hm t).1] at q
 exact q
end Go.Proofs.YtcmmhfjnhlaepabGreatDoor.Gp
namespace Go.Proofs.YtcmmhfjnhlaepabGreatDoor.Gp
open Go Go.RowKit Pg
def TxtF (w : World) (a : Option Addr) (ts : List ByteArray) : Prop := ∀ i, i < ts.length -> ∃ g o, a = some ⟨g, o, none⟩ /\ g < w.heap.size /\ w.cell? ⟨g, o + i, none⟩ = some (.string (ts.getD i ⟨#[]⟩))
theorem TxtF.below {w w' : World} {a ts} (h : TxtF w a ts) (b : Below w.heap.size w w') : TxtF w' a ts := by
 intro i hi
 obtain ⟨g, o, e, hg, hc⟩ := h i hi
 exact ⟨g, o, e, Nat.lt_of_lt_of_le hg b.size, by rw [b.cell (p := ⟨g, o + i, none⟩) hg]; exact hc⟩
def rdN (w : World) (G : Nat) : Nat := match w.cell? ⟨G, 0, none⟩ with
 | some (.string s) => s.size
 | _ => 0
theorem _root_.Go.Proofs.YtcmmhfjnhlaepabGreatDoor.Pg.Rd.rdN {w : World} {G s e} (h : Rd w G s e) : rdN w G = s.size := by unfold Gp.rdN; rw [h.rest]
theorem Rw.nil (w : World) : Rw w (.slice none 0 0) [] w := ⟨World.ownsRow_nil _ _ _ _, fun _ h => (by cases h), Below.refl _ _⟩
theorem Rw.ne {w v rs wr} (h : Rw w v rs wr) {G : Nat} {s e} (hr : Rd wr G s e) : v.ownBlock ≠ some G := by
 intro q
 rcases h.own.2 with ⟨rfl, _⟩ | ⟨g, cap, cur, rfl, _, hg, _⟩
 ·cases q
 ·obtain rfl : g = G := by simpa [Value.ownBlock] using q
  unfold Rd at hr
  rw [hg] at hr
  simp at hr
theorem _root_.Go.Proofs.YtcmmhfjnhlaepabGreatDoor.Pg.Rd.keptO {w w' : World} {row : Option Nat} {g s e} (h : Rd w g s e) (b : w.grownBy w' row) (hne : row ≠ some g) : Rd w' g s e :=
 (b.block g h.lt (fun q => hne q.symm)).trans h
theorem take_flat (rss : List (List R6)) (k : Nat) (h : k < rss.length) : (rss.take (k + 1)).flatten = (rss.take k).flatten ++ rss.getD k [] := by
 rw [List.take_succ_eq_append_getElem h, List.flatten_append]
 simp [List.getD_eq_getElem?_getD, h]
theorem take_snoc6 (l : List R6) (j : Nat) (h : j < l.length) : l.take (j + 1) = l.take j ++ [l.getD j (0, 0, 0, 0, 0, 0)] := by
 rw [List.take_succ_eq_append_getElem h]
 simp [List.getD_eq_getElem?_getD, h]
theorem flat_le (rss : List (List R6)) (h : ∀ l ∈ rss, l.length <= 100) : rss.flatten.length <= 100 * rss.length := by
 induction rss with
 | nil => exact Nat.zero_le _
 | cons a l ih =>
  have h1 := h a (by simp)
  have h2 := ih (fun x hx => h x (by simp [hx]))
  rw [List.flatten_cons, List.length_append, List.length_cons]
  omega
set_option maxRecDepth 20000 in
set_option maxHeartbeats 2000000 in
theorem unpack_cat (a : Option Addr) (cap : Nat) (rss : List (List R6)) (w : World) (hx : TxtF w a (rss.map puts)) (hm : ∀ l ∈ rss, ∀ r ∈ l, R6.may r = true) (h100 : ∀ l ∈ rss, l.length <= 100) (h200 : rss.length <= 200) : Calls Tryz.prog 133 #[.slice a rss.length cap] w fun e w' =>
  ∃ v, e = .returned (.tuple #[v, .int .i64 0]) /\ Rw w v rss.flatten w' := by
 have HX := Hid.mk (And.intro hx (And.intro hm h100))
 clear hx hm h100
 generalize hn : rss.length = len at *
 replace hn := Hid.mk hn
 go_enter Tryz.func133, Tryz.ntmps133
 go_upto_region 3 with fail
 go_loopw [4, 12] (fun v i wr => ∃ (k : Nat), k <= len /\ i = .int .i64 k /\ Rw w v (rss.take k).flatten wr) (fun _ i _ => len - (intOf i).toNat)
 case atStart => exact ⟨0, Nat.zero_le _, rfl, Rw.nil w⟩
 case round =>
  obtain ⟨k, hk, rfl, hs⟩ := hrel
  by_cases hlt : k < len
  ·have hltl : k < rss.length := by rw [hn.out]; exact hlt
   obtain ⟨g, o, rfl, hg, c0⟩ := HX.out.1.below hs.below k (by simpa using hltl)
   have hmem : rss.getD k [] ∈ rss := by simp [List.getD_eq_getElem?_getD, hltl]
   have hrk : (rss.take k).flatten.length <= 100 * k := by
    have := flat_le (rss.take k) (fun l hl => HX.out.2.2 l (List.mem_of_mem_take hl))
    rw [List.length_take] at this
    omega
   have e1 : (rss.map puts).getD k ⟨#[]⟩ = puts (rss.getD k []) := by simp [List.getD_eq_getElem?_getD, hltl]
   rw [e1] at c0
   have hfl := Hid.mk (take_flat rss k hltl)
   have hmay := Hid.mk (HX.out.2.1 _ hmem)
   have hl100 := HX.out.2.2 _ hmem
   generalize rss.getD k [] = l at *
   generalize (rss.take k).flatten = rs at *
   have HS := Hid.mk hs
   clear hs hltl e1 hmem
   go_upto_region 6 with (go_at_call 172; refine (Pg.new_any _ _).mono ?_; rintro e w1 ⟨rfl, r1, b1⟩)
   have H1 := Hid.mk (And.intro (HS.out.call b1) (And.intro r1 HS.out.below.size))
   clear r1 b1 c0 hg HS
   generalize wr.heap.size = G at *
   go_loopw [4] (fun v wx => ∃ j : Nat, j <= l.length /\ Rw w v (rs ++ l.take j) wx /\ Rd wx G (puts (l.drop j)) 0) (fun _ wx => rdN wx G)
   case atStart => exact ⟨0, Nat.zero_le _, by rw [List.take_zero, List.append_nil]; exact H1.out.1, H1.out.2.1⟩
   case round =>
    obtain ⟨j, hj, hs2, hrd⟩ := hrel
    by_cases h0 : j < l.length
    ·have hmj : R6.may (l.getD j (0, 0, 0, 0, 0, 0)) = true := hmay.out _ (by simp [List.getD_eq_getElem?_getD, h0])
     rw [puts_drop l j h0] at hrd
     have hN := Hid.mk hrd.rdN
     have htk := Hid.mk (take_snoc6 l j h0)
     have h1 := (put6_le _ hmj).1
     generalize l.getD j (0, 0, 0, 0, 0, 0) = r at *
     obtain ⟨x0, x1, x2, x3, x4, x5⟩ := r
     have hpos : 0 < (R6.put (x0, x1, x2, x3, x4, x5) ++ puts (l.drop (j + 1))).size := by rw [ByteArray.size_append]; omega
     generalize hS : R6.put (x0, x1, x2, x3, x4, x5) ++ puts (l.drop (j + 1)) = S at *
     have htake := Hid.mk (fun (w : World) (g : Nat) (h : Rd w g S 0) => takePut_any (w := w) (g := g) (show mayB x0 x1 x2 x3 x4 x5 = true from hmj) (puts (l.drop (j + 1))) (by subst hS; exact h))
     have HS2 := Hid.mk (And.intro hs2 (And.intro hrd (And.intro hmj H1.out.2.2)))
     have hlen2 : (rs ++ l.take j).length <= 20000 := by rw [List.length_append, List.length_take]; omega
     clear hs2 hrd hmj
     go_upto_region 8 with (first
      | (go_at_call 173; refine (left_any HS2.out.2.1).mono ?_; rintro x w' ⟨rfl, rfl⟩)
      | (go_at_call 174; refine (htake.out _ _ HS2.out.2.1).mono ?_; rintro x w2 ⟨rfl, r2, g2⟩; unfold rv))
     have p1 := (HS2.out.1.grown g2 (HS2.out.1.ne HS2.out.2.1) HS2.out.2.2.2).call (below_one w2 (.cells #[.int .i64 x0, .int .i64 x1, .int .i64 x2, .int .i64 x3, .int .i64 x4, .int .i64 x5] 47))
     have p2 : Row (w2.alloc (.cells #[.int .i64 x0, .int .i64 x1, .int .i64 x2, .int .i64 x3, .int .i64 x4, .int .i64 x5] 47)) w2.heap.size 47 .i64 [x0, x1, x2, x3, x4, x5] := Row.fresh w2 47 .i64 [x0, x1, x2, x3, x4, x5]
     have p3 := r2.alloc (.cells #[.int .i64 x0, .int .i64 x1, .int .i64 x2, .int .i64 x3, .int .i64 x4, .int .i64 x5] 47)
     have p4 := HS2.out.2.2.1
     clear r2 g2 HS2
     generalize (w2.alloc (.cells #[.int .i64 x0, .int .i64 x1, .int .i64 x2, .int .i64 x3, .int .i64 x4, .int .i64 x5] 47)) = W2 at *
     generalize w2.heap.size = Y at *
     obtain ⟨c0, c1, c2, c3, c4, c5⟩ := p2.six
     have HS2 := Hid.mk (And.intro p1 (And.intro p3 p4))
     clear p1 p2 p3 p4
     obtain ⟨i27, z27, q1, q2, q3, q4, q5⟩ := info23z
     have HI := Hid.mk (And.intro q1 (And.intro q2 (And.intro q3 (And.intro q4 q5))))
     clear q1 q2 q3 q4 q5
     go_wp2_with (first | (at_builtin; refine wpList_append_own _ rfl (.tmp 29) (.tmp 31) 108 rfl w.heap.size 47 i27 z27 6 48 Tryz.underlying108 HI.out.1 HI.out.2.1 HI.out.2.2.1 HI.out.2.2.2.1 HI.out.2.2.2.2 (by decide) u4 (rs ++ l.take j).length (rowsC (rs ++ l.take j)) rfl (HS2.out.1.own.alloc _) ⟨W2.heap.size, 0, none⟩ 1 1 (R6.cells (x0, x1, x2, x3, x4, x5)) rfl rfl (rec_cells W2 (x0, x1, x2, x3, x4, x5)) (cells_one _) (by simp [maxLen] at hlen2 |-; omega) (by omega) (Nat.le_trans HS2.out.1.below.size (by rw [size_alloc]; omega)) ?_; intro v2 w3 hown hgrow _))
     have r5 := (HS2.out.2.1.alloc _).keptO hgrow (HS2.out.1.ne HS2.out.2.1)
     refine ⟨⟨j + 1, by omega, ?_, r5⟩, ?_⟩
     ·rw [htk.out, <- List.append_assoc]
      exact HS2.out.1.more _ _ HS2.out.2.2 hown hgrow
     ·rw [r5.rdN, hN.out, <- hS, ByteArray.size_append]
      omega
    ·obtain rfl : j = l.length := by omega
     rw [List.drop_length] at hrd
     change Rd _ G ⟨#[]⟩ 0 at hrd
     rw [List.take_length] at hs2
     have HS2 := Hid.mk (And.intro hs2 hrd)
     clear hs2 hrd
     go_wp2_with (go_at_call 173; refine (left_any HS2.out.2).mono ?_; rintro e w' ⟨rfl, rfl⟩)
     exact ⟨⟨k + 1, by omega, by go_num, by rw [hfl.out]; exact HS2.out.1⟩, by simp [intOf]; omega⟩
  ·obtain rfl : k = len := by omega
   have HS2 := Hid.mk hs
   clear hs
   go_wp2_with fail
   go_ret2
   refine ⟨_, rfl, ?_⟩
   have := HS2.out
   rw [<- hn.out, List.take_length] at this
   exact this
end Go.Proofs.YtcmmhfjnhlaepabGreatDoor.Gp
