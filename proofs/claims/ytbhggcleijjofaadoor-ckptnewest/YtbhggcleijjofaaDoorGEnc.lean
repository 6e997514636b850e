/-
  The reader's block, and the calls that read and write it: Err, Left, End, fail, Bytes, New. No condition. The reader's Fixed, Num and Text. No condition. How many bits a number has: the walk of Len64. No condition. Numbers and texts as bytes: the walks of Fixed, Num, Text and of the answer's. No condition.
-/
import Derived.Test.YtbhggcleijjofaaDoorRows
import Derived.Test.YtbhggcleijjofaaDoorMem
import Derived.WalkSpells
import Derived.WalkLawsBesides
import Derived.Laws.BitsAllLaws
import Derived.Test.YtbhggcleijjofaaDoorGNum
import Derived.Laws.Bits64b
import Derived.Test.YtbhggcleijjofaaDoorOwn
import Derived.Deep.RegionHeld3
import Derived.Deep.RegionWith
namespace Go.Proofs.YtbhggcleijjofaaDoor.Gp
open Go Go.RowKit

theorem Hid.mk {p : Prop} (h : p) : Hid p := h
/-- block g is a reader of these bytes, with this error -/
def Rd (w : World) (g : Nat) (s : ByteArray) (e : Int) : Prop := w.heap[g]? = some (.cells #[.string s, .int .i64 e] 180 (0, 0))
theorem Rd.lt {w : World} {g s e} (h : Rd w g s e) : g < w.heap.size := (Array.getElem?_eq_some_iff.1 h).1
theorem Rd.rest {w : World} {g s e} (h : Rd w g s e) : w.cell? ⟨g, 0, none⟩ = some (.string s) := by rw [cell_of_row w g 0 _ 180 _ h]; rfl
theorem Rd.err {w : World} {g s e} (h : Rd w g s e) : w.cell? ⟨g, 1, none⟩ = some (.int .i64 e) := by rw [cell_of_row w g 1 _ 180 _ h]; rfl
theorem Rd.frozen {w : World} {g s e} (h : Rd w g s e) (j : Nat) : w.frozen? ⟨g, j, none⟩ = false := frozen_of_row w g j _ 180 h
theorem Rd.drew {w : World} {g s e} (h : Rd w g s e) : Rd w.drew g s e := h
theorem Rd.drewN {w : World} {g s e} (h : Rd w g s e) (n : Nat) : Rd (w.drewN n) g s e := h
theorem Rd.call {w w' : World} {g s e} (h : Rd w g s e) (b : Below w.heap.size w w') : Rd w' g s e := (b.block g h.lt).trans h
theorem Rd.alloc {w : World} {g s e} (h : Rd w g s e) (o : Obj) : Rd (w.alloc o) g s e := (Below.heap_alloc w o g h.lt).trans h
theorem Rd.kept {w w' : World} {g g0 s e} (h : Rd w g s e) (b : w.grownBy w' (some g0)) (hne : g ≠ g0) : Rd w' g s e := (b.block g h.lt (by simpa using hne)).trans h
theorem Rd.setRest {w : World} {g s e} (h : Rd w g s e) (t : ByteArray) : Rd (w.setCell ⟨g, 0, none⟩ (.string t)) g t e := by
  have := heap_setCell_same w g 0 _ 180 (.string t) h
  exact this
theorem Rd.setErr {w : World} {g s e} (h : Rd w g s e) (k : Int) : Rd (w.setCell ⟨g, 1, none⟩ (.int .i64 k)) g s k := by
  have := heap_setCell_same w g 1 _ 180 (.int .i64 k) h
  exact this
theorem grown_setCell (w : World) (a : Addr) (u : Value) : w.grownBy (w.setCell a u) (some a.block) :=
  ⟨rfl, rfl, rfl, by simp [World.setCell], fun b _ hne => Below.heap_setCell w a u b (fun e => hne (by rw [e]))⟩
theorem grown_refl (w : World) (g : Option Nat) : w.grownBy w g := ⟨rfl, rfl, rfl, Nat.le_refl _, fun _ _ _ => rfl⟩
theorem grown_trans {a b c : World} {g : Option Nat} (h : a.grownBy b g) (k : b.grownBy c g) : a.grownBy c g :=
  ⟨k.os.trans h.os, k.tape.trans h.tape, k.output.trans h.output, Nat.le_trans h.size k.size, fun i hi hne => (k.block i (Nat.lt_of_lt_of_le hi h.size) hne).trans (h.block i hi hne)⟩
theorem grown_below {a b c : World} {g : Option Nat} (h : a.grownBy b g) (k : Below b.heap.size b c) : a.grownBy c g :=
  ⟨k.os.trans h.os, k.tape.trans h.tape, k.output.trans h.output, Nat.le_trans h.size k.size, fun i hi hne => (k.block i (Nat.lt_of_lt_of_le hi h.size)).trans (h.block i hi hne)⟩
theorem grown_alloc {a b : World} {g : Option Nat} (h : a.grownBy b g) (o : Obj) : a.grownBy (b.alloc o) g :=
  grown_below h ((Below.refl b.heap.size b).alloc (Nat.le_refl _) o)
theorem grown_drewN {a b : World} {g : Option Nat} (h : a.grownBy b g) (n : Nat) : a.grownBy (b.drewN n) g :=
  ⟨h.os, h.tape, h.output, h.size, h.block⟩

/-- how many bytes a fixed number has -/
def wid (n : Int) : Int := if n < 0 then 0 else if 8 < n then 8 else n
theorem wid_le (n : Int) : 0 ≤ wid n ∧ wid n ≤ 8 := by unfold wid; split <;> (try split) <;> omega
theorem width_any (n : Int) (w : World) : Calls Tryd.prog 55 #[.int .i64 n] w fun e w' => e = .returned (.int .i64 (wid n)) ∧ w' = w := by
  unfold wid
  by_cases h : n < 0
  · rw [if_pos h]
    go_enter Tryd.func55, Tryd.ntmps55
    go_wp2
    go_ret
    exact ⟨rfl, rfl⟩
  · rw [if_neg h]
    by_cases h8 : 8 < n
    · rw [if_pos h8]
      go_enter Tryd.func55, Tryd.ntmps55
      go_wp2
      go_ret
      exact ⟨rfl, rfl⟩
    · rw [if_neg h8]
      go_enter Tryd.func55, Tryd.ntmps55
      go_wp2
      go_ret
      exact ⟨rfl, rfl⟩

theorem err_any {w : World} {g s e} (h : Rd w g s e) : Calls Tryd.prog 98 #[.pointer (some ⟨g, 0, none⟩)] w fun x w' => x = .returned (.int .i64 e) ∧ w' = w := by
  have c1 := h.err
  have HH := Hid.mk h
  clear h
  go_enter Tryd.func98, Tryd.ntmps98
  go_wp2
  go_ret
  exact ⟨rfl, rfl⟩
theorem fail_any {w : World} {g s e} (h : Rd w g s e) (k : Int) : Calls Tryd.prog 99 #[.pointer (some ⟨g, 0, none⟩), .int .i64 k] w fun x w' => x = .returned (.tuple #[]) ∧ Rd w' g ⟨#[]⟩ k ∧ w.grownBy w' (some g) := by
  have c0 := h.rest
  have c1 := h.err
  have f0 := h.frozen 0
  have f1 := h.frozen 1
  have HH := Hid.mk h
  clear h
  go_enter Tryd.func99, Tryd.ntmps99
  go_wp2
  go_end0
  exact ⟨rfl, (HH.out.setRest _).setErr _, grown_trans (grown_setCell w ⟨g, 0, none⟩ _) (grown_setCell _ ⟨g, 1, none⟩ _)⟩
theorem new_any (s : ByteArray) (w : World) : Calls Tryd.prog 73 #[.string s] w fun x w' => x = .returned (.pointer (some ⟨w.heap.size, 0, none⟩)) ∧ Rd w' w.heap.size s 0 ∧ Below w.heap.size w w' := by
  go_enter Tryd.func73, Tryd.ntmps73
  go_wp2
  go_ret
  exact ⟨rfl, heap_alloc_new w _, (Below.refl w.heap.size w).alloc (Nat.le_refl _) _⟩
/-- so many bytes off a reader: what is left, the error, what was taken -/
def rB (s : ByteArray) (e n : Int) : ByteArray × Int × ByteArray :=
  if e ≠ 0 then (s, e, ⟨#[]⟩) else if n < 0 ∨ (s.size : Int) < n then (⟨#[]⟩, 2, ⟨#[]⟩) else (s.extract n.toNat s.size, 0, s.extract 0 n.toNat)
theorem bytes_any {w : World} {g s e} (h : Rd w g s e) (n : Int) : Calls Tryd.prog 92 #[.pointer (some ⟨g, 0, none⟩), .int .i64 n] w fun x w' =>
    x = .returned (.string (rB s e n).2.2) ∧ Rd w' g (rB s e n).1 (rB s e n).2.1 ∧ w.grownBy w' (some g) := by
  have c0 := h.rest
  have f0 := h.frozen 0
  have HH := Hid.mk h
  clear h
  by_cases he : e = 0
  · subst he
    by_cases hn : n < 0
    · have er : rB s 0 n = (⟨#[]⟩, 2, ⟨#[]⟩) := by unfold rB; rw [if_neg (by decide), if_pos (Or.inl hn)]
      rw [er]
      clear er
      go_enter Tryd.func92, Tryd.ntmps92
      go_wp2_with (first
        | (go_at_call 98; refine (err_any HH.out).mono ?_; rintro x w' ⟨rfl, rfl⟩)
        | (go_at_call 99; refine (fail_any HH.out _).mono ?_; rintro x w1 ⟨rfl, r1, g1⟩; replace HH := Hid.mk r1; clear r1))
      go_ret
      exact ⟨rfl, HH.out, g1⟩
    · by_cases hs : (s.size : Int) < n
      · have er : rB s 0 n = (⟨#[]⟩, 2, ⟨#[]⟩) := by unfold rB; rw [if_neg (by decide), if_pos (Or.inr hs)]
        rw [er]
        clear er
        go_enter Tryd.func92, Tryd.ntmps92
        go_wp2_with (first
          | (go_at_call 98; refine (err_any HH.out).mono ?_; rintro x w' ⟨rfl, rfl⟩)
          | (go_at_call 99; refine (fail_any HH.out _).mono ?_; rintro x w1 ⟨rfl, r1, g1⟩; replace HH := Hid.mk r1; clear r1))
        go_ret
        exact ⟨rfl, HH.out, g1⟩
      · have er : rB s 0 n = (s.extract n.toNat s.size, 0, s.extract 0 n.toNat) := by unfold rB; rw [if_neg (by decide), if_neg (by omega)]
        rw [er]
        clear er
        go_enter Tryd.func92, Tryd.ntmps92
        go_wp2_with (go_at_call 98; refine (err_any HH.out).mono ?_; rintro x w' ⟨rfl, rfl⟩)
        go_ret
        exact ⟨rfl, HH.out.setRest _, grown_setCell _ ⟨g, 0, none⟩ _⟩
  · have er : rB s e n = (s, e, ⟨#[]⟩) := by unfold rB; rw [if_pos he]
    rw [er]
    clear er
    go_enter Tryd.func92, Tryd.ntmps92
    go_wp2_with (go_at_call 98; refine (err_any HH.out).mono ?_; rintro x w' ⟨rfl, rfl⟩)
    go_ret
    exact ⟨rfl, HH.out, grown_refl _ _⟩
/-- what End answers -/
def rE (s : ByteArray) (e : Int) : Int := if 0 < s.size then 4 else e
theorem rB_small (s : ByteArray) (e n : Int) (h : n ≤ 8) : (rB s e n).2.2.size ≤ 8 := by
  unfold rB
  split
  · show 0 ≤ 8
    omega
  · split
    · show 0 ≤ 8
      omega
    · rw [ByteArray.size_extract]
      omega
theorem take_succ_at (s : ByteArray) (k : Nat) (h : k < s.size) : s.data.toList.take (k + 1) = s.data.toList.take k ++ [s.data.toList.getD k 0] := by
  have hl : k < s.data.toList.length := by rw [Array.length_toList]; exact h
  rw [List.take_succ_eq_append_getElem hl, List.getD_eq_getElem?_getD, List.getElem?_eq_getElem hl]
  rfl
/-- a byte at its place -/
theorem or_place (a k : Nat) (b : UInt8) (ha : a < 256 ^ k) (hk : k < 8) : bits .or .u64 (a : Int) (IntKind.u64.wrap (IntKind.u64.wrap (b.toNat : Int) * 2 ^ (8 * k))) = ((a + 256 ^ k * b.toNat : Nat) : Int) := by
  have hb := b.toNat_lt
  have h64 : 256 ^ k * 256 ≤ 18446744073709551616 := by
    rw [← Nat.pow_succ]
    exact (Nat.pow_le_pow_right (show 256 > 0 by omega) (show k + 1 ≤ 8 by omega) : 256 ^ (k + 1) ≤ 256 ^ 8)
  have hm : 256 ^ k * b.toNat < 18446744073709551616 := by
    have := Nat.mul_le_mul_left (256 ^ k) (show b.toNat ≤ 255 by omega)
    have := Nat.pow_pos (n := k) (show 0 < 256 by omega)
    omega
  have e1 : IntKind.u64.wrap (b.toNat : Int) = (b.toNat : Int) := by rw [IntKind.wrap_u64]; omega
  have e2 : IntKind.u64.wrap ((b.toNat : Int) * 2 ^ (8 * k)) = ((256 ^ k * b.toNat : Nat) : Int) := by
    have e3 : ((b.toNat : Int) * 2 ^ (8 * k)) = ((256 ^ k * b.toNat : Nat) : Int) := by
      rw [pow256, Int.natCast_mul, Int.natCast_pow, Int.mul_comm]
      rfl
    rw [e3, IntKind.wrap_u64]
    omega
  rw [e1, e2, bits_or_u64_nat _ _ (by omega) hm, Nat.or_comm]
  have h3 := Nat.two_pow_add_eq_or_of_lt (i := 8 * k) (b := a) (by rw [← pow256]; exact ha) b.toNat
  rw [← pow256] at h3
  rw [← h3, Nat.add_comm]
theorem fixed_any {w : World} {g s e} (h : Rd w g s e) (n : Int) : Calls Tryd.prog 74 #[.pointer (some ⟨g, 0, none⟩), .int .i64 n] w fun x w' =>
    x = .returned (.int .u64 (leL (rB s e (wid n)).2.2.data.toList)) ∧ Rd w' g (rB s e (wid n)).1 (rB s e (wid n)).2.1 ∧ w.grownBy w' (some g) := by
  have hsm := rB_small s e (wid n) (wid_le n).2
  generalize hR : rB s e (wid n) = R at *
  obtain ⟨s', e', t⟩ := R
  simp only at hsm
  have HH := Hid.mk h
  clear h
  have hconv := fun w s => run_bytes_of_string (P := Tryd.prog) w 9 51 5 s Tryd.underlying9 Tryd.underlying51 Tryd.underlying5
  go_enter Tryd.func74, Tryd.ntmps74
  go_wp2_with (first
    | (go_at_call 55; refine (width_any _ _).mono ?_; rintro x w' ⟨rfl, rfl⟩)
    | (go_at_call 92; refine (bytes_any HH.out _).mono ?_; rintro x w1 ⟨rfl, r1, g1⟩; rw [hR] at r1 ⊢; replace HH := Hid.mk (And.intro r1 g1); clear r1 g1))
  have hB0 := (HasBytes.converted w1 t (grownCap w1 t.size 0 5) 5).drew
  have hlen : Hid (t.data.toList.length = t.size) := Array.length_toList
  have hz := HH.out.1.lt
  go_loopw [5, 14] (fun v i wr => ∃ k : Nat, k ≤ t.size ∧ i = .int .i64 k ∧ v = .int .u64 (leL (t.data.toList.take k)) ∧ HasBytes wr w1.heap.size t.data.toList ∧ Rd wr g s' e' ∧ w'.grownBy wr (some g)) (fun _ i _ => t.size - (intOf i).toNat)
  case atStart => exact ⟨0, Nat.zero_le _, rfl, by simp [leL], hB0, (HH.out.1.alloc _).drew, grown_drewN (grown_alloc HH.out.2 _) 1⟩
  case round =>
    clear hB0 hconv
    obtain ⟨k, hk, rfl, rfl, hB, hr, hgr⟩ := hrel
    by_cases hks : k < t.size
    · obtain ⟨c1, _⟩ := hB k (by rw [hlen.out]; exact hks)
      have hts := take_succ_at t k hks
      generalize hb : t.data.toList.getD k 0 = b at *
      generalize hl : t.data.toList.take k = l at *
      have HQ := Hid.mk (And.intro hB (And.intro hr (And.intro hgr (And.intro hts (And.intro hb hl)))))
      clear hB hr hgr hts hb hl
      go_wp2_with fail
      obtain ⟨hB, hr, hgr, hts, hb, hl⟩ := HQ.out
      have hll : l.length = k := by rw [← hl, List.length_take, hlen.out]; omega
      have hlt := leL_lt l
      rw [hll] at hlt
      refine ⟨⟨k + 1, by omega, by go_num, ?_, hB, hr, hgr⟩, by simp [intOf]; omega⟩
      rw [hts, leL_append, hll, or_place _ _ _ hlt (by omega)]
      simp [leL]
    · have hk2 : k = t.size := by omega
      subst hk2
      have htk : t.data.toList.take t.size = t.data.toList := List.take_of_length_le (by rw [hlen.out]; exact Nat.le_refl _)
      rw [htk]
      clear htk
      have HQ := Hid.mk (And.intro hr hgr)
      clear hB hr hgr
      generalize hV : leL t.data.toList = V
      replace hV := Hid.mk hV
      go_wp2_with fail
      go_ret
      exact ⟨by rw [hV.out]; rfl, HQ.out⟩

/-- what a reader's Fixed leaves and answers -/
def rF (s : ByteArray) (e n : Int) : ByteArray × Int × Nat := ((rB s e (wid n)).1, (rB s e (wid n)).2.1, leL (rB s e (wid n)).2.2.data.toList)
theorem fixedF_any {w : World} {g s e} (h : Rd w g s e) (n : Int) : Calls Tryd.prog 74 #[.pointer (some ⟨g, 0, none⟩), .int .i64 n] w fun x w' =>
    x = .returned (.int .u64 (rF s e n).2.2) ∧ Rd w' g (rF s e n).1 (rF s e n).2.1 ∧ w.grownBy w' (some g) := fixed_any h n
theorem pow256_le8 (k : Nat) (h : k ≤ 8) : 256 ^ k ≤ 18446744073709551616 := (Nat.pow_le_pow_right (show 256 > 0 by omega) h : 256 ^ k ≤ 256 ^ 8)
theorem rF_lt (s : ByteArray) (e n : Int) : (rF s e n).2.2 < 18446744073709551616 := by
  refine Nat.lt_of_lt_of_le (leL_lt _) (pow256_le8 _ ?_)
  rw [Array.length_toList]
  exact rB_small s e (wid n) (wid_le n).2
/-- what a reader's Num leaves and answers -/
def rN (s : ByteArray) (e : Int) (most : Int) : ByteArray × Int × Nat :=
  if 8 < (rF s e 1).2.2 then (⟨#[]⟩, 3, 0)
  else if (rF (rF s e 1).1 (rF s e 1).2.1 (rF s e 1).2.2).2.1 ≠ 0 then ((rF (rF s e 1).1 (rF s e 1).2.1 (rF s e 1).2.2).1, (rF (rF s e 1).1 (rF s e 1).2.1 (rF s e 1).2.2).2.1, 0)
  else if 0 < (rF s e 1).2.2 ∧ (rF (rF s e 1).1 (rF s e 1).2.1 (rF s e 1).2.2).2.2 < 256 ^ ((rF s e 1).2.2 - 1) then (⟨#[]⟩, 3, 0)
  else if most < (rF (rF s e 1).1 (rF s e 1).2.1 (rF s e 1).2.2).2.2 then (⟨#[]⟩, 5, 0)
  else rF (rF s e 1).1 (rF s e 1).2.1 (rF s e 1).2.2
theorem rF_byte (s : ByteArray) (e : Int) : (rF s e 1).2.2 < 256 := by
  refine Nat.lt_of_lt_of_le (leL_lt _) ?_
  have h : (rB s e (wid 1)).2.2.data.toList.length ≤ 1 := by
    rw [Array.length_toList]
    show (rB s e 1).2.2.size ≤ 1
    unfold rB
    split
    · show 0 ≤ 1
      omega
    · split
      · show 0 ≤ 1
        omega
      · rw [ByteArray.size_extract]
        omega
  exact (Nat.pow_le_pow_right (show 256 > 0 by omega) h : 256 ^ _ ≤ 256 ^ 1)
theorem shifted (n k : Nat) : (((n : Int) / 2 ^ (8 * k)) == 0) = decide (n < 256 ^ k) := by
  have e : ((n : Int) / 2 ^ (8 * k)) = ((n / 256 ^ k : Nat) : Int) := by
    rw [pow256, Int.natCast_ediv, Int.natCast_pow]
    rfl
  have hp := Nat.pow_pos (n := k) (show 0 < 256 by omega)
  rw [e]
  by_cases h : n < 256 ^ k
  · rw [Nat.div_eq_of_lt h, decide_eq_true h]
    rfl
  · have : 0 < n / 256 ^ k := Nat.div_pos (by omega) hp
    rw [decide_eq_false h]
    generalize n / 256 ^ k = q at *
    rw [beq_eq_false_iff_ne]
    omega
theorem rN_le (s : ByteArray) (e most : Int) (h : 0 ≤ most) : ((rN s e most).2.2 : Int) ≤ most := by
  unfold rN
  split
  · exact h
  · split
    · exact h
    · split
      · exact h
      · split
        · exact h
        · omega
theorem len_close (k x m : Nat) (hk : k ≤ 56) (hm : m < 256) (hx : bitLen x = k + bitLen m) : wrap64 ((k : Int) + wrap64 (bitLen m : Int)) = (bitLen x : Int) := by
  have := bitLen_le8 m hm
  unfold wrap64
  omega
theorem len_close0 (x : Nat) (hm : x < 256) : wrap64 (wrap64 (bitLen x : Int)) = (bitLen x : Int) := by
  have := bitLen_le8 x hm
  unfold wrap64
  omega
theorem len_close1 (x : Nat) (hm : x < 256) : wrap64 (bitLen x : Int) = (bitLen x : Int) := by
  have := bitLen_le8 x hm
  unfold wrap64
  omega
theorem bitLen_by (x a b : Nat) (h : b = 2 ^ a) (hx : x / b ≠ 0) : bitLen x = a + bitLen (x / b) := by
  subst h
  exact bitLen_shift x a hx
theorem quot_by (n B C b sh : Nat) (hb : b = 2 ^ sh) (hBC : B = b * C) (h : n < B) (h1 : (b : Int) ≤ (n : Int)) : ∃ a : Nat, (n : Int) / (b : Int) = a ∧ a < C ∧ Hid (bitLen n = sh + bitLen a) := by
  have hpos : 0 < b := by subst hb; exact Nat.two_pow_pos sh
  refine ⟨n / b, by simp, Nat.div_lt_of_lt_mul (by rw [← hBC]; exact h), ?_⟩
  have hx : n / b ≠ 0 := by
    have : 0 < n / b := Nat.div_pos (by omega) hpos
    omega
  exact bitLen_by n sh b hb hx
set_option maxHeartbeats 1000000 in
set_option maxRecDepth 100000 in
theorem len_111 (n : Nat) (w : World) (d0 : decide ((4294967296 : Int) ≤ (n : Int)) = true) (a : Nat) (qa : (n : Int) / 4294967296 = (a : Int)) (Xa : Hid (bitLen n = 32 + bitLen a)) (d1 : decide ((65536 : Int) ≤ (a : Int)) = true) (b : Nat) (qb : (a : Int) / 65536 = (b : Int)) (Xb : Hid (bitLen a = 16 + bitLen b)) (d2 : decide ((256 : Int) ≤ (b : Int)) = true) (c : Nat) (qc : (b : Int) / 256 = (c : Int)) (Xc : Hid (bitLen b = 8 + bitLen c)) (hm : (c : Int) < 256) :
    Calls Tryd.prog 56 #[.int .u64 n] w fun e w' => e = .returned (.int .i64 (bitLen n)) ∧ w' = w := by
  go_enter Tryd.func56, Tryd.ntmps56
  go_wp2_with fail
  go_ret
  refine ⟨congrArg Ending.returned (congrArg (Value.int IntKind.i64) ?_), rfl⟩
  rw [len8tab_get]
  exact len_close 56 n _ (by omega) (by omega) (by have e0 := Xa.out; have e1 := Xb.out; have e2 := Xc.out; omega)

set_option maxHeartbeats 1000000 in
set_option maxRecDepth 100000 in
theorem len_110 (n : Nat) (w : World) (d0 : decide ((4294967296 : Int) ≤ (n : Int)) = true) (a : Nat) (qa : (n : Int) / 4294967296 = (a : Int)) (Xa : Hid (bitLen n = 32 + bitLen a)) (d1 : decide ((65536 : Int) ≤ (a : Int)) = true) (b : Nat) (qb : (a : Int) / 65536 = (b : Int)) (Xb : Hid (bitLen a = 16 + bitLen b)) (d2 : decide ((256 : Int) ≤ (b : Int)) = false) (hm : (b : Int) < 256) :
    Calls Tryd.prog 56 #[.int .u64 n] w fun e w' => e = .returned (.int .i64 (bitLen n)) ∧ w' = w := by
  go_enter Tryd.func56, Tryd.ntmps56
  go_wp2_with fail
  go_ret
  refine ⟨congrArg Ending.returned (congrArg (Value.int IntKind.i64) ?_), rfl⟩
  rw [len8tab_get]
  exact len_close 48 n _ (by omega) (by omega) (by have e0 := Xa.out; have e1 := Xb.out; omega)

set_option maxHeartbeats 1000000 in
set_option maxRecDepth 100000 in
theorem len_101 (n : Nat) (w : World) (d0 : decide ((4294967296 : Int) ≤ (n : Int)) = true) (a : Nat) (qa : (n : Int) / 4294967296 = (a : Int)) (Xa : Hid (bitLen n = 32 + bitLen a)) (d1 : decide ((65536 : Int) ≤ (a : Int)) = false) (d2 : decide ((256 : Int) ≤ (a : Int)) = true) (c : Nat) (qc : (a : Int) / 256 = (c : Int)) (Xc : Hid (bitLen a = 8 + bitLen c)) (hm : (c : Int) < 256) :
    Calls Tryd.prog 56 #[.int .u64 n] w fun e w' => e = .returned (.int .i64 (bitLen n)) ∧ w' = w := by
  go_enter Tryd.func56, Tryd.ntmps56
  go_wp2_with fail
  go_ret
  refine ⟨congrArg Ending.returned (congrArg (Value.int IntKind.i64) ?_), rfl⟩
  rw [len8tab_get]
  exact len_close 40 n _ (by omega) (by omega) (by have e0 := Xa.out; have e1 := Xc.out; omega)

set_option maxHeartbeats 1000000 in
set_option maxRecDepth 100000 in
theorem len_100 (n : Nat) (w : World) (d0 : decide ((4294967296 : Int) ≤ (n : Int)) = true) (a : Nat) (qa : (n : Int) / 4294967296 = (a : Int)) (Xa : Hid (bitLen n = 32 + bitLen a)) (d1 : decide ((65536 : Int) ≤ (a : Int)) = false) (d2 : decide ((256 : Int) ≤ (a : Int)) = false) (hm : (a : Int) < 256) :
    Calls Tryd.prog 56 #[.int .u64 n] w fun e w' => e = .returned (.int .i64 (bitLen n)) ∧ w' = w := by
  go_enter Tryd.func56, Tryd.ntmps56
  go_wp2_with fail
  go_ret
  refine ⟨congrArg Ending.returned (congrArg (Value.int IntKind.i64) ?_), rfl⟩
  rw [len8tab_get]
  exact len_close 32 n _ (by omega) (by omega) (by have e0 := Xa.out; omega)

set_option maxHeartbeats 1000000 in
set_option maxRecDepth 100000 in
theorem len_011 (n : Nat) (w : World) (d0 : decide ((4294967296 : Int) ≤ (n : Int)) = false) (d1 : decide ((65536 : Int) ≤ (n : Int)) = true) (b : Nat) (qb : (n : Int) / 65536 = (b : Int)) (Xb : Hid (bitLen n = 16 + bitLen b)) (d2 : decide ((256 : Int) ≤ (b : Int)) = true) (c : Nat) (qc : (b : Int) / 256 = (c : Int)) (Xc : Hid (bitLen b = 8 + bitLen c)) (hm : (c : Int) < 256) :
    Calls Tryd.prog 56 #[.int .u64 n] w fun e w' => e = .returned (.int .i64 (bitLen n)) ∧ w' = w := by
  go_enter Tryd.func56, Tryd.ntmps56
  go_wp2_with fail
  go_ret
  refine ⟨congrArg Ending.returned (congrArg (Value.int IntKind.i64) ?_), rfl⟩
  rw [len8tab_get]
  exact len_close 24 n _ (by omega) (by omega) (by have e0 := Xb.out; have e1 := Xc.out; omega)

set_option maxHeartbeats 1000000 in
set_option maxRecDepth 100000 in
theorem len_010 (n : Nat) (w : World) (d0 : decide ((4294967296 : Int) ≤ (n : Int)) = false) (d1 : decide ((65536 : Int) ≤ (n : Int)) = true) (b : Nat) (qb : (n : Int) / 65536 = (b : Int)) (Xb : Hid (bitLen n = 16 + bitLen b)) (d2 : decide ((256 : Int) ≤ (b : Int)) = false) (hm : (b : Int) < 256) :
    Calls Tryd.prog 56 #[.int .u64 n] w fun e w' => e = .returned (.int .i64 (bitLen n)) ∧ w' = w := by
  go_enter Tryd.func56, Tryd.ntmps56
  go_wp2_with fail
  go_ret
  refine ⟨congrArg Ending.returned (congrArg (Value.int IntKind.i64) ?_), rfl⟩
  rw [len8tab_get]
  exact len_close 16 n _ (by omega) (by omega) (by have e0 := Xb.out; omega)

set_option maxHeartbeats 1000000 in
set_option maxRecDepth 100000 in
theorem len_001 (n : Nat) (w : World) (d0 : decide ((4294967296 : Int) ≤ (n : Int)) = false) (d1 : decide ((65536 : Int) ≤ (n : Int)) = false) (d2 : decide ((256 : Int) ≤ (n : Int)) = true) (c : Nat) (qc : (n : Int) / 256 = (c : Int)) (Xc : Hid (bitLen n = 8 + bitLen c)) (hm : (c : Int) < 256) :
    Calls Tryd.prog 56 #[.int .u64 n] w fun e w' => e = .returned (.int .i64 (bitLen n)) ∧ w' = w := by
  go_enter Tryd.func56, Tryd.ntmps56
  go_wp2_with fail
  go_ret
  refine ⟨congrArg Ending.returned (congrArg (Value.int IntKind.i64) ?_), rfl⟩
  rw [len8tab_get]
  exact len_close 8 n _ (by omega) (by omega) (by have e0 := Xc.out; omega)

set_option maxHeartbeats 1000000 in
set_option maxRecDepth 100000 in
theorem len_000 (n : Nat) (w : World) (d0 : decide ((4294967296 : Int) ≤ (n : Int)) = false) (d1 : decide ((65536 : Int) ≤ (n : Int)) = false) (d2 : decide ((256 : Int) ≤ (n : Int)) = false) (hm : (n : Int) < 256) :
    Calls Tryd.prog 56 #[.int .u64 n] w fun e w' => e = .returned (.int .i64 (bitLen n)) ∧ w' = w := by
  go_enter Tryd.func56, Tryd.ntmps56
  go_wp2_with fail
  go_ret
  refine ⟨congrArg Ending.returned (congrArg (Value.int IntKind.i64) ?_), rfl⟩
  rw [len8tab_get]
  first | exact len_close0 n (by omega) | exact len_close1 n (by omega)
theorem len64_any (n : Nat) (h : n < 18446744073709551616) (w : World) :
    Calls Tryd.prog 56 #[.int .u64 n] w fun e w' => e = .returned (.int .i64 (bitLen n)) ∧ w' = w := by
  by_cases h1 : ((4294967296 : Nat) : Int) ≤ (n : Int)
  · obtain ⟨a, qa, ba, Xa⟩ := quot_by n 18446744073709551616 4294967296 4294967296 32 (by decide) (by decide) (by omega) h1
    by_cases h2 : ((65536 : Nat) : Int) ≤ (a : Int)
    · obtain ⟨b, qb, bb, Xb⟩ := quot_by a 4294967296 65536 65536 16 (by decide) (by decide) (by omega) h2
      by_cases h3 : ((256 : Nat) : Int) ≤ (b : Int)
      · obtain ⟨c, qc, bc, Xc⟩ := quot_by b 65536 256 256 8 (by decide) (by decide) (by omega) h3
        exact len_111 n w (decide_eq_true h1) a qa Xa (decide_eq_true h2) b qb Xb (decide_eq_true h3) c qc Xc (by omega)
      · exact len_110 n w (decide_eq_true h1) a qa Xa (decide_eq_true h2) b qb Xb (decide_eq_false h3) (by omega)
    · by_cases h3 : ((256 : Nat) : Int) ≤ (a : Int)
      · obtain ⟨c, qc, bc, Xc⟩ := quot_by a 65536 256 256 8 (by decide) (by decide) (by omega) h3
        exact len_101 n w (decide_eq_true h1) a qa Xa (decide_eq_false h2) (decide_eq_true h3) c qc Xc (by omega)
      · exact len_100 n w (decide_eq_true h1) a qa Xa (decide_eq_false h2) (decide_eq_false h3) (by omega)
  · by_cases h2 : ((65536 : Nat) : Int) ≤ (n : Int)
    · obtain ⟨b, qb, bb, Xb⟩ := quot_by n 4294967296 65536 65536 16 (by decide) (by decide) (by omega) h2
      by_cases h3 : ((256 : Nat) : Int) ≤ (b : Int)
      · obtain ⟨c, qc, bc, Xc⟩ := quot_by b 65536 256 256 8 (by decide) (by decide) (by omega) h3
        exact len_011 n w (decide_eq_false h1) (decide_eq_true h2) b qb Xb (decide_eq_true h3) c qc Xc (by omega)
      · exact len_010 n w (decide_eq_false h1) (decide_eq_true h2) b qb Xb (decide_eq_false h3) (by omega)
    · by_cases h3 : ((256 : Nat) : Int) ≤ (n : Int)
      · obtain ⟨c, qc, bc, Xc⟩ := quot_by n 65536 256 256 8 (by decide) (by decide) (by omega) h3
        exact len_001 n w (decide_eq_false h1) (decide_eq_false h2) (decide_eq_true h3) c qc Xc (by omega)
      · exact len_000 n w (decide_eq_false h1) (decide_eq_false h2) (decide_eq_false h3) (by omega)
set_option maxRecDepth 100000

/-- a number's bytes, and the rest of eight -/
def fixP (n k : Nat) : List UInt8 := fixL n k ++ List.replicate (8 - k) 0
theorem fixP_length (n k : Nat) (h : k ≤ 8) : (fixP n k).length = 8 := by
  unfold fixP
  rw [List.length_append, fixL_length, List.length_replicate]
  omega
theorem fixP_step (n k : Nat) (h : k < 8) : (fixP n k).set k (UInt8.ofNat (n / 256 ^ k % 256)) = fixP n (k + 1) := by
  unfold fixP
  rw [List.set_append_right _ _ (by rw [fixL_length]; exact Nat.le_refl _), fixL_length, Nat.sub_self, fixL_snoc, show 8 - k = (8 - (k + 1)) + 1 by omega, List.replicate_succ, List.set_cons_zero]
  simp
theorem HasBytes.take {w : World} {g : Nat} {l : List UInt8} (h : HasBytes w g l) (m : Nat) : HasBytes w g (l.take m) := by
  intro j hj
  rw [List.length_take] at hj
  have := h j (by omega)
  rw [List.getD_eq_getElem?_getD, List.getElem?_take, if_pos (by omega), ← List.getD_eq_getElem?_getD]
  exact this
/-- bytes as numbers -/
def toI (l : List UInt8) : List Int := l.map fun b => (b.toNat : Int)
theorem toI_length (l : List UInt8) : (toI l).length = l.length := by simp [toI]
theorem toI_getD (l : List UInt8) (j : Nat) : (toI l).getD j 0 = ((l.getD j 0).toNat : Int) := by
  simp only [toI, List.getD_eq_getElem?_getD, List.getElem?_map]
  cases l[j]? <;> rfl
theorem Row.bytes {w : World} {g t} {l : List UInt8} (h : Row w g t .u8 (toI l)) : HasBytes w g l := by
  intro j hj
  exact ⟨by rw [h.cell j (by rw [toI_length]; exact hj), toI_getD], h.frozen j⟩
theorem byte_at (n k : Nat) : ((n : Int) / 2 ^ (8 * k)) % 256 = ((UInt8.ofNat (n / 256 ^ k % 256)).toNat : Int) := by
  rw [byte_mod, pow256]
  have e : ((n : Int) / 2 ^ (8 * k)) = ((n / 2 ^ (8 * k) : Nat) : Int) := by
    rw [Int.natCast_ediv, Int.natCast_pow]
    rfl
  rw [e]
  rfl
theorem encFixed_any (n : Nat) (b : Int) (w : World) :
    Calls Tryd.prog 42 #[.int .u64 n, .int .i64 b] w fun e w' => e = .returned (.string ⟨(fixL n (wid b).toNat).toArray⟩) ∧ Below w.heap.size w w' := by
  obtain ⟨h0, h8⟩ := wid_le b
  obtain ⟨m, hm⟩ := Int.eq_ofNat_of_zero_le h0
  have hm8 : m ≤ 8 := by omega
  rw [hm, Int.toNat_natCast]
  generalize hR : fixL n m = R
  have HR := Hid.mk hR
  clear hR h0 h8
  go_enter Tryd.func42, Tryd.ntmps42
  go_wp2_with fail
  go_loopw [7] (fun i wr => ∃ k : Nat, k ≤ 8 ∧ i = .int .i64 k ∧ HasBytes wr w.heap.size (fixP n k) ∧ Below w.heap.size w wr) (fun i _ => 8 - (intOf i).toNat)
  case atStart => exact ⟨0, Nat.zero_le _, rfl, Row.bytes (t := 135) (Row.fresh w 135 .u8 (toI (List.replicate 8 0))), (Below.refl w.heap.size w).alloc (Nat.le_refl _) _⟩
  case round =>
    obtain ⟨k, hk, rfl, hB, hb⟩ := hrel
    by_cases hk8 : k < 8
    · obtain ⟨c1, f1⟩ := hB k (by rw [fixP_length _ _ hk]; exact hk8)
      have HQ := Hid.mk (And.intro hB hb)
      clear hB hb
      generalize hv : (fixP n k).getD k 0 = v at c1
      have HV := Hid.mk hv
      clear hv
      go_wp2_with fail
      refine ⟨⟨k + 1, by omega, by go_num, ?_, HQ.out.2.setCell (Nat.le_refl _) _⟩, by simp [intOf]; omega⟩
      rw [byte_at, ← fixP_step n k hk8]
      exact HQ.out.1.stored k (by rw [fixP_length _ _ hk]; exact hk8) _
    · have hk2 : k = 8 := by omega
      rw [hk2] at hB
      have hbk := (HasBytes.take hB m).back (P := Tryd.prog) 51 9 5 m 8 (by rw [List.length_take, fixP_length _ _ (Nat.le_refl _)]; omega) Tryd.underlying51 Tryd.underlying5 Tryd.underlying9
      have hsl := sliceTo (P := Tryd.prog) Tryd.underlying135 (by kernel_rfl) w.heap.size m hm8
      have et : (fixP n 8).take m = fixL n m := by
        unfold fixP
        rw [Nat.sub_self, List.replicate_zero, List.append_nil, fixL_take _ _ _ hm8]
      rw [et, HR.out] at hbk
      have HB := Hid.mk hb
      clear hB hb et hk2
      go_wp2_with (go_at_call 55; refine (width_any _ _).mono ?_; rintro x w' ⟨rfl, rfl⟩; rw [hm])
      go_ret
      exact ⟨rfl, HB.out⟩
/-- a text of one byte -/
theorem run_one (k : Nat) (hk : k < 256) (W : World) (g : Nat) (h : W.cell? ⟨g, 0, none⟩ = some (.int .u8 (k : Int))) :
    (convert 51 9 (.slice (some ⟨g, 0, none⟩) 1 1)).run Tryd.prog W = .ok (.string ⟨#[UInt8.ofNat k]⟩) W := by
  refine run_convert_bytes_back (P := Tryd.prog) W 51 9 5 ⟨g, 0, none⟩ 1 [UInt8.ofNat k] Tryd.underlying51 Tryd.underlying5 Tryd.underlying9 ?_
  intro j hj
  obtain rfl : j = 0 := by simp at hj; omega
  have e : (((UInt8.ofNat k).toNat : Nat) : Int) = k := by rw [UInt8.toNat_ofNat']; omega
  simp only [List.getElem_cons_zero, e]
  exact h
theorem kept_one (w0 w1 : World) (v : Value) (b : Below (w0.alloc (.cells #[v] 5)).drew.heap.size (w0.alloc (.cells #[v] 5)).drew w1) : w1.cell? ⟨w0.heap.size, 0, none⟩ = some v := by
  rw [b.cell (p := ⟨w0.heap.size, 0, none⟩) (by show w0.heap.size < (w0.alloc (.cells #[v] 5)).heap.size; rw [size_alloc]; omega)]
  exact cell_of_row _ _ 0 _ 5 _ (heap_alloc_new w0 _)
theorem encNum_any (n : Nat) (hn : n < 18446744073709551616) (w : World) :
    Calls Tryd.prog 44 #[.int .u64 n] w fun e w' => e = .returned (.string ⟨(numL n).toArray⟩) ∧ Below w.heap.size w w' := by
  have h8 := nb_le8 n hn
  have hbl : ((bitLen n : Int) + 7).tdiv 8 = (nb n : Int) := by
    unfold nb
    rw [Int.tdiv_eq_ediv_of_nonneg (by omega)]
    omega
  have hbb : bitLen n ≤ 64 := by
    unfold nb at h8
    omega
  have hw : wid (nb n : Int) = (nb n : Int) := by unfold wid; rw [if_neg (by omega), if_neg (by omega)]
  have hR : (⟨#[UInt8.ofNat (nb n)]⟩ : ByteArray) ++ ⟨(fixL n (nb n)).toArray⟩ = ⟨(numL n).toArray⟩ := by
    unfold numL digs
    apply ByteArray.ext
    simp
  have hz : (⟨(fixL n (nb n)).toArray⟩ : ByteArray).size ≤ 8 := by
    show (fixL n (nb n)).toArray.size ≤ 8
    rw [List.size_toArray, fixL_length]
    exact h8
  have hz1 : (⟨#[UInt8.ofNat (nb n)]⟩ : ByteArray).size = 1 := rfl
  generalize hk : nb n = k at *
  have hone := run_one k (by omega)
  generalize hF : (⟨(fixL n k).toArray⟩ : ByteArray) = F at *
  generalize (⟨#[UInt8.ofNat k]⟩ : ByteArray) = O at *
  generalize (⟨(numL n).toArray⟩ : ByteArray) = R at *
  have hwr : IntKind.u8.wrap (k : Int) = k := by simp [IntKind.wrap, IntKind.bits, IntKind.signed]; omega
  have HR := Hid.mk (And.intro hR hk)
  clear hR hk
  go_enter Tryd.func44, Tryd.ntmps44
  go_wp2_with (go_at_call 56; refine (len64_any n hn _).mono ?_; rintro e w' ⟨rfl, rfl⟩)
  clear hbl hbb hn
  go_region_with (go_at_call 42; refine (encFixed_any n _ _).mono ?_; rintro e w1 ⟨rfl, b1⟩; rw [hw, Int.toNat_natCast, hF]; try (have cc := kept_one _ _ _ b1))
  all_goals
    go_wp2_with fail
    go_ret
    refine ⟨by rw [← HR.out.1]; rfl, ?_⟩
    first
    | exact below3 ((Below.refl _ w').alloc (Nat.le_refl _) _).drew b1
    | exact (below3 (Below.refl _ w').drew b1).alloc (below3 (Below.refl _ w').drew b1).size _
theorem numL_size (n : Nat) (h : n < 18446744073709551616) : (⟨(numL n).toArray⟩ : ByteArray).size ≤ 9 := by
  show (numL n).toArray.size ≤ 9
  rw [List.size_toArray, numL_length]
  have := nb_le8 n h
  omega
end Go.Proofs.YtbhggcleijjofaaDoor.Gp
