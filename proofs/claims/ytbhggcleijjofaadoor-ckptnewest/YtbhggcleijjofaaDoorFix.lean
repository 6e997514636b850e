/-
  The reader's block, and the calls that read and write it: Err, Left, End, fail, Bytes, New. No condition. The reader's Fixed, Num and Text. No condition.
-/
import Derived.Test.YtbhggcleijjofaaDoorRows
import Derived.Test.YtbhggcleijjofaaDoorMem
import Derived.WalkSpells
import Derived.WalkLawsBesides
import Derived.Laws.BitsAllLaws
import Derived.Test.YtbhggcleijjofaaDoorNum
import Derived.Laws.Bits64b
namespace Go.Proofs.YtbhggcleijjofaaDoor.Pg
open Go Go.RowKit

theorem Hid.mk {p : Prop} (h : p) : Hid p := h
/-- block g is a reader of these bytes, with this error -/
def Rd (w : World) (g : Nat) (s : ByteArray) (e : Int) : Prop := w.heap[g]? = some (.cells #[.string s, .int .i64 e] 180 (0, 0))
theorem Rd.lt {w : World} {g s e} (h : Rd w g s e) : g < w.heap.size := (Array.getElem?_eq_some_iff.1 h).1
theorem Rd.rest {w : World} {g s e} (h : Rd w g s e) : w.cell? ⟨g, 0, none⟩ = some (.string s) := by rw [cell_of_row w g 0 _ 180 _ h]; rfl
theorem Rd.err {w : World} {g s e} (h : Rd w g s e) : w.cell? ⟨g, 1, none⟩ = some (.int .i64 e) := by rw [cell_of_row w g 1 _ 180 _ h]; rfl
theorem Rd.frozen {w : World} {g s e} (h : Rd w g s e) (j : Nat) : w.frozen? ⟨g, j, none⟩ = false := frozen_of_row w g j _ 180 h
theorem Rd.drew {w : World} {g s e} (h : Rd w g s e) : Rd w.drew g s e := h
theorem Rd.drewN {w : World} {g s e} (h : Rd w g s e) (n : Nat) : Rd (w.drewN n) g s e := h
theorem Rd.call {w w' : World} {g s e} (h : Rd w g s e) (b : Below w.heap.size w w') : Rd w' g s e := (b.block g h.lt).trans h
theorem Rd.alloc {w : World} {g s e} (h : Rd w g s e) (o : Obj) : Rd (w.alloc o) g s e := (Below.heap_alloc w o g h.lt).trans h
theorem Rd.kept {w w' : World} {g g0 s e} (h : Rd w g s e) (b : w.grownBy w' (some g0)) (hne : g ≠ g0) : Rd w' g s e := (b.block g h.lt (by simpa using hne)).trans h
theorem Rd.setRest {w : World} {g s e} (h : Rd w g s e) (t : ByteArray) : Rd (w.setCell ⟨g, 0, none⟩ (.string t)) g t e := by
  have := heap_setCell_same w g 0 _ 180 (.string t) h
  exact this
theorem Rd.setErr {w : World} {g s e} (h : Rd w g s e) (k : Int) : Rd (w.setCell ⟨g, 1, none⟩ (.int .i64 k)) g s k := by
  have := heap_setCell_same w g 1 _ 180 (.int .i64 k) h
  exact this
theorem grown_setCell (w : World) (a : Addr) (u : Value) : w.grownBy (w.setCell a u) (some a.block) :=
  ⟨rfl, rfl, rfl, by simp [World.setCell], fun b _ hne => Below.heap_setCell w a u b (fun e => hne (by rw [e]))⟩
theorem grown_refl (w : World) (g : Option Nat) : w.grownBy w g := ⟨rfl, rfl, rfl, Nat.le_refl _, fun _ _ _ => rfl⟩
theorem grown_trans {a b c : World} {g : Option Nat} (h : a.grownBy b g) (k : b.grownBy c g) : a.grownBy c g :=
  ⟨k.os.trans h.os, k.tape.trans h.tape, k.output.trans h.output, Nat.le_trans h.size k.size, fun i hi hne => (k.block i (Nat.lt_of_lt_of_le hi h.size) hne).trans (h.block i hi hne)⟩
theorem grown_below {a b c : World} {g : Option Nat} (h : a.grownBy b g) (k : Below b.heap.size b c) : a.grownBy c g :=
  ⟨k.os.trans h.os, k.tape.trans h.tape, k.output.trans h.output, Nat.le_trans h.size k.size, fun i hi hne => (k.block i (Nat.lt_of_lt_of_le hi h.size)).trans (h.block i hi hne)⟩
theorem grown_alloc {a b : World} {g : Option Nat} (h : a.grownBy b g) (o : Obj) : a.grownBy (b.alloc o) g :=
  grown_below h ((Below.refl b.heap.size b).alloc (Nat.le_refl _) o)
theorem grown_drewN {a b : World} {g : Option Nat} (h : a.grownBy b g) (n : Nat) : a.grownBy (b.drewN n) g :=
  ⟨h.os, h.tape, h.output, h.size, h.block⟩

/-- how many bytes a fixed number has -/
def wid (n : Int) : Int := if n < 0 then 0 else if 8 < n then 8 else n
theorem wid_le (n : Int) : 0 ≤ wid n ∧ wid n ≤ 8 := by unfold wid; split <;> (try split) <;> omega
theorem width_any (n : Int) (w : World) : Calls Tryd.prog 55 #[.int .i64 n] w fun e w' => e = .returned (.int .i64 (wid n)) ∧ w' = w := by
  unfold wid
  by_cases h : n < 0
  · rw [if_pos h]
    go_enter Tryd.func55, Tryd.ntmps55
    go_wp2
    go_ret
    exact ⟨rfl, rfl⟩
  · rw [if_neg h]
    by_cases h8 : 8 < n
    · rw [if_pos h8]
      go_enter Tryd.func55, Tryd.ntmps55
      go_wp2
      go_ret
      exact ⟨rfl, rfl⟩
    · rw [if_neg h8]
      go_enter Tryd.func55, Tryd.ntmps55
      go_wp2
      go_ret
      exact ⟨rfl, rfl⟩

theorem err_any {w : World} {g s e} (h : Rd w g s e) : Calls Tryd.prog 98 #[.pointer (some ⟨g, 0, none⟩)] w fun x w' => x = .returned (.int .i64 e) ∧ w' = w := by
  have c1 := h.err
  have HH := Hid.mk h
  clear h
  go_enter Tryd.func98, Tryd.ntmps98
  go_wp2
  go_ret
  exact ⟨rfl, rfl⟩
theorem fail_any {w : World} {g s e} (h : Rd w g s e) (k : Int) : Calls Tryd.prog 99 #[.pointer (some ⟨g, 0, none⟩), .int .i64 k] w fun x w' => x = .returned (.tuple #[]) ∧ Rd w' g ⟨#[]⟩ k ∧ w.grownBy w' (some g) := by
  have c0 := h.rest
  have c1 := h.err
  have f0 := h.frozen 0
  have f1 := h.frozen 1
  have HH := Hid.mk h
  clear h
  go_enter Tryd.func99, Tryd.ntmps99
  go_wp2
  go_end0
  exact ⟨rfl, (HH.out.setRest _).setErr _, grown_trans (grown_setCell w ⟨g, 0, none⟩ _) (grown_setCell _ ⟨g, 1, none⟩ _)⟩
theorem new_any (s : ByteArray) (w : World) : Calls Tryd.prog 73 #[.string s] w fun x w' => x = .returned (.pointer (some ⟨w.heap.size, 0, none⟩)) ∧ Rd w' w.heap.size s 0 ∧ Below w.heap.size w w' := by
  go_enter Tryd.func73, Tryd.ntmps73
  go_wp2
  go_ret
  exact ⟨rfl, heap_alloc_new w _, (Below.refl w.heap.size w).alloc (Nat.le_refl _) _⟩
/-- so many bytes off a reader: what is left, the error, what was taken -/
def rB (s : ByteArray) (e n : Int) : ByteArray × Int × ByteArray :=
  if e ≠ 0 then (s, e, ⟨#[]⟩) else if n < 0 ∨ (s.size : Int) < n then (⟨#[]⟩, 2, ⟨#[]⟩) else (s.extract n.toNat s.size, 0, s.extract 0 n.toNat)
theorem bytes_any {w : World} {g s e} (h : Rd w g s e) (n : Int) : Calls Tryd.prog 92 #[.pointer (some ⟨g, 0, none⟩), .int .i64 n] w fun x w' =>
    x = .returned (.string (rB s e n).2.2) ∧ Rd w' g (rB s e n).1 (rB s e n).2.1 ∧ w.grownBy w' (some g) := by
  have c0 := h.rest
  have f0 := h.frozen 0
  have HH := Hid.mk h
  clear h
  by_cases he : e = 0
  · subst he
    by_cases hn : n < 0
    · have er : rB s 0 n = (⟨#[]⟩, 2, ⟨#[]⟩) := by unfold rB; rw [if_neg (by decide), if_pos (Or.inl hn)]
      rw [er]
      clear er
      go_enter Tryd.func92, Tryd.ntmps92
      go_wp2_with (first
        | (go_at_call 98; refine (err_any HH.out).mono ?_; rintro x w' ⟨rfl, rfl⟩)
        | (go_at_call 99; refine (fail_any HH.out _).mono ?_; rintro x w1 ⟨rfl, r1, g1⟩; replace HH := Hid.mk r1; clear r1))
      go_ret
      exact ⟨rfl, HH.out, g1⟩
    · by_cases hs : (s.size : Int) < n
      · have er : rB s 0 n = (⟨#[]⟩, 2, ⟨#[]⟩) := by unfold rB; rw [if_neg (by decide), if_pos (Or.inr hs)]
        rw [er]
        clear er
        go_enter Tryd.func92, Tryd.ntmps92
        go_wp2_with (first
          | (go_at_call 98; refine (err_any HH.out).mono ?_; rintro x w' ⟨rfl, rfl⟩)
          | (go_at_call 99; refine (fail_any HH.out _).mono ?_; rintro x w1 ⟨rfl, r1, g1⟩; replace HH := Hid.mk r1; clear r1))
        go_ret
        exact ⟨rfl, HH.out, g1⟩
      · have er : rB s 0 n = (s.extract n.toNat s.size, 0, s.extract 0 n.toNat) := by unfold rB; rw [if_neg (by decide), if_neg (by omega)]
        rw [er]
        clear er
        go_enter Tryd.func92, Tryd.ntmps92
        go_wp2_with (go_at_call 98; refine (err_any HH.out).mono ?_; rintro x w' ⟨rfl, rfl⟩)
        go_ret
        exact ⟨rfl, HH.out.setRest _, grown_setCell _ ⟨g, 0, none⟩ _⟩
  · have er : rB s e n = (s, e, ⟨#[]⟩) := by unfold rB; rw [if_pos he]
    rw [er]
    clear er
    go_enter Tryd.func92, Tryd.ntmps92
    go_wp2_with (go_at_call 98; refine (err_any HH.out).mono ?_; rintro x w' ⟨rfl, rfl⟩)
    go_ret
    exact ⟨rfl, HH.out, grown_refl _ _⟩
theorem rB_small (s : ByteArray) (e n : Int) (h : n ≤ 8) : (rB s e n).2.2.size ≤ 8 := by
  unfold rB
  split
  · show 0 ≤ 8
    omega
  · split
    · show 0 ≤ 8
      omega
    · rw [ByteArray.size_extract]
      omega
theorem take_succ_at (s : ByteArray) (k : Nat) (h : k < s.size) : s.data.toList.take (k + 1) = s.data.toList.take k ++ [s.data.toList.getD k 0] := by
  have hl : k < s.data.toList.length := by rw [Array.length_toList]; exact h
  rw [List.take_succ_eq_append_getElem hl, List.getD_eq_getElem?_getD, List.getElem?_eq_getElem hl]
  rfl
/-- a byte at its place -/
theorem or_place (a k : Nat) (b : UInt8) (ha : a < 256 ^ k) (hk : k < 8) : bits .or .u64 (a : Int) (IntKind.u64.wrap (IntKind.u64.wrap (b.toNat : Int) * 2 ^ (8 * k))) = ((a + 256 ^ k * b.toNat : Nat) : Int) := by
  have hb := b.toNat_lt
  have h64 : 256 ^ k * 256 ≤ 18446744073709551616 := by
    rw [← Nat.pow_succ]
    exact (Nat.pow_le_pow_right (show 256 > 0 by omega) (show k + 1 ≤ 8 by omega) : 256 ^ (k + 1) ≤ 256 ^ 8)
  have hm : 256 ^ k * b.toNat < 18446744073709551616 := by
    have := Nat.mul_le_mul_left (256 ^ k) (show b.toNat ≤ 255 by omega)
    have := Nat.pow_pos (n := k) (show 0 < 256 by omega)
    omega
  have e1 : IntKind.u64.wrap (b.toNat : Int) = (b.toNat : Int) := by rw [IntKind.wrap_u64]; omega
  have e2 : IntKind.u64.wrap ((b.toNat : Int) * 2 ^ (8 * k)) = ((256 ^ k * b.toNat : Nat) : Int) := by
    have e3 : ((b.toNat : Int) * 2 ^ (8 * k)) = ((256 ^ k * b.toNat : Nat) : Int) := by
      rw [pow256, Int.natCast_mul, Int.natCast_pow, Int.mul_comm]
      rfl
    rw [e3, IntKind.wrap_u64]
    omega
  rw [e1, e2, bits_or_u64_nat _ _ (by omega) hm, Nat.or_comm]
  have h3 := Nat.two_pow_add_eq_or_of_lt (i := 8 * k) (b := a) (by rw [← pow256]; exact ha) b.toNat
  rw [← pow256] at h3
  rw [← h3, Nat.add_comm]
theorem fixed_any {w : World} {g s e} (h : Rd w g s e) (n : Int) : Calls Tryd.prog 74 #[.pointer (some ⟨g, 0, none⟩), .int .i64 n] w fun x w' =>
    x = .returned (.int .u64 (leL (rB s e (wid n)).2.2.data.toList)) ∧ Rd w' g (rB s e (wid n)).1 (rB s e (wid n)).2.1 ∧ w.grownBy w' (some g) := by
  have hsm := rB_small s e (wid n) (wid_le n).2
  generalize hR : rB s e (wid n) = R at *
  obtain ⟨s', e', t⟩ := R
  simp only at hsm
  have HH := Hid.mk h
  clear h
  have hconv := fun w s => run_bytes_of_string (P := Tryd.prog) w 9 51 5 s Tryd.underlying9 Tryd.underlying51 Tryd.underlying5
  go_enter Tryd.func74, Tryd.ntmps74
  go_wp2_with (first
    | (go_at_call 55; refine (width_any _ _).mono ?_; rintro x w' ⟨rfl, rfl⟩)
    | (go_at_call 92; refine (bytes_any HH.out _).mono ?_; rintro x w1 ⟨rfl, r1, g1⟩; rw [hR] at r1 ⊢; replace HH := Hid.mk (And.intro r1 g1); clear r1 g1))
  have hB0 := (HasBytes.converted w1 t (grownCap w1 t.size 0 5) 5).drew
  have hlen : Hid (t.data.toList.length = t.size) := Array.length_toList
  have hz := HH.out.1.lt
  go_loopw [5, 14] (fun v i wr => ∃ k : Nat, k ≤ t.size ∧ i = .int .i64 k ∧ v = .int .u64 (leL (t.data.toList.take k)) ∧ HasBytes wr w1.heap.size t.data.toList ∧ Rd wr g s' e' ∧ w'.grownBy wr (some g)) (fun _ i _ => t.size - (intOf i).toNat)
  case atStart => exact ⟨0, Nat.zero_le _, rfl, by simp [leL], hB0, (HH.out.1.alloc _).drew, grown_drewN (grown_alloc HH.out.2 _) 1⟩
  case round =>
    clear hB0 hconv
    obtain ⟨k, hk, rfl, rfl, hB, hr, hgr⟩ := hrel
    by_cases hks : k < t.size
    · obtain ⟨c1, _⟩ := hB k (by rw [hlen.out]; exact hks)
      have hts := take_succ_at t k hks
      generalize hb : t.data.toList.getD k 0 = b at *
      generalize hl : t.data.toList.take k = l at *
      have HQ := Hid.mk (And.intro hB (And.intro hr (And.intro hgr (And.intro hts (And.intro hb hl)))))
      clear hB hr hgr hts hb hl
      go_wp2_with fail
      obtain ⟨hB, hr, hgr, hts, hb, hl⟩ := HQ.out
      have hll : l.length = k := by rw [← hl, List.length_take, hlen.out]; omega
      have hlt := leL_lt l
      rw [hll] at hlt
      refine ⟨⟨k + 1, by omega, by go_num, ?_, hB, hr, hgr⟩, by simp [intOf]; omega⟩
      rw [hts, leL_append, hll, or_place _ _ _ hlt (by omega)]
      simp [leL]
    · have hk2 : k = t.size := by omega
      subst hk2
      have htk : t.data.toList.take t.size = t.data.toList := List.take_of_length_le (by rw [hlen.out]; exact Nat.le_refl _)
      rw [htk]
      clear htk
      have HQ := Hid.mk (And.intro hr hgr)
      clear hB hr hgr
      generalize hV : leL t.data.toList = V
      replace hV := Hid.mk hV
      go_wp2_with fail
      go_ret
      exact ⟨by rw [hV.out]; rfl, HQ.out⟩

/-- what a reader's Fixed leaves and answers -/
def rF (s : ByteArray) (e n : Int) : ByteArray × Int × Nat := ((rB s e (wid n)).1, (rB s e (wid n)).2.1, leL (rB s e (wid n)).2.2.data.toList)
theorem fixedF_any {w : World} {g s e} (h : Rd w g s e) (n : Int) : Calls Tryd.prog 74 #[.pointer (some ⟨g, 0, none⟩), .int .i64 n] w fun x w' =>
    x = .returned (.int .u64 (rF s e n).2.2) ∧ Rd w' g (rF s e n).1 (rF s e n).2.1 ∧ w.grownBy w' (some g) := fixed_any h n
theorem pow256_le8 (k : Nat) (h : k ≤ 8) : 256 ^ k ≤ 18446744073709551616 := (Nat.pow_le_pow_right (show 256 > 0 by omega) h : 256 ^ k ≤ 256 ^ 8)
theorem rF_lt (s : ByteArray) (e n : Int) : (rF s e n).2.2 < 18446744073709551616 := by
  refine Nat.lt_of_lt_of_le (leL_lt _) (pow256_le8 _ ?_)
  rw [Array.length_toList]
  exact rB_small s e (wid n) (wid_le n).2
end Go.Proofs.YtbhggcleijjofaaDoor.Pg
