/-
  What a word says as a count (manifest.Count 27): sign by sign. No condition.
-/
import Derived.Test.YtdolilgkjknckaaDoorRd
import Derived.Laws.RangeAny
import Derived.Laws.Closers25
import Derived.LoopTactic
namespace Go.Proofs.YtdolilgkjknckaaDoor
open Go.RowKit
set_option maxRecDepth 100000
def isD (b : UInt8) : Bool := decide (48 ≤ b.toNat) && decide (b.toNat ≤ 57)
def stepD (n : Nat) (b : UInt8) : Nat := 10 * n + (b.toNat - 48)
/-- what digits say -/
def val (l : List UInt8) : Nat := l.foldl stepD 0
/-- what a word says as a count -/
def cntV (l : List UInt8) : Int × Bool :=
  if l = [] ∨ (l.head? = some 48 ∧ l ≠ [48]) then (0, false) else if l.all isD = true ∧ val l < 2147483648 then ((val l : Nat), true) else (0, false)
theorem stepD_ge (l : List UInt8) : ∀ n, n ≤ l.foldl stepD n := by
  induction l with
  | nil => intro n; exact Nat.le_refl _
  | cons b t ih =>
    intro n
    exact Nat.le_trans (show n ≤ stepD n b by unfold stepD; omega) (ih _)
theorem val_take_le (l : List UInt8) (k : Nat) : val (l.take k) ≤ val l := by
  have e : val l = (l.drop k).foldl stepD (val (l.take k)) := by
    unfold val
    rw [← List.foldl_append, List.take_append_drop]
  rw [e]
  exact stepD_ge _ _
theorem val_snoc (l : List UInt8) (b : UInt8) : val (l ++ [b]) = 10 * val l + (b.toNat - 48) := by
  unfold val
  rw [List.foldl_append]
  rfl
theorem take_snoc (l : List UInt8) (k : Nat) (h : k < l.length) : l.take (k + 1) = l.take k ++ [l[k]] := by rw [List.take_append_getElem h]
theorem not_all_of (l : List UInt8) (k : Nat) (h : k < l.length) (hd : isD l[k] = false) : ¬ l.all isD = true := by
  intro ha
  rw [List.all_eq_true] at ha
  rw [ha _ (List.getElem_mem h)] at hd
  cases hd
theorem cntV_no (l : List UInt8) (k : Nat) (h : k < l.length) (hd : isD l[k] = false) : cntV l = (0, false) := by
  unfold cntV
  have := not_all_of l k h hd
  split
  · rfl
  · rw [if_neg (fun x => this x.1)]
theorem cntV_big (l : List UInt8) (k : Nat) (hd : 2147483648 ≤ val (l.take k)) : cntV l = (0, false) := by
  unfold cntV
  have := val_take_le l k
  split
  · rfl
  · rw [if_neg (fun x => by omega)]
theorem rune_no (s : ByteArray) (pos : Nat) (h : pos < s.size) (hd : isD (s[pos]'h) = false) : (Utf8.decode s pos).1 < 48 ∨ 57 < (Utf8.decode s pos).1 := by
  by_cases ha : (s[pos]'h).toNat < 128
  · rw [decode_ascii s pos h ha]
    unfold isD at hd
    rw [Bool.and_eq_false_iff, decide_eq_false_iff_not, decide_eq_false_iff_not] at hd
    show (s[pos]'h).toNat < 48 ∨ 57 < (s[pos]'h).toNat
    omega
  · have := (decode_high s pos h (by omega)).1
    omega
theorem count_walk (s : ByteArray) (w : World) :
    Calls Tryd.prog 27 #[.string s] w fun e w' => e = .returned (.tuple #[.int .i64 (cntV s.data.toList).1, .bool (cntV s.data.toList).2]) ∧ Below w.heap.size w w' := by
  have hl : s.toList = s.data.toList := ByteArray.toList_eq s
  have hz : s.data.toList.length = s.size := Array.length_toList
  have hg : ∀ k (h : k < s.size), s.data.toList[k]? = some s[k] := fun k h => by rw [List.getElem?_eq_getElem (by omega)]; rfl
  generalize s.data.toList = l at *
  have HL := Hid.mk hg
  clear hg
  by_cases hE : l = []
  · have hem : l.isEmpty = true := by rw [hE]; rfl
    have e : cntV l = (0, false) := by unfold cntV; rw [if_pos (Or.inl hE)]
    rw [e]
    clear hE e
    go_enter Tryd.func27, Tryd.ntmps27
    go_wp2_with fail
    go_ret2
    exact ⟨rfl, Below.refl _ _⟩
  have hem : l.isEmpty = false := by cases l with
    | nil => exact absurd rfl hE
    | cons x t => rfl
  have hpos : 0 < s.size := by cases l with
    | nil => exact absurd rfl hE
    | cons x t => rw [← hz]; exact Nat.succ_pos _
  have hh : l.head? = some s[0] := by rw [List.head?_eq_getElem?, HL.out 0 hpos]
  by_cases h48 : (s[0].toNat : Int) = 48
  · have h48' : s[0] = 48 := UInt8.toNat_inj.1 (by have : (48 : UInt8).toNat = 48 := rfl; omega)
    by_cases h1 : ¬ l = [48]
    · have hb : (l == [48]) = false := beq_eq_false_iff_ne.2 h1
      have e : cntV l = (0, false) := by unfold cntV; rw [if_pos (Or.inr ⟨by rw [hh, h48'], h1⟩)]
      rw [e]
      clear hE e h1 hh h48'
      go_enter Tryd.func27, Tryd.ntmps27
      go_wp2_with fail
      go_ret2
      exact ⟨rfl, Below.refl _ _⟩
    replace h1 := Classical.not_not.1 h1
    have hF : ¬ (l = [] ∨ (l.head? = some 48 ∧ l ≠ [48])) := by
      rintro (h | ⟨_, h⟩)
      · exact hE h
      · exact h h1
    have hb : (l == [48]) = true := by rw [h1]; rfl
    have HF := Hid.mk hF
    clear hF hE hh h48' h1
    go_enter Tryd.func27, Tryd.ntmps27
    go_wp2_with fail
    go_loopw [4] (fun n wr => ∃ pos : Nat, wr = w.iter s pos ∧ pos ≤ s.size ∧ n = .int .u64 (val (l.take pos) : Nat) ∧ val (l.take pos) < 2147483648 ∧ ((l.take pos).all isD = true)) (fun _ wr => s.size - wr.iterPos w.heap.size)
    case atStart => exact ⟨0, rfl, Nat.zero_le _, rfl, show (0 : Nat) < 2147483648 by decide, rfl⟩
    case round =>
      obtain ⟨pos, rfl, hp, rfl, hv, ha⟩ := hrel
      by_cases hlt : pos < s.size
      · by_cases hd : isD s[pos] = true
        · have hb := hd
          unfold isD at hb
          rw [Bool.and_eq_true, decide_eq_true_iff, decide_eq_true_iff] at hb
          have hnx : ∀ ty, (Instr.next (.pointer (some ⟨w.heap.size, 0, none⟩)) true ty).run Tryd.prog (w.iter s pos) = _ := fun ty => run_next_ascii w s pos ty hlt (by omega)
          have hsn : l.take (pos + 1) = l.take pos ++ [s[pos]] := by
            have h1 := take_snoc l pos (by omega)
            have h2 := HL.out pos hlt
            rw [List.getElem?_eq_getElem (by omega)] at h2
            rw [h1, Option.some.inj h2]
          have hvs : val (l.take (pos + 1)) = 10 * val (l.take pos) + (s[pos].toNat - 48) := by rw [hsn, val_snoc]
          have HA := Hid.mk (And.intro ha hsn)
          clear ha hsn
          generalize s[pos] = b at *
          generalize val (l.take pos) = V at *
          go_wp2_with fail
          · go_ret2
            rw [cntV_big l (pos + 1) (by omega)]
            exact ⟨rfl, (Below.refl _ _).alloc (Nat.le_refl _) _⟩
          · exact ⟨⟨pos + 1, rfl, by omega, by rw [hvs]; congr 1; omega, by omega, by rw [HA.out.2, List.all_append, HA.out.1]; simp [hd]⟩, by simp; omega⟩
        · have hnx : ∀ ty, (Instr.next (.pointer (some ⟨w.heap.size, 0, none⟩)) true ty).run Tryd.prog (w.iter s pos) = _ := fun ty => run_next_any w s pos ty hlt
          have hr := rune_no s pos hlt (by simpa using hd)
          have hc : cntV l = (0, false) := by
            refine cntV_no l pos (by omega) ?_
            have h2 := HL.out pos hlt
            rw [List.getElem?_eq_getElem (by omega)] at h2
            rw [Option.some.inj h2]
            simpa using hd
          clear hd
          have HC := Hid.mk hc
          clear hc
          generalize (Utf8.decode s pos).1 = r at *
          generalize (Utf8.decode s pos).2 = p2 at *
          go_wp2_with fail
          all_goals first
            | (exfalso; omega)
            | (go_ret2; rw [HC.out]; exact ⟨rfl, (Below.refl _ _).alloc (Nat.le_refl _) _⟩)
      · have hnx : ∀ ty, (Instr.next (.pointer (some ⟨w.heap.size, 0, none⟩)) true ty).run Tryd.prog (w.iter s pos) = _ := fun ty => run_next_end w s pos ty hlt
        have e : l.take pos = l := List.take_of_length_le (by omega)
        rw [e] at hv ha
        rw [e]
        have hc : cntV l = (((val l : Nat) : Int), true) := by
          unfold cntV
          rw [if_neg HF.out, if_pos ⟨ha, hv⟩]
        have HC := Hid.mk hc
        clear hc
        generalize hV : val l = V at *
        go_wp2_with fail
        go_ret2
        rw [HC.out]
        exact ⟨rfl, (Below.refl _ _).alloc (Nat.le_refl _) _⟩
  · have hF : ¬ (l = [] ∨ (l.head? = some 48 ∧ l ≠ [48])) := by
      rintro (h | ⟨h, _⟩)
      · exact hE h
      · rw [hh] at h
        exact h48 (by rw [Option.some.inj h]; rfl)
    have HF := Hid.mk hF
    clear hF hE hh
    go_enter Tryd.func27, Tryd.ntmps27
    go_wp2_with fail
    go_loopw [4] (fun n wr => ∃ pos : Nat, wr = w.iter s pos ∧ pos ≤ s.size ∧ n = .int .u64 (val (l.take pos) : Nat) ∧ val (l.take pos) < 2147483648 ∧ ((l.take pos).all isD = true)) (fun _ wr => s.size - wr.iterPos w.heap.size)
    case atStart => exact ⟨0, rfl, Nat.zero_le _, rfl, show (0 : Nat) < 2147483648 by decide, rfl⟩
    case round =>
      obtain ⟨pos, rfl, hp, rfl, hv, ha⟩ := hrel
      by_cases hlt : pos < s.size
      · by_cases hd : isD s[pos] = true
        · have hb := hd
          unfold isD at hb
          rw [Bool.and_eq_true, decide_eq_true_iff, decide_eq_true_iff] at hb
          have hnx : ∀ ty, (Instr.next (.pointer (some ⟨w.heap.size, 0, none⟩)) true ty).run Tryd.prog (w.iter s pos) = _ := fun ty => run_next_ascii w s pos ty hlt (by omega)
          have hsn : l.take (pos + 1) = l.take pos ++ [s[pos]] := by
            have h1 := take_snoc l pos (by omega)
            have h2 := HL.out pos hlt
            rw [List.getElem?_eq_getElem (by omega)] at h2
            rw [h1, Option.some.inj h2]
          have hvs : val (l.take (pos + 1)) = 10 * val (l.take pos) + (s[pos].toNat - 48) := by rw [hsn, val_snoc]
          have HA := Hid.mk (And.intro ha hsn)
          clear ha hsn
          generalize s[pos] = b at *
          generalize val (l.take pos) = V at *
          go_wp2_with fail
          · go_ret2
            rw [cntV_big l (pos + 1) (by omega)]
            exact ⟨rfl, (Below.refl _ _).alloc (Nat.le_refl _) _⟩
          · exact ⟨⟨pos + 1, rfl, by omega, by rw [hvs]; congr 1; omega, by omega, by rw [HA.out.2, List.all_append, HA.out.1]; simp [hd]⟩, by simp; omega⟩
        · have hnx : ∀ ty, (Instr.next (.pointer (some ⟨w.heap.size, 0, none⟩)) true ty).run Tryd.prog (w.iter s pos) = _ := fun ty => run_next_any w s pos ty hlt
          have hr := rune_no s pos hlt (by simpa using hd)
          have hc : cntV l = (0, false) := by
            refine cntV_no l pos (by omega) ?_
            have h2 := HL.out pos hlt
            rw [List.getElem?_eq_getElem (by omega)] at h2
            rw [Option.some.inj h2]
            simpa using hd
          clear hd
          have HC := Hid.mk hc
          clear hc
          generalize (Utf8.decode s pos).1 = r at *
          generalize (Utf8.decode s pos).2 = p2 at *
          go_wp2_with fail
          all_goals first
            | (exfalso; omega)
            | (go_ret2; rw [HC.out]; exact ⟨rfl, (Below.refl _ _).alloc (Nat.le_refl _) _⟩)
      · have hnx : ∀ ty, (Instr.next (.pointer (some ⟨w.heap.size, 0, none⟩)) true ty).run Tryd.prog (w.iter s pos) = _ := fun ty => run_next_end w s pos ty hlt
        have e : l.take pos = l := List.take_of_length_le (by omega)
        rw [e] at hv ha
        rw [e]
        have hc : cntV l = (((val l : Nat) : Int), true) := by
          unfold cntV
          rw [if_neg HF.out, if_pos ⟨ha, hv⟩]
        have HC := Hid.mk hc
        clear hc
        generalize hV : val l = V at *
        go_wp2_with fail
        go_ret2
        rw [HC.out]
        exact ⟨rfl, (Below.refl _ _).alloc (Nat.le_refl _) _⟩
end Go.Proofs.YtdolilgkjknckaaDoor
