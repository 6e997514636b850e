/-
  What a word says as a count by the answer's own text (28), and that this is what the program says. No condition.
-/
import Derived.Test.YtdolilgkjknckaaDoorCnt
namespace Go.Proofs.YtdolilgkjknckaaDoor
open Go.RowKit
set_option maxRecDepth 100000
theorem val_lt (l : List UInt8) : l.all isD = true → val l < 10 ^ l.length := by
  have key : ∀ (l : List UInt8) (n : Nat), l.all isD = true → l.foldl stepD n < (n + 1) * 10 ^ l.length := by
    intro l
    induction l with
    | nil => intro n _; simp
    | cons b t ih =>
      intro n h
      rw [List.all_cons, Bool.and_eq_true] at h
      have hb := h.1
      unfold isD at hb
      rw [Bool.and_eq_true, decide_eq_true_iff, decide_eq_true_iff] at hb
      have h1 := ih (stepD n b) h.2
      rw [List.foldl_cons, List.length_cons, Nat.pow_succ]
      refine Nat.lt_of_lt_of_le h1 ?_
      have h2 : stepD n b + 1 ≤ (n + 1) * 10 := by unfold stepD; omega
      have h3 := Nat.mul_le_mul_right (10 ^ t.length) h2
      rw [Nat.mul_comm (10 ^ t.length) 10, ← Nat.mul_assoc]
      exact h3
  intro h
  have := key l 0 h
  simpa [val] using this
theorem foldl_ge (l : List UInt8) : ∀ n, n * 10 ^ l.length ≤ l.foldl stepD n := by
  induction l with
  | nil => intro n; simp
  | cons b t ih =>
    intro n
    rw [List.foldl_cons, List.length_cons, Nat.pow_succ]
    refine Nat.le_trans ?_ (ih _)
    have h2 : n * 10 ≤ stepD n b := by unfold stepD; omega
    have h3 := Nat.mul_le_mul_right (10 ^ t.length) h2
    rw [Nat.mul_comm (10 ^ t.length) 10, ← Nat.mul_assoc]
    exact h3
theorem cntV_long (l : List UInt8) (h : 10 < l.length) : cntV l = (0, false) := by
  unfold cntV
  split
  · rfl
  · rename_i hn
    refine if_neg ?_
    rintro ⟨ha, hv⟩
    cases l with
    | nil => simp at h
    | cons b t =>
      rw [List.all_cons, Bool.and_eq_true] at ha
      have hb := ha.1
      unfold isD at hb
      rw [Bool.and_eq_true, decide_eq_true_iff, decide_eq_true_iff] at hb
      have hne : b ≠ 48 := by
        rintro rfl
        refine hn (Or.inr ⟨rfl, ?_⟩)
        intro e
        rw [e] at h
        simp at h
      have hne2 : b.toNat ≠ 48 := fun e => hne (UInt8.toNat_inj.1 e)
      have h1 := foldl_ge t (stepD 0 b)
      have h2 : 1 ≤ stepD 0 b := by unfold stepD; omega
      have h3 : (10 : Nat) ^ 10 ≤ 10 ^ t.length := Nat.pow_le_pow_right (by omega) (by simp at h; omega)
      have h4 := Nat.mul_le_mul h2 h3
      have h5 : val (b :: t) = t.foldl stepD (stepD 0 b) := rfl
      have e10 : (1 : Nat) * 10 ^ 10 = 10000000000 := by decide
      rw [e10] at h4
      omega
theorem refCount_any (s : ByteArray) (w : World) :
    Calls Tryd.prog 28 #[.string s] w fun e w' => e = .returned (.tuple #[.int .i64 (cntV s.data.toList).1, .bool (cntV s.data.toList).2]) ∧ w' = w := by
  have hl : s.toList = s.data.toList := ByteArray.toList_eq s
  have hz : s.data.toList.length = s.size := Array.length_toList
  have hg : ∀ k (h : k < s.size), s.data.toList[k]? = some s[k] := fun k h => by rw [List.getElem?_eq_getElem (by omega)]; rfl
  generalize s.data.toList = l at *
  have HL := Hid.mk hg
  clear hg
  by_cases hE : l = []
  · have hem : l.isEmpty = true := by rw [hE]; rfl
    have e : cntV l = (0, false) := by unfold cntV; rw [if_pos (Or.inl hE)]
    rw [e]
    clear hE e
    clear HL
    go_enter Tryd.func28, Tryd.ntmps28
    go_wp2_with fail
    go_ret2
    exact ⟨rfl, rfl⟩
  have hem : l.isEmpty = false := by cases l with
    | nil => exact absurd rfl hE
    | cons x t => rfl
  have hpos : 0 < s.size := by cases l with
    | nil => exact absurd rfl hE
    | cons x t => rw [← hz]; exact Nat.succ_pos _
  have hh : l.head? = some s[0] := by rw [List.head?_eq_getElem?, HL.out 0 hpos]
  by_cases hbig : 10 < s.size
  · rw [cntV_long l (by omega)]
    clear hE hh
    clear HL
    go_enter Tryd.func28, Tryd.ntmps28
    go_wp2_with fail
    go_ret2
    exact ⟨rfl, rfl⟩
  by_cases h1 : 1 < s.size
  · have hne : l ≠ [48] := by
      intro e
      rw [e] at hz
      simp at hz
      omega
    by_cases h48 : (s[0].toNat : Int) = 48
    · have h48' : s[0] = 48 := UInt8.toNat_inj.1 (by have : (48 : UInt8).toNat = 48 := rfl; omega)
      have e : cntV l = (0, false) := by unfold cntV; rw [if_pos (Or.inr ⟨by rw [hh, h48'], hne⟩)]
      rw [e]
      clear hE e hh h48' hne
      clear HL
      go_enter Tryd.func28, Tryd.ntmps28
      go_wp2_with fail
      go_ret2
      exact ⟨rfl, rfl⟩
    have hF : ¬ (l = [] ∨ (l.head? = some 48 ∧ l ≠ [48])) := by
      rintro (h | ⟨h, _⟩)
      · exact hE h
      · rw [hh] at h
        exact h48 (by rw [Option.some.inj h]; rfl)
    have HF := Hid.mk hF
    have h48b : ((s[0].toNat : Int) == 48) = false := beq_eq_false_iff_ne.2 h48
    have h10 : (s.size : Int) ≤ 10 := by omega
    clear hF hE hh hne
    go_enter Tryd.func28, Tryd.ntmps28
    go_wp2_with fail
    go_loop [4, 5] (fun n i => ∃ k : Nat, k ≤ s.size ∧ n = .int .i64 (val (l.take k) : Nat) ∧ i = .int .i64 k ∧ ((l.take k).all isD = true)) (fun _ i => s.size - (intOf i).toNat)
    case atStart => exact ⟨0, Nat.zero_le _, rfl, rfl, rfl⟩
    case round =>
      obtain ⟨k, hp, rfl, rfl, ha⟩ := hrel
      have hv := val_lt _ ha
      rw [List.length_take, Nat.min_eq_left (by omega)] at hv
      have h10 : 10 ^ k ≤ 10 ^ 10 := Nat.pow_le_pow_right (by omega) (by omega)
      have hv2 : val (l.take k) < 10000000000 := by
        have e10 : (10 : Nat) ^ 10 = 10000000000 := by decide
        omega
      clear hv h10
      by_cases hlt : k < s.size
      · by_cases hd : isD s[k] = true
        · have hb := hd
          unfold isD at hb
          rw [Bool.and_eq_true, decide_eq_true_iff, decide_eq_true_iff] at hb
          have hsn : l.take (k + 1) = l.take k ++ [s[k]] := by
            have h1 := take_snoc l k (by omega)
            have h2 := HL.out k hlt
            rw [List.getElem?_eq_getElem (by omega)] at h2
            rw [h1, Option.some.inj h2]
          have hvs : val (l.take (k + 1)) = 10 * val (l.take k) + (s[k].toNat - 48) := by rw [hsn, val_snoc]
          have HA := Hid.mk (And.intro ha hsn)
          clear ha hsn
          generalize hbb : s[k] = b at *
          generalize val (l.take k) = V at *
          go_wp2_with fail
          exact ⟨⟨k + 1, by omega, by rw [hvs]; congr 1; omega, by go_num, by rw [HA.out.2, List.all_append, HA.out.1]; simp [hd]⟩, by simp [intOf]; omega⟩
        · have hc : cntV l = (0, false) := by
            refine cntV_no l k (by omega) ?_
            have h2 := HL.out k hlt
            rw [List.getElem?_eq_getElem (by omega)] at h2
            rw [Option.some.inj h2]
            simpa using hd
          have hr : s[k].toNat < 48 ∨ 57 < s[k].toNat := by
            unfold isD at hd
            rw [Bool.and_eq_true, decide_eq_true_iff, decide_eq_true_iff] at hd
            omega
          clear hd
          have HC := Hid.mk hc
          clear hc
          generalize hbb : s[k] = b at *
          go_wp2_with fail
          all_goals first
            | (exfalso; omega)
            | (go_ret2; rw [HC.out]; exact ⟨rfl, rfl⟩)
      · have e : l.take k = l := List.take_of_length_le (by omega)
        rw [e] at hv2 ha
        rw [e]
        by_cases hbig : 2147483648 ≤ val l
        · have hc : cntV l = (0, false) := cntV_big l k (by rw [e]; exact hbig)
          have HC := Hid.mk hc
          have hI : (2147483648 : Int) ≤ ((val l : Nat) : Int) := by omega
          clear hc e hbig hv2 ha
          generalize ((val l : Nat) : Int) = V at *
          go_wp2_with fail
          go_ret2
          rw [HC.out]
          exact ⟨rfl, rfl⟩
        · have hc : cntV l = (((val l : Nat) : Int), true) := by
            unfold cntV
            rw [if_neg HF.out, if_pos ⟨ha, by omega⟩]
          have HC := Hid.mk hc
          have hI : ((val l : Nat) : Int) < 2147483648 := by omega
          clear hc e hbig hv2 ha
          generalize ((val l : Nat) : Int) = V at *
          go_wp2_with fail
          go_ret2
          rw [HC.out]
          exact ⟨rfl, rfl⟩
  · have hF : ¬ (l = [] ∨ (l.head? = some 48 ∧ l ≠ [48])) := by
      rintro (h | ⟨h, h2⟩)
      · exact hE h
      · refine h2 ?_
        cases l with
        | nil => exact absurd rfl hE
        | cons x t =>
          cases t with
          | nil => rw [List.head?_cons] at h; rw [Option.some.inj h]
          | cons y u => simp at hz; omega
    have HF := Hid.mk hF
    clear hF hE hh
    go_enter Tryd.func28, Tryd.ntmps28
    go_wp2_with fail
    go_loop [4, 5] (fun n i => ∃ k : Nat, k ≤ s.size ∧ n = .int .i64 (val (l.take k) : Nat) ∧ i = .int .i64 k ∧ ((l.take k).all isD = true)) (fun _ i => s.size - (intOf i).toNat)
    case atStart => exact ⟨0, Nat.zero_le _, rfl, rfl, rfl⟩
    case round =>
      obtain ⟨k, hp, rfl, rfl, ha⟩ := hrel
      have hv := val_lt _ ha
      rw [List.length_take, Nat.min_eq_left (by omega)] at hv
      have h10 : 10 ^ k ≤ 10 ^ 10 := Nat.pow_le_pow_right (by omega) (by omega)
      have hv2 : val (l.take k) < 10000000000 := by
        have e10 : (10 : Nat) ^ 10 = 10000000000 := by decide
        omega
      clear hv h10
      by_cases hlt : k < s.size
      · by_cases hd : isD s[k] = true
        · have hb := hd
          unfold isD at hb
          rw [Bool.and_eq_true, decide_eq_true_iff, decide_eq_true_iff] at hb
          have hsn : l.take (k + 1) = l.take k ++ [s[k]] := by
            have h1 := take_snoc l k (by omega)
            have h2 := HL.out k hlt
            rw [List.getElem?_eq_getElem (by omega)] at h2
            rw [h1, Option.some.inj h2]
          have hvs : val (l.take (k + 1)) = 10 * val (l.take k) + (s[k].toNat - 48) := by rw [hsn, val_snoc]
          have HA := Hid.mk (And.intro ha hsn)
          clear ha hsn
          generalize hbb : s[k] = b at *
          generalize val (l.take k) = V at *
          go_wp2_with fail
          exact ⟨⟨k + 1, by omega, by rw [hvs]; congr 1; omega, by go_num, by rw [HA.out.2, List.all_append, HA.out.1]; simp [hd]⟩, by simp [intOf]; omega⟩
        · have hc : cntV l = (0, false) := by
            refine cntV_no l k (by omega) ?_
            have h2 := HL.out k hlt
            rw [List.getElem?_eq_getElem (by omega)] at h2
            rw [Option.some.inj h2]
            simpa using hd
          have hr : s[k].toNat < 48 ∨ 57 < s[k].toNat := by
            unfold isD at hd
            rw [Bool.and_eq_true, decide_eq_true_iff, decide_eq_true_iff] at hd
            omega
          clear hd
          have HC := Hid.mk hc
          clear hc
          generalize hbb : s[k] = b at *
          go_wp2_with fail
          all_goals first
            | (exfalso; omega)
            | (go_ret2; rw [HC.out]; exact ⟨rfl, rfl⟩)
      · have e : l.take k = l := List.take_of_length_le (by omega)
        rw [e] at hv2 ha
        rw [e]
        by_cases hbig : 2147483648 ≤ val l
        · have hc : cntV l = (0, false) := cntV_big l k (by rw [e]; exact hbig)
          have HC := Hid.mk hc
          have hI : (2147483648 : Int) ≤ ((val l : Nat) : Int) := by omega
          clear hc e hbig hv2 ha
          generalize ((val l : Nat) : Int) = V at *
          go_wp2_with fail
          go_ret2
          rw [HC.out]
          exact ⟨rfl, rfl⟩
        · have hc : cntV l = (((val l : Nat) : Int), true) := by
            unfold cntV
            rw [if_neg HF.out, if_pos ⟨ha, by omega⟩]
          have HC := Hid.mk hc
          have hI : ((val l : Nat) : Int) < 2147483648 := by omega
          clear hc e hbig hv2 ha
          generalize ((val l : Nat) : Int) = V at *
          go_wp2_with fail
          go_ret2
          rw [HC.out]
          exact ⟨rfl, rfl⟩
end Go.Proofs.YtdolilgkjknckaaDoor
