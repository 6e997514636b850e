/-
  Digits read again: the walk of Bytes; what it answers.
-/
import Derived.Test.YtdolilgkjknckaaDoorHex
namespace Go.Proofs.YtdolilgkjknckaaDoor.Sh
set_option maxRecDepth 100000
open Go Go.RowKit

def isDig (b : UInt8) : Bool := digOk (b.toNat : Int)
/-- the byte that two digits say -/
def pairV (a b : UInt8) : UInt8 := UInt8.ofNat (bits .or .u8 (digV (a.toNat : Int) * 16 % 256) (digV (b.toNat : Int))).toNat
def unTo (l : List UInt8) (k : Nat) : List UInt8 := (List.range k).map fun i => pairV (l.getD (2 * i) 0) (l.getD (2 * i + 1) 0)
@[irreducible] def unhex (l : List UInt8) : List UInt8 × Int :=
  if l.length % 2 = 1 then ([], 2) else if l.all isDig then (unTo l (l.length / 2), 0) else ([], 3)
theorem unTo_length (l : List UInt8) (k : Nat) : (unTo l k).length = k := by simp [unTo]
theorem unTo_succ (l : List UInt8) (k : Nat) : unTo l (k + 1) = unTo l k ++ [pairV (l.getD (2 * k) 0) (l.getD (2 * k + 1) 0)] := by simp [unTo, List.range_succ]
theorem digV_bd (c : Int) : 0 ≤ digV c ∧ digV c < 16 := by
  unfold digV
  split
  · omega
  · split <;> omega
theorem pairV_val (a b : UInt8) : ((pairV a b).toNat : Int) = bits .or .u8 (digV (a.toNat : Int) * 16 % 256) (digV (b.toNat : Int)) := by
  obtain ⟨p0, p1⟩ := digV_bd (a.toNat : Int)
  obtain ⟨q0, q1⟩ := digV_bd (b.toNat : Int)
  unfold pairV
  generalize digV (a.toNat : Int) = p at *
  generalize digV (b.toNat : Int) = q at *
  obtain ⟨m, rfl⟩ := Int.eq_ofNat_of_zero_le p0
  obtain ⟨n, rfl⟩ := Int.eq_ofNat_of_zero_le q0
  have e : ((m : Int) * 16 % 256) = ((m * 16 : Nat) : Int) := by omega
  rw [e, u8_or_nat (m * 16) n (by omega) (by omega), UInt8.toNat_ofNat', Int.toNat_natCast]
  have h := Nat.or_lt_two_pow (n := 8) (x := m * 16) (y := n) (by omega) (by omega)
  rw [Nat.mod_eq_of_lt h]
theorem getD_at (s : ByteArray) (k : Nat) (h : k < s.size) : s.data.toList.getD k 0 = s[k] := by
  rw [List.getD_eq_getElem?_getD, Array.getElem?_toList, Array.getElem?_eq_getElem h]
  rfl

theorem all_not (l : List UInt8) (j : Nat) (h : j < l.length) (hn : isDig (l.getD j 0) = false) : ¬ l.all isDig = true := by
  intro ha
  rw [List.all_eq_true] at ha
  have := ha l[j] (List.getElem_mem h)
  rw [List.getD_eq_getElem?_getD, List.getElem?_eq_getElem h] at hn
  simp only [Option.getD_some] at hn
  rw [hn] at this
  cases this
theorem all_yes (l : List UInt8) (h : ∀ j, j < l.length → isDig (l.getD j 0) = true) : l.all isDig = true := by
  rw [List.all_eq_true]
  intro x hx
  obtain ⟨j, hj, rfl⟩ := List.getElem_of_mem hx
  have := h j hj
  rw [List.getD_eq_getElem?_getD, List.getElem?_eq_getElem hj] at this
  exact this

theorem bytes_any (s : ByteArray) (hs : s.size ≤ 1000) (w : World) :
    Calls Tryd.prog 73 #[.string s] w fun e w' => e = .returned (.tuple #[.string ⟨(unhex s.data.toList).1.toArray⟩, .int .i64 (unhex s.data.toList).2]) ∧ Below w.heap.size w w' := by
  have hsl : s.data.toList.length = s.size := Array.length_toList
  by_cases hodd : s.size % 2 = 1
  · have e : unhex s.data.toList = ([], 2) := by rw [unhex, hsl, if_pos hodd]
    rw [e]
    clear e
    go_enter Tryd.func73, Tryd.ntmps73
    go_wp2_with fail
    go_ret2
    exact ⟨rfl, Below.refl _ _⟩
  · have hev : s.size % 2 = 0 := by omega
    generalize hR : unhex s.data.toList = R
    rw [unhex, hsl, if_neg hodd] at hR
    have HR := Hid.mk hR
    clear hR hodd
    have hmk : ∀ w, (Instr.makeSlice 50 (.int .i64 ((s.size : Int) / 2)) (.int .i64 ((s.size : Int) / 2))).run Tryd.prog w = .ok (.slice (some ⟨w.heap.size, 0, none⟩) (s.size / 2) (s.size / 2)) (w.alloc (.cells (cellsOf .u8 (zerosI (s.size / 2))) 5)) :=
      run_make_bytes (s.size / 2) (s.size / 2) (by omega) (by omega)
    have hdec : ((s.size : Int) % 2 != 0) = false := by
      rw [bne_eq_false_iff_eq]
      omega
    go_enter Tryd.func73, Tryd.ntmps73
    go_wp2_with fail
    clear hmk
    go_loopw [20] (fun i wr => ∃ k : Nat, k ≤ s.size / 2 ∧ i = .int .i64 k ∧ (∀ j, j < 2 * k → isDig (s.data.toList.getD j 0) = true) ∧ Row wr w.heap.size 5 .u8 (toI (padB (s.size / 2) (unTo s.data.toList k))) ∧ Below w.heap.size w wr)
      (fun i _ => s.size / 2 - (intOf i).toNat)
    case atStart =>
      refine ⟨0, Nat.zero_le _, rfl, by intro j hj; omega, ?_, (Below.refl w.heap.size w).alloc (Nat.le_refl _) _⟩
      exact Row.fresh w 5 .u8 (zerosI (s.size / 2))
    case round =>
      obtain ⟨k, hk, rfl, hok, q0, qb⟩ := hrel
      by_cases hks : k < s.size / 2
      · have i0 : 2 * k < s.size := by omega
        have i1 : 2 * k + 1 < s.size := by omega
        have ga := getD_at s (2 * k) i0
        have gb := getD_at s (2 * k + 1) i1
        have l0 := s[2 * k].toNat_lt
        have l1 := s[2 * k + 1].toNat_lt
        have hlen : (unTo s.data.toList k).length = k := unTo_length _ _
        have hpl : (padB (s.size / 2) (unTo s.data.toList k)).length = s.size / 2 := padB_length _ _ (by omega)
        have ca := q0.cell k (by rw [toI_length, hpl]; omega)
        have fa := q0.frozen k
        have HQ := Hid.mk (And.intro ga (And.intro gb (And.intro hok (And.intro hlen (And.intro q0 qb)))))
        clear ga gb hok hlen q0 qb hpl
        cases d0 : digOk (s[2 * k].toNat : Int)
        · go_wp2_with (first | (go_at_call 88; refine (digit_any _ (by omega) (by omega) _).mono ?_; rintro e w' ⟨rfl, rfl⟩))
          obtain ⟨ga, gb, hok, hlen, q0, qb⟩ := HQ.out
          have hRe := HR.out
          rw [if_neg (all_not _ (2 * k) (by omega) (by rw [ga]; exact d0))] at hRe
          rw [← hRe]
          go_ret2
          exact ⟨rfl, qb⟩
        · cases d1 : digOk (s[2 * k + 1].toNat : Int)
          · go_wp2_with (first | (go_at_call 88; refine (digit_any _ (by omega) (by omega) _).mono ?_; rintro e w' ⟨rfl, rfl⟩))
            obtain ⟨ga, gb, hok, hlen, q0, qb⟩ := HQ.out
            have hRe := HR.out
            rw [if_neg (all_not _ (2 * k + 1) (by omega) (by rw [gb]; exact d1))] at hRe
            rw [← hRe]
            go_ret2
            exact ⟨rfl, qb⟩
          · go_wp2_with (first | (go_at_call 88; refine (digit_any _ (by omega) (by omega) _).mono ?_; rintro e w' ⟨rfl, rfl⟩))
            go_roundw
            case rel =>
              obtain ⟨ga, gb, hok, hlen, q0, qb⟩ := HQ.out
              refine ⟨k + 1, by omega, by go_num, ?_, ?_, qb.setCell (Nat.le_refl _) _⟩
              · intro j hj
                rcases (by omega : j < 2 * k ∨ j = 2 * k ∨ j = 2 * k + 1) with h | h | h
                · exact hok j h
                · rw [h, ga]; exact d0
                · rw [h, gb]; exact d1
              · have e := padB_set (s.size / 2) (unTo s.data.toList k) (pairV s[2 * k] s[2 * k + 1]) (by omega)
                rw [hlen] at e
                rw [unTo_succ, ga, gb, ← e, ← toI_set, pairV_val]
                exact q0.stored k _
            case measure => simp [intOf]; omega
      · have hk2 : k = s.size / 2 := by omega
        have hall : s.data.toList.all isDig = true := all_yes _ (fun j hj => hok j (by omega))
        have hRe := HR.out
        rw [if_pos hall] at hRe
        rw [hk2, padB_full _ _ (unTo_length _ _)] at q0
        have hl2 : (unTo s.data.toList (s.size / 2)).length = s.size / 2 := unTo_length _ _
        have hbk := (rowBytes q0 (s.size / 2)).back (P := Tryd.prog) 50 9 5 (s.size / 2) (s.size / 2) (by rw [List.length_take, hl2]; omega) Tryd.underlying50 Tryd.underlying5 Tryd.underlying9
        rw [List.take_of_length_le (by omega)] at hbk
        have hb1 : unTo s.data.toList (s.size / 2) = R.1 := by rw [← hRe]
        have hb2 : R.2 = 0 := by rw [← hRe]
        rw [hb1] at hbk
        have HB := Hid.mk (And.intro hb2 qb)
        clear qb q0 hl2 hall hok HR hk2 hRe hb1 hb2
        go_wp2_with fail
        go_ret2
        exact ⟨by rw [HB.out.1]; rfl, HB.out.2⟩
end Go.Proofs.YtdolilgkjknckaaDoor.Sh
