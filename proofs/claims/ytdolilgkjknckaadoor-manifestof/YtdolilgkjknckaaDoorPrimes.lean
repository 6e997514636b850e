/-
  The walk of firstPrimes.
-/
import Derived.Test.YtdolilgkjknckaaDoorFirst
import Derived.WalkMore
namespace Go.Proofs.YtdolilgkjknckaaDoor.Sh
open Go Go.RowKit

/-- is one of these numbers, up to the root, a divisor? -/
def hasDiv : List Int → Int → Bool
  | [], _ => false
  | p :: r, n => if n < p * p then false else if n % p = 0 then true else hasDiv r n
def prGo : Nat → List Int → Int → List Int
  | 0, l, _ => l
  | f + 1, l, n => if hasDiv l n then prGo f l (n + 1) else if l.length + 1 = 64 then l ++ [n] else prGo f (l ++ [n]) (n + 1)
theorem prGo_all : prGo 310 [] 2 = primes64 := by decide +kernel
def pad (l : List Int) : List Int := l ++ List.replicate (64 - l.length) 0
theorem pad_length (l : List Int) (h : l.length ≤ 64) : (pad l).length = 64 := by simp [pad]; omega
theorem pad_at (l : List Int) (j : Nat) (h : j < l.length) : (pad l).getD j 0 = l[j] := by
  rw [pad, List.getD_eq_getElem?_getD, List.getElem?_append_left h, List.getElem?_eq_getElem h]
  rfl
theorem pad_set (l : List Int) (n : Int) (h : l.length < 64) : (pad l).set l.length n = pad (l ++ [n]) := by
  have e : List.replicate (64 - l.length) (0 : Int) = 0 :: List.replicate (64 - (l.length + 1)) 0 := by
    rw [← List.replicate_succ]
    congr 1
    omega
  unfold pad
  rw [e, List.set_append_right _ _ (by omega), Nat.sub_self, List.set_cons_zero]
  simp

theorem info66 : (Tryd.prog.info? 66).map (·.size) = some 1 := by kernel_rfl

theorem primes_any (w : World) :
    Calls Tryd.prog 57 #[] w fun e w' => e = .returned (.agg (cellsOf .u64 primes64)) ∧ Below w.heap.size w w' := by
  go_enter Tryd.func57, Tryd.ntmps57
  go_wp2_with fail
  go_step3
  go_wp2_with fail
  go_step3
  go_wp2_with fail
  go_loopw [2, 3] (fun h n wr => ∃ (l : List Int) (m : Nat), h = .int .i64 l.length ∧ n = .int .u64 m ∧ 2 ≤ m ∧ m ≤ 312 ∧ l.length < 64 ∧ (∀ p ∈ l, 2 ≤ p ∧ p ≤ 311) ∧ prGo (312 - m) l m = primes64 ∧
      Row wr w.heap.size 80 .u64 (List.replicate 64 0) ∧ Row wr (w.heap.size + 1) 80 .u64 (pad l) ∧ Below w.heap.size w wr)
    (fun _ n _ => 312 - (intOf n).toNat)
  case atStart =>
    exact ⟨[], 2, rfl, rfl, by omega, by omega, by decide, by simp, prGo_all, (Row.fresh w 80 .u64 (List.replicate 64 0)).alloc _, Row.fresh1 w _ 80 .u64 (List.replicate 64 0),
      ((Below.refl w.heap.size w).alloc (Nat.le_refl _) _).alloc (by simp only [size_alloc]; omega) _⟩
  case round =>
    obtain ⟨l, m, rfl, rfl, m2, m3, hl, hall, hgo, hr, hp, hb⟩ := hrel
    cases e : 312 - m with
    | zero =>
      rw [e] at hgo
      have : l.length = 64 := by rw [show l = primes64 from hgo]; rfl
      omega
    | succ f =>
      rw [e, prGo] at hgo
      have HGO := Hid.mk hgo
      have HE := Hid.mk e
      have HR := Hid.mk hr
      have HP := Hid.mk hp
      have HB := Hid.mk hb
      have HA := Hid.mk hall
      clear hgo e hr hp hb hall
      have hs := fun w' => sliceTo (P := Tryd.prog) (t := 80) Tryd.underlying80 info66 (w.heap.size + 1) l.length (by omega) w'
      go_wp2_with fail
      clear hs
      go_loopw [11] (fun i wx => ∃ j : Nat, j ≤ l.length ∧ i = .int .i64 j ∧ wx = wr ∧ hasDiv l m = hasDiv (l.drop j) m) (fun i _ => l.length - (intOf i).toNat)
      case atStart => exact ⟨0, by omega, rfl, rfl, rfl⟩
      case round =>
        obtain ⟨j, hj, rfl, rfl, hd⟩ := hrel
        by_cases hjl : j < l.length
        · have c1 := HP.out.cell j (by rw [pad_length _ (by omega)]; omega)
          rw [pad_at l j hjl] at c1
          obtain ⟨p2, p3⟩ := HA.out l[j] (List.getElem_mem hjl)
          have hdr : l.drop j = l[j] :: l.drop (j + 1) := List.drop_eq_getElem_cons hjl
          rw [hdr, hasDiv] at hd
          generalize l[j] = p at *
          have pp : p * p ≤ 311 * 311 := Int.mul_le_mul (by omega) (by omega) (by omega) (by omega)
          have pq : 0 ≤ p * p := Int.mul_nonneg (by omega) (by omega)
          have HD := Hid.mk hd
          have HDR := Hid.mk hdr
          clear hd hdr
          generalize hq : p * p = q at *
          by_cases hlt : (m : Int) < q
          · have HNO : hasDiv l m = false := by
              rw [HD.out, if_pos hlt]
            have hno : hasDiv l m = false := HNO
            have hgo := HGO.out
            rw [hno, if_neg (by simp)] at hgo
            have hp1 := (HP.out.stored l.length m)
            rw [pad_set l m hl] at hp1
            have hr1 := HR.out.other (a := ⟨w.heap.size + 1, l.length, none⟩) (by show w.heap.size + 1 ≠ w.heap.size; omega) (.int .u64 m)
            have hb1 := HB.out.setCell (p := ⟨w.heap.size + 1, l.length, none⟩) (by show w.heap.size ≤ w.heap.size + 1; omega) (.int .u64 m)
            have c2 := HP.out.cell l.length (by rw [pad_length _ (by omega)]; omega)
            have f2 := HP.out.frozen l.length
            by_cases h64 : l.length + 1 = 64
            · rw [if_pos h64] at hgo
              have hpl : (pad (l ++ [(m : Int)])).length = 64 := pad_length _ (by simp; omega)
              have hpe : pad (l ++ [(m : Int)]) = primes64 := by
                rw [← hgo]
                unfold pad
                simp [h64]
              have h63 : (l.length : Int) + 1 = 64 := by omega
              have HPE := Hid.mk hpe
              have HP1 := Hid.mk hp1
              have HR1 := Hid.mk hr1
              have HB1 := Hid.mk hb1
              clear hgo hno h64 hpe hp1 hr1 hb1
              go_wp2_with (first | (refine wpList_loadRow rfl 80 _ rfl _ rfl HP1.out Tryd.underlying80 (by rw [hpl]; exact info80) ?_) | (refine wpList_storeRow rfl 80 _ _ rfl _ rfl rfl HR1.out (by rw [hpl]; exact info80) (by rw [hpl]; rfl) rfl ?_))
              rw [Exit.noGoto_ret]
              refine bodyPost_ret (v := .agg (cellsOf .u64 (pad (l ++ [(m : Int)])))) (Row.result Tryd.results57 (HR1.out.whole _) rfl Tryd.underlying80 (by rw [hpl]; exact info80)) rfl ⟨?_, below_setRow HB1.out (Nat.le_refl _) _⟩
              rw [HPE.out]
            · rw [if_neg h64] at hgo
              have HGO1 := Hid.mk hgo
              have HP1 := Hid.mk hp1
              have HR1 := Hid.mk hr1
              have HB1 := Hid.mk hb1
              have h63 : ¬ (l.length : Int) + 1 = 64 := by omega
              clear hgo hno h64 hp1 hr1 hb1
              go_wp2_with fail
              refine ⟨⟨l ++ [(m : Int)], m + 1, by simp, rfl, by omega, by have := HE.out; omega, by simp; omega, ?_, ?_, HR1.out, HP1.out, HB1.out⟩, ?_⟩
              · intro p hp
                rcases List.mem_append.1 hp with h | h
                · exact HA.out p h
                · have := HE.out
                  rw [List.mem_singleton] at h
                  omega
              · have := HGO1.out
                rw [show 312 - (m + 1) = f by have := HE.out; omega]
                exact this
              · have := HE.out
                simp [intOf]; omega
          · have hge := Int.not_lt.1 hlt
            clear hlt
            by_cases hz : (m : Int) % p = 0
            · have hyes : hasDiv l m = true := by rw [HD.out, if_neg (by omega), if_pos hz]
              have hgo := HGO.out
              rw [hyes, if_pos rfl] at hgo
              have HGO1 := Hid.mk hgo
              clear hgo hyes
              go_wp2_with fail
              refine ⟨⟨l, m + 1, rfl, rfl, by omega, by have := HE.out; omega, hl, HA.out, ?_, HR.out, HP.out, HB.out⟩, ?_⟩
              · have := HGO1.out
                rw [show 312 - (m + 1) = f by have := HE.out; omega]
                exact this
              · have := HE.out
                simp [intOf]; omega
            · have hnx : hasDiv l m = hasDiv (l.drop (j + 1)) m := by rw [HD.out, if_neg (by omega), if_neg hz]
              have HNX := Hid.mk hnx
              clear hnx
              go_wp2_with fail
              refine ⟨⟨j + 1, by omega, by go_num, trivial, HNX.out⟩, ?_⟩
              simp [intOf]; omega
        · have HNO : hasDiv l m = false := by
            rw [hd, show j = l.length by omega, List.drop_length]
            rfl
          clear hd
          have hno : hasDiv l m = false := HNO
          have hgo := HGO.out
          rw [hno, if_neg (by simp)] at hgo
          have hp1 := (HP.out.stored l.length m)
          rw [pad_set l m hl] at hp1
          have hr1 := HR.out.other (a := ⟨w.heap.size + 1, l.length, none⟩) (by show w.heap.size + 1 ≠ w.heap.size; omega) (.int .u64 m)
          have hb1 := HB.out.setCell (p := ⟨w.heap.size + 1, l.length, none⟩) (by show w.heap.size ≤ w.heap.size + 1; omega) (.int .u64 m)
          have c2 := HP.out.cell l.length (by rw [pad_length _ (by omega)]; omega)
          have f2 := HP.out.frozen l.length
          by_cases h64 : l.length + 1 = 64
          · rw [if_pos h64] at hgo
            have hpl : (pad (l ++ [(m : Int)])).length = 64 := pad_length _ (by simp; omega)
            have hpe : pad (l ++ [(m : Int)]) = primes64 := by
              rw [← hgo]
              unfold pad
              simp [h64]
            have h63 : (l.length : Int) + 1 = 64 := by omega
            have HPE := Hid.mk hpe
            have HP1 := Hid.mk hp1
            have HR1 := Hid.mk hr1
            have HB1 := Hid.mk hb1
            clear hgo hno h64 hpe hp1 hr1 hb1
            go_wp2_with (first | (refine wpList_loadRow rfl 80 _ rfl _ rfl HP1.out Tryd.underlying80 (by rw [hpl]; exact info80) ?_) | (refine wpList_storeRow rfl 80 _ _ rfl _ rfl rfl HR1.out (by rw [hpl]; exact info80) (by rw [hpl]; rfl) rfl ?_))
            rw [Exit.noGoto_ret]
            refine bodyPost_ret (v := .agg (cellsOf .u64 (pad (l ++ [(m : Int)])))) (Row.result Tryd.results57 (HR1.out.whole _) rfl Tryd.underlying80 (by rw [hpl]; exact info80)) rfl ⟨?_, below_setRow HB1.out (Nat.le_refl _) _⟩
            rw [HPE.out]
          · rw [if_neg h64] at hgo
            have HGO1 := Hid.mk hgo
            have HP1 := Hid.mk hp1
            have HR1 := Hid.mk hr1
            have HB1 := Hid.mk hb1
            have h63 : ¬ (l.length : Int) + 1 = 64 := by omega
            clear hgo hno h64 hp1 hr1 hb1
            go_wp2_with fail
            refine ⟨⟨l ++ [(m : Int)], m + 1, by simp, rfl, by omega, by have := HE.out; omega, by simp; omega, ?_, ?_, HR1.out, HP1.out, HB1.out⟩, ?_⟩
            · intro p hp
              rcases List.mem_append.1 hp with h | h
              · exact HA.out p h
              · have := HE.out
                rw [List.mem_singleton] at h
                omega
            · have := HGO1.out
              rw [show 312 - (m + 1) = f by have := HE.out; omega]
              exact this
            · have := HE.out
              simp [intOf]; omega
end Go.Proofs.YtdolilgkjknckaaDoor.Sh
