/-
  Writing a page: the walk of Program. No condition.
-/
import Derived.Test.YtbcnocbdifbocaaDoorActB
namespace Go.Proofs.YtbcnocbdifbocaaDoor
open Go Go.RowKit

/-- is a page from p on not erased? -/
def usedB (C : Ch) (b p : Nat) : Bool := (List.range C.P).any fun q => decide (p ≤ q ∧ C.pg b q ≠ ⟨#[]⟩)
theorem usedB_false {C : Ch} {b p : Nat} (h : usedB C b p = false) (q : Nat) (h1 : p ≤ q) (h2 : q < C.P) : C.pg b q = ⟨#[]⟩ := by
  unfold usedB at h
  rw [List.any_eq_false] at h
  have := h q (List.mem_range.2 h2)
  simp only [decide_eq_true_eq, not_and, ne_eq, Decidable.not_not] at this
  exact this h1
theorem usedB_true {C : Ch} {b p : Nat} (h : usedB C b p = true) : ∃ q, p ≤ q ∧ q < C.P ∧ ¬ C.pg b q = ⟨#[]⟩ := by
  unfold usedB at h
  rw [List.any_eq_true] at h
  obtain ⟨q, h1, h2⟩ := h
  rw [decide_eq_true_eq] at h2
  exact ⟨q, h2.1, List.mem_range.1 h1, h2.2⟩
/-- the first bytes are new ones, all others filled -/
def tornP (Z : Nat) (raw : ByteArray) (k x : Int) : ByteArray := raw.extract 0 (min (max k 0) ((Z + 32 : Nat) : Int)).toNat ++ (rep (Z + 32) (u8 x)).extract (min (max k 0) ((Z + 32 : Nat) : Int)).toNat (Z + 32)
theorem cut_size (Z kk : Nat) (raw y : ByteArray) (h : raw.size = Z + 32) (hy : y.size = Z + 32) (hk : kk ≤ Z + 32) : (raw.extract 0 kk ++ y.extract kk (Z + 32)).size = Z + 32 := by
  rw [ByteArray.size_append, ByteArray.size_extract, ByteArray.size_extract]
  omega
/-- a page is written -/
def progC (C : Ch) (b p : Int) (data spare : ByteArray) : Ch × Int :=
  if refP C b p = 0 then
    if data.size = C.Z ∧ spare.size = 32 then
      if usedB C b.toNat p.toNat = true then (C, 52)
      else match C.cuts (C.did + 1) with
        | some x => (putPg { C with did := C.did + 1, off := true } b.toNat p.toNat (kp C.Z (tornP C.Z (data ++ spare) x.1 x.2)), 51)
        | none => if (C.dead b.toNat || C.fails (C.did + 1)) = true then (putPg { C with did := C.did + 1, dead := upd C.dead b.toNat true } b.toNat p.toNat (rep (C.Z + 32) 0), 53)
          else (putPg { C with did := C.did + 1 } b.toNat p.toNat (kp C.Z (data ++ spare)), 0)
    else (C, 1)
  else (C, refP C b p)

theorem prog_used {w : World} {L C} (h : Chip w L C) (b p : Nat) (hb : b < C.B) (hp : p < C.P) (hr0 : Hid (refP C b p = 0)) (data spare : ByteArray) (hs1 : data.size = C.Z) (hs2 : spare.size = 32) (hd : C.did < 999999) (hu : usedB C b p = true) :
    Calls Tryd.prog 66 #[.pointer (some ⟨L.a, 0, none⟩), .int .i64 b, .int .i64 p, .string data, .string spare] w fun e w' => e = .returned (.int .i64 52) ∧ w' = w := by
  obtain ⟨mc, mf, n, k, _, _, c0, c1, c2, c3, c4, c5, c6, c7, hf⟩ := h.cellA
  obtain ⟨b0, b1, b2, b3⟩ := h.cellB b hb
  have hp0 := fun q hq => h.cellP b q hb hq
  have f6 := hf 6
  have hdr := h.didr
  have HD := Hid.mk (h.setDid (C.did + 1) (by omega))
  have HK := Hid.mk ((Kp.refl (L.own C.B) w).setCell (p := ⟨L.a, 6, none⟩) (Or.inl rfl) (.int .i64 (C.did + 1)))
  have HG := Hid.mk h.geo
  have HH := Hid.mk h
  have hb1 : (b : Int) < C.B := by omega
  have hp1 : (p : Int) < C.P := by omega
  have hgp := h.geo
  clear h hf
  go_enter Tryd.func66, Tryd.ntmps66
  go_upto_region 8 with (first
    | (go_at_call 67; refine (refusep_any HH.out _ _).mono ?_; rintro e w' ⟨rfl, hw'⟩; rw [hw', hr0.out]; clear hw'))
  have hpp : ((C.P - p : Nat) : Int) = (C.P : Int) - p := by omega
  go_loopw [52] (fun i wr => ∃ k : Nat, k ≤ C.P - p ∧ i = .int .i64 k ∧ wr = w ∧ ∀ q, p ≤ q → q < p + k → C.pg b q = ⟨#[]⟩) (fun i _ => C.P - p - (intOf i).toNat)
  case atStart => exact ⟨0, Nat.zero_le _, rfl, rfl, fun q h1 h2 => by omega⟩
  case round =>
    obtain ⟨i, hi, rfl, rfl, hall⟩ := hrel
    have HA := Hid.mk hall
    clear hall
    by_cases hik : i < C.P - p
    · have ci := hp0 (p + i) (by omega)
      have hi1 : (i : Int) < (C.P : Int) - p := by omega
      have hi2 : (i : Int) < ((C.P - p : Nat) : Int) := by omega
      by_cases he : C.pg b (p + i) = ⟨#[]⟩
      · rw [he] at ci
        clear hp0 c0 c1 c2 c3 c4 c5 c6 c7 b0 b1 b2 b3
        go_wp2_with fail
        refine ⟨⟨i + 1, by omega, by go_num, by first | rfl | trivial, fun q h1 h2 => ?_⟩, by simp [intOf]; omega⟩
        by_cases hqi : q = p + i
        · rw [hqi]
          exact he
        · exact HA.out q h1 (by omega)
      · have hne := notEmpty he
        generalize C.pg b (p + i) = S at *
        clear hp0 c0 c1 c2 c3 c4 c5 c6 c7 b0 b1 b2 b3 he
        go_wp2_with fail
        go_ret
        exact ⟨rfl, rfl⟩
    · have hall : ∀ q, p ≤ q → q < C.P → C.pg b q = ⟨#[]⟩ := fun q h1 h2 => HA.out q h1 (by omega)
      have hi1 : ¬ (i : Int) < (C.P : Int) - p := by omega
      have hi2 : ¬ (i : Int) < ((C.P - p : Nat) : Int) := by omega
      obtain ⟨q, q1, q2, q3⟩ := usedB_true hu
      exact absurd (hall q q1 q2) q3
set_option maxHeartbeats 1000000 in
theorem prog_ok {w : World} {L C} (h : Chip w L C) (b p : Nat) (hb : b < C.B) (hp : p < C.P) (hr0 : Hid (refP C b p = 0)) (data spare R : ByteArray) (hR : data ++ spare = R) (hs1 : data.size = C.Z) (hs2 : spare.size = 32) (hd : C.did < 999999) (hu : usedB C b p = false) (hc : C.cuts (C.did + 1) = none) (hfa : (C.dead b || C.fails (C.did + 1)) = false) :
    Calls Tryd.prog 66 #[.pointer (some ⟨L.a, 0, none⟩), .int .i64 b, .int .i64 p, .string data, .string spare] w fun e w' => e = .returned (.int .i64 0) ∧ Chip w' L (putPg { C with did := C.did + 1 } b p (kp C.Z R)) ∧ Kp (L.own C.B) w w' := by
  have hRs : R.size = C.Z + 32 := by rw [← hR, ByteArray.size_append, hs1, hs2]
  obtain ⟨mc, mf, n, k, _, _, c0, c1, c2, c3, c4, c5, c6, c7, hf⟩ := h.cellA
  obtain ⟨b0, b1, b2, b3⟩ := h.cellB b hb
  have hp0 := fun q hq => h.cellP b q hb hq
  have f6 := hf 6
  have hdr := h.didr
  have HD := Hid.mk (h.setDid (C.did + 1) (by omega))
  have HK := Hid.mk ((Kp.refl (L.own C.B) w).setCell (p := ⟨L.a, 6, none⟩) (Or.inl rfl) (.int .i64 (C.did + 1)))
  have HG := Hid.mk h.geo
  have HH := Hid.mk h
  have hb1 : (b : Int) < C.B := by omega
  have hp1 : (p : Int) < C.P := by omega
  have hgp := h.geo
  clear h hf
  go_enter Tryd.func66, Tryd.ntmps66
  go_upto_region 8 with (first
    | (go_at_call 67; refine (refusep_any HH.out _ _).mono ?_; rintro e w' ⟨rfl, hw'⟩; rw [hw', hr0.out]; clear hw'))
  have hpp : ((C.P - p : Nat) : Int) = (C.P : Int) - p := by omega
  go_loopw [52] (fun i wr => ∃ k : Nat, k ≤ C.P - p ∧ i = .int .i64 k ∧ wr = w ∧ ∀ q, p ≤ q → q < p + k → C.pg b q = ⟨#[]⟩) (fun i _ => C.P - p - (intOf i).toNat)
  case atStart => exact ⟨0, Nat.zero_le _, rfl, rfl, fun q h1 h2 => by omega⟩
  case round =>
    obtain ⟨i, hi, rfl, rfl, hall⟩ := hrel
    have HA := Hid.mk hall
    clear hall
    by_cases hik : i < C.P - p
    · have ci := hp0 (p + i) (by omega)
      have hi1 : (i : Int) < (C.P : Int) - p := by omega
      have hi2 : (i : Int) < ((C.P - p : Nat) : Int) := by omega
      by_cases he : C.pg b (p + i) = ⟨#[]⟩
      · rw [he] at ci
        clear hp0 c0 c1 c2 c3 c4 c5 c6 c7 b0 b1 b2 b3
        go_wp2_with fail
        refine ⟨⟨i + 1, by omega, by go_num, by first | rfl | trivial, fun q h1 h2 => ?_⟩, by simp [intOf]; omega⟩
        by_cases hqi : q = p + i
        · rw [hqi]
          exact he
        · exact HA.out q h1 (by omega)
      · have hne := notEmpty he
        exact absurd (usedB_false hu (p + i) (by omega) (by omega)) he
    · have hall : ∀ q, p ≤ q → q < C.P → C.pg b q = ⟨#[]⟩ := fun q h1 h2 => HA.out q h1 (by omega)
      have hi1 : ¬ (i : Int) < (C.P : Int) - p := by omega
      have hi2 : ¬ (i : Int) < ((C.P - p : Nat) : Int) := by omega
      clear hp0
      go_upto_region 23 with (first
        | (go_at_call 50; refine (cutnow_none HD.out hc).mono ?_; rintro e w1 ⟨rfl, b1⟩; unfold cut0; have HW := Hid.mk ((HD.out.call b1).alloc (.cells #[.int .i64 0, .int .i64 0, .int .u8 0] 64)); have HQ := Hid.mk ((HK.out.call b1).alloc (.cells #[.int .i64 0, .int .i64 0, .int .u8 0] 64)))
        | (go_at_call 54; refine (failsnow_any HW.out (b := b) hb).mono ?_; rintro e w2 ⟨rfl, h2, q2⟩; simp only [hfa]))
      have hGa : ∀ i, L.own C.B i → i < w1.heap.size := fun i hi => (HD.out.call b1).lt hi
      have cv := heap_alloc_new w1 (.cells #[.int .i64 0, .int .i64 0, .int .u8 0] 64)
      have cv2 : w2.heap[w1.heap.size]? = some (.cells #[.int .i64 0, .int .i64 0, .int .u8 0] 64 (0, 0)) := (q2.block _ (by rw [size_alloc]; omega) (fun hx => by have := hGa _ hx; omega)).trans cv
      have hnG : w1.heap.size ≠ L.pb b := fun e => by have := hGa (L.pb b) (Or.inr (Or.inr ⟨b, hb, rfl⟩)); omega
      replace h2 : Chip w2 L { C with did := C.did + 1, dead := upd C.dead b (C.dead b || C.fails (C.did + 1)) } := h2
      have hk2 : Kp (L.own C.B) wr w2 := HQ.out.trans q2
      generalize w1.heap.size = G at *
      clear b1 HD HK HH c0 c1 c2 c3 c4 c5 c6 c7 b0 b2 b3 f6 HW HQ q2 cv hGa hall HA
      have ed : C.dead b = false := by
        cases hx : C.dead b
        · rfl
        · rw [hx] at hfa
          exact absurd hfa (by simp)
      have e2 : upd C.dead b (C.dead b || C.fails (C.did + 1)) = C.dead := by rw [hfa, ← ed, upd_self]
      rw [e2] at h2
      clear e2 ed
      obtain ⟨C2, eC⟩ : ∃ C2 : Ch, C2 = { C with did := C.did + 1 } := ⟨_, rfl⟩
      rw [← eC] at h2
      have eB : C2.B = C.B := by rw [eC]
      have eP : C2.P = C.P := by rw [eC]
      have eZ : C2.Z = C.Z := by rw [eC]
      rw [← eB] at hk2
      have hfin : (kp C2.Z R).size = 0 ∨ (kp C2.Z R).size = C2.Z + 32 := kp_size _ _ (by rw [eZ]; exact hRs)
      have HPK := Hid.mk (PgK.start (b := b) (q := p) h2 hk2 cv2 hnG (by rw [eB]; exact hb) (by rw [eP]; exact hp))
      have HS := Hid.mk HPK.out.drew.cells
      have HE := Hid.mk (And.intro eZ eC)
      have hq3 : (p : Int) < C2.P := by rw [eP]; exact hp1
      have HF := Hid.mk hfin
      clear h2 hk2 cv2 hnG eB eP eZ eC hfin
      go_region_held3 (fun w9 => w9.cell? ⟨L.bs, b * 4, none⟩ = some (.slice (some ⟨L.pb b, 0, none⟩) C2.P C2.P) ∧ w9.cell? ⟨L.pb b, p, none⟩ = some (.string (strAt w9 ⟨L.pb b, p, none⟩)) ∧ w9.frozen? ⟨L.pb b, p, none⟩ = false ∧
            w9.cell? ⟨G, 0, none⟩ = some (.int .i64 0) ∧ w9.cell? ⟨G, 1, none⟩ = some (.int .i64 0) ∧ w9.cell? ⟨G, 2, none⟩ = some (.int .u8 0) ∧ PgK wr L C2 b p G 0 0 0 w9) (first | assumption | exact HS.out | exact pg_keep (by assumption) (by assumption) | exact pg_store (by assumption) HF.out rfl | fail)
          (first
            | (go_at_call 51; refine (kept_any (pg_chip (by assumption)) _).mono ?_; rintro e w7 ⟨rfl, b7⟩))
      have H7 := Hid.mk ((HPK.out.drew.call b7).done HF.out)
      clear b7 HS HPK
      go_wp2_with fail
      go_ret
      have h8 := H7.out
      have e8 := HE.out.2
      clear HE HF H7 hq3
      subst e8
      exact ⟨rfl, h8.1, h8.2⟩

set_option maxHeartbeats 1000000 in
theorem prog_dead {w : World} {L C} (h : Chip w L C) (b p : Nat) (hb : b < C.B) (hp : p < C.P) (hr0 : Hid (refP C b p = 0)) (data spare R : ByteArray) (hR : data ++ spare = R) (hs1 : data.size = C.Z) (hs2 : spare.size = 32) (hd : C.did < 999999) (hu : usedB C b p = false) (hc : C.cuts (C.did + 1) = none) (hfa : (C.dead b || C.fails (C.did + 1)) = true) :
    Calls Tryd.prog 66 #[.pointer (some ⟨L.a, 0, none⟩), .int .i64 b, .int .i64 p, .string data, .string spare] w fun e w' => e = .returned (.int .i64 53) ∧ Chip w' L (putPg { C with did := C.did + 1, dead := upd C.dead b true } b p (rep (C.Z + 32) 0)) ∧ Kp (L.own C.B) w w' := by
  have hRs : R.size = C.Z + 32 := by rw [← hR, ByteArray.size_append, hs1, hs2]
  obtain ⟨mc, mf, n, k, _, _, c0, c1, c2, c3, c4, c5, c6, c7, hf⟩ := h.cellA
  obtain ⟨b0, b1, b2, b3⟩ := h.cellB b hb
  have hp0 := fun q hq => h.cellP b q hb hq
  have f6 := hf 6
  have hdr := h.didr
  have HD := Hid.mk (h.setDid (C.did + 1) (by omega))
  have HK := Hid.mk ((Kp.refl (L.own C.B) w).setCell (p := ⟨L.a, 6, none⟩) (Or.inl rfl) (.int .i64 (C.did + 1)))
  have HG := Hid.mk h.geo
  have HH := Hid.mk h
  have hb1 : (b : Int) < C.B := by omega
  have hp1 : (p : Int) < C.P := by omega
  have hgp := h.geo
  clear h hf
  go_enter Tryd.func66, Tryd.ntmps66
  go_upto_region 8 with (first
    | (go_at_call 67; refine (refusep_any HH.out _ _).mono ?_; rintro e w' ⟨rfl, hw'⟩; rw [hw', hr0.out]; clear hw'))
  have hpp : ((C.P - p : Nat) : Int) = (C.P : Int) - p := by omega
  go_loopw [52] (fun i wr => ∃ k : Nat, k ≤ C.P - p ∧ i = .int .i64 k ∧ wr = w ∧ ∀ q, p ≤ q → q < p + k → C.pg b q = ⟨#[]⟩) (fun i _ => C.P - p - (intOf i).toNat)
  case atStart => exact ⟨0, Nat.zero_le _, rfl, rfl, fun q h1 h2 => by omega⟩
  case round =>
    obtain ⟨i, hi, rfl, rfl, hall⟩ := hrel
    have HA := Hid.mk hall
    clear hall
    by_cases hik : i < C.P - p
    · have ci := hp0 (p + i) (by omega)
      have hi1 : (i : Int) < (C.P : Int) - p := by omega
      have hi2 : (i : Int) < ((C.P - p : Nat) : Int) := by omega
      by_cases he : C.pg b (p + i) = ⟨#[]⟩
      · rw [he] at ci
        clear hp0 c0 c1 c2 c3 c4 c5 c6 c7 b0 b1 b2 b3
        go_wp2_with fail
        refine ⟨⟨i + 1, by omega, by go_num, by first | rfl | trivial, fun q h1 h2 => ?_⟩, by simp [intOf]; omega⟩
        by_cases hqi : q = p + i
        · rw [hqi]
          exact he
        · exact HA.out q h1 (by omega)
      · have hne := notEmpty he
        exact absurd (usedB_false hu (p + i) (by omega) (by omega)) he
    · have hall : ∀ q, p ≤ q → q < C.P → C.pg b q = ⟨#[]⟩ := fun q h1 h2 => HA.out q h1 (by omega)
      have hi1 : ¬ (i : Int) < (C.P : Int) - p := by omega
      have hi2 : ¬ (i : Int) < ((C.P - p : Nat) : Int) := by omega
      clear hp0
      go_upto_region 21 with (first
        | (go_at_call 50; refine (cutnow_none HD.out hc).mono ?_; rintro e w1 ⟨rfl, b1⟩; unfold cut0; have HW := Hid.mk ((HD.out.call b1).alloc (.cells #[.int .i64 0, .int .i64 0, .int .u8 0] 64)); have HQ := Hid.mk ((HK.out.call b1).alloc (.cells #[.int .i64 0, .int .i64 0, .int .u8 0] 64)))
        | (go_at_call 54; refine (failsnow_any HW.out (b := b) hb).mono ?_; rintro e w2 ⟨rfl, h2, q2⟩; simp only [hfa]))
      have hGa : ∀ i, L.own C.B i → i < w1.heap.size := fun i hi => (HD.out.call b1).lt hi
      have cv := heap_alloc_new w1 (.cells #[.int .i64 0, .int .i64 0, .int .u8 0] 64)
      have cv2 : w2.heap[w1.heap.size]? = some (.cells #[.int .i64 0, .int .i64 0, .int .u8 0] 64 (0, 0)) := (q2.block _ (by rw [size_alloc]; omega) (fun hx => by have := hGa _ hx; omega)).trans cv
      have hnG : w1.heap.size ≠ L.pb b := fun e => by have := hGa (L.pb b) (Or.inr (Or.inr ⟨b, hb, rfl⟩)); omega
      replace h2 : Chip w2 L { C with did := C.did + 1, dead := upd C.dead b (C.dead b || C.fails (C.did + 1)) } := h2
      have hk2 : Kp (L.own C.B) wr w2 := HQ.out.trans q2
      generalize w1.heap.size = G at *
      clear b1 HD HK HH c0 c1 c2 c3 c4 c5 c6 c7 b0 b2 b3 f6 HW HQ q2 cv hGa hall HA
      rw [hfa] at h2
      obtain ⟨C2, eC⟩ : ∃ C2 : Ch, C2 = { C with did := C.did + 1, dead := upd C.dead b true } := ⟨_, rfl⟩
      rw [← eC] at h2
      have eB : C2.B = C.B := by rw [eC]
      have eP : C2.P = C.P := by rw [eC]
      have eZ : C2.Z = C.Z := by rw [eC]
      rw [← eB] at hk2
      have hfin : (rep (C2.Z + 32) 0).size = 0 ∨ (rep (C2.Z + 32) 0).size = C2.Z + 32 := Or.inr (rep_size _ _)
      have HPK := Hid.mk (PgK.start (b := b) (q := p) h2 hk2 cv2 hnG (by rw [eB]; exact hb) (by rw [eP]; exact hp))
      have HS := Hid.mk HPK.out.drew.cells
      have HE := Hid.mk (And.intro eZ eC)
      have hq3 : (p : Int) < C2.P := by rw [eP]; exact hp1
      have HF := Hid.mk hfin
      clear h2 hk2 cv2 hnG eB eP eZ eC hfin
      go_region_held3 (fun w9 => w9.cell? ⟨L.bs, b * 4, none⟩ = some (.slice (some ⟨L.pb b, 0, none⟩) C2.P C2.P) ∧ w9.cell? ⟨L.pb b, p, none⟩ = some (.string (strAt w9 ⟨L.pb b, p, none⟩)) ∧ w9.frozen? ⟨L.pb b, p, none⟩ = false ∧
            w9.cell? ⟨G, 0, none⟩ = some (.int .i64 0) ∧ w9.cell? ⟨G, 1, none⟩ = some (.int .i64 0) ∧ w9.cell? ⟨G, 2, none⟩ = some (.int .u8 0) ∧ PgK wr L C2 b p G 0 0 0 w9) (first | assumption | exact HS.out | exact pg_keep (by assumption) (by assumption) | exact pg_store (by assumption) HF.out rfl | fail)
          (first
            | (go_at_call 52; refine (filled_any (pg_chip (by assumption)) _).mono ?_; rintro e w7 ⟨rfl, b7⟩))
      have H7 := Hid.mk ((HPK.out.drew.call b7).done HF.out)
      clear b7 HS HPK
      go_wp2_with fail
      go_ret
      have h8 := H7.out
      have e8 := HE.out.2
      clear HE HF H7 hq3
      subst e8
      exact ⟨rfl, h8.1, h8.2⟩

set_option maxHeartbeats 1000000 in
theorem prog_cut {w : World} {L C} (h : Chip w L C) (b p : Nat) (hb : b < C.B) (hp : p < C.P) (hr0 : Hid (refP C b p = 0)) (data spare R : ByteArray) (hR : data ++ spare = R) (hs1 : data.size = C.Z) (hs2 : spare.size = 32) (hd : C.did < 999999) (hu : usedB C b p = false) (k0 x0 : Int) (hc : C.cuts (C.did + 1) = some (k0, x0)) :
    Calls Tryd.prog 66 #[.pointer (some ⟨L.a, 0, none⟩), .int .i64 b, .int .i64 p, .string data, .string spare] w fun e w' => e = .returned (.int .i64 51) ∧ Chip w' L (putPg { C with did := C.did + 1, off := true } b p (kp C.Z (tornP C.Z R k0 x0))) ∧ Kp (L.own C.B) w w' := by
  have hRs : R.size = C.Z + 32 := by rw [← hR, ByteArray.size_append, hs1, hs2]
  obtain ⟨mc, mf, n, k, _, _, c0, c1, c2, c3, c4, c5, c6, c7, hf⟩ := h.cellA
  obtain ⟨b0, b1, b2, b3⟩ := h.cellB b hb
  have hp0 := fun q hq => h.cellP b q hb hq
  have f6 := hf 6
  have hdr := h.didr
  have HD := Hid.mk (h.setDid (C.did + 1) (by omega))
  have HK := Hid.mk ((Kp.refl (L.own C.B) w).setCell (p := ⟨L.a, 6, none⟩) (Or.inl rfl) (.int .i64 (C.did + 1)))
  have HG := Hid.mk h.geo
  have HH := Hid.mk h
  have hb1 : (b : Int) < C.B := by omega
  have hp1 : (p : Int) < C.P := by omega
  have hgp := h.geo
  clear h hf
  go_enter Tryd.func66, Tryd.ntmps66
  go_upto_region 8 with (first
    | (go_at_call 67; refine (refusep_any HH.out _ _).mono ?_; rintro e w' ⟨rfl, hw'⟩; rw [hw', hr0.out]; clear hw'))
  have hpp : ((C.P - p : Nat) : Int) = (C.P : Int) - p := by omega
  go_loopw [52] (fun i wr => ∃ k : Nat, k ≤ C.P - p ∧ i = .int .i64 k ∧ wr = w ∧ ∀ q, p ≤ q → q < p + k → C.pg b q = ⟨#[]⟩) (fun i _ => C.P - p - (intOf i).toNat)
  case atStart => exact ⟨0, Nat.zero_le _, rfl, rfl, fun q h1 h2 => by omega⟩
  case round =>
    obtain ⟨i, hi, rfl, rfl, hall⟩ := hrel
    have HA := Hid.mk hall
    clear hall
    by_cases hik : i < C.P - p
    · have ci := hp0 (p + i) (by omega)
      have hi1 : (i : Int) < (C.P : Int) - p := by omega
      have hi2 : (i : Int) < ((C.P - p : Nat) : Int) := by omega
      by_cases he : C.pg b (p + i) = ⟨#[]⟩
      · rw [he] at ci
        clear hp0 c0 c1 c2 c3 c4 c5 c6 c7 b0 b1 b2 b3
        go_wp2_with fail
        refine ⟨⟨i + 1, by omega, by go_num, by first | rfl | trivial, fun q h1 h2 => ?_⟩, by simp [intOf]; omega⟩
        by_cases hqi : q = p + i
        · rw [hqi]
          exact he
        · exact HA.out q h1 (by omega)
      · have hne := notEmpty he
        exact absurd (usedB_false hu (p + i) (by omega) (by omega)) he
    · have hall : ∀ q, p ≤ q → q < C.P → C.pg b q = ⟨#[]⟩ := fun q h1 h2 => HA.out q h1 (by omega)
      have hi1 : ¬ (i : Int) < (C.P : Int) - p := by omega
      have hi2 : ¬ (i : Int) < ((C.P - p : Nat) : Int) := by omega
      have hfl := HH.out.fill _ _ hc
      obtain ⟨kk, hkk, hm⟩ : ∃ kk : Nat, kk ≤ C.Z + 32 ∧ min (max k0 0) ((C.Z : Int) + 32) = kk := ⟨(min (max k0 0) ((C.Z : Int) + 32)).toNat, by omega, by omega⟩
      have et : tornP C.Z R k0 x0 = R.extract 0 kk ++ (rep (C.Z + 32) (u8 x0)).extract kk (C.Z + 32) := by
        unfold tornP
        rw [show (((C.Z + 32 : Nat)) : Int) = (C.Z : Int) + 32 by omega, hm, Int.toNat_natCast]
      have hkz : (kk : Int) ≤ (C.Z : Int) + 32 := by omega
      clear hp0
      go_upto_region 18 with (first
        | (go_at_call 50; refine (cutnow_some HD.out hc).mono ?_; rintro e w2 ⟨rfl, h1, q1⟩; unfold cutV))
      have hGa : ∀ i, L.own C.B i → i < w2.heap.size := fun i hi => h1.lt hi
      have cv2 := heap_alloc_new w2 (.cells #[.int .i64 (C.did + 1), .int .i64 k0, .int .u8 x0] 64)
      have hnG : w2.heap.size ≠ L.pb b := fun e => by have := hGa (L.pb b) (Or.inr (Or.inr ⟨b, hb, rfl⟩)); omega
      have h2 : Chip (w2.alloc (.cells #[.int .i64 (C.did + 1), .int .i64 k0, .int .u8 x0] 64)) L { C with did := C.did + 1, off := true } := h1.alloc _
      have hk2 : Kp (L.own C.B) wr (w2.alloc (.cells #[.int .i64 (C.did + 1), .int .i64 k0, .int .u8 x0] 64)) := (HK.out.trans q1).alloc _
      generalize w2.alloc (.cells #[.int .i64 (C.did + 1), .int .i64 k0, .int .u8 x0] 64) = W at *
      generalize w2.heap.size = G at *
      clear h1 q1 HD HK HH c0 c1 c2 c3 c4 c5 c6 c7 b0 b1 b2 b3 f6 hGa hall HA
      obtain ⟨C2, eC⟩ : ∃ C2 : Ch, C2 = { C with did := C.did + 1, off := true } := ⟨_, rfl⟩
      rw [← eC] at h2
      have eB : C2.B = C.B := by rw [eC]
      have eP : C2.P = C.P := by rw [eC]
      have eZ : C2.Z = C.Z := by rw [eC]
      rw [← eB] at hk2
      obtain ⟨Y, hY⟩ : ∃ Y, rep (C.Z + 32) (u8 x0) = Y := ⟨_, rfl⟩
      have hYs : Y.size = C.Z + 32 := by rw [← hY, rep_size]
      have hfin : (kp C.Z (R.extract 0 kk ++ Y.extract kk (C.Z + 32))).size = 0 ∨ (kp C.Z (R.extract 0 kk ++ Y.extract kk (C.Z + 32))).size = C2.Z + 32 := by rw [eZ]; exact kp_size _ _ (cut_size _ _ _ _ hRs hYs hkk)
      rw [hY] at et
      have hkz2 : (kk : Int) ≤ ((C.Z + 32 : Nat) : Int) := by omega
      have hzz : ¬ 9223372036854775807 < C.Z + 32 := by omega
      have HY := Hid.mk (And.intro hY et)
      clear hY et
      have HPK := Hid.mk (PgK.start (b := b) (q := p) h2 hk2 cv2 hnG (by rw [eB]; exact hb) (by rw [eP]; exact hp))
      obtain ⟨u0, u1, u2, u3, u4, u5, _⟩ := HPK.out.cells
      have HS := Hid.mk HPK.out.drew.cells
      have HE := Hid.mk (And.intro eZ eC)
      have hq3 : (p : Int) < C2.P := by rw [eP]; exact hp1
      have HF := Hid.mk hfin
      clear h2 hk2 cv2 hnG eB eP eZ eC hfin
      go_region_held3 (fun w9 => w9.cell? ⟨L.bs, b * 4, none⟩ = some (.slice (some ⟨L.pb b, 0, none⟩) C2.P C2.P) ∧ w9.cell? ⟨L.pb b, p, none⟩ = some (.string (strAt w9 ⟨L.pb b, p, none⟩)) ∧ w9.frozen? ⟨L.pb b, p, none⟩ = false ∧
            w9.cell? ⟨G, 0, none⟩ = some (.int .i64 (C.did + 1)) ∧ w9.cell? ⟨G, 1, none⟩ = some (.int .i64 k0) ∧ w9.cell? ⟨G, 2, none⟩ = some (.int .u8 x0) ∧ PgK wr L C2 b p G (C.did + 1) k0 x0 w9) (first | assumption | exact HS.out | exact pg_keep (by assumption) (by assumption) | exact pg_store (by assumption) HF.out rfl | fail)
          (first
            | (go_at_call 53; refine (fill_any _ _ _ hfl _).mono ?_; rintro e w5 ⟨rfl, b5⟩)
            | (go_at_call 52; refine (filled_any (pg_chip (by assumption)) _).mono ?_; rintro e w6 ⟨rfl, b6⟩; rw [show (putPg C2 b p (strAt w5 ⟨L.pb b, p, none⟩)).Z = C.Z from HE.out.1, HY.out.1])
            | (go_at_call 51; refine (kept_any (pg_chip (by assumption)) _).mono ?_; rintro e w7 ⟨rfl, b7⟩; rw [show (putPg C2 b p (strAt w6 ⟨L.pb b, p, none⟩)).Z = C.Z from HE.out.1]))
      have H7 := Hid.mk ((((HPK.out.drew.call b5).call b6).call b7).done (s := kp C.Z (R.extract 0 kk ++ Y.extract kk (C.Z + 32))) HF.out)
      clear b5 b6 b7 HS HPK
      go_wp2_with fail
      go_ret
      have h8 := H7.out
      have e8 := HE.out.2
      have e9 := HY.out.2
      clear HE HF H7 hq3
      subst e8
      rw [e9]
      exact ⟨rfl, h8.1, h8.2⟩

theorem prog_any {w : World} {L C} (h : Chip w L C) (b p : Int) (data spare : ByteArray) (hd : C.did < 999999) : Calls Tryd.prog 66 #[.pointer (some ⟨L.a, 0, none⟩), .int .i64 b, .int .i64 p, .string data, .string spare] w fun e w' =>
    e = .returned (.int .i64 (progC C b p data spare).2) ∧ Chip w' L (progC C b p data spare).1 ∧ Kp (L.own C.B) w w' := by
  unfold progC
  by_cases h0 : refP C b p = 0
  · rw [if_pos h0]
    obtain ⟨_, ⟨b, rfl, hb⟩, p, rfl, hp⟩ := refP_zero h0
    rw [Int.toNat_natCast, Int.toNat_natCast]
    by_cases hs : data.size = C.Z ∧ spare.size = 32
    · rw [if_pos hs]
      cases hu : usedB C b p
      · rw [if_neg (by decide)]
        cases hc : C.cuts (C.did + 1) with
        | none =>
          simp only
          cases hfa : C.dead b || C.fails (C.did + 1)
          · rw [if_neg (by decide)]
            exact prog_ok h b p hb hp h0 data spare _ rfl hs.1 hs.2 hd hu hc hfa
          · rw [if_pos rfl]
            exact prog_dead h b p hb hp h0 data spare _ rfl hs.1 hs.2 hd hu hc hfa
        | some x => exact prog_cut h b p hb hp h0 data spare _ rfl hs.1 hs.2 hd hu x.1 x.2 hc
      · rw [if_pos rfl]
        refine (prog_used h b p hb hp h0 data spare hs.1 hs.2 hd hu).mono ?_
        rintro e w' ⟨rfl, rfl⟩
        exact ⟨rfl, h, Kp.refl _ _⟩
    · rw [if_neg hs]
      obtain ⟨mc, mf, n, k, _, _, c0, c1, c2, c3, c4, c5, c6, c7, hf⟩ := h.cellA
      have HH := Hid.mk h
      have hr0 := Hid.mk h0
      clear h h0 hf
      by_cases hs1 : data.size = C.Z
      · have hs2 : ¬ (spare.size : Int) = 32 := by omega
        go_enter Tryd.func66, Tryd.ntmps66
        go_wp2_with (go_at_call 67; refine (refusep_any HH.out _ _).mono ?_; rintro e w' ⟨rfl, rfl⟩; rw [hr0.out])
        go_ret
        exact ⟨rfl, HH.out, Kp.refl _ _⟩
      · have hs2 : ¬ (data.size : Int) = C.Z := by omega
        go_enter Tryd.func66, Tryd.ntmps66
        go_wp2_with (go_at_call 67; refine (refusep_any HH.out _ _).mono ?_; rintro e w' ⟨rfl, rfl⟩; rw [hr0.out])
        go_ret
        exact ⟨rfl, HH.out, Kp.refl _ _⟩
  · rw [if_neg h0]
    have HH := Hid.mk h
    clear h
    go_enter Tryd.func66, Tryd.ntmps66
    go_wp2_with (go_at_call 67; refine (refusep_any HH.out _ _).mono ?_; rintro e w' ⟨rfl, rfl⟩)
    go_ret
    exact ⟨rfl, HH.out, Kp.refl _ _⟩

end Go.Proofs.YtbcnocbdifbocaaDoor
