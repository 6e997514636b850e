/-
  The walk of WriteCuts. Condition: the table's cells hold what the text lays.
-/
import Derived.Test.YtbcnocbdifbocaaDoorCut
namespace Go.Proofs.YtbcnocbdifbocaaDoor
open Go Go.RowKit
set_option maxRecDepth 100000

/-- a page that was told, by its place -/
theorem Cu.page {X : Wx} {a r n At : Nat} {kf : Int × Int} {off : Bool} (h : Cu X a r n At kf off) (hn : n < 100000) {j : Nat} (hj : j < n) : ∃ b p, b < X.C.B ∧ p < X.C.P ∧ j = b * X.C.P + p ∧ Says X.C b p ⟨#[116, 101, 120, 116]⟩ 1 j 0 1 0 := by
  have hP := h.worn.1
  have hnn := h.nn
  have hdm : j = (j / X.C.P) * X.C.P + j % X.C.P := by rw [Nat.mul_comm]; exact (Nat.div_add_mod j X.C.P).symm
  have hpl : j % X.C.P < X.C.P := Nat.mod_lt _ hP
  generalize j / X.C.P = b at *
  generalize j % X.C.P = p at *
  have key : (b < a ∧ p < X.C.P) ∨ (b = a ∧ p < r) := by
    rcases Nat.lt_trichotomy b a with e | e | e
    · exact .inl ⟨e, hpl⟩
    · subst e; exact .inr ⟨rfl, by omega⟩
    · exfalso
      have h2 : (a + 1) * X.C.P ≤ b * X.C.P := Nat.mul_le_mul_right _ e
      rw [Nat.succ_mul] at h2
      have hr : r < X.C.P := by
        rcases h.is with ⟨_, q, _⟩ | ⟨_, q, _⟩
        · have := q.le; omega
        · exact q.lt.2
      omega
  have hb : b < X.C.B := by
    rcases h.is with ⟨_, q, _⟩ | ⟨_, q, _⟩
    · have := q.le; omega
    · have := q.lt; omega
  refine ⟨b, p, hb, hpl, hdm, ?_⟩
  have hs : Says X.C b p (tT (b * X.C.P + p)) 1 (iQ (b * X.C.P + p)) 0 1 0 := by
    rcases h.is with ⟨_, q, _⟩ | ⟨_, q, _⟩
    · exact q.says b p key
    · exact q.says b p key
  rw [← hdm, iQ_is j (by omega)] at hs
  exact hs
theorem power_at {w : World} {L L0 : Ly} {Q : Ending → World → Prop} (e : L = L0) (h : Calls Tryd.prog 26 #[.pointer (some ⟨L.a, 0, none⟩)] w Q) : Calls Tryd.prog 26 #[.pointer (some ⟨L0.a, 0, none⟩)] w Q := e ▸ h
theorem below_join {a b c : World} (h : Below a.heap.size a b) (k : Below b.heap.size b c) : Below a.heap.size a c := below3 h k
theorem cut_lit (w : World) (x k f : Int) : CutsAt (w.alloc (.cells #[.int .i64 x, .int .i64 k, .int .u8 f] 64)) (fun _ => False) (some ⟨w.heap.size, 0, none⟩) [(x, k, f)] := by
  intro i hi
  have hi0 : i = 0 := by simpa using hi
  subst hi0
  have hb := heap_alloc_new w (.cells #[.int .i64 x, .int .i64 k, .int .u8 f] 64)
  exact ⟨w.heap.size, 0, rfl, by rw [size_alloc]; omega, fun h => h, cell_of_row _ _ 0 _ 64 _ hb, cell_of_row _ _ 1 _ 64 _ hb, cell_of_row _ _ 2 _ 64 _ hb⟩
theorem cell3 {w : World} {g t : Nat} {a b c : Value} (h : w.heap[g]? = some (.cells #[a, b, c] t (0, 0))) : w.cell? ⟨g, 0, none⟩ = some a ∧ w.cell? ⟨g, 1, none⟩ = some b ∧ w.cell? ⟨g, 2, none⟩ = some c ∧ w.frozen? ⟨g, 0, none⟩ = false := by
  refine ⟨?_, ?_, ?_, frozen_of_row w g 0 _ t h⟩ <;> (rw [cell_of_row w g _ _ t _ h]; rfl)
theorem lt_of_row {w : World} {g : Nat} {o : Obj} (h : w.heap[g]? = some o) : g < w.heap.size := (Array.getElem?_eq_some_iff.1 h).1
set_option maxHeartbeats 4000000 in
theorem writeCuts_any (B0 P0 Z0 ca ck cf : Int) (hcf : 0 ≤ cf ∧ cf < 256) (n : Int) (w : World) (hT : Pg.Tab w) : Calls Tryd.prog 7 #[.agg #[.int .i64 B0, .int .i64 P0, .int .i64 Z0], .agg #[.int .i64 ca, .int .i64 ck, .int .u8 cf], .int .i64 n] w fun e w' => e = .returned (.bool true) ∧ Below w.heap.size w w' := by
  have B1 := below_two w (.cells #[.int .i64 B0, .int .i64 P0, .int .i64 Z0] 23) (.cells #[.int .i64 ca, .int .i64 ck, .int .u8 cf] 64)
  have r1 := heap_alloc_new (w.alloc (.cells #[.int .i64 B0, .int .i64 P0, .int .i64 Z0] 23)) (.cells #[.int .i64 ca, .int .i64 ck, .int .u8 cf] 64)
  have r0 := (Below.heap_alloc (w.alloc (.cells #[.int .i64 B0, .int .i64 P0, .int .i64 Z0] 23)) (.cells #[.int .i64 ca, .int .i64 ck, .int .u8 cf] 64) w.heap.size (by rw [size_alloc]; omega)).trans (heap_alloc_new w (.cells #[.int .i64 B0, .int .i64 P0, .int .i64 Z0] 23))
  rw [size_alloc] at r1
  obtain ⟨N, hN, hN2⟩ := low n 63 (by omega)
  replace hN : bits .and .i64 n 63 = (N : Int) := hN
  obtain ⟨q, hq, hq2⟩ := low ca 31 (by omega)
  replace hq : bits .and .i64 ca 31 = (q : Int) := hq
  obtain ⟨At, hAt⟩ : ∃ At : Nat, At = 1 + q := ⟨_, rfl⟩
  have HAI : Hid ((1 : Int) + (q : Int) = (At : Int)) := (by omega : (1 : Int) + (q : Int) = (At : Int))
  have hA1 : 1 ≤ At ∧ At ≤ 32 := by omega
  clear hAt
  have HT := Hid.mk (And.intro hT hcf)
  have H1 := Hid.mk (And.intro B1 (And.intro r0 r1))
  obtain ⟨c0, c1, c2, -⟩ := cell3 r0
  obtain ⟨d0, d1, d2, -⟩ := cell3 r1
  clear hT B1 r0 r1
  go_enter Tryd.func7, Tryd.ntmps7
  go_upto_region 1 with fail
  generalize ((w.alloc (.cells #[.int .i64 B0, .int .i64 P0, .int .i64 Z0] 23)).alloc (.cells #[.int .i64 ca, .int .i64 ck, .int .u8 cf] 64)) = V1 at *
  go_upto_region 2 with fail
  have r2 := heap_alloc_new V1 (.cells #[.int .i64 ca, .int .i64 ck, .int .u8 cf] 64)
  have B2 := H1.out.1.alloc H1.out.1.size (.cells #[.int .i64 ca, .int .i64 ck, .int .u8 cf] 64)
  have s0 := (Below.heap_alloc V1 (.cells #[.int .i64 ca, .int .i64 ck, .int .u8 cf] 64) _ (lt_of_row H1.out.2.1)).trans H1.out.2.1
  have s1 := (Below.heap_alloc V1 (.cells #[.int .i64 ca, .int .i64 ck, .int .u8 cf] 64) _ (lt_of_row H1.out.2.2)).trans H1.out.2.2
  have hl0 := lt_of_row H1.out.2.1
  have hle := H1.out.1.size
  clear c0 c1 c2 d0 d1 d2 H1
  obtain ⟨c0, c1, c2, -⟩ := cell3 s0
  obtain ⟨d0, d1, d2, -⟩ := cell3 s1
  obtain ⟨e0, e1, e2, ef⟩ := cell3 r2
  have H2 := Hid.mk (And.intro B2 (And.intro s0 (And.intro r2 hle)))
  have hne : V1.heap.size ≠ w.heap.size := by omega
  clear s0 s1 r2 B2 hle
  generalize (V1.alloc (.cells #[.int .i64 ca, .int .i64 ck, .int .u8 cf] 64)) = V2 at *
  generalize V1.heap.size = G2 at *
  go_upto_region 3 with fail
  rw [HAI.out]
  have r3 := heap_setCell_same V2 G2 0 _ 64 (.int .i64 At) H2.out.2.2.1
  have r4 := (Below.heap_setCell V2 ⟨G2, 0, none⟩ (.int .i64 At) w.heap.size (fun e => hne e.symm)).trans H2.out.2.1
  have B3 := H2.out.1.setCell (p := ⟨G2, 0, none⟩) H2.out.2.2.2 (.int .i64 At)
  replace r3 : (V2.setCell ⟨G2, 0, none⟩ (.int .i64 At)).heap[G2]? = some (.cells #[.int .i64 At, .int .i64 ck, .int .u8 cf] 64 (0, 0)) := r3
  clear c0 c1 c2 d0 d1 d2 e0 e1 e2 ef H2
  generalize V2.setCell ⟨G2, 0, none⟩ (.int .i64 At) = V3 at *
  obtain ⟨c0, c1, c2, -⟩ := cell3 r4
  obtain ⟨e0, e1, e2, -⟩ := cell3 r3
  have B4 := B3.alloc B3.size (.cells #[.int .i64 At, .int .i64 ck, .int .u8 cf] 64)
  have hbg := begun_any B0 P0 Z0 (some ⟨V3.heap.size, 0, none⟩) none [((At : Int), ck, cf)] [] 1 0 (V3.alloc (.cells #[.int .i64 At, .int .i64 ck, .int .u8 cf] 64)) (by rw [size_alloc]; omega) (cut_lit V3 At ck cf) (fun i hi => by simp at hi) (.inr ⟨_, _, rfl⟩) (.inl rfl) (Nat.le_refl _) (Nat.le_refl _) (fun x hx => by simp only [List.mem_singleton] at hx; subst hx; exact ⟨wf_did ⟨by show (0 : Int) ≤ (At : Int); omega, by show (At : Int) < 1000000; omega⟩, HT.out.2⟩) (fun x hx => by simp at hx)
  replace hbg : Calls Tryd.prog 9 #[.agg #[.int .i64 B0, .int .i64 P0, .int .i64 Z0], .agg #[.slice (some ⟨V3.heap.size, 0, none⟩) 1 1, .slice none 0 0, .slice none 0 0]] (V3.alloc (.cells #[.int .i64 At, .int .i64 ck, .int .u8 cf] 64)) fun e w' =>
      ∃ b p z A, e = .returned (.tuple #[.pointer (some ⟨A.L.a, 0, none⟩), .pointer (some ⟨A.a, 0, none⟩), .bool true]) ∧ Begd (V3.alloc (.cells #[.int .i64 At, .int .i64 ck, .int .u8 cf] 64)) [((At : Int), ck, cf)] [] b p z A w' := hbg
  have g2 := ((Below.heap_alloc V3 (.cells #[.int .i64 At, .int .i64 ck, .int .u8 cf] 64) _ (lt_of_row r3)).trans r3)
  have HG2 : Hid (G2 < (V3.alloc (.cells #[.int .i64 At, .int .i64 ck, .int .u8 cf] 64)).heap.size ∧ (V3.alloc (.cells #[.int .i64 At, .int .i64 ck, .int .u8 cf] 64)).cell? ⟨G2, 0, none⟩ = some (.int .i64 At)) := ⟨lt_of_row g2, (cell3 g2).1⟩
  have BW4 := Hid.mk B4
  have HT4 := Hid.mk (HT.out.1.call B4)
  have HBG := Hid.mk hbg
  clear r3 r4 B3 B4 g2 hbg HT
  go_upto_region 6 with (first
    | (go_at_call 9; refine HBG.out.mono ?_; rintro e w1 ⟨b, p, z, A0, rfl, h1⟩; have HR := Hid.mk (And.intro (Run.beg h1 HT4.out) h1.geo); clear h1)
    | (go_at_call 10; refine (awake_any _ HR.out.1.tab).mono ?_; rintro e w2 ⟨rfl, b2⟩; replace HR := Hid.mk (And.intro (HR.out.1.call b2) HR.out.2); clear b2))
  clear HBG HT4 c0 c1 c2 e0 e1 e2
  generalize hV4 : (V3.alloc (.cells #[.int .i64 At, .int .i64 ck, .int .u8 cf] 64)) = V4 at *
  clear hV4
  have hgeo := HR.out.2
  obtain ⟨a0, ha0⟩ : ∃ a0, a0 = A0.a := ⟨_, rfl⟩
  obtain ⟨L0, hL0⟩ : ∃ L0, L0 = A0.L := ⟨_, rfl⟩
  rw [← ha0, ← hL0]
  have S0 : Cu (begX b p z [((At : Int), ck, cf)] []) 0 0 0 At (ck, cf) false := ⟨rfl, fun _ => rfl, ⟨by show 0 < p; omega, by show 4 ≤ z; omega⟩, by simp, .inl ⟨rfl, Sq.beg b p z _ _ (by omega) (by omega) (by omega) tT iQ, by omega⟩⟩
  have HA0 := Hid.mk (And.intro ha0 (And.intro hL0 S0))
  clear ha0 hL0 S0
  go_wp2_with fail
  go_loopw [11, 12, 13] (fun n o i wr => ∃ (k c : Nat) (off : Bool) (A : Wl) (X : Wx) (a r : Nat), n = .int .i64 c ∧ o = .bool off ∧ i = .int .i64 k ∧ k ≤ N ∧ Run V4 A X wr ∧ Cu X a r c At (ck, cf) off ∧ A.a = a0 ∧ A.L = L0 ∧ (off = false → k = c)) (fun _ _ i _ => N - (intOf i).toNat)
  case atStart => exact ⟨0, 0, false, A0, _, 0, 0, rfl, rfl, rfl, Nat.zero_le _, HR.out.1, HA0.out.2.2, HA0.out.1.symm, HA0.out.2.1.symm, fun _ => rfl⟩
  case round =>
    clear HR HA0
    obtain ⟨k, c, off, A, X, a, r, rfl, rfl, rfl, hk, RR, CU, ea, eL, hkc⟩ := hrel
    have hcAt : c + 1 ≤ At := by rcases CU.is with q | q <;> omega
    by_cases hlt : k < N
    · have hlt1 : (k : Int) < (N : Int) := by omega
      have htg := Hid.mk (tag_any k (by omega))
      have hap := fun w' (R : Run V4 A X w') => append_cu R CU (by omega) k (by omega) hkc 0
      rw [ea] at hap
      have HP := Hid.mk hap
      have HR := Hid.mk RR
      have HC := Hid.mk (And.intro ea (And.intro eL hkc))
      clear hap RR ea eL hkc CU
      go_upto_region 11 with (first
        | (go_at_call 19; refine (htg.out _).mono ?_; rintro e w4 ⟨rfl, b4⟩; replace HR := Hid.mk (HR.out.call b4); clear b4)
        | (go_at_call 18; refine (HP.out _ HR.out).mono ?_; rintro e w5 ⟨pl, er, X5, A5, rfl, q5, g5, h5, n5⟩; have H5 := Hid.mk (And.intro (HR.out.next h5 n5) (And.intro q5 (And.intro n5.a n5.L))); clear q5 g5 h5 n5))
      clear HP HR htg
      obtain ⟨R5, q5, na, nL⟩ := H5.out
      rcases q5 with ⟨rfl, CU5⟩ | ⟨rfl, rfl, ⟨a', r', CU5⟩, -⟩ | ⟨rfl, CU5⟩
      · have CC := Hid.mk (And.intro R5 (And.intro CU5 (And.intro (na.trans HC.out.1) (And.intro (nL.trans HC.out.2.1) True.intro))))
        clear H5 R5 CU5 na nL HC
        have hpw0 := power_any CC.out.1.wtr.chip
        have hpw := Hid.mk (power_at CC.out.2.2.2.1 hpw0)
        clear hpw0
        have HCC := Hid.mk (And.intro CC.out.2.1 (And.intro CC.out.2.2.1 CC.out.1.wtr.chip.geo))
        have hcl : (c : Int) ≤ (At : Int) - 1 := by rcases CC.out.2.1.is with q | q <;> omega
        have hcl2 : c < 100000 := by omega
        go_wp2_with (first
          | (go_at_call 26; refine hpw.out.mono ?_; rintro e wp ⟨rfl, hp1, hp2⟩; have HP0 := Hid.mk (And.intro (CC.out.1.next (CC.out.1.wtr.chipTo hp1 hp2 rfl rfl) (Nxt.of (CC.out.1.wtr.kC hp2))) CC.out.2.2.1); clear hp1 hp2))
        clear hpw CC
        go_loopw [16] (fun i wr => ∃ j : Nat, i = .int .i64 j ∧ j ≤ c ∧ Run V4 A5 { X5 with C := { X5.C with off := false } } wr) (fun i _ => c - (intOf i).toNat)
        case atStart => exact ⟨0, rfl, Nat.zero_le _, HP0.out.1⟩
        case round =>
          obtain ⟨j, rfl, hj, hR⟩ := hrel
          by_cases hjc : j < c
          · have hjc1 : (j : Int) < (c : Int) := by omega
            obtain ⟨b, p, hb, hp, hjp, hsy⟩ := HCC.out.1.page hcl2 hjc
            have hrd : ∀ w', Run V4 A5 { X5 with C := { X5.C with off := false } } w' → Calls Tryd.prog 20 #[.pointer (some ⟨A5.a, 0, none⟩), .int .i64 j] w' fun e w'' => e = .returned (.tuple #[.agg #[.int .i64 1, .int .u64 j, .int .i64 0, .int .i64 1, .int .i64 0], .string ⟨#[116, 101, 120, 116]⟩, .int .i64 0]) ∧ Below w'.heap.size w' w'' := fun w' R => read_ok R.wtr R.tab b p hb hp rfl (hsy.same rfl rfl) j (by rw [hjp]; simp)
            rw [HCC.out.2.1] at hrd
            have HRD := Hid.mk (hrd _ hR)
            have HR := Hid.mk hR
            have hwj : IntKind.u64.wrap (j : Int) = (j : Int) := Pg.wrap_nat j (by omega)
            clear hR hrd hsy hb hp hjp
            go_upto_region 22 with (first
              | (go_at_call 20; refine HRD.out.mono ?_; rintro e wq ⟨rfl, bq⟩; have N0 := Pg.TB.fresh wq 1 j 0 1 0; replace HR := Hid.mk ((HR.out.call bq).alloc (.cells #[.int .i64 1, .int .u64 j, .int .i64 0, .int .i64 1, .int .i64 0] 52)); clear bq))
            generalize wq.heap.size = GG at *
            generalize (wq.alloc (.cells #[.int .i64 1, .int .u64 j, .int .i64 0, .int .i64 1, .int .i64 0] 52)) = VV at *
            obtain ⟨y0, y1, y2, y3, y4⟩ := N0.five
            clear N0
            go_wp2_with fail
            exact ⟨⟨j + 1, by go_num, by omega, HR.out⟩, by simp [intOf]; omega⟩
          · have hjc1 : ¬ (j : Int) < (c : Int) := by omega
            have e0 := (hR.below.cell (p := ⟨G2, 0, none⟩) HG2.out.1).trans HG2.out.2
            have hw1 : IntKind.i64.wrap ((At : Int) - 1) = (At : Int) - 1 := by rw [IntKind.wrap_i64]; omega
            have HBL := Hid.mk (below_join BW4.out hR.below)
            clear hR
            go_wp2_with fail
            go_ret
            exact ⟨by first | rfl | simp [hcl], HBL.out⟩
      · have hkc := HC.out.2.2 rfl
        have CC := Hid.mk (And.intro R5 (And.intro CU5 (And.intro (na.trans HC.out.1) (nL.trans HC.out.2.1))))
        clear H5 R5 CU5 na nL HC
        go_wp2_with fail
        exact ⟨⟨k + 1, c + 1, false, A5, X5, a', r', by go_num, rfl, by go_num, by omega, CC.out.1, CC.out.2.1, CC.out.2.2.1, CC.out.2.2.2, fun _ => by omega⟩, by simp [intOf]; omega⟩
      · have CC := Hid.mk (And.intro R5 (And.intro CU5 (And.intro (na.trans HC.out.1) (nL.trans HC.out.2.1))))
        clear H5 R5 CU5 na nL HC
        cases off
        · go_wp2_with fail
          exact ⟨⟨k + 1, c, true, A5, X5, a, r, rfl, rfl, by go_num, by omega, CC.out.1, CC.out.2.1, CC.out.2.2.1, CC.out.2.2.2, fun h => by cases h⟩, by simp [intOf]; omega⟩
        · go_wp2_with fail
          exact ⟨⟨k + 1, c, true, A5, X5, a, r, rfl, rfl, by go_num, by omega, CC.out.1, CC.out.2.1, CC.out.2.2.1, CC.out.2.2.2, fun h => by cases h⟩, by simp [intOf]; omega⟩
    · have hlt1 : ¬ (k : Int) < (N : Int) := by omega
      obtain ⟨A5, hA5⟩ : ∃ A5, A5 = A := ⟨_, rfl⟩
      obtain ⟨X5, hX5⟩ : ∃ X5, X5 = X := ⟨_, rfl⟩
      subst hA5 hX5
      have CC := Hid.mk (And.intro RR (And.intro CU (And.intro ea (And.intro eL True.intro))))
      clear RR CU ea eL hkc
      have hpw0 := power_any CC.out.1.wtr.chip
      have hpw := Hid.mk (power_at CC.out.2.2.2.1 hpw0)
      clear hpw0
      have HCC := Hid.mk (And.intro CC.out.2.1 (And.intro CC.out.2.2.1 CC.out.1.wtr.chip.geo))
      have hcl : (c : Int) ≤ (At : Int) - 1 := by rcases CC.out.2.1.is with q | q <;> omega
      have hcl2 : c < 100000 := by omega
      go_wp2_with (first
        | (go_at_call 26; refine hpw.out.mono ?_; rintro e wp ⟨rfl, hp1, hp2⟩; have HP0 := Hid.mk (And.intro (CC.out.1.next (CC.out.1.wtr.chipTo hp1 hp2 rfl rfl) (Nxt.of (CC.out.1.wtr.kC hp2))) CC.out.2.2.1); clear hp1 hp2))
      clear hpw CC
      go_loopw [16] (fun i wr => ∃ j : Nat, i = .int .i64 j ∧ j ≤ c ∧ Run V4 A5 { X5 with C := { X5.C with off := false } } wr) (fun i _ => c - (intOf i).toNat)
      case atStart => exact ⟨0, rfl, Nat.zero_le _, HP0.out.1⟩
      case round =>
        obtain ⟨j, rfl, hj, hR⟩ := hrel
        by_cases hjc : j < c
        · have hjc1 : (j : Int) < (c : Int) := by omega
          obtain ⟨b, p, hb, hp, hjp, hsy⟩ := HCC.out.1.page hcl2 hjc
          have hrd : ∀ w', Run V4 A5 { X5 with C := { X5.C with off := false } } w' → Calls Tryd.prog 20 #[.pointer (some ⟨A5.a, 0, none⟩), .int .i64 j] w' fun e w'' => e = .returned (.tuple #[.agg #[.int .i64 1, .int .u64 j, .int .i64 0, .int .i64 1, .int .i64 0], .string ⟨#[116, 101, 120, 116]⟩, .int .i64 0]) ∧ Below w'.heap.size w' w'' := fun w' R => read_ok R.wtr R.tab b p hb hp rfl (hsy.same rfl rfl) j (by rw [hjp]; simp)
          rw [HCC.out.2.1] at hrd
          have HRD := Hid.mk (hrd _ hR)
          have HR := Hid.mk hR
          have hwj : IntKind.u64.wrap (j : Int) = (j : Int) := Pg.wrap_nat j (by omega)
          clear hR hrd hsy hb hp hjp
          go_upto_region 22 with (first
            | (go_at_call 20; refine HRD.out.mono ?_; rintro e wq ⟨rfl, bq⟩; have N0 := Pg.TB.fresh wq 1 j 0 1 0; replace HR := Hid.mk ((HR.out.call bq).alloc (.cells #[.int .i64 1, .int .u64 j, .int .i64 0, .int .i64 1, .int .i64 0] 52)); clear bq))
          generalize wq.heap.size = GG at *
          generalize (wq.alloc (.cells #[.int .i64 1, .int .u64 j, .int .i64 0, .int .i64 1, .int .i64 0] 52)) = VV at *
          obtain ⟨y0, y1, y2, y3, y4⟩ := N0.five
          clear N0
          go_wp2_with fail
          exact ⟨⟨j + 1, by go_num, by omega, HR.out⟩, by simp [intOf]; omega⟩
        · have hjc1 : ¬ (j : Int) < (c : Int) := by omega
          have e0 := (hR.below.cell (p := ⟨G2, 0, none⟩) HG2.out.1).trans HG2.out.2
          have hw1 : IntKind.i64.wrap ((At : Int) - 1) = (At : Int) - 1 := by rw [IntKind.wrap_i64]; omega
          have HBL := Hid.mk (below_join BW4.out hR.below)
          clear hR
          go_wp2_with fail
          go_ret
          exact ⟨by first | rfl | simp [hcl], HBL.out⟩
end Go.Proofs.YtbcnocbdifbocaaDoor
