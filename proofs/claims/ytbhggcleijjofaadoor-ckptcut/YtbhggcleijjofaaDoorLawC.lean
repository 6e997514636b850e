/-
  A checkpoint in which the power fails: the walk of CkptCut. Conditions: the table's cells hold what the text lays; the cut's byte is one.
-/
import Derived.Test.YtbhggcleijjofaaDoorCtp
namespace Go.Proofs.YtbhggcleijjofaaDoor
open Go Go.RowKit
set_option maxRecDepth 100000

theorem Run.base {w0 : World} {A X} {w w' : World} (h : Run w0 A X w) (k : Kp (A.own X.C.B) w w') : Below w0.heap.size w0 w' := Kp.below h.below k h.below.size (fun i hi => Nat.le_trans h.lo (h.wtr.low i hi))
theorem Run.chipTo {w0 : World} {A X} {w w' : World} (h : Run w0 A X w) {C' : Ch} (hc : Chip w' A.L C') (k : Kp (A.L.own X.C.B) w w') (eB : C'.B = X.C.B) (eP : C'.P = X.C.P) : Run w0 A { X with C := C' } w' :=
  have k2 : Kp (A.own X.C.B) w w' := k.mono (fun _ hi => .inr (.inl hi))
  ⟨h.wtr.chipTo hc k eB eP, h.base k2, h.lo, Tab.off h.tab k2 h.wtr.zero⟩
theorem cut_one (w : World) (S : Nat → Prop) (hS : ¬ S w.heap.size) (x y z : Int) : CutsAt (w.alloc (.cells #[.int .i64 x, .int .i64 y, .int .u8 z] 61)) S (some ⟨w.heap.size, 0, none⟩) [(x, y, z)] := by
  intro i hi
  obtain rfl : i = 0 := by simpa using hi
  have h := heap_alloc_new w (.cells #[.int .i64 x, .int .i64 y, .int .u8 z] 61)
  exact ⟨w.heap.size, 0, rfl, by rw [size_alloc]; omega, hS, cell_of_row _ _ 0 _ 61 _ h, cell_of_row _ _ 1 _ 61 _ h, cell_of_row _ _ 2 _ 61 _ h⟩
theorem PgIs.off {C : Ch} {b p : Nat} {g : Option (ByteArray × Tg)} (h : PgIs C b p g) : PgIs { C with off := false } b p g := by
  cases g with
  | none => exact h
  | some x => exact h
/-- three cells of a cut -/
def Ct3 (w : World) (g : Nat) (x y z : Int) : Prop := w.heap[g]? = some (.cells #[.int .i64 x, .int .i64 y, .int .u8 z] 61 (0, 0))
theorem Ct3.cells {w : World} {g x y z} (h : Ct3 w g x y z) : w.cell? ⟨g, 0, none⟩ = some (.int .i64 x) ∧ w.cell? ⟨g, 1, none⟩ = some (.int .i64 y) ∧ w.cell? ⟨g, 2, none⟩ = some (.int .u8 z) :=
  ⟨cell_of_row _ _ 0 _ 61 _ h, cell_of_row _ _ 1 _ 61 _ h, cell_of_row _ _ 2 _ 61 _ h⟩
theorem Ct3.lt {w : World} {g x y z} (h : Ct3 w g x y z) : g < w.heap.size := (Array.getElem?_eq_some_iff.1 h).1
theorem Ct3.kp {S : Nat → Prop} {w w' : World} {g x y z} (h : Ct3 w g x y z) (k : Kp S w w') (hs : ¬ S g) : Ct3 w' g x y z := (k.block g h.lt hs).trans h
theorem Ct3.call {w w' : World} {g x y z} (h : Ct3 w g x y z) (b : Below w.heap.size w w') : Ct3 w' g x y z := (b.block g h.lt).trans h
theorem own_lo {w : World} {B e sz a n c xs} (h : w.ownsRow B e sz (.slice a n c) n xs) : ∀ g o, a = some ⟨g, o, none⟩ → B ≤ g ∧ g < w.heap.size := by
  intro g o ha
  rcases h.2 with ⟨q, _⟩ | ⟨g', cap, cur, q, h1, h2, _⟩
  · simp at q
    rw [q.1] at ha
    cases ha
  · simp only [Value.slice.injEq] at q
    rw [q.1] at ha
    obtain ⟨rfl, _⟩ : g' = g ∧ 0 = o := by simpa using ha
    exact ⟨h1, (Array.getElem?_eq_some_iff.1 h2).1⟩
set_option maxHeartbeats 1000000 in
theorem ckptCut_any (xa : Option Addr) (xl xc : Nat) (xf : Nat → Gp.R6) (ya : Option Addr) (yl yc : Nat) (yf : Nat → Gp.R6) (cA cK cF : Int) (w : World) (hx : Gp.RecsF w xa xl xf) (hy : Gp.RecsF w ya yl yf) (hcF : 0 ≤ cF ∧ cF < 256) (hT : Pg.Tab w) :
    Calls Tryd.prog 5 #[.slice xa xl xc, .slice ya yl yc, .agg #[.int .i64 cA, .int .i64 cK, .int .u8 cF]] w fun e w' => e = .returned (.bool true) ∧ Below w.heap.size w w' := by
  have b0 := Pg.below_one w (.cells #[.int .i64 cA, .int .i64 cK, .int .u8 cF] 61)
  have HX : Hid (Gp.RecsF (w.alloc (.cells #[.int .i64 cA, .int .i64 cK, .int .u8 cF] 61)) xa xl xf ∧ Gp.RecsF (w.alloc (.cells #[.int .i64 cA, .int .i64 cK, .int .u8 cF] 61)) ya yl yf ∧ Pg.Tab (w.alloc (.cells #[.int .i64 cA, .int .i64 cK, .int .u8 cF] 61)) ∧ Ct3 (w.alloc (.cells #[.int .i64 cA, .int .i64 cK, .int .u8 cF] 61)) w.heap.size cA cK cF) := ⟨hx.below b0, hy.below b0, hT.call b0, heap_alloc_new w _⟩
  have HB0 := Hid.mk b0
  obtain ⟨a7, ha7, ha8⟩ := low cA 7 (by omega)
  replace ha7 : bits .and .i64 cA 7 = (a7 : Int) := ha7
  clear hx hy hT b0
  go_enter Tryd.func5, Tryd.ntmps5
  go_upto_region 1 with fail
  generalize (w.alloc (.cells #[.int .i64 cA, .int .i64 cK, .int .u8 cF] 61)) = W0 at *
  have hbg := Hid.mk (begun_none 0 0 0 W0 HX.out.2.2.1.1)
  obtain ⟨g5, hg5⟩ : ∃ g, g = w.heap.size := ⟨_, rfl⟩
  rw [← hg5] at HX
  rw [← hg5]
  clear hg5
  go_upto_region 4 with (first
    | (go_at_call 6; refine hbg.out.mono ?_; rintro e w1 ⟨b, p, z, A, rfl, h1⟩; have H1 := Hid.mk h1; clear h1)
    | (go_at_call 7; refine (awake_any w1 (HX.out.2.2.1.call H1.out.below)).mono ?_; rintro e w2 ⟨rfl, b2⟩))
  have hg := H1.out.geo
  have hbp : 32 ≤ b * p := Nat.mul_le_mul (show 8 ≤ b by omega) (show 4 ≤ p by omega)
  have R2 := Hid.mk ((Run.beg H1.out HX.out.2.2.1).call b2)
  have hgeo : Hid (∀ w', Wtr w' A (begX b p z [] []) → Calls Tryd.prog 9 #[.pointer (some ⟨A.L.a, 0, none⟩)] w' fun e w'' => e = .returned (.agg #[.int .i64 b, .int .i64 p, .int .i64 z]) ∧ Below w'.heap.size w' w'') := fun w' h => geom_any h.chip
  have hfd := fldZ
  have hgx : Hid (∀ w', Below W0.heap.size W0 w' → Calls Tryd.prog 8 #[.slice xa xl xc] w' fun e w'' => ∃ v rs, e = .returned v ∧ Gp.Rw w' v rs w'' ∧ rs.length ≤ 30) := fun w' b => Gp.good_any xa xl xc xf w' (HX.out.1.below b)
  have hgy : Hid (∀ w', Below W0.heap.size W0 w' → Calls Tryd.prog 8 #[.slice ya yl yc] w' fun e w'' => ∃ v rs, e = .returned v ∧ Gp.Rw w' v rs w'' ∧ rs.length ≤ 30) := fun w' b => Gp.good_any ya yl yc yf w' (HX.out.2.1.below b)
  have HCT := Hid.mk HX.out.2.2.2
  clear H1 hbg b2 HX
  go_upto_region 6 with (first
    | (go_at_call 9; refine (hgeo.out _ R2.out.wtr).mono ?_; rintro e w3 ⟨rfl, b3⟩; have R3 := Hid.mk (R2.out.call b3); clear b3)
    | (go_at_call 8; refine (hgx.out _ R3.out.below).mono ?_; rintro e w4 ⟨va, rsA, rfl, rwA, hA30⟩; obtain ⟨la, lac, rfl⟩ := rwA.form; have R4 := Hid.mk (R3.out.call rwA.below); clear hgx)
    | (go_at_call 8; refine (hgy.out _ R4.out.below).mono ?_; rintro e w5 ⟨vb, rsB, rfl, rwB, hB30⟩; obtain ⟨lb, lbc, rfl⟩ := rwB.form; clear hgy))
  have R5 := Hid.mk (R4.out.call rwB.below)
  have recA := rwA.recs.below rwB.below
  have recB := rwB.recs
  have mayA := rwA.may
  have mayB := rwB.may
  have HLB : Hid (∀ g o, lb = some ⟨g, o, none⟩ → w4.heap.size ≤ g ∧ g < w5.heap.size) := Hid.mk (own_lo rwB.own)
  have HAL : Hid (∀ i, A.own (begX b p z [] []).C.B i → i < w4.heap.size) := R4.out.wtr.lt
  obtain ⟨tA, htA⟩ : ∃ ts, Gp.packGo (z : Nat) (rsA.map Gp.R6.put) [] ⟨#[]⟩ = ts := ⟨_, rfl⟩
  obtain ⟨tB, htB⟩ : ∃ ts, Gp.packGo (z : Nat) (rsB.map Gp.R6.put) [] ⟨#[]⟩ = ts := ⟨_, rfl⟩
  have hpA := Gp.packGo_len z (rsA.map Gp.R6.put) [] ⟨#[]⟩
  rw [htA, List.length_map] at hpA
  have hpB := Gp.packGo_len z (rsB.map Gp.R6.put) [] ⟨#[]⟩
  rw [htB, List.length_map] at hpB
  simp only [List.length_nil, Nat.zero_add] at hpA hpB
  obtain ⟨n1, hn1⟩ : ∃ m, tA.length = m := ⟨_, rfl⟩
  obtain ⟨n2, hn2⟩ : ∃ m, tB.length = m := ⟨_, rfl⟩
  rw [hn1] at hpA
  rw [hn2] at hpB
  have hpa : Hid (∀ w', Below w5.heap.size w5 w' → Calls Tryd.prog 10 #[.slice la rsA.length lac, .int .i64 z] w' fun e w'' => ∃ v, e = .returned v ∧ w''.ownsRow w'.heap.size 9 1 v n1 (tA.map Value.string) ∧ Below w'.heap.size w' w'') := fun w' b => by
    have := Gp.pack_any la lac z rsA w' (recA.below b) mayA (by omega)
    rw [htA, hn1] at this
    exact this
  have hpb : Hid (∀ w', Gp.RecsF w' lb rsB.length (fun i => rsB.getD i (0, 0, 0, 0, 0, 0)) → Calls Tryd.prog 10 #[.slice lb rsB.length lbc, .int .i64 z] w' fun e w'' => ∃ v, e = .returned v ∧ w''.ownsRow w'.heap.size 9 1 v n2 (tB.map Value.string) ∧ Below w'.heap.size w' w'') := fun w' h => by
    have := Gp.pack_any lb lbc z rsB w' h mayB (by omega)
    rw [htB, hn2] at this
    exact this
  have hpb2 := Hid.mk hpb.out
  have HD := Hid.mk (And.intro recA (And.intro recB (And.intro mayA (And.intro mayB (And.intro htA htB)))))
  clear recA recB mayA mayB htA htB rwA rwB R2 R3 R4 hgeo hfd
  go_upto_if 52 with (first
    | (go_at_call 10; refine (hpa.out _ (Below.refl _ _)).mono ?_; rintro e w6 ⟨v6, rfl, o6, b6⟩; obtain ⟨a6, c6, rfl⟩ := Gp.owns_form o6; clear o6 hpa)
    | (go_at_call 10; refine (hpb.out _ (HD.out.2.1.below b6)).mono ?_; rintro e w7 ⟨v7, rfl, o7, b7⟩; obtain ⟨a7', c7, rfl⟩ := Gp.owns_form o7; clear o7 hpb))
  have R7 := Hid.mk ((R5.out.call b6).call b7)
  have B7 := Hid.mk (below3 b6 b7)
  clear b6 b7 R5
  by_cases hsum : 28 < n1 + n2
  · have hsI : (28 : Int) < (n1 : Int) + (n2 : Int) := by omega
    go_wp2_with fail
    go_ret
    exact ⟨rfl, below3 HB0.out R7.out.below⟩
  have hsI : ¬ (28 : Int) < (n1 : Int) + (n2 : Int) := by omega
  have S7 := Sq.beg b p z [] [] (by omega) (by omega) (by omega) (T2 n1 tA tB) (Q2 n1 n2)
  have hw := write_any R7.out.wtr R7.out.tab S7 0 (by simp) rsA la lac (HD.out.1.below B7.out) HD.out.2.2.1 hA30 3 (by omega) 5 (by omega) z ⟨by omega, Nat.le_refl _⟩ tA HD.out.2.2.2.2.1 (fun i hi => by
    unfold T2 Q2
    rw [Nat.zero_add, if_pos (by omega), if_pos (by omega), hn1]
    exact ⟨rfl, rfl⟩) (by rw [hn1]; show 0 + n1 ≤ b * p; omega) 0 (0, 0) (beg_cuts b p z _) (fun _ => rfl) (.inl (Nat.le_refl _))
  rw [hn1, show nxv 3 5 n1 = 6 by unfold nxv; rw [if_neg (by omega)]; rfl] at hw
  have HW := Hid.mk hw
  clear hw S7
  go_upto_region 9 with (first
    | (go_at_call 11; refine HW.out.mono ?_; rintro e w8 ⟨X8, A8, t8, tb8, nx8, g8, cu8, fa8, hcase⟩; rcases hcase with ⟨_, ⟨v8, rfl, o8⟩, a8, r8, ar8, S8⟩ | ⟨h0, _⟩; rotate_left; exact absurd h0 (by omega)))
  have R8 := R7.out.next t8 nx8
  have eA8 : A8.a = A.a := nx8.a
  have eL8 : A8.L = A.L := nx8.L
  have hP8 : X8.C.P = p := g8.2.1
  have hB8 : X8.C.B = b := g8.1
  have hZ8 : X8.C.Z = z := g8.2.2
  have ar8' : a8 * X8.C.P + r8 = n1 := by rw [hP8]; have := ar8; rw [Nat.zero_add] at this; exact this
  obtain ⟨pa, pc, rfl⟩ := Ints.form o8
  rw [plc_len]
  have recB8 : Gp.RecsF w8 lb rsB.length (fun i => rsB.getD i (0, 0, 0, 0, 0, 0)) := RecsF_kp (HD.out.2.1.below B7.out) nx8.kp (fun g o e x => by
    have h1 := (HLB.out g o e).1
    have h2 := HAL.out g x
    omega)
  have HA8 : Hid (∀ i, A8.own b i → ∀ g o, lb = some ⟨g, o, none⟩ → i ≠ g) := fun i hi g o e => by
    have h1 := HLB.out g o e
    have h3 := B7.out.size
    rcases nx8.own i hi with x | x
    · have h2 := HAL.out i x
      omega
    · omega
  have C8 := HCT.out.kp (S := fun i => W0.heap.size ≤ i) ⟨R8.below.os, R8.below.tape, R8.below.output, R8.below.size, fun i hi hn => R8.below.block i (by omega)⟩ (by have := HCT.out.lt; omega)
  obtain ⟨c0, c1, c2⟩ := C8.cells
  obtain ⟨d0, d1, d2⟩ := (C8.call (Pg.below_one w8 (.cells #[.int .i64 cA, .int .i64 cK, .int .u8 cF] 61))).cells
  have H8 := Hid.mk (And.intro R8 (And.intro S8 (And.intro ar8' recB8)))
  have HSZ : Hid (w5.heap.size ≤ w8.heap.size) := Nat.le_trans B7.out.size nx8.kp.size
  have hw7 : IntKind.i64.wrap (1 + (a7 : Int)) = ((1 + a7 : Nat) : Int) := by rw [IntKind.wrap_i64]; omega
  clear t8 tb8 nx8 g8 cu8 fa8 ar8 S8 R8 ar8' recB8 o8 HW R7 HCT C8
  go_upto_region 11 with fail
  obtain ⟨at', hat'⟩ : ∃ n : Nat, n = 1 + a7 := ⟨_, rfl⟩
  have hat1 : 1 ≤ at' := by omega
  have hat8 : at' ≤ 8 := by omega
  have hatI : (1 + (a7 : Int)) = (at' : Int) := by omega
  rw [hatI]
  clear hw7 hatI hat' ha7 ha8 c0 c1 c2 d0 d1 d2
  have b9 := Pg.below_one w8 (.cells #[.int .i64 (at' : Int), .int .i64 cK, .int .u8 cF] 61)
  have C9 : Hid (Ct3 (w8.alloc (.cells #[.int .i64 (at' : Int), .int .i64 cK, .int .u8 cF] 61)) w8.heap.size at' cK cF) := heap_alloc_new w8 _
  have H9 := Hid.mk (And.intro (H8.out.1.call b9) (And.intro H8.out.2.1 (And.intro H8.out.2.2.1 (H8.out.2.2.2.below b9))))
  have HL8 : Hid (∀ i, A8.own b i → i < w8.heap.size) := fun i hi => H8.out.1.wtr.lt i (by rw [hB8]; exact hi)
  obtain ⟨e0, e1, e2⟩ := C9.out.cells
  have hg16 : Hid (w8.heap.size < (w8.alloc (.cells #[.int .i64 (at' : Int), .int .i64 cK, .int .u8 cF] 61)).heap.size) := C9.out.lt
  clear b9 H8
  generalize (w8.alloc (.cells #[.int .i64 (at' : Int), .int .i64 cK, .int .u8 cF] 61)) = W9 at *
  generalize w8.heap.size = g16 at *
  have b10 := Pg.below_one W9 (.cells #[.int .i64 (at' : Int), .int .i64 cK, .int .u8 cF] 61)
  have R10 := H9.out.1.call b10
  have hLown : ∀ i, A8.L.own X8.C.B i → A8.own b i := fun i hi => by rw [← hB8]; exact .inr (.inl hi)
  obtain ⟨mc, mf, nn, kk, hc0, -⟩ := R10.wtr.chip.to0
  have harm := arm_any hc0 (some ⟨W9.heap.size, 0, none⟩) none [((at' : Int), cK, cF)] [] 1 0 (.slice none 0 0) (cut_one W9 _ (fun x => by have := HL8.out _ (hLown _ x); have := hg16.out; omega) at' cK cF) (fun i hi => by simp at hi) (by simp) (by simp)
    (fun x hx => by
      rw [List.mem_singleton.1 hx]
      exact ⟨WalkArith.wf_i64 (by dsimp only; omega), hcF⟩) (fun x hx => by cases hx)
  rw [eL8] at harm
  have HARM := Hid.mk harm
  have C10 := Hid.mk (C9.out.call b10)
  have H10 := Hid.mk (And.intro R10 (H9.out.2.2.2.below b10))
  clear hc0 harm R10 b10 mc mf nn kk
  go_upto_region 12 with (first
    | (go_at_call 16; refine HARM.out.mono ?_; rintro e w11 ⟨rfl, ch11, k11⟩))
  have k11' : Kp (A8.own b) (W9.alloc (.cells #[.int .i64 (at' : Int), .int .i64 cK, .int .u8 cF] 61)) w11 := k11.mono (fun i hi => hLown i (by rw [eL8]; exact hi))
  have R11 := H10.out.1.chipTo (C' := { X8.C with did := 0, cuts := cutsOf [((at' : Int), cK, cF)], fails := failsOf [] }) (by rw [eL8]; exact ch11) (by rw [eL8]; exact k11) rfl rfl
  have S11 := Sq.arm H9.out.2.1 H9.out.2.2.1 (cutsOf [((at' : Int), cK, cF)]) (failsOf [])
  have recB11 := RecsF_kp H10.out.2 k11' (fun g o e x => HA8.out g x g o e rfl)
  have C11 := C10.out.kp k11' (fun x => by have := HL8.out _ x; omega)
  have hw2 := write_two R11.wtr R11.tab n1 n2 tA tB S11 H9.out.2.2.1 rsB lb lbc recB11 HD.out.2.2.2.1 hB30 z ⟨by omega, hZ8.symm⟩ HD.out.2.2.2.2.2 hn2 (by omega) (by omega) (by show 32 ≤ X8.C.B * X8.C.P; rw [hB8, hP8]; exact hbp) at' hat1 cK cF rfl (fun _ => rfl)
  rw [eA8] at hw2
  have HW2 := Hid.mk hw2
  have H11 := Hid.mk (And.intro R11 (And.intro recB11 C11))
  clear ch11 k11 k11' R11 S11 recB11 C11 hw2 H9 H10 C9 C10 HARM e0 e1 e2
  go_upto_region 13 with (first
    | (go_at_call 11; refine HW2.out.mono ?_; rintro e w12 ⟨X12, A12, v12, x12, er, G, rfl, t12, tb12, nx12, g12, hpg, hTwo, hend⟩))
  have hB12 : X12.C.B = b := g12.1.trans hB8
  have hP12 : X12.C.P = p := g12.2.1.trans hP8
  have nx12' : Nxt A8 A12 b w11 w12 := by have := nx12; rw [show ({ X8 with C := { X8.C with did := 0, cuts := cutsOf [((at' : Int), cK, cF)], fails := failsOf [] } } : Wx).C.B = b from hB8] at this; exact this
  have R12 := H11.out.1.next t12 nx12
  have recB12 := RecsF_kp H11.out.2.1 nx12'.kp (fun g o e x => HA8.out g x g o e rfl)
  have C12 := H11.out.2.2.kp nx12'.kp (fun x => by have := HL8.out _ x; omega)
  have HA12 : ∀ i, A12.own b i → (∀ g o, lb = some ⟨g, o, none⟩ → i ≠ g) ∧ i ≠ g16 := fun i hi => by
    rcases nx12'.own i hi with x | x
    · exact ⟨HA8.out i x, by have := HL8.out i x; omega⟩
    · refine ⟨fun g o e h => ?_, by have := H11.out.2.2.lt; omega⟩
      have h1 := (HLB.out g o e).2
      have h2 := HSZ.out
      have h3 := H11.out.2.2.lt
      omega
  have eA12 : A12.a = A.a := nx12'.a.trans eA8
  have eL12 : A12.L = A.L := nx12'.L.trans eL8
  have hpw := power_any R12.wtr.chip
  rw [eL12] at hpw
  have HPW := Hid.mk hpw
  have H12 := Hid.mk (And.intro R12 (And.intro recB12 (And.intro C12 HA12)))
  clear hpw R12 recB12 C12 HA12 t12 tb12 nx12 nx12' g12 HW2 H11
  go_upto_region 14 with (first
    | (go_at_call 17; refine HPW.out.mono ?_; rintro e w13 ⟨rfl, ch13, k13⟩))
  have k13' : Kp (A12.own b) w12 w13 := k13.mono (fun i hi => by rw [← hB12]; exact .inr (.inl (by rw [eL12]; exact hi)))
  have R13 := H12.out.1.chipTo (C' := { X12.C with off := false }) (by rw [eL12]; exact ch13) (by rw [eL12]; exact k13) rfl rfl
  have recB13 := RecsF_kp H12.out.2.1 k13' (fun g o e x => (H12.out.2.2.2 g x).1 g o e rfl)
  have C13 := H12.out.2.2.1.kp k13' (fun x => (H12.out.2.2.2 _ x).2 rfl)
  have hP812 : ({ X8 with C := { X8.C with did := 0, cuts := cutsOf [((at' : Int), cK, cF)], fails := failsOf [] } } : Wx).C.P = X12.C.P := by rw [hP12]; exact hP8
  rw [hP812] at hpg
  have hfd := found_any R13.wtr R13.tab rfl G 32 (by show 32 ≤ X12.C.B * X12.C.P; rw [hB12, hP12]; exact hbp) (by omega) (fun i hi => (hpg i hi).off)
  rw [eA12] at hfd
  obtain ⟨s, m, hN, hm1, hm28, hsm⟩ : ∃ s m : Nat, nwW (fdL G 32) = some ((s : Int), (m : Int)) ∧ 1 ≤ m ∧ m ≤ 28 ∧ ((s = 6 ∧ m = n2 ∧ Whole G n1 n2) ∨ (s = 5 ∧ m = n1 ∧ ¬ Whole G n1 n2)) := by
    by_cases hw : Whole G n1 n2
    · exact ⟨6, n2, hTwo.whole (by omega) (by omega) hw, by omega, by omega, .inl ⟨rfl, rfl, hw⟩⟩
    · exact ⟨5, n1, hTwo.first (by omega) (by omega) hw, by omega, by omega, .inr ⟨rfl, rfl, hw⟩⟩
  have h0 : ∃ f, (pgs (fdL G 32) s m).getD 0 fdZ = f ∧ f.S = s := by
    obtain ⟨f, _, _, _, _, h5⟩ := nwW_mem hN
    have hh := (cnt_whole _ _ _).1 h5 0 (by omega)
    obtain ⟨f', _, _, h6, _, _, h7⟩ := (pgs_at (fdL G 32) s m).2 0 hh
    exact ⟨f', h7, h6⟩
  have HFD := Hid.mk hfd
  have H13 := Hid.mk (And.intro R13.below (And.intro recB13 C13))
  have HN := Hid.mk (And.intro (hTwo.ok ⟨by omega, by omega⟩) hN)
  replace h0 := Hid.mk h0
  replace hsm := Hid.mk hsm
  replace hend := Hid.mk hend
  clear hfd R13 recB13 C13 hP812 hpg hTwo hN k13 k13' ch13 HPW H12
  go_upto_region 15 with (first
    | (go_at_call 18; refine HFD.out.mono ?_; rintro e w14 ⟨v14, rfl, o14, b14⟩)
    | (go_at_call 14; refine (newest_some v14 (fdL G 32) w14 (o14.lower (Nat.zero_le _)) (fd_ok HN.out.1) (by rw [fdL_len]; omega) s m HN.out.2 (by omega)).mono ?_; rintro e w15 ⟨v15, rfl, o15, l15, b15⟩))
  obtain ⟨a15, p15, rfl⟩ := o15.form
  rw [List.length_map, l15] at o15 ⊢
  obtain ⟨f0, hf0, hS0⟩ := h0.out
  obtain ⟨g20, rfl, hg20, q0, q1, q2, q3, q4, q5, q6, q7⟩ := Ow.fd o15 (j := 0) (by omega) hf0
  rw [Nat.zero_mul, Nat.zero_add, hS0] at q3
  obtain ⟨e0, e1, e2⟩ := ((H13.out.2.2.call b14).call b15).cells
  have hg16b := ((H13.out.2.2.call b14).call b15).lt
  have recB15 := (H13.out.2.1.below b14).below b15
  have B15 := Hid.mk (below3 (below3 (below3 HB0.out H13.out.1) b14) b15)
  have HPB := Hid.mk (hpb2.out w15 recB15)
  have hm0 : ¬ (m : Int) = 0 := by omega
  have hwz : IntKind.i64.wrap ((z : Int) + 32) = (z : Int) + 32 := by rw [IntKind.wrap_i64]; omega
  have hg20b := hg20
  clear q0 q1 q2 q4 q5 q6 q7 o15 o14 b14 b15 recB15 hpb2 H13 HFD HN HD h0 hf0
  rcases hend.out with ⟨rfl, hw⟩ | ⟨rfl, hfull, himp⟩
  · obtain ⟨rfl, rfl⟩ : s = 6 ∧ m = n2 := by
      rcases hsm.out with h | h
      · exact ⟨h.1, h.2.1⟩
      · exact absurd hw h.2.2
    clear hw hsm hend
    go_upto_region 18 with (first
      | (go_at_call 10; refine HPB.out.mono ?_; rintro e w16 ⟨v16, rfl, o16, b16⟩; obtain ⟨a16, c16, rfl⟩ := Gp.owns_form o16; clear o16))
    have z3 := (b16.cell (p := ⟨g20, 3, none⟩) hg20b).trans q3
    have B16 := Hid.mk (below3 B15.out b16)
    clear q3 e0 e1 e2 b16
    go_wp2_with fail
    go_ret
    exact ⟨rfl, B16.out⟩
  · by_cases hfl : at' = n2 ∧ ((z + 32 : Nat) : Int) ≤ cK
    · obtain ⟨rfl, hfl2⟩ := hfl
      obtain ⟨rfl, rfl⟩ : s = 6 ∧ m = at' := by
        rcases hsm.out with h | h
        · exact ⟨h.1, h.2.1⟩
        · exact absurd (hfull rfl hfl2) h.2.2
      have hge : (z : Int) + 32 ≤ cK := by omega
      clear hfull himp hsm hend
      go_upto_region 18 with (first
        | (go_at_call 10; refine HPB.out.mono ?_; rintro e w16 ⟨v16, rfl, o16, b16⟩; obtain ⟨a16, c16, rfl⟩ := Gp.owns_form o16; clear o16))
      have z3 := (b16.cell (p := ⟨g20, 3, none⟩) hg20b).trans q3
      have y0 := (b16.cell (p := ⟨g16, 0, none⟩) hg16b).trans e0
      have y1 := (b16.cell (p := ⟨g16, 1, none⟩) hg16b).trans e1
      have B16 := Hid.mk (below3 B15.out b16)
      clear q3 e0 e1 e2 b16
      go_wp2_with fail
      go_ret
      exact ⟨rfl, B16.out⟩
    · by_cases hat2 : at' = n2
      · have hlt : ¬ (z : Int) + 32 ≤ cK := fun h => hfl ⟨hat2, by omega⟩
        subst hat2
        rcases hsm.out with ⟨rfl, rfl, _⟩ | ⟨rfl, rfl, _⟩
        · clear hfull himp hsm hend hfl
          go_upto_region 18 with (first
            | (go_at_call 10; refine HPB.out.mono ?_; rintro e w16 ⟨v16, rfl, o16, b16⟩; obtain ⟨a16, c16, rfl⟩ := Gp.owns_form o16; clear o16))
          have z3 := (b16.cell (p := ⟨g20, 3, none⟩) hg20b).trans q3
          have y0 := (b16.cell (p := ⟨g16, 0, none⟩) hg16b).trans e0
          have y1 := (b16.cell (p := ⟨g16, 1, none⟩) hg16b).trans e1
          have B16 := Hid.mk (below3 B15.out b16)
          clear q3 e0 e1 e2 b16
          go_wp2_with fail
          go_ret
          exact ⟨rfl, B16.out⟩
        · clear hfull himp hsm hend hfl
          go_upto_region 18 with (first
            | (go_at_call 10; refine HPB.out.mono ?_; rintro e w16 ⟨v16, rfl, o16, b16⟩; obtain ⟨a16, c16, rfl⟩ := Gp.owns_form o16; clear o16))
          have z3 := (b16.cell (p := ⟨g20, 3, none⟩) hg20b).trans q3
          have y0 := (b16.cell (p := ⟨g16, 0, none⟩) hg16b).trans e0
          have y1 := (b16.cell (p := ⟨g16, 1, none⟩) hg16b).trans e1
          have B16 := Hid.mk (below3 B15.out b16)
          clear q3 e0 e1 e2 b16
          go_wp2_with fail
          go_ret
          exact ⟨rfl, B16.out⟩
      · obtain ⟨rfl, rfl⟩ : s = 5 ∧ m = n1 := by
          rcases hsm.out with h | h
          · exact absurd (himp h.2.2) hat2
          · exact ⟨h.1, h.2.1⟩
        have hatI : ¬ (at' : Int) = (n2 : Int) := by omega
        clear hfull himp hsm hend hfl
        go_upto_region 18 with (first
          | (go_at_call 10; refine HPB.out.mono ?_; rintro e w16 ⟨v16, rfl, o16, b16⟩; obtain ⟨a16, c16, rfl⟩ := Gp.owns_form o16; clear o16))
        have z3 := (b16.cell (p := ⟨g20, 3, none⟩) hg20b).trans q3
        have y0 := (b16.cell (p := ⟨g16, 0, none⟩) hg16b).trans e0
        have y1 := (b16.cell (p := ⟨g16, 1, none⟩) hg16b).trans e1
        have B16 := Hid.mk (below3 B15.out b16)
        clear q3 e0 e1 e2 b16
        go_wp2_with fail
        go_ret
        exact ⟨rfl, B16.out⟩
end Go.Proofs.YtbhggcleijjofaaDoor
