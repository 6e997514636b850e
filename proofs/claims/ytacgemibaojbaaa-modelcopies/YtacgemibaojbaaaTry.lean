/-
  The plain device: a change is tried on spaces of its own; Put, Do. No condition.
-/
import Derived.Test.YtacgemibaojbaaaMda
namespace Go.Proofs.Ytacgemibaojbaaa
open Go Go.RowKit Go.Maps

theorem InvM.lay {n l} (h : InvM n l) (S P : Int) {p : Int} (hp : 1 ≤ p ∧ p ≤ n) (hn : n ≤ 2000) : InvM n (layA (abl l) S P p).1.sp := by
  unfold layA
  simp only [abl]
  cases hg : gA l S with
  | none => exact h
  | some x =>
    show InvM n (if P < 0 ∨ x.q ≤ P then _ else _ : Ab × Int).1.sp
    split
    · exact h
    · rename_i hq
      obtain ⟨hx, _⟩ := gA_some hg
      have hpos : ∀ r ∈ mput x.ps P p, 1 ≤ r.2 ∧ r.2 ≤ n := fun r hr => by
        rcases mem_mput hr with rfl | hr
        · exact hp
        · exact h.pos x hx r hr
      refine ⟨h.inv.withS (x := { x with ps := mput x.ps P p }) (h.inv.ids x hx) (h.inv.qs x hx) (fun r hr => ?_) (up_put (h.inv.ups x hx) _ _), fun y hy => ?_⟩
      · have h2 := hpos r hr
        rcases mem_mput hr with rfl | hr
        · show (0 ≤ P ∧ P < x.q) ∧ 0 ≤ p ∧ p ≤ 2000
          omega
        · have := h.inv.pss x hx r hr
          exact this
      · rcases mem_sA hy with rfl | hy
        · exact hpos
        · exact h.pos y hy
theorem InvM.ap {n l} (h : InvM n l) {K S P A T N : Int} (hm : mayB K S P A T N = true) (hK : K = 2 ∨ K = 4 ∨ K = 5 ∨ K = 6 ∨ K = 7) : InvM n (apA (abl l) K S P A T N).1.sp := by
  have hmr := mayB_iff.1 hm
  obtain ⟨a2, a6, a4, a5, a7⟩ := apA_kind (l := l) (A := A) (P := P) (N := N) (T := T) hm
  rcases hK with rfl | rfl | rfl | rfl | rfl
  · rw [a2 rfl]
    unfold trimA
    simp only [abl]
    cases hg : gA l S with
    | none => exact h
    | some x =>
      show InvM n (if mget x.ps P = none then _ else _ : Ab × Int).1.sp
      split
      · exact h
      · obtain ⟨hx, _⟩ := gA_some hg
        have hsub : ∀ r ∈ mdel x.ps P, r ∈ x.ps := fun r hr => (mdel_sub _ _).subset hr
        refine ⟨h.inv.withS (x := { x with ps := mdel x.ps P }) (h.inv.ids x hx) (h.inv.qs x hx) (fun r hr => h.inv.pss x hx r (hsub r hr)) (up_del (h.inv.ups x hx) _), fun y hy => ?_⟩
        rcases mem_sA hy with rfl | hy
        · exact fun r hr => h.pos x hx r (hsub r hr)
        · exact h.pos y hy
  · rw [a4 rfl]
    cases hg : gA l S with
    | some x => exact h
    | none =>
      refine ⟨h.inv.withI (x := ⟨S, N, false, []⟩) hg (by show 1 ≤ S ∧ S ≤ 15; unfold mayR at hmr; omega) (by show 1 ≤ N ∧ N ≤ 1024; unfold mayR at hmr; omega) (fun r hr => by cases hr) List.Pairwise.nil, fun y hy => ?_⟩
      rcases List.mem_cons.1 ((iA_perm _ l).mem_iff.1 hy) with rfl | hy
      · exact fun r hr => by cases hr
      · exact h.pos y hy
  · rw [a5 rfl]
    cases hg : gA l S with
    | none => exact h
    | some x => exact ⟨h.inv.withD S, fun y hy => h.pos y (List.mem_filter.1 hy).1⟩
  · rw [a6 rfl]
    unfold dblA
    simp only [abl]
    cases hg : gA l S with
    | none => exact h
    | some x =>
      cases hgT : gA l T with
      | some y => exact h
      | none =>
        obtain ⟨hx, _⟩ := gA_some hg
        refine ⟨h.inv.withI (x := ⟨T, x.q, false, x.ps⟩) hgT (by show 1 ≤ T ∧ T ≤ 15; unfold mayR at hmr; omega) (h.inv.qs x hx) (h.inv.pss x hx) (h.inv.ups x hx), fun y hy => ?_⟩
        rcases List.mem_cons.1 ((iA_perm _ l).mem_iff.1 hy) with rfl | hy
        · exact h.pos x hx
        · exact h.pos y hy
  · rw [a7 rfl]
    cases hg : gA l S with
    | none => exact h
    | some x =>
      obtain ⟨hx, _⟩ := gA_some hg
      refine ⟨h.inv.withS (x := { x with sl := true }) (h.inv.ids x hx) (h.inv.qs x hx) (h.inv.pss x hx) (h.inv.ups x hx), fun y hy => ?_⟩
      rcases mem_sA hy with rfl | hy
      · exact h.pos x hx
      · exact h.pos y hy
theorem InvM.mono {n n' l} (h : InvM n l) (hn : n ≤ n') : InvM n' l := ⟨h.inv, fun x hx p hp => by have := h.pos x hx p hp; omega⟩
def kindB (K : Int) : Bool := K == 2 || K == 4 || K == 5 || K == 6 || K == 7
set_option maxRecDepth 20000 in
theorem mayBe_any (K S P A T N : Int) (w : World) : Calls Try.prog 28 #[rv K S P A T N] w fun e w' => e = .returned (.bool (kindB K && mayB K S P A T N)) ∧ Below w.heap.size w w' := by
  have hck := fun W => checkB_any K S P A T N W
  unfold rv at *
  have HC := Hid.mk hck
  clear hck
  generalize mayB K S P A T N = b at *
  by_cases h2 : K = 2
  · subst h2
    go_enter Try.func28, Try.ntmps28
    go_wp2_with (first | (go_at_call 44; refine (HC.out _).mono ?_; rintro e w1 ⟨rfl, b1⟩))
    go_ret
    exact ⟨by simp [kindB], box_below _ b1⟩
  by_cases h4 : K = 4
  · subst h4
    go_enter Try.func28, Try.ntmps28
    go_wp2_with (first | (go_at_call 44; refine (HC.out _).mono ?_; rintro e w1 ⟨rfl, b1⟩))
    go_ret
    exact ⟨by simp [kindB], box_below _ b1⟩
  by_cases h5 : K = 5
  · subst h5
    go_enter Try.func28, Try.ntmps28
    go_wp2_with (first | (go_at_call 44; refine (HC.out _).mono ?_; rintro e w1 ⟨rfl, b1⟩))
    go_ret
    exact ⟨by simp [kindB], box_below _ b1⟩
  by_cases h6 : K = 6
  · subst h6
    go_enter Try.func28, Try.ntmps28
    go_wp2_with (first | (go_at_call 44; refine (HC.out _).mono ?_; rintro e w1 ⟨rfl, b1⟩))
    go_ret
    exact ⟨by simp [kindB], box_below _ b1⟩
  by_cases h7 : K = 7
  · subst h7
    go_enter Try.func28, Try.ntmps28
    go_wp2_with (first | (go_at_call 44; refine (HC.out _).mono ?_; rintro e w1 ⟨rfl, b1⟩))
    go_ret
    exact ⟨by simp [kindB], box_below _ b1⟩
  have k2 : (K == 2) = false := by simpa using h2
  have k4 : (K == 4) = false := by simpa using h4
  have k5 : (K == 5) = false := by simpa using h5
  have k6 : (K == 6) = false := by simpa using h6
  have k7 : (K == 7) = false := by simpa using h7
  have kb : kindB K = false := by unfold kindB; rw [k2, k4, k5, k6, k7]; rfl
  rw [kb]
  clear kb
  go_enter Try.func28, Try.ntmps28
  go_wp2_with fail
  go_ret
  exact ⟨rfl, (Below.refl _ w).alloc (Nat.le_refl _) _⟩
/-- a change that is tried; R: what it comes to -/
def tryX (X : MX) (R : Ab × Int) : MX × Int :=
  if 8 ≤ X.did then (X, 171) else if R.2 ≠ 0 then (X, R.2) else if fitB X.pl X.ks R.1 = false then (X, 172) else ({ X with op := some R.1.sp, did := X.did + 1 }, 0)
theorem SpsAt.cloned {L w w1 b b2 l f} (h : SpsAt L w b l f) (m : Mp elS w1 b2 (spm f l)) (q : Below w.heap.size w w1) (hb : w.heap.size ≤ b2) : SpsAt L w1 b2 l f :=
  ⟨m, fun x hx => (h.pg x hx).same (q.block _ (h.pg x hx).lt), fun x hx => by have := (h.pg x hx).lt; omega⟩
theorem grown_above {a b c : World} {r : Nat} (h : Below a.heap.size a b) (k : b.grownBy c (some r)) (hr : a.heap.size ≤ r) : Below a.heap.size a c :=
  h.grown k h.size (fun j hj => by cases hj; exact hr)
set_option maxRecDepth 20000 in
set_option maxHeartbeats 4000000 in
theorem try26_any {g X bS b fS fO w} (h : MxH g X bS (some b) fS fO w) {l : List Asp} (hl : X.op = some l) {R : Ab × Int} (hR : InvM X.puts R.1.sp) (hRa : R.1 = abl R.1.sp) (p1 p2 p3 : Nat)
    (hdo : ∀ W b2 f2, Below w.heap.size w W → SpsAt X.L W b2 l f2 → Calls Try.prog 26 #[.map (some b2), .pointer (some ⟨p1, 0, none⟩), .pointer (some ⟨p2, 0, none⟩), .pointer (some ⟨p3, 0, none⟩)] W (ChD X.L b2 R W)) :
    Calls Try.prog 25 #[.pointer (some ⟨g, 0, none⟩), .func (.func 26) #[] #[.pointer (some ⟨p1, 0, none⟩), .pointer (some ⟨p2, 0, none⟩), .pointer (some ⟨p3, 0, none⟩)]] w (MxD g (tryX X R) w) := by
  obtain ⟨c0, c1, c2, c3, -, -, c6, c7, -⟩ := h.cells
  have hlt := h.lt
  have hop := h.op
  rw [hl] at hop
  have hp2 : X.puts ≤ 2000 := by have := h.inv.p1; omega
  have hd := And.intro h.inv.d0 h.inv.d1
  generalize hRes : tryX X R = Res at *
  unfold tryX at hRes
  by_cases h8 : 8 ≤ X.did
  · rw [if_pos h8] at hRes
    subst hRes
    have H := Hid.mk h
    clear h hdo hop hR hRa
    generalize X.did = n at *
    go_enter Try.func25, Try.ntmps25
    go_wp2_with fail
    go_ret
    exact MxD.same H.out (Below.refl _ w) 171
  · rw [if_neg h8] at hRes
    have d8 : decide (8 ≤ X.did) = false := by simpa using h8
    have H := Hid.mk (And.intro h (And.intro hop (And.intro hR (And.intro hRa hdo))))
    have hcl := Hid.mk (cloneS_any (R := elS) hop.mp)
    have hRes' := Hid.mk hRes
    clear h hop hR hRa hdo hRes h8
    generalize hdid : X.did = n at *
    replace hdid := Hid.mk hdid
    go_enter Try.func25, Try.ntmps25
    go_upto_region 4 with (first | (go_at_call 41; refine hcl.out.mono ?_; rintro e w1 ⟨rfl, m1, b1⟩))
    have s1 := SpsAt.cloned H.out.2.1 m1 b1 (Nat.le_refl _)
    have hd1 := H.out.2.2.2.2 w1 w.heap.size fO b1 s1
    have hc2 := Hid.mk hd1
    have K1 := Hid.mk (And.intro b1 s1)
    clear m1 b1 s1 hd1 hcl c0 c1 c2 c3 c6 c7
    go_upto_region 5 with (first | (go_at_call 26; refine hc2.out.mono ?_; rintro e w2 ⟨rfl, ⟨f2, s2⟩, g2⟩))
    have B2 := grown_above K1.out.1 g2 (Nat.le_refl _)
    have H2 := H.out.1.call B2
    obtain ⟨c0, c1, c2, c3, -, -, c6, c7, -⟩ := H2.cells
    have hl2 := H2.lt
    rw [hdid.out] at c7
    have fz6 := H2.fz 6
    have fz7 := H2.fz 7
    have K2 := Hid.mk (And.intro B2 (And.intro H2 s2))
    clear B2 H2 s2 g2 hc2 K1
    by_cases hR0 : R.2 = 0
    · have hr := hRes'.out
      rw [if_neg (fun q => q hR0)] at hr
      rw [hR0]
      clear hR0
      have cf := fits_any (w := w2) K2.out.2.2 H.out.2.2.1 hp2 X.pl X.ks X.rr X.rp
      rw [← H.out.2.2.2.1] at cf
      have CF := Hid.mk cf
      clear cf
      cases hfit : fitB X.pl X.ks R.1 with
      | false =>
        rw [hfit, if_pos rfl] at hr
        subst hr
        rw [hfit] at CF
        clear hRes'
        go_wp2_with (first | (go_at_call 42; refine CF.out.mono ?_; rintro e w3 ⟨rfl, b3⟩))
        go_ret
        exact MxD.same H.out.1 (below3 K2.out.1 b3) 172
      | true =>
        rw [hfit, if_neg (by simp)] at hr
        subst hr
        rw [hfit] at CF
        clear hRes'
        go_upto_region 9 with (first | (go_at_call 42; refine CF.out.mono ?_; rintro e w3 ⟨rfl, b3⟩))
        have H3 := K2.out.2.1.call b3
        have s3 := K2.out.2.2.call b3
        have B3 := below3 K2.out.1 b3
        clear c0 c1 c2 c3 c6 c7 fz6 fz7 hl2
        obtain ⟨c0, c1, c2, c3, -, -, c6, c7, -⟩ := H3.cells
        have hl3 := H3.lt
        rw [hdid.out] at c7
        have fz6 := H3.fz 6
        have fz7 := H3.fz 7
        have hw : IntKind.i64.wrap (n + 1) = n + 1 := wrap_id (by omega) (by omega)
        have K3 := Hid.mk (And.intro B3 (And.intro H3 s3))
        clear B3 H3 s3 b3 CF
        go_wp2_with fail
        go_ret
        have e : ∀ i, i ≠ g → _ := two_sets (w := w3) (g := g) (j := 6) (k := 7) (u := .map (some w.heap.size)) (v := .int .i64 (n + 1))
        have hH := K3.out.2.1
        refine ⟨rfl, ⟨bS, some w.heap.size, fS, f2, hH.turn ?_ (fun i hi ⟨R, m, hm⟩ => e i (fun q => not_map' hm hH.box q.symm)) hH.st K3.out.2.2 ⟨hH.inv.st, (fun l q => by cases q; exact H.out.2.2.1), hH.inv.p0, hH.inv.p1, ?_, ?_⟩⟩, grown_trans (grown_of_below K3.out.1 _) (grown_trans (grown_set _) (grown_set _))⟩
        · rw [cells_set (cells_set hH.box), ← hdid.out]
          rfl
        · show (0 : Int) ≤ n + 1
          omega
        · show n + 1 ≤ (8 : Int)
          simp only [decide_eq_false_iff_not] at d8
          omega
    · have hr := hRes'.out
      rw [if_pos hR0] at hr
      subst hr
      have hEb : (R.2 != 0) = true := by simpa using hR0
      clear hR0 hRes'
      generalize R.2 = E at *
      go_wp2_with fail
      go_ret
      exact MxD.same H.out.1 K2.out.1 E
set_option maxRecDepth 20000 in
set_option maxHeartbeats 4000000 in
theorem try29_any {g X bS b fS fO w} (h : MxH g X bS (some b) fS fO w) {l : List Asp} (hl : X.op = some l) {R : Ab × Int} (hR : InvM X.puts R.1.sp) (hRa : R.1 = abl R.1.sp) (p1 : Nat)
    (hdo : ∀ W b2 f2, Below w.heap.size w W → SpsAt X.L W b2 l f2 → Calls Try.prog 29 #[.map (some b2), .pointer (some ⟨p1, 0, none⟩)] W (ChD X.L b2 R W)) :
    Calls Try.prog 25 #[.pointer (some ⟨g, 0, none⟩), .func (.func 29) #[] #[.pointer (some ⟨p1, 0, none⟩)]] w (MxD g (tryX X R) w) := by
  obtain ⟨c0, c1, c2, c3, -, -, c6, c7, -⟩ := h.cells
  have hlt := h.lt
  have hop := h.op
  rw [hl] at hop
  have hp2 : X.puts ≤ 2000 := by have := h.inv.p1; omega
  have hd := And.intro h.inv.d0 h.inv.d1
  generalize hRes : tryX X R = Res at *
  unfold tryX at hRes
  by_cases h8 : 8 ≤ X.did
  · rw [if_pos h8] at hRes
    subst hRes
    have H := Hid.mk h
    clear h hdo hop hR hRa
    generalize X.did = n at *
    go_enter Try.func25, Try.ntmps25
    go_wp2_with fail
    go_ret
    exact MxD.same H.out (Below.refl _ w) 171
  · rw [if_neg h8] at hRes
    have d8 : decide (8 ≤ X.did) = false := by simpa using h8
    have H := Hid.mk (And.intro h (And.intro hop (And.intro hR (And.intro hRa hdo))))
    have hcl := Hid.mk (cloneS_any (R := elS) hop.mp)
    have hRes' := Hid.mk hRes
    clear h hop hR hRa hdo hRes h8
    generalize hdid : X.did = n at *
    replace hdid := Hid.mk hdid
    go_enter Try.func25, Try.ntmps25
    go_upto_region 4 with (first | (go_at_call 41; refine hcl.out.mono ?_; rintro e w1 ⟨rfl, m1, b1⟩))
    have s1 := SpsAt.cloned H.out.2.1 m1 b1 (Nat.le_refl _)
    have hd1 := H.out.2.2.2.2 w1 w.heap.size fO b1 s1
    have hc2 := Hid.mk hd1
    have K1 := Hid.mk (And.intro b1 s1)
    clear m1 b1 s1 hd1 hcl c0 c1 c2 c3 c6 c7
    go_upto_region 5 with (first | (go_at_call 29; refine hc2.out.mono ?_; rintro e w2 ⟨rfl, ⟨f2, s2⟩, g2⟩))
    have B2 := grown_above K1.out.1 g2 (Nat.le_refl _)
    have H2 := H.out.1.call B2
    obtain ⟨c0, c1, c2, c3, -, -, c6, c7, -⟩ := H2.cells
    have hl2 := H2.lt
    rw [hdid.out] at c7
    have fz6 := H2.fz 6
    have fz7 := H2.fz 7
    have K2 := Hid.mk (And.intro B2 (And.intro H2 s2))
    clear B2 H2 s2 g2 hc2 K1
    by_cases hR0 : R.2 = 0
    · have hr := hRes'.out
      rw [if_neg (fun q => q hR0)] at hr
      rw [hR0]
      clear hR0
      have cf := fits_any (w := w2) K2.out.2.2 H.out.2.2.1 hp2 X.pl X.ks X.rr X.rp
      rw [← H.out.2.2.2.1] at cf
      have CF := Hid.mk cf
      clear cf
      cases hfit : fitB X.pl X.ks R.1 with
      | false =>
        rw [hfit, if_pos rfl] at hr
        subst hr
        rw [hfit] at CF
        clear hRes'
        go_wp2_with (first | (go_at_call 42; refine CF.out.mono ?_; rintro e w3 ⟨rfl, b3⟩))
        go_ret
        exact MxD.same H.out.1 (below3 K2.out.1 b3) 172
      | true =>
        rw [hfit, if_neg (by simp)] at hr
        subst hr
        rw [hfit] at CF
        clear hRes'
        go_upto_region 9 with (first | (go_at_call 42; refine CF.out.mono ?_; rintro e w3 ⟨rfl, b3⟩))
        have H3 := K2.out.2.1.call b3
        have s3 := K2.out.2.2.call b3
        have B3 := below3 K2.out.1 b3
        clear c0 c1 c2 c3 c6 c7 fz6 fz7 hl2
        obtain ⟨c0, c1, c2, c3, -, -, c6, c7, -⟩ := H3.cells
        have hl3 := H3.lt
        rw [hdid.out] at c7
        have fz6 := H3.fz 6
        have fz7 := H3.fz 7
        have hw : IntKind.i64.wrap (n + 1) = n + 1 := wrap_id (by omega) (by omega)
        have K3 := Hid.mk (And.intro B3 (And.intro H3 s3))
        clear B3 H3 s3 b3 CF
        go_wp2_with fail
        go_ret
        have e : ∀ i, i ≠ g → _ := two_sets (w := w3) (g := g) (j := 6) (k := 7) (u := .map (some w.heap.size)) (v := .int .i64 (n + 1))
        have hH := K3.out.2.1
        refine ⟨rfl, ⟨bS, some w.heap.size, fS, f2, hH.turn ?_ (fun i hi ⟨R, m, hm⟩ => e i (fun q => not_map' hm hH.box q.symm)) hH.st K3.out.2.2 ⟨hH.inv.st, (fun l q => by cases q; exact H.out.2.2.1), hH.inv.p0, hH.inv.p1, ?_, ?_⟩⟩, grown_trans (grown_of_below K3.out.1 _) (grown_trans (grown_set _) (grown_set _))⟩
        · rw [cells_set (cells_set hH.box), ← hdid.out]
          rfl
        · show (0 : Int) ≤ n + 1
          omega
        · show n + 1 ≤ (8 : Int)
          simp only [decide_eq_false_iff_not] at d8
          omega
    · have hr := hRes'.out
      rw [if_pos hR0] at hr
      subst hr
      have hEb : (R.2 != 0) = true := by simpa using hR0
      clear hR0 hRes'
      generalize R.2 = E at *
      go_wp2_with fail
      go_ret
      exact MxD.same H.out.1 K2.out.1 E
/-- the two functions that are handed over -/
theorem put1_any {L n w b l f} (h : SpsAt L w b l f) (hi : InvM n l) {S P p : Int} (hS : K64 S) (hP : K64 P) (hp : 1 ≤ p) {x : Asp} (hg : gA l S = some x) {g1 g2 g3 : Nat}
    (c1 : w.cell? ⟨g1, 0, none⟩ = some (.int .i64 S)) (c2 : w.cell? ⟨g2, 0, none⟩ = some (.int .i64 P)) (c3 : w.cell? ⟨g3, 0, none⟩ = some (.int .i64 p)) (c4 : w.cell? ⟨g3, 1, none⟩ = some (.string (L p))) :
    Calls Try.prog 26 #[.map (some b), .pointer (some ⟨g1, 0, none⟩), .pointer (some ⟨g2, 0, none⟩), .pointer (some ⟨g3, 0, none⟩)] w (ChD L b (layA (abl l) S P p) w) := by
  have q := put_any h hi hS hP hp hg
  generalize L p = str at *
  have Q := Hid.mk q
  clear q h hi hg
  go_enter Try.func26, Try.ntmps26
  go_wp2_with (first | (go_at_call 27; refine Q.out.mono ?_; intro e w2 hd; obtain ⟨rfl, hd2⟩ := hd))
  go_ret
  exact ⟨rfl, hd2⟩
theorem do1_any {L n w b l f} (h : SpsAt L w b l f) (hi : InvM n l) {K S P A T N : Int} (hm : mayB K S P A T N = true) (hK : K = 2 ∨ K = 4 ∨ K = 5 ∨ K = 6 ∨ K = 7) {g1 : Nat} (hr : Row w g1 41 .i64 [K, S, P, A, T, N]) :
    Calls Try.prog 29 #[.map (some b), .pointer (some ⟨g1, 0, none⟩)] w (ChD L b (apA (abl l) K S P A T N) w) := by
  have q := apply_any h hi hm hK (A := A)
  obtain ⟨c0, c1, c2, c3, c4, c5⟩ := hr.six
  unfold rv at q
  have Q := Hid.mk q
  clear q h hi hr
  go_enter Try.func29, Try.ntmps29
  go_wp2_with (first | (go_at_call 30; refine Q.out.mono ?_; intro e w2 hd; obtain ⟨rfl, hd2⟩ := hd))
  go_ret
  exact ⟨rfl, hd2⟩
end Go.Proofs.Ytacgemibaojbaaa
