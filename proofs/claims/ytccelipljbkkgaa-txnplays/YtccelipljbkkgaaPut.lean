/-
  The walks of put, trim, add and seal: what each leaves of a state. No condition.
-/
import Derived.Test.YtccelipljbkkgaaLeave
namespace Go.Proofs.Ytccelipljbkkgaa
open Go Go.RowKit Go.Maps

theorem foot_ssp {w : World} {s : St} {x x' : Sp} (h : StAt w s) (hg : gsp s.sp x.id = some x) (hid : x'.id = x.id) (hsb : x'.sb = x.sb) (hpb : x'.pb = x.pb) (r b o : Pl) : foot { s with sp := ssp s.sp x', refs := r, bad := b, worn := o } = foot s := by
  obtain ⟨hx, _⟩ := gsp_some hg
  obtain ⟨q1, q2⟩ := ssp_pb s.sp x' x hid hpb hsb (fun z hz ez => up_one h.hS.up hz hx ez)
  simp only [foot, maps]
  rw [q1, q2]
theorem foot_refs (s : St) (r : Pl) : foot { s with refs := r } = foot s := rfl
theorem mem_bR (s : St) : s.bR ∈ foot s := by simp [foot, maps]
theorem mem_bB (s : St) : s.bB ∈ foot s := by simp [foot, maps]
theorem mem_bW (s : St) : s.bW ∈ foot s := by simp [foot, maps]
theorem mem_bS (s : St) : s.bS ∈ foot s := by simp [foot, maps]
theorem mem_pb {s : St} {x : Sp} (hx : x ∈ s.sp) : x.pb ∈ foot s := by
  simp only [foot, maps, List.mem_cons, List.mem_append, List.mem_map]; exact .inr (.inr (.inr (.inr (.inr (.inr ⟨x, hx, rfl⟩)))))
theorem mem_sb {s : St} {x : Sp} (hx : x ∈ s.sp) : x.sb ∈ foot s := by
  simp only [foot, List.mem_cons, List.mem_append, List.mem_map]; exact .inr (.inl ⟨x, hx, rfl⟩)
/-- the spaces' map, looked up -/
theorem StAt.noSp {w s} (h : StAt w s) {id : Int} (hk : K64 id) (hg : gsp s.sp id = none) : (Instr.lookup 64 (.map (some s.bS)) (.int .i64 id) false).run Try.prog w = .ok (.pointer none) w := by
  rw [h.hS.lookP hk, spm_get, hg]; rfl
theorem StAt.aSp {w s} (h : StAt w s) {x : Sp} (hk : K64 x.id) (hg : gsp s.sp x.id = some x) : (Instr.lookup 64 (.map (some s.bS)) (.int .i64 x.id) false).run Try.prog w = .ok (.pointer (some ⟨x.sb, 0, none⟩)) w := by
  rw [h.hS.lookP hk, spm_get, hg]
  simp [pv]

theorem put_none {w s} (h : StAt w s) {id page A : Int} (hk : K64 id) (hg : gsp s.sp id = none) :
    Calls Try.prog 22 #[.pointer (some ⟨s.p, 0, none⟩), .int .i64 id, .int .i64 page, .int .i64 A] w fun e w' => e = .returned (.int .i64 80) ∧ w = w' := by
  have c0 := h.c0
  have l0 := h.noSp hk hg
  clear h
  go_enter Try.func22, Try.ntmps22
  go_wp2
  go_ret
  exact ⟨rfl, rfl⟩
set_option maxRecDepth 20000 in
theorem put_high {w s} (h : StAt w s) {x : Sp} {page A : Int} (hk : K64 x.id) (hg : gsp s.sp x.id = some x) (hq : x.q ≤ page) :
    Calls Try.prog 22 #[.pointer (some ⟨s.p, 0, none⟩), .int .i64 x.id, .int .i64 page, .int .i64 A] w fun e w' => e = .returned (.int .i64 81) ∧ w = w' := by
  have c0 := h.c0
  have l0 := h.aSp hk hg
  have q0 := (h.hsp x (gsp_some hg).1).q
  clear h hg
  go_enter Try.func22, Try.ntmps22
  go_wp2
  go_ret
  exact ⟨rfl, rfl⟩
/-- what put leaves -/
def putS (s : St) (x : Sp) (page A : Int) (m1 : Pl) : St := { s with sp := ssp s.sp { x with ps := mput x.ps page A }, refs := mput m1 A ((mget m1 A).getD 0 + 1) }
set_option maxRecDepth 20000 in
theorem put_new {w s} (h : StAt w s) {x : Sp} {page A : Int} (hk : K64 x.id) (hp : K64 page) (hA : K64 A) (hg : gsp s.sp x.id = some x) (hq : page < x.q) (hno : mget x.ps page = none)
    (hn : x.ps.length < 1000000) (hn1 : (s.refs : Pl).length < 1000000) (hv1 : 0 ≤ (mget s.refs A).getD 0) (hv2 : (mget s.refs A).getD 0 ≤ 1000000) :
    Calls Try.prog 22 #[.pointer (some ⟨s.p, 0, none⟩), .int .i64 x.id, .int .i64 page, .int .i64 A] w fun e w' => e = .returned (.int .i64 0) ∧ StAt w' (putS s x page A s.refs) ∧ Ch w w' s (putS s x page A s.refs) := by
  have c0 := h.c0
  have l0 := h.aSp hk hg
  have hX := h.hsp x (gsp_some hg).1
  have q0 := hX.q
  have q2 := hX.pb
  have l1 := hX.2.lookOk hp
  rw [hno, Option.getD_none, Option.isSome_none] at l1
  have hf := foot_ssp h hg (x' := { x with ps := mput x.ps page A }) rfl rfl rfl (mput s.refs A ((mget s.refs A).getD 0 + 1)) s.bad s.worn
  generalize hM : s.refs = M at *
  have H := Hid.mk (And.intro h (And.intro hg hX))
  have HF := Hid.mk hf
  have HM := Hid.mk hM
  clear hM
  clear h hX hg hf
  unfold putS at *
  generalize hy : (mget M A).getD 0 + 1 = y at *
  have hw : IntKind.i64.wrap ((mget M A).getD 0 + 1) = y := by rw [← hy]; exact wrap_id (by omega) (by omega)
  generalize hx0 : (mget M A).getD 0 = x0 at *
  have HX0 := Hid.mk hx0
  clear hy hv1 hv2 hno hx0
  go_enter Try.func22, Try.ntmps22
  have H1 := Hid.mk (show StAt w { s with refs := M } ∧ gsp s.sp x.id = some x ∧ SpAt w x by rw [← HM.out]; exact H.out)
  go_upto_region 10 with (first | (at_mapUpdate; refine wp_put _ rfl _ _ _ 65 3 rfl Try.underlying65 H1.out.2.2.2 hn page _ _ rfl rfl rfl hp rfl ?_; intro w2 m2 t2))
  have g2 := H1.out.1.pagesT H1.out.2.1 m2 t2
  have d1 : w2.cell? ⟨s.p, 1, none⟩ = some (.map (some s.bR)) := g2.c1
  have l2 : (Instr.lookup 65 (.map (some s.bR)) (.int .i64 A) false).run Try.prog w2 = .ok (.int .i64 ((mget M A).getD 0)) w2 := g2.hR.look hA
  rw [HX0.out] at l2
  have hR2 : Mp elI w2 s.bR M := g2.hR
  have G2 := Hid.mk (And.intro g2 (And.intro t2 hR2))
  clear g2 t2 m2 hR2 c0 l0 q0 q2 l1
  go_frame
  go_wp2_with (first | (at_mapUpdate; refine wp_put _ rfl _ _ _ 65 3 rfl Try.underlying65 G2.out.2.2 hn1 A _ _ rfl rfl rfl hA rfl ?_; intro w3 m3 t3))
  go_ret
  exact ⟨rfl, G2.out.1.refsT m3 t3, ((Ch.turned G2.out.2.1 (mem_pb (gsp_some H.out.2.1).1) rfl rfl : Ch w w2 s s).trans (Ch.turned t3 (mem_bR s) HF.out rfl))⟩
set_option maxRecDepth 20000 in
theorem put_old {w s} (h : StAt w s) {x : Sp} {page A old : Int} (hk : K64 x.id) (hp : K64 page) (hA : K64 A) (hg : gsp s.sp x.id = some x) (hq : page < x.q) (hno : mget x.ps page = some old)
    (hO : K64 old) (ho1 : 0 ≤ (mget s.refs old).getD 0) (ho2 : (mget s.refs old).getD 0 ≤ 1000000) (hn0 : s.refs.length < 1000000)
    (hn : x.ps.length < 1000000) (hn1 : ((lvm s.refs old) : Pl).length < 1000000) (hv1 : 0 ≤ (mget (lvm s.refs old) A).getD 0) (hv2 : (mget (lvm s.refs old) A).getD 0 ≤ 1000000) :
    Calls Try.prog 22 #[.pointer (some ⟨s.p, 0, none⟩), .int .i64 x.id, .int .i64 page, .int .i64 A] w fun e w' => e = .returned (.int .i64 0) ∧ StAt w' (putS s x page A (lvm s.refs old)) ∧ Ch w w' s (putS s x page A (lvm s.refs old)) := by
  have c0 := h.c0
  have l0 := h.aSp hk hg
  have hX := h.hsp x (gsp_some hg).1
  have q0 := hX.q
  have q2 := hX.pb
  have l1 := hX.2.lookOk hp
  rw [hno, Option.getD_some, Option.isSome_some] at l1
  have hf := foot_ssp h hg (x' := { x with ps := mput x.ps page A }) rfl rfl rfl (mput (lvm s.refs old) A ((mget (lvm s.refs old) A).getD 0 + 1)) s.bad s.worn
  have hlv := leave_any h hO ho1 ho2 hn0
  clear ho1 ho2 hn0
  generalize lvm s.refs old = M at *
  have H := Hid.mk (And.intro h (And.intro hg hX))
  have HF := Hid.mk hf
  have HL := Hid.mk hlv
  clear hlv
  clear h hX hg hf
  unfold putS at *
  generalize hy : (mget M A).getD 0 + 1 = y at *
  have hw : IntKind.i64.wrap ((mget M A).getD 0 + 1) = y := by rw [← hy]; exact wrap_id (by omega) (by omega)
  generalize hx0 : (mget M A).getD 0 = x0 at *
  have HX0 := Hid.mk hx0
  clear hy hv1 hv2 hno hx0
  go_enter Try.func22, Try.ntmps22
  go_upto_region 9 with (first | (go_at_call 51; refine HL.out.mono ?_; rintro e w1 ⟨rfl, m1, t1⟩))
  have g1 := H.out.1.refsT m1 t1
  have hX1 : SpAt w1 x := g1.hsp x (gsp_some H.out.2.1).1
  have q21 := hX1.pb
  replace HL := Hid.mk t1
  have H1 := Hid.mk (And.intro g1 (And.intro H.out.2.1 hX1))
  clear m1 t1 g1 hX1 c0 l0 q0 q2 l1
  go_upto_region 10 with (first | (at_mapUpdate; refine wp_put _ rfl _ _ _ 65 3 rfl Try.underlying65 H1.out.2.2.2 hn page _ _ rfl rfl rfl hp rfl ?_; intro w2 m2 t2))
  have g2 := H1.out.1.pagesT H1.out.2.1 m2 t2
  have d1 : w2.cell? ⟨s.p, 1, none⟩ = some (.map (some s.bR)) := g2.c1
  have l2 : (Instr.lookup 65 (.map (some s.bR)) (.int .i64 A) false).run Try.prog w2 = .ok (.int .i64 ((mget M A).getD 0)) w2 := g2.hR.look hA
  rw [HX0.out] at l2
  have hR2 : Mp elI w2 s.bR M := g2.hR
  have G2 := Hid.mk (And.intro g2 (And.intro t2 hR2))
  clear g2 t2 m2 hR2 q21
  go_frame
  go_wp2_with (first | (at_mapUpdate; refine wp_put _ rfl _ _ _ 65 3 rfl Try.underlying65 G2.out.2.2 hn1 A _ _ rfl rfl rfl hA rfl ?_; intro w3 m3 t3))
  go_ret
  exact ⟨rfl, G2.out.1.refsT m3 t3, (Ch.turned HL.out (mem_bR s) rfl rfl : Ch w w1 s s).trans (((Ch.turned G2.out.2.1 (mem_pb (gsp_some H.out.2.1).1) rfl rfl : Ch w1 w2 s s).trans (Ch.turned t3 (mem_bR s) HF.out rfl)))⟩

/-! trim -/
theorem trim_none {w s} (h : StAt w s) {id page : Int} (hk : K64 id) (hg : gsp s.sp id = none) :
    Calls Try.prog 23 #[.pointer (some ⟨s.p, 0, none⟩), .int .i64 id, .int .i64 page] w fun e w' => e = .returned (.int .i64 80) ∧ w = w' := by
  have c0 := h.c0
  have l0 := h.noSp hk hg
  clear h
  go_enter Try.func23, Try.ntmps23
  go_wp2
  go_ret
  exact ⟨rfl, rfl⟩
set_option maxRecDepth 20000 in
theorem trim_not {w s} (h : StAt w s) {x : Sp} {page : Int} (hk : K64 x.id) (hp : K64 page) (hg : gsp s.sp x.id = some x) (hno : mget x.ps page = none) :
    Calls Try.prog 23 #[.pointer (some ⟨s.p, 0, none⟩), .int .i64 x.id, .int .i64 page] w fun e w' => e = .returned (.int .i64 81) ∧ w = w' := by
  have c0 := h.c0
  have l0 := h.aSp hk hg
  have hX := h.hsp x (gsp_some hg).1
  have q2 := hX.pb
  have l1 := hX.2.lookOk hp
  rw [hno, Option.getD_none, Option.isSome_none] at l1
  clear h hg hX hno
  go_enter Try.func23, Try.ntmps23
  go_wp2
  go_ret
  exact ⟨rfl, rfl⟩
def trimS (s : St) (x : Sp) (page : Int) (m1 : Pl) : St := { s with sp := ssp s.sp { x with ps := mdel x.ps page }, refs := m1 }
set_option maxRecDepth 20000 in
theorem trim_old {w s} (h : StAt w s) {x : Sp} {page old : Int} (hk : K64 x.id) (hp : K64 page) (hg : gsp s.sp x.id = some x) (hno : mget x.ps page = some old)
    (hO : K64 old) (ho1 : 0 ≤ (mget s.refs old).getD 0) (ho2 : (mget s.refs old).getD 0 ≤ 1000000) (hn0 : s.refs.length < 1000000) :
    Calls Try.prog 23 #[.pointer (some ⟨s.p, 0, none⟩), .int .i64 x.id, .int .i64 page] w fun e w' => e = .returned (.int .i64 0) ∧ StAt w' (trimS s x page (lvm s.refs old)) ∧ Ch w w' s (trimS s x page (lvm s.refs old)) := by
  have c0 := h.c0
  have l0 := h.aSp hk hg
  have hX := h.hsp x (gsp_some hg).1
  have q2 := hX.pb
  have l1 := hX.2.lookOk hp
  rw [hno, Option.getD_some, Option.isSome_some] at l1
  have hf := foot_ssp h hg (x' := { x with ps := mdel x.ps page }) rfl rfl rfl (lvm s.refs old) s.bad s.worn
  have hlv := leave_any h hO ho1 ho2 hn0
  clear ho1 ho2 hn0
  generalize lvm s.refs old = M at *
  have H := Hid.mk (And.intro h (And.intro hg hX))
  have HF := Hid.mk hf
  have HL := Hid.mk hlv
  clear hlv h hX hg hf hno
  unfold trimS at *
  go_enter Try.func23, Try.ntmps23
  go_upto_region 8 with (first | (go_at_call 51; refine HL.out.mono ?_; rintro e w1 ⟨rfl, m1, t1⟩))
  have g1 := H.out.1.refsT m1 t1
  have hX1 : SpAt w1 x := g1.hsp x (gsp_some H.out.2.1).1
  have q21 := hX1.pb
  replace HL := Hid.mk t1
  have H1 := Hid.mk (And.intro g1 (And.intro H.out.2.1 hX1))
  clear m1 t1 g1 hX1 c0 l0 q2 l1
  go_wp2_with (first | (at_delete; refine wp_del _ rfl _ _ 65 3 rfl Try.underlying65 H1.out.2.2.2 page rfl rfl hp ?_; intro w2 m2 t2))
  go_ret
  exact ⟨rfl, H1.out.1.pagesT H1.out.2.1 m2 t2, (Ch.turned HL.out (mem_bR s) rfl rfl : Ch w w1 s s).trans (Ch.turned t2 (mem_pb (gsp_some H.out.2.1).1) HF.out rfl)⟩

/-! seal -/
theorem seal_none {w s} (h : StAt w s) {id : Int} (hk : K64 id) (hg : gsp s.sp id = none) :
    Calls Try.prog 28 #[.pointer (some ⟨s.p, 0, none⟩), .int .i64 id] w fun e w' => e = .returned (.int .i64 80) ∧ w = w' := by
  have c0 := h.c0
  have l0 := h.noSp hk hg
  clear h
  go_enter Try.func28, Try.ntmps28
  go_wp2
  go_ret
  exact ⟨rfl, rfl⟩
def sealS (s : St) (x : Sp) : St := { s with sp := ssp s.sp { x with sl := true } }
set_option maxRecDepth 20000 in
theorem seal_some {w s} (h : StAt w s) {x : Sp} (hk : K64 x.id) (hg : gsp s.sp x.id = some x) :
    Calls Try.prog 28 #[.pointer (some ⟨s.p, 0, none⟩), .int .i64 x.id] w fun e w' => e = .returned (.int .i64 0) ∧ StAt w' (sealS s x) ∧ Ch w w' s (sealS s x) := by
  have c0 := h.c0
  have l0 := h.aSp hk hg
  have hX := h.hsp x (gsp_some hg).1
  have q1 := hX.sl
  have f1 := hX.fz 1
  have hf := foot_ssp h hg (x' := { x with sl := true }) rfl rfl rfl s.refs s.bad s.worn
  have H := Hid.mk (And.intro h (And.intro hg hf))
  clear h hg hX hf
  go_enter Try.func28, Try.ntmps28
  go_wp2
  go_ret
  refine ⟨rfl, H.out.1.sealT H.out.2.1, ⟨rfl, rfl, rfl, by simp [World.setCell], fun i _ hn => heap_setCell_other w _ i _ (fun e => hn ?_), fun i hi => .inl (H.out.2.2 ▸ hi), rfl⟩⟩
  subst e
  exact mem_sb (gsp_some H.out.2.1).1
end Go.Proofs.Ytccelipljbkkgaa
