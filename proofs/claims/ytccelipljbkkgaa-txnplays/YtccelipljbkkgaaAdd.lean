/-
  A space more, a space less: the walks of add and drop. No condition.
-/
import Derived.Test.YtccelipljbkkgaaRefs
import Derived.Test.YtccelipljbkkgaaPut
namespace Go.Proofs.Ytccelipljbkkgaa
open Go Go.RowKit Go.Maps

theorem isp_perm (x : Sp) : ∀ l : List Sp, (isp x l).Perm (x :: l)
  | [] => List.Perm.refl _
  | y :: r => by
    unfold isp
    split
    · exact List.Perm.refl _
    · exact ((isp_perm x r).cons y).trans (List.Perm.swap x y r)
theorem maps_isp (s : St) (x : Sp) : (maps { s with sp := isp x s.sp }).Perm (x.pb :: maps s) := by
  have h := (isp_perm x s.sp).map (·.pb)
  simp only [maps, List.map_cons] at h ⊢
  exact ((((h.cons _).cons _).cons _).cons _).trans (List.perm_middle (l₁ := [s.bS, s.bR, s.bB, s.bW]) (a := x.pb) (l₂ := s.sp.map Sp.pb))
theorem foot_isp (s : St) (x : Sp) : ∀ i, i ∈ foot { s with sp := isp x s.sp } ↔ i = x.sb ∨ i = x.pb ∨ i ∈ foot s := by
  intro i
  have h1 := ((isp_perm x s.sp).map (·.sb)).mem_iff (a := i)
  have h2 := (maps_isp s x).mem_iff (a := i)
  rw [List.map_cons] at h1
  simp only [foot, List.mem_cons, List.mem_append] at h1 h2 ⊢
  rw [h2, h1]
  constructor
  · rintro (h | (h | h) | h | h)
    · exact .inr (.inr (.inl h))
    · exact .inl h
    · exact .inr (.inr (.inr (.inl h)))
    · exact .inr (.inl h)
    · exact .inr (.inr (.inr (.inr h)))
  · rintro (h | h | h | h | h)
    · exact .inr (.inl (.inl h))
    · exact .inr (.inr (.inl h))
    · exact .inl h
    · exact .inr (.inl (.inr h))
    · exact .inr (.inr (.inr h))
theorem StAt.addT {w w' : World} {s : St} {x : Sp} (h : StAt w s) (hg : gsp s.sp x.id = none) (hx : SpAt w x) (n1 : x.sb ∉ foot s) (n2 : x.pb ∉ foot s) (hm : Mp elP w' s.bS (mput (spm s.sp) x.id x.sb)) (q : w.mapTurned w' s.bS) : StAt w' { s with sp := isp x s.sp } := by
  obtain ⟨a1, a2, a3, a4, a5, a6, a7, a8⟩ := h.ap
  refine ⟨turned_cells h.hS q h.hp, ?_, h.hR.kept q a1.symm, h.hB.kept q a2.symm, h.hW.kept q a3.symm, fun y hy => ?_, ?_, ?_⟩
  · rw [spm_add x s.sp hg] at hm
    exact hm
  · rcases List.mem_cons.1 ((isp_perm x s.sp).mem_iff.1 hy) with rfl | hy
    · exact hx.turned h.hS q (fun e => n2 (by rw [e]; exact mem_bS s))
    · exact (h.hsp y hy).turned h.hS q (a7 y hy).1
  · refine (maps_isp s x).nodup_iff.2 (List.nodup_cons.2 ⟨fun hm => n2 (by simp [foot, hm]), h.nd⟩)
  · refine ((isp_perm x s.sp).map (·.sb)).nodup_iff.2 (List.nodup_cons.2 ⟨fun hm => n1 (by simp only [foot, List.mem_cons, List.mem_append]; exact .inr (.inl hm)), h.nds⟩)
theorem foot_dsp (s : St) (id : Int) (r : Pl) : ∀ i ∈ foot { s with sp := dsp s.sp id, refs := r }, i ∈ foot s := by
  intro i hi
  simp only [foot, maps, dsp, List.mem_cons, List.mem_append, List.mem_map, List.mem_filter] at hi ⊢
  rcases hi with h | ⟨x, hx, h⟩ | h | h | h | h | ⟨x, hx, h⟩
  · exact .inl h
  · exact .inr (.inl ⟨x, hx.1, h⟩)
  · exact .inr (.inr (.inl h))
  · exact .inr (.inr (.inr (.inl h)))
  · exact .inr (.inr (.inr (.inr (.inl h))))
  · exact .inr (.inr (.inr (.inr (.inr (.inl h)))))
  · exact .inr (.inr (.inr (.inr (.inr (.inr ⟨x, hx.1, h⟩)))))
theorem StAt.dropT {w w' : World} {s : St} {id : Int} (h : StAt w s) (hm : Mp elP w' s.bS (mdel (spm s.sp) id)) (q : w.mapTurned w' s.bS) : StAt w' { s with sp := dsp s.sp id } := by
  obtain ⟨a1, a2, a3, a4, a5, a6, a7, a8⟩ := h.ap
  have hsub : (dsp s.sp id).Sublist s.sp := List.filter_sublist
  refine ⟨turned_cells h.hS q h.hp, ?_, h.hR.kept q a1.symm, h.hB.kept q a2.symm, h.hW.kept q a3.symm, fun y hy => (h.hsp y (hsub.subset hy)).turned h.hS q (a7 y (hsub.subset hy)).1, ?_, h.nds.sublist (hsub.map _)⟩
  · rw [spm_del] at hm
    exact hm
  · refine h.nd.sublist ?_
    exact (((((hsub.map _).cons_cons _).cons_cons _).cons_cons _).cons_cons _)

theorem Ch.added {w w1 w2 : World} {s s' : St} {b : Nat} {g1 g2 : Nat} (q1 : Below w.heap.size w w1) (q2 : w1.mapTurned w2 b) (hb : b ∈ foot s) (hf : ∀ i ∈ foot s', i = g1 ∨ i = g2 ∨ i ∈ foot s) (h1 : w.heap.size ≤ g1) (h2 : w.heap.size ≤ g2) (hp : s'.p = s.p := by rfl) : Ch w w2 s s' := by
  have g := q2.grown
  refine ⟨g.os.trans q1.os, g.tape.trans q1.tape, g.output.trans q1.output, Nat.le_trans q1.size g.size, fun i hi hn => (g.block i (Nat.lt_of_lt_of_le hi q1.size) (fun e => hn (by cases e; exact hb))).trans (q1.block i hi), fun i hi => ?_, hp⟩
  rcases hf i hi with rfl | rfl | h
  · exact .inr h1
  · exact .inr h2
  · exact .inl h
theorem Ch.step {w wr w2 : World} {s : St} {r : Nat} (c : Ch w wr s s) (g : wr.grownBy w2 (some r)) (hr : w.heap.size ≤ r) : Ch w w2 s s :=
  ⟨g.os.trans c.os, g.tape.trans c.tape, g.output.trans c.output, Nat.le_trans c.size g.size, fun i hi hn => (g.block i (Nat.lt_of_lt_of_le hi c.size) (by simp; omega)).trans (c.block i hi hn), fun _ h => .inl h, rfl⟩
theorem StAt.step {w wr w2 : World} {s s' : St} {r : Nat} (h : StAt wr s') (hs : StAt w s) (hf : foot s' = foot s) (g : wr.grownBy w2 (some r)) (hr : w.heap.size ≤ r) : StAt w2 s' :=
  h.frame fun i hi => g.block i (h.foot_lt i hi) (by have := hs.foot_lt i (hf ▸ hi); simp; omega)
theorem add_some {w s} (h : StAt w s) {x : Sp} {q : Int} (hk : K64 x.id) (hg : gsp s.sp x.id = some x) :
    Calls Try.prog 25 #[.pointer (some ⟨s.p, 0, none⟩), .int .i64 x.id, .int .i64 q] w fun e w' => e = .returned (.int .i64 80) ∧ w = w' := by
  have c0 := h.c0
  have l0 := h.aSp hk hg
  clear h hg
  go_enter Try.func25, Try.ntmps25
  go_wp2
  go_ret
  exact ⟨rfl, rfl⟩
def addS (s : St) (x : Sp) : St := { s with sp := isp x s.sp }
set_option maxRecDepth 20000 in
theorem add_none {w s} (h : StAt w s) {id q : Int} (hk : K64 id) (hg : gsp s.sp id = none) (hn : s.sp.length < 1000) :
    Calls Try.prog 25 #[.pointer (some ⟨s.p, 0, none⟩), .int .i64 id, .int .i64 q] w fun e w' => e = .returned (.int .i64 0) ∧ ∃ sb pb, StAt w' (addS s ⟨id, q, false, [], sb, pb⟩) ∧ Ch w w' s (addS s ⟨id, q, false, [], sb, pb⟩) := by
  have c0 := h.c0
  have l0 := h.noSp hk hg
  have hpl := h.lt
  have hmm := @run_makeMap Try.prog
  have H := Hid.mk (And.intro h (And.intro hg hn))
  clear h hg hn
  go_enter Try.func25, Try.ntmps25
  go_upto_region 3 with fail
  have a0 := H.out.1.alloc (.map #[] 0)
  have a1 := a0.alloc (.cells #[.int .i64 q, .bool false, .map (some w.heap.size)] 99)
  have a2 : SpAt ((w.alloc (.map #[] 0)).alloc (.cells #[.int .i64 q, .bool false, .map (some w.heap.size)] 99)) ⟨id, q, false, [], w.heap.size + 1, w.heap.size⟩ := by
    refine ⟨?_, (Mp.made w elI).alloc _⟩
    have := heap_alloc_new (w.alloc (.map #[] 0)) (.cells #[.int .i64 q, .bool false, .map (some w.heap.size)] 99)
    rw [size_alloc] at this
    exact this
  have a3 := below_two w (.map #[] 0) (.cells #[.int .i64 q, .bool false, .map (some w.heap.size)] 99)
  have b1 : (spm s.sp).length < 1000000 := by simp only [spm, List.length_map]; have := H.out.2.2; omega
  have A := Hid.mk (And.intro a1 (And.intro a2 a3))
  clear a0 a1 a2 a3
  go_wp2_with (first | (at_mapUpdate; refine wp_put _ rfl _ _ _ 64 97 rfl Try.underlying64 A.out.1.hS b1 id _ _ rfl rfl rfl hk rfl ?_; intro w2 m2 t2))
  go_ret
  have hlt := H.out.1.foot_lt
  have n1 : w.heap.size + 1 ∉ foot s := fun hm => by have := hlt _ hm; omega
  have n2 : w.heap.size ∉ foot s := fun hm => by have := hlt _ hm; omega
  refine ⟨rfl, w.heap.size + 1, w.heap.size, A.out.1.addT (x := ⟨id, q, false, [], w.heap.size + 1, w.heap.size⟩) H.out.2.1 A.out.2.1 n1 n2 m2 t2, ?_⟩
  exact Ch.added A.out.2.2 t2 (mem_bS s) (fun i hi => (foot_isp s _ i).1 hi) (Nat.le_succ _) (Nat.le_refl _)
/-! drop -/
theorem drop_none {w s} (h : StAt w s) {id : Int} (hk : K64 id) (hg : gsp s.sp id = none) :
    Calls Try.prog 26 #[.pointer (some ⟨s.p, 0, none⟩), .int .i64 id] w fun e w' => e = .returned (.int .i64 80) ∧ w = w' := by
  have c0 := h.c0
  have l0 := h.noSp hk hg
  clear h
  go_enter Try.func26, Try.ntmps26
  go_wp2
  go_ret
  exact ⟨rfl, rfl⟩
def dropS (s : St) (id : Int) (m : Pl) : St := { s with sp := dsp s.sp id, refs := m }
/-- what holds while drop goes over a space's pages -/
def DrS (w : World) (s : St) (x : Sp) (F : Int → Nat) (r : Nat) (rest : Pl) (M : Pl) (wr : World) : Prop :=
  Rg elI wr x.pb r x.ps rest ∧ rest.Sublist x.ps ∧ StAt wr { s with refs := M } ∧ RefsIs M (fun a => F a + cntP rest a) ∧ Ch w wr s s ∧ w.heap.size ≤ r
set_option maxRecDepth 20000 in
theorem drop_some {w s} (h : StAt w s) {x : Sp} {F : Int → Nat} (hk : K64 x.id) (hg : gsp s.sp x.id = some x) (hF : RefsIs s.refs (fun a => F a + cntP x.ps a)) (hA : ∀ p ∈ x.ps, 0 ≤ p.2 ∧ p.2 ≤ 2000) :
    Calls Try.prog 26 #[.pointer (some ⟨s.p, 0, none⟩), .int .i64 x.id] w fun e w' => e = .returned (.int .i64 0) ∧ ∃ M, StAt w' (dropS s x.id M) ∧ RefsIs M F ∧ Ch w w' s (dropS s x.id M) := by
  have c0 := h.c0
  have l0 := h.aSp hk hg
  have hX := h.hsp x (gsp_some hg).1
  have q2 := hX.pb
  have H := Hid.mk (And.intro h (And.intro hg (And.intro hX (And.intro hF hA))))
  clear h hX hg hF hA
  go_enter Try.func26, Try.ntmps26
  go_upto_region 5 with (first | (at_range; refine wp_range _ rfl _ 65 3 rfl Try.underlying65 H.out.2.2.1.2 rfl ?_; intro w1 r1 b1 z1))
  go_frame
  have S0 : DrS w s x F w.heap.size x.ps s.refs w1 := ⟨r1, List.Sublist.refl _, H.out.1.call b1, H.out.2.2.2.1, Ch.call b1, Nat.le_refl _⟩
  replace S0 := Hid.mk S0
  clear r1 b1 z1 c0 l0 q2
  generalize hr : w.heap.size = r at *
  replace hr := Hid.mk hr
  go_loopw [7] (fun _ wr => ∃ rest M, DrS w s x F r rest M wr) (fun _ wr => wr.rangeLeft x.pb r)
  case atStart => exact ⟨_, _, S0.out⟩
  case round =>
    clear S0
    obtain ⟨rest, M, hs⟩ := hrel
    have HS := Hid.mk hs
    clear hs
    go_wp2_with (first | (at_next; refine wp_next _ rfl _ rfl HS.out.1 rfl ?_ ?_))
    · intro hd
      subst hd
      have e0 := HS.out.2.2.1.c0
      go_wp2_with (first | (at_delete; refine wp_del _ rfl _ _ 64 97 rfl Try.underlying64 HS.out.2.2.1.hS x.id rfl rfl hk ?_; intro w2 m2 t2))
      go_ret
      refine ⟨rfl, M, HS.out.2.2.1.dropT m2 t2, HS.out.2.2.2.1, HS.out.2.2.2.2.1.trans ?_⟩
      have g := t2.grown
      exact ⟨g.os, g.tape, g.output, g.size, fun i hi hn => g.block i hi (fun e => hn (by cases e; exact mem_bS s)), fun i hi => .inl (foot_dsp s _ _ i hi), rfl⟩
    · intro k c w2 hm hk2 hrg hlt hgr hsz hen
      have g2 := HS.out.2.2.1.step H.out.1 rfl hgr HS.out.2.2.2.2.2
      have hu : Up rest := up_sub H.out.2.2.1.2.up HS.out.2.1
      have hc := H.out.2.2.2.2 _ (HS.out.2.1.subset hm)
      have hkc : K64 c := k64 (by simp only at hc; omega) (by simp only at hc; omega)
      have hcn := cntP_del hu hm
      have f1 := HS.out.2.2.2.1
      have hlv : Calls Try.prog 51 #[.pointer (some ⟨s.p, 0, none⟩), .int .i64 c] w2 fun e w' => e = .returned (.tuple #[]) ∧ Mp elI w' s.bR (lvm M c) ∧ w2.mapTurned w' s.bR :=
        leave_any g2 hkc (by show (0 : Int) ≤ (mget M c).getD 0; rw [f1.val]; omega) (by show (mget M c).getD 0 ≤ (1000000 : Int); rw [f1.val]; have := f1.top c; omega) (by show (M : Pl).length < 1000000; have := f1.len HS.out.2.2.1.hR.up; omega)
      have f2 := (f1.leave (c := c) (by rw [hcn c]; simp; omega)).congr (g := fun a => F a + cntP (mdel rest k) a) (fun a => by
        rw [hcn a]
        by_cases e : a = c
        · subst e; simp; omega
        · rw [if_neg e, if_neg (fun e2 => e e2.symm)]; omega)
      have hne : x.pb ≠ s.bR := (H.out.1.ap.2.2.2.2.2.2.1 x (gsp_some H.out.2.1).1).2.1
      have hr2 : r ≠ s.bR := fun e => by have := H.out.1.hR.lt; have := HS.out.2.2.2.2.2; omega
      have HL := Hid.mk hlv
      have HG := Hid.mk (And.intro g2 (And.intro hrg (And.intro hlt (And.intro hgr (And.intro f2 (And.intro hne hr2))))))
      clear hlv g2 hu hc hcn f1 f2 hrg hlt hgr hne hr2 hsz hm
      go_wp2_with (first | (go_at_call 51; refine HL.out.mono ?_; rintro e w3 ⟨rfl, m3, t3⟩))
      have e1 := t3.grown.block x.pb HG.out.2.1.mp.lt (by simpa using HG.out.2.2.2.2.2.1)
      have e2 := t3.grown.block r HG.out.2.1.lt (by simpa using HG.out.2.2.2.2.2.2)
      refine ⟨⟨_, _, HG.out.2.1.same e1 e2, (mdel_sub _ _).trans HS.out.2.1, HG.out.1.refsT m3 t3, HG.out.2.2.2.2.1, (HS.out.2.2.2.2.1.step HG.out.2.2.2.1 HS.out.2.2.2.2.2).trans (Ch.turned t3 (mem_bR s) rfl rfl), HS.out.2.2.2.2.2⟩, ?_⟩
      rw [left_same e1 e2]
      exact HG.out.2.2.1
end Go.Proofs.Ytccelipljbkkgaa
