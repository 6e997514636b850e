/-
  A space copied to another number: the walk of double. No condition.
-/
import Derived.Test.YtccelipljbkkgaaAdd
import Derived.Test.YtccelipljbkkgaaRise
namespace Go.Proofs.Ytccelipljbkkgaa
open Go Go.RowKit Go.Maps Go.Shelf

theorem clone_any {R : Rdr} {w : World} {b : Nat} {m : Pl} (h : Mp R w b m) : Calls Try.prog 52 #[.map (some b)] w fun e w' => e = .returned (.map (some w.heap.size)) ∧ Mp R w' w.heap.size m ∧ Below w.heap.size w w' := by
  have hcon := AnyW.maps_Clone_owns cloneM 3 R b m.length (dm m) w h
  change Calls Try.prog 52 _ _ _ at hcon
  exact hcon.mono (fun e w' hh => ⟨hh.1, hh.2.1, hh.2.2.2⟩)
set_option maxRecDepth 20000 in
theorem double_none {w s} (h : StAt w s) {id to : Int} (hk : K64 id) (hg : gsp s.sp id = none) :
    Calls Try.prog 27 #[.pointer (some ⟨s.p, 0, none⟩), .int .i64 id, .int .i64 to] w fun e w' => e = .returned (.int .i64 80) ∧ w = w' := by
  have c0 := h.c0
  have l0 := h.noSp hk hg
  clear h
  go_enter Try.func27, Try.ntmps27
  go_wp2
  go_ret
  exact ⟨rfl, rfl⟩
set_option maxRecDepth 20000 in
theorem double_taken {w s} (h : StAt w s) {x y : Sp} (hk : K64 x.id) (hk2 : K64 y.id) (hg : gsp s.sp x.id = some x) (hg2 : gsp s.sp y.id = some y) :
    Calls Try.prog 27 #[.pointer (some ⟨s.p, 0, none⟩), .int .i64 x.id, .int .i64 y.id] w fun e w' => e = .returned (.int .i64 80) ∧ w = w' := by
  have c0 := h.c0
  have l0 := h.aSp hk hg
  have l1 := h.aSp hk2 hg2
  clear h hg hg2
  go_enter Try.func27, Try.ntmps27
  go_wp2
  go_ret
  exact ⟨rfl, rfl⟩
theorem cntP_sub {m n : Pl} (h : m.Sublist n) (a : Int) : cntP m a ≤ cntP n a := (h.filter _).length_le
theorem Ch.stepN {w wr w2 : World} {s s' : St} {r : Nat} (c : Ch w wr s s') (g : wr.grownBy w2 (some r)) (hr : w.heap.size ≤ r) : Ch w w2 s s' :=
  ⟨g.os.trans c.os, g.tape.trans c.tape, g.output.trans c.output, Nat.le_trans c.size g.size, fun i hi hn => (g.block i (Nat.lt_of_lt_of_le hi c.size) (by simp; omega)).trans (c.block i hi hn), c.own, c.home⟩
def dblS (s : St) (x : Sp) (M : Pl) : St := { s with sp := isp x s.sp, refs := M }
/-- what holds while double goes over a space's pages -/
def DbS (w : World) (s : St) (x y : Sp) (f : Int → Nat) (r : Nat) (rest : Pl) (M : Pl) (wr : World) : Prop :=
  Rg elI wr x.pb r x.ps rest ∧ rest.Sublist x.ps ∧ StAt wr (dblS s y M) ∧ RefsIs M (fun a => f a + (cntP x.ps a - cntP rest a)) ∧ Ch w wr s (addS s y) ∧ w.heap.size ≤ r ∧ r ∉ foot (addS s y)
set_option maxRecDepth 20000 in
theorem double_some {w s} (h : StAt w s) {x : Sp} {to : Int} {f : Int → Nat} (hk : K64 x.id) (hkt : K64 to) (hg : gsp s.sp x.id = some x) (hg2 : gsp s.sp to = none) (hn : s.sp.length < 1000) (hF : RefsIs s.refs f) (hA : ∀ p ∈ x.ps, 0 ≤ p.2 ∧ p.2 ≤ 2000) (ht : ∀ a, f a + cntP x.ps a ≤ 100000) :
    Calls Try.prog 27 #[.pointer (some ⟨s.p, 0, none⟩), .int .i64 x.id, .int .i64 to] w fun e w' => e = .returned (.int .i64 0) ∧ ∃ sb pb M, StAt w' (dblS s ⟨to, x.q, false, x.ps, sb, pb⟩ M) ∧ RefsIs M (fun a => f a + cntP x.ps a) ∧ Ch w w' s (dblS s ⟨to, x.q, false, x.ps, sb, pb⟩ M) := by
  have c0 := h.c0
  have l0 := h.aSp hk hg
  have l1 := h.noSp hkt hg2
  have hX := h.hsp x (gsp_some hg).1
  have H := Hid.mk (And.intro h (And.intro hg (And.intro hg2 (And.intro hX (And.intro hn (And.intro hF (And.intro hA ht)))))))
  have hS0 := Hid.mk (And.intro h.c0 (And.intro hX.q hX.pb))
  clear h hX hg hg2 hn hF hA ht
  go_enter Try.func27, Try.ntmps27
  go_upto_region 4 with fail
  clear c0 l0 l1
  refine wp_region_held_drew (S := fun w' => w'.cell? ⟨s.p, 0, none⟩ = some (.map (some s.bS)) ∧ w'.cell? ⟨x.sb, 0, none⟩ = some (.int .i64 x.q) ∧ w'.cell? ⟨x.sb, 2, none⟩ = some (.map (some x.pb))) (by kernel_rfl) hS0.out (fun hHeld => ?_)
  refine wpAnyH_take (i := 0) (oi := { dst := some 27, op := Op.move (Operand.tmp 0), type := 24, pos := "change.go:96", after := #[], guard := none }) (v := ?vv0) rfl (by kernel_rfl) (by kernel_rfl) (by kernel_rfl) (fun _ _ _ h => h) (Or.inl ⟨by rfl, ?yy0⟩) hHeld ?rr0
  case yy0 => (intro w0 hSw; (try dsimp only at hSw); go_simp; try with_reducible rfl)
  try simp only [Act.put, List.setIfInBounds_toArray, List.set_cons_zero, List.set_cons_succ]
  refine wpAnyH_take (i := 1) (oi := { dst := some 28, op := Op.nilCheck (Operand.tmp 27), type := 0, pos := "change.go:96", after := #[{ on := 0, ground := Ground.data }], guard := none }) (v := ?vv1) rfl (by kernel_rfl) (by kernel_rfl) (by kernel_rfl) (fun _ _ _ h => h) (Or.inl ⟨by rfl, ?yy1⟩) hHeld ?rr1
  case yy1 => (intro w0 hSw; (try dsimp only at hSw); go_simp; try with_reducible rfl)
  try simp only [Act.put, List.setIfInBounds_toArray, List.set_cons_zero, List.set_cons_succ]
  refine wpAnyH_take (i := 2) (oi := { dst := some 29, op := Op.fieldAddr 68 (Operand.tmp 28) 0, type := 0, pos := "change.go:96", after := #[{ on := 1, ground := Ground.data }], guard := none }) (v := ?vv2) rfl (by kernel_rfl) (by kernel_rfl) (by kernel_rfl) (fun _ _ _ h => h) (Or.inl ⟨by rfl, ?yy2⟩) hHeld ?rr2
  case yy2 => (intro w0 hSw; (try dsimp only at hSw); go_simp; try with_reducible rfl)
  try simp only [Act.put, List.setIfInBounds_toArray, List.set_cons_zero, List.set_cons_succ]
  refine wpAnyH_take (i := 3) (oi := { dst := some 30, op := Op.load 64 (Operand.tmp 29), type := 64, pos := "change.go:96", after := #[{ on := 2, ground := Ground.data }], guard := none }) (v := ?vv3) rfl (by kernel_rfl) (by kernel_rfl) (by kernel_rfl) (fun _ _ _ h => h) (Or.inl ⟨by rfl, ?yy3⟩) hHeld ?rr3
  case yy3 => (intro w0 hSw; (try dsimp only at hSw); go_simp; try with_reducible rfl)
  try simp only [Act.put, List.setIfInBounds_toArray, List.set_cons_zero, List.set_cons_succ]
  refine wpAnyH_take (i := 4) (oi := { dst := some 31, op := Op.move (Operand.tmp 2), type := 3, pos := "change.go:96", after := #[], guard := none }) (v := ?vv4) rfl (by kernel_rfl) (by kernel_rfl) (by kernel_rfl) (fun _ _ _ h => h) (Or.inl ⟨by rfl, ?yy4⟩) hHeld ?rr4
  case yy4 => (intro w0 hSw; (try dsimp only at hSw); go_simp; try with_reducible rfl)
  try simp only [Act.put, List.setIfInBounds_toArray, List.set_cons_zero, List.set_cons_succ]
  refine wpAnyH_take (i := 5) (oi := { dst := some 32, op := Op.move (Operand.tmp 7), type := 97, pos := "change.go:96", after := #[], guard := none }) (v := ?vv5) rfl (by kernel_rfl) (by kernel_rfl) (by kernel_rfl) (fun _ _ _ h => h) (Or.inl ⟨by rfl, ?yy5⟩) hHeld ?rr5
  case yy5 => (intro w0 hSw; (try dsimp only at hSw); go_simp; try with_reducible rfl)
  try simp only [Act.put, List.setIfInBounds_toArray, List.set_cons_zero, List.set_cons_succ]
  refine wpAnyH_take (i := 6) (oi := { dst := some 33, op := Op.nilCheck (Operand.tmp 32), type := 0, pos := "change.go:96", after := #[{ on := 5, ground := Ground.data }], guard := none }) (v := ?vv6) rfl (by kernel_rfl) (by kernel_rfl) (by kernel_rfl) (fun _ _ _ h => h) (Or.inl ⟨by rfl, ?yy6⟩) hHeld ?rr6
  case yy6 => (intro w0 hSw; (try dsimp only at hSw); go_simp; try with_reducible rfl)
  try simp only [Act.put, List.setIfInBounds_toArray, List.set_cons_zero, List.set_cons_succ]
  refine wpAnyH_take (i := 7) (oi := { dst := some 34, op := Op.fieldAddr 99 (Operand.tmp 33) 0, type := 0, pos := "change.go:96", after := #[{ on := 6, ground := Ground.data }], guard := none }) (v := ?vv7) rfl (by kernel_rfl) (by kernel_rfl) (by kernel_rfl) (fun _ _ _ h => h) (Or.inl ⟨by rfl, ?yy7⟩) hHeld ?rr7
  case yy7 => (intro w0 hSw; (try dsimp only at hSw); go_simp; try with_reducible rfl)
  try simp only [Act.put, List.setIfInBounds_toArray, List.set_cons_zero, List.set_cons_succ]
  refine wpAnyH_take (i := 8) (oi := { dst := some 35, op := Op.load 3 (Operand.tmp 34), type := 3, pos := "change.go:96", after := #[{ on := 7, ground := Ground.data }], guard := none }) (v := ?vv8) rfl (by kernel_rfl) (by kernel_rfl) (by kernel_rfl) (fun _ _ _ h => h) (Or.inl ⟨by rfl, ?yy8⟩) hHeld ?rr8
  case yy8 => (intro w0 hSw; (try dsimp only at hSw); go_simp; try with_reducible rfl)
  try simp only [Act.put, List.setIfInBounds_toArray, List.set_cons_zero, List.set_cons_succ]
  refine wpAnyH_take (i := 9) (oi := { dst := some 36, op := Op.move (Operand.tmp 7), type := 97, pos := "change.go:96", after := #[], guard := none }) (v := ?vv9) rfl (by kernel_rfl) (by kernel_rfl) (by kernel_rfl) (fun _ _ _ h => h) (Or.inl ⟨by rfl, ?yy9⟩) hHeld ?rr9
  case yy9 => (intro w0 hSw; (try dsimp only at hSw); go_simp; try with_reducible rfl)
  try simp only [Act.put, List.setIfInBounds_toArray, List.set_cons_zero, List.set_cons_succ]
  refine wpAnyH_take (i := 10) (oi := { dst := some 37, op := Op.nilCheck (Operand.tmp 36), type := 0, pos := "change.go:96", after := #[{ on := 9, ground := Ground.data }], guard := none }) (v := ?vv10) rfl (by kernel_rfl) (by kernel_rfl) (by kernel_rfl) (fun _ _ _ h => h) (Or.inl ⟨by rfl, ?yy10⟩) hHeld ?rr10
  case yy10 => (intro w0 hSw; (try dsimp only at hSw); go_simp; try with_reducible rfl)
  try simp only [Act.put, List.setIfInBounds_toArray, List.set_cons_zero, List.set_cons_succ]
  refine wpAnyH_take (i := 11) (oi := { dst := some 38, op := Op.fieldAddr 99 (Operand.tmp 37) 2, type := 0, pos := "change.go:96", after := #[{ on := 10, ground := Ground.data }], guard := none }) (v := ?vv11) rfl (by kernel_rfl) (by kernel_rfl) (by kernel_rfl) (fun _ _ _ h => h) (Or.inl ⟨by rfl, ?yy11⟩) hHeld ?rr11
  case yy11 => (intro w0 hSw; (try dsimp only at hSw); go_simp; try with_reducible rfl)
  try simp only [Act.put, List.setIfInBounds_toArray, List.set_cons_zero, List.set_cons_succ]
  refine wpAnyH_take (i := 12) (oi := { dst := some 39, op := Op.load 65 (Operand.tmp 38), type := 65, pos := "change.go:96", after := #[{ on := 11, ground := Ground.data }], guard := none }) (v := ?vv12) rfl (by kernel_rfl) (by kernel_rfl) (by kernel_rfl) (fun _ _ _ h => h) (Or.inl ⟨by rfl, ?yy12⟩) hHeld ?rr12
  case yy12 => (intro w0 hSw; (try dsimp only at hSw); go_simp; try with_reducible rfl)
  try simp only [Act.put, List.setIfInBounds_toArray, List.set_cons_zero, List.set_cons_succ]
  refine wpAnyH_ready (rs := [13]) (by kernel_rfl) (by simp) ?_
  refine AllReadyH.cons (o := { dst := some 40, op := Op.call { callee := Callee.value (Operand.func 52), args := #[Operand.tmp 39], argTypes := #[65] }, type := 65, pos := "change.go:96", after := #[{ on := 12, ground := Ground.data }], guard := none }) rfl (fun K hK => ?_) AllReadyH.nil
  go_simp
  go_wp2_with (first | (go_at_call 52; refine (clone_any (w := w.drew) H.out.2.2.2.1.2).mono ?_; rintro e w1 ⟨rfl, m1, b1⟩))
  have B1 : Below w.heap.size w w1 := (Below.refl _ w).drew.trans b1
  have g1 := H.out.1.call B1
  have x1 := H.out.2.2.2.1
  have X1 : SpAt w1 x := x1.same (B1.block _ x1.lt) (B1.block _ x1.2.lt)
  have HB := Hid.mk (And.intro B1 (And.intro g1 (And.intro X1 m1)))
  refine hK.out _ _ ⟨g1.c0, X1.q, X1.pb⟩ (fun hHeld => ?_)
  clear hK K
  try simp only [Act.put, List.setIfInBounds_toArray, List.set_cons_zero, List.set_cons_succ]
  clear B1 g1 x1 X1 m1 b1 hS0
  refine wpAnyH_take (i := 14) (oi := { dst := some 41, op := Op.build 99 #[(0, Operand.tmp 35), (2, Operand.tmp 40)], type := 99, pos := "change.go:96", after := #[{ on := 8, ground := Ground.data }, { on := 13, ground := Ground.data }], guard := none }) (v := ?vv14) rfl (by kernel_rfl) (by kernel_rfl) (by kernel_rfl) (fun _ _ _ h => h) (Or.inl ⟨by rfl, ?yy14⟩) hHeld ?rr14
  case yy14 => (intro w0 hSw; (try dsimp only at hSw); go_simp; try with_reducible rfl)
  try simp only [Act.put, List.setIfInBounds_toArray, List.set_cons_zero, List.set_cons_succ]
  refine wpAnyH_ready (rs := [15]) (by kernel_rfl) (by simp) ?_
  refine AllReadyH.cons (o := { dst := some 42, op := Op.box 99 (Operand.tmp 41), type := 97, pos := "change.go:96", after := #[{ on := 14, ground := Ground.data }], guard := none }) rfl (fun K hK => ?_) AllReadyH.nil
  go_simp
  have hB2 : ∃ W, W = w1.alloc (.cells #[.int .i64 x.q, .bool false, .map (some w.heap.size)] 99) := ⟨_, rfl⟩
  obtain ⟨W, hW⟩ := hB2
  have g2 := HB.out.2.1.alloc (.cells #[.int .i64 x.q, .bool false, .map (some w.heap.size)] 99)
  have X2 : SpAt (w1.alloc (.cells #[.int .i64 x.q, .bool false, .map (some w.heap.size)] 99)) x := HB.out.2.2.1.same (Below.heap_alloc _ _ _ HB.out.2.2.1.lt) (Below.heap_alloc _ _ _ HB.out.2.2.1.2.lt)
  have Y2 : SpAt (w1.alloc (.cells #[.int .i64 x.q, .bool false, .map (some w.heap.size)] 99)) ⟨to, x.q, false, x.ps, w1.heap.size, w.heap.size⟩ := ⟨heap_alloc_new _ _, HB.out.2.2.2.alloc _⟩
  have B2 := HB.out.1.alloc HB.out.1.size (.cells #[.int .i64 x.q, .bool false, .map (some w.heap.size)] 99)
  obtain ⟨w3, hrun, m3, t3⟩ := g2.hS.store Try.underlying64 (by simp only [spm, List.length_map]; have := H.out.2.2.2.2.1; omega) hkt (val := .pointer (some ⟨w1.heap.size, 0, none⟩)) (v := (w1.heap.size : Int)) rfl
  refine hK.out _ _ ⟨g2.c0, X2.q, X2.pb⟩ (fun hHeld => ?_)
  clear hK K
  try simp only [Act.put, List.setIfInBounds_toArray, List.set_cons_zero, List.set_cons_succ]

  refine wpAnyH_ready (rs := [16]) (by kernel_rfl) (by simp) ?_
  refine AllReadyH.cons (o := { dst := none, op := Op.mapUpdate 64 (Operand.tmp 30) (Operand.tmp 31) (Operand.tmp 42), type := 0, pos := "change.go:96", after := #[{ on := 3, ground := Ground.data }, { on := 4, ground := Ground.data }, { on := 15, ground := Ground.data }, { on := 13, ground := Ground.chain }, { on := 0, ground := Ground.phase }, { on := 1, ground := Ground.phase }, { on := 2, ground := Ground.phase }, { on := 3, ground := Ground.phase }, { on := 4, ground := Ground.phase }, { on := 5, ground := Ground.phase }, { on := 6, ground := Ground.phase }, { on := 7, ground := Ground.phase }, { on := 8, ground := Ground.phase }, { on := 9, ground := Ground.phase }, { on := 10, ground := Ground.phase }, { on := 11, ground := Ground.phase }, { on := 12, ground := Ground.phase }, { on := 13, ground := Ground.phase }, { on := 14, ground := Ground.phase }, { on := 15, ground := Ground.phase }], guard := none }) rfl (fun K hK => ?_) AllReadyH.nil
  go_simp
  have hlt := H.out.1.foot_lt
  have n1 : w1.heap.size ∉ foot s := fun hm => by have := hlt _ hm; have := HB.out.1.size; omega
  have n2 : w.heap.size ∉ foot s := fun hm => by have := hlt _ hm; omega
  have g3 := g2.addT (x := ⟨to, x.q, false, x.ps, w1.heap.size, w.heap.size⟩) H.out.2.2.1 Y2 n1 n2 m3 t3
  have X3 : SpAt w3 x := X2.turned g2.hS t3 (g2.ap.2.2.2.2.2.2.1 x (gsp_some H.out.2.1).1).1
  have C3 : Ch w w3 s (addS s ⟨to, x.q, false, x.ps, w1.heap.size, w.heap.size⟩) := Ch.added B2 t3 (mem_bS s) (fun i hi => (foot_isp s _ i).1 hi) HB.out.1.size (Nat.le_refl _)
  refine hK.out _ _ ⟨g3.c0, X3.q, X3.pb⟩ (fun hHeld => ?_)
  clear hK K
  try simp only [Act.put, List.setIfInBounds_toArray, List.set_cons_zero, List.set_cons_succ]
  refine wpAnyH_done (by kernel_rfl) ?_ _
  obtain ⟨y, hy⟩ : ∃ y : Sp, y = ⟨to, x.q, false, x.ps, w1.heap.size, w.heap.size⟩ := ⟨_, rfl⟩
  rw [← hy] at g3 C3
  have hr0 := C3.size
  have hG := Hid.mk (And.intro g3 (And.intro C3 (And.intro X3 hr0)))
  have p2 := X3.pb
  have HY := Hid.mk hy
  clear g3 C3 X3 hr0 hHeld n1 n2 hlt t3 m3 hrun B2 Y2 X2 g2 hW W hy HB
  go_upto_region 6 with (first | (at_range; refine wp_range _ rfl _ 65 3 rfl Try.underlying65 hG.out.2.2.1.2 rfl ?_; intro w4 r4 b4 z4))
  go_frame
  have S0 : DbS w s x y f w3.heap.size x.ps s.refs w4 := ⟨r4, List.Sublist.refl _, hG.out.1.call b4, H.out.2.2.2.2.2.1.congr (fun a => by omega), hG.out.2.1.trans (Ch.call b4), hG.out.2.2.2, fun hm => Nat.lt_irrefl _ (hG.out.1.foot_lt _ hm)⟩
  replace S0 := Hid.mk S0
  clear r4 b4 z4 p2 hG
  generalize w3.heap.size = r at *
  go_loopw [9] (fun _ wr => ∃ rest M, DbS w s x y f r rest M wr) (fun _ wr => wr.rangeLeft x.pb r)
  case atStart => exact ⟨_, _, S0.out⟩
  case round =>
    clear S0
    obtain ⟨rest, M, hs⟩ := hrel
    have HS := Hid.mk hs
    clear hs
    go_wp2_with (first | (at_next; refine wp_next _ rfl _ rfl HS.out.1 rfl ?_ ?_))
    · intro hd
      subst hd
      go_wp2_with fail
      go_ret
      refine ⟨rfl, w1.heap.size, w.heap.size, M, ?_, HS.out.2.2.2.1.congr (fun a => by rw [cntP_nil]; omega), ?_⟩
      · rw [← HY.out]; exact HS.out.2.2.1
      · rw [← HY.out]; exact ⟨HS.out.2.2.2.2.1.os, HS.out.2.2.2.2.1.tape, HS.out.2.2.2.2.1.output, HS.out.2.2.2.2.1.size, HS.out.2.2.2.2.1.block, HS.out.2.2.2.2.1.own, rfl⟩
    · intro k c w2 hm hk2 hrg hlt hgr hsz hen
      have hnr : ∀ i ∈ foot (dblS s y M), i ≠ r := fun i hi e => HS.out.2.2.2.2.2.2 (e ▸ hi)
      have g2 : StAt w2 (dblS s y M) := HS.out.2.2.1.frame fun i hi => hgr.block i (HS.out.2.2.1.foot_lt i hi) (by simpa using hnr i hi)
      have hu : Up rest := up_sub H.out.2.2.2.1.2.up HS.out.2.1
      have hc := H.out.2.2.2.2.2.2.1 _ (HS.out.2.1.subset hm)
      have hkc : K64 c := k64 (by simp only at hc; omega) (by simp only at hc; omega)
      have hcn := cntP_del hu hm
      have hcs := fun a => cntP_sub HS.out.2.1 a
      have hct := H.out.2.2.2.2.2.2.2
      have f1 := HS.out.2.2.2.1
      have hMl : (M : Pl).length < 1000000 := by have hq := f1.len g2.hR.up; omega
      have d1 : w2.cell? ⟨s.p, 1, none⟩ = some (.map (some s.bR)) := g2.c1
      have l1 : (Instr.lookup 65 (.map (some s.bR)) (.int .i64 c) false).run Try.prog w2 = .ok (.int .i64 ((mget M c).getD 0)) w2 := g2.hR.look hkc
      have f2 := (f1.inc hc (by have := hcn c; have := hcs c; have := hct c; simp at *; omega)).congr (g := fun a => f a + (cntP x.ps a - cntP (mdel rest k) a)) (fun a => by
        have h1 := hcn a; have h2 := hcs a
        by_cases e : a = c
        · subst e; simp at h1 ⊢; omega
        · rw [if_neg e]; rw [if_neg (fun e2 => e e2.symm)] at h1; omega)
      have hv := f1.val c
      have ht2 := f1.top c
      generalize hy0 : (mget M c).getD 0 + 1 = y0 at *
      have hw : IntKind.i64.wrap ((mget M c).getD 0 + 1) = y0 := by rw [← hy0]; exact wrap_id (by omega) (by omega)
      generalize (mget M c).getD 0 = x0 at *
      have hR2 : Mp elI w2 s.bR M := g2.hR
      have hne : x.pb ≠ s.bR := (H.out.1.ap.2.2.2.2.2.2.1 x (gsp_some H.out.2.1).1).2.1
      have hr2 : r ≠ s.bR := (hnr _ (mem_bR (dblS s y M))).symm
      have HG := Hid.mk (And.intro g2 (And.intro hrg (And.intro hlt (And.intro hgr (And.intro f2 (And.intro hne (And.intro hr2 hR2)))))))
      clear g2 hu hc hcn hcs hct f1 f2 hrg hlt hgr hne hr2 hsz hm hv ht2 hy0 hR2 hnr
      go_wp2_with (first | (at_mapUpdate; refine wp_put _ rfl _ _ _ 65 3 rfl Try.underlying65 HG.out.2.2.2.2.2.2.2 hMl c _ _ rfl rfl rfl hkc rfl ?_; intro w3 m3 t3; go_frame))
      have e1 := t3.grown.block x.pb HG.out.2.1.mp.lt (by simpa using HG.out.2.2.2.2.2.1)
      have e2 := t3.grown.block r HG.out.2.1.lt (by simpa using HG.out.2.2.2.2.2.2.1)
      have c1 : Ch w w2 s (addS s y) := HS.out.2.2.2.2.1.stepN HG.out.2.2.2.1 HS.out.2.2.2.2.2.1
      refine ⟨⟨_, _, HG.out.2.1.same e1 e2, (mdel_sub _ _).trans HS.out.2.1, HG.out.1.refsT m3 t3, HG.out.2.2.2.2.1, c1.trans (Ch.turned t3 (mem_bR (addS s y)) rfl rfl), HS.out.2.2.2.2.2.1, HS.out.2.2.2.2.2.2⟩, ?_⟩
      rw [left_same e1 e2]
      exact HG.out.2.2.1
end Go.Proofs.Ytccelipljbkkgaa
