/-
  Tags of pages that belong together: the walks of seqOf, of the function that makes one tag, and of the one that gathers them. No condition beyond sizes. Reading pages, whatever they are; pages as they are found: the walks of Read where a page is not valid, and of the laws' own 'found'. Condition: the table's cells hold what the text lays. A page in whose writing the power failed: if it says anything, it says it under the tag that was written. Pure. Pages of any tag written one behind the other, until the power fails. Condition of the walk: the table's cells hold what the text lays.
-/
import Derived.Test.YtbhggcleijjofaaDoorNws
import Derived.Test.YtbhggcleijjofaaDoorWx
import Derived.Test.YtbhggcleijjofaaDoorSeq
namespace Go.Proofs.YtbhggcleijjofaaDoor
open Go Go.RowKit

set_option maxRecDepth 100000

/-- the place of a page in the order of writing -/
def sqN (kind : Int) (s i : Nat) : Nat := if kind = 3 then s else s + i
theorem seqOf_any (kind : Int) (s i : Nat) (hs : s + i < 4294967296) (w : World) : Calls Tryd.prog 27 #[.int .i64 kind, .int .u64 s, .int .i64 i] w fun e w' => e = .returned (.int .u64 (sqN kind s i)) ∧ w' = w := by
  unfold sqN
  by_cases h : kind = 3
  · rw [if_pos h]
    go_enter Tryd.func27, Tryd.ntmps27
    go_wp2_with fail
    go_ret
    exact ⟨rfl, rfl⟩
  · rw [if_neg h]
    have hw : IntKind.u64.wrap ((s : Int) + i) = ((s + i : Nat) : Int) := by rw [IntKind.wrap_u64]; omega
    have hc : IntKind.u64.wrap (i : Int) = (i : Int) := by rw [IntKind.wrap_u64]; omega
    go_enter Tryd.func27, Tryd.ntmps27
    go_wp2_with fail
    go_ret
    exact ⟨rfl, rfl⟩
/-- what the function that makes a tag has caught -/
structure Cau (w : World) (b2 b3 b4 : Nat) (kind : Int) (s : Nat) (v : Value) : Prop where
  c2 : w.cell? ⟨b2, 0, none⟩ = some (.int .i64 kind)
  c3 : w.cell? ⟨b3, 0, none⟩ = some (.int .u64 s)
  c4 : w.cell? ⟨b4, 0, none⟩ = some v
  lt : b2 < w.heap.size ∧ b3 < w.heap.size ∧ b4 < w.heap.size
theorem Cau.call {w w' : World} {b2 b3 b4 kind s v} (h : Cau w b2 b3 b4 kind s v) (b : Below w.heap.size w w') : Cau w' b2 b3 b4 kind s v := by
  have e : ∀ g, g < w.heap.size → w'.cell? ⟨g, 0, none⟩ = w.cell? ⟨g, 0, none⟩ := fun g hg => b.cell (p := ⟨g, 0, none⟩) hg
  have := b.size
  have := h.lt
  exact ⟨(e _ h.lt.1).trans h.c2, (e _ h.lt.2.1).trans h.c3, (e _ h.lt.2.2).trans h.c4, by omega⟩
theorem Cau.off {w w' : World} {b2 b3 b4 kind s v} {S : Nat → Prop} (h : Cau w b2 b3 b4 kind s v) (k : Kp S w w') (hs : ∀ i, S i → i ≠ b2 ∧ i ≠ b3 ∧ i ≠ b4) : Cau w' b2 b3 b4 kind s v := by
  have e : ∀ g, g < w.heap.size → ¬ S g → w'.cell? ⟨g, 0, none⟩ = w.cell? ⟨g, 0, none⟩ := fun g hg hn => by unfold World.cell?; rw [k.block g hg hn]
  have := k.size
  have := h.lt
  exact ⟨(e _ h.lt.1 (fun x => (hs _ x).1 rfl)).trans h.c2, (e _ h.lt.2.1 (fun x => (hs _ x).2.1 rfl)).trans h.c3, (e _ h.lt.2.2 (fun x => (hs _ x).2.2 rfl)).trans h.c4, by omega⟩
theorem tag_of (i : Nat) (str : ByteArray) (b2 b3 b4 : Nat) (kind : Int) (s : Nat) (ta : Option Addr) (n tc : Nat) (hs : s + i < 4294967296) (w : World) (h : Cau w b2 b3 b4 kind s (.slice ta n tc)) :
    Calls Tryd.prog 26 #[.int .i64 i, .string str, .pointer (some ⟨b2, 0, none⟩), .pointer (some ⟨b3, 0, none⟩), .pointer (some ⟨b4, 0, none⟩)] w fun e w' => e = .returned (Pg.tagV kind (sqN kind s i) i n 0) ∧ Below w.heap.size w w' := by
  have hsq := Hid.mk (fun w => seqOf_any kind s i hs w)
  have hC1 : Hid (∀ (q : Nat), Cau (w.alloc (.cells #[.int .i64 kind, .int .u64 q, .int .i64 i, .int .i64 n, .int .i64 0] 43)).drew b2 b3 b4 kind s (.slice ta n tc) ∧ Below w.heap.size w (w.alloc (.cells #[.int .i64 kind, .int .u64 q, .int .i64 i, .int .i64 n, .int .i64 0] 43)).drew) := by
    intro q
    have B0 := Pg.below_one w (.cells #[.int .i64 kind, .int .u64 q, .int .i64 i, .int .i64 n, .int .i64 0] 43)
    have h1 := h.call B0
    exact ⟨⟨h1.c2, h1.c3, h1.c4, h1.lt⟩, B0.drew⟩
  have hS0 : Hid (Cau (w.alloc (.cells #[.int .i64 0, .int .u64 0, .int .i64 0, .int .i64 0, .int .i64 0] 43)).drew b2 b3 b4 kind s (.slice ta n tc) ∧ Below w.heap.size w (w.alloc (.cells #[.int .i64 0, .int .u64 0, .int .i64 0, .int .i64 0, .int .i64 0] 43)).drew) := by
    have B0 := Pg.below_one w (.cells #[.int .i64 0, .int .u64 0, .int .i64 0, .int .i64 0, .int .i64 0] 43)
    have h1 := h.call B0
    exact ⟨⟨h1.c2, h1.c3, h1.c4, h1.lt⟩, B0.drew⟩
  clear h
  obtain ⟨q, hq⟩ : ∃ q, sqN kind s i = q := ⟨_, rfl⟩
  rw [hq] at hsq ⊢
  go_enter Tryd.func26, Tryd.ntmps26
  go_upto_region 1 with fail
  refine wp_region_held_drew (S := fun w' => Cau w' b2 b3 b4 kind s (.slice ta n tc) ∧ Below w.heap.size w w') (by kernel_rfl) hS0.out (fun hHeld => ?_)
  refine wpAnyH_take (i := 0) (oi := { dst := some 8, op := Op.load 3 (Operand.tmp 2), type := 3, pos := "ckpt.go:26", after := #[], guard := none }) (v := ?vv0) rfl (by kernel_rfl) (by kernel_rfl) (by kernel_rfl) (fun _ _ _ h => h) (Or.inl ⟨by rfl, ?yy0⟩) hHeld ?rr0
  case yy0 => (intro w0 hSw; obtain ⟨s1, _⟩ := hSw; have t2 := s1.c2; have t3 := s1.c3; have t4 := s1.c4; go_simp; try with_reducible rfl)
  try simp only [Act.put, List.setIfInBounds_toArray, List.set_cons_zero, List.set_cons_succ]
  refine wpAnyH_take (i := 1) (oi := { dst := some 9, op := Op.load 3 (Operand.tmp 2), type := 3, pos := "ckpt.go:26", after := #[], guard := none }) (v := ?vv1) rfl (by kernel_rfl) (by kernel_rfl) (by kernel_rfl) (fun _ _ _ h => h) (Or.inl ⟨by rfl, ?yy1⟩) hHeld ?rr1
  case yy1 => (intro w0 hSw; obtain ⟨s1, _⟩ := hSw; have t2 := s1.c2; have t3 := s1.c3; have t4 := s1.c4; go_simp; try with_reducible rfl)
  try simp only [Act.put, List.setIfInBounds_toArray, List.set_cons_zero, List.set_cons_succ]
  refine wpAnyH_take (i := 2) (oi := { dst := some 10, op := Op.load 23 (Operand.tmp 3), type := 23, pos := "ckpt.go:26", after := #[], guard := none }) (v := ?vv2) rfl (by kernel_rfl) (by kernel_rfl) (by kernel_rfl) (fun _ _ _ h => h) (Or.inl ⟨by rfl, ?yy2⟩) hHeld ?rr2
  case yy2 => (intro w0 hSw; obtain ⟨s1, _⟩ := hSw; have t2 := s1.c2; have t3 := s1.c3; have t4 := s1.c4; go_simp; try with_reducible rfl)
  try simp only [Act.put, List.setIfInBounds_toArray, List.set_cons_zero, List.set_cons_succ]
  refine wpAnyH_take (i := 3) (oi := { dst := some 11, op := Op.move (Operand.tmp 0), type := 3, pos := "ckpt.go:26", after := #[], guard := none }) (v := ?vv3) rfl (by kernel_rfl) (by kernel_rfl) (by kernel_rfl) (fun _ _ _ h => h) (Or.inl ⟨by rfl, ?yy3⟩) hHeld ?rr3
  case yy3 => (intro w0 hSw; obtain ⟨s1, _⟩ := hSw; have t2 := s1.c2; have t3 := s1.c3; have t4 := s1.c4; go_simp; try with_reducible rfl)
  try simp only [Act.put, List.setIfInBounds_toArray, List.set_cons_zero, List.set_cons_succ]
  refine wpAnyH_take (i := 5) (oi := { dst := some 13, op := Op.move (Operand.tmp 0), type := 3, pos := "ckpt.go:26", after := #[], guard := none }) (v := ?vv5) rfl (by kernel_rfl) (by kernel_rfl) (by kernel_rfl) (fun _ _ _ h => h) (Or.inl ⟨by rfl, ?yy5⟩) hHeld ?rr5
  case yy5 => (intro w0 hSw; obtain ⟨s1, _⟩ := hSw; have t2 := s1.c2; have t3 := s1.c3; have t4 := s1.c4; go_simp; try with_reducible rfl)
  try simp only [Act.put, List.setIfInBounds_toArray, List.set_cons_zero, List.set_cons_succ]
  refine wpAnyH_take (i := 6) (oi := { dst := some 14, op := Op.load 37 (Operand.tmp 4), type := 37, pos := "ckpt.go:26", after := #[], guard := none }) (v := ?vv6) rfl (by kernel_rfl) (by kernel_rfl) (by kernel_rfl) (fun _ _ _ h => h) (Or.inl ⟨by rfl, ?yy6⟩) hHeld ?rr6
  case yy6 => (intro w0 hSw; obtain ⟨s1, _⟩ := hSw; have t2 := s1.c2; have t3 := s1.c3; have t4 := s1.c4; go_simp; try with_reducible rfl)
  try simp only [Act.put, List.setIfInBounds_toArray, List.set_cons_zero, List.set_cons_succ]
  refine wpAnyH_take (i := 7) (oi := { dst := some 15, op := Op.call { callee := Callee.builtin Builtin.len, args := #[Operand.tmp 14], argTypes := #[37] }, type := 3, pos := "ckpt.go:26", after := #[{ on := 6, ground := Ground.data }], guard := none }) (v := ?vv7) rfl (by kernel_rfl) (by kernel_rfl) (by kernel_rfl) (fun _ _ _ h => h) (Or.inl ⟨by rfl, ?yy7⟩) hHeld ?rr7
  case yy7 => (intro w0 hSw; obtain ⟨s1, _⟩ := hSw; have t2 := s1.c2; have t3 := s1.c3; have t4 := s1.c4; go_simp; try with_reducible rfl)
  try simp only [Act.put, List.setIfInBounds_toArray, List.set_cons_zero, List.set_cons_succ]
  refine wpAnyH_ready (rs := [4]) (by kernel_rfl) (by simp) ?_
  refine AllReadyH.cons (o := { dst := some 12, op := Op.call { callee := Callee.value (Operand.func 27), args := #[Operand.tmp 9, Operand.tmp 10, Operand.tmp 11], argTypes := #[3, 23, 3] }, type := 23, pos := "ckpt.go:26", after := #[{ on := 1, ground := Ground.data }, { on := 2, ground := Ground.data }, { on := 3, ground := Ground.data }], guard := none }) rfl (fun K hK => ?_) AllReadyH.nil
  go_simp
  go_at_call 27
  refine (hsq.out _).mono ?_
  rintro e w3 ⟨rfl, rfl⟩
  refine hK.out _ _ hHeld (fun hHeld => ?_)
  clear hK K
  try simp only [Act.put, List.setIfInBounds_toArray, List.set_cons_zero, List.set_cons_succ]
  refine wpAnyH_take (i := 8) (oi := { dst := some 16, op := Op.build 43 #[(0, Operand.tmp 8), (1, Operand.tmp 12), (2, Operand.tmp 13), (3, Operand.tmp 15)], type := 43, pos := "ckpt.go:26", after := #[{ on := 0, ground := Ground.data }, { on := 4, ground := Ground.data }, { on := 5, ground := Ground.data }, { on := 7, ground := Ground.data }], guard := none }) (v := ?vv8) rfl (by kernel_rfl) (by kernel_rfl) (by kernel_rfl) (fun _ _ _ h => h) (Or.inl ⟨by rfl, ?yy8⟩) hHeld ?rr8
  case yy8 => (intro w0 hSw; obtain ⟨s1, _⟩ := hSw; have t2 := s1.c2; have t3 := s1.c3; have t4 := s1.c4; go_simp; try with_reducible rfl)
  try simp only [Act.put, List.setIfInBounds_toArray, List.set_cons_zero, List.set_cons_succ]
  refine wpAnyH_ready (rs := [9]) (by kernel_rfl) (by simp) ?_
  refine AllReadyH.cons (o := { dst := none, op := Op.store 43 (Operand.tmp 7) (Operand.tmp 16), type := 0, pos := "ckpt.go:26", after := #[{ on := 8, ground := Ground.data }, { on := 4, ground := Ground.chain }, { on := 0, ground := Ground.phase }, { on := 1, ground := Ground.phase }, { on := 2, ground := Ground.phase }, { on := 3, ground := Ground.phase }, { on := 4, ground := Ground.phase }, { on := 5, ground := Ground.phase }, { on := 6, ground := Ground.phase }, { on := 7, ground := Ground.phase }, { on := 8, ground := Ground.phase }], guard := none }) rfl (fun K hK => ?_) AllReadyH.nil
  go_simp
  refine hK.out _ _ (hC1.out q) (fun hHeld => ?_)
  clear hK K
  try simp only [Act.put, List.setIfInBounds_toArray, List.set_cons_zero, List.set_cons_succ]
  refine wpAnyH_done (by kernel_rfl) ?_ _
  go_wp2_with fail
  exact bodyPost_ret (v := .agg #[.int .i64 kind, .int .u64 q, .int .i64 i, .int .i64 n, .int .i64 0]) (by rw [results_cell1 rfl]; go_simp) rfl ⟨rfl, (hC1.out q).2⟩
/-- rows of tags -/
def tgR (kind : Int) (s n k : Nat) : We.Rws := (List.range k).map fun i => [.int .i64 kind, .int .u64 (sqN kind s i), .int .i64 i, .int .i64 n, .int .i64 0]
theorem tgR_succ (kind : Int) (s n k : Nat) : tgR kind s n (k + 1) = tgR kind s n k ++ [[.int .i64 kind, .int .u64 (sqN kind s k), .int .i64 k, .int .i64 n, .int .i64 0]] := by unfold tgR; rw [List.range_succ, List.map_append]; rfl
theorem tgR_len (kind : Int) (s n k : Nat) : (tgR kind s n k).length = k := by simp [tgR]
/-- texts as rows -/
def txW (ts : List ByteArray) : We.Rws := ts.map fun t => [.string t]
theorem txW_at {w : World} {B a n cap} {ts : List ByteArray} (h : We.Ow w B 9 1 (.slice a n cap) (txW ts)) {j : Nat} (hj : j < ts.length) : ∃ g, a = some ⟨g, 0, none⟩ ∧ g < w.heap.size ∧ w.cell? ⟨g, j, none⟩ = some (.string (ts.getD j ⟨#[]⟩)) := by
  obtain ⟨g, h1, _, h3, h4⟩ := h.at (j := j) (by unfold txW; rw [List.length_map]; exact hj)
  have := h4 0 (by omega)
  rw [Nat.mul_one, Nat.add_zero] at this
  refine ⟨g, h1, h3, this.trans ?_⟩
  simp [txW, List.getD_eq_getElem?_getD, hj]
set_option maxHeartbeats 1000000 in
theorem gather_tags (v : Value) (ts : List ByteArray) (b2 b3 b4 : Nat) (kind : Int) (s : Nat) (hs : s < 1000000) (w : World) (h : We.Ow w 0 9 1 v (txW ts)) (hlen : ts.length ≤ 100) (hc : Cau w b2 b3 b4 kind s v) :
    Calls Tryd.prog 25 #[v, .func (.func 26) #[] #[.pointer (some ⟨b2, 0, none⟩), .pointer (some ⟨b3, 0, none⟩), .pointer (some ⟨b4, 0, none⟩)]] w fun e w' =>
    ∃ v', e = .returned v' ∧ We.Ow w' w.heap.size 43 5 v' (tgR kind s ts.length ts.length) ∧ Below w.heap.size w w' := by
  obtain ⟨a, cap, hv⟩ := h.form
  unfold txW at hv
  rw [List.length_map] at hv
  have H := Hid.mk h
  have HC := Hid.mk hc
  subst hv
  clear h hc
  generalize hn : ts.length = len at *
  have hmk : ∀ w : World, (Instr.makeSlice 82 (.int .i64 0) (.int .i64 len)).run Tryd.prog w = .ok (.slice (some ⟨w.heap.size, 0, none⟩) 0 len) (w.alloc (.cells (madeCells #[.int .i64 0, .int .u64 0, .int .i64 0, .int .i64 0, .int .i64 0] (len * 5)) 43)) := run_room Tryd.underlying82 info43 (by omega) len (by omega)
  go_enter Tryd.func25, Tryd.ntmps25
  go_upto_region 3 with fail
  have O0 : Hid (We.Ow (w.alloc (.cells (madeCells #[.int .i64 0, .int .u64 0, .int .i64 0, .int .i64 0, .int .i64 0] (len * 5)) 43)) w.heap.size 43 5 (.slice (some ⟨w.heap.size, 0, none⟩) 0 len) []) := room_own w (Nat.le_refl _) (Pg.tagV 0 0 0 0 0) 43 5 len (by omega)
  have B0 := Hid.mk (Pg.below_one w (.cells (madeCells #[.int .i64 0, .int .u64 0, .int .i64 0, .int .i64 0, .int .i64 0] (len * 5)) 43))
  generalize (w.alloc (.cells (madeCells #[.int .i64 0, .int .u64 0, .int .i64 0, .int .i64 0, .int .i64 0] (len * 5)) 43)) = W at *
  have HW := Hid.mk (fun g hg => (H.out.lt g hg).2)
  have HL := Hid.mk HC.out.lt
  have H0 : Hid (We.Ow W 0 9 1 (.slice a len cap) (txW ts)) := H.out.call B0.out
  have C0 : Hid (Cau W b2 b3 b4 kind s (.slice a len cap)) := HC.out.call B0.out
  clear H hmk HC
  go_loopw [5, 13] (fun v i wr => ∃ k : Nat, k ≤ len ∧ i = .int .i64 k ∧ We.Ow wr w.heap.size 43 5 v (tgR kind s len k) ∧ We.Ow wr 0 9 1 (.slice a len cap) (txW ts) ∧ Cau wr b2 b3 b4 kind s (.slice a len cap) ∧ Below w.heap.size w wr) (fun _ i _ => len - (intOf i).toNat)
  case atStart => exact ⟨0, Nat.zero_le _, rfl, O0.out, H0.out, C0.out, B0.out⟩
  case round =>
    clear O0 H0 B0 C0
    obtain ⟨k, hk, rfl, ho, hl, hc, hb⟩ := hrel
    by_cases hlt : k < len
    · have hltl : k < ts.length := by rw [hn]; exact hlt
      obtain ⟨g, rfl, hg, c0⟩ := txW_at hl hltl
      obtain ⟨a5, p5, rfl⟩ := ho.form
      rw [tgR_len] at ho ⊢
      have htg := Hid.mk (tag_of k (ts.getD k ⟨#[]⟩) b2 b3 b4 kind s _ len cap (by omega) wr hc)
      have HS := Hid.mk (And.intro ho (And.intro hl (And.intro hb hc)))
      clear ho hl hb hc
      generalize ts.getD k ⟨#[]⟩ = tx at *
      go_wp2_with (first
        | (go_at_call 26; refine htg.out.mono ?_; rintro e w1 ⟨rfl, b1⟩; unfold Pg.tagV)
        | (at_builtin; refine We.wp_app ei82 rfl (.tmp 18) (.tmp 23) rfl (HS.out.1.call b1) (below3 HS.out.2.2.1 b1).size #[.int .i64 kind, .int .u64 (sqN kind s k), .int .i64 k, .int .i64 len, .int .i64 0] rfl rfl rfl (by simp [Value.oneCell']) (by rw [tgR_len]; omega) ?_; intro v2 w3 q1 q2 q3))
      have r1 := HS.out.2.1.call b1
      have r2 := below3 HS.out.2.2.1 b1
      have r3 := HS.out.1.call b1
      have r4 := HS.out.2.2.2.call b1
      have hX : ∀ j, Value.ownBlock (.slice a5 k p5) = some j → w.heap.size ≤ j := fun j hj => (r3.lt j hj).1
      refine ⟨⟨k + 1, by omega, by go_num, by rw [tgR_succ]; exact q1, r1.same (fun j hj => q2.block j (r1.lt j hj).2 (fun e => ?_)), r4.off (Kp.ofGrown (S := fun i => w.heap.size ≤ i) q2 (fun i hi => hX i hi)) (fun i hi => by have := HL.out; omega), r2.grown q2 r2.size hX⟩, by simp [intOf]; omega⟩
      have := hX j e.symm
      have := HW.out j hj
      omega
    · obtain rfl : k = len := by omega
      have HS := Hid.mk (And.intro ho hb)
      clear ho hb hl hc
      go_wp2_with fail
      go_ret
      exact ⟨_, rfl, HS.out.1, HS.out.2⟩
set_option maxRecDepth 100000

/-- a page that says nothing -/
def Nov (C : Ch) (b p : Nat) : Prop := ∃ d s, seen C b p = d ++ s ∧ d.size = C.Z ∧ s.size = 32 ∧ ¬ ∃ t K S I O W, Pg.Val d s t K S I O W
theorem look_no (d s : ByteArray) (zd : d.size ≤ 65535) (zs : s.size ≤ 1000000) (hV : ¬ ∃ t K S I O W, Pg.Val d s t K S I O W) : ∃ c : Int, ¬ c = 1 ∧ ∀ w, Pg.Tab w → Calls Tryd.prog 30 #[.string d, .string s] w fun e w' => e = .returned (Pg.lookV c) ∧ Below w.heap.size w w' := by
  by_cases h : Pg.allF d = true ∧ Pg.allF s = true
  · exact ⟨0, by omega, fun w _ => Pg.look_erased d s (by omega) zs h.1 h.2 w⟩
  · exact ⟨2, by omega, fun w hT => Pg.look_t d s zd zs h hV w hT⟩
set_option maxHeartbeats 1000000 in
theorem read_no {w : World} {A X} (h : Wtr w A X) (hT : Pg.Tab w) (b p : Nat) (hb : b < X.C.B) (hp : p < X.C.P) (hoff : X.C.off = false) (hs : Nov X.C b p) (n : Int) (hn : n = b * X.C.P + p) :
    Calls Tryd.prog 12 #[.pointer (some ⟨A.a, 0, none⟩), .int .i64 n] w fun e w' => e = .returned (.tuple #[Pg.tagV 0 0 0 0 0, .string ⟨#[]⟩, .int .i64 3]) ∧ Below w.heap.size w w' := by
  have hgeo := h.chip.geo
  obtain ⟨d, s, hseen, hds, hss, hno⟩ := hs
  have hrd : rdV X.C b p = .tuple #[.string d, .string s, .int .i64 0] := by
    unfold rdV
    rw [if_pos (refP_ok hoff hb hp), Int.toNat_natCast, Int.toNat_natCast, hseen, ← hds, Pg.extract_left]
    have e : d.size + 32 = (d ++ s).size := by rw [ByteArray.size_append, hss]
    rw [e, Pg.extract_right]
  have hq : n.tdiv (X.C.P : Int) = b := by
    rw [hn, Int.tdiv_eq_ediv_of_nonneg (by have := Int.mul_nonneg (Int.natCast_nonneg b) (Int.natCast_nonneg X.C.P); omega), Int.add_comm, Int.add_mul_ediv_right _ _ (by omega), Int.ediv_eq_zero_of_lt (by omega) (by omega)]
    omega
  have hr : n.tmod (X.C.P : Int) = p := by
    rw [hn, Int.tmod_eq_emod_of_nonneg (by have := Int.mul_nonneg (Int.natCast_nonneg b) (Int.natCast_nonneg X.C.P); omega), Int.add_comm, Int.add_mul_emod_self_right, Int.emod_eq_of_lt (by omega) (by omega)]
  have hread := Hid.mk (fun (w : World) (h : Wtr w A X) => hrd ▸ read_any h.chip b p)
  obtain ⟨c, hc1, hlk⟩ := look_no d s (by rw [hds]; omega) (by omega) hno
  have hlook := Hid.mk hlk
  have T0 := Pg.TB.fresh w 0 0 0 0 0
  have B0 := (Below.refl w.heap.size w).alloc (Nat.le_refl _) (.cells #[.int .i64 0, .int .u64 0, .int .i64 0, .int .i64 0, .int .i64 0] 43)
  have HS : Hid (RdS w A X (w.alloc (.cells #[.int .i64 0, .int .u64 0, .int .i64 0, .int .i64 0, .int .i64 0] 43))) := ⟨T0, h.call B0, hT.call B0, B0⟩
  obtain ⟨c0, -, -, -, -⟩ := h.cells
  have hAl := h.lt _ (.inl rfl)
  have hge := Hid.mk (fun (w : World) (h : Wtr w A X) => geom_any h.chip)
  obtain ⟨P, hP⟩ : ∃ P : Nat, P = X.C.P := ⟨_, rfl⟩
  rw [← hP] at hq hr hge
  have hmx : max (P : Int) 1 = (P : Int) := by omega
  have hP0 : ¬ (P : Int) = 0 := by omega
  have hfd := fldP
  have hw1 : IntKind.i64.wrap (b : Int) = b := by rw [IntKind.wrap_i64]; omega
  have hPn : ¬ P = 0 := by omega
  have hPp : (0 : Int) < (P : Int) := by omega
  unfold Pg.lookV Pg.tagV at hlook
  clear h hT hgeo hds hno hss hseen hrd hn T0 B0 hP hb hp hoff hlk
  go_enter Tryd.func12, Tryd.ntmps12
  go_upto_region 4 with (first
    | (go_at_call 9; refine (hge.out _ HS.out.2.1).mono ?_; rintro e w1 ⟨rfl, b1⟩; replace HS : Hid (RdS w A X w1) := ⟨HS.out.1.call b1, HS.out.2.1.call b1, HS.out.2.2.1.call b1, below3 HS.out.2.2.2 b1⟩; clear b1))
  have hS1 : Hid (w1.drew.cell? ⟨A.a, 0, none⟩ = some (.pointer (some ⟨A.L.a, 0, none⟩)) ∧ RdS w A X w1.drew) := ⟨HS.out.2.1.cells.1, HS.out.1.drew, HS.out.2.1.drew, HS.out.2.2.1.drew, HS.out.2.2.2.drew⟩
  clear c0
  go_region_held3 (fun w' => w'.cell? ⟨A.a, 0, none⟩ = some (.pointer (some ⟨A.L.a, 0, none⟩)) ∧ RdS w A X w') (first | assumption | exact hS1.out | exact rds_keep (by assumption) (by assumption) | fail) (first | (go_at_call 29; refine (hread.out _ (by assumption : _ ∧ RdS w A X _).2.2.1).mono ?_; rintro e w3 ⟨rfl, b3⟩))
  have HX : Hid (w3.cell? ⟨A.a, 0, none⟩ = some (.pointer (some ⟨A.L.a, 0, none⟩)) ∧ RdS w A X w3) := Hid.mk (by assumption)
  replace HS := Hid.mk HX.out.2
  clear HX hS1
  go_upto_region 8 with (first
    | (go_at_call 30; refine (hlook.out _ HS.out.2.2.1).mono ?_; rintro e w4 ⟨rfl, b4⟩; have N0 := Pg.TB.fresh w4 0 0 0 0 0; have O0 := (HS.out.1.call b4).alloc (.cells #[.int .i64 0, .int .u64 0, .int .i64 0, .int .i64 0, .int .i64 0] 43); have BB := (below3 HS.out.2.2.2 b4).alloc (below3 HS.out.2.2.2 b4).size (.cells #[.int .i64 0, .int .u64 0, .int .i64 0, .int .i64 0, .int .i64 0] 43)))
  have hne : w4.heap.size ≠ w.heap.size := by have := HS.out.1.lt; have := b4.size; omega
  generalize w4.heap.size = G at *
  generalize (w4.alloc (.cells #[.int .i64 0, .int .u64 0, .int .i64 0, .int .i64 0, .int .i64 0] 43)) = V at *
  obtain ⟨c0, c1, c2, c3, c4⟩ := N0.five
  obtain ⟨d0, d1, d2, d3, d4⟩ := O0.five
  have f0 := O0.frozen 0
  have f1 := O0.frozen 1
  have f2 := O0.frozen 2
  have f3 := O0.frozen 3
  have f4 := O0.frozen 4
  have HR := Hid.mk (Pg.tb_whole O0 BB (Nat.le_refl _) 0 0 0 0 0)
  clear O0 N0 BB HS b4
  go_wp2_with fail
  exact bodyPost_ret (tb_resultR rfl rfl HR.out.1) rfl ⟨rfl, HR.out.2⟩

/-- what a page says: nothing, or a text under a tag -/
def PgIs (C : Ch) (b p : Nat) : Option (ByteArray × Tg) → Prop
  | some (t, q) => Says C b p t q.1 q.2.1 q.2.2.1 q.2.2.2 0
  | none => Nov C b p
def fdOf (G : Nat → Option (ByteArray × Tg)) (i : Nat) : Fd := match G i with | some (t, q) => ⟨i, 1, q.1, q.2.1, q.2.2.1, q.2.2.2, 0, t⟩ | none => ⟨i, 0, 0, 0, 0, 0, 0, ⟨#[]⟩⟩
def fdL (G : Nat → Option (ByteArray × Tg)) (n : Nat) : List Fd := (List.range n).map (fdOf G)
theorem fdL_succ (G : Nat → Option (ByteArray × Tg)) (n : Nat) : (fdL G (n + 1)).map Fd.row = (fdL G n).map Fd.row ++ [(fdOf G n).row] := by unfold fdL; rw [List.range_succ, List.map_append, List.map_append]; rfl
theorem fdL_len (G : Nat → Option (ByteArray × Tg)) (n : Nat) : (fdL G n).length = n := by simp [fdL]
structure EI2 (t e sz bytes : Nat) : Prop where
  under : Tryd.prog.underlying t = some (.slice e)
  info : ∃ i z, Tryd.prog.info? e = some i ∧ i.zero = some z ∧ i.size = sz ∧ i.bytes = bytes ∧ z.cells.size = sz
  pos : 0 < sz
  top : bytes ≤ 128
section
variable {ops : Array Oper} {rest : List Oper} {o : Oper} {a : Act} {Q : Exit → Act → World → Prop}
/-- append of one that is written out -/
theorem wp_app2 {t e sz bytes : Nat} (E : EI2 t e sz bytes) {w : World} {B : Nat} {v : Value} {rows : We.Rws} (hgd : o.guard = none) (s x : Operand) (ho : o.op = .call { callee := .builtin .append, args := #[s, x], argTypes := #[t, t] })
    (h : We.Ow w B e sz v rows) (hB : B ≤ w.heap.size) (cs : Array Value) (hs : a.eval s = v) (hx : a.eval x = .slice (some ⟨w.heap.size, 0, none⟩) 1 1) (hc : cs.size = sz) (h1 : ∀ u ∈ cs.toList, u.oneCell' = true) (hn : rows.length < 1000000)
    (hK : ∀ v' w', We.Ow w' B e sz v' (rows ++ [cs.toList]) → w.grownBy w' v.ownBlock → (v'.ownBlock = v.ownBlock ∨ ∃ g, v'.ownBlock = some g ∧ w.heap.size ≤ g) → wpList Tryd.prog ops Q rest (a.put o.dst v') w') :
    wpList Tryd.prog ops Q (o :: rest) a (w.alloc (.cells cs e)) := by
  obtain ⟨i, z, q1, q2, q3, q4, q5⟩ := E.info
  have hl : cs.toList.length = 1 * sz := by rw [Array.length_toList, hc, Nat.one_mul]
  have hby : (rows.length + 1) * bytes ≤ 140737488355328 := by
    have := Nat.mul_le_mul_left (rows.length + 1) E.top
    omega
  refine wpList_append_own_at _ hgd s x t ho B e i z sz bytes E.under q1 q2 q3 q4 q5 E.pos v rows.length rows.flatten hs (h.own.alloc _) ⟨w.heap.size, 0, none⟩ 1 1 cs.toList hx hl (We.lit_cells w cs e) h1 (by simp [maxLen]; omega) hby (by rw [size_alloc]; omega) (fun v' w' p1 p2 _ p4 => ?_)
  have g : w.grownBy w' v.ownBlock := by
    have g1 := World.grownBy_alloc w (.cells cs e) v.ownBlock
    exact ⟨p2.os.trans g1.os, p2.tape.trans g1.tape, p2.output.trans g1.output, Nat.le_trans g1.size p2.size, fun k hk hne => (p2.block k (Nat.lt_of_lt_of_le hk g1.size) hne).trans (g1.block k hk hne)⟩
  refine hK v' w' (h.more (by rw [hl, Nat.one_mul]) h1 p1) g ?_
  rcases p4 with p4 | p4
  · exact .inl p4
  · exact .inr ⟨_, p4, by rw [size_alloc]; omega⟩
end
theorem ei48 : EI2 48 53 8 72 := ⟨Tryd.underlying48, ⟨_, _, rfl, rfl, rfl, rfl, rfl⟩, by omega, by omega⟩
/-- what 'found' holds -/
structure FnS (w : World) (A : Wl) (X : Wx) (v : Value) (G : Nat → Option (ByteArray × Tg)) (k : Nat) (wr : World) : Prop where
  out : We.Ow wr w.heap.size 53 8 v ((fdL G k).map Fd.row)
  wtr : Wtr wr A X
  tab : Pg.Tab wr
  below : Below w.heap.size w wr
theorem FnS.call {w A X v G k} {wr w2 : World} (h : FnS w A X v G k wr) (b : Below wr.heap.size wr w2) : FnS w A X v G k w2 := ⟨h.out.call b, h.wtr.call b, h.tab.call b, below3 h.below b⟩
theorem div_mod_at (P i : Nat) : ((i : Nat) : Int) = ((i / P : Nat) : Int) * (P : Int) + ((i % P : Nat) : Int) := by
  have := Nat.div_add_mod i P
  rw [← Int.natCast_mul, ← Int.natCast_add, Nat.mul_comm]
  omega
theorem fd8_of {w : World} {g : Nat} {x0 x1 x2 x3 x4 x5 x6 x7 : Value} (h : w.heap[g]? = some (.cells #[x0, x1, x2, x3, x4, x5, x6, x7] 53 (0, 0))) : w.cell? ⟨g, 0, none⟩ = some x0 ∧ w.cell? ⟨g, 1, none⟩ = some x1 ∧ w.cell? ⟨g, 2, none⟩ = some x2 ∧ w.cell? ⟨g, 3, none⟩ = some x3 ∧ w.cell? ⟨g, 4, none⟩ = some x4 ∧ w.cell? ⟨g, 5, none⟩ = some x5 ∧ w.cell? ⟨g, 6, none⟩ = some x6 ∧ w.cell? ⟨g, 7, none⟩ = some x7 := by
  refine ⟨?_, ?_, ?_, ?_, ?_, ?_, ?_, ?_⟩ <;> (rw [cell_of_row _ _ _ _ 53 _ h]; rfl)
theorem heap_drew (w : World) (g : Nat) : w.drew.heap[g]? = w.heap[g]? := rfl
theorem fd8_set {w : World} {g : Nat} {x0 x1 x2 x3 x4 x5 x6 x7 : Value} (h : w.heap[g]? = some (.cells #[x0, x1, x2, x3, x4, x5, x6, x7] 53 (0, 0))) (y1 y2 y3 y4 y5 y6 y7 : Value) :
    (((((((w.setCell ⟨g, 1, none⟩ y1).setCell ⟨g, 2, none⟩ y2).setCell ⟨g, 3, none⟩ y3).setCell ⟨g, 4, none⟩ y4).setCell ⟨g, 5, none⟩ y5).setCell ⟨g, 6, none⟩ y6).setCell ⟨g, 7, none⟩ y7).heap[g]? = some (.cells #[x0, y1, y2, y3, y4, y5, y6, y7] 53 (0, 0)) ∧
    Kp (fun i => i = g) w (((((((w.setCell ⟨g, 1, none⟩ y1).setCell ⟨g, 2, none⟩ y2).setCell ⟨g, 3, none⟩ y3).setCell ⟨g, 4, none⟩ y4).setCell ⟨g, 5, none⟩ y5).setCell ⟨g, 6, none⟩ y6).setCell ⟨g, 7, none⟩ y7) := by
  have q1 : (w.setCell ⟨g, 1, none⟩ y1).heap[g]? = some (.cells #[x0, y1, x2, x3, x4, x5, x6, x7] 53 (0, 0)) := heap_setCell_same _ g 1 _ 53 y1 h
  have q2 : ((w.setCell ⟨g, 1, none⟩ y1).setCell ⟨g, 2, none⟩ y2).heap[g]? = some (.cells #[x0, y1, y2, x3, x4, x5, x6, x7] 53 (0, 0)) := heap_setCell_same _ g 2 _ 53 y2 q1
  have q3 : (((w.setCell ⟨g, 1, none⟩ y1).setCell ⟨g, 2, none⟩ y2).setCell ⟨g, 3, none⟩ y3).heap[g]? = some (.cells #[x0, y1, y2, y3, x4, x5, x6, x7] 53 (0, 0)) := heap_setCell_same _ g 3 _ 53 y3 q2
  have q4 : ((((w.setCell ⟨g, 1, none⟩ y1).setCell ⟨g, 2, none⟩ y2).setCell ⟨g, 3, none⟩ y3).setCell ⟨g, 4, none⟩ y4).heap[g]? = some (.cells #[x0, y1, y2, y3, y4, x5, x6, x7] 53 (0, 0)) := heap_setCell_same _ g 4 _ 53 y4 q3
  have q5 : (((((w.setCell ⟨g, 1, none⟩ y1).setCell ⟨g, 2, none⟩ y2).setCell ⟨g, 3, none⟩ y3).setCell ⟨g, 4, none⟩ y4).setCell ⟨g, 5, none⟩ y5).heap[g]? = some (.cells #[x0, y1, y2, y3, y4, y5, x6, x7] 53 (0, 0)) := heap_setCell_same _ g 5 _ 53 y5 q4
  have q6 : ((((((w.setCell ⟨g, 1, none⟩ y1).setCell ⟨g, 2, none⟩ y2).setCell ⟨g, 3, none⟩ y3).setCell ⟨g, 4, none⟩ y4).setCell ⟨g, 5, none⟩ y5).setCell ⟨g, 6, none⟩ y6).heap[g]? = some (.cells #[x0, y1, y2, y3, y4, y5, y6, x7] 53 (0, 0)) := heap_setCell_same _ g 6 _ 53 y6 q5
  have q7 : (((((((w.setCell ⟨g, 1, none⟩ y1).setCell ⟨g, 2, none⟩ y2).setCell ⟨g, 3, none⟩ y3).setCell ⟨g, 4, none⟩ y4).setCell ⟨g, 5, none⟩ y5).setCell ⟨g, 6, none⟩ y6).setCell ⟨g, 7, none⟩ y7).heap[g]? = some (.cells #[x0, y1, y2, y3, y4, y5, y6, y7] 53 (0, 0)) := heap_setCell_same _ g 7 _ 53 y7 q6
  refine ⟨q7, ?_⟩
  have s : ∀ {a : World} (o : Nat) (v : Value), Kp (fun j => j = g) w a → Kp (fun j => j = g) w (a.setCell ⟨g, o, none⟩ v) := fun o v k => Kp.setCell (p := ⟨g, o, none⟩) k (show g = g from rfl) v
  exact s _ _ (s _ _ (s _ _ (s _ _ (s _ _ (s _ _ (s _ _ (Kp.refl _ w)))))))
theorem fns_more {w A X v v2 G k} {wr w3 : World} (h : FnS w A X v G k wr) (hA : ∀ i, A.own X.C.B i → i < w.heap.size) (hw : 0 < w.heap.size) {r : List Value} (hr : (fdOf G k).row = r) (q1 : We.Ow w3 w.heap.size 53 8 v2 ((fdL G k).map Fd.row ++ [r])) (q2 : wr.grownBy w3 v.ownBlock) : FnS w A X v2 G (k + 1) w3 := by
  have hX : ∀ j, v.ownBlock = some j → w.heap.size ≤ j := fun j hj => (h.out.lt j hj).1
  have k1 : Kp (fun i => v.ownBlock = some i) wr w3 := Kp.ofGrown q2 (fun i hi => hi)
  refine ⟨by rw [fdL_succ, hr]; exact q1, h.wtr.off k1 (fun i hi => ⟨fun q => ?_, ?_⟩), Tab.off h.tab k1 (fun hi => ?_), h.below.grown q2 h.below.size hX⟩
  · have := hX i hi
    have := hA i q
    omega
  · rcases h.out.own.2 with ⟨q, _⟩ | ⟨g', cap, cur, rfl, _, q2, _⟩
    · subst q; cases hi
    · obtain rfl : g' = i := by simpa [Value.ownBlock] using hi
      exact ⟨_, _, _, q2⟩
  · have := hX 0 hi
    omega
theorem FnS.drew {w A X v G k} {wr : World} (h : FnS w A X v G k wr) : FnS w A X v G k wr.drew := ⟨h.out.drew, h.wtr.drew, h.tab.drew, h.below.drew⟩
/-- where only a block of the call's own is written -/
theorem FnS.kp {w A X v G k g} {wr w3 : World} (h : FnS w A X v G k wr) (hA : ∀ i, A.own X.C.B i → i < w.heap.size) (hw : 0 < w.heap.size) (hg : w.heap.size ≤ g) (hc : Cel wr g) (hv : v.ownBlock ≠ some g) (k1 : Kp (fun i => i = g) wr w3) : FnS w A X v G k w3 :=
  ⟨h.out.same (fun j hj => k1.block j (h.out.lt j hj).2 (fun e => hv (by rw [hj, e]))), h.wtr.off k1 (fun i hi => ⟨fun q => by have := hA i q; omega, by subst hi; exact hc⟩), Tab.off h.tab k1 (fun e => by omega), Kp.below h.below k1 h.below.size (fun i hi => by omega)⟩
set_option maxHeartbeats 2000000 in
theorem found_any {w : World} {A X} (h : Wtr w A X) (hT : Pg.Tab w) (hoff : X.C.off = false) (G : Nat → Option (ByteArray × Tg)) (m : Nat) (hm : m ≤ X.C.B * X.C.P) (hm2 : m ≤ 1000) (hG : ∀ i, i < m → PgIs X.C (i / X.C.P) (i % X.C.P) (G i)) :
    Calls Tryd.prog 18 #[.pointer (some ⟨A.a, 0, none⟩), .int .i64 m] w fun e w' => ∃ v, e = .returned v ∧ We.Ow w' w.heap.size 53 8 v ((fdL G m).map Fd.row) ∧ Below w.heap.size w w' := by
  have hgeo := h.chip.geo
  have hrd : ∀ i, i < m → ∀ w', Wtr w' A X → Pg.Tab w' → Calls Tryd.prog 12 #[.pointer (some ⟨A.a, 0, none⟩), .int .i64 i] w' fun e w'' => e = .returned (match G i with | some (t, q) => .tuple #[Pg.tagV q.1 q.2.1 q.2.2.1 q.2.2.2 0, .string t, .int .i64 0] | none => .tuple #[Pg.tagV 0 0 0 0 0, .string ⟨#[]⟩, .int .i64 3]) ∧ Below w'.heap.size w' w'' := by
    intro i hi w' hw hT'
    have hB : i / X.C.P < X.C.B := Nat.div_lt_of_lt_mul (by rw [Nat.mul_comm]; omega)
    have hP : i % X.C.P < X.C.P := Nat.mod_lt _ (by omega)
    have hg := hG i hi
    cases hGi : G i with
    | none =>
      rw [hGi] at hg
      exact read_no hw hT' _ _ hB hP hoff hg i (div_mod_at _ _)
    | some x =>
      obtain ⟨t, q⟩ := x
      rw [hGi] at hg
      exact read_ok hw hT' _ _ hB hP hoff hg i (div_mod_at _ _)
  have HR := Hid.mk hrd
  have HA := Hid.mk (And.intro h.lt hT.1)
  have H0 : Hid (FnS w A X (.slice (some ⟨w.heap.size, 0, none⟩) 0 0) G 0 (w.alloc (.cells #[] 53))) := ⟨We.Ow.made w (Nat.le_refl _) 53 8, h.call (Pg.below_one w _), hT.call (Pg.below_one w _), Pg.below_one w _⟩
  clear h hT hG hrd hgeo hm hoff
  go_enter Tryd.func18, Tryd.ntmps18
  go_upto_region 3 with fail
  generalize (w.alloc (.cells #[] 53)) = W at *
  go_loopw [5, 6] (fun v i wr => ∃ k : Nat, k ≤ m ∧ i = .int .i64 k ∧ FnS w A X v G k wr) (fun _ i _ => m - (intOf i).toNat)
  case atStart => exact ⟨0, Nat.zero_le _, rfl, H0.out⟩
  case round =>
    clear H0
    obtain ⟨k, hk, rfl, hs⟩ := hrel
    by_cases hlt : k < m
    · have hr := HR.out k hlt
      have hltI : (k : Int) < (m : Int) := by omega
      obtain ⟨a5, p5, rfl⟩ := hs.out.form
      have HS := Hid.mk hs
      rw [List.length_map, fdL_len] at HS ⊢
      have H1 := Hid.mk (HS.out.call (Pg.below_one wr (.cells #[.int .i64 k, .int .i64 0, .int .i64 0, .int .u64 0, .int .i64 0, .int .i64 0, .int .i64 0, .string ⟨#[]⟩] 53)))
      have F8 := Hid.mk (And.intro (heap_alloc_new wr (.cells #[.int .i64 k, .int .i64 0, .int .i64 0, .int .u64 0, .int .i64 0, .int .i64 0, .int .i64 0, .string ⟨#[]⟩] 53)) (show wr.heap.size < (wr.alloc (.cells #[.int .i64 k, .int .i64 0, .int .i64 0, .int .u64 0, .int .i64 0, .int .i64 0, .int .i64 0, .string ⟨#[]⟩] 53)).heap.size by rw [size_alloc]; omega))
      clear hs HR
      cases hGk : G k with
      | none =>
        rw [hGk] at hr
        dsimp only at hr
        unfold Pg.tagV at hr
        replace hr := Hid.mk hr
        have hfd := Hid.mk (show (fdOf G k).row = [.int .i64 k, .int .i64 0, .int .i64 0, .int .u64 0, .int .i64 0, .int .i64 0, .int .i64 0, .string ⟨#[]⟩] by unfold fdOf; rw [hGk]; rfl)
        clear hGk
        go_upto_region 7 with (first
          | (go_at_call 12; refine (hr.out _ H1.out.wtr H1.out.tab).mono ?_; rintro e w1 ⟨rfl, b1⟩))
        have b2 := Pg.below_one w1 (.cells #[.int .i64 0, .int .u64 0, .int .i64 0, .int .i64 0, .int .i64 0] 43)
        have hV := Hid.mk ((H1.out.call b1).call b2)
        have hB := (b2.block wr.heap.size (Nat.lt_of_lt_of_le F8.out.2 b1.size)).trans ((b1.block wr.heap.size F8.out.2).trans F8.out.1)
        generalize (w1.alloc (.cells #[.int .i64 0, .int .u64 0, .int .i64 0, .int .i64 0, .int .i64 0] 43)) = V at *
        generalize wr.heap.size = g7 at *
        obtain ⟨e0, e1, e2, e3, e4, e5, e6, e7⟩ := fd8_of hB
        clear b1 b2 hB H1 F8 HS hr
        go_wp2_with (first
          | (at_builtin; refine wp_app2 ei48 rfl (.tmp 33) (.tmp 35) rfl hV.out.out hV.out.below.size #[.int .i64 k, .int .i64 0, .int .i64 0, .int .u64 0, .int .i64 0, .int .i64 0, .int .i64 0, .string ⟨#[]⟩] rfl rfl rfl (by simp [Value.oneCell']) (by rw [List.length_map, fdL_len]; omega) ?_; intro v2 w3 q1 q2 q3))
        exact ⟨⟨k + 1, by omega, by go_num, fns_more hV.out HA.out.1 HA.out.2 hfd.out q1 q2⟩, by simp [intOf]; omega⟩
      | some x =>
        obtain ⟨t, K, S, I, O⟩ := x
        rw [hGk] at hr
        dsimp only at hr
        unfold Pg.tagV at hr
        replace hr := Hid.mk hr
        have hfd := Hid.mk (show (fdOf G k).row = [.int .i64 k, .int .i64 1, .int .i64 K, .int .u64 S, .int .i64 I, .int .i64 O, .int .i64 0, .string t] by unfold fdOf; rw [hGk]; rfl)
        clear hGk
        go_upto_region 8 with (first
          | (go_at_call 12; refine (hr.out _ H1.out.wtr H1.out.tab).mono ?_; rintro e w1 ⟨rfl, b1⟩))
        have b2 := Pg.below_one w1 (.cells #[.int .i64 K, .int .u64 S, .int .i64 I, .int .i64 O, .int .i64 0] 43)
        have hV := Hid.mk ((H1.out.call b1).call b2)
        have hB := (b2.block wr.heap.size (Nat.lt_of_lt_of_le F8.out.2 b1.size)).trans ((b1.block wr.heap.size F8.out.2).trans F8.out.1)
        have hN := Pg.TB.fresh w1 K S I O 0
        have hne : w1.heap.size ≠ wr.heap.size := by have := F8.out.2; have := b1.size; omega
        have hlo : w.heap.size ≤ wr.heap.size := HS.out.below.size
        have hown : ∀ j, Value.ownBlock (.slice a5 k p5) = some j → j ≠ wr.heap.size := fun j hj => by have := (HS.out.out.lt j hj).2; omega
        generalize (w1.alloc (.cells #[.int .i64 K, .int .u64 S, .int .i64 I, .int .i64 O, .int .i64 0] 43)) = V at *
        generalize wr.heap.size = g7 at *
        generalize w1.heap.size = g8 at *
        obtain ⟨d0, d1, d2, d3, d4⟩ := hN.five
        obtain ⟨e0, e1, e2, e3, e4, e5, e6, e7⟩ := fd8_of hB
        have f1 := frozen_of_row V g7 1 _ 53 hB
        have f2 := frozen_of_row V g7 2 _ 53 hB
        have f3 := frozen_of_row V g7 3 _ 53 hB
        have f4 := frozen_of_row V g7 4 _ 53 hB
        have f5 := frozen_of_row V g7 5 _ 53 hB
        have f6 := frozen_of_row V g7 6 _ 53 hB
        have f7 := frozen_of_row V g7 7 _ 53 hB
        have hV2 := Hid.mk (And.intro hV.out hB)
        clear hN hB b1 b2 H1 F8 HS hr hV
        go_region
        obtain ⟨hB2, hK2⟩ := fd8_set hV2.out.2 (.int .i64 1) (.int .i64 K) (.int .u64 S) (.int .i64 I) (.int .i64 O) (.int .i64 0) (.string t)
        replace hB2 : (((((((V.setCell ⟨g7, 1, none⟩ (.int .i64 1)).setCell ⟨g7, 2, none⟩ (.int .i64 K)).setCell ⟨g7, 3, none⟩ (.int .u64 S)).setCell ⟨g7, 4, none⟩ (.int .i64 I)).setCell ⟨g7, 5, none⟩ (.int .i64 O)).setCell ⟨g7, 6, none⟩ (.int .i64 0)).setCell ⟨g7, 7, none⟩ (.string t)).drew.heap[g7]? = some (.cells #[.int .i64 k, .int .i64 1, .int .i64 K, .int .u64 S, .int .i64 I, .int .i64 O, .int .i64 0, .string t] 53 (0, 0)) := (heap_drew _ _).trans hB2
        have hW2 := Hid.mk (FnS.drew <| hV2.out.1.kp HA.out.1 HA.out.2 hlo ⟨_, _, _, hV2.out.2⟩ (fun e => hown g7 e rfl) hK2)
        clear e0 e1 e2 e3 e4 e5 e6 e7 f1 f2 f3 f4 f5 f6 f7 d0 d1 d2 d3 d4 hK2 hV2
        obtain ⟨e0, e1, e2, e3, e4, e5, e6, e7⟩ := fd8_of hB2
        generalize hV2 : (((((((V.setCell ⟨g7, 1, none⟩ (.int .i64 1)).setCell ⟨g7, 2, none⟩ (.int .i64 K)).setCell ⟨g7, 3, none⟩ (.int .u64 S)).setCell ⟨g7, 4, none⟩ (.int .i64 I)).setCell ⟨g7, 5, none⟩ (.int .i64 O)).setCell ⟨g7, 6, none⟩ (.int .i64 0)).setCell ⟨g7, 7, none⟩ (.string t)).drew = V2 at *
        clear hV2 hB2
        go_wp2_with (first
          | (at_builtin; refine wp_app2 ei48 rfl (.tmp 33) (.tmp 35) rfl hW2.out.out hW2.out.below.size #[.int .i64 k, .int .i64 1, .int .i64 K, .int .u64 S, .int .i64 I, .int .i64 O, .int .i64 0, .string t] rfl rfl rfl (by simp [Value.oneCell']) (by rw [List.length_map, fdL_len]; omega) ?_; intro v2 w3 q1 q2 q3))
        exact ⟨⟨k + 1, by omega, by go_num, fns_more hW2.out HA.out.1 HA.out.2 hfd.out q1 q2⟩, by simp [intOf]; omega⟩
    · obtain rfl : k = m := by omega
      have HS := Hid.mk hs
      clear hs HR
      go_wp2_with fail
      go_ret
      exact ⟨_, rfl, HS.out.out, HS.out.below⟩
set_option maxRecDepth 100000

/-- the first seventeen bytes beside a page: its tag -/
def hdT (K S I O W : Nat) : List UInt8 := Pg.fixL K 1 ++ (Pg.fixL S 8 ++ (Pg.fixL I 2 ++ (Pg.fixL O 2 ++ Pg.fixL W 4)))
theorem hdT_len (K S I O W : Nat) : (hdT K S I O W).length = 17 := by simp [hdT, Pg.fixL_length]
theorem spare_list (K S I O W : Nat) (t : ByteArray) (n : Nat) : ∃ r, (Pg.spareB K S I O W t n).data.toList = hdT K S I O W ++ (Pg.fixL t.size 2 ++ (List.replicate 9 0 ++ r)) := by
  refine ⟨Pg.fixL (Pg.crcN ((Pg.padB t n).data.toList ++ (Pg.besideB K S I O W t.size).data.toList)) 4, ?_⟩
  unfold Pg.spareB
  rw [Pg.beside_zs]
  simp [Pg.fx, Pg.zs, hdT, ByteArray.data_append]
theorem fixL_inj {a b k : Nat} (h : Pg.fixL a k = Pg.fixL b k) (ha : a < 256 ^ k) (hb : b < 256 ^ k) : a = b := by
  induction k generalizing a b with
  | zero => simp at ha hb; omega
  | succ k ih =>
    simp only [Pg.fixL, List.cons.injEq] at h
    have h1 : a % 256 = b % 256 := by
      have := congrArg UInt8.toNat h.1
      simp at this
      exact this
    rw [Nat.pow_succ] at ha hb
    have h2 := ih h.2 (by omega) (by omega)
    omega
theorem hdT_inj {K S I O W K' S' I' O' W' : Nat} (h : hdT K S I O W = hdT K' S' I' O' W') (h1 : K < 256) (h2 : S < 18446744073709551616) (h3 : I < 65536) (h4 : O < 65536) (h5 : W < 4294967296) (h1' : K' < 256) (h2' : S' < 18446744073709551616) (h3' : I' < 65536) (h4' : O' < 65536) (h5' : W' < 4294967296) :
    K = K' ∧ S = S' ∧ I = I' ∧ O = O' ∧ W = W' := by
  unfold hdT at h
  obtain ⟨e1, h⟩ := List.append_inj h (by simp [Pg.fixL_length])
  obtain ⟨e2, h⟩ := List.append_inj h (by simp [Pg.fixL_length])
  obtain ⟨e3, h⟩ := List.append_inj h (by simp [Pg.fixL_length])
  obtain ⟨e4, e5⟩ := List.append_inj h (by simp [Pg.fixL_length])
  exact ⟨fixL_inj e1 (by simpa using h1) (by simpa using h1'), fixL_inj e2 (by simpa using h2) (by simpa using h2'), fixL_inj e3 (by simpa using h3) (by simpa using h3'), fixL_inj e4 (by simpa using h4) (by simpa using h4'), fixL_inj e5 (by simpa using h5) (by simpa using h5')⟩
theorem hdT_at (K S I O W : Nat) : (hdT K S I O W).getD 11 0 = UInt8.ofNat (O % 256) ∧ (hdT K S I O W).getD 12 0 = UInt8.ofNat (O / 256 % 256) ∧ (hdT K S I O W).getD 13 0 = UInt8.ofNat (W % 256) ∧ (hdT K S I O W).getD 14 0 = UInt8.ofNat (W / 256 % 256) ∧ (hdT K S I O W).getD 15 0 = UInt8.ofNat (W / 256 / 256 % 256) ∧ (hdT K S I O W).getD 16 0 = UInt8.ofNat (W / 256 / 256 / 256 % 256) := ⟨rfl, rfl, rfl, rfl, rfl, rfl⟩
/-- bytes kept up to a place, then others of one kind: the tag is the one that was written -/
theorem torn_tag {s s' : List UInt8} {kk : Nat} {f : UInt8} (hs : ∀ c, c < 28 → s'.getD c 0 = if c < kk then s.getD c 0 else f)
    {K S I O K' S' I' O' W' : Nat} (hh : ∀ c, c < 17 → s.getD c 0 = (hdT K S I O 0).getD c 0) (hh' : ∀ c, c < 17 → s'.getD c 0 = (hdT K' S' I' O' W').getD c 0) (hz : s'.getD 20 0 = 0)
    (hO : O < 256) (hO' : 1 ≤ O' ∧ O' < 65536) : hdT K S I O 0 = hdT K' S' I' O' W' := by
  have key : ∀ c, c < 17 → s.getD c 0 = s'.getD c 0 := by
    intro c hc
    by_cases h17 : 17 ≤ kk
    · rw [hs c (by omega), if_pos (by omega)]
    · have hf : f = 0 := by
        have := hs 20 (by omega)
        rw [if_neg (by omega), hz] at this
        exact this.symm
      have h12 : 12 ≤ kk := by
        by_cases h : 12 ≤ kk
        · exact h
        · exfalso
          have a1 := hs 11 (by omega)
          have a2 := hs 12 (by omega)
          rw [if_neg (by omega), hh' 11 (by omega), (hdT_at K' S' I' O' W').1, hf] at a1
          rw [if_neg (by omega), hh' 12 (by omega), (hdT_at K' S' I' O' W').2.1, hf] at a2
          have b1 := congrArg UInt8.toNat a1
          have b2 := congrArg UInt8.toNat a2
          simp at b1 b2
          omega
      rw [hs c (by omega)]
      by_cases hk : c < kk
      · rw [if_pos hk]
      · rw [if_neg hk, hf, hh c hc]
        have hc5 : c = 12 ∨ c = 13 ∨ c = 14 ∨ c = 15 ∨ c = 16 := by omega
        obtain ⟨_, z12, z13, z14, z15, z16⟩ := hdT_at K S I O 0
        rcases hc5 with rfl | rfl | rfl | rfl | rfl
        · rw [z12, show O / 256 % 256 = 0 by omega]; rfl
        · exact z13
        · exact z14
        · exact z15
        · exact z16
  apply List.ext_getElem
  · rw [hdT_len, hdT_len]
  · intro i h1 h2
    rw [hdT_len] at h1
    have e := (hh i h1).symm.trans ((key i h1).trans (hh' i h1))
    simpa [List.getD_eq_getElem?_getD, hdT_len, h1] using e
theorem toList_extract (b : ByteArray) (i j : Nat) : (b.extract i j).data.toList = (b.data.toList.drop i).take (j - i) := by
  rw [ByteArray.data_extract, Array.toList_extract, List.extract_eq_take_drop]
theorem size_toList (b : ByteArray) : b.data.toList.length = b.size := by simp
theorem extract_split (Y : ByteArray) (a b : Nat) (h : Y.size = a + b) : Y = Y.extract 0 a ++ Y.extract a (a + b) := by
  apply ByteArray.ext
  apply Array.ext'
  rw [ByteArray.data_append, Array.toList_append, toList_extract, toList_extract, List.drop_zero, Nat.sub_zero, Nat.add_sub_cancel_left]
  have hl := size_toList Y
  rw [List.take_of_length_le (l := Y.data.toList.drop a) (by rw [List.length_drop]; omega), List.take_append_drop]
/-- the bytes of a page that was cut -/
theorem torn_bytes (Z : Nat) (raw : ByteArray) (hr : raw.size = Z + 32) (k x : Int) : ∃ kk, kk ≤ Z + 32 ∧ (((Z + 32 : Nat) : Int) ≤ k → kk = Z + 32) ∧ (tornP Z raw k x).size = Z + 32 ∧ ∀ j, j < Z + 32 → (tornP Z raw k x).data.toList.getD j 0 = if j < kk then raw.data.toList.getD j 0 else u8 x := by
  refine ⟨(min (max k 0) ((Z + 32 : Nat) : Int)).toNat, by omega, by omega, ?_, ?_⟩
  · unfold tornP
    exact cut_size Z _ raw (rep (Z + 32) (u8 x)) hr (rep_size _ _) (by omega)
  · intro j hj
    unfold tornP
    generalize hkk : (min (max k 0) ((Z + 32 : Nat) : Int)).toNat = kk
    have hk : kk ≤ Z + 32 := by omega
    have hl := size_toList raw
    have hrep : (rep (Z + 32) (u8 x)).data.toList = List.replicate (Z + 32) (u8 x) := rfl
    rw [ByteArray.data_append, Array.toList_append, toList_extract, toList_extract, List.drop_zero, Nat.sub_zero, hrep]
    have hlt : (raw.data.toList.take kk).length = kk := by rw [List.length_take, hl, hr]; omega
    simp only [List.getD_eq_getElem?_getD, List.getElem?_append, hlt]
    by_cases h : j < kk
    · rw [if_pos h, if_pos h, List.getElem?_take, if_pos h]
    · rw [if_neg h, if_neg h, List.getElem?_take, if_pos (by omega), List.getElem?_drop, show kk + (j - kk) = j by omega, List.getElem?_replicate, if_pos hj]
      rfl
theorem nov_rep (C : Ch) (b p : Nat) (h : C.pg b p = ⟨#[]⟩) : Nov C b p := by
  refine ⟨(rep (C.Z + 32) 255).extract 0 C.Z, (rep (C.Z + 32) 255).extract C.Z (C.Z + 32), ?_, ?_, ?_, ?_⟩
  · unfold seen
    rw [if_pos h]
    exact extract_split _ _ _ (rep_size _ _)
  · rw [ByteArray.size_extract, rep_size]; omega
  · rw [ByteArray.size_extract, rep_size]; omega
  · rintro ⟨t, K, S, I, O, W, hv⟩
    have h1 := allF_rep (C.Z + 32)
    rw [extract_split _ _ _ (rep_size (C.Z + 32) 255), Pg.allF_append, hv.not, Bool.and_false] at h1
    cases h1
/-- a page in which the power failed says nothing, or something under its own tag; it is whole, if all was kept -/
theorem torn_says {C : Ch} {b p : Nat} {d s t : ByteArray} {K S I O : Nat} (hv : Pg.Val d s t K S I O 0) (hd : d.size = C.Z) (hO : O < 256) (k x : Int) (hpg : C.pg b p = kp C.Z (tornP C.Z (d ++ s) k x)) :
    ((∃ t', Says C b p t' K S I O 0) ∨ Nov C b p) ∧ (((C.Z + 32 : Nat) : Int) ≤ k → Says C b p t K S I O 0) := by
  have hss := hv.size
  have hraw : (d ++ s).size = C.Z + 32 := by rw [ByteArray.size_append, hd, hss]
  obtain ⟨kk, hkk, hfull, hsz, hby⟩ := torn_bytes C.Z (d ++ s) hraw k x
  have hrl : (d ++ s).data.toList = d.data.toList ++ s.data.toList := by rw [ByteArray.data_append, Array.toList_append]
  have hdl := size_toList d
  have hsl := size_toList s
  have hsec : ((C.Z + 32 : Nat) : Int) ≤ k → Says C b p t K S I O 0 := by
    intro hk
    have hY : tornP C.Z (d ++ s) k x = d ++ s := by
      apply ByteArray.ext
      apply Array.ext'
      apply List.ext_getElem?
      intro j
      have l1 := size_toList (tornP C.Z (d ++ s) k x)
      have l2 := size_toList (d ++ s)
      by_cases hj : j < C.Z + 32
      · have := hby j hj
        rw [hfull hk, if_pos hj] at this
        simp only [List.getD_eq_getElem?_getD] at this
        rw [List.getElem?_eq_getElem (by omega), List.getElem?_eq_getElem (by omega)] at this ⊢
        simpa using this
      · rw [List.getElem?_eq_none (by omega), List.getElem?_eq_none (by omega)]
    exact ⟨d, s, by rw [hpg, hY, kp_val hv], hd, hv⟩
  refine ⟨?_, hsec⟩
  generalize tornP C.Z (d ++ s) k x = Y at *
  have hsp := extract_split Y C.Z 32 hsz
  generalize hd' : Y.extract 0 C.Z = d' at *
  generalize hs' : Y.extract C.Z (C.Z + 32) = s' at *
  have hd's : d'.size = C.Z := by rw [← hd', ByteArray.size_extract]; omega
  have hs's : s'.size = 32 := by rw [← hs', ByteArray.size_extract]; omega
  have hseen : seen C b p = d' ++ s' := by
    rw [← hsp]
    unfold seen
    rw [hpg]
    unfold kp
    by_cases h : Y = rep (C.Z + 32) 255
    · rw [if_pos h, if_pos rfl, h]
    · rw [if_neg h, if_neg (fun e => by rw [e] at hsz; have h0 : (⟨#[]⟩ : ByteArray).size = 0 := rfl; omega)]
  by_cases hV : ∃ t K S I O W, Pg.Val d' s' t K S I O W
  · left
    obtain ⟨t', K', S', I', O', W', hv'⟩ := hV
    have hpY : C.pg b p = d' ++ s' := by rw [hpg, hsp, kp_val hv']
    obtain ⟨r, hr⟩ := spare_list K S I O 0 t d.size
    obtain ⟨r', hr'⟩ := spare_list K' S' I' O' W' t' d'.size
    rw [hv.spare] at hr
    rw [hv'.spare] at hr'
    have hm := hv.may
    have hm' := hv'.may
    unfold Pg.mayB at hm hm'
    have g : ∀ (l r : List UInt8) c, c < l.length → (l ++ r).getD c 0 = l.getD c 0 := fun l r c hc => by simp [List.getD_eq_getElem?_getD, List.getElem?_append_left hc]
    have hq := torn_tag (s := s.data.toList) (s' := s'.data.toList) (kk := kk - C.Z) (f := u8 x) (K := K) (S := S) (I := I) (O := O) (K' := K') (S' := S') (I' := I') (O' := O') (W' := W') ?_ ?_ ?_ ?_ hO (by omega)
    · obtain ⟨rfl, rfl, rfl, rfl, hW⟩ := hdT_inj hq (by omega) hv.seq (by omega) (by omega) (by omega) (by omega) hv'.seq (by omega) (by omega) (by omega)
      subst hW
      exact ⟨t', d', s', hpY, hd's, hv'⟩
    · intro c hc
      have h1 := hby (C.Z + c) (by omega)
      have e1 : Y.data.toList.getD (C.Z + c) 0 = s'.data.toList.getD c 0 := by
        rw [← hs', toList_extract]
        simp [List.getD_eq_getElem?_getD, show c < 32 by omega]
      have e2 : (d ++ s).data.toList.getD (C.Z + c) 0 = s.data.toList.getD c 0 := by
        rw [hrl]
        simp only [List.getD_eq_getElem?_getD]
        rw [List.getElem?_append_right (by omega), hdl, hd, Nat.add_sub_cancel_left]
      rw [e1, e2] at h1
      rw [h1]
      by_cases h : C.Z + c < kk
      · rw [if_pos h, if_pos (by omega)]
      · rw [if_neg h, if_neg (by omega)]
    · intro c hc
      rw [hr, g _ _ c (by rw [hdT_len]; exact hc)]
    · intro c hc
      rw [hr', g _ _ c (by rw [hdT_len]; exact hc)]
    · rw [hr']
      have e17 := hdT_len K' S' I' O' W'
      have e2 := Pg.fixL_length t'.size 2
      simp only [List.getD_eq_getElem?_getD]
      rw [List.getElem?_append_right (by omega), e17, List.getElem?_append_right (by omega), e2, List.getElem?_append_left (by simp)]
      rfl
  · exact .inr ⟨d', s', hseen, hd's, hs's, hV⟩
set_option maxRecDepth 100000

/-- a writer that was begun in w0's time, and the table -/
structure Run (w0 : World) (A : Wl) (X : Wx) (w : World) : Prop where
  wtr : Wtr w A X
  below : Below w0.heap.size w0 w
  lo : w0.heap.size ≤ A.lo
  tab : Pg.Tab w
theorem Run.call {w0 : World} {A X} {w w' : World} (h : Run w0 A X w) (b : Below w.heap.size w w') : Run w0 A X w' := ⟨h.wtr.call b, below3 h.below b, h.lo, h.tab.call b⟩
theorem Run.drew {w0 : World} {A X} {w : World} (h : Run w0 A X w) : Run w0 A X w.drew := ⟨h.wtr.drew, h.below.drew, h.lo, h.tab.drew⟩
theorem Run.next {w0 : World} {A A' X X'} {w w' : World} (h : Run w0 A X w) (k : Wtr w' A' X') (n : Nxt A A' X.C.B w w') : Run w0 A' X' w' :=
  ⟨k, Kp.below h.below n.kp h.below.size (fun i hi => Nat.le_trans h.lo (h.wtr.low i hi)), by rw [n.lo]; exact h.lo, Tab.off h.tab n.kp h.wtr.zero⟩
theorem Run.beg {w0 w : World} {cl fl b p z A} (h : Begd w0 cl fl b p z A w) (hT : Pg.Tab w0) : Run w0 A (begX b p z cl fl) w := ⟨h.wtr, h.below, by rw [h.lo]; exact Nat.le_refl _, hT.call h.below⟩
theorem begun_none (B0 P0 Z0 : Int) (w : World) (hw0 : 0 < w.heap.size) : Calls Tryd.prog 6 #[.agg #[.int .i64 B0, .int .i64 P0, .int .i64 Z0], .agg #[.slice none 0 0, .slice none 0 0, .slice none 0 0]] w fun e w' =>
      ∃ b p z A, e = .returned (.tuple #[.pointer (some ⟨A.L.a, 0, none⟩), .pointer (some ⟨A.a, 0, none⟩), .bool true]) ∧ Begd w [] [] b p z A w' :=
  begun_any B0 P0 Z0 none none [] [] 0 0 w hw0 (fun i hi => by simp at hi) (fun i hi => by simp at hi) (.inl rfl) (.inl rfl) (Nat.le_refl _) (Nat.le_refl _) (fun x hx => by simp at hx) (fun x hx => by simp at hx)
/-- what was not written yet is erased -/
theorem Sq.rest {D : Nat} {X : Wx} {a r T Q} (h : Sq D X a r T Q) {b p : Nat} (hb : b < X.C.B) (hp : p < X.C.P) (hab : a < b ∨ (b = a ∧ r ≤ p)) : X.C.pg b p = ⟨#[]⟩ := by
  have hx := h.xs b hb
  rw [if_neg (by omega)] at hx
  by_cases e : b = a ∧ 0 < r
  · rw [if_pos e] at hx
    have hn := h.nx e.2
    exact (h.fin.opn b hb hx).2 p (by omega) hp
  · rw [if_neg e] at hx
    exact (h.fin.free b hb hx).2 p hp
theorem Sq.cong {D : Nat} {X : Wx} {a r T Q T' Q'} (h : Sq D X a r T Q) (ht : ∀ i, i < a * X.C.P + r → T' i = T i ∧ Q' i = Q i) : Sq D X a r T' Q' := by
  refine { h with says := fun i p hip => ?_ }
  have hlt : i * X.C.P + p < a * X.C.P + r := by
    rcases hip with ⟨h1, h2⟩ | ⟨rfl, h2⟩
    · have := Nat.mul_le_mul_right X.C.P (show i + 1 ≤ a by omega)
      rw [Nat.succ_mul] at this
      omega
    · omega
  rw [(ht _ hlt).1, (ht _ hlt).2]
  exact h.says i p hip
/-- the power failed while the page behind so many was written -/
structure Stp (X : Wx) (a r : Nat) (T : Nat → ByteArray) (Q : Nat → Tg) (kf : Int × Int) : Prop where
  off : X.C.off = true
  lt : a < X.C.B ∧ r < X.C.P
  says : ∀ i p, (i < a ∧ p < X.C.P) ∨ (i = a ∧ p < r) → Says X.C i p (T (i * X.C.P + p)) (Q (i * X.C.P + p)).1 (Q (i * X.C.P + p)).2.1 (Q (i * X.C.P + p)).2.2.1 (Q (i * X.C.P + p)).2.2.2 0
  torn : ∃ d s, Pg.Val d s (T (a * X.C.P + r)) (Q (a * X.C.P + r)).1 (Q (a * X.C.P + r)).2.1 (Q (a * X.C.P + r)).2.2.1 (Q (a * X.C.P + r)).2.2.2 0 ∧ d.size = X.C.Z ∧ X.C.pg a r = kp X.C.Z (tornP X.C.Z (d ++ s) kf.1 kf.2)
  rest : ∀ b p, b < X.C.B → p < X.C.P → (a < b ∨ (b = a ∧ r < p)) → X.C.pg b p = ⟨#[]⟩
theorem Says.same {C C' : Ch} {b p : Nat} {t : ByteArray} {K S I O W : Nat} (h : Says C b p t K S I O W) (e1 : C'.pg b p = C.pg b p) (e2 : C'.Z = C.Z) : Says C' b p t K S I O W := by
  obtain ⟨d, s, h1, h2, h3⟩ := h
  exact ⟨d, s, e1.trans h1, h2.trans e2.symm, h3⟩
def StQ (X : Wx) (K n I O : Nat) (s : ByteArray) (_pl er : Int) (Y : Wx) : Prop := er = 51 ∧ ∃ b X1 p, Tk X b X1 p ∧ Y = X1.prX b p K n I O s
theorem leave51 (X : Wx) (b : Nat) : X.leaveE b 51 = 51 := by unfold Wx.leaveE; rw [if_neg (by decide), if_neg (by decide)]
/-- one page more, whatever its tag, and wherever the power fails -/
theorem append_w {w : World} {A X} (h : Wtr w A X) (hT : Pg.Tab w) {D a r : Nat} {T : Nat → ByteArray} {Q : Nat → Tg} (hq : Sq D X a r T Q) (hab : a < X.C.B) (K n I O : Nat) (hQ : Q (a * X.C.P + r) = (K, n, I, O)) (hok : okT (K, n, I, O)) (s : ByteArray) (hss : T (a * X.C.P + r) = s) (hs : s.size ≤ X.C.Z)
    (At : Nat) (kf : Int × Int) (hc : ∀ i : Nat, X.C.cuts ((i : Int) + 1) = if i + D + 1 = At then some kf else none) (hf : ∀ i, X.C.fails i = false) (W0 : Int) :
    Calls Tryd.prog 28 #[.pointer (some ⟨A.a, 0, none⟩), Pg.tagV K n I O W0, .string s] w fun e w' => ∃ X' A', Wtr w' A' X' ∧ Nxt A A' X.C.B w w' ∧ Geq X' X ∧ X'.C.cuts = X.C.cuts ∧ X'.C.fails = X.C.fails ∧
      ((a * X.C.P + r + 1 ≠ At ∧ e = .returned (.tuple #[.int .i64 ((a * X.C.P + r : Nat) : Int), .int .i64 0]) ∧ ∃ a' r', a' * X.C.P + r' = a * X.C.P + r + 1 ∧ Sq D X' a' r' T Q) ∨ (a * X.C.P + r + 1 = At ∧ (∃ pl : Int, e = .returned (.tuple #[.int .i64 pl, .int .i64 51])) ∧ Stp X' a r T Q kf)) := by
  have hg := h.chip.geo
  have hr := hq.le
  have hdid := hq.did
  have hm := Lf.mul_range (a := (a : Int)) (b := (X.C.P : Int)) (A := 32) (B := 16) (by omega) (by omega)
  have ok := h.lif.ok
  have hok1 : Pg.mayB K I O ((0 : Nat) : Int) := hok.1
  have hok2 : n < 18446744073709551616 := hok.2
  obtain ⟨di, hdi⟩ := Int.eq_ofNat_of_zero_le h.chip.didr.1
  have hdn : di + D = a * X.C.P + r := by omega
  have hcd := hc di
  rw [← hdi, hdn] at hcd
  have hful : ¬ (X.o = -1 ∧ ∀ i, i < X.C.B → X.xs.getD i 0 ≠ 0) := by
    rintro ⟨h4, h5⟩
    have hx := hq.xs a hab
    rw [if_neg (by omega)] at hx
    by_cases h0 : 0 < r
    · rw [if_pos ⟨rfl, h0⟩] at hx
      have := (ok.opn a hab).1 hx
      omega
    · rw [if_neg (fun x => h0 x.2)] at hx
      exact h5 a hab hx
  have hdl : X.C.did < 900000 := by
    have h1 := hdid
    simp only [Int.natCast_add, Int.natCast_mul] at h1
    omega
  by_cases hcut : a * X.C.P + r + 1 = At
  · rw [if_pos hcut] at hcd
    have hb51 : ∀ b X1 p, Tk X b X1 p → Lf.Ok X.C.B X.C.P X.xs X.o X.nx → (X1.prE b p K n I O s = 51) ∧ b = a ∧ p = r ∧ r < X.C.P ∧ (X1.prX b p K n I O s).C = putPg { X.C with did := X.C.did + 1, off := true } a r (kp X.C.Z (tornP X.C.Z (frD X1 s ++ frS X1 b K n I O s) kf.1 kf.2)) ∧ Pg.Val (frD X1 s) (frS X1 b K n I O s) s K n I O 0 ∧ (frD X1 s).size = X.C.Z := by
      intro b X1 p ht ok
      obtain ⟨hab, rfl, rfl⟩ := hq.tk ok ht
      obtain ⟨hb, q, hqe, hqP, hde, hpg⟩ := hq.fin.tk ok ht
      obtain rfl : r = q := by omega
      obtain ⟨e1, e2, _⟩ := ht.C
      have hv := fr_val X1 b K n I O s hok1 (by rw [e2, hq.wz]; omega) (by rw [e1]; exact hq.fin.geo) hok2 (by rw [e1]; exact hs)
      have hp := pr_cut (C := X1.C) (b := b) (p := r) (d := frD X1 s) (s := frS X1 b K n I O s) (x := kf) (by rw [e1]; exact hq.fin.off) (by rw [e1]; exact hb) (by rw [e1]; exact hqP) hv.2.1 hv.2.2 (by rw [e1]; exact hpg) (by rw [e1]; exact hcd)
      have hv1 := hv.1
      rw [e2, hq.wz] at hv1
      refine ⟨by unfold Wx.prE; rw [hp], rfl, rfl, hqP, ?_, hv1, by rw [← e1]; exact hv.2.1⟩
      unfold Wx.prX
      rw [hp, ← e1]
    refine (append_any h hT (fun Y => Y = X) (StQ X K n I O s) K n I O W0 s rfl ⟨?_, ?_, ?_, ?_, ?_⟩).mono ?_
    · rintro Y rfl
      exact ⟨hdl, fun i _ => hq.fin.may hok1 i, hs, by rw [hq.bd]; simp⟩
    · rintro Y rfl _ h1 h2
      exact absurd ⟨h1, h2⟩ hful
    · rintro Y b X1 p rfl ok _ _ _ ht he
      rw [(hb51 b X1 p ht ok).1] at he
      exact absurd he (by decide)
    · rintro Y b X1 p rfl ok _ _ _ ht _ _
      rw [(hb51 b X1 p ht ok).1, leave51]
      exact ⟨rfl, b, X1, p, ht, rfl⟩
    · rintro Y b X1 p rfl ok _ _ _ ht _ he
      rw [(hb51 b X1 p ht ok).1, leave51] at he
      exact absurd he (by decide)
    · rintro e w' ⟨pl, er, X', A', rfl, ⟨rfl, b, X1, p, ht, rfl⟩, hg, hw, hN⟩
      obtain ⟨_, rfl, rfl, hrP, hC, hv, hfs⟩ := hb51 b X1 p ht ok
      refine ⟨_, A', hw, hN, hg, by rw [hC]; rfl, by rw [hC]; rfl, .inr ⟨hcut, ⟨pl, rfl⟩, ⟨by rw [hC]; rfl, by rw [hC]; exact ⟨hab, hrP⟩, fun i q hiq => ?_, ?_, fun i q hi hqP hiq => ?_⟩⟩⟩
      · rw [hC] at hiq ⊢
        exact (hq.says i q hiq).same (by rw [putPg_pg, if_neg (fun x => by omega)]) rfl
      · rw [hC]
        refine ⟨_, _, ?_, hfs, by rw [putPg_pg, if_pos ⟨rfl, rfl⟩]; rfl⟩
        show Pg.Val _ _ (T (b * X.C.P + r)) (Q (b * X.C.P + r)).1 (Q (b * X.C.P + r)).2.1 (Q (b * X.C.P + r)).2.2.1 (Q (b * X.C.P + r)).2.2.2 0
        rw [hss, hQ]
        exact hv
      · rw [hC] at hi hqP ⊢
        rw [putPg_pg, if_neg (fun x => by omega)]
        exact hq.rest hi hqP (by omega)
  · rw [if_neg hcut] at hcd
    refine (append_plain h hT hq.fin K n I O hok1 hok2 s hs hdl (by rw [hq.bd]; simp) hcd (hf _) W0).mono ?_
    rintro e w' ⟨pl, er, X', A', rfl, hp, hgq, hw, hN⟩
    rcases hp with ⟨_, _, _, h4, h5⟩ | ⟨b, X1, q, ht, hb, hqP, rfl, rfl, rfl⟩
    · exact absurd ⟨h4, h5⟩ hful
    · obtain ⟨_, rfl, hqr⟩ := hq.tk ok ht
      obtain rfl : q = r := by omega
      obtain ⟨e1, e2, e3⟩ := ht.C
      obtain ⟨a', r', h1, h2, h3, h4⟩ := hq.more ok (by rw [hQ]; exact hok) (by rw [hss]; exact hs) ht
      rw [hQ, hss] at h3
      refine ⟨_, A', hw, hN, hgq, ?_, ?_, .inl ⟨hcut, by simp only [Int.natCast_add, Int.natCast_mul], a', r', h1, h3⟩⟩
      · show X1.C.cuts = X.C.cuts; rw [e1]
      · show X1.C.fails = X.C.fails; rw [e1]
end Go.Proofs.YtbhggcleijjofaaDoor
