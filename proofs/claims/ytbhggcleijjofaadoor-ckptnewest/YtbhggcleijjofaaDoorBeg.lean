/-
  The walks of write.New, of Life, Worn, Bads, of nil writers; of the law's Begun and tag. No condition. The walk of the law's Begun: a chip to which that happens, and a writer of its pages. No condition.
-/
import Derived.Test.YtbhggcleijjofaaDoorApp
import Derived.Test.YtbhggcleijjofaaDoorRest
namespace Go.Proofs.YtbhggcleijjofaaDoor
open Go Go.RowKit

set_option maxRecDepth 100000

theorem wnew_any {w : World} {L : Ly} {C : Ch} {la lg : Nat} {xs : List Int} {o nx : Int} (hc : Chip w L C) (hl : Lf.Lif w la lg C.B C.P xs o nx) {l : List Int} {ad : Addr} (hr : Rds w (some ad) l) (hn : l.length = C.B) (cap lo : Nat) (h0 : 0 < lo)
    (hw : lo ≤ w.heap.size) (h1 : ∀ i, L.own C.B i → lo ≤ i) (h2 : ∀ i, Lf.ownL la lg i → lo ≤ i) (dis : ∀ i, L.own C.B i → ¬ Lf.ownL la lg i) :
    Calls Tryd.prog 22 #[.pointer (some ⟨L.a, 0, none⟩), .pointer (some ⟨la, 0, none⟩), .slice (some ad) l.length cap] w fun e w' => ∃ A : Wl, e = .returned (.tuple #[.pointer (some ⟨A.a, 0, none⟩), .int .i64 0]) ∧ Wtr w' A ⟨C, xs, o, nx, l, []⟩ ∧ Below w.heap.size w w' ∧ A.L = L ∧ A.la = la ∧ A.lo = lo := by
  have hge := Hid.mk (geom_any hc)
  have hg := hc.geo
  have hfd := fldB
  have hcl := Hid.mk (fun (w' : World) (b : Below w.heap.size w w') => clone_any (w := w') (a := ad) (l := l) (fun i hi => by
    obtain ⟨g, o, ha, hg, hx⟩ := hr i hi
    exact ⟨g, o, ha, Nat.lt_of_lt_of_le hg b.size, (b.cell (p := ⟨g, o + i, none⟩) hg).trans hx⟩) (by omega) cap)
  have H := Hid.mk (And.intro hc (And.intro hl (And.intro hn (And.intro h0 (And.intro hw (And.intro h1 (And.intro h2 dis)))))))
  obtain ⟨n, hn2⟩ : ∃ n, n = C.B := ⟨_, rfl⟩
  rw [← hn2] at hge
  rw [hn, ← hn2] at hcl ⊢
  clear hc hl hr hn hw h0 h1 h2 dis hg
  have HN := Hid.mk hn2
  clear hn2
  go_enter Tryd.func22, Tryd.ntmps22
  go_wp2_with (first
    | (go_at_call 9; refine hge.out.mono ?_; rintro e w1 ⟨rfl, b1⟩)
    | (go_at_call 38; refine (hcl.out _ b1).mono ?_; rintro e w2 ⟨v, rfl, hv, b2⟩; obtain ⟨va, vn, vc, rfl⟩ := hv.form3))
  go_ret2
  obtain ⟨hc, hl, hn, h0, hw, h1, h2, dis⟩ := H.out
  have b3 := below3 b1 b2
  have b4 := b3.alloc b3.size (.cells #[.pointer (some ⟨L.a, 0, none⟩), .pointer (some ⟨la, 0, none⟩), .slice va vn vc, .slice none 0 0] 89)
  have hvl := We.Ow.lt hv
  have q2 : ∀ i, i < w.heap.size → (Value.slice va vn vc).ownBlock ≠ some i := fun i hi e => by
    have := hvl i e
    have := b1.size
    omega
  refine ⟨⟨lo, w2.heap.size, L, la, lg, .slice va vn vc, .slice none 0 0⟩, rfl, ⟨heap_alloc_new w2 _, hc.call b4, hl.call b4, ?_, hn, Ints.nil _ _, ?_, h0, ?_, ?_, ?_, ?_, ?_⟩, b4, rfl, rfl, rfl⟩
  · exact (We.Ow.lower hv (Nat.le_trans hw b1.size)).alloc _
  · rintro i (rfl | hi | hi | hi | hi)
    · exact Nat.le_trans hw b3.size
    · exact h1 i hi
    · exact h2 i hi
    · exact Nat.le_trans hw (Nat.le_trans b1.size (hvl i hi).1)
    · cases hi
  · intro i hi
    have := hc.lt hi
    exact ⟨by have := b3.size; show i ≠ w2.heap.size; omega, dis i hi, q2 i this, by show (none : Option Nat) ≠ some i; simp⟩
  · intro i hi
    have := hl.lt i hi
    exact ⟨by have := b3.size; show i ≠ w2.heap.size; omega, q2 i this, by show (none : Option Nat) ≠ some i; simp⟩
  · intro e
    have := (hvl _ e).2
    simp at this
  · show (none : Option Nat) ≠ some _; simp
  · intro i _
    show (none : Option Nat) ≠ some _; simp
/- no writer -/
theorem wears_nil (v : Value) (w : World) : Calls Tryd.prog 63 #[.pointer none, v] w fun e w' => e = .returned (.slice none 0 0) ∧ w' = w := by
  go_enter Tryd.func63, Tryd.ntmps63
  go_wp2
  go_ret
  exact ⟨rfl, rfl⟩
theorem hasB_nil (b : Int) (w : World) : Calls Tryd.prog 67 #[.pointer none, .int .i64 b] w fun e w' => e = .returned (.bool false) ∧ w' = w := by
  go_enter Tryd.func67, Tryd.ntmps67
  go_wp2
  go_ret
  exact ⟨rfl, rfl⟩
theorem append_nil (K S I O W : Int) (s : ByteArray) (w : World) : Calls Tryd.prog 28 #[.pointer none, Pg.tagV K S I O W, .string s] w fun e w' => e = .returned (.tuple #[.int .i64 0, .int .i64 1]) ∧ Below w.heap.size w w' := by
  unfold Pg.tagV
  go_enter Tryd.func28, Tryd.ntmps28
  go_wp2
  go_ret2
  exact ⟨rfl, (Below.refl w.heap.size w).alloc (Nat.le_refl _) _⟩
theorem wnew_nil1 (p v : Value) (w : World) : Calls Tryd.prog 22 #[.pointer none, p, v] w fun e w' => e = .returned (.tuple #[.pointer none, .int .i64 1]) ∧ w' = w := by
  go_enter Tryd.func22, Tryd.ntmps22
  go_wp2
  go_ret2
  exact ⟨rfl, rfl⟩
theorem wnew_nil2 (a : Nat) (v : Value) (w : World) : Calls Tryd.prog 22 #[.pointer (some ⟨a, 0, none⟩), .pointer none, v] w fun e w' => e = .returned (.tuple #[.pointer none, .int .i64 1]) ∧ w' = w := by
  go_enter Tryd.func22, Tryd.ntmps22
  go_wp2
  go_ret2
  exact ⟨rfl, rfl⟩
theorem wnew_few {w : World} {L : Ly} {C : Ch} (hc : Chip w L C) (la n cap : Nat) (ad : Option Addr) (hn : n < 8) :
    Calls Tryd.prog 22 #[.pointer (some ⟨L.a, 0, none⟩), .pointer (some ⟨la, 0, none⟩), .slice ad n cap] w fun e w' => e = .returned (.tuple #[.pointer none, .int .i64 1]) ∧ Below w.heap.size w w' := by
  have hge := Hid.mk (geom_any hc)
  have hg := hc.geo
  have hfd := fldB
  have hne : ¬ (n : Int) = C.B := by omega
  clear hc hg
  go_enter Tryd.func22, Tryd.ntmps22
  go_wp2_with (first
    | (go_at_call 9; refine hge.out.mono ?_; rintro e w1 ⟨rfl, b1⟩))
  go_ret2
  exact ⟨rfl, b1⟩
set_option maxRecDepth 100000

/-- an address of any kind -/
def Pln (a : Option Addr) : Prop := a = a ∨ ∃ g o, a = some ⟨g, o, none⟩
theorem cut_to {t e sz : Nat} (ht : Tryd.prog.underlying t = some (.slice e)) (hz : ∀ w, (Go.sizeOf e).run Tryd.prog w = .ok sz w) {a : Option Addr} (_ha : Pln a) (n cap m : Nat) (hm : m ≤ cap) (w : World) :
    (Instr.slice t (.slice a n cap) none (some (.int .i64 (m : Int))) none).run Tryd.prog w = .ok (.slice a m cap) w := by
  have ht' : Tryd.prog.underlying t = some (.slice (Tryd.prog.elem t)) := by simp [Program.elem, ht]
  have he : Tryd.prog.elem t = e := by simp [Program.elem, ht]
  rw [run_slice_h w t _ _ _ ht' .i64 _ (by omega) (by omega), he, hz]
  cases a
  · simp [Result.andThen, sliced]
  · simp [Result.andThen, sliced, Addr.add]
theorem size64 (w : World) : (Go.sizeOf 61).run Tryd.prog w = .ok 3 w := by kernel_rfl
theorem size3 (w : World) : (Go.sizeOf 3).run Tryd.prog w = .ok 1 w := by kernel_rfl
/-- the writer at its beginning -/
def begX (b p z : Nat) (cl : List (Int × Int × Int)) (fl : List Int) : Wx := ⟨begC b p z cl fl [], List.replicate b 0, -1, 0, List.replicate b 0, []⟩
/-- what Begun answers -/
structure Begd (w : World) (cl : List (Int × Int × Int)) (fl : List Int) (b p z : Nat) (A : Wl) (w' : World) : Prop where
  wtr : Wtr w' A (begX b p z cl fl)
  below : Below w.heap.size w w'
  lo : A.lo = w.heap.size
  geo : 8 ≤ b ∧ b ≤ 15 ∧ 4 ≤ p ∧ p ≤ 11 ∧ 64 ≤ z ∧ z ≤ 127
theorem CutsAt.take {w : World} {S a cl} (h : CutsAt w S a cl) (m : Nat) : CutsAt w S a (cl.take m) := by
  intro i hi
  rw [List.length_take] at hi
  have e : (cl.take m).getD i (0, 0, 0) = cl.getD i (0, 0, 0) := by simp [List.getD_eq_getElem?_getD, show i < m by omega]
  rw [e]
  exact h i (by omega)
theorem IntsAt.take {w : World} {S a l} (h : IntsAt w S a l) (m : Nat) : IntsAt w S a (l.take m) := by
  intro i hi
  rw [List.length_take] at hi
  have e : (l.take m).getD i 0 = l.getD i 0 := by simp [List.getD_eq_getElem?_getD, show i < m by omega]
  rw [e]
  exact h i (by omega)
theorem beg_keep {W w0 w3 : World} {G F b p z n cc m fc : Nat} {ca fa : Option Addr} (h : w0.cell? ⟨G, 0, none⟩ = some (.int .i64 b) ∧ w0.cell? ⟨G, 1, none⟩ = some (.int .i64 p) ∧ w0.cell? ⟨G, 2, none⟩ = some (.int .i64 z) ∧ w0.cell? ⟨F, 0, none⟩ = some (.slice ca n cc) ∧ w0.cell? ⟨F, 1, none⟩ = some (.slice fa m fc) ∧ Below W.heap.size W w0) (k : Below w0.heap.size w0 w3) :
    w3.cell? ⟨G, 0, none⟩ = some (.int .i64 b) ∧ w3.cell? ⟨G, 1, none⟩ = some (.int .i64 p) ∧ w3.cell? ⟨G, 2, none⟩ = some (.int .i64 z) ∧ w3.cell? ⟨F, 0, none⟩ = some (.slice ca n cc) ∧ w3.cell? ⟨F, 1, none⟩ = some (.slice fa m fc) ∧ Below W.heap.size W w3 := by
  obtain ⟨h0, h1, h2, h3, h4, h5⟩ := h
  have lt : ∀ {a : Addr} {v : Value}, w0.cell? a = some v → a.block < w0.heap.size := fun {a v} e => World.block_lt_of_cell? w0 a e
  exact ⟨(k.cell (lt h0)).trans h0, (k.cell (lt h1)).trans h1, (k.cell (lt h2)).trans h2, (k.cell (lt h3)).trans h3, (k.cell (lt h4)).trans h4, below3 h5 k⟩
/-- a chip and a Life behind it: a writer of both -/
theorem wnew_go {w W w3 w4 : World} {L : Ly} {b p z la lg : Nat} {cl : List (Int × Int × Int)} {fl : List Int} (h3 : Chip w3 L (begC b p z cl fl [])) (h4 : Lf.Lif w4 la lg b p (List.replicate b 0) (-1) 0) (b4 : Below w3.heap.size w3 w4) (bW : Below w.heap.size w W) (b3 : Below W.heap.size W w3) (hg : 8 ≤ b ∧ b ≤ 15 ∧ 4 ≤ p ∧ p ≤ 11 ∧ 64 ≤ z ∧ z ≤ 127)
    (o3 : ∀ i, L.own b i → w.heap.size ≤ i) (o4 : ∀ i, Lf.ownL la lg i → w3.heap.size ≤ i) (h0 : 0 < w.heap.size) :
    Calls Tryd.prog 22 #[.pointer (some ⟨L.a, 0, none⟩), .pointer (some ⟨la, 0, none⟩), .slice (some ⟨w4.heap.size, 0, none⟩) b b] (w4.alloc (.cells (cellsOf .i64 (List.replicate b 0)) 3)) fun e w' => ∃ A : Wl, e = .returned (.tuple #[.pointer (some ⟨A.a, 0, none⟩), .int .i64 0]) ∧ A.L = L ∧ Begd w cl fl b p z A w' := by
  have bb := below3 (below3 bW b3) b4
  have hb5 := bb.alloc bb.size (.cells (cellsOf .i64 (List.replicate b 0)) 3)
  have hr : Rds (w4.alloc (.cells (cellsOf .i64 (List.replicate b 0)) 3)) (some ⟨w4.heap.size, 0, none⟩) (List.replicate b (0 : Int)) := fun i hi => ⟨_, 0, rfl, by rw [size_alloc]; omega, by rw [Nat.zero_add]; exact (Row.fresh w4 3 .i64 (List.replicate b 0)).cell i hi⟩
  have hn := wnew_any (lo := w.heap.size) ((h3.call b4).alloc (.cells (cellsOf .i64 (List.replicate b 0)) 3)) (h4.call ((Below.refl _ w4).alloc (Nat.le_refl _) (.cells (cellsOf .i64 (List.replicate b 0)) 3))) hr (by rw [List.length_replicate]; rfl) b h0 hb5.size o3 (fun i hi => Nat.le_trans (below3 bW b3).size (o4 i hi)) (fun i hi hx => by have := o4 i hx; have := h3.lt hi; omega)
  rw [List.length_replicate] at hn
  refine hn.mono ?_
  rintro e w' ⟨A, rfl, q1, q2, q3, q4, q5⟩
  exact ⟨A, rfl, q3, q1, below3 hb5 q2, q5, hg⟩
set_option maxHeartbeats 1000000 in
theorem begun_any (B0 P0 Z0 : Int) (ca fa : Option Addr) (cl : List (Int × Int × Int)) (fl : List Int) (cc fc : Nat) (w : World) (hw0 : 0 < w.heap.size) (hc : CutsAt w (fun _ => False) ca cl) (hf : IntsAt w (fun _ => False) fa fl) (pc : Pln ca) (pf : Pln fa)
    (hcc : cl.length ≤ cc) (hfc : fl.length ≤ fc) (hwc : ∀ x ∈ cl, (Lit.int .i64 x.1).wf = true ∧ 0 ≤ x.2.2 ∧ x.2.2 < 256) (hwf : ∀ x ∈ fl, (Lit.int .i64 x).wf = true) :
    Calls Tryd.prog 6 #[.agg #[.int .i64 B0, .int .i64 P0, .int .i64 Z0], .agg #[.slice ca cl.length cc, .slice fa fl.length fc, .slice none 0 0]] w fun e w' =>
      ∃ b p z A, e = .returned (.tuple #[.pointer (some ⟨A.L.a, 0, none⟩), .pointer (some ⟨A.a, 0, none⟩), .bool true]) ∧ Begd w (cl.take 8) (fl.take 8) b p z A w' := by
  have hge := Hid.mk (fun w => geo_any B0 P0 Z0 w)
  have lc : (cl.take 8).length = min cl.length 8 := by rw [List.length_take, Nat.min_comm]
  have lf : (fl.take 8).length = min fl.length 8 := by rw [List.length_take, Nat.min_comm]
  obtain ⟨n, hn⟩ : ∃ n, n = cl.length := ⟨_, rfl⟩
  obtain ⟨m, hm⟩ : ∃ m, m = fl.length := ⟨_, rfl⟩
  obtain ⟨n8, hn8⟩ : ∃ k : Nat, k = min n 8 := ⟨_, rfl⟩
  obtain ⟨m8, hm8⟩ : ∃ k : Nat, k = min m 8 := ⟨_, rfl⟩
  rw [← hn] at lc hcc ⊢
  rw [← hm] at lf hfc ⊢
  rw [← hn8] at lc
  rw [← hm8] at lf
  have mn : min (n : Int) 8 = (n8 : Int) := by omega
  have mm : min (m : Int) 8 = (m8 : Int) := by omega
  have s1 := cut_to Tryd.underlying30 size64 pc n cc n8 (by omega)
  have s2 := cut_to Tryd.underlying31 size3 pf m fc m8 (by omega)
  have HN := Hid.mk (fun (W : World) (bW : Below w.heap.size w W) (b p z : Nat) (hg : 8 ≤ b ∧ b ≤ 15 ∧ 4 ≤ p ∧ p ≤ 11 ∧ 64 ≤ z ∧ z ≤ 127) => new_any b p z (by omega) ca fa none (cl.take 8) (fl.take 8) [] cc fc 0 W
    ((hc.take 8).kept (Kp.ofBelow bW)) ((hf.take 8).kept (Kp.ofBelow bW)) (fun i hi => by simp at hi) (by omega) (by omega) (by simp) (fun x hx => hwc x (List.mem_of_mem_take hx)) (fun x hx => hwf x (List.mem_of_mem_take hx)))
  rw [lc, lf] at HN
  have B0' := below_two w (.cells #[.int .i64 B0, .int .i64 P0, .int .i64 Z0] 29) (.cells #[.slice ca n cc, .slice fa m fc, .slice none 0 0] 33)
  have hr := heap_alloc_new (w.alloc (.cells #[.int .i64 B0, .int .i64 P0, .int .i64 Z0] 29)) (.cells #[.slice ca n cc, .slice fa m fc, .slice none 0 0] 33)
  rw [size_alloc] at hr
  have HB := Hid.mk (And.intro B0' (And.intro hr hw0))
  clear hc hf pc pf hwc hwf lc lf hcc hfc hn hm hn8 hm8 B0' hr hw0
  go_enter Tryd.func6, Tryd.ntmps6
  go_upto_region 2 with (first
    | (go_at_call 19; refine (hge.out _).mono ?_; rintro e w1 ⟨b, p, z, rfl, hg, b1⟩))
  have bW := (below3 HB.out.1 b1).alloc (below3 HB.out.1 b1).size (.cells #[.int .i64 b, .int .i64 p, .int .i64 z] 29)
  have hG := heap_alloc_new w1 (.cells #[.int .i64 b, .int .i64 p, .int .i64 z] 29)
  have hF : (w1.alloc (.cells #[.int .i64 b, .int .i64 p, .int .i64 z] 29)).heap[w.heap.size + 1]? = some (.cells #[.slice ca n cc, .slice fa m fc, .slice none 0 0] 33 (0, 0)) := by
    have hl := (Array.getElem?_eq_some_iff.1 HB.out.2.1).1
    exact ((Below.heap_alloc w1 _ _ (Nat.lt_of_lt_of_le hl b1.size)).trans (b1.block _ hl)).trans HB.out.2.1
  have g0 := cell_of_row _ _ 0 _ 29 _ hG
  have g1 := cell_of_row _ _ 1 _ 29 _ hG
  have g2 := cell_of_row _ _ 2 _ 29 _ hG
  have f0 := cell_of_row _ _ 0 _ 33 _ hF
  have f1 := cell_of_row _ _ 1 _ 33 _ hF
  replace g0 : (w1.alloc (.cells #[.int .i64 b, .int .i64 p, .int .i64 z] 29)).cell? ⟨w1.heap.size, 0, none⟩ = some (.int .i64 b) := g0
  replace g1 : (w1.alloc (.cells #[.int .i64 b, .int .i64 p, .int .i64 z] 29)).cell? ⟨w1.heap.size, 1, none⟩ = some (.int .i64 p) := g1
  replace g2 : (w1.alloc (.cells #[.int .i64 b, .int .i64 p, .int .i64 z] 29)).cell? ⟨w1.heap.size, 2, none⟩ = some (.int .i64 z) := g2
  replace f0 : (w1.alloc (.cells #[.int .i64 b, .int .i64 p, .int .i64 z] 29)).cell? ⟨w.heap.size + 1, 0, none⟩ = some (.slice ca n cc) := f0
  replace f1 : (w1.alloc (.cells #[.int .i64 b, .int .i64 p, .int .i64 z] 29)).cell? ⟨w.heap.size + 1, 1, none⟩ = some (.slice fa m fc) := f1
  have h00 := Hid.mk HB.out.2.2
  have BW := Hid.mk (And.intro bW (And.intro hG hg))
  have hGl := (Array.getElem?_eq_some_iff.1 hG).1
  clear b1 bW hF hG HB hge
  generalize w1.alloc (.cells #[.int .i64 b, .int .i64 p, .int .i64 z] 29) = W at *
  generalize w1.heap.size = G at *
  have hS0 : Hid (W.drew.cell? ⟨G, 0, none⟩ = some (.int .i64 b) ∧ W.drew.cell? ⟨G, 1, none⟩ = some (.int .i64 p) ∧ W.drew.cell? ⟨G, 2, none⟩ = some (.int .i64 z) ∧ W.drew.cell? ⟨w.heap.size + 1, 0, none⟩ = some (.slice ca n cc) ∧ W.drew.cell? ⟨w.heap.size + 1, 1, none⟩ = some (.slice fa m fc) ∧ Below W.heap.size W W.drew) := ⟨g0, g1, g2, f0, f1, (Below.refl _ W).drew⟩
  clear g0 g1 g2 f0 f1
  refine wp_region_held_drew (S := fun w' => w'.cell? ⟨G, 0, none⟩ = some (.int .i64 b) ∧ w'.cell? ⟨G, 1, none⟩ = some (.int .i64 p) ∧ w'.cell? ⟨G, 2, none⟩ = some (.int .i64 z) ∧ w'.cell? ⟨w.heap.size + 1, 0, none⟩ = some (.slice ca n cc) ∧ w'.cell? ⟨w.heap.size + 1, 1, none⟩ = some (.slice fa m fc) ∧ Below W.heap.size W w') (by kernel_rfl) hS0.out (fun hHeld => ?_)
  refine wpAnyH_take (i := 0) (oi := { dst := some 15, op := Op.load 29 (Operand.tmp 7), type := 29, pos := "law.go:15", after := #[], guard := none }) (v := ?vv0) rfl (by kernel_rfl) (by kernel_rfl) (by kernel_rfl) (fun _ _ _ h => h) (Or.inl ⟨by rfl, ?yy0⟩) hHeld ?rr0
  case yy0 => (intro w0 hSw; obtain ⟨s0, s1, s2, s3, s4, s5⟩ := hSw; go_simp; try with_reducible rfl)
  try simp only [Act.put, List.setIfInBounds_toArray, List.set_cons_zero, List.set_cons_succ]
  refine wpAnyH_take (i := 1) (oi := { dst := some 16, op := Op.fieldAddr 33 (Operand.tmp 3) 0, type := 0, pos := "law.go:15", after := #[], guard := none }) (v := ?vv1) rfl (by kernel_rfl) (by kernel_rfl) (by kernel_rfl) (fun _ _ _ h => h) (Or.inl ⟨by rfl, ?yy1⟩) hHeld ?rr1
  case yy1 => (intro w0 hSw; obtain ⟨s0, s1, s2, s3, s4, s5⟩ := hSw; go_simp; try with_reducible rfl)
  try simp only [Act.put, List.setIfInBounds_toArray, List.set_cons_zero, List.set_cons_succ]
  refine wpAnyH_take (i := 2) (oi := { dst := some 17, op := Op.load 30 (Operand.tmp 16), type := 30, pos := "law.go:15", after := #[{ on := 1, ground := Ground.data }], guard := none }) (v := ?vv2) rfl (by kernel_rfl) (by kernel_rfl) (by kernel_rfl) (fun _ _ _ h => h) (Or.inl ⟨by rfl, ?yy2⟩) hHeld ?rr2
  case yy2 => (intro w0 hSw; obtain ⟨s0, s1, s2, s3, s4, s5⟩ := hSw; go_simp; try with_reducible rfl)
  try simp only [Act.put, List.setIfInBounds_toArray, List.set_cons_zero, List.set_cons_succ]
  refine wpAnyH_take (i := 3) (oi := { dst := some 18, op := Op.fieldAddr 33 (Operand.tmp 3) 0, type := 0, pos := "law.go:15", after := #[], guard := none }) (v := ?vv3) rfl (by kernel_rfl) (by kernel_rfl) (by kernel_rfl) (fun _ _ _ h => h) (Or.inl ⟨by rfl, ?yy3⟩) hHeld ?rr3
  case yy3 => (intro w0 hSw; obtain ⟨s0, s1, s2, s3, s4, s5⟩ := hSw; go_simp; try with_reducible rfl)
  try simp only [Act.put, List.setIfInBounds_toArray, List.set_cons_zero, List.set_cons_succ]
  refine wpAnyH_take (i := 4) (oi := { dst := some 19, op := Op.load 30 (Operand.tmp 18), type := 30, pos := "law.go:15", after := #[{ on := 3, ground := Ground.data }], guard := none }) (v := ?vv4) rfl (by kernel_rfl) (by kernel_rfl) (by kernel_rfl) (fun _ _ _ h => h) (Or.inl ⟨by rfl, ?yy4⟩) hHeld ?rr4
  case yy4 => (intro w0 hSw; obtain ⟨s0, s1, s2, s3, s4, s5⟩ := hSw; go_simp; try with_reducible rfl)
  try simp only [Act.put, List.setIfInBounds_toArray, List.set_cons_zero, List.set_cons_succ]
  refine wpAnyH_take (i := 5) (oi := { dst := some 20, op := Op.call { callee := Callee.builtin Builtin.len, args := #[Operand.tmp 19], argTypes := #[30] }, type := 3, pos := "law.go:15", after := #[{ on := 4, ground := Ground.data }], guard := none }) (v := ?vv5) rfl (by kernel_rfl) (by kernel_rfl) (by kernel_rfl) (fun _ _ _ h => h) (Or.inl ⟨by rfl, ?yy5⟩) hHeld ?rr5
  case yy5 => (intro w0 hSw; obtain ⟨s0, s1, s2, s3, s4, s5⟩ := hSw; go_simp; try with_reducible rfl)
  try simp only [Act.put, List.setIfInBounds_toArray, List.set_cons_zero, List.set_cons_succ]
  refine wpAnyH_take (i := 6) (oi := { dst := some 21, op := Op.call { callee := Callee.builtin Builtin.min, args := #[Operand.tmp 20, Operand.const (Value.int IntKind.i64 8)], argTypes := #[3, 3] }, type := 3, pos := "law.go:15", after := #[{ on := 5, ground := Ground.data }], guard := none }) (v := ?vv6) rfl (by kernel_rfl) (by kernel_rfl) (by kernel_rfl) (fun _ _ _ h => h) (Or.inl ⟨by rfl, ?yy6⟩) hHeld ?rr6
  case yy6 => (intro w0 hSw; obtain ⟨s0, s1, s2, s3, s4, s5⟩ := hSw; go_simp; try with_reducible rfl)
  try simp only [Act.put, List.setIfInBounds_toArray, List.set_cons_zero, List.set_cons_succ]
  refine wpAnyH_take (i := 7) (oi := { dst := some 22, op := Op.slice 30 (Operand.tmp 17) none (some (Operand.tmp 21)) none, type := 30, pos := "law.go:15", after := #[{ on := 2, ground := Ground.data }, { on := 6, ground := Ground.data }], guard := none }) (v := ?vv7) rfl (by kernel_rfl) (by kernel_rfl) (by kernel_rfl) (fun _ _ _ h => h) (Or.inl ⟨by rfl, ?yy7⟩) hHeld ?rr7
  case yy7 => (intro w0 hSw; obtain ⟨s0, s1, s2, s3, s4, s5⟩ := hSw; go_simp; try with_reducible rfl)
  try simp only [Act.put, List.setIfInBounds_toArray, List.set_cons_zero, List.set_cons_succ]
  refine wpAnyH_take (i := 8) (oi := { dst := some 23, op := Op.fieldAddr 33 (Operand.tmp 3) 1, type := 0, pos := "law.go:15", after := #[], guard := none }) (v := ?vv8) rfl (by kernel_rfl) (by kernel_rfl) (by kernel_rfl) (fun _ _ _ h => h) (Or.inl ⟨by rfl, ?yy8⟩) hHeld ?rr8
  case yy8 => (intro w0 hSw; obtain ⟨s0, s1, s2, s3, s4, s5⟩ := hSw; go_simp; try with_reducible rfl)
  try simp only [Act.put, List.setIfInBounds_toArray, List.set_cons_zero, List.set_cons_succ]
  refine wpAnyH_take (i := 9) (oi := { dst := some 24, op := Op.load 31 (Operand.tmp 23), type := 31, pos := "law.go:15", after := #[{ on := 8, ground := Ground.data }], guard := none }) (v := ?vv9) rfl (by kernel_rfl) (by kernel_rfl) (by kernel_rfl) (fun _ _ _ h => h) (Or.inl ⟨by rfl, ?yy9⟩) hHeld ?rr9
  case yy9 => (intro w0 hSw; obtain ⟨s0, s1, s2, s3, s4, s5⟩ := hSw; go_simp; try with_reducible rfl)
  try simp only [Act.put, List.setIfInBounds_toArray, List.set_cons_zero, List.set_cons_succ]
  refine wpAnyH_take (i := 10) (oi := { dst := some 25, op := Op.fieldAddr 33 (Operand.tmp 3) 1, type := 0, pos := "law.go:15", after := #[], guard := none }) (v := ?vv10) rfl (by kernel_rfl) (by kernel_rfl) (by kernel_rfl) (fun _ _ _ h => h) (Or.inl ⟨by rfl, ?yy10⟩) hHeld ?rr10
  case yy10 => (intro w0 hSw; obtain ⟨s0, s1, s2, s3, s4, s5⟩ := hSw; go_simp; try with_reducible rfl)
  try simp only [Act.put, List.setIfInBounds_toArray, List.set_cons_zero, List.set_cons_succ]
  refine wpAnyH_take (i := 11) (oi := { dst := some 26, op := Op.load 31 (Operand.tmp 25), type := 31, pos := "law.go:15", after := #[{ on := 10, ground := Ground.data }], guard := none }) (v := ?vv11) rfl (by kernel_rfl) (by kernel_rfl) (by kernel_rfl) (fun _ _ _ h => h) (Or.inl ⟨by rfl, ?yy11⟩) hHeld ?rr11
  case yy11 => (intro w0 hSw; obtain ⟨s0, s1, s2, s3, s4, s5⟩ := hSw; go_simp; try with_reducible rfl)
  try simp only [Act.put, List.setIfInBounds_toArray, List.set_cons_zero, List.set_cons_succ]
  refine wpAnyH_take (i := 12) (oi := { dst := some 27, op := Op.call { callee := Callee.builtin Builtin.len, args := #[Operand.tmp 26], argTypes := #[31] }, type := 3, pos := "law.go:15", after := #[{ on := 11, ground := Ground.data }], guard := none }) (v := ?vv12) rfl (by kernel_rfl) (by kernel_rfl) (by kernel_rfl) (fun _ _ _ h => h) (Or.inl ⟨by rfl, ?yy12⟩) hHeld ?rr12
  case yy12 => (intro w0 hSw; obtain ⟨s0, s1, s2, s3, s4, s5⟩ := hSw; go_simp; try with_reducible rfl)
  try simp only [Act.put, List.setIfInBounds_toArray, List.set_cons_zero, List.set_cons_succ]
  refine wpAnyH_take (i := 13) (oi := { dst := some 28, op := Op.call { callee := Callee.builtin Builtin.min, args := #[Operand.tmp 27, Operand.const (Value.int IntKind.i64 8)], argTypes := #[3, 3] }, type := 3, pos := "law.go:15", after := #[{ on := 12, ground := Ground.data }], guard := none }) (v := ?vv13) rfl (by kernel_rfl) (by kernel_rfl) (by kernel_rfl) (fun _ _ _ h => h) (Or.inl ⟨by rfl, ?yy13⟩) hHeld ?rr13
  case yy13 => (intro w0 hSw; obtain ⟨s0, s1, s2, s3, s4, s5⟩ := hSw; go_simp; try with_reducible rfl)
  try simp only [Act.put, List.setIfInBounds_toArray, List.set_cons_zero, List.set_cons_succ]
  refine wpAnyH_take (i := 14) (oi := { dst := some 29, op := Op.slice 31 (Operand.tmp 24) none (some (Operand.tmp 28)) none, type := 31, pos := "law.go:15", after := #[{ on := 9, ground := Ground.data }, { on := 13, ground := Ground.data }], guard := none }) (v := ?vv14) rfl (by kernel_rfl) (by kernel_rfl) (by kernel_rfl) (fun _ _ _ h => h) (Or.inl ⟨by rfl, ?yy14⟩) hHeld ?rr14
  case yy14 => (intro w0 hSw; obtain ⟨s0, s1, s2, s3, s4, s5⟩ := hSw; go_simp; try with_reducible rfl)
  try simp only [Act.put, List.setIfInBounds_toArray, List.set_cons_zero, List.set_cons_succ]
  refine wpAnyH_take (i := 15) (oi := { dst := some 30, op := Op.build 33 #[(0, Operand.tmp 22), (1, Operand.tmp 29)], type := 33, pos := "law.go:15", after := #[{ on := 7, ground := Ground.data }, { on := 14, ground := Ground.data }], guard := none }) (v := ?vv15) rfl (by kernel_rfl) (by kernel_rfl) (by kernel_rfl) (fun _ _ _ h => h) (Or.inl ⟨by rfl, ?yy15⟩) hHeld ?rr15
  case yy15 => (intro w0 hSw; obtain ⟨s0, s1, s2, s3, s4, s5⟩ := hSw; go_simp; try with_reducible rfl)
  try simp only [Act.put, List.setIfInBounds_toArray, List.set_cons_zero, List.set_cons_succ]
  refine wpAnyH_ready (rs := [16]) (by kernel_rfl) (by simp) ?_
  refine AllReadyH.cons (o := { dst := some 31, op := Op.call { callee := Callee.value (Operand.func 20), args := #[Operand.tmp 15, Operand.tmp 30], argTypes := #[29, 33] }, type := 66, pos := "law.go:15", after := #[{ on := 0, ground := Ground.data }, { on := 15, ground := Ground.data }], guard := none }) rfl (fun K hK => ?_) AllReadyH.nil
  go_simp
  go_at_call 20
  refine (HN.out _ (below3 BW.out.1 hHeld.2.2.2.2.2) b p z BW.out.2.2).mono ?_
  rintro e w3 ⟨L, rfl, h3, b3, hL⟩
  have hH3 := Hid.mk (beg_keep hHeld b3)
  have hL2 : ∀ i, L.own b i → w.heap.size ≤ i := fun i hi => Nat.le_trans (below3 BW.out.1 hHeld.2.2.2.2.2).size (Nat.le_of_lt (hL i hi))
  clear hHeld hL
  refine hK.out _ _ hH3.out (fun hHeld => ?_)
  clear hK K
  try simp only [Act.put, List.setIfInBounds_toArray, List.set_cons_zero, List.set_cons_succ]
  refine wpAnyH_take (i := 17) (oi := { dst := some 14, op := Op.move (Operand.tmp 31), type := 66, pos := "law.go:15", after := #[{ on := 16, ground := Ground.data }], guard := none }) (v := ?vv17) rfl (by kernel_rfl) (by kernel_rfl) (by kernel_rfl) (fun _ _ _ h => h) (Or.inl ⟨by rfl, ?yy17⟩) hHeld ?rr17
  case yy17 => (intro w0 hSw; obtain ⟨s0, s1, s2, s3, s4, s5⟩ := hSw; go_simp; try with_reducible rfl)
  try simp only [Act.put, List.setIfInBounds_toArray, List.set_cons_zero, List.set_cons_succ]
  refine wpAnyH_take (i := 18) (oi := { dst := some 32, op := Op.extract (Operand.tmp 14) 0, type := 24, pos := "law.go:15", after := #[{ on := 17, ground := Ground.data }], guard := none }) (v := ?vv18) rfl (by kernel_rfl) (by kernel_rfl) (by kernel_rfl) (fun _ _ _ h => h) (Or.inl ⟨by rfl, ?yy18⟩) hHeld ?rr18
  case yy18 => (intro w0 hSw; obtain ⟨s0, s1, s2, s3, s4, s5⟩ := hSw; go_simp; try with_reducible rfl)
  try simp only [Act.put, List.setIfInBounds_toArray, List.set_cons_zero, List.set_cons_succ]
  refine wpAnyH_take (i := 19) (oi := { dst := some 33, op := Op.extract (Operand.tmp 14) 1, type := 39, pos := "law.go:15", after := #[{ on := 17, ground := Ground.data }, { on := 20, ground := Ground.gcOnly Departure.lateStores }], guard := none }) (v := ?vv19) rfl (by kernel_rfl) (by kernel_rfl) (by kernel_rfl) (fun _ _ _ h => h) (Or.inl ⟨by rfl, ?yy19⟩) hHeld ?rr19
  case yy19 => (intro w0 hSw; obtain ⟨s0, s1, s2, s3, s4, s5⟩ := hSw; go_simp; try with_reducible rfl)
  try simp only [Act.put, List.setIfInBounds_toArray, List.set_cons_zero, List.set_cons_succ]
  refine wpAnyH_take (i := 20) (oi := { dst := some 4, op := Op.assign (Operand.tmp 32), type := 24, pos := "law.go:15", after := #[{ on := 18, ground := Ground.data }, { on := 16, ground := Ground.chain }, { on := 0, ground := Ground.phase }, { on := 1, ground := Ground.phase }, { on := 2, ground := Ground.phase }, { on := 3, ground := Ground.phase }, { on := 4, ground := Ground.phase }, { on := 5, ground := Ground.phase }, { on := 6, ground := Ground.phase }, { on := 7, ground := Ground.phase }, { on := 8, ground := Ground.phase }, { on := 9, ground := Ground.phase }, { on := 10, ground := Ground.phase }, { on := 11, ground := Ground.phase }, { on := 12, ground := Ground.phase }, { on := 13, ground := Ground.phase }, { on := 14, ground := Ground.phase }, { on := 15, ground := Ground.phase }, { on := 16, ground := Ground.phase }, { on := 17, ground := Ground.phase }, { on := 18, ground := Ground.phase }, { on := 19, ground := Ground.textOnly Departure.lateStores }], guard := none }) (v := ?vv20) rfl (by kernel_rfl) (by kernel_rfl) (by kernel_rfl) (fun _ _ _ h => h) (Or.inl ⟨by rfl, ?yy20⟩) hHeld ?rr20
  case yy20 => (intro w0 hSw; obtain ⟨s0, s1, s2, s3, s4, s5⟩ := hSw; go_simp; try with_reducible rfl)
  try simp only [Act.put, List.setIfInBounds_toArray, List.set_cons_zero, List.set_cons_succ]
  refine wpAnyH_take (i := 21) (oi := { dst := some 8, op := Op.assign (Operand.tmp 33), type := 39, pos := "law.go:15", after := #[{ on := 19, ground := Ground.data }, { on := 20, ground := Ground.chain }, { on := 0, ground := Ground.phase }, { on := 1, ground := Ground.phase }, { on := 2, ground := Ground.phase }, { on := 3, ground := Ground.phase }, { on := 4, ground := Ground.phase }, { on := 5, ground := Ground.phase }, { on := 6, ground := Ground.phase }, { on := 7, ground := Ground.phase }, { on := 8, ground := Ground.phase }, { on := 9, ground := Ground.phase }, { on := 10, ground := Ground.phase }, { on := 11, ground := Ground.phase }, { on := 12, ground := Ground.phase }, { on := 13, ground := Ground.phase }, { on := 14, ground := Ground.phase }, { on := 15, ground := Ground.phase }, { on := 16, ground := Ground.phase }, { on := 17, ground := Ground.phase }, { on := 18, ground := Ground.phase }, { on := 19, ground := Ground.phase }, { on := 20, ground := Ground.phase }], guard := none }) (v := ?vv21) rfl (by kernel_rfl) (by kernel_rfl) (by kernel_rfl) (fun _ _ _ h => h) (Or.inl ⟨by rfl, ?yy21⟩) hHeld ?rr21
  case yy21 => (intro w0 hSw; obtain ⟨s0, s1, s2, s3, s4, s5⟩ := hSw; go_simp; try with_reducible rfl)
  try simp only [Act.put, List.setIfInBounds_toArray, List.set_cons_zero, List.set_cons_succ]
  refine wpAnyH_done (by kernel_rfl) ?_ _
  obtain ⟨g0, g1, g2, -, -, bw3⟩ := hH3.out
  have hgl : G < w3.heap.size := World.block_lt_of_cell? w3 _ g0
  have hlf := Hid.mk (fun w => Lf.new_any b p (by have := BW.out.2.2; omega) (by have := BW.out.2.2; omega) w)
  have hmk := run_make_row' (P := Tryd.prog) 31 3 (.int .i64 0) 8 Tryd.underlying31 Lf.Tryd.info3 rfl .i64 .i64 b (by omega) (by have := BW.out.2.2; omega)
  rw [Lf.madeRow] at hmk
  have H3 := Hid.mk (And.intro h3 (And.intro hL2 bw3))
  clear h3 b3 hL2 bw3 hH3 HN
  go_wp2_with (first
    | (go_at_call 21; refine (hlf.out _).mono ?_; rintro e w4 ⟨la, lg, rfl, h4, b4, o4⟩; replace g0 := (b4.cell (p := ⟨G, 0, none⟩) hgl).trans g0; have H4 := Hid.mk (And.intro h4 (And.intro b4 o4)); clear h4 b4 o4)
    | (go_at_call 22; refine (wnew_go H3.out.1 H4.out.1 H4.out.2.1 BW.out.1 H3.out.2.2 BW.out.2.2 H3.out.2.1 H4.out.2.2 h00.out).mono ?_; rintro e w5 ⟨A, rfl, h5⟩))
  go_ret3
  obtain ⟨rfl, h6⟩ := h5
  exact ⟨b, p, z, A, rfl, h6⟩
end Go.Proofs.YtbhggcleijjofaaDoor
