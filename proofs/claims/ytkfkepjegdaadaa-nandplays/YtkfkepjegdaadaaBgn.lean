/-
  The law's begun: the model at its beginning. No condition.
-/
import Derived.Test.YtkfkepjegdaadaaBg2
namespace Go.Proofs.Ytkfkepjegdaadaa
open Go Go.RowKit

/-- the model, some of its blocks bad -/
structure BgL (w : World) (B P Z : Nat) (ca fa ba : Option Addr) (n1 n2 n3 cc fc bc BP g15 g18 g21 g24 g5 : Nat) (l : List Int) (wx : World) : Prop where
  g : wx.heap[w.heap.size]? = some (.cells #[.int .i64 B, .int .i64 P, .int .i64 Z] 23 (0, 0))
  f : wx.heap[w.heap.size + 1]? = some (.cells #[.slice ca n1 cc, .slice fa n2 fc, .slice ba n3 bc] 27 (0, 0))
  below : Below w.heap.size w wx
  res : wx.heap[w.heap.size + 1 + 1]? = some (.cells z39 39 (0, 0))
  r15 : wx.rowIs g15 9 BP (fun _ => .string ⟨#[]⟩)
  r18 : wx.rowIs g18 3 B (fun _ => .int .i64 0)
  r21 : wx.rowIs g21 4 B (fun i => .bool (decide ((i : Int) ∈ l)))
  r24 : wx.rowIs g24 4 B (fun i => .bool (decide ((i : Int) ∈ l)))
  r5 : wx.heap[g5]? = some (.cells #[.int .i64 B, .int .i64 P, .int .i64 Z, .slice ca n1 cc, .slice fa n2 fc, .slice ba n3 bc, .slice (some ⟨g15, 0, none⟩) BP BP, .slice (some ⟨g18, 0, none⟩) B B, .slice (some ⟨g21, 0, none⟩) B B, .slice (some ⟨g24, 0, none⟩) B B, .int .i64 0, .bool false] 39 (0, 0))
  lt : w.heap.size + 1 + 1 < g15 ∧ w.heap.size + 1 + 1 < g18 ∧ w.heap.size + 1 + 1 < g21 ∧ w.heap.size + 1 + 1 < g24 ∧ w.heap.size + 1 + 1 < g5
  ne : g21 ≠ g24
  n5 : g15 ≠ g5 ∧ g18 ≠ g5 ∧ g21 ≠ g5 ∧ g24 ≠ g5
  n4 : g15 ≠ g21 ∧ g15 ≠ g24 ∧ g18 ≠ g21 ∧ g18 ≠ g24
theorem rowne2 {w : World} {g h n m : Nat} {t u : TypeId} {f k : Nat → Value} (r : w.rowIs g t n f) (s : w.rowIs h u m k) (ht : t ≠ u) : g ≠ h := by
  obtain ⟨c, hc, _⟩ := s
  exact rowne r hc ht
theorem BgE.start {w : World} {B P Z : Nat} {ca fa ba : Option Addr} {n1 n2 n3 cc fc bc BP g15 g18 g21 g24 g5 : Nat} {wx : World} (h : BgE w w.heap.size B P Z ca fa ba n1 n2 n3 cc fc bc BP g15 g18 g21 g24 g5 wx) : BgL w B P Z ca fa ba n1 n2 n3 cc fc bc BP g15 g18 g21 g24 g5 [] wx :=
  ⟨h.g, h.f, h.below, h.res, h.r15, h.r18, h.r21.congr (fun i _ => by simp), h.r24.congr (fun i _ => by simp), h.r5, h.lt, h.ne, h.n5, rowne2 h.r15 h.r21 (by decide), rowne2 h.r15 h.r24 (by decide), rowne2 h.r18 h.r21 (by decide), rowne2 h.r18 h.r24 (by decide)⟩
theorem in_more (l : List Int) (b i : Nat) : (if i = b then (.bool true : Value) else .bool (decide ((i : Int) ∈ l))) = .bool (decide ((i : Int) ∈ l ++ [(b : Int)])) := by
  by_cases h : i = b
  · rw [if_pos h, h]
    simp
  · rw [if_neg h]
    have : ¬ (i : Int) = b := by omega
    simp [this]
theorem BgL.bad {w : World} {B P Z : Nat} {ca fa ba : Option Addr} {n1 n2 n3 cc fc bc BP g15 g18 g21 g24 g5 : Nat} {l : List Int} {wx : World} (h : BgL w B P Z ca fa ba n1 n2 n3 cc fc bc BP g15 g18 g21 g24 g5 l wx) (b : Nat) :
    BgL w B P Z ca fa ba n1 n2 n3 cc fc bc BP g15 g18 g21 g24 g5 (l ++ [(b : Int)]) ((wx.setCell ⟨g21, b, none⟩ (.bool true)).setCell ⟨g24, b, none⟩ (.bool true)) := by
  have hlt := h.lt
  have e : ∀ i, i ≠ g21 → i ≠ g24 → ((wx.setCell ⟨g21, b, none⟩ (.bool true)).setCell ⟨g24, b, none⟩ (.bool true)).heap[i]? = wx.heap[i]? := fun i h1 h2 =>
    (Below.heap_setCell _ ⟨g24, b, none⟩ _ i h2).trans (Below.heap_setCell wx ⟨g21, b, none⟩ _ i h1)
  refine ⟨(e _ (by omega) (by omega)).trans h.g, (e _ (by omega) (by omega)).trans h.f, (h.below.setCell (p := ⟨g21, b, none⟩) (by show _ ≤ g21; omega) _).setCell (p := ⟨g24, b, none⟩) (by show _ ≤ g24; omega) _, (e _ (by omega) (by omega)).trans h.res,
    h.r15.of_block (e _ h.n4.1 h.n4.2.1), h.r18.of_block (e _ h.n4.2.2.1 h.n4.2.2.2), ((h.r21.set b (.bool true)).setOther h.ne _).congr (fun i _ => in_more l b i), ((h.r24.setOther (Ne.symm h.ne) _).set b (.bool true)).congr (fun i _ => in_more l b i), (e _ (Ne.symm h.n5.2.2.1) (Ne.symm h.n5.2.2.2)).trans h.r5, h.lt, h.ne, h.n5, h.n4⟩
theorem BgL.drew {w : World} {B P Z : Nat} {ca fa ba : Option Addr} {n1 n2 n3 cc fc bc BP g15 g18 g21 g24 g5 : Nat} {l : List Int} {wx : World} (h : BgL w B P Z ca fa ba n1 n2 n3 cc fc bc BP g15 g18 g21 g24 g5 l wx) : BgL w B P Z ca fa ba n1 n2 n3 cc fc bc BP g15 g18 g21 g24 g5 l wx.drew :=
  ⟨h.g, h.f, h.below.drew, h.res, h.r15, h.r18, h.r21, h.r24, h.r5, h.lt, h.ne, h.n5, h.n4⟩
theorem BgL.skip {w : World} {B P Z : Nat} {ca fa ba : Option Addr} {n1 n2 n3 cc fc bc BP g15 g18 g21 g24 g5 : Nat} {l : List Int} {wx : World} (h : BgL w B P Z ca fa ba n1 n2 n3 cc fc bc BP g15 g18 g21 g24 g5 l wx) {x : Int} (hx : ¬ (0 ≤ x ∧ x < B)) : BgL w B P Z ca fa ba n1 n2 n3 cc fc bc BP g15 g18 g21 g24 g5 (l ++ [x]) wx := by
  refine { h with r21 := h.r21.congr (fun i hi => ?_), r24 := h.r24.congr (fun i hi => ?_) }
  · have : ¬ (i : Int) = x := by omega
    simp only [List.mem_append, List.mem_singleton, this, or_false]
  · have : ¬ (i : Int) = x := by omega
    simp only [List.mem_append, List.mem_singleton, this, or_false]
/-- the model at its end, laid into the answer's block -/
theorem BgL.md {w : World} {B P Z : Nat} (hg : 8 ≤ B ∧ B ≤ 32 ∧ 4 ≤ P ∧ P ≤ 16 ∧ 64 ≤ Z ∧ Z ≤ 256) {S : Nat → Prop} (hS : ∀ i, S i → i < w.heap.size) {ca fa ba : Option Addr} {n1 n2 n3 cc fc bc g15 g18 g21 g24 g5 : Nat} {cl : List (Int × Int × Int)} {fl l : List Int} {wx : World} (h : BgL w B P Z ca fa ba n1 n2 n3 cc fc bc (B * P) g15 g18 g21 g24 g5 l wx)
    (hc : CutsAt w S ca cl) (hf : IntsAt w S fa fl) (hcl : cl.length ≤ 8) (hfl : fl.length ≤ 8) (hr : ∀ x ∈ cl, 0 ≤ x.2.2 ∧ x.2.2 < 256) {W : World} {o : Obj} (p : Put wx W (w.heap.size + 1 + 1) o) :
    Md W S ⟨ca, cl, cc, fa, fl, fc, ba, n3, bc, g15, B * P, g18, B, g21, B, g24, B⟩ (begC B P Z cl fl l) ∧ Below w.heap.size w W := by
  have hlt := h.lt
  have hb := p.below h.below (by omega)
  have b15 := h.r15.of_block (p.other g15 (by omega))
  have b18 := h.r18.of_block (p.other g18 (by omega))
  have b21 := h.r21.of_block (p.other g21 (by omega))
  have b24 := h.r24.of_block (p.other g24 (by omega))
  refine ⟨⟨hc.kept (Kp.ofBelow hb), hf.kept (Kp.ofBelow hb), rfl, rfl, ⟨hcl, hfl⟩, hr, fun i hi => b15.cell hi, fun i hi => b18.cell hi, fun i hi => b21.cell hi, fun i hi => b24.cell hi, ⟨b15.lt, b18.lt, b21.lt, b24.lt⟩, ⟨fun x => ?_, fun x => ?_, fun x => ?_, fun x => ?_⟩, hg, ?_, fun i => ?_⟩, hb⟩
  · have h9 : g15 < w.heap.size := hS _ x
    omega
  · have h9 : g18 < w.heap.size := hS _ x
    omega
  · have h9 : g21 < w.heap.size := hS _ x
    omega
  · have h9 : g24 < w.heap.size := hS _ x
    omega
  · show (0 : Int) ≤ 0 ∧ (0 : Int) < 1000
    omega
  · show (0 : Int) ≤ 0 ∧ (0 : Int) < 1000
    omega
set_option maxRecDepth 100000 in
set_option maxHeartbeats 4000000 in
theorem begun_any (S : Nat → Prop) (B P Z : Nat) (hg : 8 ≤ B ∧ B ≤ 32 ∧ 4 ≤ P ∧ P ≤ 16 ∧ 64 ≤ Z ∧ Z ≤ 256) (ca fa ba : Option Addr) (cl : List (Int × Int × Int)) (fl bl : List Int) (cc fc bc : Nat) (w : World) (hS : ∀ i, S i → i < w.heap.size)
    (hc : CutsAt w S ca cl) (hf : IntsAt w S fa fl) (hb : IntsAt w (fun _ => False) ba bl) (hcl : cl.length ≤ 8) (hfl : fl.length ≤ 8) (hbl : bl.length ≤ 1000) (hr : ∀ x ∈ cl, 0 ≤ x.2.2 ∧ x.2.2 < 256) :
    Calls Try.prog 12 #[.agg #[.int .i64 B, .int .i64 P, .int .i64 Z], .agg #[.slice ca cl.length cc, .slice fa fl.length fc, .slice ba bl.length bc]] w fun e w' =>
      ∃ X, e = .returned (.agg (mdA X (begC B P Z cl fl bl))) ∧ Md w' S X (begC B P Z cl fl bl) ∧ Below w.heap.size w w' ∧ X.ca = ca ∧ X.cl = cl ∧ X.fa = fa ∧ X.fl = fl := by
  have HG := Hid.mk hg
  have hBPn : B * P ≤ 32 * 16 := Nat.mul_le_mul hg.2.1 hg.2.2.2.1
  obtain ⟨BP, hBP⟩ : ∃ BP, BP = B * P := ⟨_, rfl⟩
  rw [← hBP] at hBPn
  have hwr : IntKind.i64.wrap ((B : Int) * P) = BP := by
    have e : (B : Int) * P = (BP : Int) := by rw [hBP]; push_cast; rfl
    rw [e]
    rw [IntKind.wrap_i64]
    omega
  have m15 := run_make_row' (P := Try.prog) 36 9 (.string ⟨#[]⟩) 16 Try.underlying36 Try.info9 rfl .i64 .i64 BP (by omega) (by omega)
  have m18 := run_make_row' (P := Try.prog) 25 3 (.int .i64 0) 8 Try.underlying25 Try.info3b rfl .i64 .i64 B (by omega) (by omega)
  have m21 := run_make_row' (P := Try.prog) 37 4 (.bool false) 1 Try.underlying37 Try.info4b rfl .i64 .i64 B (by omega) (by omega)
  have HMk := Hid.mk (And.intro m15 (And.intro m18 (And.intro m21 hwr)))
  have HA := Hid.mk (And.intro hc (And.intro hf hb))
  have HL := Hid.mk (And.intro hcl (And.intro hfl (And.intro hbl hr)))
  have HBP := Hid.mk hBP
  have hB32 : B ≤ 32 := hg.2.1
  clear hc hf hb hr hg m15 m18 m21 hwr hBP hcl hfl hbl hBPn
  have HN3 := HL.out.2.2.1
  generalize hn1 : cl.length = n1 at *
  generalize hn2 : fl.length = n2 at *
  generalize hn3 : bl.length = n3 at *
  have HN := Hid.mk (And.intro hn1 (And.intro hn2 hn3))
  clear hn1 hn2 hn3
  go_enter Try.func12, Try.ntmps12
  go_upto_region 1 with fail
  have hB0 : Bg w w.heap.size B P Z ca fa ba n1 n2 n3 cc fc bc BP false false false false false 0 0 0 0 0 (((w.alloc (.cells #[.int .i64 B, .int .i64 P, .int .i64 Z] 23)).alloc (.cells #[.slice ca n1 cc, .slice fa n2 fc, .slice ba n3 bc] 27)).alloc (.cells #[.int .i64 0, .int .i64 0, .int .i64 0, .slice none 0 0, .slice none 0 0, .slice none 0 0, .slice none 0 0, .slice none 0 0, .slice none 0 0, .slice none 0 0, .int .i64 0, .bool false] 39)) := by
    have h1 := heap_alloc_new w (.cells #[.int .i64 B, .int .i64 P, .int .i64 Z] 23)
    have h2 := heap_alloc_new (w.alloc (.cells #[.int .i64 B, .int .i64 P, .int .i64 Z] 23)) (.cells #[.slice ca n1 cc, .slice fa n2 fc, .slice ba n3 bc] 27)
    have h3 := heap_alloc_new ((w.alloc (.cells #[.int .i64 B, .int .i64 P, .int .i64 Z] 23)).alloc (.cells #[.slice ca n1 cc, .slice fa n2 fc, .slice ba n3 bc] 27)) (.cells #[.int .i64 0, .int .i64 0, .int .i64 0, .slice none 0 0, .slice none 0 0, .slice none 0 0, .slice none 0 0, .slice none 0 0, .slice none 0 0, .slice none 0 0, .int .i64 0, .bool false] 39)
    rw [size_alloc] at h2
    rw [size_alloc, size_alloc] at h3
    exact ⟨bgs_of ((Below.heap_alloc _ _ _ (by rw [size_alloc, size_alloc]; omega)).trans ((Below.heap_alloc _ _ _ (by rw [size_alloc]; omega)).trans h1)) ((Below.heap_alloc _ _ _ (by rw [size_alloc, size_alloc]; omega)).trans h2), (below_two w _ _).alloc (by rw [size_alloc, size_alloc]; omega) _, h3, fun x => (by cases x), fun x => (by cases x), fun x => (by cases x), fun x => (by cases x), fun x => (by cases x), fun x => (by cases x)⟩
  generalize ((w.alloc (.cells #[.int .i64 B, .int .i64 P, .int .i64 Z] 23)).alloc (.cells #[.slice ca n1 cc, .slice fa n2 fc, .slice ba n3 bc] 27)).alloc (.cells #[.int .i64 0, .int .i64 0, .int .i64 0, .slice none 0 0, .slice none 0 0, .slice none 0 0, .slice none 0 0, .slice none 0 0, .slice none 0 0, .slice none 0 0, .int .i64 0, .bool false] 39) = W0 at *
  have HB0 := Hid.mk hB0
  clear hB0
  go_cut [5] from 8 to 25 (fun v wx => ∃ g15 g18 g21 g24 g5 : Nat, v = .pointer (some ⟨g5, 0, none⟩) ∧ BgE w w.heap.size B P Z ca fa ba n1 n2 n3 cc fc bc BP g15 g18 g21 g24 g5 wx)
  case first =>
    refine bg_reg w _ B P Z ca fa ba n1 n2 n3 cc fc bc BP (Nat.le_refl _) (fun _ _ _ _ _ h => h) HMk.out.1 HMk.out.2.1 HMk.out.2.2.1 HMk.out.2.2.2 (fun g15 g18 g21 g24 g5 wx hE => ?_) HB0.out
    go_wp2_with fail
    go_meet
    exact ⟨g15, g18, g21, g24, g5, rfl, hE⟩
  case rest =>
    obtain ⟨g15, g18, g21, g24, g5, rfl, hE⟩ := hcut
    have HL0 := Hid.mk hE.start
    clear hE HB0
    go_upto_region 3 with fail
    go_loopw [6] (fun i wr => ∃ k : Nat, k ≤ n3 ∧ i = .int .i64 k ∧ BgL w B P Z ca fa ba n1 n2 n3 cc fc bc BP g15 g18 g21 g24 g5 (bl.take k) wr) (fun i _ => n3 - (intOf i).toNat)
    case atStart => exact ⟨0, Nat.zero_le _, rfl, HL0.out⟩
    case round =>
      obtain ⟨j, hj, rfl, hJ⟩ := hrel
      clear HL0
      by_cases hjm : j < n3
      · have hjc : j < bl.length := by rw [HN.out.2.2]; exact hjm
        have hjn1 : (j : Int) < n3 := by omega
        obtain ⟨g, o, rfl, hg, hgs, d0⟩ := (HA.out.2.2.kept (S := fun _ => False) (Kp.ofBelow hJ.below)) j hjc
        have e1 : bl.take (j + 1) = bl.take j ++ [bl.getD j 0] := by
          rw [List.take_add_one, List.getElem?_eq_getElem hjc]
          simp [List.getD_eq_getElem?_getD, hjc]
        generalize bl.getD j 0 = x at *
        have q2 : wr.cell? ⟨w.heap.size + 1, 2, none⟩ = some (.slice (some ⟨g, o, none⟩) n3 bc) := cell_of_row _ _ 2 _ 27 _ hJ.f
        have q0 : wr.cell? ⟨w.heap.size, 0, none⟩ = some (.int .i64 B) := cell_of_row _ _ 0 _ 23 _ hJ.g
        have HJ := Hid.mk hJ
        have HE1 := Hid.mk e1
        clear e1 hg hgs
        by_cases hx : 0 ≤ x
        · by_cases hx2 : x < B
          · obtain ⟨b, rfl⟩ := Int.eq_ofNat_of_zero_le hx
            have hb : b < B := by omega
            have c8 : wr.cell? ⟨g5, 8, none⟩ = some (.slice (some ⟨g21, 0, none⟩) B B) := cell_of_row _ _ 8 _ 39 _ hJ.r5
            have c9 : wr.cell? ⟨g5, 9, none⟩ = some (.slice (some ⟨g24, 0, none⟩) B B) := cell_of_row _ _ 9 _ 39 _ hJ.r5
            have b2 := hJ.r21.cell hb
            have b3 := hJ.r24.cell hb
            have f2 := hJ.r21.frozen b
            have f3 := hJ.r24.frozen b
            have n0 : ¬ g21 = g24 := hJ.ne
            have n1' : ¬ g24 = g21 := fun e => hJ.ne e.symm
            have n2' : ¬ g5 = g21 := fun e => hJ.n5.2.2.1 e.symm
            have n3' : ¬ g5 = g24 := fun e => hJ.n5.2.2.2 e.symm
            generalize decide ((b : Int) ∈ List.take j bl) = V at b2 b3
            clear hJ
            go_upto_region 7 with fail
            go_region
            go_wp2_with fail
            refine ⟨⟨j + 1, by omega, by go_num, ?_⟩, by simp [intOf]; omega⟩
            rw [HE1.out]
            exact (HJ.out.bad b).drew
          · clear hJ
            have HX := Hid.mk hx2
            go_wp2_with fail
            refine ⟨⟨j + 1, by omega, by go_num, ?_⟩, by simp [intOf]; omega⟩
            rw [HE1.out]
            exact HJ.out.skip (fun y => HX.out y.2)
        · clear hJ
          have HX := Hid.mk hx
          go_wp2_with fail
          refine ⟨⟨j + 1, by omega, by go_num, ?_⟩, by simp [intOf]; omega⟩
          rw [HE1.out]
          exact HJ.out.skip (fun y => HX.out y.1)
      · have hjn1 : ¬ (j : Int) < n3 := by omega
        have hj2 : j = n3 := by omega
        have et : bl.take n3 = bl := by rw [← HN.out.2.2, List.take_length]
        rw [hj2, et] at hJ
        clear et
        have q2 : wr.cell? ⟨w.heap.size + 1, 2, none⟩ = some (.slice ba n3 bc) := cell_of_row _ _ 2 _ 27 _ hJ.f
        obtain ⟨X, hX⟩ : ∃ X : Mx, X = ⟨ca, cl, cc, fa, fl, fc, ba, n3, bc, g15, B * P, g18, B, g21, B, g24, B⟩ := ⟨_, rfl⟩
        obtain ⟨C, hC⟩ : ∃ C : Ch, C = begC B P Z cl fl bl := ⟨_, rfl⟩
        have hat : MdAt wr g5 X C := by
          rw [hX, hC]
          have h5 := hJ.r5
          rw [HBP.out, ← HN.out.1, ← HN.out.2.1] at h5
          exact h5
        obtain ⟨p0, p1, p2, p3, p4, p5, p6, p7, p8, p9, p10, p11⟩ := hat.cells
        obtain ⟨z0, z1, z2, z3, z4, z5, z6, z7, z8, z9, z10, z11, qf⟩ := z39_cells hJ.res
        have hlt := hJ.lt
        have P1 := putMd hJ.res X C
        rw [HBP.out] at hJ
        have hm := hJ.md HG.out hS HA.out.1 HA.out.2.1 (by rw [HN.out.1]; exact HL.out.1) (by rw [HN.out.2.1]; exact HL.out.2.1) HL.out.2.2.2 P1
        rw [← hX, ← hC] at hm
        have HCC := Hid.mk hC
        have HXX : Hid (X.ca = ca ∧ X.cl = cl ∧ X.fa = fa ∧ X.fl = fl) := by rw [hX]; exact ⟨rfl, rfl, rfl, rfl⟩
        have HF := Hid.mk (And.intro P1.here hm)
        have n25 : ¬ g5 = w.heap.size + 1 + 1 := by omega
        clear hm P1 hJ hat hX hC hlt
        go_wp2_with fail
        have eW : ((((((((((((wr.setCell ⟨w.heap.size + 1 + 1, 0, none⟩ (.int .i64 C.B)).setCell ⟨w.heap.size + 1 + 1, 1, none⟩ (.int .i64 C.P)).setCell ⟨w.heap.size + 1 + 1, 2, none⟩ (.int .i64 C.Z)).setCell ⟨w.heap.size + 1 + 1, 3, none⟩ (.slice X.ca X.cl.length X.cc)).setCell ⟨w.heap.size + 1 + 1, 4, none⟩ (.slice X.fa X.fl.length X.fc)).setCell ⟨w.heap.size + 1 + 1, 5, none⟩ (.slice X.ba X.bn X.bc)).setCell ⟨w.heap.size + 1 + 1, 6, none⟩ (.slice (some ⟨X.gp, 0, none⟩) (C.B * C.P) X.cp)).setCell ⟨w.heap.size + 1 + 1, 7, none⟩ (.slice (some ⟨X.gw, 0, none⟩) C.B X.cw)).setCell ⟨w.heap.size + 1 + 1, 8, none⟩ (.slice (some ⟨X.gd, 0, none⟩) C.B X.cd)).setCell ⟨w.heap.size + 1 + 1, 9, none⟩ (.slice (some ⟨X.gm, 0, none⟩) C.B X.cm)).setCell ⟨w.heap.size + 1 + 1, 10, none⟩ (.int .i64 C.did)).setCell ⟨w.heap.size + 1 + 1, 11, none⟩ (.bool C.off)) = setMd wr (w.heap.size + 1 + 1) X C := rfl
        rw [eW]
        clear eW
        generalize setMd wr (w.heap.size + 1 + 1) X C = W9 at *
        exact bodyPost_ret (results_cell_row rfl _ _ (w.heap.size + 1 + 1) 39 (mdA X C) (0, 0) _ rfl HF.out.1 Try.underlying39 rfl info39) rfl (by rw [← HCC.out]; exact ⟨X, rfl, HF.out.2.1, HF.out.2.2, HXX.out⟩)
end Go.Proofs.Ytkfkepjegdaadaa
