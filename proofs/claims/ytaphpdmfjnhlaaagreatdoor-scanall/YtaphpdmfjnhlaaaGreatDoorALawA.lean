/-
  ScanAll, walked. Condition: the table's cells hold what the text lays.
-/
import Derived.Test.YtaphpdmfjnhlaaaGreatDoorAScb
import Derived.Test.YtaphpdmfjnhlaaaGreatDoorAAwl
import Derived.Test.YtaphpdmfjnhlaaaGreatDoorAOpnT
namespace Go.Proofs.YtaphpdmfjnhlaaaGreatDoor
open Go Go.RowKit
set_option maxRecDepth 100000

theorem TxtF.below {w w' : World} {a n f} (h : TxtF w a n f) (b : Below w.heap.size w w') : TxtF w' a n f := by
  intro i hi
  obtain ⟨g, o, ha, hg, hc⟩ := h i hi
  exact ⟨g, o, ha, Nat.lt_of_lt_of_le hg b.size, (b.cell (p := ⟨g, o + i, none⟩) hg).trans hc⟩
theorem BytF.below {w w' : World} {a n f} (h : BytF w a n f) (b : Below w.heap.size w w') : BytF w' a n f := by
  intro i hi
  obtain ⟨h0, g, o, ha, hg, hc⟩ := h i hi
  exact ⟨h0, g, o, ha, Nat.lt_of_lt_of_le hg b.size, (b.cell (p := ⟨g, o + i, none⟩) hg).trans hc⟩
theorem pls_ref {C : Ch} {l : List Fd} (h : Pls C l) (hl : l.length < 32) : refP C ((l.length / 4 : Nat) : Int) ((l.length % 4 : Nat) : Int) = 0 := by
  have hg := h.geo
  have hb : refB C ((l.length / 4 : Nat) : Int) = 0 := by
    unfold refB
    rw [h.off, hg.1, if_neg (by decide), if_pos (by omega)]
  unfold refP
  rw [if_pos hb, hg.2.1, if_pos (by omega)]
theorem FB.fz {w : World} {g : Nat} {f : Fd} (h : FB w g f) (i : Nat) : w.frozen? ⟨g, i, none⟩ = false := frozen_of_row w g i _ 70 h
theorem pls_none : Pls (begC 8 4 64 [] [] []) [] :=
  ⟨⟨rfl, rfl, rfl⟩, rfl, fun _ => rfl, fun _ => rfl, fun _ => rfl, ⟨Int.le_refl _, Int.le_refl _⟩, by simp, fun i hi => absurd hi (by simp), fun _ _ _ _ => rfl⟩

/-- the same, where the chip may have one page more than is wanted yet -/
structure ScT (w w1 : World) (L : Ly) (C : Ch) (l : List Fd) (v : Value) (wr : World) : Prop where
  chip : Chip wr L C
  geo : C.B = 8
  out : We.Ow wr w1.heap.size 70 8 v (l.map Fd.row)
  tab : Pg.Tab wr
  below : Below w.heap.size w wr
  own : ∀ i, L.own 8 i → w.heap.size < i ∧ i < w1.heap.size
  pos : 0 < w.heap.size
  le : w.heap.size ≤ w1.heap.size
  sz : w1.heap.size ≤ wr.heap.size
section
variable {w w1 : World} {L : Ly} {C : Ch} {l : List Fd} {v v2 : Value} {wr w2 w3 : World}
theorem ScS.t (h : ScS w w1 L C l v wr) : ScT w w1 L C l v wr := ⟨h.chip, h.pls.geo.1, h.out, h.tab, h.below, h.own, h.pos, h.le, h.sz⟩
theorem ScT.call (h : ScT w w1 L C l v wr) (b : Below wr.heap.size wr w2) : ScT w w1 L C l v w2 :=
  ⟨h.chip.call b, h.geo, h.out.call b, h.tab.call b, below3 h.below b, h.own, h.pos, h.le, Nat.le_trans h.sz b.size⟩
theorem ScT.more (h : ScT w w1 L C l v wr) {f : Fd} (hp : Pls C (l ++ [f])) (q1 : We.Ow w3 w1.heap.size 70 8 v2 (l.map Fd.row ++ [f.row])) (q2 : wr.grownBy w3 v.ownBlock) : ScS w w1 L C (l ++ [f]) v2 w3 := by
  have hX : ∀ j, v.ownBlock = some j → w1.heap.size ≤ j := fun j hj => (h.out.lt j hj).1
  have k1 : Kp (fun i => v.ownBlock = some i) wr w3 := Kp.ofGrown q2 (fun i hi => hi)
  have hc : ∀ i, v.ownBlock = some i → Cel wr i := fun i hi => by
    rcases h.out.own.2 with ⟨rfl, _⟩ | ⟨g', cap, cur, rfl, _, hg, _⟩
    · cases hi
    · obtain rfl : g' = i := by simpa [Value.ownBlock] using hi
      exact ⟨_, _, _, hg⟩
  have hle := h.le
  have hpos := h.pos
  have hB : C.B = 8 := h.geo
  refine ⟨h.chip.off k1 (fun i hi => ⟨fun q => ?_, hc i hi⟩), hp, by rw [List.map_append]; exact q1, Tab.off h.tab k1 (fun hi => ?_), h.below.grown q2 h.below.size (fun j hj => Nat.le_trans hle (hX j hj)), h.own, h.pos, h.le, Nat.le_trans h.sz k1.size⟩
  · rw [hB] at q
    have := hX i hi
    have := (h.own i q).2
    omega
  · have := hX 0 hi
    omega
/-- a block that is neither the chip's nor the list's was written -/
theorem ScT.off (h : ScT w w1 L C l v wr) {g : Nat} (hg : w1.heap.size ≤ g) (hv : ¬ v.ownBlock = some g) (hc : Cel wr g) (k : Kp (fun i => i = g) wr w2) : ScT w w1 L C l v w2 := by
  have hB : C.B = 8 := h.geo
  have hle := h.le
  have hpos := h.pos
  refine ⟨h.chip.off k (fun i hi => ⟨fun q => ?_, by rw [hi]; exact hc⟩), h.geo, h.out.same (fun j hj => k.block j (h.out.lt j hj).2 (fun e => hv (by rw [hj, e]))), Tab.off h.tab k (fun hi => by omega), Kp.below h.below k h.below.size (fun i hi => by omega), h.own, h.pos, h.le, Nat.le_trans h.sz k.size⟩
  rw [hB] at q
  have := (h.own i q).2
  omega
/-- a page was written -/
theorem ScT.prog (h : ScT w w1 L C l v wr) {C2 : Ch} (hC : Chip w2 L C2) (hB2 : C2.B = 8) (k : Kp (L.own C.B) wr w2) : ScT w w1 L C2 l v w2 := by
  have hB : C.B = 8 := h.geo
  rw [hB] at k
  have hle := h.le
  refine ⟨hC, hB2, h.out.same (fun g hg => k.block g (h.out.lt g hg).2 (fun q => ?_)), Tab.off h.tab k (fun q => ?_), Kp.below h.below k h.below.size (fun i hi => Nat.le_of_lt (h.own i hi).1), h.own, h.pos, h.le, Nat.le_trans h.sz k.size⟩
  · have := (h.own g q).2
    have := (h.out.lt g hg).1
    omega
  · have := (h.own 0 q).1
    omega
theorem FB.cel {w : World} {g : Nat} {f : Fd} (h : FB w g f) : Cel w g := ⟨_, _, _, h⟩
end

/-- what Look said, stored -/
def fbSet (w : World) (g : Nat) (c K S I O W : Int) (t : ByteArray) : World := (((((((w.setCell ⟨g, 1, none⟩ (.int .i64 c)).setCell ⟨g, 2, none⟩ (.int .i64 K)).setCell ⟨g, 3, none⟩ (.int .u64 S)).setCell ⟨g, 4, none⟩ (.int .i64 I)).setCell ⟨g, 5, none⟩ (.int .i64 O)).setCell ⟨g, 6, none⟩ (.int .i64 W)).setCell ⟨g, 7, none⟩ (.string t))
theorem FB.set1 {w : World} {g : Nat} {a c K S I O W : Int} {t : ByteArray} (h : FB w g ⟨a, c, K, S, I, O, W, t⟩) (x : Int) : FB (w.setCell ⟨g, 1, none⟩ (.int .i64 x)) g ⟨a, x, K, S, I, O, W, t⟩ := heap_setCell_same w g 1 _ 70 _ h
theorem FB.set2 {w : World} {g : Nat} {a c K S I O W : Int} {t : ByteArray} (h : FB w g ⟨a, c, K, S, I, O, W, t⟩) (x : Int) : FB (w.setCell ⟨g, 2, none⟩ (.int .i64 x)) g ⟨a, c, x, S, I, O, W, t⟩ := heap_setCell_same w g 2 _ 70 _ h
theorem FB.set3 {w : World} {g : Nat} {a c K S I O W : Int} {t : ByteArray} (h : FB w g ⟨a, c, K, S, I, O, W, t⟩) (x : Int) : FB (w.setCell ⟨g, 3, none⟩ (.int .u64 x)) g ⟨a, c, K, x, I, O, W, t⟩ := heap_setCell_same w g 3 _ 70 _ h
theorem FB.set4 {w : World} {g : Nat} {a c K S I O W : Int} {t : ByteArray} (h : FB w g ⟨a, c, K, S, I, O, W, t⟩) (x : Int) : FB (w.setCell ⟨g, 4, none⟩ (.int .i64 x)) g ⟨a, c, K, S, x, O, W, t⟩ := heap_setCell_same w g 4 _ 70 _ h
theorem FB.set5 {w : World} {g : Nat} {a c K S I O W : Int} {t : ByteArray} (h : FB w g ⟨a, c, K, S, I, O, W, t⟩) (x : Int) : FB (w.setCell ⟨g, 5, none⟩ (.int .i64 x)) g ⟨a, c, K, S, I, x, W, t⟩ := heap_setCell_same w g 5 _ 70 _ h
theorem FB.set6 {w : World} {g : Nat} {a c K S I O W : Int} {t : ByteArray} (h : FB w g ⟨a, c, K, S, I, O, W, t⟩) (x : Int) : FB (w.setCell ⟨g, 6, none⟩ (.int .i64 x)) g ⟨a, c, K, S, I, O, x, t⟩ := heap_setCell_same w g 6 _ 70 _ h
theorem FB.set7 {w : World} {g : Nat} {a c K S I O W : Int} {t : ByteArray} (h : FB w g ⟨a, c, K, S, I, O, W, t⟩) (x : ByteArray) : FB (w.setCell ⟨g, 7, none⟩ (.string x)) g ⟨a, c, K, S, I, O, W, x⟩ := heap_setCell_same w g 7 _ 70 _ h
theorem FB.said {w : World} {g : Nat} {a z K0 S0 I0 O0 W0 : Int} {t0 : ByteArray} (h : FB w g ⟨a, z, K0, S0, I0, O0, W0, t0⟩) (c K S I O W : Int) (t : ByteArray) : FB (fbSet w g c K S I O W t) g ⟨a, c, K, S, I, O, W, t⟩ := ((((((h.set1 c).set2 K).set3 S).set4 I).set5 O).set6 W).set7 t
theorem xor8 (a b : UInt8) : bits .xor .u8 (a.toNat : Int) (b.toNat : Int) = ((a ^^^ b).toNat : Int) := by
  rw [u8_xor_nat _ _ a.toNat_lt b.toNat_lt, UInt8.toNat_xor]
theorem fbSet_kp (w : World) (g : Nat) (c K S I O W : Int) (t : ByteArray) : Kp (fun i => i = g) w (fbSet w g c K S I O W t) :=
  (((((((Kp.refl (fun i => i = g) w).setCell (p := ⟨g, 1, none⟩) rfl _).setCell (p := ⟨g, 2, none⟩) rfl _).setCell (p := ⟨g, 3, none⟩) rfl _).setCell (p := ⟨g, 4, none⟩) rfl _).setCell (p := ⟨g, 5, none⟩) rfl _).setCell (p := ⟨g, 6, none⟩) rfl _).setCell (p := ⟨g, 7, none⟩) rfl _
set_option maxHeartbeats 4000000 in
theorem scanAll_any (xa : Option Addr) (xl xc : Nat) (xf : Nat → ByteArray) (ya : Option Addr) (yl yc : Nat) (yf : Nat → Int) (w : World) (hx : TxtF w xa xl xf) (hy : BytF w ya yl yf) (hT : Pg.Tab w) :
    Calls Tryz.prog 5 #[.slice xa xl xc, .slice ya yl yc] w fun e w' => e = .returned (.bool true) ∧ Below w.heap.size w w' := by
  have hnw := Hid.mk (new_any 8 4 64 (by omega) none none none [] [] [] 0 0 0 w (fun i hi => by simp at hi) (fun i hi => by simp at hi) (fun i hi => by simp at hi) (by simp) (by simp) (by simp) (fun x hx => by cases hx) (fun x hx => by cases hx))
  have HX := Hid.mk (And.intro hx (And.intro hy hT))
  clear hx hy hT
  go_enter Tryz.func5, Tryz.ntmps5
  go_upto_region 2 with (first
    | (go_at_call 19; refine hnw.out.mono ?_; rintro e w1 ⟨L, rfl, ch1, b1, own1⟩))
  have haw := Hid.mk (awake_any w1 (HX.out.2.2.call b1))
  have H1 := Hid.mk (And.intro ch1 (And.intro b1 own1))
  clear ch1 b1 own1 hnw
  go_upto_region 5 with (first
    | (go_at_call 8; refine haw.out.mono ?_; rintro e w2 ⟨rfl, b2⟩))
  have b3 := Pg.below_one w2 (.cells #[] 70)
  have S0 : Hid (ScS w w1 L (begC 8 4 64 [] [] []) [] (.slice (some ⟨w2.heap.size, 0, none⟩) 0 0) (w2.alloc (.cells #[] 70))) := ⟨(H1.out.1.call b2).call b3, pls_none, ⟨World.ownsRow_made w2 #[] 0 b2.size (Nat.zero_le _) (by simp), fun _ h => (by cases h), fun _ h => (by cases h)⟩, ((HX.out.2.2.call H1.out.2.1).call b2).call b3, below3 (below3 H1.out.2.1 b2) b3, fun i hi => ⟨H1.out.2.2 i hi, H1.out.1.lt hi⟩, HX.out.2.2.1, H1.out.2.1.size, Nat.le_trans b2.size b3.size⟩
  clear b2 b3 H1 haw
  generalize (w2.alloc (.cells #[] 70)) = W2 at *
  go_upto_region 6 with fail
  go_loopw [7, 8] (fun v i wr => ∃ l C, i = .int .i64 (l.length : Nat) ∧ ScS w w1 L C l v wr) (fun _ i _ => 32 - (intOf i).toNat)
  case atStart => exact ⟨[], _, rfl, S0.out⟩
  case round =>
    clear S0
    obtain ⟨l, C, rfl, hs⟩ := hrel
    have hlen := hs.pls.len
    by_cases hlt : l.length < 32
    · have hltI : (l.length : Int) < 32 := by omega
      obtain ⟨a7, p7, rfl⟩ := hs.out.form
      rw [List.length_map] at hs ⊢
      have HS := Hid.mk hs
      have hid := hs.below
      clear hs
      go_upto_region 9 with fail
      by_cases htx : l.length < xl ∧ (xf l.length).size ≤ 64
      · skip
        obtain ⟨hn, hn2⟩ := htx
        have hnI : (l.length : Int) < (xl : Int) := by omega
        have hn2I : ((xf l.length).size : Int) ≤ 64 := by omega
        have hV := Hid.mk (HS.out.call (Pg.below_one wr (.cells #[.int .i64 (l.length : Int), .int .i64 0, .int .i64 0, .int .u64 0, .int .i64 0, .int .i64 0, .int .i64 0, .string ⟨#[]⟩] 70)))
        have hF : Hid (FB (wr.alloc (.cells #[.int .i64 (l.length : Int), .int .i64 0, .int .i64 0, .int .u64 0, .int .i64 0, .int .i64 0, .int .i64 0, .string ⟨#[]⟩] 70)) wr.heap.size ⟨l.length, 0, 0, 0, 0, 0, 0, ⟨#[]⟩⟩) := heap_alloc_new wr _
        have hlo : Hid (∀ g, (Value.slice a7 l.length p7).ownBlock = some g → g < wr.heap.size) := fun g hg => (HS.out.out.lt g hg).2
        have hP := Hid.mk (HS.out.pls.skip hlt)
        have hg9 : Hid (w1.heap.size ≤ wr.heap.size) := Hid.mk HS.out.sz
        obtain ⟨m0, m1, m2, m3, m4, m5, m6, m7⟩ := hF.out.cells
        clear HS
        generalize (wr.alloc (.cells #[.int .i64 (l.length : Int), .int .i64 0, .int .i64 0, .int .u64 0, .int .i64 0, .int .i64 0, .int .i64 0, .string ⟨#[]⟩] 70)) = V at *
        generalize wr.heap.size = g9 at *
        obtain ⟨xg, xo, rfl, hxg, hxc⟩ := TxtF.below HX.out.1 hV.out.below l.length hn
        generalize xf l.length = tx at *
        have hU : IntKind.u64.wrap (l.length : Int) = (l.length : Int) := Pg.wrap_nat l.length (by omega)
        have hds := Pg.padB_size tx 64 hn2
        have hss := Pg.spareB_size 1 l.length 0 1 0 tx 64
        have hfr : Hid (Calls Tryz.prog 20 #[.agg #[.int .i64 1, .int .u64 (l.length : Int), .int .i64 0, .int .i64 1, .int .i64 0], .string tx, .int .i64 64] V fun e w' => e = .returned (.tuple #[.string (Pg.padB tx 64), .string (Pg.spareB 1 l.length 0 1 0 tx 64)]) ∧ Below V.heap.size V w') := Hid.mk (Pg.refFrame_any 1 l.length 0 1 0 (by omega) (by omega) (by omega) (by omega) (by omega) tx 64 hn2 (by omega) V)
        generalize Pg.padB tx 64 = d0 at *
        generalize Pg.spareB 1 l.length 0 1 0 tx 64 = s0 at *
        clear m0 m1 m2 m3 m4 m5 m6 m7
        go_upto_region 11 with (first
          | (go_at_call 20; refine hfr.out.mono ?_; rintro e w5 ⟨rfl, b5⟩))
        have hF5 : Hid (FB w5 g9 ⟨l.length, 0, 0, 0, 0, 0, 0, ⟨#[]⟩⟩) := Hid.mk ((b5.block g9 (Array.getElem?_eq_some_iff.1 hF.out).1).trans hF.out)
        have hV5 := Hid.mk (hV.out.call b5)
        clear b5 hV hF hfr hxc hxg hn2I hU
        go_cut [68] from 29 to 122 (fun x wx => ∃ b : Bool, x = .bool b ∧ (b = true → l.length < yl) ∧ w5 = wx)
        case first =>
          by_cases hy : l.length < yl
          · obtain ⟨hy0, yg, yo, rfl, hyg, hyc⟩ := BytF.below HX.out.2.1 hV5.out.below l.length hy
            have hyI : (l.length : Int) < (yl : Int) := by omega
            generalize yf l.length = fy at *
            by_cases h99 : 99 < fy
            · go_wp2_with fail
              go_meet
              exact ⟨_, rfl, fun _ => hy, rfl⟩
            · go_wp2_with fail
              go_meet
              exact ⟨_, rfl, fun _ => hy, rfl⟩
          · have hyI : ¬ (l.length : Int) < (yl : Int) := by omega
            go_wp2_with fail
            go_meet
            exact ⟨false, rfl, fun e => (by cases e), rfl⟩
        case rest =>
          obtain ⟨b, rfl, hb, rfl⟩ := hcut
          cases b
          · skip
            have hq4 : (l.length : Int).tdiv 4 = ((l.length / 4 : Nat) : Int) := by rw [Int.tdiv_eq_ediv_of_nonneg (by omega)]; omega
            have hr4 : (l.length : Int).tmod 4 = ((l.length % 4 : Nat) : Int) := by rw [Int.tmod_eq_emod_of_nonneg (by omega)]; omega
            obtain ⟨c, K, S, I, O, W, t, hk1, hk2⟩ := Pg.looks_same d0 s0 (by omega) (by omega)
            have hgeo := hV5.out.pls.geo
            have hpr := Hid.mk (prog_ok hV5.out.chip (l.length / 4) (l.length % 4) (by rw [hgeo.1]; omega) (by rw [hgeo.2.1]; omega) (Hid.mk (pls_ref hV5.out.pls hlt)) d0 s0 _ rfl (by rw [hgeo.2.2]; exact hds) hss (by have := hV5.out.pls.did; omega) hV5.out.pls.free (hV5.out.pls.cuts _) (by rw [hV5.out.pls.dead, hV5.out.pls.fails]; rfl))
            have hP2 := Hid.mk (hV5.out.pls.put hlt hds hss hk1)
            have hB8 : Hid (C.B = 8) := Hid.mk hgeo.1
            have hk2H := Hid.mk hk2
            clear hk1 hk2 hgeo
            go_upto_region 17 with (first
              | (go_at_call 21; refine hpr.out.mono ?_; rintro e w6 ⟨rfl, ch6, k6⟩))
            have hT6 := Hid.mk (hV5.out.t.prog ch6 hB8.out k6)
            have hF6 : Hid (FB w6 g9 ⟨l.length, 0, 0, 0, 0, 0, 0, ⟨#[]⟩⟩) := Hid.mk ((k6.block g9 (Array.getElem?_eq_some_iff.1 hF5.out).1 (fun q => by rw [hB8.out] at q; have := (hV5.out.own g9 q).2; have := hg9.out; omega)).trans hF5.out)
            clear ch6 k6 hpr hV5 hF5
            generalize (putPg { C with did := C.did + 1 } (l.length / 4) (l.length % 4) (kp C.Z (d0 ++ s0))) = C2 at *
            go_upto_region 18 with (first
              | (go_at_call 22; refine (hk2H.out _).mono ?_; rintro e w7 ⟨rfl, b7⟩; have hF7 : Hid (FB w7 g9 ⟨l.length, 0, 0, 0, 0, 0, 0, ⟨#[]⟩⟩) := Hid.mk ((b7.block g9 (Array.getElem?_eq_some_iff.1 hF6.out).1).trans hF6.out); have hT7 := Hid.mk (hT6.out.call b7); obtain ⟨m0, m1, m2, m3, m4, m5, m6, m7⟩ := hF7.out.cells; have z1 := hF7.out.fz 1; have z2 := hF7.out.fz 2; have z3 := hF7.out.fz 3; have z4 := hF7.out.fz 4; have z5 := hF7.out.fz 5; have z6 := hF7.out.fz 6; have z7 := hF7.out.fz 7; clear b7; unfold Pg.tagV))
            have hF := Hid.mk (hF7.out.said c K S I O W t)
            have hV := Hid.mk (hT7.out.off hg9.out (fun e => by have := hlo.out g9 e; omega) hF7.out.cel (fbSet_kp w7 g9 c K S I O W t))
            have hP := hP2
            have efb : fbSet w7 g9 c K S I O W t = (((((((w7.setCell ⟨g9, 1, none⟩ (.int .i64 c)).setCell ⟨g9, 2, none⟩ (.int .i64 K)).setCell ⟨g9, 3, none⟩ (.int .u64 S)).setCell ⟨g9, 4, none⟩ (.int .i64 I)).setCell ⟨g9, 5, none⟩ (.int .i64 O)).setCell ⟨g9, 6, none⟩ (.int .i64 W)).setCell ⟨g9, 7, none⟩ (.string t)) := rfl
            rw [← efb]
            clear efb
            clear m0 m1 m2 m3 m4 m5 m6 m7 z1 z2 z3 z4 z5 z6 z7 hF6 hF7 hT6 hT7 hP2 hk2H
            generalize fbSet w7 g9 c K S I O W t = V7 at *
            obtain ⟨m0, m1, m2, m3, m4, m5, m6, m7⟩ := hF.out.cells
            dsimp only at m0 m1 m2 m3 m4 m5 m6 m7
            go_upto_region 19 with (first
              | (at_builtin; refine wp_app2 ei42 rfl (.tmp 101) (.tmp 103) rfl hV.out.out hV.out.sz #[.int .i64 (l.length : Int), .int .i64 c, .int .i64 K, .int .u64 S, .int .i64 I, .int .i64 O, .int .i64 W, .string t] rfl rfl rfl (by simp [Value.oneCell']) (by rw [List.length_map]; omega) ?_; intro v2 w3 q1 q2 q3))
            have hS3 := Hid.mk (hV.out.more hP.out q1 q2)
            have hc3 : FB w3 g9 ⟨l.length, c, K, S, I, O, W, t⟩ := (q2.block g9 (Array.getElem?_eq_some_iff.1 hF.out).1 (fun e => by have := hlo.out g9 e.symm; omega)).trans hF.out
            obtain ⟨n0, n1, n2, n3, n4, n5, n6, n7⟩ := hc3.cells
            dsimp only at n0 n1 n2 n3 n4 n5 n6 n7
            have hl1 : Hid ((l ++ [(⟨l.length, c, K, S, I, O, W, t⟩ : Fd)]).length = l.length + 1) := Hid.mk (by simp)
            clear q1 q2 q3 hc3 m0 m1 m2 m3 m4 m5 m6 m7 hV hF hP hq4 hr4
            generalize l ++ [(⟨l.length, c, K, S, I, O, W, t⟩ : Fd)] = l1 at *
            by_cases hc0 : c = 0
            · subst hc0
              by_cases h4 : l.length % 4 = 3
              · have h4I : (l.length : Int).tmod 4 = 3 := by rw [Int.tmod_eq_emod_of_nonneg (by omega)]; omega
                go_wp2_with fail
                exact ⟨⟨l1, C2, by rw [hl1.out]; go_num, hS3.out⟩, by simp [intOf]; omega⟩
              · have h4I : ¬ (l.length : Int).tmod 4 = 3 := by rw [Int.tmod_eq_emod_of_nonneg (by omega)]; omega
                go_upto_region 20 with fail
                go_loopw [7, 8] (fun v i wr => ∃ (j : Nat) (l' : List Fd), i = .int .i64 j ∧ l.length ≤ j ∧ l'.length = j + 1 ∧ ScS w w1 L C2 l' v wr) (fun _ i _ => 32 - (intOf i).toNat)
                case atStart => exact ⟨l.length, l1, rfl, Nat.le_refl _, hl1.out, hS3.out⟩
                case round =>
                  clear hS3 hl1
                  obtain ⟨j, l', rfl, hjl, hl', hs⟩ := hrel
                  have hln := hs.pls.len
                  by_cases h5 : j % 4 = 3
                  · have h5I : (j : Int).tmod 4 = 3 := by rw [Int.tmod_eq_emod_of_nonneg (by omega)]; omega
                    have HS := Hid.mk hs
                    clear hs
                    go_wp2_with fail
                    exact ⟨⟨l', C2, by rw [hl']; go_num, HS.out⟩, by simp [intOf]; omega⟩
                  · have h5I : ¬ (j : Int).tmod 4 = 3 := by rw [Int.tmod_eq_emod_of_nonneg (by omega)]; omega
                    obtain ⟨a8, p8, rfl⟩ := hs.out.form
                    rw [List.length_map] at hs ⊢
                    have hP := Hid.mk (hs.pls.skip (by omega))
                    have HS := Hid.mk hs
                    clear hs
                    go_wp2_with (first
                      | (at_builtin; refine wp_app2 ei42 rfl (.tmp 118) (.tmp 121) rfl HS.out.out HS.out.sz #[.int .i64 ((j : Int) + 1), .int .i64 0, .int .i64 0, .int .u64 0, .int .i64 0, .int .i64 0, .int .i64 0, .string ⟨#[]⟩] rfl rfl rfl (by simp [Value.oneCell']) (by rw [List.length_map]; omega) ?_; intro v5 w5 q1 q2 q3))
                    have hrow : (⟨l'.length, 0, 0, 0, 0, 0, 0, ⟨#[]⟩⟩ : Fd).row = [.int .i64 ((j : Int) + 1), .int .i64 0, .int .i64 0, .int .u64 0, .int .i64 0, .int .i64 0, .int .i64 0, .string ⟨#[]⟩] := by
                      have e : ((l'.length : Nat) : Int) = (j : Int) + 1 := by omega
                      unfold Fd.row
                      dsimp only
                      rw [e]
                    have hnx := HS.out.more hP.out (by rw [hrow]; exact q1) q2
                    have hnl : (l' ++ [(⟨l'.length, 0, 0, 0, 0, 0, 0, ⟨#[]⟩⟩ : Fd)]).length = j + 1 + 1 := by rw [List.length_append, List.length_singleton]; omega
                    clear q1 q2 q3 hrow
                    first
                      | exact ⟨⟨j + 1, by go_num, by omega, _, hnl, hnx⟩, by simp [intOf]; omega⟩
                      | exact ⟨⟨j + 1, _, by go_num, by omega, hnl, hnx⟩, by simp [intOf]; omega⟩
            · have hcb : (c == 0) = false := by simpa using hc0
              go_wp2_with fail
              exact ⟨⟨l1, C2, by rw [hl1.out]; go_num, hS3.out⟩, by simp [intOf]; omega⟩
          · have hy := hb rfl
            obtain ⟨hy0, yg, yo, rfl, hyg, hyc⟩ := BytF.below HX.out.2.1 hV5.out.below l.length hy
            have hyI : (l.length : Int) < (yl : Int) := by omega
            generalize yf l.length = fy at *
            have hconv := fun w s => run_bytes_of_string (P := Tryz.prog) w 9 64 5 s Tryz.underlying9 Tryz.underlying64 Tryz.underlying5
            go_upto_region 13 with fail
            have hB0 := (HasBytes.converted w5 d0 (grownCap w5 64 0 5) 5).drew
            have bV : Below w5.heap.size w5 (w5.alloc (.cells (bytesRow d0 (grownCap w5 64 0 5)) 5 ((bytesRow d0 (grownCap w5 64 0 5)).size, (bytesRow d0 (grownCap w5 64 0 5)).size + 1))).drew := ((Below.refl w5.heap.size w5).alloc (Nat.le_refl _) _).drew
            have hgl : w5.heap.size < (w5.alloc (.cells (bytesRow d0 (grownCap w5 64 0 5)) 5 ((bytesRow d0 (grownCap w5 64 0 5)).size, (bytesRow d0 (grownCap w5 64 0 5)).size + 1))).drew.heap.size := by
              show w5.heap.size < (w5.alloc _).heap.size
              rw [size_alloc]
              omega
            have hcel : Hid (Cel (w5.alloc (.cells (bytesRow d0 (grownCap w5 64 0 5)) 5 ((bytesRow d0 (grownCap w5 64 0 5)).size, (bytesRow d0 (grownCap w5 64 0 5)).size + 1))).drew w5.heap.size) := Hid.mk ⟨_, _, _, heap_alloc_new w5 _⟩
            have hcap := grownCap_ge w5 64 0 5
            have hg95 : Hid (g9 < w5.heap.size) := Hid.mk (Array.getElem?_eq_some_iff.1 hF5.out).1
            replace hyc := (bV.cell (p := ⟨yg, yo + l.length, none⟩) hyg).trans hyc
            have hV6 := Hid.mk (hV5.out.call bV)
            have hF6 : Hid (FB _ g9 ⟨l.length, 0, 0, 0, 0, 0, 0, ⟨#[]⟩⟩) := Hid.mk ((bV.block g9 hg95.out).trans hF5.out)
            clear hV5 hF5 hconv
            generalize (w5.alloc (.cells (bytesRow d0 (grownCap w5 64 0 5)) 5 ((bytesRow d0 (grownCap w5 64 0 5)).size, (bytesRow d0 (grownCap w5 64 0 5)).size + 1))).drew = V5 at *
            generalize grownCap w5 64 0 5 = cap at *
            have hG : Hid (w1.heap.size ≤ w5.heap.size ∧ Value.ownBlock (.slice a7 l.length p7) ≠ some w5.heap.size ∧ g9 ≠ w5.heap.size) := Hid.mk ⟨by have := hg9.out; have := hg95.out; omega, fun e => by have := hlo.out _ e; have := hg95.out; omega, by have := hg95.out; omega⟩
            clear hg95 hyg bV
            generalize w5.heap.size = G at *
            obtain ⟨by0, hby⟩ : ∃ b : UInt8, fy = (b.toNat : Int) := ⟨UInt8.ofNat fy.toNat, by rw [UInt8.toNat_ofNat']; omega⟩
            subst hby
            have hl64 : d0.data.toList.length = 64 := by rw [Array.length_toList]; exact hds
            obtain ⟨c1, f1⟩ := hB0 0 (by omega)
            generalize d0.data.toList.getD 0 0 = x0 at *
            have hB1 := hB0.stored 0 (by omega) (x0 ^^^ by0)
            have hT0 := Hid.mk (hV6.out.t.off hG.out.1 hG.out.2.1 hcel.out ((Kp.refl (fun i => i = G) V5).setCell (p := ⟨G, 0, none⟩) rfl (.int .u8 ((x0 ^^^ by0).toNat : Int))))
            have hV7 : Hid (ScS w w1 L C l (.slice a7 l.length p7) (V5.setCell ⟨G, 0, none⟩ (.int .u8 ((x0 ^^^ by0).toNat : Int)))) := Hid.mk ⟨hT0.out.chip, hV6.out.pls, hT0.out.out, hT0.out.tab, hT0.out.below, hT0.out.own, hT0.out.pos, hT0.out.le, hT0.out.sz⟩
            have hF7 : Hid (FB (V5.setCell ⟨G, 0, none⟩ (.int .u8 ((x0 ^^^ by0).toNat : Int))) g9 ⟨l.length, 0, 0, 0, 0, 0, 0, ⟨#[]⟩⟩) := Hid.mk ((heap_setCell_other V5 ⟨G, 0, none⟩ g9 _ hG.out.2.2).trans hF6.out)
            have hx8 := xor8 x0 by0
            generalize x0 ^^^ by0 = xb at *
            have HB1 := Hid.mk hB1
            clear hB1 hB0 hV6 hF6 hT0 hcel
            have hcv := fun (W' : World) (h : HasBytes W' G (d0.data.toList.set 0 xb)) => h.back (P := Tryz.prog) 64 9 5 64 cap (by rw [List.length_set]; exact hl64.symm) Tryz.underlying64 Tryz.underlying5 Tryz.underlying9
            have cv1 := hcv _ HB1.out
            have cv2 := hcv _ HB1.out.drew
            have hds1 : (⟨(d0.data.toList.set 0 xb).toArray⟩ : ByteArray).size = 64 := by
              show (d0.data.toList.set 0 xb).toArray.size = 64
              rw [List.size_toArray, List.length_set]
              exact hl64
            clear hcv hds hl64
            generalize (⟨(d0.data.toList.set 0 xb).toArray⟩ : ByteArray) = d1 at *
            go_region
            go_upto_region 15 with fail
            have hV5 := Hid.mk (hV7.out.call (Below.refl _ (V5.setCell ⟨G, 0, none⟩ (.int .u8 (xb.toNat : Int)))).drew)
            have hF5 : Hid (FB (V5.setCell ⟨G, 0, none⟩ (.int .u8 (xb.toNat : Int))).drew g9 ⟨l.length, 0, 0, 0, 0, 0, 0, ⟨#[]⟩⟩) := Hid.mk hF7.out
            clear hV7 hF7 HB1 cv1 cv2 hx8 hyc c1 f1 hgl hG hcap
            generalize (V5.setCell ⟨G, 0, none⟩ (.int .u8 (xb.toNat : Int))).drew = V9 at *
            have hq4 : (l.length : Int).tdiv 4 = ((l.length / 4 : Nat) : Int) := by rw [Int.tdiv_eq_ediv_of_nonneg (by omega)]; omega
            have hr4 : (l.length : Int).tmod 4 = ((l.length % 4 : Nat) : Int) := by rw [Int.tmod_eq_emod_of_nonneg (by omega)]; omega
            obtain ⟨c, K, S, I, O, W, t, hk1, hk2⟩ := Pg.looks_same d1 s0 (by omega) (by omega)
            have hgeo := hV5.out.pls.geo
            have hpr := Hid.mk (prog_ok hV5.out.chip (l.length / 4) (l.length % 4) (by rw [hgeo.1]; omega) (by rw [hgeo.2.1]; omega) (Hid.mk (pls_ref hV5.out.pls hlt)) d1 s0 _ rfl (by rw [hgeo.2.2]; exact hds1) hss (by have := hV5.out.pls.did; omega) hV5.out.pls.free (hV5.out.pls.cuts _) (by rw [hV5.out.pls.dead, hV5.out.pls.fails]; rfl))
            have hP2 := Hid.mk (hV5.out.pls.put hlt hds1 hss hk1)
            have hB8 : Hid (C.B = 8) := Hid.mk hgeo.1
            have hk2H := Hid.mk hk2
            clear hk1 hk2 hgeo
            go_upto_region 17 with (first
              | (go_at_call 21; refine hpr.out.mono ?_; rintro e w6 ⟨rfl, ch6, k6⟩))
            have hT6 := Hid.mk (hV5.out.t.prog ch6 hB8.out k6)
            have hF6 : Hid (FB w6 g9 ⟨l.length, 0, 0, 0, 0, 0, 0, ⟨#[]⟩⟩) := Hid.mk ((k6.block g9 (Array.getElem?_eq_some_iff.1 hF5.out).1 (fun q => by rw [hB8.out] at q; have := (hV5.out.own g9 q).2; have := hg9.out; omega)).trans hF5.out)
            clear ch6 k6 hpr hV5 hF5
            generalize (putPg { C with did := C.did + 1 } (l.length / 4) (l.length % 4) (kp C.Z (d1 ++ s0))) = C2 at *
            go_upto_region 18 with (first
              | (go_at_call 22; refine (hk2H.out _).mono ?_; rintro e w7 ⟨rfl, b7⟩; have hF7 : Hid (FB w7 g9 ⟨l.length, 0, 0, 0, 0, 0, 0, ⟨#[]⟩⟩) := Hid.mk ((b7.block g9 (Array.getElem?_eq_some_iff.1 hF6.out).1).trans hF6.out); have hT7 := Hid.mk (hT6.out.call b7); obtain ⟨m0, m1, m2, m3, m4, m5, m6, m7⟩ := hF7.out.cells; have z1 := hF7.out.fz 1; have z2 := hF7.out.fz 2; have z3 := hF7.out.fz 3; have z4 := hF7.out.fz 4; have z5 := hF7.out.fz 5; have z6 := hF7.out.fz 6; have z7 := hF7.out.fz 7; clear b7; unfold Pg.tagV))
            have hF := Hid.mk (hF7.out.said c K S I O W t)
            have hV := Hid.mk (hT7.out.off hg9.out (fun e => by have := hlo.out g9 e; omega) hF7.out.cel (fbSet_kp w7 g9 c K S I O W t))
            have hP := hP2
            have efb : fbSet w7 g9 c K S I O W t = (((((((w7.setCell ⟨g9, 1, none⟩ (.int .i64 c)).setCell ⟨g9, 2, none⟩ (.int .i64 K)).setCell ⟨g9, 3, none⟩ (.int .u64 S)).setCell ⟨g9, 4, none⟩ (.int .i64 I)).setCell ⟨g9, 5, none⟩ (.int .i64 O)).setCell ⟨g9, 6, none⟩ (.int .i64 W)).setCell ⟨g9, 7, none⟩ (.string t)) := rfl
            rw [← efb]
            clear efb
            clear m0 m1 m2 m3 m4 m5 m6 m7 z1 z2 z3 z4 z5 z6 z7 hF6 hF7 hT6 hT7 hP2 hk2H
            generalize fbSet w7 g9 c K S I O W t = V7 at *
            obtain ⟨m0, m1, m2, m3, m4, m5, m6, m7⟩ := hF.out.cells
            dsimp only at m0 m1 m2 m3 m4 m5 m6 m7
            go_upto_region 19 with (first
              | (at_builtin; refine wp_app2 ei42 rfl (.tmp 101) (.tmp 103) rfl hV.out.out hV.out.sz #[.int .i64 (l.length : Int), .int .i64 c, .int .i64 K, .int .u64 S, .int .i64 I, .int .i64 O, .int .i64 W, .string t] rfl rfl rfl (by simp [Value.oneCell']) (by rw [List.length_map]; omega) ?_; intro v2 w3 q1 q2 q3))
            have hS3 := Hid.mk (hV.out.more hP.out q1 q2)
            have hc3 : FB w3 g9 ⟨l.length, c, K, S, I, O, W, t⟩ := (q2.block g9 (Array.getElem?_eq_some_iff.1 hF.out).1 (fun e => by have := hlo.out g9 e.symm; omega)).trans hF.out
            obtain ⟨n0, n1, n2, n3, n4, n5, n6, n7⟩ := hc3.cells
            dsimp only at n0 n1 n2 n3 n4 n5 n6 n7
            have hl1 : Hid ((l ++ [(⟨l.length, c, K, S, I, O, W, t⟩ : Fd)]).length = l.length + 1) := Hid.mk (by simp)
            clear q1 q2 q3 hc3 m0 m1 m2 m3 m4 m5 m6 m7 hV hF hP hq4 hr4
            generalize l ++ [(⟨l.length, c, K, S, I, O, W, t⟩ : Fd)] = l1 at *
            by_cases hc0 : c = 0
            · subst hc0
              by_cases h4 : l.length % 4 = 3
              · have h4I : (l.length : Int).tmod 4 = 3 := by rw [Int.tmod_eq_emod_of_nonneg (by omega)]; omega
                go_wp2_with fail
                exact ⟨⟨l1, C2, by rw [hl1.out]; go_num, hS3.out⟩, by simp [intOf]; omega⟩
              · have h4I : ¬ (l.length : Int).tmod 4 = 3 := by rw [Int.tmod_eq_emod_of_nonneg (by omega)]; omega
                go_upto_region 20 with fail
                go_loopw [7, 8] (fun v i wr => ∃ (j : Nat) (l' : List Fd), i = .int .i64 j ∧ l.length ≤ j ∧ l'.length = j + 1 ∧ ScS w w1 L C2 l' v wr) (fun _ i _ => 32 - (intOf i).toNat)
                case atStart => exact ⟨l.length, l1, rfl, Nat.le_refl _, hl1.out, hS3.out⟩
                case round =>
                  clear hS3 hl1
                  obtain ⟨j, l', rfl, hjl, hl', hs⟩ := hrel
                  have hln := hs.pls.len
                  by_cases h5 : j % 4 = 3
                  · have h5I : (j : Int).tmod 4 = 3 := by rw [Int.tmod_eq_emod_of_nonneg (by omega)]; omega
                    have HS := Hid.mk hs
                    clear hs
                    go_wp2_with fail
                    exact ⟨⟨l', C2, by rw [hl']; go_num, HS.out⟩, by simp [intOf]; omega⟩
                  · have h5I : ¬ (j : Int).tmod 4 = 3 := by rw [Int.tmod_eq_emod_of_nonneg (by omega)]; omega
                    obtain ⟨a8, p8, rfl⟩ := hs.out.form
                    rw [List.length_map] at hs ⊢
                    have hP := Hid.mk (hs.pls.skip (by omega))
                    have HS := Hid.mk hs
                    clear hs
                    go_wp2_with (first
                      | (at_builtin; refine wp_app2 ei42 rfl (.tmp 118) (.tmp 121) rfl HS.out.out HS.out.sz #[.int .i64 ((j : Int) + 1), .int .i64 0, .int .i64 0, .int .u64 0, .int .i64 0, .int .i64 0, .int .i64 0, .string ⟨#[]⟩] rfl rfl rfl (by simp [Value.oneCell']) (by rw [List.length_map]; omega) ?_; intro v5 w5 q1 q2 q3))
                    have hrow : (⟨l'.length, 0, 0, 0, 0, 0, 0, ⟨#[]⟩⟩ : Fd).row = [.int .i64 ((j : Int) + 1), .int .i64 0, .int .i64 0, .int .u64 0, .int .i64 0, .int .i64 0, .int .i64 0, .string ⟨#[]⟩] := by
                      have e : ((l'.length : Nat) : Int) = (j : Int) + 1 := by omega
                      unfold Fd.row
                      dsimp only
                      rw [e]
                    have hnx := HS.out.more hP.out (by rw [hrow]; exact q1) q2
                    have hnl : (l' ++ [(⟨l'.length, 0, 0, 0, 0, 0, 0, ⟨#[]⟩⟩ : Fd)]).length = j + 1 + 1 := by rw [List.length_append, List.length_singleton]; omega
                    clear q1 q2 q3 hrow
                    first
                      | exact ⟨⟨j + 1, by go_num, by omega, _, hnl, hnx⟩, by simp [intOf]; omega⟩
                      | exact ⟨⟨j + 1, _, by go_num, by omega, hnl, hnx⟩, by simp [intOf]; omega⟩
            · have hcb : (c == 0) = false := by simpa using hc0
              go_wp2_with fail
              exact ⟨⟨l1, C2, by rw [hl1.out]; go_num, hS3.out⟩, by simp [intOf]; omega⟩
      · skip
        have hV := Hid.mk (HS.out.t.call (Pg.below_one wr (.cells #[.int .i64 (l.length : Int), .int .i64 0, .int .i64 0, .int .u64 0, .int .i64 0, .int .i64 0, .int .i64 0, .string ⟨#[]⟩] 70)))
        have hF : Hid (FB (wr.alloc (.cells #[.int .i64 (l.length : Int), .int .i64 0, .int .i64 0, .int .u64 0, .int .i64 0, .int .i64 0, .int .i64 0, .string ⟨#[]⟩] 70)) wr.heap.size ⟨l.length, 0, 0, 0, 0, 0, 0, ⟨#[]⟩⟩) := heap_alloc_new wr _
        have hlo : Hid (∀ g, (Value.slice a7 l.length p7).ownBlock = some g → g < wr.heap.size) := fun g hg => (HS.out.out.lt g hg).2
        have hP := Hid.mk (HS.out.pls.skip hlt)
        have hg9 : Hid (w1.heap.size ≤ wr.heap.size) := Hid.mk HS.out.sz
        obtain ⟨m0, m1, m2, m3, m4, m5, m6, m7⟩ := hF.out.cells
        clear HS
        generalize (wr.alloc (.cells #[.int .i64 (l.length : Int), .int .i64 0, .int .i64 0, .int .u64 0, .int .i64 0, .int .i64 0, .int .i64 0, .string ⟨#[]⟩] 70)) = V at *
        generalize wr.heap.size = g9 at *
        have htx2 : ¬ l.length < xl ∨ (l.length < xl ∧ ¬ (xf l.length).size ≤ 64) := by omega
        rcases htx2 with hn | ⟨hn, hn2⟩
        · skip
          have hnI : ¬ (l.length : Int) < (xl : Int) := by omega
          go_upto_region 19 with (first
            | (at_builtin; refine wp_app2 ei42 rfl (.tmp 101) (.tmp 103) rfl hV.out.out hV.out.sz #[.int .i64 (l.length : Int), .int .i64 0, .int .i64 0, .int .u64 0, .int .i64 0, .int .i64 0, .int .i64 0, .string ⟨#[]⟩] rfl rfl rfl (by simp [Value.oneCell']) (by rw [List.length_map]; omega) ?_; intro v2 w3 q1 q2 q3))
          have hS3 := Hid.mk (hV.out.more hP.out q1 q2)
          have hc3 : FB w3 g9 ⟨l.length, 0, 0, 0, 0, 0, 0, ⟨#[]⟩⟩ := (q2.block g9 (Array.getElem?_eq_some_iff.1 hF.out).1 (fun e => by have := hlo.out g9 e.symm; omega)).trans hF.out
          obtain ⟨n0, n1, n2, n3, n4, n5, n6, n7⟩ := hc3.cells
          have hl1 : Hid ((l ++ [(⟨l.length, 0, 0, 0, 0, 0, 0, ⟨#[]⟩⟩ : Fd)]).length = l.length + 1) := Hid.mk (by simp)
          clear q1 q2 q3 hc3 m0 m1 m2 m3 m4 m5 m6 m7 hV hF hP
          generalize l ++ [(⟨l.length, 0, 0, 0, 0, 0, 0, ⟨#[]⟩⟩ : Fd)] = l1 at *
          by_cases h4 : l.length % 4 = 3
          · have h4I : (l.length : Int).tmod 4 = 3 := by rw [Int.tmod_eq_emod_of_nonneg (by omega)]; omega
            go_wp2_with fail
            exact ⟨⟨l1, C, by rw [hl1.out]; go_num, hS3.out⟩, by simp [intOf]; omega⟩
          · have h4I : ¬ (l.length : Int).tmod 4 = 3 := by rw [Int.tmod_eq_emod_of_nonneg (by omega)]; omega
            go_upto_region 20 with fail
            go_loopw [7, 8] (fun v i wr => ∃ (j : Nat) (l' : List Fd), i = .int .i64 j ∧ l.length ≤ j ∧ l'.length = j + 1 ∧ ScS w w1 L C l' v wr) (fun _ i _ => 32 - (intOf i).toNat)
            case atStart => exact ⟨l.length, l1, rfl, Nat.le_refl _, hl1.out, hS3.out⟩
            case round =>
              clear hS3 hl1
              obtain ⟨j, l', rfl, hjl, hl', hs⟩ := hrel
              have hln := hs.pls.len
              by_cases h5 : j % 4 = 3
              · have h5I : (j : Int).tmod 4 = 3 := by rw [Int.tmod_eq_emod_of_nonneg (by omega)]; omega
                have HS := Hid.mk hs
                clear hs
                go_wp2_with fail
                exact ⟨⟨l', C, by rw [hl']; go_num, HS.out⟩, by simp [intOf]; omega⟩
              · have h5I : ¬ (j : Int).tmod 4 = 3 := by rw [Int.tmod_eq_emod_of_nonneg (by omega)]; omega
                obtain ⟨a8, p8, rfl⟩ := hs.out.form
                rw [List.length_map] at hs ⊢
                have hP := Hid.mk (hs.pls.skip (by omega))
                have HS := Hid.mk hs
                clear hs
                go_wp2_with (first
                  | (at_builtin; refine wp_app2 ei42 rfl (.tmp 118) (.tmp 121) rfl HS.out.out HS.out.sz #[.int .i64 ((j : Int) + 1), .int .i64 0, .int .i64 0, .int .u64 0, .int .i64 0, .int .i64 0, .int .i64 0, .string ⟨#[]⟩] rfl rfl rfl (by simp [Value.oneCell']) (by rw [List.length_map]; omega) ?_; intro v5 w5 q1 q2 q3))
                have hrow : (⟨l'.length, 0, 0, 0, 0, 0, 0, ⟨#[]⟩⟩ : Fd).row = [.int .i64 ((j : Int) + 1), .int .i64 0, .int .i64 0, .int .u64 0, .int .i64 0, .int .i64 0, .int .i64 0, .string ⟨#[]⟩] := by
                  have e : ((l'.length : Nat) : Int) = (j : Int) + 1 := by omega
                  unfold Fd.row
                  dsimp only
                  rw [e]
                have hnx := HS.out.more hP.out (by rw [hrow]; exact q1) q2
                have hnl : (l' ++ [(⟨l'.length, 0, 0, 0, 0, 0, 0, ⟨#[]⟩⟩ : Fd)]).length = j + 1 + 1 := by rw [List.length_append, List.length_singleton]; omega
                clear q1 q2 q3 hrow
                first
                  | exact ⟨⟨j + 1, by go_num, by omega, _, hnl, hnx⟩, by simp [intOf]; omega⟩
                  | exact ⟨⟨j + 1, _, by go_num, by omega, hnl, hnx⟩, by simp [intOf]; omega⟩
        · skip
          obtain ⟨xg, xo, rfl, hxg, hxc⟩ := TxtF.below HX.out.1 hV.out.below l.length hn
          have hnI : (l.length : Int) < (xl : Int) := by omega
          have hn2I : ¬ ((xf l.length).size : Int) ≤ 64 := by omega
          generalize xf l.length = tx at *
          go_upto_region 19 with (first
            | (at_builtin; refine wp_app2 ei42 rfl (.tmp 101) (.tmp 103) rfl hV.out.out hV.out.sz #[.int .i64 (l.length : Int), .int .i64 0, .int .i64 0, .int .u64 0, .int .i64 0, .int .i64 0, .int .i64 0, .string ⟨#[]⟩] rfl rfl rfl (by simp [Value.oneCell']) (by rw [List.length_map]; omega) ?_; intro v2 w3 q1 q2 q3))
          have hS3 := Hid.mk (hV.out.more hP.out q1 q2)
          have hc3 : FB w3 g9 ⟨l.length, 0, 0, 0, 0, 0, 0, ⟨#[]⟩⟩ := (q2.block g9 (Array.getElem?_eq_some_iff.1 hF.out).1 (fun e => by have := hlo.out g9 e.symm; omega)).trans hF.out
          obtain ⟨n0, n1, n2, n3, n4, n5, n6, n7⟩ := hc3.cells
          have hl1 : Hid ((l ++ [(⟨l.length, 0, 0, 0, 0, 0, 0, ⟨#[]⟩⟩ : Fd)]).length = l.length + 1) := Hid.mk (by simp)
          clear q1 q2 q3 hc3 m0 m1 m2 m3 m4 m5 m6 m7 hV hF hP
          generalize l ++ [(⟨l.length, 0, 0, 0, 0, 0, 0, ⟨#[]⟩⟩ : Fd)] = l1 at *
          by_cases h4 : l.length % 4 = 3
          · have h4I : (l.length : Int).tmod 4 = 3 := by rw [Int.tmod_eq_emod_of_nonneg (by omega)]; omega
            go_wp2_with fail
            exact ⟨⟨l1, C, by rw [hl1.out]; go_num, hS3.out⟩, by simp [intOf]; omega⟩
          · have h4I : ¬ (l.length : Int).tmod 4 = 3 := by rw [Int.tmod_eq_emod_of_nonneg (by omega)]; omega
            go_upto_region 20 with fail
            go_loopw [7, 8] (fun v i wr => ∃ (j : Nat) (l' : List Fd), i = .int .i64 j ∧ l.length ≤ j ∧ l'.length = j + 1 ∧ ScS w w1 L C l' v wr) (fun _ i _ => 32 - (intOf i).toNat)
            case atStart => exact ⟨l.length, l1, rfl, Nat.le_refl _, hl1.out, hS3.out⟩
            case round =>
              clear hS3 hl1
              obtain ⟨j, l', rfl, hjl, hl', hs⟩ := hrel
              have hln := hs.pls.len
              by_cases h5 : j % 4 = 3
              · have h5I : (j : Int).tmod 4 = 3 := by rw [Int.tmod_eq_emod_of_nonneg (by omega)]; omega
                have HS := Hid.mk hs
                clear hs
                go_wp2_with fail
                exact ⟨⟨l', C, by rw [hl']; go_num, HS.out⟩, by simp [intOf]; omega⟩
              · have h5I : ¬ (j : Int).tmod 4 = 3 := by rw [Int.tmod_eq_emod_of_nonneg (by omega)]; omega
                obtain ⟨a8, p8, rfl⟩ := hs.out.form
                rw [List.length_map] at hs ⊢
                have hP := Hid.mk (hs.pls.skip (by omega))
                have HS := Hid.mk hs
                clear hs
                go_wp2_with (first
                  | (at_builtin; refine wp_app2 ei42 rfl (.tmp 118) (.tmp 121) rfl HS.out.out HS.out.sz #[.int .i64 ((j : Int) + 1), .int .i64 0, .int .i64 0, .int .u64 0, .int .i64 0, .int .i64 0, .int .i64 0, .string ⟨#[]⟩] rfl rfl rfl (by simp [Value.oneCell']) (by rw [List.length_map]; omega) ?_; intro v5 w5 q1 q2 q3))
                have hrow : (⟨l'.length, 0, 0, 0, 0, 0, 0, ⟨#[]⟩⟩ : Fd).row = [.int .i64 ((j : Int) + 1), .int .i64 0, .int .i64 0, .int .u64 0, .int .i64 0, .int .i64 0, .int .i64 0, .string ⟨#[]⟩] := by
                  have e : ((l'.length : Nat) : Int) = (j : Int) + 1 := by omega
                  unfold Fd.row
                  dsimp only
                  rw [e]
                have hnx := HS.out.more hP.out (by rw [hrow]; exact q1) q2
                have hnl : (l' ++ [(⟨l'.length, 0, 0, 0, 0, 0, 0, ⟨#[]⟩⟩ : Fd)]).length = j + 1 + 1 := by rw [List.length_append, List.length_singleton]; omega
                clear q1 q2 q3 hrow
                first
                  | exact ⟨⟨j + 1, by go_num, by omega, _, hnl, hnx⟩, by simp [intOf]; omega⟩
                  | exact ⟨⟨j + 1, _, by go_num, by omega, hnl, hnx⟩, by simp [intOf]; omega⟩
    · have hltI : ¬ (l.length : Int) < 32 := by omega
      have h32 : l.length = 32 := by omega
      have hal := all_any hs.chip hs.tab hs.pls.off (fun i => l.getD i fdZ) (fun i hi => hs.pls.lk i (by rw [hs.pls.geo.1, hs.pls.geo.2.1] at hi; omega))
      rw [hs.pls.geo.1, hs.pls.geo.2.1] at hal
      have HA := Hid.mk hal
      have HS := Hid.mk hs
      clear hs hal
      go_upto_region 24 with (first
        | (go_at_call 10; refine HA.out.mono ?_; rintro e w4 ⟨v4, rfl, o4, b4⟩; obtain ⟨a4, c4, rfl⟩ := o4.form; rw [List.length_map, fal_len] at o4 ⊢))
      have efal : fal (fun i => l.getD i fdZ) 32 = l := by
        unfold fal
        apply List.ext_getElem?
        intro j
        by_cases hj : j < 32
        · rw [List.getElem?_map, List.getElem?_range hj, Option.map_some, List.getD_eq_getElem?_getD, List.getElem?_eq_getElem (by omega)]; rfl
        · rw [List.getElem?_eq_none (by simp; omega), List.getElem?_eq_none (by omega)]
      replace o4 : We.Ow w4 wr.heap.size 70 8 (.slice a4 32 c4) (l.map Fd.row) := by
        have := o4
        rw [show 8 * 4 = 32 from rfl, efal] at this
        exact this
      obtain ⟨a7, p7, hv7⟩ := HS.out.out.form
      rw [List.length_map, h32] at hv7
      subst hv7
      have LA : Hid (∀ W, Below w4.heap.size w4 W → We.Ow W wr.heap.size 70 8 (.slice a4 32 c4) (l.map Fd.row) ∧ We.Ow W w1.heap.size 70 8 (.slice a7 32 p7) (l.map Fd.row)) := fun W b => ⟨o4.call b, (HS.out.out.call b4).call b⟩
      have HB4 := Hid.mk (below3 HS.out.below b4)
      clear o4 b4 HA HS efal
      go_upto_region 27 with fail
      go_loopw [15] (fun i wr => ∃ k : Nat, k ≤ 32 ∧ i = .int .i64 k ∧ Below w4.heap.size w4 wr) (fun i _ => 32 - (intOf i).toNat)
      case atStart => exact ⟨0, Nat.zero_le _, rfl, Below.refl _ w4⟩
      case round =>
        obtain ⟨k, hk, rfl, hb⟩ := hrel
        by_cases hk32 : k < 32
        · have hkI : (k : Int) < 32 := by omega
          obtain ⟨oA, oB⟩ := LA.out wr hb
          obtain ⟨f, hf⟩ : ∃ f, l.getD k fdZ = f := ⟨_, rfl⟩
          obtain ⟨ga, rfl, hga, q0, q1, q2, q3, q4, q5, q6, q7⟩ := Ow.fd oA (j := k) (by omega) hf
          obtain ⟨gb, rfl, hgb, r0, r1, r2, r3, r4, r5, r6, r7⟩ := Ow.fd oB (j := k) (by omega) hf
          obtain ⟨f1, f2, f3, f4, f5, f6, f7, f8⟩ := f
          dsimp only at q0 q1 q2 q3 q4 q5 q6 q7 r0 r1 r2 r3 r4 r5 r6 r7
          have HB := Hid.mk hb
          clear hb oA oB hf
          go_upto_region 29 with fail
          go_quiet (fail)
          go_wp2_with fail
          exact ⟨⟨k + 1, by omega, by go_num, below_drewN HB.out⟩, by simp [intOf]; omega⟩
        · have hkI : ¬ (k : Int) < 32 := by omega
          have HB := Hid.mk hb
          clear hb
          go_wp2_with fail
          go_ret
          exact ⟨rfl, below3 HB4.out HB.out⟩
end Go.Proofs.YtaphpdmfjnhlaaaGreatDoor
