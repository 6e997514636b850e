/-
  The law's own answer to which checkpoint is the newest: the walk of newest. Condition: each page's index is below how many there are.
-/
import Derived.Test.YtbhggcleijjofaaDoorAwk
namespace Go.Proofs.YtbhggcleijjofaaDoor
open Go Go.RowKit
set_option maxRecDepth 100000

/-- a page of the law's own -/
def okF (f : Fd) : Prop := 0 ≤ f.S ∧ f.S ≤ 7 ∧ 0 ≤ f.I ∧ f.I < f.O ∧ f.O ≤ 4 ∧ f.W = 0
theorem okF.isC {f : Fd} (h : okF f) : isC f = true ↔ f.c = 1 ∧ f.K = 3 := by
  unfold Go.Proofs.YtbhggcleijjofaaDoor.isC
  rw [decide_eq_true_iff]
  exact ⟨fun x => ⟨x.1, x.2.1⟩, fun x => ⟨x.1, x.2, h.2.2.1, h.2.2.2.1⟩⟩
theorem okF.ok {f : Fd} (h : okF f) : f.ok := by
  unfold okF at h
  unfold Fd.ok U64 N64
  omega
/-- the first n pages of a checkpoint are there -/
def alN (l : List Fd) (S O : Int) (n : Nat) : Bool := (List.range n).all fun j => hasP l S O j
theorem alN_succ (l : List Fd) (S O : Int) (n : Nat) : alN l S O (n + 1) = (alN l S O n && hasP l S O n) := by unfold alN; rw [List.range_succ, List.all_append]; simp
theorem alN_le {l : List Fd} {S O : Int} {n m : Nat} (h : alN l S O n = false) (hnm : n ≤ m) : alN l S O m = false := by
  induction m with
  | zero => obtain rfl : n = 0 := by omega
            exact h
  | succ m ih =>
    by_cases e : n = m + 1
    · rw [← e]; exact h
    · rw [alN_succ, ih (by omega), Bool.false_and]
theorem alN_whole (l : List Fd) (S : Int) (O : Nat) : alN l S O O = true ↔ (cntC l).2 [S, (O : Int)] = (O : Int) := by
  rw [cnt_whole]
  unfold alN
  rw [List.all_eq_true]
  exact ⟨fun h i hi => h i (List.mem_range.2 hi), fun h i hi => h i (List.mem_range.1 hi)⟩
/-- what newest holds -/
structure LnS (w : World) (l : Value × List Fd) (g2 g4 : Nat) (K S I O W : Int) (wr : World) : Prop where
  own : We.Ow wr 0 53 8 l.1 (l.2.map Fd.row)
  below : Below w.heap.size w wr
  b4 : Pg.TB wr g4 K S I O W
  b2 : Pg.TB wr g2 0 0 0 0 0
  lo : w.heap.size ≤ g4 ∧ w.heap.size ≤ g2 ∧ g2 ≠ g4 ∧ ∀ g, l.1.ownBlock = some g → g < w.heap.size
theorem LnS.call {w l g2 g4 K S I O W} {wr w2 : World} (h : LnS w l g2 g4 K S I O W wr) (q : Below wr.heap.size wr w2) : LnS w l g2 g4 K S I O W w2 := ⟨h.own.call q, below3 h.below q, h.b4.call q, h.b2.call q, h.lo⟩
theorem tb_kp {S : Nat → Prop} {w w' : World} {g : Nat} {K' S' I O W : Int} (h : Pg.TB w g K' S' I O W) (k : Kp S w w') (hs : ¬ S g) : Pg.TB w' g K' S' I O W := (k.block g h.lt hs).trans h
theorem tb_set {w : World} {g : Nat} {K0 S0 I0 O0 W0 : Int} (h : Pg.TB w g K0 S0 I0 O0 W0) (K S I O W : Int) :
    Pg.TB (((((w.setCell ⟨g, 0, none⟩ (.int .i64 K)).setCell ⟨g, 1, none⟩ (.int .u64 S)).setCell ⟨g, 2, none⟩ (.int .i64 I)).setCell ⟨g, 3, none⟩ (.int .i64 O)).setCell ⟨g, 4, none⟩ (.int .i64 W)) g K S I O W ∧
    Kp (fun i => i = g) w (((((w.setCell ⟨g, 0, none⟩ (.int .i64 K)).setCell ⟨g, 1, none⟩ (.int .u64 S)).setCell ⟨g, 2, none⟩ (.int .i64 I)).setCell ⟨g, 3, none⟩ (.int .i64 O)).setCell ⟨g, 4, none⟩ (.int .i64 W)) := by
  have q1 : (w.setCell ⟨g, 0, none⟩ (.int .i64 K)).heap[g]? = some (.cells #[.int .i64 K, .int .u64 S0, .int .i64 I0, .int .i64 O0, .int .i64 W0] 43 (0, 0)) := heap_setCell_same w g 0 _ 43 _ h
  have q2 : ((w.setCell ⟨g, 0, none⟩ (.int .i64 K)).setCell ⟨g, 1, none⟩ (.int .u64 S)).heap[g]? = some (.cells #[.int .i64 K, .int .u64 S, .int .i64 I0, .int .i64 O0, .int .i64 W0] 43 (0, 0)) := heap_setCell_same _ g 1 _ 43 _ q1
  have q3 : (((w.setCell ⟨g, 0, none⟩ (.int .i64 K)).setCell ⟨g, 1, none⟩ (.int .u64 S)).setCell ⟨g, 2, none⟩ (.int .i64 I)).heap[g]? = some (.cells #[.int .i64 K, .int .u64 S, .int .i64 I, .int .i64 O0, .int .i64 W0] 43 (0, 0)) := heap_setCell_same _ g 2 _ 43 _ q2
  have q4 : ((((w.setCell ⟨g, 0, none⟩ (.int .i64 K)).setCell ⟨g, 1, none⟩ (.int .u64 S)).setCell ⟨g, 2, none⟩ (.int .i64 I)).setCell ⟨g, 3, none⟩ (.int .i64 O)).heap[g]? = some (.cells #[.int .i64 K, .int .u64 S, .int .i64 I, .int .i64 O, .int .i64 W0] 43 (0, 0)) := heap_setCell_same _ g 3 _ 43 _ q3
  have s : ∀ {a : World} (o : Nat) (v : Value), Kp (fun j => j = g) w a → Kp (fun j => j = g) w (a.setCell ⟨g, o, none⟩ v) := fun o v k => Kp.setCell (p := ⟨g, o, none⟩) k (show g = g from rfl) v
  exact ⟨heap_setCell_same _ g 4 _ 43 _ q4, s _ _ (s _ _ (s _ _ (s _ _ (s _ _ (Kp.refl _ w)))))⟩
theorem LnS.set {w l g2 g4 K S I O W} {wr : World} (h : LnS w l g2 g4 K S I O W wr) (K' S' I' O' W' : Int) : LnS w l g2 g4 K' S' I' O' W' (((((wr.setCell ⟨g4, 0, none⟩ (.int .i64 K')).setCell ⟨g4, 1, none⟩ (.int .u64 S')).setCell ⟨g4, 2, none⟩ (.int .i64 I')).setCell ⟨g4, 3, none⟩ (.int .i64 O')).setCell ⟨g4, 4, none⟩ (.int .i64 W')) := by
  obtain ⟨q1, k⟩ := tb_set h.b4 K' S' I' O' W'
  have hl := h.lo
  exact ⟨h.own.same (fun g hg => k.block g (h.own.lt g hg).2 (fun e => by have := hl.2.2.2 g hg; omega)), Kp.below h.below k h.below.size (fun i hi => by omega), q1, tb_kp h.b2 k (fun e => hl.2.2.1 e), h.lo⟩
set_option maxHeartbeats 3000000 in
theorem lawNewest_any (v : Value) (l : List Fd) (w : World) (h : We.Ow w 0 53 8 v (l.map Fd.row)) (hl : ∀ f ∈ l, okF f) (hlen : l.length ≤ 100) : Calls Tryd.prog 13 #[v] w fun e w' =>
    ∃ K S I O W : Int, e = .returned (.tuple #[Pg.tagV K S I O W, .bool (nwW l).isSome]) ∧ (∀ p, nwW l = some p → K = 3 ∧ S = p.1 ∧ O = p.2) ∧ Below w.heap.size w w' := by
  obtain ⟨a, cap, hv⟩ := h.form
  rw [List.length_map] at hv
  have H := Hid.mk h
  have HL := Hid.mk hl
  subst hv
  clear h hl
  obtain ⟨R, hR⟩ : ∃ R, nwW l = R := ⟨_, rfl⟩
  rw [hR]
  unfold nwW at hR
  generalize hn : l.length = len at *
  have hlenI : (len : Int) ≤ 100 := by omega
  go_enter Tryd.func13, Tryd.ntmps13
  go_upto_region 3 with fail
  have b1 := Pg.below_one w (.cells #[.int .i64 0, .int .u64 0, .int .i64 0, .int .i64 0, .int .i64 0] 43)
  have b2 := Pg.below_one (w.alloc (.cells #[.int .i64 0, .int .u64 0, .int .i64 0, .int .i64 0, .int .i64 0] 43)) (.cells #[.int .i64 0, .int .u64 0, .int .i64 0, .int .i64 0, .int .i64 0] 43)
  have N0 : LnS w (.slice a len cap, l) w.heap.size (w.heap.size + 1) 0 0 0 0 0 ((w.alloc (.cells #[.int .i64 0, .int .u64 0, .int .i64 0, .int .i64 0, .int .i64 0] 43)).alloc (.cells #[.int .i64 0, .int .u64 0, .int .i64 0, .int .i64 0, .int .i64 0] 43)) := by
    have t4 := Pg.TB.fresh (w.alloc (.cells #[.int .i64 0, .int .u64 0, .int .i64 0, .int .i64 0, .int .i64 0] 43)) 0 0 0 0 0
    rw [size_alloc] at t4
    exact ⟨(H.out.call b1).call b2, below3 b1 b2, t4, (Pg.TB.fresh w 0 0 0 0 0).call b2, by omega, Nat.le_refl _, by omega, fun g hg => (H.out.lt g hg).2⟩
  generalize w.heap.size + 1 = g4 at *
  obtain ⟨g2, hg2⟩ : ∃ b, b = w.heap.size := ⟨_, rfl⟩
  rw [← hg2] at N0
  rw [← hg2]
  generalize ((w.alloc (.cells #[.int .i64 0, .int .u64 0, .int .i64 0, .int .i64 0, .int .i64 0] 43)).alloc (.cells #[.int .i64 0, .int .u64 0, .int .i64 0, .int .i64 0, .int .i64 0] 43)) = W at *
  replace N0 := Hid.mk N0
  replace hR := Hid.mk hR
  clear H b1 b2 hg2
  go_loopw [5, 6] (fun vi i wr => ∃ (k : Nat) (acc : Option (Int × Int)) (K S I O W : Int), k ≤ len ∧ i = .int .i64 k ∧ vi = .bool acc.isSome ∧ (l.drop k).foldl (stN (cntC l).2) acc = R ∧ (∀ p, acc = some p → K = 3 ∧ S = p.1 ∧ O = p.2) ∧ LnS w (.slice a len cap, l) g2 g4 K S I O W wr) (fun _ i _ => len - (intOf i).toNat)
  case atStart => exact ⟨0, none, 0, 0, 0, 0, 0, Nat.zero_le _, rfl, rfl, hR.out, (fun p hp => by cases hp), N0.out⟩
  case round =>
    clear N0 hR
    obtain ⟨k, acc, K, S, I, O, Wo, hk, rfl, rfl, hR, hacc, hs⟩ := hrel
    by_cases hlt : k < len
    · have hltI : (k : Int) < (len : Int) := by omega
      have hltl : k < l.length := by rw [hn]; exact hlt
      obtain ⟨f, hf⟩ : ∃ f, l.getD k ⟨0, 0, 0, 0, 0, 0, 0, ⟨#[]⟩⟩ = f := ⟨_, rfl⟩
      have hfm : f ∈ l := by rw [← hf]; simp [List.getD_eq_getElem?_getD, hltl]
      have hof := HL.out f hfm
      have hdr : l.drop k = f :: l.drop (k + 1) := by
        rw [List.drop_eq_getElem_cons hltl, ← hf]
        simp [List.getD_eq_getElem?_getD, hltl]
      rw [hdr, List.foldl_cons] at hR
      replace hR := Hid.mk hR
      obtain ⟨g, rfl, hg, c0, c1, c2, c3, c4, c5, c6, c7⟩ := Ow.fd hs.own hltl hf
      have hsC := Hid.mk hof.isC
      obtain ⟨fa, fc, fK, fS, fI, fO, fW, ft⟩ := f
      dsimp only at c0 c1 c2 c3 c4 c5 c6 c7
      by_cases h1 : fc = 1
      · by_cases h3 : fK = 3
        · subst h1 h3
          have hCt : isC ⟨fa, 1, 3, fS, fI, fO, fW, ft⟩ = true := hsC.out.2 ⟨rfl, rfl⟩
          by_cases hgt : gtN acc fS = true
          · have b7 := Pg.below_one wr (.cells #[.int .i64 3, .int .u64 fS, .int .i64 fI, .int .i64 fO, .int .i64 fW] 43)
            have HS7 := Hid.mk (hs.call b7)
            have T7 := Hid.mk (Pg.TB.fresh wr 3 fS fI fO fW)
            obtain ⟨e0, e1, e2, e3, e4⟩ := HS7.out.b4.five
            obtain ⟨t0, t1, t2, t3, t4⟩ := T7.out.five
            have z1 := (b7.cell (p := ⟨g, k * 8 + 1, none⟩) hg).trans c1
            have hof' := Hid.mk hof
            replace hacc := Hid.mk hacc
            replace hCt := Hid.mk hCt
            have hg7 : Hid (wr.heap.size ≠ g4 ∧ w.heap.size ≤ wr.heap.size) := Hid.mk ⟨by have := hs.b4.lt; omega, hs.below.size⟩
            clear hs hsC hof hfm hf hdr b7
            go_upto_region 6 with fail
            clear c0 c1 c2 c3 c4 c5 c6 c7 hg
            generalize (wr.alloc (.cells #[.int .i64 3, .int .u64 fS, .int .i64 fI, .int .i64 fO, .int .i64 fW] 43)) = V at *
            generalize wr.heap.size = g7 at *
            go_cut [45] from 14 to 44 (fun v wx => v = .bool false ∧ V = wx)
            case first =>
              cases acc with
              | none =>
                go_wp2_with fail
                go_meet
                exact ⟨rfl, rfl⟩
              | some pp =>
                obtain ⟨s, o⟩ := pp
                obtain ⟨_, hq, _⟩ := hacc.out _ rfl
                have hlt2 : ¬ fS ≤ S := by
                  have := of_decide_eq_true hgt
                  dsimp only at this hq
                  omega
                clear hq hgt
                go_wp2_with fail
                go_meet
                exact ⟨rfl, rfl⟩
            case rest =>
              obtain ⟨rfl, rfl⟩ := hcut
              clear e0 e1 e2 e3 e4 t0 t1 t2 t3 t4 z1
              go_upto_region 9 with fail
              obtain ⟨ON, hON⟩ := Int.eq_ofNat_of_zero_le (show 0 ≤ fO by have := hof'.out; unfold okF at this; dsimp only at this; omega)
              subst hON
              have hON4 : ON ≤ 4 := by have := hof'.out; unfold okF at this; dsimp only at this; omega
              go_loopw [8, 9] (fun vw vn wx => ∃ n : Nat, n ≤ ON ∧ vn = .int .i64 n ∧ vw = .bool (alN l fS ON n) ∧ LnS w (.slice (some ⟨g, 0, none⟩) len cap, l) g2 g4 K S I O Wo wx ∧ Pg.TB wx g7 3 fS fI ON fW) (fun _ vn _ => ON - (intOf vn).toNat)
              case atStart => exact ⟨0, Nat.zero_le _, rfl, rfl, HS7.out, T7.out⟩
              case round =>
                clear HS7 T7
                obtain ⟨n, hn4, rfl, rfl, hs2, ht2⟩ := hrel
                obtain ⟨t0, t1, t2, t3, t4⟩ := ht2.five
                obtain ⟨al, hal⟩ : ∃ al, alN l fS ON n = al := ⟨_, rfl⟩
                rw [hal]
                have HS2 := Hid.mk (And.intro hs2 ht2)
                clear hs2 ht2
                by_cases hgo : n < ON ∧ al = true
                · obtain ⟨hnO, rfl⟩ := hgo
                  have hnOI : (n : Int) < (ON : Int) := by omega
                  go_upto_region 13 with fail
                  go_loopw [10, 11] (fun vt vk wx => ∃ j : Nat, j ≤ len ∧ vk = .int .i64 j ∧ vt = .bool (hasP (l.take j) fS ON n) ∧ LnS w (.slice (some ⟨g, 0, none⟩) len cap, l) g2 g4 K S I O Wo wx ∧ Pg.TB wx g7 3 fS fI ON fW) (fun _ vk _ => len - (intOf vk).toNat)
                  case atStart => exact ⟨0, Nat.zero_le _, rfl, rfl, HS2.out.1, HS2.out.2⟩
                  case round =>
                    clear HS2
                    obtain ⟨j, hj, rfl, rfl, hs3, ht3⟩ := hrel
                    clear t0 t1 t2 t3 t4
                    by_cases hjl : j < len
                    · have hjlI : (j : Int) < (len : Int) := by omega
                      have hjl2 : j < l.length := by rw [hn]; exact hjl
                      obtain ⟨f2, hf2⟩ : ∃ f, l.getD j ⟨0, 0, 0, 0, 0, 0, 0, ⟨#[]⟩⟩ = f := ⟨_, rfl⟩
                      have hof2 := (HL.out f2 (by rw [← hf2]; simp [List.getD_eq_getElem?_getD, hjl2])).isC
                      have hsn := hasP_snoc (l.take j) f2 fS ON n
                      have htk : l.take (j + 1) = l.take j ++ [f2] := by
                        rw [List.take_succ_eq_append_getElem hjl2, ← hf2]
                        simp [List.getD_eq_getElem?_getD, hjl2]
                      rw [← htk] at hsn
                      obtain ⟨g', hg', hgl, d0, d1, d2, d3, d4, d5, d6, d7⟩ := Ow.fd hs3.own hjl2 hf2
                      obtain rfl : g = g' := by simpa using hg'
                      obtain ⟨fa2, fc2, fK2, fS2, fI2, fO2, fW2, ft2⟩ := f2
                      dsimp only at d0 d1 d2 d3 d4 d5 d6 d7 hsn hof2
                      have b9 := Pg.below_one wr (.cells #[.int .i64 fK2, .int .u64 fS2, .int .i64 fI2, .int .i64 fO2, .int .i64 fW2] 43)
                      have HV := Hid.mk (And.intro (hs3.call b9) (ht3.call b9))
                      obtain ⟨t0, t1, t2, t3, t4⟩ := HV.out.2.five
                      have y1 := (b9.cell (p := ⟨g, j * 8 + 1, none⟩) hgl).trans d1
                      obtain ⟨th, hth⟩ : ∃ th, hasP (l.take j) fS ON n = th := ⟨_, rfl⟩
                      rw [hth] at hsn ⊢
                      replace hsn := Hid.mk hsn
                      replace hof2 := Hid.mk hof2
                      clear hs3 ht3 b9 hth htk hf2 hg'
                      cases th with
                      | true =>
                        go_wp2_with fail
                        exact ⟨⟨j + 1, by omega, by go_num, by rw [hsn.out]; rw [Bool.true_or], HV.out.1, HV.out.2⟩, by simp [intOf]; omega⟩
                      | false =>
                        by_cases k1 : fc2 = 1
                        · subst k1
                          by_cases k2 : fK2 = 3
                          · subst k2
                            have hC2 := Hid.mk (hof2.out.2 ⟨rfl, rfl⟩)
                            by_cases k3 : fS2 = fS
                            · subst k3
                              by_cases k4 : fO2 = (ON : Int)
                              · subst k4
                                by_cases k5 : fI2 = (n : Int)
                                · subst k5
                                  go_wp2_with fail
                                  exact ⟨⟨j + 1, by omega, by go_num, by rw [hsn.out]; rw [hC2.out, decide_eq_true ⟨rfl, rfl, rfl⟩]; rfl, HV.out.1, HV.out.2⟩, by simp [intOf]; omega⟩
                                · have k5b : (fI2 == (n : Int)) = false := by simpa using k5
                                  go_wp2_with fail
                                  exact ⟨⟨j + 1, by omega, by go_num, by rw [hsn.out]; rw [decide_eq_false (fun q => k5 q.2.2), Bool.and_false]; rfl, HV.out.1, HV.out.2⟩, by simp [intOf]; omega⟩
                              · have k4b : (fO2 == (ON : Int)) = false := by simpa using k4
                                go_wp2_with fail
                                exact ⟨⟨j + 1, by omega, by go_num, by rw [hsn.out]; rw [decide_eq_false (fun q => k4 q.2.1), Bool.and_false]; rfl, HV.out.1, HV.out.2⟩, by simp [intOf]; omega⟩
                            · have k3b : (fS2 == fS) = false := by simpa using k3
                              go_wp2_with fail
                              exact ⟨⟨j + 1, by omega, by go_num, by rw [hsn.out]; rw [decide_eq_false (fun q => k3 q.1), Bool.and_false]; rfl, HV.out.1, HV.out.2⟩, by simp [intOf]; omega⟩
                          · have k2b : isC ⟨fa2, 1, fK2, fS2, fI2, fO2, fW2, ft2⟩ = false := Bool.eq_false_iff.2 (fun q => k2 (hof2.out.1 q).2)
                            replace k2b := Hid.mk k2b
                            go_wp2_with fail
                            exact ⟨⟨j + 1, by omega, by go_num, by rw [hsn.out]; rw [k2b.out]; rfl, HV.out.1, HV.out.2⟩, by simp [intOf]; omega⟩
                        · have k1b : isC ⟨fa2, fc2, fK2, fS2, fI2, fO2, fW2, ft2⟩ = false := Bool.eq_false_iff.2 (fun q => k1 (hof2.out.1 q).1)
                          replace k1b := Hid.mk k1b
                          go_wp2_with fail
                          exact ⟨⟨j + 1, by omega, by go_num, by rw [hsn.out]; rw [k1b.out]; rfl, HV.out.1, HV.out.2⟩, by simp [intOf]; omega⟩
                    · obtain rfl : j = len := by omega
                      rw [List.take_of_length_le (by omega)]
                      have hal2 : alN l fS ON (n + 1) = hasP l fS ON n := by rw [alN_succ, hal, Bool.true_and]
                      have HV := Hid.mk (And.intro hs3 ht3)
                      replace hal2 := Hid.mk hal2
                      clear hs3 ht3
                      go_wp2_with fail
                      exact ⟨⟨n + 1, by omega, by go_num, by rw [hal2.out], HV.out.1, HV.out.2⟩, by simp [intOf]; omega⟩
                · have hall : alN l fS ON ON = al := by
                    cases al with
                    | false => exact alN_le hal hn4
                    | true =>
                      obtain rfl : n = ON := by
                        by_cases e : n < ON
                        · exact absurd ⟨e, rfl⟩ hgo
                        · omega
                      exact hal
                  cases al with
                  | true =>
                    obtain rfl : n = ON := by
                      by_cases e : n < ON
                      · exact absurd ⟨e, rfl⟩ hgo
                      · omega
                    have hyes : stN (cntC l).2 acc ⟨fa, 1, 3, fS, fI, n, fW, ft⟩ = some (fS, (n : Int)) := stN_yes ⟨hCt.out, (alN_whole l fS n).1 hall, hgt⟩
                    rw [hyes] at hR
                    have M := Hid.mk (HS2.out.1.set 3 fS fI n fW)
                    obtain ⟨e0, e1, e2, e3, e4⟩ := HS2.out.1.b4.five
                    have f0 := HS2.out.1.b4.frozen 0
                    have f1 := HS2.out.1.b4.frozen 1
                    have f2 := HS2.out.1.b4.frozen 2
                    have f3 := HS2.out.1.b4.frozen 3
                    have f4 := HS2.out.1.b4.frozen 4
                    clear hyes hall hal hgo hgt hCt hacc HS2 hof'
                    go_wp2_with fail
                    exact ⟨⟨k + 1, some (fS, (n : Int)), 3, fS, fI, n, fW, by omega, by go_num, rfl, hR.out, (fun p hp => by cases hp; exact ⟨rfl, rfl, rfl⟩), M.out⟩, by simp [intOf]; omega⟩
                  | false =>
                    have hno : stN (cntC l).2 acc ⟨fa, 1, 3, fS, fI, ON, fW, ft⟩ = acc := stN_no (fun q => by
                      have := (alN_whole l fS ON).2 q.2.1
                      rw [hall] at this
                      cases this)
                    rw [hno] at hR
                    by_cases hnO : n < ON
                    · have hnOI : (n : Int) < (ON : Int) := by omega
                      clear hno hall hal hgo hgt hCt hof'
                      go_wp2_with fail
                      exact ⟨⟨k + 1, acc, K, S, I, O, Wo, by omega, by go_num, rfl, hR.out, hacc.out, HS2.out.1⟩, by simp [intOf]; omega⟩
                    · have hnOI : ¬ (n : Int) < (ON : Int) := by omega
                      clear hno hall hal hgo hgt hCt hof'
                      go_wp2_with fail
                      exact ⟨⟨k + 1, acc, K, S, I, O, Wo, by omega, by go_num, rfl, hR.out, hacc.out, HS2.out.1⟩, by simp [intOf]; omega⟩
          · -- not above
            have hno : stN (cntC l).2 acc ⟨fa, 1, 3, fS, fI, fO, fW, ft⟩ = acc := stN_no (fun q => hgt q.2.2)
            rw [hno] at hR
            cases acc with
            | none => exact absurd rfl hgt
            | some pp =>
              obtain ⟨s, o⟩ := pp
              obtain ⟨hK3, hSs, hOo⟩ := hacc _ rfl
              dsimp only at hSs hOo
              subst hK3 hSs hOo
              have hle : fS ≤ S := by
                by_cases e : S < fS
                · exact absurd (decide_eq_true e) hgt
                · omega
              clear hacc hgt hno
              have b7 := Pg.below_one wr (.cells #[.int .i64 3, .int .u64 fS, .int .i64 fI, .int .i64 fO, .int .i64 fW] 43)
              have HS7 := Hid.mk (hs.call b7)
              obtain ⟨e0, e1, e2, e3, e4⟩ := HS7.out.b4.five
              have z1 := (b7.cell (p := ⟨g, k * 8 + 1, none⟩) hg).trans c1
              clear hs hsC hof hfm hf hdr b7 hCt
              go_wp2_with fail
              exact ⟨⟨k + 1, some (S, O), 3, S, I, O, Wo, by omega, by go_num, rfl, hR.out, (fun p hp => by cases hp; exact ⟨rfl, rfl, rfl⟩), HS7.out⟩, by simp [intOf]; omega⟩
        · have hno : stN (cntC l).2 acc ⟨fa, fc, fK, fS, fI, fO, fW, ft⟩ = acc := stN_no (fun q => h3 (hsC.out.1 q.1).2)
          rw [hno] at hR
          have HS := Hid.mk hs
          have hacc' := Hid.mk hacc
          clear hs hacc hsC hof hfm hf hdr
          go_wp2_with fail
          exact ⟨⟨k + 1, acc, K, S, I, O, Wo, by omega, by go_num, rfl, hR.out, hacc'.out, HS.out.call (Pg.below_one wr _)⟩, by simp [intOf]; omega⟩
      · have hno : stN (cntC l).2 acc ⟨fa, fc, fK, fS, fI, fO, fW, ft⟩ = acc := stN_no (fun q => h1 (hsC.out.1 q.1).1)
        rw [hno] at hR
        have HS := Hid.mk hs
        have hacc' := Hid.mk hacc
        clear hs hacc hsC hof hfm hf hdr
        go_wp2_with fail
        exact ⟨⟨k + 1, acc, K, S, I, O, Wo, by omega, by go_num, rfl, hR.out, hacc'.out, HS.out.call (Pg.below_one wr _)⟩, by simp [intOf]; omega⟩
    · obtain rfl : k = len := by omega
      rw [List.drop_of_length_le (by omega)] at hR
      replace hR : acc = R := hR
      subst hR
      have HS := Hid.mk hs
      obtain ⟨e0, e1, e2, e3, e4⟩ := hs.b4.five
      obtain ⟨d0, d1, d2, d3, d4⟩ := hs.b2.five
      have f0 := hs.b2.frozen 0
      have f1 := hs.b2.frozen 1
      have f2 := hs.b2.frozen 2
      have f3 := hs.b2.frozen 3
      have f4 := hs.b2.frozen 4
      have M := tb_set hs.b2 K S I O Wo
      have MB := Hid.mk (Kp.below hs.below M.2 hs.below.size (fun i hi => by have := hs.lo; omega))
      have M1 := Hid.mk M.1
      clear hs M
      go_wp2_with fail
      exact bodyPost_ret (Pg.tb_result rfl rfl M1.out) rfl ⟨K, S, I, O, Wo, rfl, hacc, MB.out⟩
end Go.Proofs.YtbhggcleijjofaaDoor
