/-
  ModelCopies: the walk. No condition.
-/
import Derived.Test.YtacgemibaojbaaaPly
import Derived.BigQuiet
namespace Go.Proofs.Ytacgemibaojbaaa
open Go Go.RowKit Go.Maps

theorem MxH.far {g X bS bO fS fO w w' g2} (h : MxH g X bS bO fS fO w) (q : w.grownBy w' (some g2)) (hne : g ≠ g2) {cs : Array Value} {t : TypeId} {z : Nat × Nat} (hc : w.heap[g2]? = some (.cells cs t z)) : MxH g X bS bO fS fO w' := by
  have e : ∀ i, i < w.heap.size → (∃ R m, Mp R w i m) → w'.heap[i]? = w.heap[i]? := fun i hi ⟨R, m, hm⟩ => q.block i hi (by simpa using (not_map' hm hc).symm)
  exact ⟨(q.block g h.lt (by simpa using hne)).trans h.box, h.st.same' e, h.op.same e, h.inv⟩
/-- two devices, and what the first one showed -/
structure CyS (w : World) (g g2 : Nat) (X X2 : MX) (va vb vx vy : Value) (wr : World) : Prop where
  m : MxA w.heap.size g X w wr
  c : MxA w.heap.size g2 X2 w wr
  ne : g ≠ g2
  a : Ow wr w.heap.size 62 3 va ((lvA (nowL X)).map (lfR X.L))
  b : Ow wr w.heap.size 64 4 vb ((nowL X).map svR)
  x : Ow wr w.heap.size 62 3 vx ((lvA (nowL X)).map (lfR X.L))
  y : Ow wr w.heap.size 64 4 vy ((nowL X).map svR)
theorem CyS.call {w g g2 X X2 va vb vx vy wr w'} (h : CyS w g g2 X X2 va vb vx vy wr) (q : Below wr.heap.size wr w') : CyS w g g2 X X2 va vb vx vy w' :=
  ⟨h.m.call q, h.c.call q, h.ne, h.a.call q, h.b.call q, h.x.call q, h.y.call q⟩
theorem CyS.drewN {w g g2 X X2 va vb vx vy wr} (h : CyS w g g2 X X2 va vb vx vy wr) (k : Nat) : CyS w g g2 X X2 va vb vx vy (wr.drewN k) := h.call (below_drewN (Below.refl _ wr))
theorem Ow.atL {w : World} {B a n cap} {L : Int → ByteArray} {l : List L3} (h : Ow w B 62 3 (.slice a n cap) (l.map (lfR L))) {k : Nat} (hk : k < l.length) : ∃ g, a = some ⟨g, 0, none⟩ ∧ w.cell? ⟨g, k * 3, none⟩ = some (.int .i64 (l.getD k (0, 0, 0)).1) ∧ w.cell? ⟨g, k * 3 + 1, none⟩ = some (.int .i64 (l.getD k (0, 0, 0)).2.1) ∧ w.cell? ⟨g, k * 3 + 2, none⟩ = some (.string (L (l.getD k (0, 0, 0)).2.2)) := by
  obtain ⟨g, rfl, hB, hl, hc⟩ := h.at (j := k) (by rw [List.length_map]; exact hk)
  have e : (l.map (lfR L)).getD k [] = lfR L (l.getD k (0, 0, 0)) := by simp [List.getD_eq_getElem?_getD, hk]
  rw [e] at hc
  exact ⟨g, rfl, hc 0 (by omega), hc 1 (by omega), hc 2 (by omega)⟩
theorem Ow.atS {w : World} {B a n cap} {l : List Asp} (h : Ow w B 64 4 (.slice a n cap) (l.map svR)) {k : Nat} (hk : k < l.length) : ∃ g, a = some ⟨g, 0, none⟩ ∧ w.cell? ⟨g, k * 4, none⟩ = some (.int .i64 (l.getD k ⟨0, 0, false, []⟩).id) ∧ w.cell? ⟨g, k * 4 + 1, none⟩ = some (.int .i64 (l.getD k ⟨0, 0, false, []⟩).q) ∧ w.cell? ⟨g, k * 4 + 2, none⟩ = some (.int .i64 ((l.getD k ⟨0, 0, false, []⟩).ps.length : Int)) ∧ w.cell? ⟨g, k * 4 + 3, none⟩ = some (.bool (l.getD k ⟨0, 0, false, []⟩).sl) := by
  obtain ⟨g, rfl, hB, hl, hc⟩ := h.at (j := k) (by rw [List.length_map]; exact hk)
  have e : (l.map svR).getD k [] = svR (l.getD k ⟨0, 0, false, []⟩) := by simp [List.getD_eq_getElem?_getD, hk]
  rw [e] at hc
  exact ⟨g, rfl, hc 0 (by omega), hc 1 (by omega), hc 2 (by omega), hc 3 (by omega)⟩
set_option maxRecDepth 20000 in
set_option maxHeartbeats 4000000 in
theorem modelCopies_walk {a1 a2 : Option Addr} {n1 c1 n2 c2 : Nat} {f1 f2 : Nat → Ac} (w : World) (h1 : ActF w a1 n1 f1) (h2 : ActF w a2 n2 f2) : Calls Try.prog 4 #[.slice a1 n1 c1, .slice a2 n2 c2] w fun e w' => e = .returned (.bool true) ∧ Below w.heap.size w w' := by
  have R := Hid.mk (room_any w 9)
  rw [r9.1, r9.2] at R
  have N := Hid.mk (fun W => new_any W 10 20 0 0 64)
  have H := Hid.mk (And.intro h1 h2)
  clear h1 h2
  go_enter Try.func4, Try.ntmps4
  go_upto_region 2 with (first
    | (go_at_call 6; refine R.out.mono ?_; rintro e W1 ⟨rfl, b1⟩)
    | (go_at_call 7; refine (N.out _).mono ?_; rintro e W2 ⟨g, bS, rfl, h2, hg2, b2⟩))
  have A2 : MxA w.heap.size g w0 w W2 := ⟨⟨_, _, _, _, h2⟩, below3 b1 b2, Nat.le_trans b1.size hg2, Nat.le_trans b1.size b2.size⟩
  have p1 := Hid.mk (play_any (cap := c1) H.out.1 A2 (by decide))
  clear R N h2 hg2 b1 b2 A2
  go_upto_region 3 with (first | (go_at_call 17; refine p1.out.mono ?_; rintro e W3 ⟨rfl, s3⟩))
  have hX1 : (runM w0 f1 (min n1 60)).puts + 60 ≤ 1900 := by have := (run_puts w0 f1 (min n1 60)).2; have h0 : w0.puts = 0 := rfl; omega
  generalize runM w0 f1 (min n1 60) = X at *
  replace s3 := Hid.mk s3.at'
  clear p1
  have l3 : ∀ W, Below W3.heap.size W3 W → Calls Try.prog 18 #[.pointer (some ⟨g, 0, none⟩)] W _ := fun W b => by
    obtain ⟨⟨_, _, _, _, h⟩, -, -, -⟩ := s3.out
    exact leaves_len (h.call b)
  have m3 : ∀ W, Below W3.heap.size W3 W → Calls Try.prog 19 #[.pointer (some ⟨g, 0, none⟩)] W _ := fun W b => by
    obtain ⟨⟨_, _, _, _, h⟩, -, -, -⟩ := s3.out
    exact spaces_len (h.call b)
  have LM := Hid.mk (And.intro l3 m3)
  clear l3 m3
  go_upto_region 4 with (first
    | (go_at_call 18; refine (LM.out.1 _ (Below.refl _ W3)).mono ?_; rintro e W4 ⟨aa, ac, rfl, oa, b4⟩)
    | (go_at_call 19; refine (LM.out.2 _ b4).mono ?_; rintro e W5 ⟨ba, bc, rfl, ob, b5⟩))
  have A5 := s3.out.call (below3 b4 b5)
  have oa5 := (oa.lower s3.out.2.2.2).call b5
  have ob5 := ob.lower (Nat.le_trans s3.out.2.2.2 b4.size)
  have K5 := Hid.mk (And.intro A5 (And.intro oa5 ob5))
  clear oa ob b4 b5 A5 oa5 ob5 LM s3
  have cp : Calls Try.prog 20 #[.pointer (some ⟨g, 0, none⟩)] W5 fun e w' => e = .returned (.pointer (some ⟨W5.heap.size, 0, none⟩)) ∧ MxA w.heap.size W5.heap.size X w w' ∧ Below W5.heap.size W5 w' := by
    obtain ⟨⟨_, _, _, _, h⟩, q2, q3, q4⟩ := K5.out.1
    refine (copy_any h).mono ?_
    rintro e w' ⟨rfl, hh, bb⟩
    exact ⟨rfl, ⟨⟨_, _, _, _, hh⟩, q2.trans (bb.mono q4), q4, Nat.le_trans q4 bb.size⟩, bb⟩
  replace cp := Hid.mk cp
  go_upto_region 5 with (first | (go_at_call 20; refine cp.out.mono ?_; rintro e W6 ⟨rfl, A6, b6⟩))
  have p2 := Hid.mk (play_any (cap := c2) H.out.2 A6 hX1)
  have K6 := Hid.mk (And.intro A6 b6)
  clear A6 b6 cp
  go_upto_region 6 with (first | (go_at_call 17; refine p2.out.mono ?_; rintro e W7 ⟨rfl, s7⟩))
  have hX2 := run_puts X f2 (min n2 60)
  generalize hX2e : runM X f2 (min n2 60) = X2 at *
  -- what stands of the first device and of what it showed
  have hbox : ∃ cs t z, W6.heap[W5.heap.size]? = some (.cells cs t z) := by
    obtain ⟨⟨_, _, _, _, h⟩, -, -, -⟩ := K6.out.1
    exact ⟨_, _, _, h.box⟩
  have hne : g ≠ W5.heap.size := by
    obtain ⟨⟨_, _, _, _, h⟩, -, -, -⟩ := K5.out.1
    exact Nat.ne_of_lt h.lt
  have A7 : MxA w.heap.size g X w W7 := by
    obtain ⟨⟨bS, bO, fS, fO, h⟩, q2, q3, q4⟩ := K5.out.1
    obtain ⟨cs, t, z, hc⟩ := hbox
    exact ⟨⟨_, _, _, _, (h.call K6.out.2).far s7.gr hne hc⟩, s7.at'.2.1, q3, s7.at'.2.2.2⟩
  have oa7 : Ow W7 w.heap.size 62 3 (.slice aa (lvA (nowL X)).length ac) ((lvA (nowL X)).map (lfR X.L)) := (K5.out.2.1.call K6.out.2).kept s7.gr (by
    cases hv : (Value.slice aa (lvA (nowL X)).length ac).ownBlock with
    | none => exact .inl rfl
    | some j => exact .inr (by have := (K5.out.2.1.lt j hv).2; simp; omega))
  have ob7 : Ow W7 w.heap.size 64 4 (.slice ba (nowL X).length bc) ((nowL X).map svR) := (K5.out.2.2.call K6.out.2).kept s7.gr (by
    cases hv : (Value.slice ba (nowL X).length bc).ownBlock with
    | none => exact .inl rfl
    | some j => exact .inr (by have := (K5.out.2.2.lt j hv).2; simp; omega))
  have K7 := Hid.mk (And.intro A7 (And.intro s7.at' (And.intro hne (And.intro oa7 (And.intro ob7 (And.intro hX2 hX2e))))))
  clear A7 hne oa7 ob7 hX2 hX2e hbox s7 K5 K6 p2
  generalize W5.heap.size = g2 at *
  have l3 : ∀ W, Below W7.heap.size W7 W → Calls Try.prog 18 #[.pointer (some ⟨g, 0, none⟩)] W _ := fun W b => by
    obtain ⟨⟨_, _, _, _, h⟩, -, -, -⟩ := K7.out.1
    exact leaves_len (h.call b)
  have m3 : ∀ W, Below W7.heap.size W7 W → Calls Try.prog 19 #[.pointer (some ⟨g, 0, none⟩)] W _ := fun W b => by
    obtain ⟨⟨_, _, _, _, h⟩, -, -, -⟩ := K7.out.1
    exact spaces_len (h.call b)
  have LM := Hid.mk (And.intro l3 m3)
  clear l3 m3
  go_upto_region 7 with (first
    | (go_at_call 18; refine (LM.out.1 _ (Below.refl _ W7)).mono ?_; rintro e W8 ⟨xa, xc, rfl, ox, b8⟩)
    | (go_at_call 19; refine (LM.out.2 _ b8).mono ?_; rintro e W9 ⟨ya, yc, rfl, oy, b9⟩))
  have C9 : CyS w g g2 X X2 (.slice aa (lvA (nowL X)).length ac) (.slice ba (nowL X).length bc) (.slice xa (lvA (nowL X)).length xc) (.slice ya (nowL X).length yc) W9 :=
    ⟨K7.out.1.call (below3 b8 b9), K7.out.2.1.call (below3 b8 b9), K7.out.2.2.1, K7.out.2.2.2.1.call (below3 b8 b9), K7.out.2.2.2.2.1.call (below3 b8 b9), (ox.lower K7.out.1.2.2.2).call b9, oy.lower (Nat.le_trans K7.out.1.2.2.2 b8.size)⟩
  have aw := awake_any W9
  have K9 := Hid.mk (And.intro C9 aw)
  have HX := Hid.mk (And.intro hX1 K7.out.2.2.2.2.2)
  clear C9 aw LM K7 ox oy b8 b9
  go_upto_region 9 with (first | (go_at_call 8; refine K9.out.2.mono ?_; rintro e W10 ⟨rfl, b10⟩))
  have C0 := Hid.mk (K9.out.1.call b10)
  clear K9 b10
  generalize hl : lvA (nowL X) = ls at *
  generalize hs : nowL X = ss at *
  have hln : ls.length ≤ 100000 := by
    obtain ⟨⟨_, _, _, _, h⟩, -, -, -⟩ := C0.out.m
    have hi := h.inv.now
    rw [hs] at hi
    rw [← hl, lvA_len]
    have := pagesN_le (fun x hx => hi.inv.plen hx) (l := ss)
    have := hi.inv.len
    simp only at this
    omega
  have hsn : ss.length ≤ 15 := by
    obtain ⟨⟨_, _, _, _, h⟩, -, -, -⟩ := C0.out.m
    have hi := h.inv.now
    rw [hs] at hi
    exact hi.inv.len
  generalize hn : ls.length = n at *
  replace hn := Hid.mk hn
  generalize hm : ss.length = m at *
  replace hm := Hid.mk hm
  have HL := Hid.mk (And.intro hl hs)
  clear hl hs
  go_upto_region 10 with fail
  go_loopw [11] (fun i wr => ∃ k : Nat, k ≤ n ∧ i = .int .i64 k ∧ CyS w g g2 X X2 (.slice aa n ac) (.slice ba m bc) (.slice xa n xc) (.slice ya m yc) wr) (fun i _ => n - (intOf i).toNat)
  case atStart => exact ⟨0, Nat.zero_le _, rfl, C0.out⟩
  case round =>
    clear C0
    obtain ⟨k, hk, rfl, hc⟩ := hrel
    by_cases hkn : k < n
    · have ha := hc.a
      have hx := hc.x
      rw [HL.out.2, HL.out.1] at ha hx
      obtain ⟨ga, rfl, a0, a1, a2⟩ := ha.atL (k := k) (by have := hn.out; omega)
      obtain ⟨gx, rfl, x0, x1, x2⟩ := hx.atL (k := k) (by have := hn.out; omega)
      generalize ls.getD k (0, 0, 0) = y at *
      obtain ⟨y1, y2, y3⟩ := y
      simp only at a0 a1 a2 x0 x1 x2
      generalize X.L y3 = str at *
      have HC := Hid.mk hc
      clear hc ha hx
      go_upto_region 12 with fail
      go_region
      go_wp2_with fail
      exact ⟨⟨k + 1, by omega, by go_num, HC.out.call (Below.refl _ wr).drew⟩, by simp [intOf]; omega⟩
    · have hk2 : k = n := by omega
      subst hk2
      have HC := Hid.mk hc
      clear hc
      go_upto_region 15 with fail
      go_loopw [12] (fun i wr => ∃ k2 : Nat, k2 ≤ m ∧ i = .int .i64 k2 ∧ CyS w g g2 X X2 (.slice aa k ac) (.slice ba m bc) (.slice xa k xc) (.slice ya m yc) wr) (fun i _ => m - (intOf i).toNat)
      case atStart => exact ⟨0, Nat.zero_le _, rfl, HC.out⟩
      case round =>
        clear HC
        obtain ⟨k2, hk2, rfl, hc⟩ := hrel
        by_cases hkm : k2 < m
        · have ha := hc.b
          have hx := hc.y
          rw [HL.out.2] at ha hx
          obtain ⟨ga, rfl, a0, a1, a2, a3⟩ := ha.atS (k := k2) (by have := hm.out; omega)
          obtain ⟨gx, rfl, x0, x1, x2, x3⟩ := hx.atS (k := k2) (by have := hm.out; omega)
          generalize ss.getD k2 ⟨0, 0, false, []⟩ = y at *
          obtain ⟨y1, y2, y3, y4⟩ := y
          simp only at a0 a1 a2 a3 x0 x1 x2 x3
          generalize (y4.length : Int) = pn at *
          have HC := Hid.mk hc
          clear hc ha hx
          go_upto_region 17 with fail
          go_region
          go_wp2_with fail
          exact ⟨⟨k2 + 1, by omega, by go_num, HC.out.call (Below.refl _ wr).drew⟩, by simp [intOf]; omega⟩
        · have hk3 : k2 = m := by omega
          subst hk3
          have HC := Hid.mk hc
          clear hc
          have p3 := Hid.mk (play_any (cap := c2) H.out.2 HC.out.m HX.out.1)
          go_upto_region 20 with (first | (go_at_call 17; refine p3.out.mono ?_; rintro e W7 ⟨rfl, s7⟩))
          rw [HX.out.2.2] at s7
          have Ac : MxA w.heap.size g2 X2 w W7 := by
            obtain ⟨⟨_, _, _, _, hg⟩, -, -, -⟩ := HC.out.m
            obtain ⟨⟨_, _, _, _, hc⟩, q2, q3, q4⟩ := HC.out.c
            exact ⟨⟨_, _, _, _, hc.far s7.gr HC.out.ne.symm hg.box⟩, s7.at'.2.1, q3, s7.at'.2.2.2⟩
          have l3 : ∀ W j, (j = g ∨ j = g2) → Below W7.heap.size W7 W → Calls Try.prog 18 #[.pointer (some ⟨j, 0, none⟩)] W fun e w' => ∃ a cap, e = .returned (.slice a (lvA (nowL X2)).length cap) ∧ Below W.heap.size W w' := fun W j hj b => by
            rcases hj with rfl | rfl
            · obtain ⟨⟨_, _, _, _, h⟩, -, -, -⟩ := s7.at'
              exact (leaves_len (h.call b)).mono (fun e w' ⟨a, c, q, _, b⟩ => ⟨a, c, q, b⟩)
            · obtain ⟨⟨_, _, _, _, h⟩, -, -, -⟩ := Ac
              exact (leaves_len (h.call b)).mono (fun e w' ⟨a, c, q, _, b⟩ => ⟨a, c, q, b⟩)
          have m3 : ∀ W j, (j = g ∨ j = g2) → Below W7.heap.size W7 W → Calls Try.prog 19 #[.pointer (some ⟨j, 0, none⟩)] W fun e w' => ∃ a cap, e = .returned (.slice a (nowL X2).length cap) ∧ Below W.heap.size W w' := fun W j hj b => by
            rcases hj with rfl | rfl
            · obtain ⟨⟨_, _, _, _, h⟩, -, -, -⟩ := s7.at'
              exact (spaces_len (h.call b)).mono (fun e w' ⟨a, c, q, _, b⟩ => ⟨a, c, q, b⟩)
            · obtain ⟨⟨_, _, _, _, h⟩, -, -, -⟩ := Ac
              exact (spaces_len (h.call b)).mono (fun e w' ⟨a, c, q, _, b⟩ => ⟨a, c, q, b⟩)
          have LM := Hid.mk (And.intro l3 (And.intro m3 (And.intro s7.at'.2.1 s7.at'.2.2.2)))
          clear l3 m3 Ac s7 p3 HC
          generalize (lvA (nowL X2)).length = q1 at *
          generalize (nowL X2).length = q2 at *
          have b0 := Below.refl W7.heap.size W7
          go_wp2_with (first
            | (go_at_call 18; refine (LM.out.1 _ _ (by first | exact .inl rfl | exact .inr rfl) b0).mono ?_; rintro e V1 ⟨p1a, p1c, rfl, v1⟩; clear b0; have b1 := v1)
            | (go_at_call 18; refine (LM.out.1 _ _ (by first | exact .inl rfl | exact .inr rfl) b1).mono ?_; rintro e V2 ⟨p2a, p2c, rfl, v2⟩; have b2 := below3 b1 v2; clear b1)
            | (go_at_call 19; refine (LM.out.2.1 _ _ (by first | exact .inl rfl | exact .inr rfl) b2).mono ?_; rintro e V3 ⟨p3a, p3c, rfl, v3⟩; have b3 := below3 b2 v3; clear b2)
            | (go_at_call 19; refine (LM.out.2.1 _ _ (by first | exact .inl rfl | exact .inr rfl) b3).mono ?_; rintro e V4 ⟨p4a, p4c, rfl, v4⟩; have b4 := below3 b3 v4; clear b3))
          go_ret
          exact ⟨rfl, LM.out.2.2.1.trans (b4.mono LM.out.2.2.2)⟩
end Go.Proofs.Ytacgemibaojbaaa
