/-
  ModelPlays: the walk. No condition.
-/
import Derived.Test.YtacgemibaojbaaaPlm
import Derived.Deep.RegionHeld3
namespace Go.Proofs.Ytacgemibaojbaaa
open Go Go.RowKit Go.Maps

/-- what 'same' answers, whatever stands there by then -/
theorem PlyS.same {w g gr g7 g9 pl ks X now tx op u0 u1 u2 u3 ut v0 v1 v2 v3 vt n W} (h : PlyS w g gr g7 g9 pl ks X now tx op u0 u1 u2 u3 ut v0 v1 v2 v3 vt n W) (t : TwM X now tx op) (hp : X.puts ≤ 1000) : ∀ W', Below W.heap.size W W' →
    Calls Try.prog 16 #[.pointer (some ⟨g, 0, none⟩), if op.isSome then .agg #[v0, v1, v2, v3, vt] else .agg #[u0, u1, u2, u3, ut]] W' fun e w' => e = .returned (.bool true) ∧ Below W'.heap.size W' w' := fun W' b => by
  obtain ⟨⟨_, _, _, _, hm⟩, -, -, -⟩ := h.m
  have hn := tw_now t
  cases op with
  | none =>
    obtain ⟨ix, hs⟩ := hn
    exact same_any (hm.call b) (h.pn.call b) hs hp
  | some q =>
    obtain ⟨ix, hs⟩ := hn
    exact same_any (hm.call b) ((h.po q rfl).1.call b) hs hp
theorem new_plyR {w W2 : World} {g gr g7 g9 : Nat} {pl ks : Int} {bS : Nat} (h : MxH g (newX pl ks 0 0 64) bS none (fun _ => 0) (fun _ => 0) W2) (hb : Below w.heap.size w W2) (hg : w.heap.size ≤ g) (rm : RmB W2 gr pl ks 0 0) (h7 : Box5 W2 g7 (.slice none 0 0) (.slice none 0 0) (.slice none 0 0) (.slice none 0 0) (.slice none 0 0)) (h9 : Box6 W2 g9 (.slice none 0 0) (.slice none 0 0) (.slice none 0 0) (.slice none 0 0) (.slice none 0 0) 0) (g7h : w.heap.size ≤ g7) (g9h : w.heap.size ≤ g9) :
    PlyR w g gr g7 g9 pl ks 0 false W2 :=
  ⟨newX pl ks 0 0 64, ⟨[], [], []⟩, [], none, _, _, _, _, _, _, _, _, _, _, 0, ⟨⟨⟨_, _, _, _, h⟩, hb, hg, hb.size⟩, rm, h7, ⟨⟨Ow.nil _ _ _ _, Ow.nil _ _ _ _, Ow.nil _ _ _ _, Ow.nil _ _ _ _⟩, Ow.nil _ _ _ _⟩, h9, (fun Q hQ => by cases hQ), g7h, g9h⟩, ⟨⟨[], SimM.start _ _⟩, trivial⟩, ⟨rfl, rfl, rfl⟩, Int.le_refl _, rfl⟩
set_option maxRecDepth 20000 in
set_option maxHeartbeats 8000000 in
theorem modelPlays_walk {a : Option Addr} {n cap : Nat} {f : Nat → Ac} (places : Int) (w : World) (h : ActF w a n f) : Calls Try.prog 3 #[.slice a n cap, .int .i64 places] w fun e w' => e = .returned (.bool true) ∧ Below w.heap.size w w' := by
  have R := Hid.mk (room_any w places)
  generalize rPl places = pl at *
  generalize rKs places = ks at *
  have N := Hid.mk (fun W => new_any W pl ks 0 0 64)
  have H := Hid.mk h
  clear h
  go_enter Try.func3, Try.ntmps3
  go_upto_region 2 with (first | (go_at_call 6; refine R.out.mono ?_; rintro e W1 ⟨rfl, b1⟩))
  have rm1 : RmB (W1.alloc (.cells #[.int .i64 pl, .int .i64 ks, .int .i64 0, .int .i64 0] 24)) W1.heap.size pl ks 0 0 := heap_alloc_new W1 _
  have B1 := b1.alloc b1.size (.cells #[.int .i64 pl, .int .i64 ks, .int .i64 0, .int .i64 0] 24)
  generalize W1.alloc (.cells #[.int .i64 pl, .int .i64 ks, .int .i64 0, .int .i64 0] 24) = W2 at *
  generalize W1.heap.size = gr at *
  obtain ⟨r0, r1, r2, r3⟩ := rm1.cells
  have lr : gr < W2.heap.size := (Array.getElem?_eq_some_iff.1 rm1).1
  have K1 := Hid.mk (And.intro B1 rm1)
  clear B1 rm1 b1 R
  go_upto_region 3 with (first | (go_at_call 7; refine (N.out _).mono ?_; rintro e W3 ⟨g, bS, rfl, h3, hg3, b3⟩))
  have H4 : PlyR w g gr W3.heap.size (W3.heap.size + 1) pl ks 0 false ((W3.alloc (.cells #[.slice none 0 0, .slice none 0 0, .slice none 0 0, .slice none 0 0, .slice none 0 0] 36)).alloc (.cells #[.slice none 0 0, .slice none 0 0, .slice none 0 0, .slice none 0 0, .slice none 0 0, .int .i64 0] 38)) := by
    have hB : w.heap.size ≤ W3.heap.size := Nat.le_trans K1.out.1.size b3.size
    have bb : Below W3.heap.size W3 ((W3.alloc (.cells #[.slice none 0 0, .slice none 0 0, .slice none 0 0, .slice none 0 0, .slice none 0 0] 36)).alloc (.cells #[.slice none 0 0, .slice none 0 0, .slice none 0 0, .slice none 0 0, .slice none 0 0, .int .i64 0] 38)) := (below_box W3 _).alloc (by rw [size_alloc]; omega) _
    refine new_plyR (h3.call bb) (below3 (below3 K1.out.1 b3) bb) (Nat.le_trans K1.out.1.size hg3) (K1.out.2.call (below3 b3 bb)) ((Below.heap_alloc _ _ W3.heap.size (by rw [size_alloc]; omega)).trans (heap_alloc_new W3 _)) ?_ hB (by omega)
    have z := heap_alloc_new (W3.alloc (.cells #[.slice none 0 0, .slice none 0 0, .slice none 0 0, .slice none 0 0, .slice none 0 0] 36)) (.cells #[.slice none 0 0, .slice none 0 0, .slice none 0 0, .slice none 0 0, .slice none 0 0, .int .i64 0] 38)
    rw [size_alloc] at z
    exact z
  generalize ((W3.alloc (.cells #[.slice none 0 0, .slice none 0 0, .slice none 0 0, .slice none 0 0, .slice none 0 0] 36)).alloc (.cells #[.slice none 0 0, .slice none 0 0, .slice none 0 0, .slice none 0 0, .slice none 0 0, .int .i64 0] 38)) = W4 at *
  generalize W3.heap.size + 1 = g9 at *
  generalize W3.heap.size = g7 at *
  have aw := awake_any W4
  have K4 := Hid.mk (And.intro H4 aw)
  clear H4 aw h3 hg3 b3 K1 N r0 r1 r2 r3 lr
  go_upto_region 6 with (first | (go_at_call 8; refine K4.out.2.mono ?_; rintro e W5 ⟨rfl, b5⟩))
  have S0 : PlyR w g gr g7 g9 pl ks 0 false W5 := by
    obtain ⟨X, now, tx, op, u0, u1, u2, u3, ut, v0, v1, v2, v3, vt, m, hp, r⟩ := K4.out.1
    exact ⟨X, now, tx, op, u0, u1, u2, u3, ut, v0, v1, v2, v3, vt, m, hp.call b5, r⟩
  replace S0 := Hid.mk S0
  clear K4 b5
  go_loopw [8, 10] (fun o i wr => ∃ (k : Nat) (ob : Bool), k ≤ n ∧ k ≤ 100 ∧ i = .int .i64 k ∧ o = .bool ob ∧ PlyR w g gr g7 g9 pl ks k ob wr) (fun _ i _ => 100 - (intOf i).toNat)
  case atStart => exact ⟨0, false, Nat.zero_le _, Nat.zero_le _, rfl, rfl, S0.out⟩
  case round =>
    clear S0
    obtain ⟨k, ob, hkn, hk100, rfl, rfl, X, now, tx, op, u0, u1, u2, u3, ut, v0, v1, v2, v3, vt, m, hs, tw, pk, hpu, hob⟩ := hrel
    by_cases hk : k < n
    · by_cases hk2 : k < 100
      · obtain ⟨ga, o, rfl, hga, hc, hwf⟩ := (H.out.below hs.m.2.1) k hk
        obtain ⟨kk, c1, c2, c3, c4, c5, c6, c7⟩ := hc
        have hd1 : decide ((k : Int) < (n : Int)) = true := by simpa using hk
        have hd2 : decide ((k : Int) < 100) = true := by simp; omega
        generalize f k = c at *
        obtain ⟨kd, ⟨K, S, P, A, T, N⟩, str⟩ := c
        simp only at kk c1 c2 c3 c4 c5 c6 c7
        obtain ⟨hK, hS, hP, -, -, -⟩ := hwf
        simp only at hK hS hP
        have hpu2 : X.puts ≤ 900 := by omega
        have b1 := below_box wr (.cells #[.int .i64 K, .int .i64 S, .int .i64 P, .int .i64 A, .int .i64 T, .int .i64 N, .string str] 43)
        have hs1 := hs.call b1
        have x1 := heap_alloc_new wr (.cells #[.int .i64 K, .int .i64 S, .int .i64 P, .int .i64 A, .int .i64 T, .int .i64 N, .string str] 43)
        have kk1 := (b1.cell (p := ⟨ga, o + k * 8, none⟩) hga).trans kk
        have hga1 := Nat.lt_of_lt_of_le hga b1.size
        have hmi : MxI X := by
          obtain ⟨⟨_, _, _, _, h⟩, -, -, -⟩ := hs.m
          exact h.inv
        go_upto_region 9 with fail
        generalize (wr.alloc (.cells #[.int .i64 K, .int .i64 S, .int .i64 P, .int .i64 A, .int .i64 T, .int .i64 N, .string str] 43)) = w1 at *
        generalize hgx : wr.heap.size = gx at *
        obtain ⟨z0, z1, z2, z3, z4, z5, z6⟩ : w1.cell? ⟨gx, 0, none⟩ = some (.int .i64 K) ∧ w1.cell? ⟨gx, 1, none⟩ = some (.int .i64 S) ∧ w1.cell? ⟨gx, 2, none⟩ = some (.int .i64 P) ∧ w1.cell? ⟨gx, 3, none⟩ = some (.int .i64 A) ∧ w1.cell? ⟨gx, 4, none⟩ = some (.int .i64 T) ∧ w1.cell? ⟨gx, 5, none⟩ = some (.int .i64 N) ∧ w1.cell? ⟨gx, 6, none⟩ = some (.string str) := by
          refine ⟨?_, ?_, ?_, ?_, ?_, ?_, ?_⟩ <;> rw [cell_of_row w1 gx _ _ 43 _ x1] <;> rfl
        have lgx : gx < w1.heap.size := (Array.getElem?_eq_some_iff.1 x1).1
        clear kk c1 c2 c3 c4 c5 c6 c7 b1 hs hga hgx
        have hin : ∀ X' Q', TwM X' now tx Q' → True := fun _ _ _ => trivial
        clear hin
        subst hob
        obtain ⟨pa0, pn0, pc0, rfl⟩ := hs1.pn.st.sp.isSl
        obtain ⟨pa1, pn1, pc1, rfl⟩ := hs1.pn.st.lv.isSl
        obtain ⟨pa2, pn2, pc2, rfl⟩ := hs1.pn.st.bad.isSl
        obtain ⟨pa3, pn3, pc3, rfl⟩ := hs1.pn.st.worn.isSl
        obtain ⟨pa4, pn4, pc4, rfl⟩ := hs1.pn.tx.isSl
        by_cases h0 : kd = 0
        · subst h0
          cases op with
          | none =>
            simp only [Option.isSome_none]
            have q := tw_begin tw
            have pk' := pk_begin pk
            have pu' : (beginX X).1.puts ≤ ((k + 1 : Nat) : Int) := by rw [puts_begin]; omega
            have ct : Calls Try.prog 9 #[.pointer (some ⟨g, 0, none⟩)] w1 (MxD g ((beginX X).1, 0) w1) := by
              obtain ⟨⟨_, _, _, _, h⟩, -, -, -⟩ := hs1.m
              have := begin_any h
              rw [← q.1]; exact this
            have CT := Hid.mk (And.intro ct (And.intro hs1 (And.intro q.2 (And.intro pk' pu'))))
            clear ct hs1 q pk' pu' tw pk hpu z0 z1 z2 z3 z4 z5 z6
            go_upto_region 20 with (first | (go_at_call 9; refine CT.out.1.mono ?_; intro e w2 d; have hs2 := CT.out.2.1.did d; obtain ⟨rfl, d2⟩ := d))
            obtain ⟨j0, j1, j2, j3, j4⟩ := hs2.b7.cells
            obtain ⟨i0, i1, i2, i3, i4, i5⟩ := hs2.b9.cells
            have l7 := hs2.b7.lt
            have l9 := hs2.b9.lt
            have f0 := hs2.b9.fz 0
            have f1 := hs2.b9.fz 1
            have f2 := hs2.b9.fz 2
            have f3 := hs2.b9.fz 3
            have f4 := hs2.b9.fz 4
            have f5 := hs2.b9.fz 5
            go_region
            have eW : ((((((w2.setCell ⟨g9, 0, none⟩ (.slice pa0 pn0 pc0)).setCell ⟨g9, 1, none⟩ (.slice pa1 pn1 pc1)).setCell ⟨g9, 2, none⟩ (.slice pa2 pn2 pc2)).setCell ⟨g9, 3, none⟩ (.slice pa3 pn3 pc3)).setCell ⟨g9, 4, none⟩ (.slice pa4 pn4 pc4)).setCell ⟨g9, 5, none⟩ (.int .i64 0)) = set6 w2 g9 (.slice pa0 pn0 pc0) (.slice pa1 pn1 pc1) (.slice pa2 pn2 pc2) (.slice pa3 pn3 pc3) (.slice pa4 pn4 pc4) 0 := rfl
            rw [eW]
            have D : PlyS w g gr g7 g9 pl ks (beginX X).1 now tx (some ⟨now, tx, 0⟩) (.slice pa0 pn0 pc0) (.slice pa1 pn1 pc1) (.slice pa2 pn2 pc2) (.slice pa3 pn3 pc3) (.slice pa4 pn4 pc4) (.slice pa0 pn0 pc0) (.slice pa1 pn1 pc1) (.slice pa2 pn2 pc2) (.slice pa3 pn3 pc3) (.slice pa4 pn4 pc4) ((0 : Nat) : Int) (set6 w2 g9 (.slice pa0 pn0 pc0) (.slice pa1 pn1 pc1) (.slice pa2 pn2 pc2) (.slice pa3 pn3 pc3) (.slice pa4 pn4 pc4) 0) := hs2.set9 ⟨now, tx, 0⟩ hs2.pn
            clear eW
            generalize set6 w2 g9 (.slice pa0 pn0 pc0) (.slice pa1 pn1 pc1) (.slice pa2 pn2 pc2) (.slice pa3 pn3 pc3) (.slice pa4 pn4 pc4) 0 = w3 at *
            clear j0 j1 j2 j3 j4 i0 i1 i2 i3 i4 i5 f0 f1 f2 f3 f4 f5 l7 l9 hs2
            replace D := D.call (Below.refl _ w3).drew
            generalize w3.drew = w4 at *
            have tw2 := CT.out.2.2.1
            have pk2 := CT.out.2.2.2.1
            have pu2 := CT.out.2.2.2.2
            clear CT d2
            have hsame := Hid.mk (D.same tw2 (by have := pu2; omega))
            have HD := Hid.mk (And.intro D (And.intro tw2 (And.intro pk2 pu2)))
            obtain ⟨j0, j1, j2, j3, j4⟩ := D.b7.cells
            obtain ⟨i0, i1, i2, i3, i4, i5⟩ := D.b9.cells
            have l7 := D.b7.lt
            have l9 := D.b9.lt
            go_upto_region 33 with fail
            have b5 := below_box w4 (.cells #[.slice pa0 pn0 pc0, .slice pa1 pn1 pc1, .slice pa2 pn2 pc2, .slice pa3 pn3 pc3, .slice pa4 pn4 pc4] 36)
            have y5 := heap_alloc_new w4 (.cells #[.slice pa0 pn0 pc0, .slice pa1 pn1 pc1, .slice pa2 pn2 pc2, .slice pa3 pn3 pc3, .slice pa4 pn4 pc4] 36)
            generalize w4.alloc (.cells #[.slice pa0 pn0 pc0, .slice pa1 pn1 pc1, .slice pa2 pn2 pc2, .slice pa3 pn3 pc3, .slice pa4 pn4 pc4] 36) = w5 at *
            obtain ⟨p0, p1, p2, p3, p4⟩ := (show Box5 w5 w4.heap.size (.slice pa0 pn0 pc0) (.slice pa1 pn1 pc1) (.slice pa2 pn2 pc2) (.slice pa3 pn3 pc3) (.slice pa4 pn4 pc4) from y5).cells
            have l5 : w4.heap.size < w5.heap.size := (Array.getElem?_eq_some_iff.1 y5).1
            have B5 := Hid.mk b5
            clear j0 j1 j2 j3 j4 i0 i1 i2 i3 i4 i5 b5 y5 l7 l9
            go_wp2_with (first | (go_at_call 16; refine (hsame.out _ B5.out).mono ?_; rintro e w6 ⟨rfl, b6⟩))
            exact ⟨⟨k + 1, true, by omega, by omega, by go_num, rfl, _, _, _, _, _, _, _, _, _, _, _, _, _, _, _, HD.out.1.call (below3 B5.out b6), HD.out.2.1, HD.out.2.2.1, HD.out.2.2.2, rfl⟩, by simp [intOf]; omega⟩

          | some q =>
            simp only [Option.isSome_some]
            obtain ⟨va0, vn0, vc0, rfl⟩ := (hs1.po q rfl).1.st.sp.isSl
            obtain ⟨va1, vn1, vc1, rfl⟩ := (hs1.po q rfl).1.st.lv.isSl
            obtain ⟨va2, vn2, vc2, rfl⟩ := (hs1.po q rfl).1.st.bad.isSl
            obtain ⟨va3, vn3, vc3, rfl⟩ := (hs1.po q rfl).1.st.worn.isSl
            obtain ⟨va4, vn4, vc4, rfl⟩ := (hs1.po q rfl).1.tx.isSl
            obtain ⟨pv, rfl⟩ := hs1.po q rfl
            clear z0 z1 z2 z3 z4 z5 z6
            have q1 := tw_begin' tw
            have pu' : X.puts ≤ ((k + 1 : Nat) : Int) := by omega
            have ct : Calls Try.prog 9 #[.pointer (some ⟨g, 0, none⟩)] w1 (MxD g (X, 180) w1) := by
              obtain ⟨⟨_, _, _, _, h⟩, -, -, -⟩ := hs1.m
              have := begin_any h
              rw [q1] at this; exact this
            clear q1 pu'
            have CT := Hid.mk (And.intro ct (And.intro hs1 (And.intro tw (And.intro pk (show X.puts ≤ ((k + 1 : Nat) : Int) by omega)))))
            clear ct hs1 tw pk hpu
            go_upto_region 30 with (first | (go_at_call 9; refine CT.out.1.mono ?_; intro e w2 d; have hs2 := CT.out.2.1.did d; obtain ⟨rfl, d2⟩ := d))
            have tw2 := CT.out.2.2.1
            have pk2 := CT.out.2.2.2.1
            have pu2 := CT.out.2.2.2.2
            clear CT d2
            have hsame := Hid.mk (hs2.same tw2 (by have := pu2; omega))
            have HD := Hid.mk (And.intro hs2 (And.intro tw2 (And.intro pk2 pu2)))
            obtain ⟨j0, j1, j2, j3, j4⟩ := hs2.b7.cells
            obtain ⟨i0, i1, i2, i3, i4, i5⟩ := hs2.b9.cells
            have l7 := hs2.b7.lt
            have l9 := hs2.b9.lt
            go_upto_region 33 with fail
            have b5 := below_box w2 (.cells #[.slice va0 vn0 vc0, .slice va1 vn1 vc1, .slice va2 vn2 vc2, .slice va3 vn3 vc3, .slice va4 vn4 vc4] 36)
            have y5 := heap_alloc_new w2 (.cells #[.slice va0 vn0 vc0, .slice va1 vn1 vc1, .slice va2 vn2 vc2, .slice va3 vn3 vc3, .slice va4 vn4 vc4] 36)
            generalize w2.alloc (.cells #[.slice va0 vn0 vc0, .slice va1 vn1 vc1, .slice va2 vn2 vc2, .slice va3 vn3 vc3, .slice va4 vn4 vc4] 36) = w5 at *
            obtain ⟨p0, p1, p2, p3, p4⟩ := (show Box5 w5 w2.heap.size (.slice va0 vn0 vc0) (.slice va1 vn1 vc1) (.slice va2 vn2 vc2) (.slice va3 vn3 vc3) (.slice va4 vn4 vc4) from y5).cells
            have l5 : w2.heap.size < w5.heap.size := (Array.getElem?_eq_some_iff.1 y5).1
            have B5 := Hid.mk b5
            clear j0 j1 j2 j3 j4 i0 i1 i2 i3 i4 i5 b5 y5 l7 l9
            go_wp2_with (first | (go_at_call 16; refine (hsame.out _ B5.out).mono ?_; rintro e w6 ⟨rfl, b6⟩))
            exact ⟨⟨k + 1, true, by omega, by omega, by go_num, rfl, _, _, _, _, _, _, _, _, _, _, _, _, _, _, _, HD.out.1.call (below3 B5.out b6), HD.out.2.1, HD.out.2.2.1, HD.out.2.2.2, rfl⟩, by simp [intOf]; omega⟩


        by_cases h1 : kd = 1
        · subst h1
          cases op with
          | none =>
            simp only [Option.isSome_none]
            clear z0 z1 z2 z3 z4 z5 z6
            have q1 := tw_commit' tw
            have pu' : X.puts ≤ ((k + 1 : Nat) : Int) := by omega
            have ct : Calls Try.prog 10 #[.pointer (some ⟨g, 0, none⟩)] w1 (MxD g (X, 180) w1) := by
              obtain ⟨⟨_, _, _, _, h⟩, -, -, -⟩ := hs1.m
              have := commit_any h
              rw [q1] at this; exact this
            clear q1 pu'
            have CT := Hid.mk (And.intro ct (And.intro hs1 (And.intro tw (And.intro pk (show X.puts ≤ ((k + 1 : Nat) : Int) by omega)))))
            clear ct hs1 tw pk hpu
            go_upto_region 30 with (first | (go_at_call 10; refine CT.out.1.mono ?_; intro e w2 d; have hs2 := CT.out.2.1.did d; obtain ⟨rfl, d2⟩ := d))
            have tw2 := CT.out.2.2.1
            have pk2 := CT.out.2.2.2.1
            have pu2 := CT.out.2.2.2.2
            clear CT d2
            have hsame := Hid.mk (hs2.same tw2 (by have := pu2; omega))
            have HD := Hid.mk (And.intro hs2 (And.intro tw2 (And.intro pk2 pu2)))
            obtain ⟨j0, j1, j2, j3, j4⟩ := hs2.b7.cells
            obtain ⟨i0, i1, i2, i3, i4, i5⟩ := hs2.b9.cells
            have l7 := hs2.b7.lt
            have l9 := hs2.b9.lt
            go_upto_region 33 with fail
            have b5 := below_box w2 (.cells #[.slice pa0 pn0 pc0, .slice pa1 pn1 pc1, .slice pa2 pn2 pc2, .slice pa3 pn3 pc3, .slice pa4 pn4 pc4] 36)
            have y5 := heap_alloc_new w2 (.cells #[.slice pa0 pn0 pc0, .slice pa1 pn1 pc1, .slice pa2 pn2 pc2, .slice pa3 pn3 pc3, .slice pa4 pn4 pc4] 36)
            generalize w2.alloc (.cells #[.slice pa0 pn0 pc0, .slice pa1 pn1 pc1, .slice pa2 pn2 pc2, .slice pa3 pn3 pc3, .slice pa4 pn4 pc4] 36) = w5 at *
            obtain ⟨p0, p1, p2, p3, p4⟩ := (show Box5 w5 w2.heap.size (.slice pa0 pn0 pc0) (.slice pa1 pn1 pc1) (.slice pa2 pn2 pc2) (.slice pa3 pn3 pc3) (.slice pa4 pn4 pc4) from y5).cells
            have l5 : w2.heap.size < w5.heap.size := (Array.getElem?_eq_some_iff.1 y5).1
            have B5 := Hid.mk b5
            clear j0 j1 j2 j3 j4 i0 i1 i2 i3 i4 i5 b5 y5 l7 l9
            go_wp2_with (first | (go_at_call 16; refine (hsame.out _ B5.out).mono ?_; rintro e w6 ⟨rfl, b6⟩))
            exact ⟨⟨k + 1, false, by omega, by omega, by go_num, rfl, _, _, _, _, _, _, _, _, _, _, _, _, _, _, _, HD.out.1.call (below3 B5.out b6), HD.out.2.1, HD.out.2.2.1, HD.out.2.2.2, rfl⟩, by simp [intOf]; omega⟩

          | some q =>
            simp only [Option.isSome_some]
            obtain ⟨va0, vn0, vc0, rfl⟩ := (hs1.po q rfl).1.st.sp.isSl
            obtain ⟨va1, vn1, vc1, rfl⟩ := (hs1.po q rfl).1.st.lv.isSl
            obtain ⟨va2, vn2, vc2, rfl⟩ := (hs1.po q rfl).1.st.bad.isSl
            obtain ⟨va3, vn3, vc3, rfl⟩ := (hs1.po q rfl).1.st.worn.isSl
            obtain ⟨va4, vn4, vc4, rfl⟩ := (hs1.po q rfl).1.tx.isSl
            obtain ⟨pv, rfl⟩ := hs1.po q rfl
            have q1 := tw_commit tw
            have pk' := pk_commit pk
            have pu' : (commitX X).1.puts ≤ ((k + 1 : Nat) : Int) := by rw [puts_commit]; omega
            have ct : Calls Try.prog 10 #[.pointer (some ⟨g, 0, none⟩)] w1 (MxD g ((commitX X).1, 0) w1) := by
              obtain ⟨⟨_, _, _, _, h⟩, -, -, -⟩ := hs1.m
              have := commit_any h
              rw [← q1.1]; exact this
            have CT := Hid.mk (And.intro ct (And.intro hs1 (And.intro q1.2 (And.intro pk' pu'))))
            clear ct hs1 q1 pk' pu' tw pk hpu pv z0 z1 z2 z3 z4 z5 z6
            go_upto_region 25 with (first | (go_at_call 10; refine CT.out.1.mono ?_; intro e w2 d; have hs2 := CT.out.2.1.did d; obtain ⟨rfl, d2⟩ := d))
            obtain ⟨j0, j1, j2, j3, j4⟩ := hs2.b7.cells
            obtain ⟨i0, i1, i2, i3, i4, i5⟩ := hs2.b9.cells
            have l7 := hs2.b7.lt
            have l9 := hs2.b9.lt
            have f0 := hs2.b7.fz 0
            have f1 := hs2.b7.fz 1
            have f2 := hs2.b7.fz 2
            have f3 := hs2.b7.fz 3
            have f4 := hs2.b7.fz 4
            go_region
            have eW : (((((w2.setCell ⟨g7, 0, none⟩ (.slice va0 vn0 vc0)).setCell ⟨g7, 1, none⟩ (.slice va1 vn1 vc1)).setCell ⟨g7, 2, none⟩ (.slice va2 vn2 vc2)).setCell ⟨g7, 3, none⟩ (.slice va3 vn3 vc3)).setCell ⟨g7, 4, none⟩ (.slice va4 vn4 vc4)) = set5 w2 g7 (.slice va0 vn0 vc0) (.slice va1 vn1 vc1) (.slice va2 vn2 vc2) (.slice va3 vn3 vc3) (.slice va4 vn4 vc4) := rfl
            rw [eW]
            have D : PlyS w g gr g7 g9 pl ks (commitX X).1 q.y q.tx none (.slice va0 vn0 vc0) (.slice va1 vn1 vc1) (.slice va2 vn2 vc2) (.slice va3 vn3 vc3) (.slice va4 vn4 vc4) (.slice va0 vn0 vc0) (.slice va1 vn1 vc1) (.slice va2 vn2 vc2) (.slice va3 vn3 vc3) (.slice va4 vn4 vc4) (q.n : Int) (set5 w2 g7 (.slice va0 vn0 vc0) (.slice va1 vn1 vc1) (.slice va2 vn2 vc2) (.slice va3 vn3 vc3) (.slice va4 vn4 vc4)) := hs2.set7 (hs2.po q rfl).1
            clear eW
            generalize set5 w2 g7 (.slice va0 vn0 vc0) (.slice va1 vn1 vc1) (.slice va2 vn2 vc2) (.slice va3 vn3 vc3) (.slice va4 vn4 vc4) = w3 at *
            clear j0 j1 j2 j3 j4 i0 i1 i2 i3 i4 i5 f0 f1 f2 f3 f4 l7 l9 hs2
            replace D := D.call (Below.refl _ w3).drew
            generalize w3.drew = w4 at *
            have tw2 := CT.out.2.2.1
            have pk2 := CT.out.2.2.2.1
            have pu2 := CT.out.2.2.2.2
            clear CT d2
            have hsame := Hid.mk (D.same tw2 (by have := pu2; omega))
            have HD := Hid.mk (And.intro D (And.intro tw2 (And.intro pk2 pu2)))
            obtain ⟨j0, j1, j2, j3, j4⟩ := D.b7.cells
            obtain ⟨i0, i1, i2, i3, i4, i5⟩ := D.b9.cells
            have l7 := D.b7.lt
            have l9 := D.b9.lt
            go_upto_region 33 with fail
            have b5 := below_box w4 (.cells #[.slice va0 vn0 vc0, .slice va1 vn1 vc1, .slice va2 vn2 vc2, .slice va3 vn3 vc3, .slice va4 vn4 vc4] 36)
            have y5 := heap_alloc_new w4 (.cells #[.slice va0 vn0 vc0, .slice va1 vn1 vc1, .slice va2 vn2 vc2, .slice va3 vn3 vc3, .slice va4 vn4 vc4] 36)
            generalize w4.alloc (.cells #[.slice va0 vn0 vc0, .slice va1 vn1 vc1, .slice va2 vn2 vc2, .slice va3 vn3 vc3, .slice va4 vn4 vc4] 36) = w5 at *
            obtain ⟨p0, p1, p2, p3, p4⟩ := (show Box5 w5 w4.heap.size (.slice va0 vn0 vc0) (.slice va1 vn1 vc1) (.slice va2 vn2 vc2) (.slice va3 vn3 vc3) (.slice va4 vn4 vc4) from y5).cells
            have l5 : w4.heap.size < w5.heap.size := (Array.getElem?_eq_some_iff.1 y5).1
            have B5 := Hid.mk b5
            clear j0 j1 j2 j3 j4 i0 i1 i2 i3 i4 i5 b5 y5 l7 l9
            go_wp2_with (first | (go_at_call 16; refine (hsame.out _ B5.out).mono ?_; rintro e w6 ⟨rfl, b6⟩))
            exact ⟨⟨k + 1, false, by omega, by omega, by go_num, rfl, _, _, _, _, _, _, _, _, _, _, _, _, _, _, _, HD.out.1.call (below3 B5.out b6), HD.out.2.1, HD.out.2.2.1, HD.out.2.2.2, rfl⟩, by simp [intOf]; omega⟩


        by_cases h2 : kd = 2
        · subst h2
          cases op with
          | none =>
            simp only [Option.isSome_none]
            clear z0 z1 z2 z3 z4 z5 z6
            have q1 := tw_commit' tw
            have pu' : X.puts ≤ ((k + 1 : Nat) : Int) := by omega
            have ct : Calls Try.prog 10 #[.pointer (some ⟨g, 0, none⟩)] w1 (MxD g (X, 180) w1) := by
              obtain ⟨⟨_, _, _, _, h⟩, -, -, -⟩ := hs1.m
              have := commit_any h
              rw [q1] at this; exact this
            clear q1 pu'
            have CT := Hid.mk (And.intro ct (And.intro hs1 (And.intro tw (And.intro pk (show X.puts ≤ ((k + 1 : Nat) : Int) by omega)))))
            clear ct hs1 tw pk hpu
            go_upto_region 30 with (first | (go_at_call 10; refine CT.out.1.mono ?_; intro e w2 d; have hs2 := CT.out.2.1.did d; obtain ⟨rfl, d2⟩ := d))
            have tw2 := CT.out.2.2.1
            have pk2 := CT.out.2.2.2.1
            have pu2 := CT.out.2.2.2.2
            clear CT d2
            have hsame := Hid.mk (hs2.same tw2 (by have := pu2; omega))
            have HD := Hid.mk (And.intro hs2 (And.intro tw2 (And.intro pk2 pu2)))
            obtain ⟨j0, j1, j2, j3, j4⟩ := hs2.b7.cells
            obtain ⟨i0, i1, i2, i3, i4, i5⟩ := hs2.b9.cells
            have l7 := hs2.b7.lt
            have l9 := hs2.b9.lt
            go_upto_region 33 with fail
            have b5 := below_box w2 (.cells #[.slice pa0 pn0 pc0, .slice pa1 pn1 pc1, .slice pa2 pn2 pc2, .slice pa3 pn3 pc3, .slice pa4 pn4 pc4] 36)
            have y5 := heap_alloc_new w2 (.cells #[.slice pa0 pn0 pc0, .slice pa1 pn1 pc1, .slice pa2 pn2 pc2, .slice pa3 pn3 pc3, .slice pa4 pn4 pc4] 36)
            generalize w2.alloc (.cells #[.slice pa0 pn0 pc0, .slice pa1 pn1 pc1, .slice pa2 pn2 pc2, .slice pa3 pn3 pc3, .slice pa4 pn4 pc4] 36) = w5 at *
            obtain ⟨p0, p1, p2, p3, p4⟩ := (show Box5 w5 w2.heap.size (.slice pa0 pn0 pc0) (.slice pa1 pn1 pc1) (.slice pa2 pn2 pc2) (.slice pa3 pn3 pc3) (.slice pa4 pn4 pc4) from y5).cells
            have l5 : w2.heap.size < w5.heap.size := (Array.getElem?_eq_some_iff.1 y5).1
            have B5 := Hid.mk b5
            clear j0 j1 j2 j3 j4 i0 i1 i2 i3 i4 i5 b5 y5 l7 l9
            go_wp2_with (first | (go_at_call 16; refine (hsame.out _ B5.out).mono ?_; rintro e w6 ⟨rfl, b6⟩))
            exact ⟨⟨k + 1, false, by omega, by omega, by go_num, rfl, _, _, _, _, _, _, _, _, _, _, _, _, _, _, _, HD.out.1.call (below3 B5.out b6), HD.out.2.1, HD.out.2.2.1, HD.out.2.2.2, rfl⟩, by simp [intOf]; omega⟩

          | some q =>
            simp only [Option.isSome_some]
            obtain ⟨va0, vn0, vc0, rfl⟩ := (hs1.po q rfl).1.st.sp.isSl
            obtain ⟨va1, vn1, vc1, rfl⟩ := (hs1.po q rfl).1.st.lv.isSl
            obtain ⟨va2, vn2, vc2, rfl⟩ := (hs1.po q rfl).1.st.bad.isSl
            obtain ⟨va3, vn3, vc3, rfl⟩ := (hs1.po q rfl).1.st.worn.isSl
            obtain ⟨va4, vn4, vc4, rfl⟩ := (hs1.po q rfl).1.tx.isSl
            obtain ⟨pv, rfl⟩ := hs1.po q rfl
            have q1 := tw_commit tw
            have pk' := pk_commit pk
            have pu' : (commitX X).1.puts ≤ ((k + 1 : Nat) : Int) := by rw [puts_commit]; omega
            have ct : Calls Try.prog 10 #[.pointer (some ⟨g, 0, none⟩)] w1 (MxD g ((commitX X).1, 0) w1) := by
              obtain ⟨⟨_, _, _, _, h⟩, -, -, -⟩ := hs1.m
              have := commit_any h
              rw [← q1.1]; exact this
            have CT := Hid.mk (And.intro ct (And.intro hs1 (And.intro q1.2 (And.intro pk' pu'))))
            clear ct hs1 q1 pk' pu' tw pk hpu pv z0 z1 z2 z3 z4 z5 z6
            go_upto_region 25 with (first | (go_at_call 10; refine CT.out.1.mono ?_; intro e w2 d; have hs2 := CT.out.2.1.did d; obtain ⟨rfl, d2⟩ := d))
            obtain ⟨j0, j1, j2, j3, j4⟩ := hs2.b7.cells
            obtain ⟨i0, i1, i2, i3, i4, i5⟩ := hs2.b9.cells
            have l7 := hs2.b7.lt
            have l9 := hs2.b9.lt
            have f0 := hs2.b7.fz 0
            have f1 := hs2.b7.fz 1
            have f2 := hs2.b7.fz 2
            have f3 := hs2.b7.fz 3
            have f4 := hs2.b7.fz 4
            go_region
            have eW : (((((w2.setCell ⟨g7, 0, none⟩ (.slice va0 vn0 vc0)).setCell ⟨g7, 1, none⟩ (.slice va1 vn1 vc1)).setCell ⟨g7, 2, none⟩ (.slice va2 vn2 vc2)).setCell ⟨g7, 3, none⟩ (.slice va3 vn3 vc3)).setCell ⟨g7, 4, none⟩ (.slice va4 vn4 vc4)) = set5 w2 g7 (.slice va0 vn0 vc0) (.slice va1 vn1 vc1) (.slice va2 vn2 vc2) (.slice va3 vn3 vc3) (.slice va4 vn4 vc4) := rfl
            rw [eW]
            have D : PlyS w g gr g7 g9 pl ks (commitX X).1 q.y q.tx none (.slice va0 vn0 vc0) (.slice va1 vn1 vc1) (.slice va2 vn2 vc2) (.slice va3 vn3 vc3) (.slice va4 vn4 vc4) (.slice va0 vn0 vc0) (.slice va1 vn1 vc1) (.slice va2 vn2 vc2) (.slice va3 vn3 vc3) (.slice va4 vn4 vc4) (q.n : Int) (set5 w2 g7 (.slice va0 vn0 vc0) (.slice va1 vn1 vc1) (.slice va2 vn2 vc2) (.slice va3 vn3 vc3) (.slice va4 vn4 vc4)) := hs2.set7 (hs2.po q rfl).1
            clear eW
            generalize set5 w2 g7 (.slice va0 vn0 vc0) (.slice va1 vn1 vc1) (.slice va2 vn2 vc2) (.slice va3 vn3 vc3) (.slice va4 vn4 vc4) = w3 at *
            clear j0 j1 j2 j3 j4 i0 i1 i2 i3 i4 i5 f0 f1 f2 f3 f4 l7 l9 hs2
            replace D := D.call (Below.refl _ w3).drew
            generalize w3.drew = w4 at *
            have tw2 := CT.out.2.2.1
            have pk2 := CT.out.2.2.2.1
            have pu2 := CT.out.2.2.2.2
            clear CT d2
            have hsame := Hid.mk (D.same tw2 (by have := pu2; omega))
            have HD := Hid.mk (And.intro D (And.intro tw2 (And.intro pk2 pu2)))
            obtain ⟨j0, j1, j2, j3, j4⟩ := D.b7.cells
            obtain ⟨i0, i1, i2, i3, i4, i5⟩ := D.b9.cells
            have l7 := D.b7.lt
            have l9 := D.b9.lt
            go_upto_region 33 with fail
            have b5 := below_box w4 (.cells #[.slice va0 vn0 vc0, .slice va1 vn1 vc1, .slice va2 vn2 vc2, .slice va3 vn3 vc3, .slice va4 vn4 vc4] 36)
            have y5 := heap_alloc_new w4 (.cells #[.slice va0 vn0 vc0, .slice va1 vn1 vc1, .slice va2 vn2 vc2, .slice va3 vn3 vc3, .slice va4 vn4 vc4] 36)
            generalize w4.alloc (.cells #[.slice va0 vn0 vc0, .slice va1 vn1 vc1, .slice va2 vn2 vc2, .slice va3 vn3 vc3, .slice va4 vn4 vc4] 36) = w5 at *
            obtain ⟨p0, p1, p2, p3, p4⟩ := (show Box5 w5 w4.heap.size (.slice va0 vn0 vc0) (.slice va1 vn1 vc1) (.slice va2 vn2 vc2) (.slice va3 vn3 vc3) (.slice va4 vn4 vc4) from y5).cells
            have l5 : w4.heap.size < w5.heap.size := (Array.getElem?_eq_some_iff.1 y5).1
            have B5 := Hid.mk b5
            clear j0 j1 j2 j3 j4 i0 i1 i2 i3 i4 i5 b5 y5 l7 l9
            go_wp2_with (first | (go_at_call 16; refine (hsame.out _ B5.out).mono ?_; rintro e w6 ⟨rfl, b6⟩))
            exact ⟨⟨k + 1, false, by omega, by omega, by go_num, rfl, _, _, _, _, _, _, _, _, _, _, _, _, _, _, _, HD.out.1.call (below3 B5.out b6), HD.out.2.1, HD.out.2.2.1, HD.out.2.2.2, rfl⟩, by simp [intOf]; omega⟩


        by_cases h3 : kd = 3
        · subst h3
          cases op with
          | none =>
            simp only [Option.isSome_none]
            clear z0 z1 z2 z3 z4 z5 z6
            have q1 := tw_abort' tw
            have pu' : X.puts ≤ ((k + 1 : Nat) : Int) := by omega
            have ct : Calls Try.prog 11 #[.pointer (some ⟨g, 0, none⟩)] w1 (MxD g (X, 180) w1) := by
              obtain ⟨⟨_, _, _, _, h⟩, -, -, -⟩ := hs1.m
              have := abort_any h
              rw [q1] at this; exact this
            clear q1 pu'
            have CT := Hid.mk (And.intro ct (And.intro hs1 (And.intro tw (And.intro pk (show X.puts ≤ ((k + 1 : Nat) : Int) by omega)))))
            clear ct hs1 tw pk hpu
            go_upto_region 30 with (first | (go_at_call 11; refine CT.out.1.mono ?_; intro e w2 d; have hs2 := CT.out.2.1.did d; obtain ⟨rfl, d2⟩ := d))
            have tw2 := CT.out.2.2.1
            have pk2 := CT.out.2.2.2.1
            have pu2 := CT.out.2.2.2.2
            clear CT d2
            have hsame := Hid.mk (hs2.same tw2 (by have := pu2; omega))
            have HD := Hid.mk (And.intro hs2 (And.intro tw2 (And.intro pk2 pu2)))
            obtain ⟨j0, j1, j2, j3, j4⟩ := hs2.b7.cells
            obtain ⟨i0, i1, i2, i3, i4, i5⟩ := hs2.b9.cells
            have l7 := hs2.b7.lt
            have l9 := hs2.b9.lt
            go_upto_region 33 with fail
            have b5 := below_box w2 (.cells #[.slice pa0 pn0 pc0, .slice pa1 pn1 pc1, .slice pa2 pn2 pc2, .slice pa3 pn3 pc3, .slice pa4 pn4 pc4] 36)
            have y5 := heap_alloc_new w2 (.cells #[.slice pa0 pn0 pc0, .slice pa1 pn1 pc1, .slice pa2 pn2 pc2, .slice pa3 pn3 pc3, .slice pa4 pn4 pc4] 36)
            generalize w2.alloc (.cells #[.slice pa0 pn0 pc0, .slice pa1 pn1 pc1, .slice pa2 pn2 pc2, .slice pa3 pn3 pc3, .slice pa4 pn4 pc4] 36) = w5 at *
            obtain ⟨p0, p1, p2, p3, p4⟩ := (show Box5 w5 w2.heap.size (.slice pa0 pn0 pc0) (.slice pa1 pn1 pc1) (.slice pa2 pn2 pc2) (.slice pa3 pn3 pc3) (.slice pa4 pn4 pc4) from y5).cells
            have l5 : w2.heap.size < w5.heap.size := (Array.getElem?_eq_some_iff.1 y5).1
            have B5 := Hid.mk b5
            clear j0 j1 j2 j3 j4 i0 i1 i2 i3 i4 i5 b5 y5 l7 l9
            go_wp2_with (first | (go_at_call 16; refine (hsame.out _ B5.out).mono ?_; rintro e w6 ⟨rfl, b6⟩))
            exact ⟨⟨k + 1, false, by omega, by omega, by go_num, rfl, _, _, _, _, _, _, _, _, _, _, _, _, _, _, _, HD.out.1.call (below3 B5.out b6), HD.out.2.1, HD.out.2.2.1, HD.out.2.2.2, rfl⟩, by simp [intOf]; omega⟩

          | some q =>
            simp only [Option.isSome_some]
            obtain ⟨va0, vn0, vc0, rfl⟩ := (hs1.po q rfl).1.st.sp.isSl
            obtain ⟨va1, vn1, vc1, rfl⟩ := (hs1.po q rfl).1.st.lv.isSl
            obtain ⟨va2, vn2, vc2, rfl⟩ := (hs1.po q rfl).1.st.bad.isSl
            obtain ⟨va3, vn3, vc3, rfl⟩ := (hs1.po q rfl).1.st.worn.isSl
            obtain ⟨va4, vn4, vc4, rfl⟩ := (hs1.po q rfl).1.tx.isSl
            obtain ⟨pv, rfl⟩ := hs1.po q rfl
            have q1 := tw_abort tw
            have pk' := pk_abort pk
            have pu' : (abortX X).1.puts ≤ ((k + 1 : Nat) : Int) := by rw [puts_abort]; omega
            have ct : Calls Try.prog 11 #[.pointer (some ⟨g, 0, none⟩)] w1 (MxD g ((abortX X).1, 0) w1) := by
              obtain ⟨⟨_, _, _, _, h⟩, -, -, -⟩ := hs1.m
              have := abort_any h
              rw [← q1.1]; exact this
            have CT := Hid.mk (And.intro ct (And.intro hs1 (And.intro q1.2 (And.intro pk' pu'))))
            clear ct hs1 q1 pk' pu' tw pk hpu pv z0 z1 z2 z3 z4 z5 z6
            go_upto_region 30 with (first | (go_at_call 11; refine CT.out.1.mono ?_; intro e w2 d; have hs2 := CT.out.2.1.did d; obtain ⟨rfl, d2⟩ := d))
            have D := hs2.gone
            clear hs2
            have tw2 := CT.out.2.2.1
            have pk2 := CT.out.2.2.2.1
            have pu2 := CT.out.2.2.2.2
            clear CT d2
            have hsame := Hid.mk (D.same tw2 (by have := pu2; omega))
            have HD := Hid.mk (And.intro D (And.intro tw2 (And.intro pk2 pu2)))
            obtain ⟨j0, j1, j2, j3, j4⟩ := D.b7.cells
            obtain ⟨i0, i1, i2, i3, i4, i5⟩ := D.b9.cells
            have l7 := D.b7.lt
            have l9 := D.b9.lt
            go_upto_region 33 with fail
            have b5 := below_box w2 (.cells #[.slice pa0 pn0 pc0, .slice pa1 pn1 pc1, .slice pa2 pn2 pc2, .slice pa3 pn3 pc3, .slice pa4 pn4 pc4] 36)
            have y5 := heap_alloc_new w2 (.cells #[.slice pa0 pn0 pc0, .slice pa1 pn1 pc1, .slice pa2 pn2 pc2, .slice pa3 pn3 pc3, .slice pa4 pn4 pc4] 36)
            generalize w2.alloc (.cells #[.slice pa0 pn0 pc0, .slice pa1 pn1 pc1, .slice pa2 pn2 pc2, .slice pa3 pn3 pc3, .slice pa4 pn4 pc4] 36) = w5 at *
            obtain ⟨p0, p1, p2, p3, p4⟩ := (show Box5 w5 w2.heap.size (.slice pa0 pn0 pc0) (.slice pa1 pn1 pc1) (.slice pa2 pn2 pc2) (.slice pa3 pn3 pc3) (.slice pa4 pn4 pc4) from y5).cells
            have l5 : w2.heap.size < w5.heap.size := (Array.getElem?_eq_some_iff.1 y5).1
            have B5 := Hid.mk b5
            clear j0 j1 j2 j3 j4 i0 i1 i2 i3 i4 i5 b5 y5 l7 l9
            go_wp2_with (first | (go_at_call 16; refine (hsame.out _ B5.out).mono ?_; rintro e w6 ⟨rfl, b6⟩))
            exact ⟨⟨k + 1, false, by omega, by omega, by go_num, rfl, _, _, _, _, _, _, _, _, _, _, _, _, _, _, _, HD.out.1.call (below3 B5.out b6), HD.out.2.1, HD.out.2.2.1, HD.out.2.2.2, rfl⟩, by simp [intOf]; omega⟩


        have n0 : (kd == 0) = false := by simpa using h0
        have n1 : (kd == 1) = false := by simpa using h1
        have n2 : (kd == 2) = false := by simpa using h2
        have n3 : (kd == 3) = false := by simpa using h3
        clear h0 h1 h2 h3
        by_cases hK1 : K = 1
        · subst hK1
          cases op with
          | none =>
            simp only [Option.isSome_none]
            have q1 := tw_put' tw S P str
            have pu' : X.puts ≤ ((k + 1 : Nat) : Int) := by omega
            have ct : Calls Try.prog 12 #[.pointer (some ⟨g, 0, none⟩), .int .i64 S, .int .i64 P, .string str] w1 (MxD g (X, 180) w1) := by
              obtain ⟨⟨_, _, _, _, h⟩, -, -, -⟩ := hs1.m
              have := mput_any h hS hP (by omega) str
              rw [q1] at this; exact this
            clear q1 pu'
            have CT := Hid.mk (And.intro ct (And.intro hs1 (And.intro tw (And.intro pk (show X.puts ≤ ((k + 1 : Nat) : Int) by omega)))))
            clear ct hs1 tw pk hpu
            go_upto_region 30 with (first | (go_at_call 12; refine CT.out.1.mono ?_; intro e w2 d; have hs2 := CT.out.2.1.did d; obtain ⟨rfl, d2⟩ := d))
            have tw2 := CT.out.2.2.1
            have pk2 := CT.out.2.2.2.1
            have pu2 := CT.out.2.2.2.2
            clear CT d2
            have hsame := Hid.mk (hs2.same tw2 (by have := pu2; omega))
            have HD := Hid.mk (And.intro hs2 (And.intro tw2 (And.intro pk2 pu2)))
            obtain ⟨j0, j1, j2, j3, j4⟩ := hs2.b7.cells
            obtain ⟨i0, i1, i2, i3, i4, i5⟩ := hs2.b9.cells
            have l7 := hs2.b7.lt
            have l9 := hs2.b9.lt
            go_upto_region 33 with fail
            have b5 := below_box w2 (.cells #[.slice pa0 pn0 pc0, .slice pa1 pn1 pc1, .slice pa2 pn2 pc2, .slice pa3 pn3 pc3, .slice pa4 pn4 pc4] 36)
            have y5 := heap_alloc_new w2 (.cells #[.slice pa0 pn0 pc0, .slice pa1 pn1 pc1, .slice pa2 pn2 pc2, .slice pa3 pn3 pc3, .slice pa4 pn4 pc4] 36)
            generalize w2.alloc (.cells #[.slice pa0 pn0 pc0, .slice pa1 pn1 pc1, .slice pa2 pn2 pc2, .slice pa3 pn3 pc3, .slice pa4 pn4 pc4] 36) = w5 at *
            obtain ⟨p0, p1, p2, p3, p4⟩ := (show Box5 w5 w2.heap.size (.slice pa0 pn0 pc0) (.slice pa1 pn1 pc1) (.slice pa2 pn2 pc2) (.slice pa3 pn3 pc3) (.slice pa4 pn4 pc4) from y5).cells
            have l5 : w2.heap.size < w5.heap.size := (Array.getElem?_eq_some_iff.1 y5).1
            have B5 := Hid.mk b5
            clear j0 j1 j2 j3 j4 i0 i1 i2 i3 i4 i5 b5 y5 l7 l9
            go_wp2_with (first | (go_at_call 16; refine (hsame.out _ B5.out).mono ?_; rintro e w6 ⟨rfl, b6⟩))
            exact ⟨⟨k + 1, false, by omega, by omega, by go_num, rfl, _, _, _, _, _, _, _, _, _, _, _, _, _, _, _, HD.out.1.call (below3 B5.out b6), HD.out.2.1, HD.out.2.2.1, HD.out.2.2.2, rfl⟩, by simp [intOf]; omega⟩

          | some q =>
            simp only [Option.isSome_some]
            obtain ⟨va0, vn0, vc0, rfl⟩ := (hs1.po q rfl).1.st.sp.isSl
            obtain ⟨va1, vn1, vc1, rfl⟩ := (hs1.po q rfl).1.st.lv.isSl
            obtain ⟨va2, vn2, vc2, rfl⟩ := (hs1.po q rfl).1.st.bad.isSl
            obtain ⟨va3, vn3, vc3, rfl⟩ := (hs1.po q rfl).1.st.worn.isSl
            obtain ⟨va4, vn4, vc4, rfl⟩ := (hs1.po q rfl).1.tx.isSl
            obtain ⟨pv, rfl⟩ := hs1.po q rfl
            have q1 := tw_put tw pk hmi.p0 S P str
            obtain ⟨iy, it, i8, iL, iA⟩ := tw_inv tw hmi hpu2
            have pu' : (putX X S P str).1.puts ≤ ((k + 1 : Nat) : Int) := by have := puts_put X S P str; omega
            generalize hE : (putP q pl ks S P str).2 = E at *
            have ct : Calls Try.prog 12 #[.pointer (some ⟨g, 0, none⟩), .int .i64 S, .int .i64 P, .string str] w1 (MxD g ((putX X S P str).1, E) w1) := by
              obtain ⟨⟨_, _, _, _, h⟩, -, -, -⟩ := hs1.m
              have := mput_any h hS hP (by omega) str
              rw [← q1.1]; exact this
            have cq : ∀ W, PAt W w.heap.size (.slice va0 vn0 vc0) (.slice va1 vn1 vc1) (.slice va2 vn2 vc2) (.slice va3 vn3 vc3) (.slice va4 vn4 vc4) q.y q.tx → w.heap.size ≤ W.heap.size → Calls Try.prog 14 #[.agg #[.slice va0 vn0 vc0, .slice va1 vn1 vc1, .slice va2 vn2 vc2, .slice va3 vn3 vc3, .slice va4 vn4 vc4, .int .i64 q.n], .int .i64 S, .int .i64 P, .string str, .agg #[.int .i64 pl, .int .i64 ks, .int .i64 0, .int .i64 0], .int .i64 64] W (P6D w.heap.size (putP q pl ks S P str) W) := fun W pw hW => put_pl pw iy hW (by omega) i8 pl ks 0 0 S P str (iL S P)
            unfold P6D at cq
            rw [hE] at cq
            have CT := Hid.mk (And.intro ct (And.intro hs1 (And.intro q1.2.1 (And.intro q1.2.2 (And.intro pu' cq)))))
            clear ct hs1 q1 pu' tw pk hpu pv cq iy it i8 iL iA hE
            go_upto_region 13 with (first | (go_at_call 12; refine CT.out.1.mono ?_; intro e w2 d; have hs2 := CT.out.2.1.did d; obtain ⟨rfl, d2⟩ := d))
            have bgx := d2.2.block gx lgx (by
              have hm := CT.out.2.1.m
              obtain ⟨⟨_, _, _, _, h⟩, -, -, -⟩ := hm
              simpa using cells_ne x1 h.box (by decide))
            have x2 := bgx.trans x1
            clear z0 z1 z2 z3 z4 z5 z6
            obtain ⟨z0, z1, z2, z3, z4, z5, z6⟩ : w2.cell? ⟨gx, 0, none⟩ = some (.int .i64 1) ∧ w2.cell? ⟨gx, 1, none⟩ = some (.int .i64 S) ∧ w2.cell? ⟨gx, 2, none⟩ = some (.int .i64 P) ∧ w2.cell? ⟨gx, 3, none⟩ = some (.int .i64 A) ∧ w2.cell? ⟨gx, 4, none⟩ = some (.int .i64 T) ∧ w2.cell? ⟨gx, 5, none⟩ = some (.int .i64 N) ∧ w2.cell? ⟨gx, 6, none⟩ = some (.string str) := by
              refine ⟨?_, ?_, ?_, ?_, ?_, ?_, ?_⟩ <;> rw [cell_of_row w2 gx _ _ 43 _ x2] <;> rfl
            have lgx2 : gx < w2.heap.size := (Array.getElem?_eq_some_iff.1 x2).1
            obtain ⟨r0, r1, r2, r3⟩ := hs2.rm.cells
            have lgr : gr < w2.heap.size := (Array.getElem?_eq_some_iff.1 hs2.rm).1
            obtain ⟨j0, j1, j2, j3, j4⟩ := hs2.b7.cells
            obtain ⟨i0, i1, i2, i3, i4, i5⟩ := hs2.b9.cells
            have l7 := hs2.b7.lt
            have l9 := hs2.b9.lt
            have cq2 := Hid.mk (CT.out.2.2.2.2.2 w2 (hs2.po q rfl).1 hs2.m.2.2.2)
            have HS2 := Hid.mk (And.intro hs2 x2)
            clear hs2 bgx x2 x1 lgx
            go_upto_region 15 with (first | (go_at_call 14; refine cq2.out.mono ?_; rintro e w3 ⟨y0, y1, y2, y3, yt, rfl, ra, ot, b3⟩; have hs3 := Hid.mk (HS2.out.1.call b3); obtain ⟨za0, zn0, zc0, rfl⟩ := ra.sp.isSl; obtain ⟨za1, zn1, zc1, rfl⟩ := ra.lv.isSl; obtain ⟨za2, zn2, zc2, rfl⟩ := ra.bad.isSl; obtain ⟨za3, zn3, zc3, rfl⟩ := ra.worn.isSl; obtain ⟨za4, zn4, zc4, rfl⟩ := ot.isSl; have RO := Hid.mk (And.intro ra ot); clear ra ot; have x3 := (b3.block gx lgx2).trans HS2.out.2; clear j0 j1 j2 j3 j4 i0 i1 i2 i3 i4 i5 l7 l9 z0 z1 z2 z3 z4 z5 z6 r0 r1 r2 r3; obtain ⟨i0, i1, i2, i3, i4, i5⟩ := hs3.out.b9.cells; have f0 := hs3.out.b9.fz 0; have f1 := hs3.out.b9.fz 1; have f2 := hs3.out.b9.fz 2; have f3 := hs3.out.b9.fz 3; have f4 := hs3.out.b9.fz 4; have f5 := hs3.out.b9.fz 5; have l9 := hs3.out.b9.lt))
            have eW : ((((((w3.setCell ⟨g9, 0, none⟩ (.slice za0 zn0 zc0)).setCell ⟨g9, 1, none⟩ (.slice za1 zn1 zc1)).setCell ⟨g9, 2, none⟩ (.slice za2 zn2 zc2)).setCell ⟨g9, 3, none⟩ (.slice za3 zn3 zc3)).setCell ⟨g9, 4, none⟩ (.slice za4 zn4 zc4)).setCell ⟨g9, 5, none⟩ (.int .i64 ((putP q pl ks S P str).1.n : Int))) = set6 w3 g9 (.slice za0 zn0 zc0) (.slice za1 zn1 zc1) (.slice za2 zn2 zc2) (.slice za3 zn3 zc3) (.slice za4 zn4 zc4) ((putP q pl ks S P str).1.n : Int) := rfl
            rw [eW]
            have D : PlyS w g gr g7 g9 pl ks (putX X S P str).1 now tx (some (putP q pl ks S P str).1) (.slice pa0 pn0 pc0) (.slice pa1 pn1 pc1) (.slice pa2 pn2 pc2) (.slice pa3 pn3 pc3) (.slice pa4 pn4 pc4) (.slice za0 zn0 zc0) (.slice za1 zn1 zc1) (.slice za2 zn2 zc2) (.slice za3 zn3 zc3) (.slice za4 zn4 zc4) ((putP q pl ks S P str).1.n : Int) (set6 w3 g9 (.slice za0 zn0 zc0) (.slice za1 zn1 zc1) (.slice za2 zn2 zc2) (.slice za3 zn3 zc3) (.slice za4 zn4 zc4) ((putP q pl ks S P str).1.n : Int)) := hs3.out.set9 (putP q pl ks S P str).1 ⟨RO.out.1, RO.out.2⟩
            have x4 : (set6 w3 g9 (.slice za0 zn0 zc0) (.slice za1 zn1 zc1) (.slice za2 zn2 zc2) (.slice za3 zn3 zc3) (.slice za4 zn4 zc4) ((putP q pl ks S P str).1.n : Int)).heap[gx]? = some (.cells #[.int .i64 1, .int .i64 S, .int .i64 P, .int .i64 A, .int .i64 T, .int .i64 N, .string str] 43 (0, 0)) := ((set6_kp w3 g9 (.slice za0 zn0 zc0) (.slice za1 zn1 zc1) (.slice za2 zn2 zc2) (.slice za3 zn3 zc3) (.slice za4 zn4 zc4) ((putP q pl ks S P str).1.n : Int)).2.2.2.2 gx (cells_ne x3 hs3.out.b9 (by decide)) (cells_ne x3 hs3.out.b9 (by decide))).trans x3
            clear eW i0 i1 i2 i3 i4 i5 f0 f1 f2 f3 f4 f5 l9 hs3 RO b3 x3
            generalize set6 w3 g9 (.slice za0 zn0 zc0) (.slice za1 zn1 zc1) (.slice za2 zn2 zc2) (.slice za3 zn3 zc3) (.slice za4 zn4 zc4) ((putP q pl ks S P str).1.n : Int) = w4 at *
            have k0 : w4.cell? ⟨gx, 0, none⟩ = some (.int .i64 1) := by rw [cell_of_row w4 gx _ _ 43 _ x4]; rfl
            have lgx4 : gx < w4.heap.size := (Array.getElem?_eq_some_iff.1 x4).1
            have tw2 := CT.out.2.2.1
            have pk2 := CT.out.2.2.2.1
            have pu2 := CT.out.2.2.2.2.1
            clear CT d2 x4 HS2 cq2
            generalize putP q pl ks S P str = RQ at *
            obtain ⟨Q', E'⟩ := RQ
            simp only at D tw2
            go_upto_region 30 with fail
            clear k0
            have hsame := Hid.mk (D.same tw2 (by have := pu2; omega))
            have HD := Hid.mk (And.intro D (And.intro tw2 (And.intro pk2 pu2)))
            obtain ⟨j0, j1, j2, j3, j4⟩ := D.b7.cells
            obtain ⟨i0, i1, i2, i3, i4, i5⟩ := D.b9.cells
            have l7 := D.b7.lt
            have l9 := D.b9.lt
            go_upto_region 33 with fail
            have b5 := below_box w4 (.cells #[.slice za0 zn0 zc0, .slice za1 zn1 zc1, .slice za2 zn2 zc2, .slice za3 zn3 zc3, .slice za4 zn4 zc4] 36)
            have y5 := heap_alloc_new w4 (.cells #[.slice za0 zn0 zc0, .slice za1 zn1 zc1, .slice za2 zn2 zc2, .slice za3 zn3 zc3, .slice za4 zn4 zc4] 36)
            generalize w4.alloc (.cells #[.slice za0 zn0 zc0, .slice za1 zn1 zc1, .slice za2 zn2 zc2, .slice za3 zn3 zc3, .slice za4 zn4 zc4] 36) = w5 at *
            obtain ⟨p0, p1, p2, p3, p4⟩ := (show Box5 w5 w4.heap.size (.slice za0 zn0 zc0) (.slice za1 zn1 zc1) (.slice za2 zn2 zc2) (.slice za3 zn3 zc3) (.slice za4 zn4 zc4) from y5).cells
            have l5 : w4.heap.size < w5.heap.size := (Array.getElem?_eq_some_iff.1 y5).1
            have B5 := Hid.mk b5
            clear j0 j1 j2 j3 j4 i0 i1 i2 i3 i4 i5 b5 y5 l7 l9
            go_wp2_with (first | (go_at_call 16; refine (hsame.out _ B5.out).mono ?_; rintro e w6 ⟨rfl, b6⟩))
            exact ⟨⟨k + 1, true, by omega, by omega, by go_num, rfl, _, _, _, _, _, _, _, _, _, _, _, _, _, _, _, HD.out.1.call (below3 B5.out b6), HD.out.2.1, HD.out.2.2.1, HD.out.2.2.2, rfl⟩, by simp [intOf]; omega⟩


        · have nK : (K == 1) = false := by simpa using hK1
          clear hK1
          cases op with
          | none =>
            simp only [Option.isSome_none]
            have q1 := tw_do' tw K S P A T N
            have pu' : X.puts ≤ ((k + 1 : Nat) : Int) := by omega
            have ct : Calls Try.prog 13 #[.pointer (some ⟨g, 0, none⟩), .agg #[.int .i64 K, .int .i64 S, .int .i64 P, .int .i64 A, .int .i64 T, .int .i64 N]] w1 (MxD g (X, 180) w1) := by
              obtain ⟨⟨_, _, _, _, h⟩, -, -, -⟩ := hs1.m
              have := mdo_any h K S P A T N hS
              rw [q1] at this; exact this
            clear q1 pu'
            have CT := Hid.mk (And.intro ct (And.intro hs1 (And.intro tw (And.intro pk (show X.puts ≤ ((k + 1 : Nat) : Int) by omega)))))
            clear ct hs1 tw pk hpu
            go_upto_region 30 with (first | (go_at_call 13; refine CT.out.1.mono ?_; intro e w2 d; have hs2 := CT.out.2.1.did d; obtain ⟨rfl, d2⟩ := d))
            have tw2 := CT.out.2.2.1
            have pk2 := CT.out.2.2.2.1
            have pu2 := CT.out.2.2.2.2
            clear CT d2
            have hsame := Hid.mk (hs2.same tw2 (by have := pu2; omega))
            have HD := Hid.mk (And.intro hs2 (And.intro tw2 (And.intro pk2 pu2)))
            obtain ⟨j0, j1, j2, j3, j4⟩ := hs2.b7.cells
            obtain ⟨i0, i1, i2, i3, i4, i5⟩ := hs2.b9.cells
            have l7 := hs2.b7.lt
            have l9 := hs2.b9.lt
            go_upto_region 33 with fail
            have b5 := below_box w2 (.cells #[.slice pa0 pn0 pc0, .slice pa1 pn1 pc1, .slice pa2 pn2 pc2, .slice pa3 pn3 pc3, .slice pa4 pn4 pc4] 36)
            have y5 := heap_alloc_new w2 (.cells #[.slice pa0 pn0 pc0, .slice pa1 pn1 pc1, .slice pa2 pn2 pc2, .slice pa3 pn3 pc3, .slice pa4 pn4 pc4] 36)
            generalize w2.alloc (.cells #[.slice pa0 pn0 pc0, .slice pa1 pn1 pc1, .slice pa2 pn2 pc2, .slice pa3 pn3 pc3, .slice pa4 pn4 pc4] 36) = w5 at *
            obtain ⟨p0, p1, p2, p3, p4⟩ := (show Box5 w5 w2.heap.size (.slice pa0 pn0 pc0) (.slice pa1 pn1 pc1) (.slice pa2 pn2 pc2) (.slice pa3 pn3 pc3) (.slice pa4 pn4 pc4) from y5).cells
            have l5 : w2.heap.size < w5.heap.size := (Array.getElem?_eq_some_iff.1 y5).1
            have B5 := Hid.mk b5
            clear j0 j1 j2 j3 j4 i0 i1 i2 i3 i4 i5 b5 y5 l7 l9
            go_wp2_with (first | (go_at_call 16; refine (hsame.out _ B5.out).mono ?_; rintro e w6 ⟨rfl, b6⟩))
            exact ⟨⟨k + 1, false, by omega, by omega, by go_num, rfl, _, _, _, _, _, _, _, _, _, _, _, _, _, _, _, HD.out.1.call (below3 B5.out b6), HD.out.2.1, HD.out.2.2.1, HD.out.2.2.2, rfl⟩, by simp [intOf]; omega⟩

          | some q =>
            simp only [Option.isSome_some]
            obtain ⟨va0, vn0, vc0, rfl⟩ := (hs1.po q rfl).1.st.sp.isSl
            obtain ⟨va1, vn1, vc1, rfl⟩ := (hs1.po q rfl).1.st.lv.isSl
            obtain ⟨va2, vn2, vc2, rfl⟩ := (hs1.po q rfl).1.st.bad.isSl
            obtain ⟨va3, vn3, vc3, rfl⟩ := (hs1.po q rfl).1.st.worn.isSl
            obtain ⟨va4, vn4, vc4, rfl⟩ := (hs1.po q rfl).1.tx.isSl
            obtain ⟨pv, rfl⟩ := hs1.po q rfl
            have q1 := tw_do tw pk K S P A T N
            obtain ⟨iy, it, i8, iL, iA⟩ := tw_inv tw hmi hpu2
            have pu' : (doX X K S P A T N).1.puts ≤ ((k + 1 : Nat) : Int) := by have := puts_do X K S P A T N; omega
            generalize hE : (doP q pl ks K S P A T N).2 = E at *
            have ct : Calls Try.prog 13 #[.pointer (some ⟨g, 0, none⟩), .agg #[.int .i64 K, .int .i64 S, .int .i64 P, .int .i64 A, .int .i64 T, .int .i64 N]] w1 (MxD g ((doX X K S P A T N).1, E) w1) := by
              obtain ⟨⟨_, _, _, _, h⟩, -, -, -⟩ := hs1.m
              have := mdo_any h K S P A T N hS
              rw [← q1.1]; exact this
            have cq : ∀ W, PAt W w.heap.size (.slice va0 vn0 vc0) (.slice va1 vn1 vc1) (.slice va2 vn2 vc2) (.slice va3 vn3 vc3) (.slice va4 vn4 vc4) q.y q.tx → w.heap.size ≤ W.heap.size → Calls Try.prog 15 #[.agg #[.slice va0 vn0 vc0, .slice va1 vn1 vc1, .slice va2 vn2 vc2, .slice va3 vn3 vc3, .slice va4 vn4 vc4, .int .i64 q.n], rv K S P A T N, .agg #[.int .i64 pl, .int .i64 ks, .int .i64 0, .int .i64 0]] W (P6D w.heap.size (doP q pl ks K S P A T N) W) := fun W pw hW => do_pl pw iy hW i8 pl ks 0 0 K S P A T N (iA K S P A T N)
            unfold P6D rv at cq
            rw [hE] at cq
            have CT := Hid.mk (And.intro ct (And.intro hs1 (And.intro q1.2.1 (And.intro q1.2.2 (And.intro pu' cq)))))
            clear ct hs1 q1 pu' tw pk hpu pv cq iy it i8 iL iA hE
            go_upto_region 13 with (first | (go_at_call 13; refine CT.out.1.mono ?_; intro e w2 d; have hs2 := CT.out.2.1.did d; obtain ⟨rfl, d2⟩ := d))
            have bgx := d2.2.block gx lgx (by
              have hm := CT.out.2.1.m
              obtain ⟨⟨_, _, _, _, h⟩, -, -, -⟩ := hm
              simpa using cells_ne x1 h.box (by decide))
            have x2 := bgx.trans x1
            clear z0 z1 z2 z3 z4 z5 z6
            obtain ⟨z0, z1, z2, z3, z4, z5, z6⟩ : w2.cell? ⟨gx, 0, none⟩ = some (.int .i64 K) ∧ w2.cell? ⟨gx, 1, none⟩ = some (.int .i64 S) ∧ w2.cell? ⟨gx, 2, none⟩ = some (.int .i64 P) ∧ w2.cell? ⟨gx, 3, none⟩ = some (.int .i64 A) ∧ w2.cell? ⟨gx, 4, none⟩ = some (.int .i64 T) ∧ w2.cell? ⟨gx, 5, none⟩ = some (.int .i64 N) ∧ w2.cell? ⟨gx, 6, none⟩ = some (.string str) := by
              refine ⟨?_, ?_, ?_, ?_, ?_, ?_, ?_⟩ <;> rw [cell_of_row w2 gx _ _ 43 _ x2] <;> rfl
            have lgx2 : gx < w2.heap.size := (Array.getElem?_eq_some_iff.1 x2).1
            obtain ⟨r0, r1, r2, r3⟩ := hs2.rm.cells
            have lgr : gr < w2.heap.size := (Array.getElem?_eq_some_iff.1 hs2.rm).1
            obtain ⟨j0, j1, j2, j3, j4⟩ := hs2.b7.cells
            obtain ⟨i0, i1, i2, i3, i4, i5⟩ := hs2.b9.cells
            have l7 := hs2.b7.lt
            have l9 := hs2.b9.lt
            have cq2 := Hid.mk (CT.out.2.2.2.2.2 w2 (hs2.po q rfl).1 hs2.m.2.2.2)
            have HS2 := Hid.mk (And.intro hs2 x2)
            clear hs2 bgx x2 x1 lgx
            go_upto_region 30 with (first | (go_at_call 15; refine cq2.out.mono ?_; rintro e w3 ⟨y0, y1, y2, y3, yt, rfl, ra, ot, b3⟩; have hs3 := Hid.mk (HS2.out.1.call b3); obtain ⟨za0, zn0, zc0, rfl⟩ := ra.sp.isSl; obtain ⟨za1, zn1, zc1, rfl⟩ := ra.lv.isSl; obtain ⟨za2, zn2, zc2, rfl⟩ := ra.bad.isSl; obtain ⟨za3, zn3, zc3, rfl⟩ := ra.worn.isSl; obtain ⟨za4, zn4, zc4, rfl⟩ := ot.isSl; have RO := Hid.mk (And.intro ra ot); clear ra ot; have x3 := (b3.block gx lgx2).trans HS2.out.2; clear j0 j1 j2 j3 j4 i0 i1 i2 i3 i4 i5 l7 l9 z0 z1 z2 z3 z4 z5 z6 r0 r1 r2 r3; obtain ⟨i0, i1, i2, i3, i4, i5⟩ := hs3.out.b9.cells; have f0 := hs3.out.b9.fz 0; have f1 := hs3.out.b9.fz 1; have f2 := hs3.out.b9.fz 2; have f3 := hs3.out.b9.fz 3; have f4 := hs3.out.b9.fz 4; have f5 := hs3.out.b9.fz 5; have l9 := hs3.out.b9.lt))
            have eW : ((((((w3.setCell ⟨g9, 0, none⟩ (.slice za0 zn0 zc0)).setCell ⟨g9, 1, none⟩ (.slice za1 zn1 zc1)).setCell ⟨g9, 2, none⟩ (.slice za2 zn2 zc2)).setCell ⟨g9, 3, none⟩ (.slice za3 zn3 zc3)).setCell ⟨g9, 4, none⟩ (.slice za4 zn4 zc4)).setCell ⟨g9, 5, none⟩ (.int .i64 ((doP q pl ks K S P A T N).1.n : Int))) = set6 w3 g9 (.slice za0 zn0 zc0) (.slice za1 zn1 zc1) (.slice za2 zn2 zc2) (.slice za3 zn3 zc3) (.slice za4 zn4 zc4) ((doP q pl ks K S P A T N).1.n : Int) := rfl
            rw [eW]
            have D : PlyS w g gr g7 g9 pl ks (doX X K S P A T N).1 now tx (some (doP q pl ks K S P A T N).1) (.slice pa0 pn0 pc0) (.slice pa1 pn1 pc1) (.slice pa2 pn2 pc2) (.slice pa3 pn3 pc3) (.slice pa4 pn4 pc4) (.slice za0 zn0 zc0) (.slice za1 zn1 zc1) (.slice za2 zn2 zc2) (.slice za3 zn3 zc3) (.slice za4 zn4 zc4) ((doP q pl ks K S P A T N).1.n : Int) (set6 w3 g9 (.slice za0 zn0 zc0) (.slice za1 zn1 zc1) (.slice za2 zn2 zc2) (.slice za3 zn3 zc3) (.slice za4 zn4 zc4) ((doP q pl ks K S P A T N).1.n : Int)) := hs3.out.set9 (doP q pl ks K S P A T N).1 ⟨RO.out.1, RO.out.2⟩
            have x4 : (set6 w3 g9 (.slice za0 zn0 zc0) (.slice za1 zn1 zc1) (.slice za2 zn2 zc2) (.slice za3 zn3 zc3) (.slice za4 zn4 zc4) ((doP q pl ks K S P A T N).1.n : Int)).heap[gx]? = some (.cells #[.int .i64 K, .int .i64 S, .int .i64 P, .int .i64 A, .int .i64 T, .int .i64 N, .string str] 43 (0, 0)) := ((set6_kp w3 g9 (.slice za0 zn0 zc0) (.slice za1 zn1 zc1) (.slice za2 zn2 zc2) (.slice za3 zn3 zc3) (.slice za4 zn4 zc4) ((doP q pl ks K S P A T N).1.n : Int)).2.2.2.2 gx (cells_ne x3 hs3.out.b9 (by decide)) (cells_ne x3 hs3.out.b9 (by decide))).trans x3
            clear eW i0 i1 i2 i3 i4 i5 f0 f1 f2 f3 f4 f5 l9 hs3 RO b3 x3
            generalize set6 w3 g9 (.slice za0 zn0 zc0) (.slice za1 zn1 zc1) (.slice za2 zn2 zc2) (.slice za3 zn3 zc3) (.slice za4 zn4 zc4) ((doP q pl ks K S P A T N).1.n : Int) = w4 at *
            have k0 : w4.cell? ⟨gx, 0, none⟩ = some (.int .i64 K) := by rw [cell_of_row w4 gx _ _ 43 _ x4]; rfl
            have lgx4 : gx < w4.heap.size := (Array.getElem?_eq_some_iff.1 x4).1
            have tw2 := CT.out.2.2.1
            have pk2 := CT.out.2.2.2.1
            have pu2 := CT.out.2.2.2.2.1
            clear CT d2 x4 HS2 cq2
            generalize doP q pl ks K S P A T N = RQ at *
            obtain ⟨Q', E'⟩ := RQ
            simp only at D tw2
            clear k0
            have hsame := Hid.mk (D.same tw2 (by have := pu2; omega))
            have HD := Hid.mk (And.intro D (And.intro tw2 (And.intro pk2 pu2)))
            obtain ⟨j0, j1, j2, j3, j4⟩ := D.b7.cells
            obtain ⟨i0, i1, i2, i3, i4, i5⟩ := D.b9.cells
            have l7 := D.b7.lt
            have l9 := D.b9.lt
            go_upto_region 33 with fail
            have b5 := below_box w4 (.cells #[.slice za0 zn0 zc0, .slice za1 zn1 zc1, .slice za2 zn2 zc2, .slice za3 zn3 zc3, .slice za4 zn4 zc4] 36)
            have y5 := heap_alloc_new w4 (.cells #[.slice za0 zn0 zc0, .slice za1 zn1 zc1, .slice za2 zn2 zc2, .slice za3 zn3 zc3, .slice za4 zn4 zc4] 36)
            generalize w4.alloc (.cells #[.slice za0 zn0 zc0, .slice za1 zn1 zc1, .slice za2 zn2 zc2, .slice za3 zn3 zc3, .slice za4 zn4 zc4] 36) = w5 at *
            obtain ⟨p0, p1, p2, p3, p4⟩ := (show Box5 w5 w4.heap.size (.slice za0 zn0 zc0) (.slice za1 zn1 zc1) (.slice za2 zn2 zc2) (.slice za3 zn3 zc3) (.slice za4 zn4 zc4) from y5).cells
            have l5 : w4.heap.size < w5.heap.size := (Array.getElem?_eq_some_iff.1 y5).1
            have B5 := Hid.mk b5
            clear j0 j1 j2 j3 j4 i0 i1 i2 i3 i4 i5 b5 y5 l7 l9
            go_wp2_with (first | (go_at_call 16; refine (hsame.out _ B5.out).mono ?_; rintro e w6 ⟨rfl, b6⟩))
            exact ⟨⟨k + 1, true, by omega, by omega, by go_num, rfl, _, _, _, _, _, _, _, _, _, _, _, _, _, _, _, HD.out.1.call (below3 B5.out b6), HD.out.2.1, HD.out.2.2.1, HD.out.2.2.2, rfl⟩, by simp [intOf]; omega⟩


      · have hk3 : k = 100 := by omega
        subst hk3
        have hd1 : decide (((100 : Nat) : Int) < (n : Int)) = true := by simp; omega
        have HB := Hid.mk hs.m.2.1
        clear hs
        go_wp2_with fail
        go_ret
        exact ⟨rfl, HB.out⟩
    · have hk2 : k = n := by omega
      subst hk2
      have HB := Hid.mk hs.m.2.1
      clear hs
      go_wp2_with fail
      go_ret
      exact ⟨rfl, HB.out⟩
end Go.Proofs.Ytacgemibaojbaaa
