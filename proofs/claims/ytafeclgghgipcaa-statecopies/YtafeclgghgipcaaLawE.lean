/-
  StateDumps, walked. No condition.
-/
import Derived.Test.YtafeclgghgipcaaLawD
namespace Go.Proofs.Ytafeclgghgipcaa
open Go Go.RowKit Go.Maps

theorem DdS.same1 {w s1 g4 t t2 v0 v1 v2 v3 d P2 wr} (h : DdS w s1 g4 t t2 v0 v1 v2 v3 d P2 wr) : Calls Try.prog 12 #[.pointer (some ⟨s1.p, 0, none⟩), .agg #[v0, v1, v2, v3]] wr fun e w' => e = .returned (.bool true) ∧ Below wr.heap.size wr w' := by
  have hr := h.at'
  rw [← h.is] at hr
  exact same_any h.one hr
theorem DdS.same2 {w s1 g4 t v0 v1 v2 v3 d P2 wr} (h : DdS w s1 g4 t t v0 v1 v2 v3 d P2 wr) : Calls Try.prog 12 #[.pointer (some ⟨P2, 0, none⟩), .agg #[v0, v1, v2, v3]] wr fun e w' => e = .returned (.bool true) ∧ Below wr.heap.size wr w' := by
  obtain ⟨s, rfl, h2, h3, _⟩ := h.two
  have hr := h.at'
  rw [← h3] at hr
  exact same_any h2 hr
theorem DdS.same {w s1 g4 t v0 v1 v2 v3 d P2 wr} (h : DdS w s1 g4 t t v0 v1 v2 v3 d P2 wr) (p : Nat) (hp : p = P2 ∨ p = s1.p) : Calls Try.prog 12 #[.pointer (some ⟨p, 0, none⟩), .agg #[v0, v1, v2, v3]] wr fun e w' => e = .returned (.bool true) ∧ Below wr.heap.size wr w' := by
  rcases hp with rfl | rfl
  · exact h.same2
  · exact h.same1
/-- a state that was played, the answer's beside it in the block g4 -/
structure PbS (w : World) (s1 : St) (g4 : Nat) (t : Ab) (v0 v1 v2 v3 : Value) (wr : World) : Prop where
  one : Whole wr s1
  is : ab s1 = t
  box : Box4 wr g4 v0 v1 v2 v3
  at' : RAt wr w.heap.size v0 v1 v2 v3 (rs t)
  high : ∀ i ∈ foot s1, w.heap.size ≤ i
  up : w.heap.size ≤ g4
  below : Below w.heap.size w wr
theorem PbS.call {w s1 g4 t v0 v1 v2 v3 wr wr'} (h : PbS w s1 g4 t v0 v1 v2 v3 wr) (b : Below wr.heap.size wr wr') : PbS w s1 g4 t v0 v1 v2 v3 wr' :=
  ⟨h.one.call b, h.is, h.box.call b, h.at'.call b, h.high, h.up, below3 h.below b⟩
theorem Pld.pb {w P t v0 v1 v2 v3 w1} (h : Pld w P t v0 v1 v2 v3 w1) : ∃ s1, s1.p = P ∧ PbS w s1 w1.heap.size t v0 v1 v2 v3 (w1.alloc (.cells #[v0, v1, v2, v3] 30)) := by
  obtain ⟨⟨g3, g5, s, h1, h2, h3, h4, h5, h6, h7⟩, hr⟩ := h
  exact ⟨s, h1, h2.call (below_al w1 _), h3, Box4.fresh w1 _ _ _ _, hr.call (below_al w1 _), h6, h4.size, below3 h4 (below_al w1 _)⟩
theorem PbS.low {w s1 g4 t v0 v1 v2 v3 wr} (h : PbS w s1 g4 t v0 v1 v2 v3 wr) {d : Value} {rows : Rws} (ow : Ow wr w.heap.size 36 6 d rows) : ∀ z ∈ foot s1 ++ (d.ownBlock.toList ++ zs g4 v0 v1 v2 v3), w.heap.size ≤ z ∧ z < wr.heap.size := by
  intro z hz
  rcases List.mem_append.1 hz with hz | hz
  · exact ⟨h.high z hz, h.one.at'.foot_lt _ hz⟩
  · rcases List.mem_append.1 hz with hz | hz
    · exact ow.lt z (by simpa using hz)
    · rcases zs_cases hz with rfl | e | e | e | e
      · exact ⟨h.up, h.box.lt⟩
      · exact h.at'.sp.lt z e
      · exact h.at'.lv.lt z e
      · exact h.at'.bad.lt z e
      · exact h.at'.worn.lt z e
set_option maxRecDepth 20000 in
set_option maxHeartbeats 4000000 in
theorem stateDumps_any (a : Option Addr) (len cap : Nat) (f : Nat → R6) (w : World) (hx : RecsF w a len f) : Calls Try.prog 4 #[.slice a len cap] w fun e w' => e = .returned (.bool true) ∧ Below w.heap.size w w' := by
  have HX := Hid.mk (played_any a len cap f w hx)
  clear hx
  go_enter Try.func4, Try.ntmps4
  go_upto_region 2 with (first | (go_at_call 15; refine HX.out.mono ?_; rintro e w1 ⟨P, t, v0, v1, v2, v3, rfl, hp⟩; obtain ⟨a0, m0, c0, rfl⟩ := hp.2.sp.isSl; obtain ⟨a1, m1, c1, rfl⟩ := hp.2.lv.isSl; obtain ⟨a2, m2, c2, rfl⟩ := hp.2.bad.isSl; obtain ⟨a3, m3, c3, rfl⟩ := hp.2.worn.isSl))
  obtain ⟨s1, rfl, hb⟩ := hp.pb
  clear hp HX
  generalize w1.alloc (.cells #[.slice a0 m0 c0, .slice a1 m1 c1, .slice a2 m2 c2, .slice a3 m3 c3] 30) = W1 at *
  generalize w1.heap.size = g4 at *
  have HB := Hid.mk hb
  clear hb
  go_upto_region 3 with (first | (go_at_call 16; refine (dump_any HB.out.one).mono ?_; rintro e w2 ⟨d, rfl, hd, b2⟩))
  have hb2 := HB.out.call b2
  rw [HB.out.is] at hd
  have hd2 := hd.lower HB.out.below.size
  have hinv : InvA t := by have := hb2.one.inv; rw [hb2.is] at this; exact this
  have HB2 := Hid.mk (And.intro hb2 (And.intro hd2 hinv))
  clear hb2 hd hd2 b2 HB hinv
  go_upto_region 4 with (first | (go_at_call 8; refine (newZ HB2.out.1.below (Nat.le_refl _) (HB2.out.1.low HB2.out.2.1)).mono ?_; rintro e w3 ⟨rfl, hz3, b3⟩))
  have D3 := DdS.mk (HB2.out.1.call b3).one HB2.out.1.is (HB2.out.1.call b3).box (HB2.out.1.call b3).at' (HB2.out.2.1.call b3) hz3
  have hpl := plays_dump HB2.out.2.2
  have hn2 : (dumpA t).length < 20000 := by
    have := du_len HB2.out.2.2 t.sp.length t.bad.length t.worn.length
    rw [du_all, List.length_map] at this
    exact this
  clear HB2 hz3 b3
  obtain ⟨da, dc, rfl⟩ := D3.ow.form
  rw [List.length_map] at D3
  rw [List.length_map]
  generalize w2.heap.size + 4 = P2 at *
  generalize hn : (dumpA t).length = n at *
  replace hn := Hid.mk hn
  have HD := Hid.mk (And.intro D3 hpl)
  clear D3 hpl
  go_upto_region 5 with fail
  go_loopw [7] (fun i wr => ∃ (k : Nat) (t2 : Ab), k ≤ n ∧ i = .int .i64 k ∧ DdS w s1 g4 t t2 (.slice a0 m0 c0) (.slice a1 m1 c1) (.slice a2 m2 c2) (.slice a3 m3 c3) (.slice da n dc) P2 wr ∧ plays t2 ((dumpA t).drop k) t) (fun i _ => n - (intOf i).toNat)
  case atStart => exact ⟨0, noAb, Nat.zero_le _, rfl, HD.out.1, HD.out.2⟩
  case round =>
    clear HD
    obtain ⟨k, t2, hk, rfl, hs, hp⟩ := hrel
    by_cases hlt : k < n
    · have hltl : k < (dumpA t).length := by rw [hn.out]; exact hlt
      obtain ⟨g, rfl, hg, q0, q1, q2, q3, q4, q5⟩ := hs.ow.rec6 hltl
      have hdr : (dumpA t).drop k = (dumpA t).getD k (0, 0, 0, 0, 0, 0) :: (dumpA t).drop (k + 1) := by rw [List.drop_eq_getElem_cons hltl]; simp [List.getD_eq_getElem?_getD, hltl]
      rw [hdr] at hp
      generalize (dumpA t).getD k (0, 0, 0, 0, 0, 0) = r at *
      obtain ⟨K, S, Pg, A, T, Nn⟩ := r
      simp only at q0 q1 q2 q3 q4 q5
      have hap := applyZ hs.two (K, S, Pg, A, T, Nn)
      unfold rv at hap
      simp only at hap
      rw [hp.1] at hap
      have HS := Hid.mk (And.intro hs (And.intro hap hp.2))
      clear hs hap hp hdr hltl
      go_wp2_with (first | (go_at_call 11; refine HS.out.2.1.mono ?_; rintro e w5 ⟨rfl, hz5, hs5, bz5⟩))
      exact ⟨⟨k + 1, _, by omega, by go_num, HS.out.1.next hz5 hs5, HS.out.2.2⟩, by simp [intOf]; omega⟩
    · obtain rfl : k = n := by omega
      rw [← hn.out, List.drop_length] at hp
      obtain rfl : t2 = t := hp
      obtain ⟨z0, z1, z2, z3⟩ := hs.box.cells
      have HS := Hid.mk hs
      clear hs
      go_wp2_with (first
        | (go_at_call 9; refine (awake0 _).mono ?_; rintro e w5 ⟨rfl, b5⟩; replace HS := Hid.mk (HS.out.call b5); clear z0 z1 z2 z3 b5; obtain ⟨z0, z1, z2, z3⟩ := HS.out.box.cells)
        | (go_at_call 12; refine (HS.out.same _ (by first | exact .inl rfl | exact .inr rfl)).mono ?_; rintro e w6 ⟨rfl, b6⟩; replace HS := Hid.mk (HS.out.call b6); clear z0 z1 z2 z3 b6; obtain ⟨z0, z1, z2, z3⟩ := HS.out.box.cells))
      go_ret
      exact ⟨rfl, HS.out.two.hold.below⟩
end Go.Proofs.Ytafeclgghgipcaa
