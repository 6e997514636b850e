/-
  The walk of the law GroupReads. No condition.
-/
import Derived.Test.YtdapoonojhfkkaaAwa
namespace Go.Proofs.Ytdapoonojhfkkaa
open Go Go.RowKit

/-- texts that are handed in -/
def TxtG (w : World) (a : Option Addr) (n : Nat) (f : Nat → ByteArray) : Prop := ∀ i, i < n → ∃ g o, a = some ⟨g, o, none⟩ ∧ g < w.heap.size ∧ w.cell? ⟨g, o + i, none⟩ = some (.string (f i))
theorem TxtG.below {w w' : World} {a n f} (h : TxtG w a n f) (b : Below w.heap.size w w') : TxtG w' a n f := by
  intro i hi
  obtain ⟨g, o, ha, hg, c0⟩ := h i hi
  exact ⟨g, o, ha, Nat.lt_of_lt_of_le hg b.size, by rw [b.cell (p := ⟨g, o + i, none⟩) hg]; exact c0⟩
/-- what the first loop holds: records, and texts -/
structure Gr (w : World) (v3 v5 : Value) (rs : List R6) (ts : List ByteArray) (wr : World) : Prop where
  rw : Rw w v3 rs wr
  tx : wr.ownsRow w.heap.size 9 1 v5 ts.length (ts.map Value.string)
theorem Gr.call {w v3 v5 rs ts wr w2} (h : Gr w v3 v5 rs ts wr) (b : Below wr.heap.size wr w2) : Gr w v3 v5 rs ts w2 := ⟨h.rw.call b, owns_call h.tx b⟩
theorem Gr.text {w v3 v5 rs ts wr w3 v2} (h : Gr w v3 v5 rs ts wr) (o : Obj) (s : ByteArray) (hown : w3.ownsRow w.heap.size 9 1 v2 (ts.length + 1) (ts.map Value.string ++ [s].map Value.string)) (hg : (wr.alloc o).grownBy w3 v5.ownBlock) : Gr w v3 v2 rs (ts ++ [s]) w3 := by
  refine ⟨⟨(h.rw.own.alloc o).kept hg (owns_ne h.rw.own h.tx (by decide)), h.rw.may, ?_⟩, ?_⟩
  · exact (h.rw.below.alloc h.rw.below.size o).grown hg (h.rw.below.alloc h.rw.below.size o).size (fun k hk => ((h.tx.alloc o).lt k hk).1)
  · rw [List.map_append, List.length_append]
    exact hown
theorem Gr.more {w v3 v5 rs ts wr w3 v2} (h : Gr w v3 v5 rs ts wr) (o : Obj) (r : R6) (hm : r.may = true) (hown : w3.ownsRow w.heap.size 27 6 v2 (rs.length + 1) (rowsC rs ++ r.cells)) (hg : (wr.alloc o).grownBy w3 v3.ownBlock) : Gr w v2 v5 (rs ++ [r]) ts w3 :=
  ⟨h.rw.more o r hm hown hg, (h.tx.alloc o).kept hg (owns_ne h.tx h.rw.own (by decide))⟩
theorem Gr.start (w : World) : Gr w (.slice (some ⟨w.heap.size, 0, none⟩) 0 0) (.slice (some ⟨w.heap.size + 1, 0, none⟩) 0 0) [] [] ((w.alloc (.cells #[] 27)).alloc (.cells #[] 9)) := by
  have h1 : Rw w (.slice (some ⟨w.heap.size, 0, none⟩) 0 0) [] (w.alloc (.cells #[] 27)) := ⟨World.ownsRow_made w #[] 0 (Nat.le_refl _) (Nat.zero_le _) rfl, fun _ h => (by cases h), below_one w _⟩
  refine ⟨h1.call (below_one _ _), ?_⟩
  have h2 := World.ownsRow_made (base := w.heap.size) (e := 9) (size := 1) (w.alloc (.cells #[] 27)) #[] 0 (by rw [size_alloc]; omega) (Nat.zero_le _) rfl
  rw [size_alloc] at h2
  exact h2
theorem owns_ab {B e size v n xs} {w : World} {Y s k} (h : w.ownsRow B e size v n xs) (ha : Ab w Y s k) (hne : e ≠ 25) : v.ownBlock ≠ some Y := by
  intro q
  rcases h.2 with ⟨rfl, _⟩ | ⟨g, cap, cur, rfl, _, hg, _⟩
  · cases q
  · obtain rfl : g = Y := by simpa [Value.ownBlock] using q
    unfold Ab at ha
    rw [hg] at ha
    simp at ha
    exact hne ha.2
theorem Gr.keptY {w v3 v5 rs ts wr w2 Y s k} (h : Gr w v3 v5 rs ts wr) (b : wr.grownBy w2 (some Y)) (ha : Ab wr Y s k) (hY : w.heap.size ≤ Y) : Gr w v3 v5 rs ts w2 :=
  ⟨h.rw.grown b (owns_ab h.rw.own ha (by decide)) hY, h.tx.kept b (.inr (owns_ab h.tx ha (by decide)))⟩
/-- what the second loop holds -/
structure Ig (w : World) (Y k : Nat) (ts2 : List ByteArray) (RG : List R6 × Int) (v5 v3 : Value) (E2 : Int) (j n : Nat) (s : ByteArray) (e2 : Int) (rs2 : List R6) (wx : World) : Prop where
  gr : Gr w v3 v5 rs2 ts2 wx
  ab : Ab wx Y s e2
  len : rs2.length ≤ 100 * k + j
  st : (E2 = 0 ∧ e2 = 0 ∧ s.size ≤ n ∧ unG n s rs2 = RG) ∨ (E2 ≠ 0 ∧ (rs2, E2) = RG)
theorem Ig.done {w Y k ts2 RG v5 v3 E2 j n s e2 rs2 wx} (h : Ig w Y k ts2 RG v5 v3 E2 j n s e2 rs2 wx) (hd : E2 ≠ 0 ∨ s.size = 0) : RG = (rs2, E2) := by
  rcases h.st with ⟨h1, _, h3, h4⟩ | ⟨_, h2⟩
  · rcases hd with hd | hd
    · exact absurd h1 hd
    · rw [unG_empty n hd] at h4
      rw [← h4, h1]
  · exact h2.symm
theorem size_extract100 (s : ByteArray) : (s.extract 0 100).size ≤ 100 := by rw [ByteArray.size_extract]; omega
set_option maxRecDepth 20000 in
set_option maxHeartbeats 4000000 in
theorem groupReads_any (a : Option Addr) (len cap : Nat) (f : Nat → ByteArray) (w : World) (hx : TxtG w a len f) : Calls Try.prog 3 #[.slice a len cap] w fun e w' => e = .returned (.bool true) ∧ Below w.heap.size w w' := by
  have HX := Hid.mk hx
  clear hx
  go_enter Try.func3, Try.ntmps3
  go_upto_region 3 with fail
  have r0 := Gr.start w
  generalize ((w.alloc (.cells #[] 27)).alloc (.cells #[] 9)) = W at *
  replace r0 := Hid.mk r0
  go_loopw [3, 4, 5, 6] (fun v3 e v5 i wr => ∃ (k : Nat) (E : Int) (ts : List ByteArray) (rs : List R6), k ≤ 8 ∧ k ≤ len ∧ ts.length = k ∧ rs.length ≤ 100 * k ∧ i = .int .i64 k ∧ e = .int .i64 E ∧ unT ts [] = (rs, E) ∧ (∀ t ∈ ts, t.size ≤ 100) ∧ Gr w v3 v5 rs ts wr) (fun _ _ _ i _ => 8 - (intOf i).toNat)
  case atStart => exact ⟨0, 0, [], [], by omega, Nat.zero_le _, rfl, Nat.le_refl _, rfl, rfl, rfl, fun _ h => (by cases h), r0.out⟩
  case round =>
    clear r0
    obtain ⟨k, E, ts, rs, hk8, hklen, htk, hrk, rfl, rfl, hun, h100, hs⟩ := hrel
    by_cases hgo : k < len ∧ k < 8
    · obtain ⟨h1, h2⟩ := hgo
      obtain ⟨g, o, rfl, hg, c0⟩ := HX.out.below hs.rw.below k h1
      obtain ⟨va5, vc5, rfl⟩ := owns_form hs.tx
      have HS := Hid.mk (And.intro hs (And.intro hun (And.intro h100 htk)))
      clear hs hun h100
      have h2i : (k : Int) < 8 := by omega
      generalize f k = s0 at *
      by_cases hz : (100 : Int) < s0.size
      all_goals
        go_upto_region 8 with fail
        clear c0 hg
        first
        | (have hT : s0.size ≤ 100 := by omega
           clear hz
           generalize s0 = T at *)
        | (have hT := size_extract100 s0
           clear hz
           generalize s0.extract 0 100 = T at *)
        obtain ⟨i9, z9, q1, q2, q3, q4, q5⟩ := info9z
        have H9 := Hid.mk (And.intro q1 (And.intro q2 (And.intro q3 (And.intro q4 q5))))
        clear q1 q2 q3 q4 q5
        obtain ⟨i27, z27, q1, q2, q3, q4, q5⟩ := info23z
        have HI := Hid.mk (And.intro q1 (And.intro q2 (And.intro q3 (And.intro q4 q5))))
        clear q1 q2 q3 q4 q5
        go_upto_region 10 with (first
          | (at_builtin; refine wpList_append_own _ rfl (.tmp 36) (.tmp 38) 22 rfl w.heap.size 9 i9 z9 1 16 Try.underlying22 H9.out.1 H9.out.2.1 H9.out.2.2.1 H9.out.2.2.2.1 H9.out.2.2.2.2 (by decide) (.slice va5 ts.length vc5) ts.length (ts.map Value.string) rfl (HS.out.1.tx.alloc _) ⟨wr.heap.size, 0, none⟩ 1 1 ([T].map Value.string) rfl rfl (string_one wr T) (strings_one _) (by simp [maxLen]; omega) (by omega) (Nat.le_trans HS.out.1.rw.below.size (by rw [size_alloc]; omega)) ?_; intro v2 w3 hown hgrow _))
        have p7 := (HS.out.1.text _ _ hown hgrow).rw.below.size
        have p1 := (HS.out.1.text _ _ hown hgrow).call (below_one w3 (.cells #[.string T, .int .i64 0] 25))
        have p2 := Ab.fresh w3 T 0
        have p3 := p1.rw.below
        have p4 : unT (ts ++ [T]) [] = if E = 0 then unG 100 T rs else (rs, E) := by rw [unT_snoc, HS.out.2.1]
        have p5 : ∀ t ∈ ts ++ [T], t.size ≤ 100 := by
          intro t ht
          rcases List.mem_append.1 ht with ht | ht
          · exact HS.out.2.2.1 t ht
          · rw [List.mem_singleton.1 ht]; exact hT
        have p6 : (ts ++ [T]).length = k + 1 := by rw [List.length_append, List.length_singleton, HS.out.2.2.2]
        clear hown hgrow HS
        generalize (w3.alloc (.cells #[.string T, .int .i64 0] 25)) = W3 at *
        generalize w3.heap.size = Y at *
        generalize ts ++ [T] = ts2 at *
        generalize hRG : (if E = 0 then unG 100 T rs else (rs, E)) = RG at *
        have HS := Hid.mk (And.intro p1 (And.intro p2 (And.intro p4 (And.intro p5 (And.intro p6 (And.intro p7 hRG))))))
        clear p1 p2 p3 p4 p5 p6 p7 hRG
        go_upto_region 11 with fail
        go_loopw [3, 4, 9] (fun v3 e i wx => ∃ (j n : Nat) (E2 : Int) (s : ByteArray) (e2 : Int) (rs2 : List R6), j + n = 100 ∧ i = .int .i64 j ∧ e = .int .i64 E2 ∧ Ig w Y k ts2 RG v2 v3 E2 j n s e2 rs2 wx) (fun _ _ i _ => 100 - (intOf i).toNat)
        case atStart =>
          refine ⟨0, 100, E, T, 0, rs, rfl, rfl, rfl, HS.out.1, HS.out.2.1, by omega, ?_⟩
          have q := HS.out.2.2.2.2.2.2
          by_cases hE : E = 0
          · rw [if_pos hE] at q
            exact .inl ⟨hE, rfl, hT, q⟩
          · rw [if_neg hE] at q
            exact .inr ⟨hE, q⟩
        case round =>
          obtain ⟨j, n, E2, s, e2, rs2, hjn, rfl, rfl, hi⟩ := hrel
          have c0 := hi.ab.rest
          have c1 := hi.ab.err
          by_cases hE : E2 = 0
          · subst hE
            have he2 : e2 = 0 := by
              rcases hi.st with q | q
              · exact q.2.1
              · exact absurd rfl q.1
            subst he2
            by_cases hs0 : s.size = 0
            · obtain rfl := empty_of_size hs0
              have hd := hi.done (.inr hs0)
              have HS2 := Hid.mk (And.intro hi hd)
              clear hi hd
              by_cases hj : (j : Int) < 100
              all_goals
                go_wp2_with fail
                exact ⟨⟨k + 1, 0, ts2, rs2, by omega, by omega, HS.out.2.2.2.2.1, by have := HS2.out.1.len; omega, by go_num, rfl, by rw [HS.out.2.2.1]; exact HS2.out.2, HS.out.2.2.2.1, HS2.out.1.gr⟩, by simp [intOf]; omega⟩
            · have hst : s.size ≤ n ∧ unG n s rs2 = RG := by
                rcases hi.st with q | q
                · exact q.2.2
                · exact absurd rfl q.1
              have hse : s.toList.isEmpty = false := not_empty (by omega)
              have hj : (j : Int) < 100 := by omega
              obtain ⟨m, rfl⟩ : ∃ m, n = m + 1 := ⟨n - 1, by omega⟩
              obtain ⟨E3, x0, x1, x2, x3, x4, x5, Q, e, A, F⟩ := tk_any s
              have f0 := hi.ab.frozen 0
              have f1 := hi.ab.frozen 1
              have HS2 := Hid.mk (And.intro hi (And.intro F hst))
              clear hi hst F
              go_upto_region 14 with (go_at_call 5; refine (HS2.out.2.1.ref _).mono ?_; rintro x w4 ⟨rfl, b4⟩; unfold rv)
              have p1 := (HS2.out.1.gr.call b4).call (below_two w4 (.cells #[.string A, .int .i64 E3] 25) (.cells #[.int .i64 x0, .int .i64 x1, .int .i64 x2, .int .i64 x3, .int .i64 x4, .int .i64 x5] 27))
              have p2 := (HS2.out.1.ab.call b4).call (below_two w4 (.cells #[.string A, .int .i64 E3] 25) (.cells #[.int .i64 x0, .int .i64 x1, .int .i64 x2, .int .i64 x3, .int .i64 x4, .int .i64 x5] 27))
              have p3 := (Ab.fresh w4 A E3).alloc (.cells #[.int .i64 x0, .int .i64 x1, .int .i64 x2, .int .i64 x3, .int .i64 x4, .int .i64 x5] 27)
              have p4 : Row ((w4.alloc (.cells #[.string A, .int .i64 E3] 25)).alloc (.cells #[.int .i64 x0, .int .i64 x1, .int .i64 x2, .int .i64 x3, .int .i64 x4, .int .i64 x5] 27)) (w4.heap.size + 1) 27 .i64 [x0, x1, x2, x3, x4, x5] := Row.fresh1 w4 _ 27 .i64 [x0, x1, x2, x3, x4, x5]
              have p5 : Y < w4.heap.size := (HS2.out.1.ab.call b4).lt
              have p6 := HS2.out.1.len
              have p7 := HS2.out.2
              clear b4 HS2 c0 c1 f0 f1
              generalize ((w4.alloc (.cells #[.string A, .int .i64 E3] 25)).alloc (.cells #[.int .i64 x0, .int .i64 x1, .int .i64 x2, .int .i64 x3, .int .i64 x4, .int .i64 x5] 27)) = W4 at *
              have p8 : Y ≠ w4.heap.size + 1 := by omega
              have p9 : Y ≠ w4.heap.size := by omega
              generalize w4.heap.size + 1 = Z2 at *
              generalize w4.heap.size = Z1 at *
              have c0 := p2.rest
              have c1 := p2.err
              have f0 := p2.frozen 0
              have f1 := p2.frozen 1
              have d0 := p3.rest
              have d1 := p3.err
              have HS2 := Hid.mk (And.intro p1 (And.intro p2 (And.intro p4 (And.intro p6 p7))))
              clear p1 p2 p3 p4 p6 p7
              go_region
              have p0 := HS.out.2.2.2.2.2.1
              have g1 := grown_trans (grown_setCell W4 ⟨Y, 0, none⟩ (.string A)) (grown_setCell _ ⟨Y, 1, none⟩ (.int .i64 E3))
              have p1 := (HS2.out.1.keptY g1 HS2.out.2.1 p0).call (Below.refl _ _).drew
              have p2 := (HS2.out.2.1.set A E3).drew
              have p3 := (HS2.out.2.2.1.kept g1 (fun q => p8 q.symm)).drew
              have p4 := HS2.out.2.2.2
              clear g1 HS2 c0 c1 f0 f1 d0 d1
              generalize ((W4.setCell ⟨Y, 0, none⟩ (.string A)).setCell ⟨Y, 1, none⟩ (.int .i64 E3)).drew = W5 at *
              by_cases hE3 : E3 = 0
              · subst hE3
                obtain ⟨c0, c1, c2, c3, c4, c5⟩ := p3.six
                have q1 := unG_ok p4.2.1 rfl m (by omega) p4.2.2.1 rs2
                have q3 := p4.2.1.row rfl
                have q4 := p4.2.2.2
                rw [q1.1] at q4
                have HS2 := Hid.mk (And.intro p1 (And.intro p2 (And.intro p4.1 (And.intro q3.2 (And.intro q1.2 q4)))))
                clear p0 p1 p2 p3 p4 q1 q3 q4
                go_wp2_with (first | (at_builtin; refine wpList_append_own _ rfl (.tmp 70) (.tmp 72) 23 rfl w.heap.size 27 i27 z27 6 48 Try.underlying23 HI.out.1 HI.out.2.1 HI.out.2.2.1 HI.out.2.2.2.1 HI.out.2.2.2.2 (by decide) u3 rs2.length (rowsC rs2) rfl (HS2.out.1.rw.own.alloc _) ⟨W5.heap.size, 0, none⟩ 1 1 (R6.cells (x0, x1, x2, x3, x4, x5)) rfl rfl (rec_cells W5 (x0, x1, x2, x3, x4, x5)) (cells_one _) (by have := HS2.out.2.2.1; simp [maxLen]; omega) (by have := HS2.out.2.2.1; omega) (Nat.le_trans HS2.out.1.rw.below.size (by rw [size_alloc]; omega)) ?_; intro v6 w6 hown hgrow _))
                have r5 : Ab w6 Y A 0 := ((hgrow.block Y (HS2.out.2.1.alloc _).lt (fun q => owns_ab HS2.out.1.rw.own HS2.out.2.1 (by decide) q.symm)).trans (HS2.out.2.1.alloc _))
                exact ⟨⟨j + 1, m, 0, A, 0, rs2 ++ [(x0, x1, x2, x3, x4, x5)], by omega, by go_num, rfl, HS2.out.1.more _ _ HS2.out.2.2.2.1 hown hgrow, r5, by have := HS2.out.2.2.1; rw [List.length_append, List.length_singleton]; omega, .inl ⟨rfl, rfl, HS2.out.2.2.2.2.1, HS2.out.2.2.2.2.2⟩⟩, by simp [intOf]; omega⟩
              · have q1 := unG_bad p4.2.1 hE3 m (by omega) rs2
                have q4 := p4.2.2.2
                rw [q1] at q4
                have HS2 := Hid.mk (And.intro p1 (And.intro p2 (And.intro p4.1 (And.intro q4 hE3))))
                have hE2 : (E3 == 0) = false := by simpa using hE3
                clear p0 p1 p2 p3 p4 q1 q4 hE3
                go_wp2_with fail
                exact ⟨⟨j + 1, m, E3, A, E3, rs2, by omega, by go_num, rfl, HS2.out.1, HS2.out.2.1, by have := HS2.out.2.2.1; omega, .inr ⟨HS2.out.2.2.2.2, HS2.out.2.2.2.1⟩⟩, by simp [intOf]; omega⟩
          · have hd := hi.done (.inl hE)
            have HS2 := Hid.mk (And.intro hi hd)
            have hE2 : (E2 == 0) = false := by simpa using hE
            have hE3 : decide (E2 = 0) = false := by simpa using hE
            clear hi hd hE
            go_wp2_with fail
            all_goals exact ⟨⟨k + 1, E2, ts2, rs2, by omega, by omega, HS.out.2.2.2.2.1, by have := HS2.out.1.len; omega, by go_num, rfl, by rw [HS.out.2.2.1]; exact HS2.out.2, HS.out.2.2.2.1, HS2.out.1.gr⟩, by simp [intOf]; omega⟩
    · have hex : ¬ ((k : Int) < (len : Int)) ∨ ((k : Int) < (len : Int) ∧ ¬ ((k : Int) < 8)) := by omega
      obtain ⟨va5, vc5, rfl⟩ := owns_form hs.tx
      have hup := unpack_any va5 vc5 ts wr (owns_txt hs.tx) h100 (by omega)
      rw [hun] at hup
      have HS := Hid.mk (And.intro hs.rw hup)
      clear hs hun h100 hgo hup htk
      by_cases hE : E = 0
      · subst hE
        rcases hex with hex | ⟨hex0, hex⟩
        all_goals
          go_upto_region 22 with (first
            | (go_at_call 6; refine HS.out.2.mono ?_; rintro e w1 ⟨v12, rfl, b1, hv, _⟩; replace HS := Hid.mk (And.intro (HS.out.1.call b1) (hv rfl)); clear hv b1)
            | (go_at_call 7; refine (awake_any _).mono ?_; rintro e w2 ⟨rfl, b2⟩; replace HS := Hid.mk (And.intro (HS.out.1.call b2) (HS.out.2.call b2)); clear b2))
          obtain ⟨va3, vc3, rfl⟩ := HS.out.1.form
          obtain ⟨va, vc, rfl⟩ := HS.out.2.form
          generalize hn : rs.length = n at *
          replace hn := Hid.mk hn
          go_upto_region 25 with fail
          go_loopw [14] (fun i wx => ∃ j : Nat, j ≤ n ∧ i = .int .i64 j ∧ Rw w (.slice va3 n vc3) rs wx ∧ Rw wr (.slice va n vc) rs wx) (fun i _ => n - (intOf i).toNat)
          case atStart => exact ⟨0, Nat.zero_le _, rfl, HS.out.1, HS.out.2⟩
          case round =>
            clear HS
            obtain ⟨j, hj, rfl, hs1, hs2⟩ := hrel
            by_cases hjn : j < n
            · have hjl : j < rs.length := by rw [hn.out]; exact hjn
              obtain ⟨r, hr⟩ : ∃ r, rs.getD j (0, 0, 0, 0, 0, 0) = r := ⟨_, rfl⟩
              obtain ⟨K, S, P, A, T, N⟩ := r
              have q1 := hs1
              have q2 := hs2
              rw [← hn.out] at q1 q2
              obtain ⟨g1, rfl, hg1, c0, c1, c2, c3, c4, c5⟩ := q1.at j hjl hr
              obtain ⟨g2, rfl, hg2, d0, d1, d2, d3, d4, d5⟩ := q2.at j hjl hr
              have HS := Hid.mk (And.intro hs1 hs2)
              clear hs1 hs2 q1 q2 hr
              go_upto_region 27 with fail
              go_region
              go_wp2_with fail
              exact ⟨⟨j + 1, by omega, by go_num, HS.out.1.call (Below.refl _ _).drew, HS.out.2.call (Below.refl _ _).drew⟩, by simp [intOf]; omega⟩
            · have HS := Hid.mk hs1
              clear hs1 hs2
              go_wp2_with fail
              go_ret
              exact ⟨rfl, HS.out.below⟩
      · have hE2 : (E != 0) = true := by simpa using hE
        rcases hex with hex | ⟨hex0, hex⟩
        all_goals
          go_wp2_with (first
            | (go_at_call 6; refine HS.out.2.mono ?_; rintro e w1 ⟨v12, rfl, b1, _, hv⟩; replace HS := Hid.mk (HS.out.1.call b1); obtain rfl := hv hE; clear hv b1)
            | (go_at_call 7; refine (awake_any _).mono ?_; rintro e w2 ⟨rfl, b2⟩; replace HS := Hid.mk (HS.out.call b2); clear b2))
          go_ret
          exact ⟨rfl, HS.out.below⟩
end Go.Proofs.Ytdapoonojhfkkaa
