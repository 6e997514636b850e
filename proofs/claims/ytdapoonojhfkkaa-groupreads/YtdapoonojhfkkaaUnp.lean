/-
  group.Unpack. Condition: texts of at most 100 bytes, at most 50 of them.
-/
import Derived.Test.YtdapoonojhfkkaaGrp
namespace Go.Proofs.Ytdapoonojhfkkaa
open Go Go.RowKit

/-- a row of texts that is handed in -/
def TxtF (w : World) (a : Option Addr) (ts : List ByteArray) : Prop := ∀ i, i < ts.length → ∃ g o, a = some ⟨g, o, none⟩ ∧ g < w.heap.size ∧ w.cell? ⟨g, o + i, none⟩ = some (.string (ts.getD i ⟨#[]⟩))
theorem TxtF.below {w w' : World} {a ts} (h : TxtF w a ts) (b : Below w.heap.size w w') : TxtF w' a ts := by
  intro i hi
  obtain ⟨g, o, ha, hg, c0⟩ := h i hi
  exact ⟨g, o, ha, Nat.lt_of_lt_of_le hg b.size, by rw [b.cell (p := ⟨g, o + i, none⟩) hg]; exact c0⟩
/-- how many bytes a reader has left -/
def rdN (w : World) (G : Nat) : Nat := match w.cell? ⟨G, 0, none⟩ with
  | some (.string s) => s.size
  | _ => 0
theorem Rd.rdN {w : World} {G s e} (h : Rd w G s e) : rdN w G = s.size := by unfold Proofs.Ytdapoonojhfkkaa.rdN; rw [h.rest]
theorem drop_cons (ts : List ByteArray) (k : Nat) (h : k < ts.length) : ts.drop k = ts.getD k ⟨#[]⟩ :: ts.drop (k + 1) := by
  rw [List.drop_eq_getElem_cons h]
  simp [List.getD_eq_getElem?_getD, h]
theorem getD_mem' (ts : List ByteArray) (k : Nat) (h : k < ts.length) : ts.getD k ⟨#[]⟩ ∈ ts := by simp [List.getD_eq_getElem?_getD, h]
theorem Rw.nil (w : World) : Rw w (.slice none 0 0) [] w := ⟨World.ownsRow_nil _ _ _ _, fun _ h => (by cases h), Below.refl _ _⟩
theorem Rw.ne {w v rs wr} (h : Rw w v rs wr) {G : Nat} {s e} (hr : Rd wr G s e) : v.ownBlock ≠ some G := by
  intro q
  rcases h.own.2 with ⟨rfl, _⟩ | ⟨g, cap, cur, rfl, _, hg, _⟩
  · cases q
  · obtain rfl : g = G := by simpa [Value.ownBlock] using q
    unfold Rd at hr
    rw [hg] at hr
    simp at hr
theorem Rd.keptO {w w' : World} {row : Option Nat} {g s e} (h : Rd w g s e) (b : w.grownBy w' row) (hne : row ≠ some g) : Rd w' g s e :=
  (b.block g h.lt (fun q => hne q.symm)).trans h
set_option maxRecDepth 20000 in
set_option maxHeartbeats 2000000 in
theorem unpack_any (a : Option Addr) (cap : Nat) (ts : List ByteArray) (w : World) (hx : TxtF w a ts) (h100 : ∀ t ∈ ts, t.size ≤ 100) (h50 : ts.length ≤ 50) : Calls Try.prog 6 #[.slice a ts.length cap] w fun e w' =>
    ∃ v, e = .returned (.tuple #[v, .int .i64 (unT ts []).2]) ∧ Below w.heap.size w w' ∧ ((unT ts []).2 = 0 → Rw w v (unT ts []).1 w') ∧ ((unT ts []).2 ≠ 0 → v = .slice none 0 0) := by
  have HX := Hid.mk (And.intro hx h100)
  clear hx h100
  obtain ⟨RES, hRES⟩ : ∃ R, unT ts [] = R := ⟨_, rfl⟩
  rw [hRES]
  replace hRES := Hid.mk hRES
  generalize hn : ts.length = len at *
  replace hn := Hid.mk hn
  go_enter Try.func6, Try.ntmps6
  go_upto_region 3 with fail
  go_loopw [4, 12] (fun v i wr => ∃ (k : Nat) (rs : List R6), k ≤ len ∧ rs.length ≤ 100 * k ∧ i = .int .i64 k ∧ Rw w v rs wr ∧ unT (ts.drop k) rs = RES) (fun _ i _ => len - (intOf i).toNat)
  case atStart => exact ⟨0, [], Nat.zero_le _, Nat.zero_le _, rfl, Rw.nil w, hRES.out⟩
  case round =>
    clear hRES
    obtain ⟨k, rs, hk, hrk, rfl, hs, hun⟩ := hrel
    by_cases hlt : k < len
    · have hltl : k < ts.length := by rw [hn.out]; exact hlt
      obtain ⟨g, o, rfl, hg, c0⟩ := HX.out.1.below hs.below k hltl
      have ht100 := HX.out.2 _ (getD_mem' ts k hltl)
      rw [drop_cons ts k hltl, unT] at hun
      generalize ts.getD k ⟨#[]⟩ = t at *
      generalize hRG : unG 100 t rs = RG at *
      have HS := Hid.mk (And.intro hs (And.intro hun hRG))
      clear hs hun hRG hltl
      go_upto_region 6 with (go_at_call 16; refine (new_any _ _).mono ?_; rintro e w1 ⟨rfl, r1, b1⟩)
      have H1 := Hid.mk (And.intro (HS.out.1.call b1) (And.intro r1 HS.out.1.below.size))
      clear r1 b1 c0 hg
      generalize wr.heap.size = G at *
      go_loopw [4] (fun v wx => ∃ (n : Nat) (s : ByteArray) (rs2 : List R6), s.size ≤ n ∧ n ≤ 100 ∧ rs2.length ≤ 100 * k + (100 - n) ∧ Rw w v rs2 wx ∧ Rd wx G s 0 ∧ unG n s rs2 = RG) (fun _ wx => rdN wx G)
      case atStart => exact ⟨100, t, rs, ht100, Nat.le_refl _, by omega, H1.out.1, H1.out.2.1, HS.out.2.2⟩
      case round =>
        obtain ⟨n, s, rs2, hsn, hn100, hr2, hs2, hrd, hug⟩ := hrel
        by_cases h0 : s.size = 0
        · rw [unG_empty n h0] at hug
          have HS2 := Hid.mk (And.intro hs2 (And.intro hrd hug))
          clear hs2 hrd hug
          go_wp2_with (go_at_call 17; refine (left_any HS2.out.2.1).mono ?_; rintro e w' ⟨rfl, rfl⟩)
          have hq := HS.out.2.1
          rw [← HS2.out.2.2, if_pos rfl] at hq
          exact ⟨⟨k + 1, rs2, by omega, by omega, by go_num, HS2.out.1, hq⟩, by simp [intOf]; omega⟩
        · obtain ⟨m, rfl⟩ : ∃ m, n = m + 1 := ⟨n - 1, by omega⟩
          obtain ⟨E, x0, x1, x2, x3, x4, x5, Q, e, A, F⟩ := tk_any s
          have hpos : 0 < s.size := by omega
          have HS2 := Hid.mk (And.intro hs2 (And.intro hrd (And.intro hug (And.intro F H1.out.2.2))))
          have hN := Hid.mk hrd.rdN
          clear hs2 hrd hug F
          go_upto_region 8 with (first
            | (go_at_call 17; refine (left_any HS2.out.2.1).mono ?_; rintro x w' ⟨rfl, rfl⟩)
            | (go_at_call 18; refine (HS2.out.2.2.2.1.take _ _ HS2.out.2.1).mono ?_; rintro x w2 ⟨rfl, r2, g2⟩; unfold rv))
          have p1 := (HS2.out.1.grown g2 (HS2.out.1.ne HS2.out.2.1) HS2.out.2.2.2.2).call (below_one w2 (.cells #[.int .i64 x0, .int .i64 x1, .int .i64 x2, .int .i64 x3, .int .i64 x4, .int .i64 x5] 27))
          have p2 : Row (w2.alloc (.cells #[.int .i64 x0, .int .i64 x1, .int .i64 x2, .int .i64 x3, .int .i64 x4, .int .i64 x5] 27)) w2.heap.size 27 .i64 [x0, x1, x2, x3, x4, x5] := Row.fresh w2 27 .i64 [x0, x1, x2, x3, x4, x5]
          have p3 := r2.alloc (.cells #[.int .i64 x0, .int .i64 x1, .int .i64 x2, .int .i64 x3, .int .i64 x4, .int .i64 x5] 27)
          have p4 := HS2.out.2.2
          clear r2 g2 HS2
          generalize (w2.alloc (.cells #[.int .i64 x0, .int .i64 x1, .int .i64 x2, .int .i64 x3, .int .i64 x4, .int .i64 x5] 27)) = W2 at *
          generalize w2.heap.size = Y at *
          by_cases hE : E = 0
          · subst hE
            obtain ⟨c0, c1, c2, c3, c4, c5⟩ := p2.six
            have q1 := unG_ok p4.2.1 rfl m hpos hsn rs2
            have q2 := p4.2.1.left rfl
            have q3 := p4.2.1.row rfl
            obtain ⟨rfl, _, rfl, hA⟩ := q2
            rw [q1.1] at p4
            have HS2 := Hid.mk (And.intro p1 (And.intro p3 (And.intro p4.1 (And.intro q3.2 (And.intro q1.2 hA)))))
            clear p1 p2 p3 p4 q1 q3 hA
            obtain ⟨i27, z27, q1, q2, q3, q4, q5⟩ := info23z
            have HI := Hid.mk (And.intro q1 (And.intro q2 (And.intro q3 (And.intro q4 q5))))
            clear q1 q2 q3 q4 q5
            go_wp2_with (first | (at_builtin; refine wpList_append_own _ rfl (.tmp 29) (.tmp 31) 23 rfl w.heap.size 27 i27 z27 6 48 Try.underlying23 HI.out.1 HI.out.2.1 HI.out.2.2.1 HI.out.2.2.2.1 HI.out.2.2.2.2 (by decide) u4 rs2.length (rowsC rs2) rfl (HS2.out.1.own.alloc _) ⟨W2.heap.size, 0, none⟩ 1 1 (R6.cells (x0, x1, x2, x3, x4, x5)) rfl rfl (rec_cells W2 (x0, x1, x2, x3, x4, x5)) (cells_one _) (by simp [maxLen]; omega) (by omega) (Nat.le_trans HS2.out.1.below.size (by rw [size_alloc]; omega)) ?_; intro v2 w3 hown hgrow _))
            have r5 := (HS2.out.2.1.alloc _).keptO hgrow (HS2.out.1.ne HS2.out.2.1)
            refine ⟨⟨m, Q, rs2 ++ [(x0, x1, x2, x3, x4, x5)], HS2.out.2.2.2.2.1, by omega, by rw [List.length_append, List.length_singleton]; omega, HS2.out.1.more _ _ HS2.out.2.2.2.1 hown hgrow, r5, HS2.out.2.2.1⟩, ?_⟩
            rw [r5.rdN, hN.out]
            exact HS2.out.2.2.2.2.2
          · have q1 := unG_bad p4.2.1 hE m hpos rs2
            rw [q1] at p4
            have hq := HS.out.2.1
            rw [← p4.1, if_neg hE] at hq
            have HS2 := Hid.mk (And.intro p1 hq)
            have hE2 : (E != 0) = true := by simpa using hE
            clear p1 p2 p3 p4 q1 hq
            go_wp2_with fail
            go_ret2
            obtain ⟨h1, h2⟩ := HS2.out
            subst h2
            exact ⟨_, rfl, h1.below, fun h => absurd h hE, fun _ => rfl⟩
    · obtain rfl : k = len := by omega
      have hq := hun
      rw [← hn.out, List.drop_length] at hq
      have HS2 := Hid.mk (And.intro hs hq)
      clear hs hq hun
      go_wp2_with fail
      go_ret2
      obtain ⟨h1, h2⟩ := HS2.out
      subst h2
      exact ⟨_, rfl, h1.below, fun _ => h1, fun h => absurd rfl h⟩
end Go.Proofs.Ytdapoonojhfkkaa
