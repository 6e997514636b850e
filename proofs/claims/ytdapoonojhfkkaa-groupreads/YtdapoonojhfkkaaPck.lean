/-
  group.Pack and group.Pages. Condition: records that may be, at most 100 of them.
-/
import Derived.Test.YtdapoonojhfkkaaUnp
import Derived.Laws.BytesArg
namespace Go.Proofs.Ytdapoonojhfkkaa
open Go Go.RowKit

/-- what the loop holds: texts, and the one that is being filled -/
structure Pk (w : World) (v5 v6 : Value) (ts : List ByteArray) (t : ByteArray) (wr : World) : Prop where
  tx : wr.ownsRow w.heap.size 9 1 v5 ts.length (ts.map Value.string)
  bt : wr.ownsRow w.heap.size 5 1 v6 t.size (Go.Lib.strCells t)
  below : Below w.heap.size w wr
theorem owns_call {B e size v n xs} {wr w2 : World} (h : wr.ownsRow B e size v n xs) (b : Below wr.heap.size wr w2) : w2.ownsRow B e size v n xs :=
  h.kept (row := none) ⟨b.os, b.tape, b.output, b.size, fun j hj _ => b.block j hj⟩ (by cases hv : v.ownBlock <;> simp)
theorem owns_ne {B e1 e2 s1 s2 v1 v2 n1 n2 x1 x2} {w : World} (h1 : w.ownsRow B e1 s1 v1 n1 x1) (h2 : w.ownsRow B e2 s2 v2 n2 x2) (hne : e1 ≠ e2) : v1.ownBlock = none ∨ v1.ownBlock ≠ v2.ownBlock := by
  rcases h1.2 with ⟨rfl, _⟩ | ⟨g1, c1, a1, rfl, _, hg1, _⟩
  · exact .inl rfl
  · right
    rcases h2.2 with ⟨rfl, _⟩ | ⟨g2, c2, a2, rfl, _, hg2, _⟩
    · intro q
      cases q
    · intro q
      obtain rfl : g1 = g2 := by simpa [Value.ownBlock] using q
      rw [hg1] at hg2
      simp at hg2
      exact hne hg2.2
theorem owns_form {B e size v n xs} {w : World} (h : w.ownsRow B e size v n xs) : ∃ a c, v = .slice a n c := by
  rcases h.2 with ⟨rfl, rfl⟩ | ⟨g, cap, cur, rfl, _⟩
  · exact ⟨none, 0, rfl⟩
  · exact ⟨_, cap, rfl⟩
theorem owns_form1 {B e size v n xs} {w : World} (h : w.ownsRow B e size v n xs) (hn : 0 < n) : ∃ g c, v = .slice (some ⟨g, 0, none⟩) n c ∧ n ≤ c := by
  rcases h.2 with ⟨rfl, rfl⟩ | ⟨g, cap, cur, rfl, _, _, h1, _⟩
  · omega
  · exact ⟨g, cap, rfl, h1⟩
theorem Pk.call {w v5 v6 ts t wr w2} (h : Pk w v5 v6 ts t wr) (b : Below wr.heap.size wr w2) : Pk w v5 v6 ts t w2 := ⟨owns_call h.tx b, owns_call h.bt b, below3 h.below b⟩
theorem Pk.nil (w : World) : Pk w (.slice none 0 0) (.slice none 0 0) [] ⟨#[]⟩ w := ⟨World.ownsRow_nil _ _ _ _, World.ownsRow_nil _ _ _ _, Below.refl _ _⟩
/-- string(text) -/
theorem owns_string {B v} {t : ByteArray} {w : World} (h : w.ownsRow B 5 1 v t.size (Go.Lib.strCells t)) : (convert 70 9 v).run Try.prog w = .ok (.string t) w := by
  rcases h.2 with ⟨rfl, h0⟩ | ⟨g, cap, cur, rfl, _, hg, h1, _⟩
  · rw [empty_of_size h0]
    exact run_convert_bytes_nil w 70 5 Try.underlying70 Try.underlying5 0 0 9 Try.underlying9
  · have hb : HasBytes w g t.data.toList := by
      intro j hj
      have hj2 : j < t.size := by simpa using hj
      refine ⟨?_, frozen_of_row w g j cur 5 hg⟩
      have ea : (⟨g, 0, none⟩ : Addr).add j = ⟨g, j, none⟩ := by unfold Addr.add; split <;> simp_all
      rw [← ea]
      refine h.cells rfl j _ ?_
      have hj3 : j < t.data.size := hj2
      simp [Go.Lib.strCells, List.getD_eq_getElem?_getD]
      exact ⟨t.data[j], Array.getElem?_eq_getElem hj3, by rw [Array.getElem?_eq_getElem hj3]; rfl⟩
    have := hb.back (P := Try.prog) 70 9 5 t.size cap (by simp) Try.underlying70 Try.underlying5 Try.underlying9
    simpa using this
theorem strCells_append (t B : ByteArray) : Go.Lib.strCells (t ++ B) = Go.Lib.strCells t ++ Go.Lib.strCells B := by simp [Go.Lib.strCells]
theorem owns_zero {B e size g n c xs} {w : World} (h : w.ownsRow B e size (.slice (some ⟨g, 0, none⟩) n c) n xs) : w.ownsRow B e size (.slice (some ⟨g, 0, none⟩) 0 c) 0 [] := by
  rcases h.2 with ⟨q, _⟩ | ⟨g2, cap, cur, q, h1, h2, h3, h4, h5, h6⟩
  · cases q
  · obtain ⟨rfl, rfl⟩ : g = g2 ∧ c = cap := by simpa using q
    exact ⟨by simp, .inr ⟨g, c, cur, rfl, h1, h2, Nat.zero_le _, h4, h5, by simp⟩⟩
theorem string_one (w : World) (t : ByteArray) : ∀ j u, ([t].map Value.string)[j]? = some u → (w.alloc (.cells #[.string t] 9)).cell? ((⟨w.heap.size, 0, none⟩ : Addr).add j) = some u := by
  intro j u hu
  have ea : (⟨w.heap.size, 0, none⟩ : Addr).add j = ⟨w.heap.size, j, none⟩ := by unfold Addr.add; split <;> simp_all
  rw [ea, cell_of_row _ _ j _ 9 _ (heap_alloc_new w _), ← hu]
  simp
theorem strings_one (l : List ByteArray) : ∀ u ∈ l.map Value.string, u.oneCell' = true := by
  intro u hu
  simp only [List.mem_map] at hu
  obtain ⟨x, _, rfl⟩ := hu
  rfl
/-- one text more -/
theorem Pk.more {w v5 v6 ts t wr w3 v2} (h : Pk w v5 v6 ts t wr) (o : Obj) (s : ByteArray) (hown : w3.ownsRow w.heap.size 9 1 v2 (ts.length + 1) (ts.map Value.string ++ [s].map Value.string)) (hg : (wr.alloc o).grownBy w3 v5.ownBlock) : Pk w v2 v6 (ts ++ [s]) t w3 := by
  refine ⟨?_, (h.bt.alloc o).kept hg (owns_ne h.bt h.tx (by decide)), ?_⟩
  · rw [List.map_append, List.length_append]
    exact hown
  · exact (h.below.alloc h.below.size o).grown hg (h.below.alloc h.below.size o).size (fun k hk => ((h.tx.alloc o).lt k hk).1)
/-- the text, longer -/
theorem Pk.fill {w v5 v6 ts t wr w3 v2} (h : Pk w v5 v6 ts t wr) (s : ByteArray) (hown : w3.ownsRow w.heap.size 5 1 v2 (t.size + s.size) (Go.Lib.strCells t ++ Go.Lib.strCells s)) (hg : wr.grownBy w3 v6.ownBlock) : Pk w v5 v2 ts (t ++ s) w3 := by
  refine ⟨h.tx.kept hg (owns_ne h.tx h.bt (by decide)), ?_, h.below.grown hg h.below.size (fun k hk => (h.bt.lt k hk).1)⟩
  rw [strCells_append, ByteArray.size_append]
  exact hown
theorem Pk.clear {w v5 g c ts t wr} (h : Pk w v5 (.slice (some ⟨g, 0, none⟩) t.size c) ts t wr) : Pk w v5 (.slice (some ⟨g, 0, none⟩) 0 c) ts ⟨#[]⟩ wr := ⟨h.tx, owns_zero h.bt, h.below⟩
theorem empty_append (s : ByteArray) : (⟨#[]⟩ : ByteArray) ++ s = s := by apply ByteArray.ext; simp
theorem not_empty {B : ByteArray} (h : 1 ≤ B.size) : B.toList.isEmpty = false := by
  rw [ByteArray.toList_eq]
  have h2 : B.data.toList.length = B.size := by simp
  cases hl : B.data.toList with
  | nil => rw [hl] at h2; simp at h2; omega
  | cons _ _ => rfl
theorem info9z : ∃ i z, Try.prog.info? 9 = some i ∧ i.zero = some z ∧ i.size = 1 ∧ i.bytes = 16 ∧ z.cells.size = 1 := ⟨_, _, rfl, rfl, rfl, rfl, rfl⟩
theorem info5z : ∃ i, Try.prog.info? 5 = some i ∧ i.zero = some (.int .u8 0) ∧ i.size = 1 ∧ i.bytes = 1 := ⟨_, rfl, rfl, rfl, rfl⟩
set_option maxRecDepth 20000 in
set_option maxHeartbeats 2000000 in
theorem pack_any (a : Option Addr) (cap : Nat) (n : Int) (rs : List R6) (w : World) (hx : RecsF w a rs.length (fun i => rs.getD i (0, 0, 0, 0, 0, 0))) (hm : ∀ r ∈ rs, R6.may r = true) (h100 : rs.length ≤ 100) : Calls Try.prog 19 #[.slice a rs.length cap, .int .i64 n] w fun e w' =>
    ∃ v, e = .returned v ∧ w'.ownsRow w.heap.size 9 1 v (packGo n (rs.map R6.put) [] ⟨#[]⟩).length ((packGo n (rs.map R6.put) [] ⟨#[]⟩).map Value.string) ∧ Below w.heap.size w w' := by
  have HX := Hid.mk (And.intro hx hm)
  clear hx hm
  obtain ⟨RES, hRES⟩ : ∃ R, packGo n (rs.map R6.put) [] ⟨#[]⟩ = R := ⟨_, rfl⟩
  rw [hRES]
  replace hRES := Hid.mk hRES
  generalize hn : rs.length = len at *
  replace hn := Hid.mk hn
  go_enter Try.func19, Try.ntmps19
  go_upto_region 4 with fail
  go_loopw [5, 6, 12] (fun v5 v6 i wr => ∃ (k : Nat) (ts : List ByteArray) (t : ByteArray), k ≤ len ∧ ts.length ≤ k ∧ t.size ≤ 9 * k ∧ i = .int .i64 k ∧ Pk w v5 v6 ts t wr ∧ packGo n ((rs.drop k).map R6.put) ts t = RES) (fun _ _ i _ => len - (intOf i).toNat)
  case atStart => exact ⟨0, [], ⟨#[]⟩, Nat.zero_le _, Nat.zero_le _, Nat.zero_le _, rfl, Pk.nil w, hRES.out⟩
  case round =>
    clear hRES
    obtain ⟨k, ts, t, hk, htk, htz, rfl, hs, hpk⟩ := hrel
    by_cases hlt : k < len
    · have hltl : k < rs.length := by rw [hn.out]; exact hlt
      obtain ⟨g, o, rfl, hg, c0, c1, c2, c3, c4, c5⟩ := HX.out.1.below hs.below k (by first | exact hltl | exact hlt)
      dsimp only at c0 c1 c2 c3 c4 c5
      have hmay := HX.out.2 (rs.getD k (0, 0, 0, 0, 0, 0)) (by simp [List.getD_eq_getElem?_getD, hltl])
      have hdr : rs.drop k = rs.getD k (0, 0, 0, 0, 0, 0) :: rs.drop (k + 1) := by rw [List.drop_eq_getElem_cons hltl]; simp [List.getD_eq_getElem?_getD, hltl]
      rw [hdr, List.map_cons, packGo] at hpk
      clear hdr
      generalize hr : rs.getD k (0, 0, 0, 0, 0, 0) = r at *
      obtain ⟨K, S, P, A, T, N⟩ := r
      simp only at c0 c1 c2 c3 c4 c5
      have hps := put6_le _ hmay
      have hput := fun w => putMay_any hmay w
      generalize hPB : R6.put (K, S, P, A, T, N) = B at *
      have hPB2 : putB K [K, S, P, A, T, N] = B := hPB
      rw [hPB2] at hput
      have HS := Hid.mk (And.intro hs (And.intro hpk hput))
      clear hs hpk hput hPB hPB2 hr hmay hltl
      obtain ⟨hp1, hp9⟩ := hps
      have hBe : ¬ B = ByteArray.empty := fun q => by rw [q] at hp1; simp at hp1
      go_upto_region 7 with (go_at_call 29; refine (HS.out.2.2 _).mono ?_; rintro e w1 ⟨rfl, b1⟩)
      have p1 := (HS.out.1.call (below_one wr _)).call b1
      have p2 := HS.out.2.1
      clear b1 HS hg c0 c1 c2 c3 c4 c5 hBe
      have hBe : B.toList.isEmpty = false := not_empty hp1
      obtain ⟨i9, z9, q1, q2, q3, q4, q5⟩ := info9z
      have H9 := Hid.mk (And.intro q1 (And.intro q2 (And.intro q3 (And.intro q4 q5))))
      clear q1 q2 q3 q4 q5
      obtain ⟨i5, q1, q2, q3, q4⟩ := info5z
      have H5 := Hid.mk (And.intro q1 (And.intro q2 (And.intro q3 q4)))
      clear q1 q2 q3 q4
      rw [show ((t.size + B.size : Nat) : Int) = (t.size : Int) + B.size by omega] at p2
      by_cases hc : 0 < t.size ∧ n < (t.size : Int) + B.size
      · rw [if_pos hc] at p2
        obtain ⟨hc1, hc2⟩ := hc
        obtain ⟨a5, c5, rfl⟩ := owns_form p1.tx
        obtain ⟨g6, c6, rfl, hc6⟩ := owns_form1 p1.bt hc1
        have hcv := owns_string p1.bt
        have HS := Hid.mk (And.intro p1 p2)
        clear p1 p2
        go_upto_region 10 with (first
          | (at_builtin; refine wpList_append_own _ rfl (.tmp 32) (.tmp 35) 22 rfl w.heap.size 9 i9 z9 1 16 Try.underlying22 H9.out.1 H9.out.2.1 H9.out.2.2.1 H9.out.2.2.2.1 H9.out.2.2.2.2 (by decide) (.slice a5 ts.length c5) ts.length (ts.map Value.string) rfl (HS.out.1.tx.alloc _) ⟨w1.heap.size, 0, none⟩ 1 1 ([t].map Value.string) rfl rfl (string_one w1 t) (strings_one _) (by simp [maxLen]; omega) (by omega) (Nat.le_trans HS.out.1.below.size (by rw [size_alloc]; omega)) ?_; intro v2 w3 hown hgrow _))
        have p1 := (HS.out.1.more _ _ hown hgrow).clear
        have p2 := HS.out.2
        clear HS hown hgrow hcv
        have HS := Hid.mk (And.intro p1 p2)
        clear p1 p2
        go_wp2_with (first
          | (at_builtin; refine Go.Lib.wpList_append_own_string _ rfl (.tmp 39) (.tmp 40) 70 9 rfl w.heap.size 5 i5 Try.underlying70 Try.underlying9 H5.out.1 H5.out.2.1 H5.out.2.2.1 H5.out.2.2.2 (.slice (some ⟨g6, 0, none⟩) 0 c6) 0 [] rfl HS.out.1.bt B rfl (by simp [maxLen]; omega) (by omega) HS.out.1.below.size ?_; intro v4 w4 hown hgrow _))
        have p1 := HS.out.1.fill B hown hgrow
        rw [empty_append] at p1
        exact ⟨⟨k + 1, ts ++ [t], B, by omega, by rw [List.length_append, List.length_singleton]; omega, by omega, by go_num, p1, HS.out.2⟩, by simp [intOf]; omega⟩
      · rw [if_neg hc] at p2
        obtain ⟨a6, c6, rfl⟩ := owns_form p1.bt
        have HS := Hid.mk (And.intro p1 p2)
        clear p1 p2
        have hc2 : ¬ 0 < t.size ∨ (0 < t.size ∧ ¬ n < (t.size : Int) + B.size) := by omega
        clear hc
        rcases hc2 with hc2 | ⟨hc1, hc2⟩
        all_goals
          go_wp2_with (first
            | (at_builtin; refine Go.Lib.wpList_append_own_string _ rfl (.tmp 39) (.tmp 40) 70 9 rfl w.heap.size 5 i5 Try.underlying70 Try.underlying9 H5.out.1 H5.out.2.1 H5.out.2.2.1 H5.out.2.2.2 (.slice a6 t.size c6) t.size (Go.Lib.strCells t) rfl HS.out.1.bt B rfl (by simp [maxLen]; omega) (by omega) HS.out.1.below.size ?_; intro v4 w4 hown hgrow _))
          have p1 := HS.out.1.fill B hown hgrow
          exact ⟨⟨k + 1, ts, t ++ B, by omega, by omega, by rw [ByteArray.size_append]; omega, by go_num, p1, HS.out.2⟩, by simp [intOf]; omega⟩
    · obtain rfl : k = len := by omega
      have hq := hpk
      rw [← hn.out, List.drop_length, List.map_nil, packGo] at hq
      obtain ⟨a5, c5, rfl⟩ := owns_form hs.tx
      obtain ⟨a6, c6, rfl⟩ := owns_form hs.bt
      have hcv := owns_string hs.bt
      have HS := Hid.mk (And.intro hs hq)
      clear hs hq hpk
      obtain ⟨i9, z9, q1, q2, q3, q4, q5⟩ := info9z
      have H9 := Hid.mk (And.intro q1 (And.intro q2 (And.intro q3 (And.intro q4 q5))))
      clear q1 q2 q3 q4 q5
      go_wp2_with (first
          | (at_builtin; refine wpList_append_own _ rfl (.tmp 43) (.tmp 46) 22 rfl w.heap.size 9 i9 z9 1 16 Try.underlying22 H9.out.1 H9.out.2.1 H9.out.2.2.1 H9.out.2.2.2.1 H9.out.2.2.2.2 (by decide) (.slice a5 ts.length c5) ts.length (ts.map Value.string) rfl (HS.out.1.tx.alloc _) ⟨wr.heap.size, 0, none⟩ 1 1 ([t].map Value.string) rfl rfl (string_one wr t) (strings_one _) (by simp [maxLen]; omega) (by omega) (Nat.le_trans HS.out.1.below.size (by rw [size_alloc]; omega)) ?_; intro v2 w3 hown hgrow _))
      have p1 := HS.out.1.more _ _ hown hgrow
      go_ret
      exact ⟨_, rfl, by rw [← HS.out.2]; exact p1.tx, p1.below⟩
theorem pages_any (a : Option Addr) (cap : Nat) (n : Int) (rs : List R6) (w : World) (hx : RecsF w a rs.length (fun i => rs.getD i (0, 0, 0, 0, 0, 0))) (hm : ∀ r ∈ rs, R6.may r = true) (h100 : rs.length ≤ 100) : Calls Try.prog 10 #[.slice a rs.length cap, .int .i64 n] w fun e w' =>
    e = .returned (.int .i64 (packGo n (rs.map R6.put) [] ⟨#[]⟩).length) ∧ Below w.heap.size w w' := by
  have HX := Hid.mk (fun w2 (b : Below w.heap.size w w2) => pack_any a cap n rs w2 (hx.below b) hm h100)
  clear hx hm h100
  generalize packGo n (rs.map R6.put) [] ⟨#[]⟩ = RES at *
  go_enter Try.func10, Try.ntmps10
  go_wp2_with (go_at_call 19; refine (HX.out w (Below.refl _ _)).mono ?_; rintro e w1 ⟨v, rfl, hv, b1⟩; obtain ⟨av, cv, rfl⟩ := owns_form hv; replace hv := Hid.mk hv)
  go_ret
  exact ⟨rfl, b1⟩
end Go.Proofs.Ytdapoonojhfkkaa
