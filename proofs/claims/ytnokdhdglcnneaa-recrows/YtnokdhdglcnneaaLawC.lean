/-
  The walk of the law RecRows. No condition.
-/
import Derived.Test.YtnokdhdglcnneaaLawA
import Derived.Laws.OwnMore
import Derived.Lib.SmallJoins
namespace Go.Proofs.Ytnokdhdglcnneaa
open Go Go.RowKit

/-- six numbers -/
abbrev R6 := Int × Int × Int × Int × Int × Int
def R6.l (r : R6) : List Int := [r.1, r.2.1, r.2.2.1, r.2.2.2.1, r.2.2.2.2.1, r.2.2.2.2.2]
def R6.may (r : R6) : Bool := mayB r.1 r.2.1 r.2.2.1 r.2.2.2.1 r.2.2.2.2.1 r.2.2.2.2.2
def R6.put (r : R6) : ByteArray := putB r.1 r.l
def R6.cells (r : R6) : List Value := r.l.map (Value.int .i64)
/-- records as bytes, one behind the other -/
def puts : List R6 → ByteArray
  | [] => ⟨#[]⟩
  | r :: l => r.put ++ puts l
theorem puts_snoc (l : List R6) (r : R6) : puts (l ++ [r]) = puts l ++ r.put := by
  induction l with
  | nil => simp [puts]; apply ByteArray.ext; simp
  | cons a l ih => rw [List.cons_append, puts, ih, puts, ByteArray.append_assoc]
/-- records as cells -/
def rowsC (l : List R6) : List Value := l.flatMap R6.cells
theorem rowsC_snoc (l : List R6) (r : R6) : rowsC (l ++ [r]) = rowsC l ++ r.cells := by simp [rowsC]
theorem rowsC_length (l : List R6) : (rowsC l).length = l.length * 6 := by
  induction l with
  | nil => rfl
  | cons a l ih =>
    show (a.cells ++ rowsC l).length = _
    rw [List.length_append, ih, List.length_cons]
    show 6 + _ = _
    omega
theorem rowsC_get (l : List R6) (j c : Nat) (hj : j < l.length) (hc : c < 6) : (rowsC l)[j * 6 + c]? = some (.int .i64 ((l.getD j (0, 0, 0, 0, 0, 0)).l.getD c 0)) := by
  induction l generalizing j with
  | nil => simp at hj
  | cons a l ih =>
    show (a.cells ++ rowsC l)[j * 6 + c]? = _
    have h6 : a.cells.length = 6 := rfl
    cases j with
    | zero =>
      rw [List.getElem?_append_left (by rw [h6]; omega)]
      match c, hc with
      | 0, _ => rfl
      | 1, _ => rfl
      | 2, _ => rfl
      | 3, _ => rfl
      | 4, _ => rfl
      | 5, _ => rfl
    | succ j =>
      rw [List.getElem?_append_right (by rw [h6]; omega), h6, show (j + 1) * 6 + c - 6 = j * 6 + c by omega, ih j (by simpa using hj)]
      simp
theorem puts_drop (l : List R6) (j : Nat) (h : j < l.length) : puts (l.drop j) = (l.getD j (0, 0, 0, 0, 0, 0)).put ++ puts (l.drop (j + 1)) := by
  rw [List.drop_eq_getElem_cons h, puts]
  simp [List.getD_eq_getElem?_getD, h]
theorem put6_size (r : R6) (h : r.may = true) : r.put.size ≤ 100 := by
  obtain ⟨n, O, RES, g, h3, hz0, F⟩ := putF h
  have := F.size n
  rw [F.last, ← F.res] at this
  exact this
/-- a row of records that is handed in -/
def RecsF (w : World) (a : Option Addr) (n : Nat) (f : Nat → R6) : Prop := ∀ i, i < n → ∃ g o, a = some ⟨g, o, none⟩ ∧ g < w.heap.size ∧
  w.cell? ⟨g, o + i * 6, none⟩ = some (.int .i64 (f i).1) ∧ w.cell? ⟨g, o + i * 6 + 1, none⟩ = some (.int .i64 (f i).2.1) ∧ w.cell? ⟨g, o + i * 6 + 2, none⟩ = some (.int .i64 (f i).2.2.1) ∧
  w.cell? ⟨g, o + i * 6 + 3, none⟩ = some (.int .i64 (f i).2.2.2.1) ∧ w.cell? ⟨g, o + i * 6 + 4, none⟩ = some (.int .i64 (f i).2.2.2.2.1) ∧ w.cell? ⟨g, o + i * 6 + 5, none⟩ = some (.int .i64 (f i).2.2.2.2.2)
/-- the one record that a literal of one lays -/
theorem rec_cells (w : World) (r : R6) : ∀ j u, (R6.cells r)[j]? = some u → (w.alloc (.cells #[.int .i64 r.1, .int .i64 r.2.1, .int .i64 r.2.2.1, .int .i64 r.2.2.2.1, .int .i64 r.2.2.2.2.1, .int .i64 r.2.2.2.2.2] 23)).cell? ((⟨w.heap.size, 0, none⟩ : Addr).add j) = some u := by
  intro j u hu
  have ea : (⟨w.heap.size, 0, none⟩ : Addr).add j = ⟨w.heap.size, j, none⟩ := by unfold Addr.add; split <;> simp_all
  rw [ea, cell_of_row _ _ j _ 23 _ (heap_alloc_new w _), ← hu]
  simp [R6.cells, R6.l]
theorem cells_one (r : R6) : ∀ u ∈ R6.cells r, u.oneCell' = true := by
  intro u hu
  simp only [R6.cells, List.mem_map] at hu
  obtain ⟨x, _, rfl⟩ := hu
  rfl
theorem info23z : ∃ i z, Try.prog.info? 23 = some i ∧ i.zero = some z ∧ i.size = 6 ∧ i.bytes = 48 ∧ z.cells.size = 6 := ⟨_, _, rfl, rfl, rfl, rfl, rfl⟩
theorem RecsF.below {w w' : World} {a n f} (h : RecsF w a n f) (b : Below w.heap.size w w') : RecsF w' a n f := by
  intro i hi
  obtain ⟨g, o, ha, hg, c0, c1, c2, c3, c4, c5⟩ := h i hi
  have e : ∀ j, w'.cell? ⟨g, j, none⟩ = w.cell? ⟨g, j, none⟩ := fun j => b.cell (p := ⟨g, j, none⟩) hg
  exact ⟨g, o, ha, Nat.lt_of_lt_of_le hg b.size, by rw [e]; exact c0, by rw [e]; exact c1, by rw [e]; exact c2, by rw [e]; exact c3, by rw [e]; exact c4, by rw [e]; exact c5⟩
/-- what the first loop holds: records rs that may be, in a slice of the call's own -/
structure Rw (w : World) (v : Value) (rs : List R6) (wr : World) : Prop where
  own : wr.ownsRow w.heap.size 23 6 v rs.length (rowsC rs)
  may : ∀ r ∈ rs, R6.may r = true
  below : Below w.heap.size w wr
theorem Rw.call {w v rs wr w2} (h : Rw w v rs wr) (b : Below wr.heap.size wr w2) : Rw w v rs w2 :=
  ⟨h.own.kept (row := none) ⟨b.os, b.tape, b.output, b.size, fun j hj _ => b.block j hj⟩ (by cases hv : v.ownBlock <;> simp), h.may, below3 h.below b⟩
theorem Rw.form {w v rs wr} (h : Rw w v rs wr) : ∃ a cap, v = .slice a rs.length cap := by
  rcases Go.Joins.ownsRow_forms h.own with ⟨h1, h2⟩ | ⟨g, cap, h1⟩
  · exact ⟨none, 0, by rw [h1, h2]⟩
  · exact ⟨_, cap, h1⟩
theorem Rw.more {w v rs wr w3 v2} (h : Rw w v rs wr) (o : Obj) (r : R6) (hm : r.may = true) (hown : w3.ownsRow w.heap.size 23 6 v2 (rs.length + 1) (rowsC rs ++ r.cells)) (hg : (wr.alloc o).grownBy w3 v.ownBlock) : Rw w v2 (rs ++ [r]) w3 := by
  refine ⟨?_, fun x hx => ?_, ?_⟩
  · rw [rowsC_snoc, List.length_append]
    exact hown
  · rcases List.mem_append.1 hx with hx | hx
    · exact h.may x hx
    · rw [List.mem_singleton.1 hx]
      exact hm
  · exact (h.below.alloc h.below.size o).grown hg (h.below.alloc h.below.size o).size (fun k hk => ((h.own.alloc o).lt k hk).1)
theorem Rw.grown {w v rs wr w2 G} (h : Rw w v rs wr) (b : wr.grownBy w2 (some G)) (hne : v.ownBlock ≠ some G) (hG : w.heap.size ≤ G) : Rw w v rs w2 :=
  ⟨h.own.kept b (Or.inr hne), h.may, below_grown h.below b h.below.size hG⟩
theorem Rw.apart {w v rs wr} (h : Rw w v rs wr) : v.ownBlock ≠ some wr.heap.size := fun e => by
  have := (h.own.lt _ e).2
  omega
/-- the cells of one of the records -/
theorem Rw.at {w a c rs wr} (h : Rw w (.slice a rs.length c) rs wr) (j : Nat) (hj : j < rs.length) {K S P A T N : Int} (hr : rs.getD j (0, 0, 0, 0, 0, 0) = (K, S, P, A, T, N)) : ∃ g, a = some ⟨g, 0, none⟩ ∧ g < wr.heap.size ∧
    wr.cell? ⟨g, j * 6, none⟩ = some (.int .i64 K) ∧ wr.cell? ⟨g, j * 6 + 1, none⟩ = some (.int .i64 S) ∧ wr.cell? ⟨g, j * 6 + 2, none⟩ = some (.int .i64 P) ∧ wr.cell? ⟨g, j * 6 + 3, none⟩ = some (.int .i64 A) ∧ wr.cell? ⟨g, j * 6 + 4, none⟩ = some (.int .i64 T) ∧ wr.cell? ⟨g, j * 6 + 5, none⟩ = some (.int .i64 N) := by
  obtain ⟨g, cap, e⟩ := Go.Joins.ownsRow_form h.own (by omega)
  simp only [Value.slice.injEq] at e
  obtain ⟨rfl, _, rfl⟩ := e
  have hc : ∀ c, c < 6 → wr.cell? ⟨g, j * 6 + c, none⟩ = some (.int .i64 (R6.l (K, S, P, A, T, N) |>.getD c 0)) := fun c hc => by
    rw [h.own.cellAt (j * 6 + c) (by omega), rowsC_get rs j c hj hc, hr]
  exact ⟨g, rfl, (h.own.lt g rfl).2, hc 0 (by omega), hc 1 (by omega), hc 2 (by omega), hc 3 (by omega), hc 4 (by omega), hc 5 (by omega)⟩
theorem Rw.mayAt {w v rs wr} (h : Rw w v rs wr) (j : Nat) (hj : j < rs.length) {K S P A T N : Int} (hr : rs.getD j (0, 0, 0, 0, 0, 0) = (K, S, P, A, T, N)) : mayB K S P A T N = true := by
  have hm : rs.getD j (0, 0, 0, 0, 0, 0) ∈ rs := by simp [List.getD_eq_getElem?_getD, hj]
  have := h.may _ hm
  rw [hr] at this
  exact this
set_option maxHeartbeats 2000000 in
theorem recRows_any (a : Option Addr) (len cap : Nat) (f : Nat → R6) (w : World) (hx : RecsF w a len f) : Calls Try.prog 5 #[.slice a len cap] w fun e w' => e = .returned (.bool true) ∧ Below w.heap.size w w' := by
  have HX := Hid.mk hx
  clear hx
  go_enter Try.func5, Try.ntmps5
  go_upto_region 3 with fail
  have r0 : Rw w (.slice (some ⟨w.heap.size, 0, none⟩) 0 0) [] (w.alloc (.cells #[] 23)) := ⟨World.ownsRow_made w #[] 0 (Nat.le_refl _) (Nat.zero_le _) rfl, fun _ h => (by cases h), below_one w _⟩
  generalize (w.alloc (.cells #[] 23)) = W at *
  replace r0 := Hid.mk r0
  go_loopw [3, 4, 5] (fun s v i wr => ∃ (k : Nat) (X : ByteArray) (rs : List R6), k ≤ 30 ∧ k ≤ len ∧ rs.length ≤ k ∧ X.size ≤ 100 * k ∧ i = .int .i64 k ∧ s = .string X ∧ X = puts rs ∧ Rw w v rs wr) (fun _ _ i _ => 30 - (intOf i).toNat)
  case atStart => exact ⟨0, ⟨#[]⟩, [], by omega, Nat.zero_le _, Nat.le_refl _, Nat.le_refl _, rfl, rfl, rfl, r0.out⟩
  case round =>
    clear r0
    obtain ⟨k, X, rs, hk30, hklen, hrk, hXs, rfl, rfl, hXp, hs⟩ := hrel
    by_cases hgo : k < len ∧ k < 30
    · obtain ⟨h1, h2⟩ := hgo
      obtain ⟨g, o, rfl, hg, c0, c1, c2, c3, c4, c5⟩ := HX.out.below hs.below k h1
      have HF := Hid.mk (HX.out.below hs.below)
      generalize hr : f k = r at *
      obtain ⟨K, S, P, A, T, N⟩ := r
      simp only at c0 c1 c2 c3 c4 c5
      have HS := Hid.mk (And.intro hs (And.intro hXp hr))
      clear hs hXp hr
      have h2i : (k : Int) < 30 := by omega
      go_upto_region 5 with fail
      by_cases hm : mayB K S P A T N = true
      · replace hm := Hid.mk hm
        go_upto_region 6 with (go_at_call 7; refine (checkB_any K S P A T N _).mono ?_; rintro e w1 ⟨rfl, b1⟩; rw [hm.out])
        replace HS := Hid.mk (And.intro (HS.out.1.call b1) HS.out.2)
        have e1 : ∀ j, w1.cell? ⟨g, j, none⟩ = wr.cell? ⟨g, j, none⟩ := fun j => b1.cell (p := ⟨g, j, none⟩) hg
        rw [← e1] at c0 c1 c2 c3 c4 c5
        have hg1 := Nat.lt_of_lt_of_le hg b1.size
        clear e1 b1 hg HF
        have hps := put6_size (K, S, P, A, T, N) hm.out
        have hput := fun w => putMay_any hm.out w
        generalize hPB : R6.put (K, S, P, A, T, N) = B at *
        have hPB2 : putB K [K, S, P, A, T, N] = B := hPB
        rw [hPB2] at hput
        have hadd : ¬ 9223372036854775807 < X.size + B.size := by omega
        replace hput := Hid.mk (And.intro hput hPB)
        clear hPB2 hPB
        go_upto_region 7 with (go_at_call 10; refine (hput.out.1 _).mono ?_; rintro e w2 ⟨rfl, b2⟩)
        replace HS := Hid.mk (And.intro (HS.out.1.call b2) HS.out.2)
        have e1 : ∀ j, w2.cell? ⟨g, j, none⟩ = w1.cell? ⟨g, j, none⟩ := fun j => b2.cell (p := ⟨g, j, none⟩) hg1
        rw [← e1] at c0 c1 c2 c3 c4 c5
        clear e1 b2 hg1
        obtain ⟨i23, z23, q1, q2, q3, q4, q5⟩ := info23z
        have HI := Hid.mk (And.intro q1 (And.intro q2 (And.intro q3 (And.intro q4 q5))))
        clear q1 q2 q3 q4 q5
        go_wp2_with (first | (at_builtin; refine wpList_append_own _ rfl (.tmp 33) (.tmp 38) 39 rfl w.heap.size 23 i23 z23 6 48 Try.underlying39 HI.out.1 HI.out.2.1 HI.out.2.2.1 HI.out.2.2.2.1 HI.out.2.2.2.2 (by decide) u4 rs.length (rowsC rs) rfl (HS.out.1.own.alloc _) ⟨w2.heap.size, 0, none⟩ 1 1 (R6.cells (K, S, P, A, T, N)) rfl rfl (rec_cells w2 (K, S, P, A, T, N)) (cells_one _) (by simp [maxLen]; omega) (by omega) (Nat.le_trans HS.out.1.below.size (by rw [size_alloc]; omega)) ?_; intro v2 w3 hown hgrow _))
        exact ⟨⟨k + 1, X ++ B, rs ++ [(K, S, P, A, T, N)], by omega, by omega, by rw [List.length_append, List.length_singleton]; omega, by rw [ByteArray.size_append]; omega, by go_num, rfl, by rw [puts_snoc, ← HS.out.2.1, hput.out.2], HS.out.1.more _ _ hm.out hown hgrow⟩, by simp [intOf]; omega⟩
      · replace hm : mayB K S P A T N = false := by simpa using hm
        replace hm := Hid.mk hm
        go_wp2_with (go_at_call 7; refine (checkB_any K S P A T N _).mono ?_; rintro e w1 ⟨rfl, b1⟩; rw [hm.out])
        exact ⟨⟨k + 1, X, rs, by omega, by omega, by omega, by omega, by go_num, rfl, HS.out.2.1, HS.out.1.call b1⟩, by simp [intOf]; omega⟩
    · have hex : ¬ ((k : Int) < (len : Int)) ∨ ((k : Int) < (len : Int) ∧ ¬ ((k : Int) < 30)) := by omega
      obtain ⟨va, vc, rfl⟩ := hs.form
      have HS := Hid.mk (And.intro hs hXp)
      clear hs hXp hgo
      rcases hex with hex | ⟨hex0, hex⟩
      all_goals
        go_upto_region 10 with (go_at_call 9; refine (new_any _ _).mono ?_; rintro e w1 ⟨rfl, r1, b1⟩)
        have hap := Hid.mk (And.intro HS.out.1.apart HS.out.1.below.size)
        rw [HS.out.2] at r1
        have hR := Hid.mk (And.intro (HS.out.1.call b1) r1)
        clear HS r1 b1 hXs
        generalize wr.heap.size = G at *
        generalize hn : rs.length = n at *
        replace hn := Hid.mk hn
        go_loopw [7] (fun i wx => ∃ j : Nat, j ≤ n ∧ i = .int .i64 j ∧ Rw w (.slice va n vc) rs wx ∧ Rd wx G (puts (rs.drop j)) 0) (fun i _ => n - (intOf i).toNat)
        case atStart => exact ⟨0, Nat.zero_le _, rfl, hR.out.1, hR.out.2⟩
        case round =>
          clear hR
          obtain ⟨j, hj, rfl, hs, hrd⟩ := hrel
          by_cases hjn : j < n
          · have hjl : j < rs.length := by rw [hn.out]; exact hjn
            obtain ⟨r, hr⟩ : ∃ r, rs.getD j (0, 0, 0, 0, 0, 0) = r := ⟨_, rfl⟩
            obtain ⟨K, S, P, A, T, N⟩ := r
            have hm := hs.mayAt j hjl hr
            rw [puts_drop rs j hjl, hr] at hrd
            have htk := fun w (h : Rd w G (R6.put (K, S, P, A, T, N) ++ puts (rs.drop (j + 1))) 0) => takePut_any hm (puts (rs.drop (j + 1))) h
            have HS := Hid.mk (And.intro hs (And.intro hrd (And.intro htk hr)))
            clear hs hrd htk hr hm
            go_upto_region 13 with (go_at_call 11; refine (HS.out.2.2.1 _ HS.out.2.1).mono ?_; rintro e w2 ⟨rfl, r2, g2⟩; unfold rv)
            have p1 := (HS.out.1.grown g2 hap.out.1 hap.out.2).call (below_one w2 (.cells #[.int .i64 K, .int .i64 S, .int .i64 P, .int .i64 A, .int .i64 T, .int .i64 N] 23))
            have p2 : Row (w2.alloc (.cells #[.int .i64 K, .int .i64 S, .int .i64 P, .int .i64 A, .int .i64 T, .int .i64 N] 23)) w2.heap.size 23 .i64 [K, S, P, A, T, N] := Row.fresh w2 23 .i64 [K, S, P, A, T, N]
            have p3 := r2.alloc (.cells #[.int .i64 K, .int .i64 S, .int .i64 P, .int .i64 A, .int .i64 T, .int .i64 N] 23)
            have p4 := HS.out.2.2.2
            clear r2 g2 HS
            generalize (w2.alloc (.cells #[.int .i64 K, .int .i64 S, .int .i64 P, .int .i64 A, .int .i64 T, .int .i64 N] 23)) = W2 at *
            generalize w2.heap.size = Y at *
            rw [← hn.out] at p1
            obtain ⟨gv, rfl, hgv, d0, d1, d2, d3, d4, d5⟩ := p1.at j hjl p4
            rw [hn.out] at p1
            obtain ⟨c0, c1, c2, c3, c4, c5⟩ := p2.six
            have HS := Hid.mk (And.intro p1 p3)
            clear p1 p2 p3 p4
            go_region
            go_wp2_with fail
            exact ⟨⟨j + 1, by omega, by go_num, HS.out.1.call (Below.refl _ W2).drew, HS.out.2⟩, by simp [intOf]; omega⟩
          · have hj2 : j = n := by omega
            rw [hj2, ← hn.out, List.drop_length] at hrd
            have HS := Hid.mk (And.intro hs hrd)
            clear hs hrd hj2
            go_wp2_with (first
              | (go_at_call 6; refine (awake_any _).mono ?_; rintro e w3 ⟨rfl, b3⟩; have R3 := Hid.mk (HS.out.2.call b3))
              | (go_at_call 13; refine (end_empty R3.out).mono ?_; rintro e w' ⟨rfl, rfl⟩))
            go_ret
            exact ⟨rfl, (HS.out.1.call b3).below⟩
end Go.Proofs.Ytnokdhdglcnneaa
