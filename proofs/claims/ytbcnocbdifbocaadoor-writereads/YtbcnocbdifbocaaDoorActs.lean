/-
  The walks of Room, New, Open, let, Full, Free, Bad and Take; all of them without a Life. No condition.
-/
import Derived.Test.YtbcnocbdifbocaaDoorFns
import Derived.Deep.Cut
namespace Go.Proofs.YtbcnocbdifbocaaDoor.Lf
open Go Go.RowKit

theorem drewN_drewN (w : World) (a b : Nat) : (w.drewN a).drewN b = w.drewN (a + b) := by
  induction b with
  | zero => rfl
  | succ b ih => show ((w.drewN a).drewN b).drew = (w.drewN (a + b)).drew; rw [ih]
theorem Tryd.info3 : (Tryd.prog.info? 3).map (fun i => (i.zero, i.size, i.bytes)) = some (some (.int .i64 0), 1, 8) := by kernel_rfl
theorem madeRow (n : Nat) : madeCells #[.int .i64 0] n = cellsOf .i64 (List.replicate n 0) := by
  unfold madeCells cellsOf
  apply Array.ext
  · simp
  · intro i h1 h2
    simp [Nat.mod_one]
theorem new_any (n k : Nat) (hn : 1 ≤ n ∧ n ≤ 32) (hk : 1 ≤ k ∧ k ≤ 16) (w : World) : Calls Tryd.prog 27 #[.int .i64 n, .int .i64 k] w fun e w' =>
    ∃ a g, e = .returned (.tuple #[.pointer (some ⟨a, 0, none⟩), .int .i64 0]) ∧ Lif w' a g n k (List.replicate n 0) (-1) 0 ∧ Below w.heap.size w w' ∧ ∀ i, ownL a g i → w.heap.size ≤ i := by
  have hmk := run_make_row' (P := Tryd.prog) 24 3 (.int .i64 0) 8 Tryd.underlying24 Tryd.info3 rfl .i64 .i64 n (by omega) (by omega)
  rw [madeRow] at hmk
  go_enter Tryd.func27, Tryd.ntmps27
  go_wp2
  go_ret2
  have hr := Row.fresh w 3 .i64 (List.replicate n 0)
  have hb := (Below.refl w.heap.size w).alloc (Nat.le_refl _) (.cells (cellsOf .i64 (List.replicate n 0)) 3)
  have hz := size_alloc w (.cells (cellsOf .i64 (List.replicate n 0)) 3)
  generalize w.alloc (.cells (cellsOf .i64 (List.replicate n 0)) 3) = W at *
  refine ⟨w.heap.size + 1, w.heap.size, rfl, ⟨?_, hr.alloc _, by omega, Ok.free n k hn hk⟩, hb.alloc hb.size _, ?_⟩
  · rw [← hz]; exact heap_alloc_new W _
  · rintro i (rfl | rfl) <;> omega
theorem new_no (n k : Int) (h : ¬ ((1 ≤ n ∧ n ≤ 32) ∧ 1 ≤ k ∧ k ≤ 16)) (w : World) : Calls Tryd.prog 27 #[.int .i64 n, .int .i64 k] w fun e w' => e = .returned (.tuple #[.pointer none, .int .i64 1]) ∧ w' = w := by
  by_cases h1 : n < 1
  · go_enter Tryd.func27, Tryd.ntmps27
    go_wp2
    go_ret2
    exact ⟨rfl, rfl⟩
  · by_cases h2 : 32 < n
    · go_enter Tryd.func27, Tryd.ntmps27
      go_wp2
      go_ret2
      exact ⟨rfl, rfl⟩
    · by_cases h3 : k < 1
      · go_enter Tryd.func27, Tryd.ntmps27
        go_wp2
        go_ret2
        exact ⟨rfl, rfl⟩
      · have h4 : 16 < k := by omega
        clear h
        go_enter Tryd.func27, Tryd.ntmps27
        go_wp2
        go_ret2
        exact ⟨rfl, rfl⟩
theorem open_yes {w : World} {a g n k xs o nx} (h : Lif w a g n k xs o nx) (j : Nat) (hj : j < n) (hx : xs.getD j 0 = 0) (ho : o = -1) : Calls Tryd.prog 64 #[.pointer (some ⟨a, 0, none⟩), .int .i64 j] w fun e w' =>
    e = .returned (.bool true) ∧ Lif w' a g n k (xs.set j 1) j 0 ∧ Kp (ownL a g) w w' := by
  subst ho
  obtain ⟨c0, c1, c2, f2⟩ := h.cells
  have hnb := h.ok.nb
  have hi := is_any h j
  rw [isL_in xs j (by rw [h.ok.len]; exact hj), hx] at hi
  have hc := count_any h 1
  have hc0 : cnt xs 1 = 0 := by have := h.ok.cnt_one; have := cnt_range xs 1; omega
  rw [hc0] at hc
  have cj := h.at j hj
  have fj := h.row.frozen j
  have hne := h.ne
  have H := Hid.mk h
  have HI := Hid.mk hi
  have HC := Hid.mk hc
  clear h hi hc hc0
  have hj1 : (j : Int) < n := by omega
  rw [hx] at cj
  clear hx
  go_enter Tryd.func64, Tryd.ntmps64
  go_wp2_with (first
    | (go_at_call 14; refine HI.out.mono ?_; rintro e w' ⟨rfl, rfl⟩)
    | (go_at_call 73; refine HC.out.mono ?_; rintro e w' ⟨rfl, rfl⟩))
  go_ret
  refine ⟨rfl, ?_, ?_⟩
  · exact H.out.both j 1 (H.out.ok.opened j hj)
  · exact ((Kp.refl _ _).setCell (p := ⟨g, j, none⟩) (Or.inr rfl) _).setCell (p := ⟨a, 2, none⟩) (Or.inl rfl) _
theorem open_no {w : World} {a g n k xs o nx} (h : Lif w a g n k xs o nx) (b : Int) (hx : isL xs b ≠ 0 ∨ 0 ≤ o) : Calls Tryd.prog 64 #[.pointer (some ⟨a, 0, none⟩), .int .i64 b] w fun e w' => e = .returned (.bool false) ∧ w' = w := by
  have HI := Hid.mk (is_any h b)
  have HC := Hid.mk (count_any h 1)
  have hc := h.ok.cnt_one
  clear h
  generalize isL xs b = x at *
  generalize cnt xs 1 = c at *
  by_cases h0 : x = 0
  · have hc1 : 0 < c := by omega
    clear hc hx
    subst h0
    go_enter Tryd.func64, Tryd.ntmps64
    go_wp2_with (first
      | (go_at_call 14; refine HI.out.mono ?_; rintro e w' ⟨rfl, rfl⟩)
      | (go_at_call 73; refine HC.out.mono ?_; rintro e w' ⟨rfl, rfl⟩))
    go_ret
    exact ⟨rfl, rfl⟩
  · clear hc hx
    go_enter Tryd.func64, Tryd.ntmps64
    go_wp2_with (first
      | (go_at_call 14; refine HI.out.mono ?_; rintro e w' ⟨rfl, rfl⟩)
      | (go_at_call 73; refine HC.out.mono ?_; rintro e w' ⟨rfl, rfl⟩))
    go_ret
    exact ⟨rfl, rfl⟩
theorem let_yes {w : World} {a g n k xs o nx} (h : Lif w a g n k xs o nx) (j : Nat) (hj : j < n) (hx : xs.getD j 0 ≠ 3) (v : Int) (hv : 0 ≤ v ∧ v ≤ 3) (h1 : v ≠ 1) : Calls Tryd.prog 37 #[.pointer (some ⟨a, 0, none⟩), .int .i64 j, .int .i64 v] w fun e w' =>
    e = .returned (.bool true) ∧ Lif w' a g n k (xs.set j v) (if o = j then -1 else o) nx ∧ Kp (ownL a g) w w' := by
  obtain ⟨c0, c1, c2, f2⟩ := h.cells
  have hnb := h.ok.nb
  have hi := is_any h j
  rw [isL_in xs j (by rw [h.ok.len]; exact hj)] at hi
  have hk := h.ok.kind j hj
  have cj := h.at j hj
  have fj := h.row.frozen j
  have hne := h.ne
  have HL := Hid.mk (h.ok.laid j hj v hv h1)
  have H := Hid.mk h
  have HI := Hid.mk hi
  clear h hi h1
  generalize (if o = (j : Int) then (-1 : Int) else o) = o' at *
  have hj1 : (j : Int) < n := by omega
  generalize xs.getD j 0 = x at *
  have hx0 : ¬ x < 0 := by omega
  replace hx : (x == 3) = false := by simpa using hx
  clear hk hv
  go_enter Tryd.func37, Tryd.ntmps37
  go_wp2_with (go_at_call 14; refine HI.out.mono ?_; rintro e w' ⟨rfl, rfl⟩)
  go_ret
  exact ⟨rfl, H.out.set j v HL.out rfl, (Kp.refl _ _).setCell (p := ⟨g, j, none⟩) (Or.inr rfl) _⟩
theorem let_no {w : World} {a g n k xs o nx} (h : Lif w a g n k xs o nx) (b : Int) (hx : isL xs b < 0 ∨ isL xs b = 3) (v : Int) : Calls Tryd.prog 37 #[.pointer (some ⟨a, 0, none⟩), .int .i64 b, .int .i64 v] w fun e w' => e = .returned (.bool false) ∧ w' = w := by
  have HI := Hid.mk (is_any h b)
  clear h
  generalize isL xs b = x at *
  by_cases h0 : x < 0
  · clear hx
    go_enter Tryd.func37, Tryd.ntmps37
    go_wp2_with (go_at_call 14; refine HI.out.mono ?_; rintro e w' ⟨rfl, rfl⟩)
    go_ret
    exact ⟨rfl, rfl⟩
  · have h3 : x = 3 := by omega
    clear hx h0
    subst h3
    go_enter Tryd.func37, Tryd.ntmps37
    go_wp2_with (go_at_call 14; refine HI.out.mono ?_; rintro e w' ⟨rfl, rfl⟩)
    go_ret
    exact ⟨rfl, rfl⟩
theorem full_of {p : Value} {b : Int} {w : World} {R : Bool} {Q : World → Prop} (h : Calls Tryd.prog 37 #[p, .int .i64 b, .int .i64 2] w fun e w' => e = .returned (.bool R) ∧ Q w') : Calls Tryd.prog 17 #[p, .int .i64 b] w fun e w' => e = .returned (.bool R) ∧ Q w' := by
  have H := Hid.mk h
  clear h
  go_enter Tryd.func17, Tryd.ntmps17
  go_wp2_with (go_at_call 37; refine H.out.mono ?_; rintro e w' ⟨rfl, hq⟩)
  go_ret
  exact ⟨rfl, hq⟩
theorem free_of {p : Value} {b : Int} {w : World} {R : Bool} {Q : World → Prop} (h : Calls Tryd.prog 37 #[p, .int .i64 b, .int .i64 0] w fun e w' => e = .returned (.bool R) ∧ Q w') : Calls Tryd.prog 34 #[p, .int .i64 b] w fun e w' => e = .returned (.bool R) ∧ Q w' := by
  have H := Hid.mk h
  clear h
  go_enter Tryd.func34, Tryd.ntmps34
  go_wp2_with (go_at_call 37; refine H.out.mono ?_; rintro e w' ⟨rfl, hq⟩)
  go_ret
  exact ⟨rfl, hq⟩
theorem bad_of {p : Value} {b : Int} {w : World} {R : Bool} {Q : World → Prop} (h : Calls Tryd.prog 37 #[p, .int .i64 b, .int .i64 3] w fun e w' => e = .returned (.bool R) ∧ Q w') : Calls Tryd.prog 55 #[p, .int .i64 b] w fun e w' => e = .returned (.bool R) ∧ Q w' := by
  have H := Hid.mk h
  clear h
  go_enter Tryd.func55, Tryd.ntmps55
  go_wp2_with (go_at_call 37; refine H.out.mono ?_; rintro e w' ⟨rfl, hq⟩)
  go_ret
  exact ⟨rfl, hq⟩
theorem take_none {w : World} {a g n k xs o nx} (h : Lif w a g n k xs o nx) (ho : o = -1) : Calls Tryd.prog 65 #[.pointer (some ⟨a, 0, none⟩)] w fun e w' => e = .returned (.tuple #[.int .i64 0, .int .i64 0, .bool false]) ∧ w' = w := by
  have H := Hid.mk (at_none h ho)
  clear h
  go_enter Tryd.func65, Tryd.ntmps65
  go_wp2_with (go_at_call 16; refine H.out.mono ?_; rintro e w' ⟨rfl, rfl⟩)
  go_ret3
  exact ⟨rfl, rfl⟩
/-- what a page that is taken leaves -/
def tkX (k : Nat) (xs : List Int) (j : Nat) (nx : Int) : List Int := if nx + 1 = k then xs.set j 2 else xs
def tkO (k : Nat) (j : Nat) (nx : Int) : Int := if nx + 1 = k then -1 else j
theorem take_some {w : World} {a g n k xs o nx} (h : Lif w a g n k xs o nx) (j : Nat) (ho : o = j) : Calls Tryd.prog 65 #[.pointer (some ⟨a, 0, none⟩)] w fun e w' =>
    e = .returned (.tuple #[.int .i64 j, .int .i64 nx, .bool true]) ∧ Lif w' a g n k (tkX k xs j nx) (tkO k j nx) (nx + 1) ∧ Kp (ownL a g) w w' := by
  subst ho
  obtain ⟨c0, c1, c2, f2⟩ := h.cells
  have hkb := h.ok.kb
  have hnx := h.ok.nxr
  have hno := h.ok.nxo (by omega)
  obtain ⟨hj, hx⟩ := h.ok.open_at j rfl
  have cj := h.at j hj
  rw [hx] at cj
  have fj := h.row.frozen j
  have hne := h.ne
  have hj1 : (j : Int) < n := by omega
  have hnb := h.ok.nb
  have HA := Hid.mk (at_some h (by omega))
  unfold tkX tkO
  by_cases he : nx + 1 = k
  · rw [if_pos he, if_pos he]
    have HL := Hid.mk (h.ok.last j rfl he)
    have H := Hid.mk h
    clear h hx
    go_enter Tryd.func65, Tryd.ntmps65
    go_upto_region 5 with (go_at_call 16; refine HA.out.mono ?_; rintro e w' ⟨rfl, m, rfl⟩)
    have hq := (H.out.drewN m).both' j 2 HL.out
    have HK := Hid.mk (((Kp.refl (ownL a g) w).drewN m).setCell (p := ⟨a, 2, none⟩) (Or.inl rfl) (.int .i64 k))
    rw [he] at hq
    go_region
    go_wp2
    go_ret3
    exact ⟨rfl, by rw [he]; exact hq.drew, (HK.out.setCell (p := ⟨g, j, none⟩) (Or.inr rfl) _).drew⟩
  · rw [if_neg he, if_neg he]
    have HL := Hid.mk (h.ok.more (by omega))
    have H := Hid.mk h
    clear h hx
    go_enter Tryd.func65, Tryd.ntmps65
    go_upto_region 5 with (go_at_call 16; refine HA.out.mono ?_; rintro e w' ⟨rfl, m, rfl⟩)
    go_region
    go_wp2
    go_ret3
    exact ⟨rfl, ((H.out.drewN m).next HL.out).drew, (((Kp.refl (ownL a g) w).drewN m).setCell (p := ⟨a, 2, none⟩) (Or.inl rfl) _).drew⟩
/-! without a Life -/
theorem is_nil (b : Int) (w : World) : Calls Tryd.prog 14 #[.pointer none, .int .i64 b] w fun e w' => e = .returned (.int .i64 (-1)) ∧ w' = w := by
  go_enter Tryd.func14, Tryd.ntmps14
  go_wp2
  go_ret
  exact ⟨rfl, rfl⟩
theorem count_nil (v : Int) (w : World) : Calls Tryd.prog 73 #[.pointer none, .int .i64 v] w fun e w' => e = .returned (.int .i64 0) ∧ w' = w := by
  go_enter Tryd.func73, Tryd.ntmps73
  go_wp2
  go_ret
  exact ⟨rfl, rfl⟩
theorem at_nil (w : World) : Calls Tryd.prog 16 #[.pointer none] w fun e w' => e = .returned (.tuple #[.int .i64 0, .int .i64 0, .bool false]) ∧ w' = w := by
  go_enter Tryd.func16, Tryd.ntmps16
  go_wp2
  go_ret3
  exact ⟨rfl, rfl⟩
theorem take_nil (w : World) : Calls Tryd.prog 65 #[.pointer none] w fun e w' => e = .returned (.tuple #[.int .i64 0, .int .i64 0, .bool false]) ∧ w' = w := by
  go_enter Tryd.func65, Tryd.ntmps65
  go_wp2_with (go_at_call 16; refine (at_nil _).mono ?_; rintro e w' ⟨rfl, rfl⟩)
  go_ret3
  exact ⟨rfl, rfl⟩
theorem open_nil (b : Int) (w : World) : Calls Tryd.prog 64 #[.pointer none, .int .i64 b] w fun e w' => e = .returned (.bool false) ∧ w' = w := by
  go_enter Tryd.func64, Tryd.ntmps64
  go_wp2_with (first
    | (go_at_call 14; refine (is_nil _ _).mono ?_; rintro e w' ⟨rfl, rfl⟩)
    | (go_at_call 73; refine (count_nil _ _).mono ?_; rintro e w' ⟨rfl, rfl⟩))
  go_ret
  exact ⟨rfl, rfl⟩
theorem let_nil (b v : Int) (w : World) : Calls Tryd.prog 37 #[.pointer none, .int .i64 b, .int .i64 v] w fun e w' => e = .returned (.bool false) ∧ w' = w := by
  go_enter Tryd.func37, Tryd.ntmps37
  go_wp2_with (go_at_call 14; refine (is_nil _ _).mono ?_; rintro e w' ⟨rfl, rfl⟩)
  go_ret
  exact ⟨rfl, rfl⟩
end Go.Proofs.YtbcnocbdifbocaaDoor.Lf
