/-
  The answer's state: four lists in slices; what it tells of them (find, Get, Refs, Pages). No condition.
-/
import Derived.Test.YtacgemibaojbaaaTak
import Derived.Laws.ResultCell
namespace Go.Proofs.Ytacgemibaojbaaa
open Go Go.RowKit Go.Maps

theorem below_al (w : World) (o : Obj) : Below w.heap.size w (w.alloc o) := (Below.refl _ w).alloc (Nat.le_refl _) o
/-- nothing that was there has turned -/
def Bel (w W : World) : Prop := Below w.heap.size w W
abbrev S3 := Int × Int × Bool
abbrev L3 := Int × Int × Int
def rS (x : S3) : List Value := [.int .i64 x.1, .int .i64 x.2.1, .bool x.2.2]
def rL (x : L3) : List Value := [.int .i64 x.1, .int .i64 x.2.1, .int .i64 x.2.2]
def rP (x : Int × Int) : List Value := [.int .i64 x.1, .int .i64 x.2]
structure Rs where
  sp : List S3
  lv : List L3
  bad : List Int
  worn : Pl
/-- four slices are the answer's state m -/
structure RAt (w : World) (B : Nat) (v0 v1 v2 v3 : Value) (m : Rs) : Prop where
  sp : Ow w B 87 3 v0 (m.sp.map rS)
  lv : Ow w B 90 3 v1 (m.lv.map rL)
  bad : Ow w B 3 1 v2 (rI m.bad)
  worn : Ow w B 122 2 v3 (m.worn.map rP)
theorem RAt.call {w w' : World} {B v0 v1 v2 v3 m} (h : RAt w B v0 v1 v2 v3 m) (b : Below w.heap.size w w') : RAt w' B v0 v1 v2 v3 m := ⟨h.sp.call b, h.lv.call b, h.bad.call b, h.worn.call b⟩
theorem RAt.alloc {w : World} {B v0 v1 v2 v3 m} (h : RAt w B v0 v1 v2 v3 m) (o : Obj) : RAt (w.alloc o) B v0 v1 v2 v3 m := ⟨h.sp.alloc o, h.lv.alloc o, h.bad.alloc o, h.worn.alloc o⟩
/-- the struct's own block -/
def Box4 (w : World) (g : Nat) (v0 v1 v2 v3 : Value) : Prop := w.heap[g]? = some (.cells #[v0, v1, v2, v3] 33 (0, 0))
theorem Box4.lt {w g v0 v1 v2 v3} (h : Box4 w g v0 v1 v2 v3) : g < w.heap.size := (Array.getElem?_eq_some_iff.1 h).1
theorem Box4.call {w w' : World} {g v0 v1 v2 v3} (h : Box4 w g v0 v1 v2 v3) (b : Below w.heap.size w w') : Box4 w' g v0 v1 v2 v3 := (b.block g h.lt).trans h
theorem Box4.alloc {w : World} {g v0 v1 v2 v3} (h : Box4 w g v0 v1 v2 v3) (o : Obj) : Box4 (w.alloc o) g v0 v1 v2 v3 := (Below.heap_alloc w o g h.lt).trans h
theorem Box4.cells {w g v0 v1 v2 v3} (h : Box4 w g v0 v1 v2 v3) : w.cell? ⟨g, 0, none⟩ = some v0 ∧ w.cell? ⟨g, 1, none⟩ = some v1 ∧ w.cell? ⟨g, 2, none⟩ = some v2 ∧ w.cell? ⟨g, 3, none⟩ = some v3 := by
  refine ⟨?_, ?_, ?_, ?_⟩ <;> (rw [cell_of_row w g _ _ 33 _ h]; rfl)
theorem Box4.fz {w g v0 v1 v2 v3} (h : Box4 w g v0 v1 v2 v3) (j : Nat) : w.frozen? ⟨g, j, none⟩ = false := frozen_of_row w g j _ 33 h
theorem Box4.fresh (w : World) (v0 v1 v2 v3 : Value) : Box4 (w.alloc (.cells #[v0, v1, v2, v3] 33)) w.heap.size v0 v1 v2 v3 := heap_alloc_new _ _
theorem Ow.at3 {w : World} {B e a n cap} {l : List L3} (h : Ow w B e 3 (.slice a n cap) (l.map rL)) {j : Nat} (hj : j < l.length) : ∃ g, a = some ⟨g, 0, none⟩ ∧ B ≤ g ∧ g < w.heap.size ∧ w.cell? ⟨g, j * 3, none⟩ = some (.int .i64 (l.getD j (0, 0, 0)).1) ∧ w.cell? ⟨g, j * 3 + 1, none⟩ = some (.int .i64 (l.getD j (0, 0, 0)).2.1) ∧ w.cell? ⟨g, j * 3 + 2, none⟩ = some (.int .i64 (l.getD j (0, 0, 0)).2.2) := by
  obtain ⟨g, rfl, hB, hl, hc⟩ := h.at (j := j) (by rw [List.length_map]; exact hj)
  have e : (l.map rL).getD j [] = rL (l.getD j (0, 0, 0)) := by simp [List.getD_eq_getElem?_getD, hj]
  rw [e] at hc
  exact ⟨g, rfl, hB, hl, hc 0 (by omega), hc 1 (by omega), hc 2 (by omega)⟩
theorem Ow.at3s {w : World} {B e a n cap} {l : List S3} (h : Ow w B e 3 (.slice a n cap) (l.map rS)) {j : Nat} (hj : j < l.length) : ∃ g, a = some ⟨g, 0, none⟩ ∧ B ≤ g ∧ g < w.heap.size ∧ w.cell? ⟨g, j * 3, none⟩ = some (.int .i64 (l.getD j (0, 0, false)).1) ∧ w.cell? ⟨g, j * 3 + 1, none⟩ = some (.int .i64 (l.getD j (0, 0, false)).2.1) ∧ w.cell? ⟨g, j * 3 + 2, none⟩ = some (.bool (l.getD j (0, 0, false)).2.2) := by
  obtain ⟨g, rfl, hB, hl, hc⟩ := h.at (j := j) (by rw [List.length_map]; exact hj)
  have e : (l.map rS).getD j [] = rS (l.getD j (0, 0, false)) := by simp [List.getD_eq_getElem?_getD, hj]
  rw [e] at hc
  exact ⟨g, rfl, hB, hl, hc 0 (by omega), hc 1 (by omega), hc 2 (by omega)⟩
theorem Ow.at2 {w : World} {B e a n cap} {l : Pl} (h : Ow w B e 2 (.slice a n cap) (l.map rP)) {j : Nat} (hj : j < l.length) : ∃ g, a = some ⟨g, 0, none⟩ ∧ B ≤ g ∧ g < w.heap.size ∧ w.cell? ⟨g, j * 2, none⟩ = some (.int .i64 (l.getD j (0, 0)).1) ∧ w.cell? ⟨g, j * 2 + 1, none⟩ = some (.int .i64 (l.getD j (0, 0)).2) := by
  obtain ⟨g, rfl, hB, hl, hc⟩ := h.at (j := j) (by rw [List.length_map]; exact hj)
  have e : (l.map rP).getD j [] = rP (l.getD j (0, 0)) := by simp [List.getD_eq_getElem?_getD, hj]
  rw [e] at hc
  exact ⟨g, rfl, hB, hl, hc 0 (by omega), hc 1 (by omega)⟩
theorem dropC {α : Type} (l : List α) (j : Nat) (d : α) (h : j < l.length) : l.drop j = l.getD j d :: l.drop (j + 1) := by
  rw [List.drop_eq_getElem_cons h]
  simp [List.getD_eq_getElem?_getD, h]
def fndGo (id : Int) : List S3 → Nat → Int
  | [], _ => -1
  | y :: r, k => if y.1 = id then (k : Int) else fndGo id r (k + 1)
set_option maxRecDepth 20000 in
theorem rfind_any {w : World} {B v0 v1 v2 v3 m} (h : RAt w B v0 v1 v2 v3 m) (hn : m.sp.length < 1000000) (id : Int) : Calls Try.prog 50 #[.agg #[v0, v1, v2, v3], .int .i64 id] w fun e w' => e = .returned (.int .i64 (fndGo id m.sp 0)) ∧ Below w.heap.size w w' := by
  obtain ⟨a0, c0, rfl⟩ := h.sp.form
  rw [List.length_map] at h ⊢
  generalize hR : fndGo id m.sp 0 = R0
  have H := Hid.mk h
  clear h
  go_enter Try.func50, Try.ntmps50
  go_upto_region 2 with fail
  have x0 := Box4.fresh w (.slice a0 m.sp.length c0) v1 v2 v3
  have h1 := H.out.sp.alloc (.cells #[.slice a0 m.sp.length c0, v1, v2, v3] 33)
  have b1 : Bel w _ := below_al w (.cells #[.slice a0 m.sp.length c0, v1, v2, v3] 33)
  obtain ⟨k0, k1, k2, k3⟩ := x0.cells
  generalize w.alloc (.cells #[.slice a0 m.sp.length c0, v1, v2, v3] 33) = W at *
  have H1 := Hid.mk (And.intro h1 b1)
  clear h1 b1 x0
  generalize w.heap.size = G at *
  generalize hl : m.sp = l at *
  clear hl
  go_loopw [5] (fun i wr => ∃ k : Nat, k ≤ l.length ∧ i = .int .i64 k ∧ fndGo id (l.drop k) k = R0 ∧ W = wr) (fun i _ => l.length - (intOf i).toNat)
  case atStart => exact ⟨0, Nat.zero_le _, rfl, by simpa using hR, rfl⟩
  case round =>
    obtain ⟨k, hk, rfl, hgo, rfl⟩ := hrel
    by_cases hkn : k < l.length
    · obtain ⟨g, rfl, hgB, hgl, d0, d1, d2⟩ := H1.out.1.at3s hkn
      rw [dropC l k (0, 0, false) hkn, fndGo] at hgo
      generalize l.getD k (0, 0, false) = y at *
      by_cases e : y.1 = id
      · rw [if_pos e] at hgo
        subst hgo
        rw [e] at d0
        go_wp2_with fail
        go_ret
        exact ⟨rfl, H1.out.2⟩
      · rw [if_neg e] at hgo
        have HG := Hid.mk hgo
        clear hgo
        have eb : (y.1 == id) = false := by simp [e]
        clear e
        generalize y.1 = y1 at *
        go_wp2_with fail
        exact ⟨⟨k + 1, by omega, by go_num, HG.out, by first | rfl | trivial⟩, by simp [intOf]; omega⟩
    · have hk2 : k = l.length := by omega
      rw [hk2, List.drop_length, fndGo] at hgo
      subst hgo
      subst hk2
      go_wp2_with fail
      go_ret
      exact ⟨rfl, H1.out.2⟩
/-! counts -/
def cL (a : Int) (l : List L3) : Nat := (l.filter fun y => decide (y.2.2 = a)).length
theorem cL_snoc (a : Int) (l : List L3) (k : Nat) (h : k < l.length) : cL a (l.take (k + 1)) = cL a (l.take k) + (if (l.getD k (0, 0, 0)).2.2 = a then 1 else 0) := by
  unfold cL
  rw [take_snoc l k (0, 0, 0) h, List.filter_append, List.length_append]
  congr 1
  rw [List.filter_cons]
  split <;> simp_all
theorem cL_le (a : Int) (l : List L3) (k : Nat) : cL a (l.take k) ≤ k := Nat.le_trans (List.length_filter_le _ _) (by rw [List.length_take]; omega)
set_option maxRecDepth 20000 in
theorem rrefs_any {w : World} {B v0 v1 v2 v3 m} (h : RAt w B v0 v1 v2 v3 m) (hn : m.lv.length < 1000000) (id : Int) : Calls Try.prog 52 #[.agg #[v0, v1, v2, v3], .int .i64 id] w fun e w' => e = .returned (.int .i64 (cL id m.lv : Int)) ∧ Below w.heap.size w w' := by
  obtain ⟨a1, c1, rfl⟩ := h.lv.form
  rw [List.length_map] at h ⊢
  generalize hR : cL id m.lv = R0
  have H := Hid.mk h
  clear h
  go_enter Try.func52, Try.ntmps52
  go_upto_region 3 with fail
  have x0 := Box4.fresh w v0 (.slice a1 m.lv.length c1) v2 v3
  have h1 := H.out.lv.alloc (.cells #[v0, .slice a1 m.lv.length c1, v2, v3] 33)
  have b1 : Bel w _ := below_al w (.cells #[v0, .slice a1 m.lv.length c1, v2, v3] 33)
  obtain ⟨k0, k1, k2, k3⟩ := x0.cells
  generalize w.alloc (.cells #[v0, .slice a1 m.lv.length c1, v2, v3] 33) = W at *
  have H1 := Hid.mk (And.intro h1 b1)
  clear h1 b1 x0
  generalize w.heap.size = G at *
  generalize m.lv = l at *
  go_loopw [5, 6] (fun n i wr => ∃ k : Nat, k ≤ l.length ∧ i = .int .i64 k ∧ n = .int .i64 (cL id (l.take k) : Int) ∧ W = wr) (fun _ i _ => l.length - (intOf i).toNat)
  case atStart => exact ⟨0, Nat.zero_le _, rfl, rfl, rfl⟩
  case round =>
    obtain ⟨k, hk, rfl, rfl, rfl⟩ := hrel
    by_cases hkn : k < l.length
    · obtain ⟨g, rfl, hgB, hgl, d0, d1, d2⟩ := H1.out.1.at3 hkn
      have hs := cL_snoc id l k hkn
      have hle := cL_le id l k
      generalize (l.getD k (0, 0, 0)).1 = y1 at *
      generalize (l.getD k (0, 0, 0)).2.1 = y2 at *
      generalize (l.getD k (0, 0, 0)).2.2 = y3 at *
      generalize cL id (l.take k) = n0 at *
      by_cases e : y3 = id
      · rw [if_pos e] at hs
        subst e
        have HG := Hid.mk hs
        clear hs
        go_wp2_with fail
        exact ⟨⟨k + 1, by omega, by go_num, by rw [HG.out]; go_num, by first | rfl | trivial⟩, by simp [intOf]; omega⟩
      · rw [if_neg e] at hs
        have HG := Hid.mk hs
        have eb : (y3 == id) = false := by simp [e]
        clear hs e
        go_wp2_with fail
        exact ⟨⟨k + 1, by omega, by go_num, by rw [HG.out]; rfl, by first | rfl | trivial⟩, by simp [intOf]; omega⟩
    · have hk2 : k = l.length := by omega
      subst hk2
      rw [List.take_length, hR]
      go_wp2_with fail
      go_ret
      exact ⟨rfl, H1.out.2⟩
def pL (a : Int) (l : List L3) : Nat := (l.filter fun y => decide (y.1 = a)).length
theorem pL_snoc (a : Int) (l : List L3) (k : Nat) (h : k < l.length) : pL a (l.take (k + 1)) = pL a (l.take k) + (if (l.getD k (0, 0, 0)).1 = a then 1 else 0) := by
  unfold pL
  rw [take_snoc l k (0, 0, 0) h, List.filter_append, List.length_append]
  congr 1
  rw [List.filter_cons]
  split <;> simp_all
theorem pL_le (a : Int) (l : List L3) (k : Nat) : pL a (l.take k) ≤ k := Nat.le_trans (List.length_filter_le _ _) (by rw [List.length_take]; omega)
set_option maxRecDepth 20000 in
theorem rpages_any {w : World} {B v0 v1 v2 v3 m} (h : RAt w B v0 v1 v2 v3 m) (hn : m.lv.length < 1000000) (id : Int) : Calls Try.prog 36 #[.agg #[v0, v1, v2, v3], .int .i64 id] w fun e w' => e = .returned (.int .i64 (pL id m.lv : Int)) ∧ Below w.heap.size w w' := by
  obtain ⟨a1, c1, rfl⟩ := h.lv.form
  rw [List.length_map] at h ⊢
  generalize hR : pL id m.lv = R0
  have H := Hid.mk h
  clear h
  go_enter Try.func36, Try.ntmps36
  go_upto_region 3 with fail
  have x0 := Box4.fresh w v0 (.slice a1 m.lv.length c1) v2 v3
  have h1 := H.out.lv.alloc (.cells #[v0, .slice a1 m.lv.length c1, v2, v3] 33)
  have b1 : Bel w _ := below_al w (.cells #[v0, .slice a1 m.lv.length c1, v2, v3] 33)
  obtain ⟨k0, k1, k2, k3⟩ := x0.cells
  generalize w.alloc (.cells #[v0, .slice a1 m.lv.length c1, v2, v3] 33) = W at *
  have H1 := Hid.mk (And.intro h1 b1)
  clear h1 b1 x0
  generalize w.heap.size = G at *
  generalize m.lv = l at *
  go_loopw [5, 6] (fun n i wr => ∃ k : Nat, k ≤ l.length ∧ i = .int .i64 k ∧ n = .int .i64 (pL id (l.take k) : Int) ∧ W = wr) (fun _ i _ => l.length - (intOf i).toNat)
  case atStart => exact ⟨0, Nat.zero_le _, rfl, rfl, rfl⟩
  case round =>
    obtain ⟨k, hk, rfl, rfl, rfl⟩ := hrel
    by_cases hkn : k < l.length
    · obtain ⟨g, rfl, hgB, hgl, d0, d1, d2⟩ := H1.out.1.at3 hkn
      have hs := pL_snoc id l k hkn
      have hle := pL_le id l k
      generalize (l.getD k (0, 0, 0)).1 = y1 at *
      generalize (l.getD k (0, 0, 0)).2.1 = y2 at *
      generalize (l.getD k (0, 0, 0)).2.2 = y3 at *
      generalize pL id (l.take k) = n0 at *
      by_cases e : y1 = id
      · rw [if_pos e] at hs
        subst e
        have HG := Hid.mk hs
        clear hs
        go_wp2_with fail
        exact ⟨⟨k + 1, by omega, by go_num, by rw [HG.out]; go_num, by first | rfl | trivial⟩, by simp [intOf]; omega⟩
      · rw [if_neg e] at hs
        have HG := Hid.mk hs
        have eb : (y1 == id) = false := by simp [e]
        clear hs e
        go_wp2_with fail
        exact ⟨⟨k + 1, by omega, by go_num, by rw [HG.out]; rfl, by first | rfl | trivial⟩, by simp [intOf]; omega⟩
    · have hk2 : k = l.length := by omega
      subst hk2
      rw [List.take_length, hR]
      go_wp2_with fail
      go_ret
      exact ⟨rfl, H1.out.2⟩
def gL (id page : Int) : List L3 → Option Int
  | [] => none
  | y :: r => if y.1 = id ∧ y.2.1 = page then some y.2.2 else gL id page r
set_option maxRecDepth 20000 in
theorem rget_any {w : World} {B v0 v1 v2 v3 m} (h : RAt w B v0 v1 v2 v3 m) (hn : m.lv.length < 1000000) (id page : Int) : Calls Try.prog 51 #[.agg #[v0, v1, v2, v3], .int .i64 id, .int .i64 page] w fun e w' => e = .returned (.tuple #[.int .i64 ((gL id page m.lv).getD 0), .bool (gL id page m.lv).isSome]) ∧ Below w.heap.size w w' := by
  obtain ⟨a1, c1, rfl⟩ := h.lv.form
  rw [List.length_map] at h ⊢
  generalize hR : gL id page m.lv = R0
  have H := Hid.mk h
  clear h
  go_enter Try.func51, Try.ntmps51
  go_upto_region 2 with fail
  have x0 := Box4.fresh w v0 (.slice a1 m.lv.length c1) v2 v3
  have h1 := H.out.lv.alloc (.cells #[v0, .slice a1 m.lv.length c1, v2, v3] 33)
  have b1 : Bel w _ := below_al w (.cells #[v0, .slice a1 m.lv.length c1, v2, v3] 33)
  generalize w.alloc (.cells #[v0, .slice a1 m.lv.length c1, v2, v3] 33) = W at *
  have H1 := Hid.mk (And.intro x0 (And.intro h1 b1))
  clear h1 b1 x0
  generalize w.heap.size = G at *
  generalize m.lv = l at *
  go_loopw [8, 9] (fun i _ wr => ∃ k : Nat, k ≤ l.length ∧ i = .int .i64 k ∧ gL id page (l.drop k) = R0 ∧ Box4 wr G v0 (.slice a1 l.length c1) v2 v3 ∧ Ow wr B 90 3 (.slice a1 l.length c1) (l.map rL) ∧ Bel w wr) (fun i _ _ => l.length - (intOf i).toNat)
  case atStart => exact ⟨0, Nat.zero_le _, rfl, by simpa using hR, H1.out⟩
  case round =>
    obtain ⟨k, hk, rfl, hgo, hx, ho, hb⟩ := hrel
    obtain ⟨k0, k1, k2, k3⟩ := hx.cells
    have hxl := hx.lt
    by_cases hkn : k < l.length
    · obtain ⟨g, rfl, hgB, hgl, d0, d1, d2⟩ := ho.at3 hkn
      rw [dropC l k (0, 0, 0) hkn, gL] at hgo
      have HS := Hid.mk (And.intro hx (And.intro ho hb))
      clear hx ho hb
      generalize l.getD k (0, 0, 0) = y at *
      obtain ⟨y1, y2, y3⟩ := y
      simp only at d0 d1 d2 hgo
      have N1 : Hid (∀ o, Box4 (wr.alloc o) G v0 (.slice (some ⟨g, 0, none⟩) l.length c1) v2 v3 ∧ Ow (wr.alloc o) B 90 3 (.slice (some ⟨g, 0, none⟩) l.length c1) (l.map rL) ∧ Bel w (wr.alloc o)) := fun o => ⟨HS.out.1.alloc o, HS.out.2.1.alloc o, Below.alloc HS.out.2.2 (Below.size HS.out.2.2) o⟩
      by_cases e1 : y1 = id
      · by_cases e2 : y2 = page
        · rw [if_pos ⟨e1, e2⟩] at hgo
          subst hgo
          subst e1
          subst e2
          go_wp2_with fail
          go_ret2
          exact ⟨rfl, (N1.out _).2.2⟩
        · rw [if_neg (fun q => e2 q.2)] at hgo
          have HG := Hid.mk hgo
          have eb : (y2 == page) = false := by simp [e2]
          clear hgo e2
          subst e1
          go_wp2_with fail
          exact ⟨⟨k + 1, by omega, by go_num, HG.out, N1.out _⟩, by simp [intOf]; omega⟩
      · rw [if_neg (fun q => e1 q.1)] at hgo
        have HG := Hid.mk hgo
        have eb : (y1 == id) = false := by simp [e1]
        clear hgo e1
        go_wp2_with fail
        exact ⟨⟨k + 1, by omega, by go_num, HG.out, N1.out _⟩, by simp [intOf]; omega⟩
    · have hk2 : k = l.length := by omega
      rw [hk2, List.drop_length, gL] at hgo
      subst hgo
      subst hk2
      have HS := Hid.mk hb
      clear hb hx ho
      go_wp2_with fail
      go_ret2
      exact ⟨rfl, HS.out⟩
end Go.Proofs.Ytacgemibaojbaaa
