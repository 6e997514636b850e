/-
  The answer's Live: at how many places pages stand. No condition.
-/
import Derived.Test.YtacgemibaojbaaaAbs
import Derived.Test.YtacgemibaojbaaaTak
namespace Go.Proofs.Ytacgemibaojbaaa
open Go Go.RowKit Go.Maps

def at3 (l : List L3) (k : Nat) : Int := (l.getD k (0, 0, 0)).2.2
/-- no earlier page stands there -/
def fstL (l : List L3) (j k : Nat) : Bool := (l.take j).all fun y => decide (y.2.2 ≠ at3 l k)
def nL (l : List L3) : Nat → Nat
  | 0 => 0
  | k + 1 => nL l k + if fstL l k k = true then 1 else 0
theorem nL_le (l : List L3) : ∀ k, nL l k ≤ k
  | 0 => Nat.le_refl 0
  | k + 1 => by
    have := nL_le l k
    rw [nL]
    split <;> omega
theorem fstL_snoc (l : List L3) (j k : Nat) (h : j < l.length) : fstL l (j + 1) k = (fstL l j k && decide (at3 l j ≠ at3 l k)) := by
  unfold fstL
  rw [take_snoc l j (0, 0, 0) h, List.all_append]
  simp [at3]
/-- what Live's loops hold -/
structure LvS (w : World) (B G : Nat) (v0 v1 v2 v3 : Value) (l : List L3) (wr : World) : Prop where
  box : Box4 wr G v0 v1 v2 v3
  lv : Ow wr B 90 3 v1 (l.map rL)
  bel : Bel w wr
theorem LvS.dr {w B G v0 v1 v2 v3 l wr} (h : LvS w B G v0 v1 v2 v3 l wr) (n : Nat) : LvS w B G v0 v1 v2 v3 l (wr.drewN n) := ⟨h.box, ⟨h.lv.own, h.lv.len, h.lv.one⟩, below_drewN h.bel⟩
set_option maxRecDepth 20000 in
theorem rlive_any {w : World} {B v0 v1 v2 v3 m} (h : RAt w B v0 v1 v2 v3 m) (hn : m.lv.length < 1000000) : Calls Try.prog 47 #[.agg #[v0, v1, v2, v3]] w fun e w' => e = .returned (.int .i64 (nL m.lv m.lv.length : Int)) ∧ Below w.heap.size w w' := by
  obtain ⟨a1, c1, rfl⟩ := h.lv.form
  rw [List.length_map] at h ⊢
  generalize hR : nL m.lv m.lv.length = R0
  have H := Hid.mk h
  clear h
  go_enter Try.func47, Try.ntmps47
  go_upto_region 3 with fail
  have x0 := Box4.fresh w v0 (.slice a1 m.lv.length c1) v2 v3
  have h1 := H.out.lv.alloc (.cells #[v0, .slice a1 m.lv.length c1, v2, v3] 33)
  have b1 : Bel w _ := below_al w (.cells #[v0, .slice a1 m.lv.length c1, v2, v3] 33)
  generalize w.alloc (.cells #[v0, .slice a1 m.lv.length c1, v2, v3] 33) = W at *
  have H1 : Hid (LvS w B w.heap.size v0 (.slice a1 m.lv.length c1) v2 v3 m.lv W) := ⟨x0, h1, b1⟩
  clear h1 b1 x0
  generalize hG : w.heap.size = G at *
  replace hG := Hid.mk hG
  generalize m.lv = l at *
  go_loopw [3, 4] (fun n i wr => ∃ k : Nat, k ≤ l.length ∧ i = .int .i64 k ∧ n = .int .i64 (nL l k : Int) ∧ LvS w B G v0 (.slice a1 l.length c1) v2 v3 l wr) (fun _ i _ => l.length - (intOf i).toNat)
  case atStart => exact ⟨0, Nat.zero_le _, rfl, rfl, H1.out⟩
  case round =>
    clear H1
    obtain ⟨k, hk, rfl, rfl, hs⟩ := hrel
    obtain ⟨k0, k1, k2, k3⟩ := hs.box.cells
    by_cases hkn : k < l.length
    · have hnn : nL l (k + 1) = nL l k + if fstL l k k = true then 1 else 0 := rfl
      have hle := nL_le l k
      generalize nL l k = n0 at *
      have HS := Hid.mk (And.intro hs hnn)
      clear hs hnn
      go_upto_region 7 with fail
      clear k0 k1 k2 k3
      go_loopw [5, 6] (fun f i wr => ∃ j : Nat, j ≤ k ∧ i = .int .i64 j ∧ f = .bool (fstL l j k) ∧ LvS w B G v0 (.slice a1 l.length c1) v2 v3 l wr) (fun _ i _ => k - (intOf i).toNat)
      case atStart => exact ⟨0, Nat.zero_le _, rfl, rfl, HS.out.1⟩
      case round =>
        obtain ⟨j, hj, rfl, rfl, hs⟩ := hrel
        by_cases hjk : j < k
        · have hsn := fstL_snoc l j k (by omega)
          obtain ⟨g, ea, hgB, hgl, d0, d1, d2⟩ := hs.lv.at3 hkn
          obtain ⟨g', ea', hgB', hgl', p0, p1, p2⟩ := hs.lv.at3 (show j < l.length by omega)
          rw [ea] at ea'
          cases ea'
          subst ea
          obtain ⟨k0, k1, k2, k3⟩ := hs.box.cells
          rw [show (l.getD k (0, 0, 0)).2.2 = at3 l k from rfl] at d2
          rw [show (l.getD j (0, 0, 0)).2.2 = at3 l j from rfl] at p2
          generalize at3 l k = yk at *
          generalize at3 l j = yj at *
          clear d0 d1 p0 p1
          have hjl : j < l.length := by omega
          generalize hfb : fstL l j k = b at *
          replace hfb := Hid.mk hfb
          cases b with
          | true =>
            by_cases e : yj = yk
            · subst e
              have H2 := Hid.mk (And.intro hs hsn)
              clear hs hsn
              go_upto_region 9 with fail
              go_quiet (fail)
              go_wp2_with fail
              exact ⟨⟨j + 1, by omega, by go_num, by rw [H2.out.2]; simp, H2.out.1.dr _⟩, by simp [intOf]; omega⟩
            · have eb : (yj != yk) = true := by simp [e]
              have hsn2 : fstL l (j + 1) k = true := by rw [hsn]; simp [e]
              have H2 := Hid.mk (And.intro hs hsn2)
              clear hs hsn hsn2 e
              go_upto_region 9 with fail
              go_quiet (fail)
              go_wp2_with fail
              exact ⟨⟨j + 1, by omega, by go_num, by rw [H2.out.2], H2.out.1.dr _⟩, by simp [intOf]; omega⟩
          | false =>
            have H2 := Hid.mk (And.intro hs hsn)
            clear hs hsn
            go_upto_region 9 with fail
            go_quiet (fail)
            go_wp2_with fail
            exact ⟨⟨j + 1, by omega, by go_num, by rw [H2.out.2]; simp, H2.out.1.dr _⟩, by simp [intOf]; omega⟩
        · have hj2 : j = k := by omega
          subst hj2
          have hb := HS.out.2
          generalize fstL l j j = b at *
          have H2 := Hid.mk (And.intro hs hb)
          clear hs hb
          cases b with
          | true =>
            go_wp2_with fail
            exact ⟨⟨j + 1, by omega, by go_num, by rw [H2.out.2]; go_num, H2.out.1⟩, by simp [intOf]; omega⟩
          | false =>
            go_wp2_with fail
            exact ⟨⟨j + 1, by omega, by go_num, by rw [H2.out.2]; rfl, H2.out.1⟩, by simp [intOf]; omega⟩
    · have hk2 : k = l.length := by omega
      subst hk2
      rw [hR]
      have H2 := Hid.mk hs
      clear hs
      go_wp2_with fail
      go_ret
      exact ⟨rfl, by have := hG.out; subst this; exact H2.out.bel⟩
end Go.Proofs.Ytacgemibaojbaaa
