/-
  Spaces: all spaces, by their numbers. No condition.
-/
import Derived.Test.YtccelipljbkkgaaSpc
namespace Go.Proofs.Ytccelipljbkkgaa
open Go Go.RowKit Go.Maps

def svR (x : Asp) : List Value := (svC x.id x.q (x.ps.length : Int) x.sl).toList
theorem take_snoc {α : Type} (l : List α) (j : Nat) (d : α) (h : j < l.length) : l.take (j + 1) = l.take j ++ [l.getD j d] := by
  rw [List.take_succ_eq_append_getElem h]
  simp [List.getD_eq_getElem?_getD, h]
structure SpsS (w : World) (s : St) (vi v : Value) (k : Nat) (wr : World) : Prop where
  ids : Ow wr w.heap.size 3 1 vi (rI ((ab s).sp.map (·.id)))
  out : Ow wr w.heap.size 83 4 v (((ab s).sp.take k).map svR)
  st : StAt wr s
  below : Below w.heap.size w wr
  apart : ∀ g, vi.ownBlock = some g → v.ownBlock ≠ some g
theorem gr3 {wr w2 w3 : World} {o : Obj} {u : Option Nat} (b : Below wr.heap.size wr w2) (g : (w2.alloc o).grownBy w3 u) : wr.grownBy w3 u := by
  have g1 := World.grownBy_alloc w2 o u
  exact ⟨(g.os.trans g1.os).trans b.os, (g.tape.trans g1.tape).trans b.tape, (g.output.trans g1.output).trans b.output, Nat.le_trans (Nat.le_trans b.size g1.size) g.size, fun k hk hne => ((g.block k (Nat.lt_of_lt_of_le (Nat.lt_of_lt_of_le hk b.size) g1.size) hne).trans (g1.block k (Nat.lt_of_lt_of_le hk b.size) hne)).trans (b.block k hk)⟩
theorem SpsS.next {w : World} {s : St} {vi v v3 : Value} {k : Nat} {wr w3 : World} (h : SpsS w s vi v k wr) (hs : StAt w s) (gr : wr.grownBy w3 v.ownBlock) (o3 : Ow w3 w.heap.size 83 4 v3 (((ab s).sp.take (k + 1)).map svR)) (p3 : v3.ownBlock = v.ownBlock ∨ ∃ g, v3.ownBlock = some g ∧ wr.heap.size ≤ g) : SpsS w s vi v3 (k + 1) w3 := by
  refine ⟨h.ids.kept gr ?_, o3, h.st.frame fun i hi => gr.block i (h.st.foot_lt i hi) (fun e => ?_), h.below.grown gr h.below.size (fun j hj => (h.out.lt j hj).1), fun g hg => ?_⟩
  · cases e : vi.ownBlock with
    | none => exact .inl rfl
    | some g => exact .inr (fun e2 => h.apart g e e2.symm)
  · have := (h.out.lt i e.symm).1
    have := hs.foot_lt i hi
    omega
  · rcases p3 with p | ⟨g', p, q⟩
    · rw [p]; exact h.apart g hg
    · rw [p]
      intro e
      cases e
      have := (h.ids.lt g hg).2
      omega
theorem spm_ids (l : List Sp) : (spm l).map (·.1) = (l.map Sp.a).map (·.id) := by
  unfold spm
  rw [List.map_map, List.map_map]
  rfl
set_option maxRecDepth 20000 in
theorem spaces_any {w s} (h : Whole w s) : Calls Try.prog 49 #[.pointer (some ⟨s.p, 0, none⟩)] w fun e w' => ∃ v, e = .returned v ∧ Ow w' w.heap.size 83 4 v ((ab s).sp.map svR) ∧ Below w.heap.size w w' := by
  have c0 := h.at'.c0
  have hl15 := h.inv.len
  have hlm : (spm s.sp).length = s.sp.length := by simp [spm]
  have hri := riseP h.at'.hS (by rw [hlm]; simp only [ab, List.length_map] at hl15; omega)
  rw [hlm, spm_ids] at hri
  have H := Hid.mk h
  have HR := Hid.mk hri
  clear h hri hlm
  go_enter Try.func49, Try.ntmps49
  go_upto_region 5 with (first | (go_at_call 68; refine HR.out.mono ?_; rintro e w1 ⟨ia, ic, rfl, i1, b1⟩))
  have S0 : SpsS w s (.slice ia s.sp.length ic) (.slice none 0 0) 0 w1 := ⟨i1, Ow.nil _ _ _ _, H.out.at'.call b1, b1, fun _ _ h => by cases h⟩
  replace S0 := Hid.mk S0
  have hl2 : s.sp.length ≤ 15 := by simpa [ab] using hl15
  clear i1 b1 c0 hl15
  generalize hn : s.sp.length = n at *
  replace hn := Hid.mk hn
  go_loopw [3, 16] (fun v i wr => ∃ k : Nat, k ≤ n ∧ i = .int .i64 k ∧ SpsS w s (.slice ia n ic) v k wr) (fun _ i _ => n - (intOf i).toNat)
  case atStart => exact ⟨0, Nat.zero_le _, rfl, S0.out⟩
  case round =>
    clear S0
    obtain ⟨k, hk, rfl, hs⟩ := hrel
    by_cases hkn : k < n
    · have hkl : k < s.sp.length := by have := hn.out; omega
      obtain ⟨g, rfl, hgB, hgl, cg⟩ := hs.ids.intAt (j := k) (by simp only [ab, List.length_map]; exact hkl)
      have hx := List.getElem_mem hkl
      generalize hxe : s.sp[k] = x at hx
      have hxv : (List.map (fun x => x.id) (ab s).sp).getD k 0 = x.id := by
        simp only [ab, List.map_map]
        rw [List.getD_eq_getElem?_getD, List.getElem?_map, List.getElem?_eq_getElem hkl, hxe]; rfl
      rw [hxv] at cg
      have hgx : gsp s.sp x.id = some x := by
        have h1 : (gsp s.sp x.id).isSome = true := by unfold gsp; rw [List.find?_isSome]; exact ⟨x, hx, by simp⟩
        obtain ⟨y, hy⟩ := Option.isSome_iff_exists.1 h1
        rw [hy, up_one hs.st.hS.up (gsp_some hy).1 hx (gsp_some hy).2]
      have hsp := space_some hs.st (k15 (H.out.inv.ids _ (ab_mem hx))) hgx
      have htk : ((ab s).sp.take (k + 1)).map svR = ((ab s).sp.take k).map svR ++ [(svC x.id x.q (x.ps.length : Int) x.sl).toList] := by
        rw [take_snoc (ab s).sp k x.a (by simp only [ab, List.length_map]; exact hkl), List.map_append]
        simp only [ab, List.getD_eq_getElem?_getD, List.getElem?_map, List.getElem?_eq_getElem hkl, hxe]
        rfl
      have hrl : (((ab s).sp.take k).map svR).length < 1000000 := by rw [List.length_map, List.length_take]; omega
      generalize (x.ps.length : Int) = m at *
      have HP := Hid.mk hsp
      have HS := Hid.mk (And.intro hs (And.intro htk hrl))
      clear hsp hs htk hrl hgx hxv hxe hkl
      go_wp2_with (first
        | (go_at_call 40; refine HP.out.mono ?_; rintro e w2 ⟨rfl, b2⟩; unfold sv svC)
        | (at_builtin; refine wp_app ei83 rfl _ _ rfl ((HS.out.1.out.call b2).alloc _) (Nat.le_trans (Nat.le_trans HS.out.1.below.size b2.size) (by rw [size_alloc]; omega)) (svC x.id x.q m x.sl) rfl (by first | rfl | (simp only [size_alloc]; rfl)) rfl (by simp [svC, Value.oneCell']) HS.out.2.2 ?_; intro v3 w3 o3 g3 p3))
      rw [← HS.out.2.1] at o3
      exact ⟨⟨k + 1, by omega, by go_num, HS.out.1.next H.out.at' (gr3 b2 g3) o3 (p3.imp id (fun ⟨g, q1, q2⟩ => ⟨g, q1, Nat.le_trans b2.size (Nat.le_trans (by rw [size_alloc]; omega) q2)⟩))⟩, by simp [intOf]; omega⟩
    · have hk2 : k = n := by omega
      subst hk2
      have HS := Hid.mk hs
      clear hs
      go_wp2_with fail
      go_ret
      have o5 := HS.out.out
      rw [List.take_of_length_le (by simp only [ab, List.length_map]; have := hn.out; omega)] at o5
      exact ⟨_, rfl, o5, HS.out.below⟩
end Go.Proofs.Ytccelipljbkkgaa
