/-
  A space's dump: the records that make it of nothing. No condition.
-/
import Derived.Test.YtafeclgghgipcaaRecs
import Derived.Test.YtafeclgghgipcaaSps
import Derived.Test.YtafeclgghgipcaaRfa
namespace Go.Proofs.Ytafeclgghgipcaa
open Go Go.RowKit Go.Maps

def cR (r : R6) : Array Value := #[.int .i64 r.1, .int .i64 r.2.1, .int .i64 r.2.2.1, .int .i64 r.2.2.2.1, .int .i64 r.2.2.2.2.1, .int .i64 r.2.2.2.2.2]
def rR (r : R6) : List Value := (cR r).toList
theorem Ow.lit (w : World) {B : Nat} (hB : B ≤ w.heap.size) (r : R6) : Ow (w.alloc (.cells (cR r) 36)) B 36 6 (.slice (some ⟨w.heap.size, 0, none⟩) 1 1) [rR r] :=
  ⟨by simpa [rR] using World.ownsRow_lit (e := 36) (size := 6) w (cR r) 1 hB (by simp [maxLen]) rfl, fun q hq => by rw [List.mem_singleton.1 hq]; rfl, fun q hq u hu => by rw [List.mem_singleton.1 hq] at hu; revert u; simp [rR, cR, Value.oneCell']⟩
theorem cR_one (r : R6) : ∀ u ∈ (cR r).toList, u.oneCell' = true := by simp [cR, Value.oneCell']
/-- a space as records -/
def dPut (i : Int) (p : Int × Int) : R6 := (1, i, p.1, p.2, 0, 0)
def dmA (x : Asp) : List R6 := (4, x.id, 0, 0, 0, x.q) :: (x.ps.map (dPut x.id) ++ if x.sl = true then [(7, x.id, 0, 0, 0, 0)] else [])
/-- what a dump's loops hold: the keys, the records, the state -/
structure GS (w : World) (s : St) (ids : List Int) (vi v : Value) (rows : Rws) (wr : World) : Prop where
  ids : Ow wr w.heap.size 3 1 vi (rI ids)
  out : Ow wr w.heap.size 36 6 v rows
  st : StAt wr s
  below : Below w.heap.size w wr
  apart : ∀ g, vi.ownBlock = some g → v.ownBlock ≠ some g
theorem GS.next {w : World} {s : St} {ids : List Int} {vi v v3 : Value} {rows rows3 : Rws} {wr w3 : World} (h : GS w s ids vi v rows wr) (hs : StAt w s) (gr : wr.grownBy w3 v.ownBlock) (o3 : Ow w3 w.heap.size 36 6 v3 rows3) (p3 : v3.ownBlock = v.ownBlock ∨ ∃ g, v3.ownBlock = some g ∧ wr.heap.size ≤ g) : GS w s ids vi v3 rows3 w3 := by
  refine ⟨h.ids.kept gr ?_, o3, h.st.frame fun i hi => gr.block i (h.st.foot_lt i hi) (fun e => ?_), h.below.grown gr h.below.size (fun j hj => (h.out.lt j hj).1), fun g hg => ?_⟩
  · cases e : vi.ownBlock with
    | none => exact .inl rfl
    | some g => exact .inr (fun e2 => h.apart g e e2.symm)
  · have := (h.out.lt i e.symm).1
    have := hs.foot_lt i hi
    omega
  · rcases p3 with p | ⟨g', p, q⟩
    · rw [p]; exact h.apart g hg
    · rw [p]
      intro e
      cases e
      have := (h.ids.lt g hg).2
      omega
/-- other keys are gone over -/
theorem GS.swap {w : World} {s : St} {ids ids2 : List Int} {vi vi2 v : Value} {rows : Rws} {wr w1 : World} (h : GS w s ids vi v rows wr) (b1 : Below wr.heap.size wr w1) (i1 : Ow w1 wr.heap.size 3 1 vi2 (rI ids2)) : GS w s ids2 vi2 v rows w1 := by
  refine ⟨i1.lower h.below.size, h.out.call b1, h.st.call b1, below3 h.below b1, fun g hg e => ?_⟩
  have h1 := (i1.lt g hg).1
  have h2 := (h.out.lt g e).2
  omega
set_option maxRecDepth 20000 in
theorem sdump_any {w s} (h : StAt w s) {x : Sp} (hx : x ∈ s.sp) (hk64 : ∀ p ∈ x.ps, K64 p.1) (hl : x.ps.length ≤ 1024) :
    Calls Try.prog 43 #[.pointer (some ⟨x.sb, 0, none⟩), .int .i64 x.id] w fun e w' => ∃ v, e = .returned v ∧ Ow w' w.heap.size 36 6 v ((dmA x.a).map rR) ∧ Below w.heap.size w w' := by
  have hX := h.hsp x hx
  have q0 := hX.q
  have q2 := fun o => ((h.alloc o).hsp x hx).pb
  have hxl := hX.lt
  have hri := fun o => riseI (hX.2.alloc o) (by omega)
  have H := Hid.mk (And.intro h (And.intro hk64 hX))
  have HR := Hid.mk hri
  clear h hk64 hri hX
  go_enter Try.func43, Try.ntmps43
  go_upto_region 3 with (first | (go_at_call 45; refine (HR.out _).mono ?_; rintro e w1 ⟨ia, ic, rfl, i1, b1⟩))
  have S0 : GS w s (x.ps.map (·.1)) (.slice ia x.ps.length ic) (.slice (some ⟨w.heap.size, 0, none⟩) 1 1) (((4, x.id, 0, 0, 0, x.q) :: (x.ps.take 0).map (dPut x.id)).map rR) w1 := by
    have g0 : GS w s [] (.slice none 0 0) (.slice (some ⟨w.heap.size, 0, none⟩) 1 1) (((4, x.id, 0, 0, 0, x.q) :: (x.ps.take 0).map (dPut x.id)).map rR) (w.alloc (.cells (cR (4, x.id, 0, 0, 0, x.q)) 36)) := ⟨Ow.nil _ _ _ _, Ow.lit w (Nat.le_refl _) _, H.out.1.alloc _, below_al w _, fun _ h => by cases h⟩
    exact g0.swap b1 i1
  replace S0 := Hid.mk S0
  clear i1 b1 q0 q2
  generalize hn : x.ps.length = n at *
  replace hn := Hid.mk hn
  go_loopw [5, 21] (fun v i wr => ∃ k : Nat, k ≤ n ∧ i = .int .i64 k ∧ GS w s (x.ps.map (·.1)) (.slice ia n ic) v (((4, x.id, 0, 0, 0, x.q) :: (x.ps.take k).map (dPut x.id)).map rR) wr) (fun _ i _ => n - (intOf i).toNat)
  case atStart => exact ⟨0, Nat.zero_le _, rfl, S0.out⟩
  case round =>
    clear S0
    obtain ⟨k, hk, rfl, hs⟩ := hrel
    by_cases hkn : k < n
    · have hkl : k < x.ps.length := by have := hn.out; omega
      obtain ⟨g, rfl, hgB, hgl, cg⟩ := hs.ids.intAt (j := k) (by rw [List.length_map]; exact hkl)
      have hp := List.getElem_mem hkl
      have htk : ((4, x.id, 0, 0, 0, x.q) :: (x.ps.take (k + 1)).map (dPut x.id)).map rR = ((4, x.id, 0, 0, 0, x.q) :: (x.ps.take k).map (dPut x.id)).map rR ++ [(cR (dPut x.id x.ps[k])).toList] := by
        rw [List.take_succ_eq_append_getElem hkl]
        simp only [List.map_append, List.map_cons, List.map_nil, List.cons_append]
        rfl
      have hpv : (x.ps.map (·.1)).getD k 0 = x.ps[k].1 := by
        rw [List.getD_eq_getElem?_getD, List.getElem?_map, List.getElem?_eq_getElem hkl]; rfl
      rw [hpv] at cg
      generalize x.ps[k] = p at *
      have hX := hs.st.hsp x hx
      have q2 := hX.pb
      have lk := hX.2.look (H.out.2.1 p hp)
      rw [mem_mget hX.2.up (k := p.1) (v := p.2) hp, Option.getD_some] at lk
      have hrl : (((4, x.id, 0, 0, 0, x.q) :: (x.ps.take k).map (dPut x.id)).map rR).length < 1000000 := by rw [List.length_map, List.length_cons, List.length_map, List.length_take]; omega
      have HS := Hid.mk (And.intro hs (And.intro htk hrl))
      clear hs htk hrl hpv hX hkl
      go_wp2_with (first | (at_builtin; refine wp_app ei36 rfl _ _ rfl HS.out.1.out HS.out.1.below.size (cR (dPut x.id p)) rfl rfl rfl (cR_one _) HS.out.2.2 ?_; intro v3 w3 o3 g3 p3))
      rw [← HS.out.2.1] at o3
      exact ⟨⟨k + 1, by omega, by go_num, HS.out.1.next H.out.1 g3 o3 p3⟩, by simp [intOf]; omega⟩
    · have hk2 : k = n := by omega
      subst hk2
      have hX := hs.st.hsp x hx
      have q1 := hX.sl
      rw [List.take_of_length_le (by have := hn.out; omega)] at hs
      have hrl : (((4, x.id, 0, 0, 0, x.q) :: x.ps.map (dPut x.id)).map rR).length < 1000000 := by rw [List.length_map, List.length_cons, List.length_map]; have := hn.out; omega
      have hd : (dmA x.a).map rR = ((4, x.id, 0, 0, 0, x.q) :: x.ps.map (dPut x.id)).map rR ++ if x.sl = true then [(cR (7, x.id, 0, 0, 0, 0)).toList] else [] := by
        show ((4, x.id, 0, 0, 0, x.q) :: (x.ps.map (dPut x.id) ++ if x.sl = true then [(7, x.id, 0, 0, 0, 0)] else [])).map rR = _
        split <;> simp [rR]
      have HD := Hid.mk hd
      clear hd hX
      have HS := Hid.mk (And.intro hs hrl)
      clear hs hrl
      cases hsl : x.sl with
      | true =>
        rw [hsl] at q1
        go_wp2_with (first | (at_builtin; refine wp_app ei36 rfl _ _ rfl HS.out.1.out HS.out.1.below.size (cR (7, x.id, 0, 0, 0, 0)) rfl rfl rfl (cR_one _) HS.out.2 ?_; intro v3 w3 o3 g3 p3))
        go_ret
        exact ⟨_, rfl, by rw [HD.out, hsl, if_pos rfl]; exact o3, (HS.out.1.next H.out.1 g3 o3 p3).below⟩
      | false =>
        rw [hsl] at q1
        go_wp2_with fail
        go_ret
        exact ⟨_, rfl, by rw [HD.out, hsl, if_neg (by simp), List.append_nil]; exact HS.out.1.out, HS.out.1.below⟩
end Go.Proofs.Ytafeclgghgipcaa
