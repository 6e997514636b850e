/-
  maps.Keys sorted, maps.Clone: what they give of spaces and pages; which spaces are shown. No condition.
-/
import Derived.Test.YtacgemibaojbaaaSli
namespace Go.Proofs.Ytacgemibaojbaaa
open Go Go.RowKit Go.Maps Go.Sort Go.Shelf

theorem take_snoc {α : Type} (l : List α) (j : Nat) (d : α) (h : j < l.length) : l.take (j + 1) = l.take j ++ [l.getD j d] := by
  rw [List.take_succ_eq_append_getElem h]
  simp [List.getD_eq_getElem?_getD, h]
theorem cloneS_any {R : Rdr} {w : World} {b : Nat} {m : Pl} (h : Mp R w b m) : Calls Try.prog 41 #[.map (some b)] w fun e w' => e = .returned (.map (some w.heap.size)) ∧ Mp R w' w.heap.size m ∧ Below w.heap.size w w' := by
  have hcon := AnyW.maps_Clone_owns cloneS 3 R b m.length (dm m) w h
  change Calls Try.prog 41 _ _ _ at hcon
  exact hcon.mono (fun e w' hh => ⟨hh.1, hh.2.1, hh.2.2.2⟩)
theorem cloneL_any {R : Rdr} {w : World} {b : Nat} {m : Pl} (h : Mp R w b m) : Calls Try.prog 43 #[.map (some b)] w fun e w' => e = .returned (.map (some w.heap.size)) ∧ Mp R w' w.heap.size m ∧ Below w.heap.size w w' := by
  have hcon := AnyW.maps_Clone_owns cloneL 3 R b m.length (dm m) w h
  change Calls Try.prog 43 _ _ _ at hcon
  exact hcon.mono (fun e w' hh => ⟨hh.1, hh.2.1, hh.2.2.2⟩)
/-- slices.Sort's two contracts at this dump, at the fence that asks nothing. -/
theorem sortsA (m : Nat) : AnyZI.SortsIn Try.prog sortedA_ren Fence.wide m :=
  ⟨fun blk off cap ss W hH hblk hsz => callsIn_wide.2 (AnyM.slices_Sort_int sortA blk off cap ss W hH hblk hsz),
   fun p cap W => callsIn_wide.2 (AnyM.slices_Sort_int_none sortA p cap W)⟩
theorem dm_keys (m : Pl) : intKeys (dm m) = m.map (·.1) := by
  unfold dm intKeys
  simp only [List.map_map]
  apply List.map_congr_left
  intro p _
  rfl
theorem up_sorted {m : Pl} (h : Up m) {ss : List Int} (hp : ss.Perm (m.map (·.1))) : ss.mergeSort (fun x y => decide (x ≤ y)) = m.map (·.1) := by
  have h1 : (m.map (·.1)).Pairwise (fun x y : Int => x ≤ y) := by
    rw [List.pairwise_map]
    exact h.imp (fun h => by omega)
  have h2 : (ss.mergeSort (fun x y => decide (x ≤ y))).Pairwise (fun x y : Int => x ≤ y) := by
    have := List.pairwise_mergeSort (le := fun x y : Int => decide (x ≤ y)) (fun a b c h1 h2 => by simp at *; omega) (fun a b => by simp; omega) ss
    exact this.imp (fun h => by simpa using h)
  exact ((List.mergeSort_perm ss _).trans hp).eq_of_pairwise (fun a b _ _ h1 h2 => by omega) h2 h1
set_option maxHeartbeats 1000000 in
theorem risingS_any {R : Rdr} {w : World} {b : Nat} {m : Pl} (h : Mp R w b m) (hn : m.length < 1000000) :
    Calls Try.prog 59 #[.map (some b)] w fun e w' => ∃ v, e = .returned v ∧ w'.ownsRow w.heap.size 3 1 v m.length ((m.map (·.1)).map (Value.int .i64)) ∧ Below w.heap.size w w' := by
  have hown : w.ownsMap Try.prog 3 R b m.length (dm m) := h
  have hsz := dm_size m
  have hmax : Maps.size (dm m) ≤ maxLen := by rw [hsz]; simp [maxLen]; omega
  have hbytes : Maps.size (dm m) * 8 ≤ 140737488355328 := by rw [hsz]; omega
  have hu := h.up
  refine (callsIn_wide (n := 6)).1 ?_
  have hbl := hown.lt
  have hseq : SeqGives Fence.wide 2 Try.prog 69 #[.pointer (some ⟨w.heap.size, 0, none⟩)] encZ (fun ss => ss.Perm (intKeys (dm m))) (Maps.size (dm m)) (w.alloc (.cells #[.map (some b)] 69)) :=
    AnyZI.keys_gives (ρ := keysS_ren) { keysS with } Fence.wide _ trivial rfl (by omega) w.heap.size b m.length (dm m) _ (by simp) (by simp) (by
      obtain ⟨es, clock, hb, Ft, hs, hD⟩ := hown
      exact ⟨es, clock, (Below.heap_alloc _ _ b hbl).trans hb, Ft, hs, hD⟩)
  have cK : ∀ mb W, CallsIn Fence.wide 5 Try.prog 65 #[.map mb] W fun e w' => e = .returned (.func (.func 69) #[] #[.pointer (some ⟨W.heap.size, 0, none⟩)]) ∧ w' = W.alloc (.cells #[.map mb] 69) := fun mb W => AnyZI.keys_in keysS Fence.wide 5 trivial rfl mb W
  have cS := AnyZI.sorted_in sortedA Fence.wide 5 trivial trivial trivial trivial rfl (by omega) (sortsA _) (enters_of Try.func68 (by kernel_rfl) rfl) 69 #[.pointer (some ⟨w.heap.size, 0, none⟩)] trivial (enters_of Try.func69 (by kernel_rfl) rfl) _ _ hmax hbytes _ hseq
  change CallsIn _ _ Try.prog 64 _ _ _ at cS
  have hfK : Fence.wide.fn 65 := trivial
  have hfS : Fence.wide.fn 64 := trivial
  refine callsIn_of_wp Try.func59 rfl trivial ?_ rfl
  simp only [Try.ntmps59, List.size_toArray, List.length_cons, List.length_nil, Nat.reduceAdd, Nat.reduceSub, Array.replicate_succ, Array.replicate_zero, List.push_toArray, List.append_toArray, List.nil_append, List.cons_append]
  gi_wp2_with (first
    | (gi_at_call 65; refine (cK _ _).mono ?_; rintro e w' ⟨rfl, rfl⟩)
    | (gi_at_call 64; refine cS.mono ?_; rintro e w' ⟨v, ss, rfl, hS, hrow, hnil, hb⟩))
  go_ret
  have hS2 : ss.Perm (m.map (·.1)) := by rw [← dm_keys]; exact hS
  rw [up_sorted hu hS2, hS2.length_eq, List.length_map] at hrow
  exact ⟨v, rfl, ownsRow_base_a hrow (by simp), ((Below.refl _ w).alloc (Nat.le_refl _) _).trans (hb.mono (by simp))⟩
theorem riseS {R : Rdr} {w : World} {b : Nat} {m : Pl} (h : Mp R w b m) (hn : m.length < 1000000) :
    Calls Try.prog 59 #[.map (some b)] w fun e w' => ∃ a cap, e = .returned (.slice a m.length cap) ∧ Ow w' w.heap.size 3 1 (.slice a m.length cap) (rI (m.map (·.1))) ∧ Below w.heap.size w w' := by
  refine (risingS_any h hn).mono ?_
  rintro e w' ⟨v, rfl, o1, b1⟩
  have i1 := Ow.ints (by simp) o1
  obtain ⟨a, c, rfl⟩ := i1.form
  have le : (rI (m.map fun x => x.1)).length = m.length := by simp [rI]
  rw [le] at i1 ⊢
  exact ⟨a, c, rfl, i1, b1⟩
set_option maxHeartbeats 1000000 in
theorem risingL_any {R : Rdr} {w : World} {b : Nat} {m : Pl} (h : Mp R w b m) (hn : m.length < 1000000) :
    Calls Try.prog 60 #[.map (some b)] w fun e w' => ∃ v, e = .returned v ∧ w'.ownsRow w.heap.size 3 1 v m.length ((m.map (·.1)).map (Value.int .i64)) ∧ Below w.heap.size w w' := by
  have hown : w.ownsMap Try.prog 3 R b m.length (dm m) := h
  have hsz := dm_size m
  have hmax : Maps.size (dm m) ≤ maxLen := by rw [hsz]; simp [maxLen]; omega
  have hbytes : Maps.size (dm m) * 8 ≤ 140737488355328 := by rw [hsz]; omega
  have hu := h.up
  refine (callsIn_wide (n := 6)).1 ?_
  have hbl := hown.lt
  have hseq : SeqGives Fence.wide 2 Try.prog 70 #[.pointer (some ⟨w.heap.size, 0, none⟩)] encZ (fun ss => ss.Perm (intKeys (dm m))) (Maps.size (dm m)) (w.alloc (.cells #[.map (some b)] 95)) :=
    AnyZI.keys_gives (ρ := keysL_ren) { keysL with } Fence.wide _ trivial rfl (by omega) w.heap.size b m.length (dm m) _ (by simp) (by simp) (by
      obtain ⟨es, clock, hb, Ft, hs, hD⟩ := hown
      exact ⟨es, clock, (Below.heap_alloc _ _ b hbl).trans hb, Ft, hs, hD⟩)
  have cK : ∀ mb W, CallsIn Fence.wide 5 Try.prog 66 #[.map mb] W fun e w' => e = .returned (.func (.func 70) #[] #[.pointer (some ⟨W.heap.size, 0, none⟩)]) ∧ w' = W.alloc (.cells #[.map mb] 95) := fun mb W => AnyZI.keys_in keysL Fence.wide 5 trivial rfl mb W
  have cS := AnyZI.sorted_in sortedA Fence.wide 5 trivial trivial trivial trivial rfl (by omega) (sortsA _) (enters_of Try.func68 (by kernel_rfl) rfl) 70 #[.pointer (some ⟨w.heap.size, 0, none⟩)] trivial (enters_of Try.func70 (by kernel_rfl) rfl) _ _ hmax hbytes _ hseq
  change CallsIn _ _ Try.prog 64 _ _ _ at cS
  have hfK : Fence.wide.fn 66 := trivial
  have hfS : Fence.wide.fn 64 := trivial
  refine callsIn_of_wp Try.func60 rfl trivial ?_ rfl
  simp only [Try.ntmps60, List.size_toArray, List.length_cons, List.length_nil, Nat.reduceAdd, Nat.reduceSub, Array.replicate_succ, Array.replicate_zero, List.push_toArray, List.append_toArray, List.nil_append, List.cons_append]
  gi_wp2_with (first
    | (gi_at_call 66; refine (cK _ _).mono ?_; rintro e w' ⟨rfl, rfl⟩)
    | (gi_at_call 64; refine cS.mono ?_; rintro e w' ⟨v, ss, rfl, hS, hrow, hnil, hb⟩))
  go_ret
  have hS2 : ss.Perm (m.map (·.1)) := by rw [← dm_keys]; exact hS
  rw [up_sorted hu hS2, hS2.length_eq, List.length_map] at hrow
  exact ⟨v, rfl, ownsRow_base_a hrow (by simp), ((Below.refl _ w).alloc (Nat.le_refl _) _).trans (hb.mono (by simp))⟩
theorem riseL {R : Rdr} {w : World} {b : Nat} {m : Pl} (h : Mp R w b m) (hn : m.length < 1000000) :
    Calls Try.prog 60 #[.map (some b)] w fun e w' => ∃ a cap, e = .returned (.slice a m.length cap) ∧ Ow w' w.heap.size 3 1 (.slice a m.length cap) (rI (m.map (·.1))) ∧ Below w.heap.size w w' := by
  refine (risingL_any h hn).mono ?_
  rintro e w' ⟨v, rfl, o1, b1⟩
  have i1 := Ow.ints (by simp) o1
  obtain ⟨a, c, rfl⟩ := i1.form
  have le : (rI (m.map fun x => x.1)).length = m.length := by simp [rI]
  rw [le] at i1 ⊢
  exact ⟨a, c, rfl, i1, b1⟩
end Go.Proofs.Ytacgemibaojbaaa
