/-
  A map's keys in their order: the walks of rising at three types; maps.Clone. No condition.
-/
import Derived.Test.YtccelipljbkkgaaShelf
import Derived.Test.YtccelipljbkkgaaRefs
namespace Go.Proofs.Ytccelipljbkkgaa
open Go Go.RowKit Go.Maps Go.Sort Go.Shelf

/-- slices.Sort's two contracts at this dump, at the fence that asks nothing. -/
theorem sortsA (m : Nat) : AnyZI.SortsIn Try.prog sortedA_ren Fence.wide m :=
  ⟨fun blk off cap ss W hH hblk hsz => callsIn_wide.2 (AnyM.slices_Sort_int sortA blk off cap ss W hH hblk hsz),
   fun p cap W => callsIn_wide.2 (AnyM.slices_Sort_int_none sortA p cap W)⟩
theorem dm_keys (m : Pl) : intKeys (dm m) = m.map (·.1) := by
  unfold dm intKeys
  simp only [List.map_map]
  apply List.map_congr_left
  intro p _
  rfl
theorem up_sorted {m : Pl} (h : Up m) {ss : List Int} (hp : ss.Perm (m.map (·.1))) : ss.mergeSort (fun x y => decide (x ≤ y)) = m.map (·.1) := by
  have h1 : (m.map (·.1)).Pairwise (fun x y : Int => x ≤ y) := by
    rw [List.pairwise_map]
    exact h.imp (fun h => by omega)
  have h2 : (ss.mergeSort (fun x y => decide (x ≤ y))).Pairwise (fun x y : Int => x ≤ y) := by
    have := List.pairwise_mergeSort (le := fun x y : Int => decide (x ≤ y)) (fun a b c h1 h2 => by simp at *; omega) (fun a b => by simp; omega) ss
    exact this.imp (fun h => by simpa using h)
  exact ((List.mergeSort_perm ss _).trans hp).eq_of_pairwise (fun a b _ _ h1 h2 => by omega) h2 h1
set_option maxHeartbeats 1000000 in
theorem risingP_any {R : Rdr} {w : World} {b : Nat} {m : Pl} (h : Mp R w b m) (hn : m.length < 1000000) :
    Calls Try.prog 68 #[.map (some b)] w fun e w' => ∃ v, e = .returned v ∧ w'.ownsRow w.heap.size 3 1 v m.length ((m.map (·.1)).map (Value.int .i64)) ∧ Below w.heap.size w w' := by
  have hown : w.ownsMap Try.prog 3 R b m.length (dm m) := h
  have hsz := dm_size m
  have hmax : Maps.size (dm m) ≤ maxLen := by rw [hsz]; simp [maxLen]; omega
  have hbytes : Maps.size (dm m) * 8 ≤ 140737488355328 := by rw [hsz]; omega
  have hu := h.up
  refine (callsIn_wide (n := 6)).1 ?_
  have hbl := hown.lt
  have hseq : SeqGives Fence.wide 2 Try.prog 74 #[.pointer (some ⟨w.heap.size, 0, none⟩)] encZ (fun ss => ss.Perm (intKeys (dm m))) (Maps.size (dm m)) (w.alloc (.cells #[.map (some b)] 64)) :=
    AnyZI.keys_gives (ρ := keysP_ren) { keysP with } Fence.wide _ trivial rfl (by omega) w.heap.size b m.length (dm m) _ (by simp) (by simp) (by
      obtain ⟨es, clock, hb, Ft, hs, hD⟩ := hown
      exact ⟨es, clock, (Below.heap_alloc _ _ b hbl).trans hb, Ft, hs, hD⟩)
  have cK : ∀ mb W, CallsIn Fence.wide 5 Try.prog 71 #[.map mb] W fun e w' => e = .returned (.func (.func 74) #[] #[.pointer (some ⟨W.heap.size, 0, none⟩)]) ∧ w' = W.alloc (.cells #[.map mb] 64) := fun mb W => AnyZI.keys_in keysP Fence.wide 5 trivial rfl mb W
  have cS := AnyZI.sorted_in sortedA Fence.wide 5 trivial trivial trivial trivial rfl (by omega) (sortsA _) (enters_of Try.func73 (by kernel_rfl) rfl) 74 #[.pointer (some ⟨w.heap.size, 0, none⟩)] trivial (enters_of Try.func74 (by kernel_rfl) rfl) _ _ hmax hbytes _ hseq
  change CallsIn _ _ Try.prog 70 _ _ _ at cS
  have hfK : Fence.wide.fn 71 := trivial
  have hfS : Fence.wide.fn 70 := trivial
  refine callsIn_of_wp Try.func68 rfl trivial ?_ rfl
  simp only [Try.ntmps68, List.size_toArray, List.length_cons, List.length_nil, Nat.reduceAdd, Nat.reduceSub, Array.replicate_succ, Array.replicate_zero, List.push_toArray, List.append_toArray, List.nil_append, List.cons_append]
  gi_wp2_with (first
    | (gi_at_call 71; refine (cK _ _).mono ?_; rintro e w' ⟨rfl, rfl⟩)
    | (gi_at_call 70; refine cS.mono ?_; rintro e w' ⟨v, ss, rfl, hS, hrow, hnil, hb⟩))
  go_ret
  have hS2 : ss.Perm (m.map (·.1)) := by rw [← dm_keys]; exact hS
  rw [up_sorted hu hS2, hS2.length_eq, List.length_map] at hrow
  exact ⟨v, rfl, ownsRow_base_a hrow (by simp), ((Below.refl _ w).alloc (Nat.le_refl _) _).trans (hb.mono (by simp))⟩
end Go.Proofs.Ytccelipljbkkgaa
