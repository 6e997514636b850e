/-
  maps.Keys, slices.Sorted, slices.Sort, maps.Clone and maps.Copy: the library's contracts, laid at this program (laid by the shelf's tool in plain words). No condition beyond their own. A map's keys in their order: the walks of rising at three types; maps.Clone. No condition. A space copied tq another number: the walk of double. No condition. All that stands at a place stands at another: the walk of move, a loop over spaces and in it one over pages. No condition.
-/
import Derived.Shelf.SlIterI.Nil
import Derived.Test.YtcmmhfjnhlaepabGreatDoorRSShelf
import Derived.Shelf.SortM.Plain
import Derived.Shelf.SortM.SortNone
import Derived.Shelf.SlMaps.Clone
import Derived.Shelf.SlMaps.Copy
import Derived.Test.YtcmmhfjnhlaepabGreatDoorProg
import Derived.Test.YtcmmhfjnhlaepabGreatDoorRH2
namespace Go.Proofs.YtcmmhfjnhlaepabGreatDoor.S8
open Go Go.RowKit Go.Maps Go.Sort Go.Shelf Gp Pg We
theorem sortsA (m : Nat) : AnyZI.SortsIn Tryz.prog sortedA_ren Fence.wide m :=
 ⟨fun blk off cap ss W hH hblk hsz => callsIn_wide.2 (AnyM.slices_Sort_int sortA blk off cap ss W hH hblk hsz),
  fun p cap W => callsIn_wide.2 (AnyM.slices_Sort_int_none sortA p cap W)⟩
theorem dm_keys (m : Pl) : intKeys (dm m) = m.map (·.1) := by
 unfold dm intKeys
 simp only [List.map_map]
 apply List.map_congr_left
 intro p _
 rfl
theorem up_sorted {m : Pl} (h : Up m) {ss : List Int} (hp : ss.Perm (m.map (·.1))) : ss.mergeSort (fun x y => decide (x <= y)) = m.map (·.1) := by
 have h1 : (m.map (·.1)).Pairwise (fun x y : Int => x <= y) := by
  rw [List.pairwise_map]
  exact h.imp (fun h => by omega)
 have h2 : (ss.mergeSort (fun x y => decide (x <= y))).Pairwise (fun x y : Int => x <= y) := by
  have := List.pairwise_mergeSort (le := fun x y : Int => decide (x <= y)) (fun a b c h1 h2 => by simp at *; omega) (fun a b => by simp; omega) ss
  exact this.imp (fun h => by simpa using h)
 exact ((List.mergeSort_perm ss _).trans hp).eq_of_pairwise (fun a b _ _ h1 h2 => by omega) h2 h1
set_option maxHeartbeats 1000000 in
theorem risingP_any {R : Rdr} {w : World} {b : Nat} {m : Pl} (h : Mp R w b m) (hn : m.length < 1000000) :
  Calls Tryz.prog 126 #[.map (some b)] w fun e w' => ∃ v, e = .returned v /\ w'.ownsRow w.heap.size 3 1 v m.length ((m.map (·.1)).map (Value.int .i64)) /\ Below w.heap.size w w' := by
 have hown : w.ownsMap Tryz.prog 3 R b m.length (dm m) := h
 have hsz := dm_size m
 have hmax : Maps.size (dm m) <= maxLen := by rw [hsz]; simp [maxLen]; omega
 have hbytes : Maps.size (dm m) * 8 <= 140737488355328 := by rw [hsz]; omega
 have hu := h.up
 refine (callsIn_wide (n := 6)).1 ?_
 have hbl := hown.lt
 have hseq : SeqGives Fence.wide 2 Tryz.prog 203 #[.pointer (some ⟨w.heap.size, 0, none⟩)] encZ (fun ss => ss.Perm (intKeys (dm m))) (Maps.size (dm m)) (w.alloc (.cells #[.map (some b)] 128)) :=
  AnyZI.keys_gives (ρ := keysP_ren) { keysP with } Fence.wide _ trivial rfl (by omega) w.heap.size b m.length (dm m) _ (by simp) (by simp) (by
   obtain ⟨es, clock, hb, Ft, hs, hD⟩ := hown
   exact ⟨es, clock, (Below.heap_alloc _ _ b hbl).trans hb, Ft, hs, hD⟩)
 have cK : ∀ mb W, CallsIn Fence.wide 5 Tryz.prog 168 #[.map mb] W fun e w' => e = .returned (.func (.func 203) #[] #[.pointer (some ⟨W.heap.size, 0, none⟩)]) /\ w' = W.alloc (.cells #[.map mb] 128) := fun mb W => AnyZI.keys_in keysP Fence.wide 5 trivial rfl mb W
 have cS := AnyZI.sorted_in sortedA Fence.wide 5 trivial trivial trivial trivial rfl (by omega) (sortsA _) (enters_of Tryz.func202 (by kernel_rfl) rfl) 203 #[.pointer (some ⟨w.heap.size, 0, none⟩)] trivial (enters_of Tryz.func203 (by kernel_rfl) rfl) _ _ hmax hbytes _ hseq
 change CallsIn _ _ Tryz.prog 167 _ _ _ at cS
 have hfK : Fence.wide.fn 168 := trivial
 have hfS : Fence.wide.fn 167 := trivial
 refine callsIn_of_wp Tryz.func126 rfl trivial ?_ rfl
 simp only [Tryz.ntmps126, List.size_toArray, List.length_cons, List.length_nil, Nat.reduceAdd, Nat.reduceSub, Array.replicate_succ, Array.replicate_zero, List.push_toArray, List.append_toArray, List.nil_append, List.cons_append]
 gi_wp2_with (first
  | (gi_at_call 168; refine (cK _ _).mono ?_; rintro e w' ⟨rfl, rfl⟩)
  | (gi_at_call 167; refine cS.mono ?_; rintro e w' ⟨v, ss, rfl, hS, hrow, hnil, hb⟩))
 go_ret
 have hS2 : ss.Perm (m.map (·.1)) := by rw [<- dm_keys]; exact hS
 rw [up_sorted hu hS2, hS2.length_eq, List.length_map] at hrow
 exact ⟨v, rfl, ownsRow_base_a hrow (by simp), ((Below.refl _ w).alloc (Nat.le_refl _) _).trans (hb.mono (by simp))⟩
set_option maxHeartbeats 1000000 in
theorem risingU_any {R : Rdr} {w : World} {b : Nat} {m : Pl} (h : Mp R w b m) (hn : m.length < 1000000) :
  Calls Tryz.prog 128 #[.map (some b)] w fun e w' => ∃ v, e = .returned v /\ w'.ownsRow w.heap.size 3 1 v m.length ((m.map (·.1)).map (Value.int .i64)) /\ Below w.heap.size w w' := by
 have hown : w.ownsMap Tryz.prog 3 R b m.length (dm m) := h
 have hsz := dm_size m
 have hmax : Maps.size (dm m) <= maxLen := by rw [hsz]; simp [maxLen]; omega
 have hbytes : Maps.size (dm m) * 8 <= 140737488355328 := by rw [hsz]; omega
 have hu := h.up
 refine (callsIn_wide (n := 6)).1 ?_
 have hbl := hown.lt
 have hseq : SeqGives Fence.wide 2 Tryz.prog 204 #[.pointer (some ⟨w.heap.size, 0, none⟩)] encZ (fun ss => ss.Perm (intKeys (dm m))) (Maps.size (dm m)) (w.alloc (.cells #[.map (some b)] 67)) :=
  AnyZI.keys_gives (ρ := keysU_ren) { keysU with } Fence.wide _ trivial rfl (by omega) w.heap.size b m.length (dm m) _ (by simp) (by simp) (by
   obtain ⟨es, clock, hb, Ft, hs, hD⟩ := hown
   exact ⟨es, clock, (Below.heap_alloc _ _ b hbl).trans hb, Ft, hs, hD⟩)
 have cK : ∀ mb W, CallsIn Fence.wide 5 Tryz.prog 169 #[.map mb] W fun e w' => e = .returned (.func (.func 204) #[] #[.pointer (some ⟨W.heap.size, 0, none⟩)]) /\ w' = W.alloc (.cells #[.map mb] 67) := fun mb W => AnyZI.keys_in keysU Fence.wide 5 trivial rfl mb W
 have cS := AnyZI.sorted_in sortedA Fence.wide 5 trivial trivial trivial trivial rfl (by omega) (sortsA _) (enters_of Tryz.func202 (by kernel_rfl) rfl) 204 #[.pointer (some ⟨w.heap.size, 0, none⟩)] trivial (enters_of Tryz.func204 (by kernel_rfl) rfl) _ _ hmax hbytes _ hseq
 change CallsIn _ _ Tryz.prog 167 _ _ _ at cS
 have hfK : Fence.wide.fn 169 := trivial
 have hfS : Fence.wide.fn 167 := trivial
 refine callsIn_of_wp Tryz.func128 rfl trivial ?_ rfl
 simp only [Tryz.ntmps128, List.size_toArray, List.length_cons, List.length_nil, Nat.reduceAdd, Nat.reduceSub, Array.replicate_succ, Array.replicate_zero, List.push_toArray, List.append_toArray, List.nil_append, List.cons_append]
 gi_wp2_with (first
  | (gi_at_call 169; refine (cK _ _).mono ?_; rintro e w' ⟨rfl, rfl⟩)
  | (gi_at_call 167; refine cS.mono ?_; rintro e w' ⟨v, ss, rfl, hS, hrow, hnil, hb⟩))
 go_ret
 have hS2 : ss.Perm (m.map (·.1)) := by rw [<- dm_keys]; exact hS
 rw [up_sorted hu hS2, hS2.length_eq, List.length_map] at hrow
 exact ⟨v, rfl, ownsRow_base_a hrow (by simp), ((Below.refl _ w).alloc (Nat.le_refl _) _).trans (hb.mono (by simp))⟩
set_option maxHeartbeats 1000000 in
theorem risingI_any {R : Rdr} {w : World} {b : Nat} {m : Pl} (h : Mp R w b m) (hn : m.length < 1000000) :
  Calls Tryz.prog 129 #[.map (some b)] w fun e w' => ∃ v, e = .returned v /\ w'.ownsRow w.heap.size 3 1 v m.length ((m.map (·.1)).map (Value.int .i64)) /\ Below w.heap.size w w' := by
 have hown : w.ownsMap Tryz.prog 3 R b m.length (dm m) := h
 have hsz := dm_size m
 have hmax : Maps.size (dm m) <= maxLen := by rw [hsz]; simp [maxLen]; omega
 have hbytes : Maps.size (dm m) * 8 <= 140737488355328 := by rw [hsz]; omega
 have hu := h.up
 refine (callsIn_wide (n := 6)).1 ?_
 have hbl := hown.lt
 have hseq : SeqGives Fence.wide 2 Tryz.prog 205 #[.pointer (some ⟨w.heap.size, 0, none⟩)] encZ (fun ss => ss.Perm (intKeys (dm m))) (Maps.size (dm m)) (w.alloc (.cells #[.map (some b)] 129)) :=
  AnyZI.keys_gives (ρ := keysI_ren) { keysI with } Fence.wide _ trivial rfl (by omega) w.heap.size b m.length (dm m) _ (by simp) (by simp) (by
   obtain ⟨es, clock, hb, Ft, hs, hD⟩ := hown
   exact ⟨es, clock, (Below.heap_alloc _ _ b hbl).trans hb, Ft, hs, hD⟩)
 have cK : ∀ mb W, CallsIn Fence.wide 5 Tryz.prog 170 #[.map mb] W fun e w' => e = .returned (.func (.func 205) #[] #[.pointer (some ⟨W.heap.size, 0, none⟩)]) /\ w' = W.alloc (.cells #[.map mb] 129) := fun mb W => AnyZI.keys_in keysI Fence.wide 5 trivial rfl mb W
 have cS := AnyZI.sorted_in sortedA Fence.wide 5 trivial trivial trivial trivial rfl (by omega) (sortsA _) (enters_of Tryz.func202 (by kernel_rfl) rfl) 205 #[.pointer (some ⟨w.heap.size, 0, none⟩)] trivial (enters_of Tryz.func205 (by kernel_rfl) rfl) _ _ hmax hbytes _ hseq
 change CallsIn _ _ Tryz.prog 167 _ _ _ at cS
 have hfK : Fence.wide.fn 170 := trivial
 have hfS : Fence.wide.fn 167 := trivial
 refine callsIn_of_wp Tryz.func129 rfl trivial ?_ rfl
 simp only [Tryz.ntmps129, List.size_toArray, List.length_cons, List.length_nil, Nat.reduceAdd, Nat.reduceSub, Array.replicate_succ, Array.replicate_zero, List.push_toArray, List.append_toArray, List.nil_append, List.cons_append]
 gi_wp2_with (first
  | (gi_at_call 170; refine (cK _ _).mono ?_; rintro e w' ⟨rfl, rfl⟩)
  | (gi_at_call 167; refine cS.mono ?_; rintro e w' ⟨v, ss, rfl, hS, hrow, hnil, hb⟩))
 go_ret
 have hS2 : ss.Perm (m.map (·.1)) := by rw [<- dm_keys]; exact hS
 rw [up_sorted hu hS2, hS2.length_eq, List.length_map] at hrow
 exact ⟨v, rfl, ownsRow_base_a hrow (by simp), ((Below.refl _ w).alloc (Nat.le_refl _) _).trans (hb.mono (by simp))⟩
end Go.Proofs.YtcmmhfjnhlaepabGreatDoor.S8
namespace Go.Proofs.YtcmmhfjnhlaepabGreatDoor.S8
open Go Go.RowKit Go.Maps Go.Shelf Gp Pg We
theorem clone_any {R : Rdr} {w : World} {b : Nat} {m : Pl} (h : Mp R w b m) : Calls Tryz.prog 87 #[.map (some b)] w fun e w' => e = .returned (.map (some w.heap.size)) /\ Mp R w' w.heap.size m /\ Below w.heap.size w w' := by
 have hcon := AnyW.maps_Clone_owns cloneM 3 R b m.length (dm m) w h
 change Calls Tryz.prog 87 _ _ _ at hcon
 exact hcon.mono (fun e w' hh => ⟨hh.1, hh.2.1, hh.2.2.2⟩)
set_option maxRecDepth 20000 in
theorem double_none {w s} (h : StAt w s) {id tq : Int} (hk : K64 id) (hg : gsp s.sp id = none) :
  Calls Tryz.prog 98 #[.pointer (some ⟨s.p, 0, none⟩), .int .i64 id, .int .i64 tq] w fun e w' => e = .returned (.int .i64 80) /\ w = w' := by
 have c0 := h.c0
 have l0 := h.noSp hk hg
 clear h
 go_enter Tryz.func98, Tryz.ntmps98
 go_wp2
 go_ret
 exact ⟨rfl, rfl⟩
set_option maxRecDepth 20000 in
theorem double_taken {w s} (h : StAt w s) {x y : Sp} (hk : K64 x.id) (hk2 : K64 y.id) (hg : gsp s.sp x.id = some x) (hg2 : gsp s.sp y.id = some y) :
  Calls Tryz.prog 98 #[.pointer (some ⟨s.p, 0, none⟩), .int .i64 x.id, .int .i64 y.id] w fun e w' => e = .returned (.int .i64 80) /\ w = w' := by
 have c0 := h.c0
 have l0 := h.aSp hk hg
 have l1 := h.aSp hk2 hg2
 clear h hg hg2
 go_enter Tryz.func98, Tryz.ntmps98
 go_wp2
 go_ret
 exact ⟨rfl, rfl⟩
theorem cntP_sub {m n : Pl} (h : m.Sublist n) (a : Int) : cntP m a <= cntP n a := (h.filter _).length_le
theorem Ch.stepN {w wr w2 : World} {s s' : St} {r : Nat} (c : Ch w wr s s') (g : wr.grownBy w2 (some r)) (hr : w.heap.size <= r) : Ch w w2 s s' :=
 ⟨g.os.trans c.os, g.tape.trans c.tape, g.output.trans c.output, Nat.le_trans c.size g.size, fun i hi hn => (g.block i (Nat.lt_of_lt_of_le hi c.size) (by simp; omega)).trans (c.block i hi hn), c.own, c.home⟩
def dblS (s : St) (x : Sp) (M : Pl) : St := { s with sp := isp x s.sp, refs := M }
def DbS (w : World) (s : St) (x y : Sp) (f : Int -> Nat) (r : Nat) (rest : Pl) (M : Pl) (wr : World) : Prop :=
 Rg elI wr x.pb r x.ps rest /\ rest.Sublist x.ps /\ StAt wr (dblS s y M) /\ RefsIs M (fun a => f a + (cntP x.ps a - cntP rest a)) /\ Ch w wr s (addS s y) /\ w.heap.size <= r /\ r ∉ foot (addS s y)
set_option maxRecDepth 20000 in
theorem double_some {w s} (h : StAt w s) {x : Sp} {tq : Int} {f : Int -> Nat} (hk : K64 x.id) (hkt : K64 tq) (hg : gsp s.sp x.id = some x) (hg2 : gsp s.sp tq = none) (hn : s.sp.length < 1000) (hF : RefsIs s.refs f) (hA : ∀ p ∈ x.ps, 0 <= p.2 /\ p.2 <= 2000) (ht : ∀ a, f a + cntP x.ps a <= 100000) :
  Calls Tryz.prog 98 #[.pointer (some ⟨s.p, 0, none⟩), .int .i64 x.id, .int .i64 tq] w fun e w' => e = .returned (.int .i64 0) /\ ∃ sb pb M, StAt w' (dblS s ⟨tq, x.q, false, x.ps, sb, pb⟩ M) /\ RefsIs M (fun a => f a + cntP x.ps a) /\ Ch w w' s (dblS s ⟨tq, x.q, false, x.ps, sb, pb⟩ M) := by
 have c0 := h.c0
 have l0 := h.aSp hk hg
 have l1 := h.noSp hkt hg2
 have hX := h.hsp x (gsp_some hg).1
 have H := Hid.mk (And.intro h (And.intro hg (And.intro hg2 (And.intro hX (And.intro hn (And.intro hF (And.intro hA ht)))))))
 have hS0 := Hid.mk (And.intro h.c0 (And.intro hX.q hX.pb))
 clear h hX hg hg2 hn hF hA ht
 go_enter Tryz.func98, Tryz.ntmps98
 go_upto_region 4 with fail
 clear c0 l0 l1
 refine wp_region_held_drew (S := fun w' => w'.cell? ⟨s.p, 0, none⟩ = some (.map (some s.bS)) /\ w'.cell? ⟨x.sb, 0, none⟩ = some (.int .i64 x.q) /\ w'.cell? ⟨x.sb, 2, none⟩ = some (.map (some x.pb))) (by kernel_rfl) hS0.out (fun hHeld => ?_)
 refine tkC 0 hHeld ?_
 refine tkC 1 hHeld ?_
 refine tkC 2 hHeld ?_
 refine tkC 3 hHeld ?_
 refine tkC 4 hHeld ?_
 refine tkC 5 hHeld ?_
 refine tkC 6 hHeld ?_
 refine tkC 7 hHeld ?_
 refine tkC 8 hHeld ?_
 refine tkC 9 hHeld ?_
 refine tkC 10 hHeld ?_
 refine tkC 11 hHeld ?_
 refine tkC 12 hHeld ?_
 refine wpAnyH_ready (rs := [13]) (by kernel_rfl) (by simp) ?_
 refine arH rfl (fun K hK => ?_) AllReadyH.nil
 go_simp
 go_wp2_with (first | (go_at_call 87; refine (clone_any (w := w.drew) H.out.2.2.2.1.2).mono ?_; rintro e w1 ⟨rfl, m1, b1⟩))
 have B1 : Below w.heap.size w w1 := (Below.refl _ w).drew.trans b1
 have g1 := H.out.1.call B1
 have x1 := H.out.2.2.2.1
 have X1 : SpAt w1 x := x1.same (B1.block _ x1.lt) (B1.block _ x1.2.lt)
 have HB := Hid.mk (And.intro B1 (And.intro g1 (And.intro X1 m1)))
 refine hK.out _ _ ⟨g1.c0, X1.q, X1.pb⟩ (fun hHeld => ?_)
 clear hK K
 try simp only [Act.put, zA, zB, zC]
 clear B1 g1 x1 X1 m1 b1 hS0
 refine tkC 14 hHeld ?_
 refine wpAnyH_ready (rs := [15]) (by kernel_rfl) (by simp) ?_
 refine arH rfl (fun K hK => ?_) AllReadyH.nil
 go_simp
 have hB2 : ∃ W, W = w1.alloc (.cells #[.int .i64 x.q, .bool false, .map (some w.heap.size)] 133) := ⟨_, rfl⟩
 obtain ⟨W, hW⟩ := hB2
 have g2 := HB.out.2.1.alloc (.cells #[.int .i64 x.q, .bool false, .map (some w.heap.size)] 133)
 have X2 : SpAt (w1.alloc (.cells #[.int .i64 x.q, .bool false, .map (some w.heap.size)] 133)) x := HB.out.2.2.1.same (Below.heap_alloc _ _ _ HB.out.2.2.1.lt) (Below.heap_alloc _ _ _ HB.out.2.2.1.2.lt)
 have Y2 : SpAt (w1.alloc (.cells #[.int .i64 x.q, .bool false, .map (some w.heap.size)] 133)) ⟨tq, x.q, false, x.ps, w1.heap.size, w.heap.size⟩ := ⟨heap_alloc_new _ _, HB.out.2.2.2.alloc _⟩
 have B2 := HB.out.1.alloc HB.out.1.size (.cells #[.int .i64 x.q, .bool false, .map (some w.heap.size)] 133)
 obtain ⟨w3, hrun, m3, t3⟩ := g2.hS.store Tryz.underlying128 (by simp only [spm, List.length_map]; have := H.out.2.2.2.2.1; omega) hkt (val := .pointer (some ⟨w1.heap.size, 0, none⟩)) (v := (w1.heap.size : Int)) rfl
 refine hK.out _ _ ⟨g2.c0, X2.q, X2.pb⟩ (fun hHeld => ?_)
 clear hK K
 try simp only [Act.put, zA, zB, zC]
 refine wpAnyH_ready (rs := [16]) (by kernel_rfl) (by simp) ?_
 refine arH rfl (fun K hK => ?_) AllReadyH.nil
 go_simp
 have hlt := H.out.1.foot_lt
 have n1 : w1.heap.size ∉ foot s := fun hm => by have := hlt _ hm; have := HB.out.1.size; omega
 have n2 : w.heap.size ∉ foot s := fun hm => by have := hlt _ hm; omega
 have g3 := g2.addT (x := ⟨tq, x.q, false, x.ps, w1.heap.size, w.heap.size⟩) H.out.2.2.1 Y2 n1 n2 m3 t3
 have X3 : SpAt w3 x := X2.turned g2.hS t3 (g2.ap.2.2.2.2.2.2.1 x (gsp_some H.out.2.1).1).1
 have C3 : Ch w w3 s (addS s ⟨tq, x.q, false, x.ps, w1.heap.size, w.heap.size⟩) := Ch.added B2 t3 (mem_bS s) (fun i hi => (foot_isp s _ i).1 hi) HB.out.1.size (Nat.le_refl _)
 refine hK.out _ _ ⟨g3.c0, X3.q, X3.pb⟩ (fun hHeld => ?_)
 clear hK K
 try simp only [Act.put, zA, zB, zC]
 refine wpAnyH_done (by kernel_rfl) ?_ _
 obtain ⟨y, hy⟩ : ∃ y : Sp, y = ⟨tq, x.q, false, x.ps, w1.heap.size, w.heap.size⟩ := ⟨_, rfl⟩
 rw [<- hy] at g3 C3
 have hr0 := C3.size
 have hG := Hid.mk (And.intro g3 (And.intro C3 (And.intro X3 hr0)))
 have p2 := X3.pb
 have HY := Hid.mk hy
 clear g3 C3 X3 hr0 hHeld n1 n2 hlt t3 m3 hrun B2 Y2 X2 g2 hW W hy HB
 go_upto_region 6 with (first | (at_range; refine wp_range _ rfl _ 129 3 rfl Tryz.underlying129 hG.out.2.2.1.2 rfl ?_; intro w4 r4 b4 z4))
 go_frame
 have S0 : DbS w s x y f w3.heap.size x.ps s.refs w4 := ⟨r4, List.Sublist.refl _, hG.out.1.call b4, H.out.2.2.2.2.2.1.congr (fun a => by omega), hG.out.2.1.trans (Ch.call b4), hG.out.2.2.2, fun hm => Nat.lt_irrefl _ (hG.out.1.foot_lt _ hm)⟩
 replace S0 := Hid.mk S0
 clear r4 b4 z4 p2 hG
 generalize w3.heap.size = r at *
 go_loopw [9] (fun _ wr => ∃ rest M, DbS w s x y f r rest M wr) (fun _ wr => wr.rangeLeft x.pb r)
 case atStart => exact ⟨_, _, S0.out⟩
 case round =>
  clear S0
  obtain ⟨rest, M, hs⟩ := hrel
  have HS := Hid.mk hs
  clear hs
  go_wp2_with (first | (at_next; refine wp_next _ rfl _ rfl HS.out.1 rfl ?_ ?_))
  ·intro hd
   subst hd
   go_wp2_with fail
   go_ret
   refine ⟨rfl, w1.heap.size, w.heap.size, M, ?_, HS.out.2.2.2.1.congr (fun a => by rw [cntP_nil]; omega), ?_⟩
   ·rw [<- HY.out]; exact HS.out.2.2.1
   ·rw [<- HY.out]; exact ⟨HS.out.2.2.2.2.1.os, HS.out.2.2.2.2.1.tape, HS.out.2.2.2.2.1.output, HS.out.2.2.2.2.1.size, HS.out.2.2.2.2.1.block, HS.out.2.2.2.2.1.own, rfl⟩
  ·intro k c w2 hm hk2 hrg hlt hgr hsz hen
   have hnr : ∀ i ∈ foot (dblS s y M), i ≠ r := fun i hi e => HS.out.2.2.2.2.2.2 (e ▸ hi)
   have g2 : StAt w2 (dblS s y M) := HS.out.2.2.1.frame fun i hi => hgr.block i (HS.out.2.2.1.foot_lt i hi) (by simpa using hnr i hi)
   have hu : Up rest := up_sub H.out.2.2.2.1.2.up HS.out.2.1
   have hc := H.out.2.2.2.2.2.2.1 _ (HS.out.2.1.subset hm)
   have hkc : K64 c := k64 (by simp only at hc; omega) (by simp only at hc; omega)
   have hcn := cntP_del hu hm
   have hcs := fun a => cntP_sub HS.out.2.1 a
   have hct := H.out.2.2.2.2.2.2.2
   have f1 := HS.out.2.2.2.1
   have hMl : (M : Pl).length < 1000000 := by have hq := f1.len g2.hR.up; omega
   have d1 : w2.cell? ⟨s.p, 1, none⟩ = some (.map (some s.bR)) := g2.c1
   have l1 : (Instr.lookup 129 (.map (some s.bR)) (.int .i64 c) false).run Tryz.prog w2 = .ok (.int .i64 ((mget M c).getD 0)) w2 := g2.hR.look hkc
   have f2 := (f1.inc hc (by have := hcn c; have := hcs c; have := hct c; simp at *; omega)).congr (g := fun a => f a + (cntP x.ps a - cntP (mdel rest k) a)) (fun a => by
    have h1 := hcn a; have h2 := hcs a
    by_cases e : a = c
    ·subst e; simp at h1 |-; omega
    ·rw [if_neg e]; rw [if_neg (fun e2 => e e2.symm)] at h1; omega)
   have hv := f1.val c
   have ht2 := f1.top c
   generalize hy0 : (mget M c).getD 0 + 1 = y0 at *
   have hw : IntKind.i64.wrap ((mget M c).getD 0 + 1) = y0 := by rw [<- hy0]; exact wrap_id (by omega) (by omega)
   generalize (mget M c).getD 0 = x0 at *
   have hR2 : Mp elI w2 s.bR M := g2.hR
   have hne : x.pb ≠ s.bR := (H.out.1.ap.2.2.2.2.2.2.1 x (gsp_some H.out.2.1).1).2.1
   have hr2 : r ≠ s.bR := (hnr _ (mem_bR (dblS s y M))).symm
   have HG := Hid.mk (And.intro g2 (And.intro hrg (And.intro hlt (And.intro hgr (And.intro f2 (And.intro hne (And.intro hr2 hR2)))))))
   clear g2 hu hc hcn hcs hct f1 f2 hrg hlt hgr hne hr2 hsz hm hv ht2 hy0 hR2 hnr
   go_wp2_with (first | (at_mapUpdate; refine wp_put _ rfl _ _ _ 129 3 rfl Tryz.underlying129 HG.out.2.2.2.2.2.2.2 hMl c _ _ rfl rfl rfl hkc rfl ?_; intro w3 m3 t3; go_frame))
   have e1 := t3.grown.block x.pb HG.out.2.1.mp.lt (by simpa using HG.out.2.2.2.2.2.1)
   have e2 := t3.grown.block r HG.out.2.1.lt (by simpa using HG.out.2.2.2.2.2.2.1)
   have c1 : Ch w w2 s (addS s y) := HS.out.2.2.2.2.1.stepN HG.out.2.2.2.1 HS.out.2.2.2.2.2.1
   refine ⟨⟨_, _, HG.out.2.1.same e1 e2, (mdel_sub _ _).trans HS.out.2.1, HG.out.1.refsT m3 t3, HG.out.2.2.2.2.1, c1.trans (Ch.turned t3 (mem_bR (addS s y)) rfl rfl), HS.out.2.2.2.2.2.1, HS.out.2.2.2.2.2.2⟩, ?_⟩
   rw [left_same e1 e2]
   exact HG.out.2.2.1
end Go.Proofs.YtcmmhfjnhlaepabGreatDoor.S8
namespace Go.Proofs.YtcmmhfjnhlaepabGreatDoor.S8
open Go Go.RowKit Go.Maps Gp Pg We
def mvV (f t v : Int) : Int := if v = f then t else v
def mvP (f t : Int) (ps : Pl) : Pl := ps.map fun p => (p.1, mvV f t p.2)
def mvSp (f t : Int) (x : Sp) : Sp := { x with ps := mvP f t x.ps }
def mvS (f t : Int) (l : List Sp) (rest : Pl) : List Sp := l.map fun x => if (mget rest x.id).isSome then x else mvSp f t x
theorem mget_mvP (f t : Int) (ps : Pl) (k : Int) : mget (mvP f t ps) k = (mget ps k).map (mvV f t) := by
 induction ps with
 | nil => rfl
 | cons p r ih =>
  unfold mvP at *
  rw [List.map_cons, mget_cons, mget_cons, ih]
  split <;> rfl
theorem up_mvP {f t : Int} {ps : Pl} (h : Up ps) : Up (mvP f t ps) := by
 unfold Up mvP at *
 rw [List.pairwise_map]
 exact h
theorem mvS_fun (f t : Int) (rest : Pl) (x : Sp) : (if (mget rest x.id).isSome then x else mvSp f t x).id = x.id /\ (if (mget rest x.id).isSome then x else mvSp f t x).sb = x.sb /\ (if (mget rest x.id).isSome then x else mvSp f t x).pb = x.pb := by
 split <;> exact ⟨rfl, rfl, rfl⟩
theorem mvS_spm (f t : Int) (l : List Sp) (rest : Pl) : spm (mvS f t l rest) = spm l := by
 unfold spm mvS
 rw [List.map_map]
 apply List.map_congr_left
 intro x _
 simp only [Function.comp]
 rw [(mvS_fun f t rest x).1, (mvS_fun f t rest x).2.1]
theorem mvS_pb (f t : Int) (l : List Sp) (rest : Pl) : (mvS f t l rest).map (·.pb) = l.map (·.pb) := by
 unfold mvS
 rw [List.map_map]
 apply List.map_congr_left
 intro x _
 exact (mvS_fun f t rest x).2.2
theorem mvS_sb (f t : Int) (l : List Sp) (rest : Pl) : (mvS f t l rest).map (·.sb) = l.map (·.sb) := by
 unfold mvS
 rw [List.map_map]
 apply List.map_congr_left
 intro x _
 exact (mvS_fun f t rest x).2.1
theorem mvS_foot (f t : Int) (s : St) (rest r : Pl) : foot { s with sp := mvS f t s.sp rest, refs := r } = foot s := by
 simp only [foot, maps, mvS_pb, mvS_sb]
theorem mvS_start (f t : Int) (l : List Sp) : mvS f t l (spm l) = l := by
 unfold mvS
 refine (List.map_congr_left (g := id) (fun x hx => ?_)).trans (List.map_id _)
 have : (mget (spm l) x.id).isSome = true := by
  rw [spm_get, Option.isSome_map]
  unfold gsp
  rw [List.find?_isSome]
  exact ⟨x, hx, by simp⟩
 rw [if_pos this]
 rfl
theorem mvS_end (f t : Int) (l : List Sp) : mvS f t l [] = l.map (mvSp f t) := by
 unfold mvS
 apply List.map_congr_left
 intro x _
 rfl
theorem mvS_gsp {f t : Int} {l : List Sp} {rest : Pl} {x : Sp} (h : gsp l x.id = some x) (hr : (mget rest x.id).isSome = true) : gsp (mvS f t l rest) x.id = some x := by
 unfold mvS gsp at *
 rw [List.find?_map]
 have : ((fun x_1 : Sp => decide (x_1.id = x.id)) ∘ fun x_1 : Sp => if (mget rest x_1.id).isSome then x_1 else mvSp f t x_1) = fun y => decide (y.id = x.id) := by
  funext y
  simp only [Function.comp, (mvS_fun f t rest y).1]
 rw [this, h]
 simp [hr]
theorem mvS_ssp {f t : Int} {l : List Sp} {rest : Pl} {x : Sp} (hu : Up (spm l)) (hx : x ∈ l) : ssp (mvS f t l rest) (mvSp f t x) = mvS f t l (mdel rest x.id) := by
 unfold ssp mvS
 rw [List.map_map]
 apply List.map_congr_left
 intro y hy
 simp only [Function.comp, (mvS_fun f t rest y).1]
 show (if y.id = x.id then mvSp f t x else _) = _
 by_cases e : y.id = x.id
 ·have := up_one hu hy hx e
  subst this
  rw [if_pos rfl, mget_del_same]
  rfl
 ·rw [if_neg e, mget_del_ne e]
theorem ssp_ssp (l : List Sp) (x y : Sp) (h : x.id = y.id) : ssp (ssp l x) y = ssp l y := by
 unfold ssp
 rw [List.map_map]
 apply List.map_congr_left
 intro z _
 simp only [Function.comp]
 by_cases e : z.id = x.id
 ·rw [if_pos e, if_pos h, if_pos (e.trans h)]
 ·rw [if_neg e]
structure InvI (f t : Int) (ps cur rest : Pl) : Prop where
 sub : rest.Sublist cur
 get : ∀ k, mget cur k = if (mget rest k).isSome then mget ps k else (mget ps k).map (mvV f t)
theorem InvI.start (f t : Int) (ps : Pl) : InvI f t ps ps ps := ⟨List.Sublist.refl _, fun k => by
 cases h : mget ps k <;> simp⟩
theorem InvI.fin {f t : Int} {ps cur : Pl} (h : InvI f t ps cur []) (hu : Up ps) (hc : Up cur) : cur = mvP f t ps :=
 up_ext hc (up_mvP hu) (fun a => by rw [h.get, mget_mvP]; rfl)
theorem InvI.skip {f t : Int} {ps cur rest : Pl} (h : InvI f t ps cur rest) (hc : Up cur) {k c : Int} (hm : (k, c) ∈ rest) (hne : c ≠ f) : InvI f t ps cur (mdel rest k) := by
 refine ⟨(mdel_sub _ _).trans h.sub, fun a => ?_⟩
 by_cases e : a = k
 ·subst e
  have h1 := mem_mget hc (h.sub.subset hm)
  have h2 := h.get a
  rw [mem_mget (up_sub hc h.sub) hm, Option.isSome_some, if_pos rfl, h1] at h2
  rw [mget_del_same, h1, <- h2]
  simp [mvV, hne]
 ·rw [mget_del_ne e]
  exact h.get a
theorem mdel_sub_put {m r : Pl} {k v : Int} (h : r.Sublist m) (hn : ∀ p ∈ r, p.1 ≠ k) : r.Sublist (mput m k v) := by
 have h1 : r.Sublist (mdel m k) := by
  have := h.filter (fun p => !decide (p.1 = k))
  rwa [List.filter_eq_self.2 (fun p hp => by simp [hn p hp])] at this
 refine h1.trans ?_
 unfold mput
 generalize mdel m k = n
 induction n with
 | nil => exact List.nil_sublist _
 | cons y q ih =>
  unfold mins
  split
  ·exact List.sublist_cons_self _ _
  ·exact ih.cons_cons _
theorem InvI.put {f t : Int} {ps cur rest : Pl} (h : InvI f t ps cur rest) (hc : Up cur) {k : Int} (hm : (k, f) ∈ rest) : InvI f t ps (mput cur k t) (mdel rest k) := by
 refine ⟨mdel_sub_put ((mdel_sub _ _).trans h.sub) (mdel_ne _ _), fun a => ?_⟩
 by_cases e : a = k
 ·subst e
  have h1 := mem_mget hc (h.sub.subset hm)
  have h2 := h.get a
  rw [mem_mget (up_sub hc h.sub) hm, Option.isSome_some, if_pos rfl, h1] at h2
  rw [mget_del_same, mget_put, <- h2]
  simp [mvV]
 ·rw [mget_del_ne e, mget_put_ne e]
  exact h.get a
theorem StAt.mvs {w : World} {s : St} {f t : Int} {rest : Pl} (h : StAt w { s with sp := mvS f t s.sp rest }) {x : Sp} (hx : x ∈ s.sp) (hr : (mget rest x.id).isSome = true) : SpAt w x := by
 refine h.hsp x ?_
 show x ∈ mvS f t s.sp rest
 unfold mvS
 exact List.mem_map.2 ⟨x, hx, by rw [if_pos hr]⟩
set_option maxRecDepth 20000 in
theorem move_a {w s} (h : StAt w s) {f t : Int} (hf : K64 f) (h0 : (mget s.refs f).getD 0 = 0) :
  Calls Tryz.prog 95 #[.pointer (some ⟨s.p, 0, none⟩), .int .i64 f, .int .i64 t] w fun e w' => e = .returned (.int .i64 82) /\ w = w' := by
 have c1 := h.c1
 have l1 := h.hR.look hf
 rw [h0] at l1
 clear h h0
 go_enter Tryz.func95, Tryz.ntmps95
 go_wp2
 go_ret
 exact ⟨rfl, rfl⟩
set_option maxRecDepth 20000 in
theorem move_b {w s} (h : StAt w s) {f t : Int} (hf : K64 f) (ht : K64 t) (h0 : (mget s.refs f).getD 0 ≠ 0) (h1 : (mget s.refs t).getD 0 ≠ 0) :
  Calls Tryz.prog 95 #[.pointer (some ⟨s.p, 0, none⟩), .int .i64 f, .int .i64 t] w fun e w' => e = .returned (.int .i64 82) /\ w = w' := by
 have c1 := h.c1
 have l1 := h.hR.look hf
 have l2 := h.hR.look ht
 clear h
 generalize (mget s.refs f).getD 0 = a at *
 generalize (mget s.refs t).getD 0 = b at *
 have e1 : (a == 0) = false := by simpa using h0
 have e2 : (b != 0) = true := by simpa using h1
 clear h0 h1
 go_enter Tryz.func95, Tryz.ntmps95
 go_wp2
 go_ret
 exact ⟨rfl, rfl⟩
def movS (s : St) (f t : Int) : St := { s with sp := s.sp.map (mvSp f t), refs := mdel (mput s.refs t ((mget s.refs f).getD 0)) f }
def MvS (w : World) (s : St) (f t : Int) (r : Nat) (rest : Pl) (wr : World) : Prop :=
 Rg elP wr s.bS r (spm s.sp) rest /\ rest.Sublist (spm s.sp) /\ StAt wr { s with sp := mvS f t s.sp rest } /\ Ch w wr s s /\ w.heap.size <= r
def MvI (w : World) (s : St) (x : Sp) (f t : Int) (r r2 L : Nat) (rest cur ri : Pl) (wr : World) : Prop :=
 Rg elI wr x.pb r2 cur ri /\ InvI f t x.ps cur ri /\ Rg elP wr s.bS r (spm s.sp) (mdel rest x.id) /\ wr.rangeLeft s.bS r = L /\ StAt wr { s with sp := ssp (mvS f t s.sp rest) { x with ps := cur } } /\ Ch w wr s s /\ w.heap.size <= r2
theorem ssp_self {l : List Sp} (hu : Up (spm l)) {x : Sp} (hx : x ∈ l) : ssp l x = l := by
 unfold ssp
 refine (List.map_congr_left (g := id) (fun y hy => ?_)).trans (List.map_id _)
 by_cases e : y.id = x.id
 ·rw [if_pos e, up_one hu hy hx e]; rfl
 ·rw [if_neg e]; rfl
theorem mvi_foot {w : World} {s : St} {x : Sp} {f t : Int} {rest cur : Pl} (h : StAt w { s with sp := mvS f t s.sp rest }) (hx : gsp (mvS f t s.sp rest) x.id = some x) : foot { s with sp := ssp (mvS f t s.sp rest) { x with ps := cur } } = foot s :=
 (foot_ssp h hx (x' := { x with ps := cur }) rfl rfl rfl s.refs s.bad s.worn).trans (mvS_foot f t s rest s.refs)
theorem gsp_ssp {l : List Sp} {x y : Sp} (h : gsp l x.id = some y) : gsp (ssp l x) x.id = some x := by
 unfold gsp ssp at *
 rw [List.find?_map]
 have : ((fun z : Sp => decide (z.id = x.id)) ∘ fun y : Sp => if y.id = x.id then x else y) = fun z => decide (z.id = x.id) := by
  funext z
  simp only [Function.comp]
  by_cases e : z.id = x.id <;> simp [e]
 rw [this, h]
 have := List.find?_some h
 simp at this
 simp [this]
theorem wp_putR (w : World) {ops : Array Oper} {rest : List Oper} {o : Oper} {a : Act} {Q : Exit -> Act -> World -> Prop} {b r : Nat} {m ps : Pl} (hg : o.guard = none) (mo x v : Operand) (hop : o.op = Op.mapUpdate 129 mo x v) (h : Rg elI w b r m ps) (hn : m.length < 1000000)
  (k c : Int) (hm : a.eval mo = .map (some b)) (hx : a.eval x = .int .i64 k) (hv : a.eval v = .int .i64 c) (hk : K64 k) (hmk : (mget m k).isSome = true) (hps : ∀ p ∈ ps, p.1 ≠ k)
  (hK : ∀ w', Rg elI w' b r (mput m k c) ps -> w.mapTurned w' b -> w'.rangeLeft b r = w.rangeLeft b r -> wpList Tryz.prog ops Q rest (a.put o.dst undef) w') : wpList Tryz.prog ops Q (o :: rest) a w := by
 refine wpList_plain hg fun K' hK' => ?_
 obtain ⟨w', hrun, r1, r2, r3⟩ := h.store hn (v := c) hk hmk hps
 unfold Oper.wp
 simp [execOp, hop, hm, hx, hv, hrun, Result.andThen]
 exact hK' _ _ (hK w' r1 r2 r3)
theorem mput_len (m : Pl) (k v : Int) : (mput m k v).length <= m.length + 1 := by
 have h1 : ∀ l : Pl, (mins (k, v) l).length = l.length + 1 := by
  intro l
  induction l with
  | nil => rfl
  | cons y q ih => unfold mins; split <;> simp [ih]
 have h2 : (mdel m k).length <= m.length := List.length_filter_le _ _
 show (mins (k, v) (mdel m k)).length <= m.length + 1
 rw [h1]; omega
theorem InvI.len {f t : Int} {ps cur rest : Pl} (h : InvI f t ps cur rest) (hu : Up ps) (hc : Up cur) : cur.length = ps.length := by
 have e : cur.map (·.1) = ps.map (·.1) := by
  have q1 : ∀ m : Pl, Up m -> Up (m.map fun p => (p.1, 0)) := fun m hm => by unfold Up at *; rw [List.pairwise_map]; exact hm
  have q2 : ∀ (m : Pl) (a : Int), mget (m.map fun p => (p.1, 0)) a = (mget m a).map fun _ => 0 := by
   intro m a
   induction m with
   | nil => rfl
   | cons p r ih => rw [List.map_cons, mget_cons, mget_cons, ih]; split <;> rfl
  have := up_ext (q1 cur hc) (q1 ps hu) (fun a => by
   rw [q2, q2, h.get]
   split
   ·rfl
   ·rw [Option.map_map]; rfl)
  have := congrArg (List.map (·.1)) this
  rw [List.map_map, List.map_map] at this
  exact this
 have := congrArg List.length e
 simpa using this
set_option maxRecDepth 20000 in
theorem move_c {w s} (h : StAt w s) {f t : Int} (hf : K64 f) (ht : K64 t) (h0 : (mget s.refs f).getD 0 ≠ 0) (h1 : (mget s.refs t).getD 0 = 0) (hid : ∀ x ∈ s.sp, K64 x.id) (hn : s.refs.length < 10000) (hps : ∀ x ∈ s.sp, x.ps.length < 100000) :
  Calls Tryz.prog 95 #[.pointer (some ⟨s.p, 0, none⟩), .int .i64 f, .int .i64 t] w fun e w' => e = .returned (.int .i64 0) /\ StAt w' (movS s f t) /\ Ch w w' s (movS s f t) := by
 have c0 := h.c0
 have c1 := h.c1
 have l1 := h.hR.look hf
 have l2 := h.hR.look ht
 rw [h1] at l2
 have H := Hid.mk (And.intro h (And.intro hid (And.intro hn hps)))
 clear h hid hn hps
 unfold movS
 generalize ha : (mget s.refs f).getD 0 = a at *
 have HA := Hid.mk ha
 have hft : Hid (f ≠ t) := by
  intro e
  subst e
  rw [ha] at h1
  exact h0 h1
 have e1 : (a == 0) = false := by simpa using h0
 clear h0 h1 ha
 go_enter Tryz.func95, Tryz.ntmps95
 go_upto_region 4 with (first | (at_range; refine wp_range _ rfl _ 128 127 rfl Tryz.underlying128 H.out.1.hS rfl ?_; intro w1 r1 b1 z1))
 go_frame
 have S0 : MvS w s f t w.heap.size (spm s.sp) w1 := ⟨r1, List.Sublist.refl _, by rw [mvS_start]; exact H.out.1.call b1, Ch.call b1, Nat.le_refl _⟩
 replace S0 := Hid.mk S0
 clear r1 b1 z1 c0 c1 l1 l2 e1
 generalize w.heap.size = r at *
 go_loopw [8] (fun _ wr => ∃ rest, MvS w s f t r rest wr) (fun _ wr => wr.rangeLeft s.bS r)
 case atStart => exact ⟨_, S0.out⟩
 case round =>
  clear S0
  obtain ⟨rest, hs⟩ := hrel
  have HS := Hid.mk hs
  clear hs
  go_wp2_with (first | (at_next; refine wp_nextP _ rfl _ rfl HS.out.1 rfl ?_ ?_))
  ·intro hd
   subst hd
   have g0 := HS.out.2.2.1
   rw [mvS_end] at g0
   have G0 := Hid.mk g0
   have la : (Instr.lookup 129 (.map (some s.bR)) (.int .i64 f) false).run Tryz.prog wr.drew = .ok (.int .i64 a) wr.drew := by
    have := g0.hR.drew.look hf
    rw [show (mget ({ s with sp := s.sp.map (mvSp f t) } : St).refs f).getD 0 = a from HA.out] at this
    exact this
   have hS0 := Hid.mk (And.intro (show wr.drew.cell? ⟨s.p, 1, none⟩ = some (.map (some s.bR)) from g0.drew.c1) la)
   obtain ⟨w3, hrun, m3, t3⟩ := g0.hR.drew.store (m := s.refs) Tryz.underlying129 (by have := H.out.2.2.1; omega) ht (val := .int .i64 a) (v := a) rfl
   have g3 := g0.drew.refsT m3 t3
   have ml : (mput s.refs t a).length < 1000000 := by
    have h1 : ∀ l : Pl, (mins (t, a) l).length = l.length + 1 := by
     intro l
     induction l with
     | nil => rfl
     | cons y q ih => unfold mins; split <;> simp [ih]
    have h2 : (mdel s.refs t).length <= s.refs.length := List.length_filter_le _ _
    have := H.out.2.2.1
    show (mins (t, a) (mdel s.refs t)).length < 1000000
    rw [h1]; omega
   have d1 : w3.cell? ⟨s.p, 1, none⟩ = some (.map (some s.bR)) := g3.c1
   have G3 := Hid.mk (And.intro g3 (And.intro m3 t3))
   have hS3 := Hid.mk (And.intro d1 (show (Instr.lookup 129 (.map (some s.bR)) (.int .i64 f) false).run Tryz.prog w3 = .ok (.int .i64 a) w3 by
    have := m3.look hf
    rw [mget_put_ne hft, HA.out] at this
    exact this))
   clear g0 la g3 m3 t3
   go_upto_region 11 with fail
   refine wp_region_held_drew (S := fun w' => w'.cell? ⟨s.p, 1, none⟩ = some (.map (some s.bR)) /\ (Instr.lookup 129 (.map (some s.bR)) (.int .i64 f) false).run Tryz.prog w' = .ok (.int .i64 a) w') (by kernel_rfl) hS0.out (fun hHeld => ?_)
   refine tkC 0 hHeld ?_
   refine tkC 1 hHeld ?_
   refine tkC 2 hHeld ?_
   refine tkC 3 hHeld ?_
   refine tkC 4 hHeld ?_
   refine tkC 5 hHeld ?_
   refine tkC 6 hHeld ?_
   refine tkC 7 hHeld ?_
   refine tkC 8 hHeld ?_
   refine tkC 9 hHeld ?_
   refine tkC 10 hHeld ?_
   refine wpAnyH_ready (rs := [11]) (by kernel_rfl) (by simp) ?_
   refine arH rfl (fun K hK => ?_) AllReadyH.nil
   go_simp
   refine hK.out _ _ hS3.out (fun hHeld => ?_)
   clear hK K
   try simp only [Act.put, zA, zB, zC]
   refine wpAnyH_done (by kernel_rfl) ?_ _
   go_wp2_with (first | (at_delete; refine wp_del _ rfl _ _ 129 3 rfl Tryz.underlying129 G3.out.2.1 f rfl rfl hf ?_; intro w4 m4 t4))
   go_ret
   refine ⟨rfl, G3.out.1.refsT m4 t4, ?_⟩
   have hfo : foot { s with sp := s.sp.map (mvSp f t), refs := mdel (mput s.refs t a) f } = foot s := by rw [<- mvS_end]; exact mvS_foot f t s [] _
   have k1 : Ch wr w3 s s := ⟨G3.out.2.2.grown.os, G3.out.2.2.grown.tape, G3.out.2.2.grown.output, G3.out.2.2.grown.size, fun i hi hn => G3.out.2.2.grown.block i hi (fun e => hn (by cases e; exact mem_bR s)), fun _ h => .inl h, rfl⟩
   exact (HS.out.2.2.2.1.trans k1).trans (Ch.turned t4 (mem_bR s) hfo rfl)
  ·intro k g w2 hm hk2 hrg hlt hgr hsz hen
   obtain ⟨x, hx, ex⟩ := List.mem_map.1 (HS.out.2.1.subset hm)
   simp only [Prod.mk.injEq, Int.ofNat_inj] at ex
   obtain ⟨rfl, rfl⟩ := ex
   have hur : Up rest := up_sub H.out.1.hS.up HS.out.2.1
   have hxr : (mget rest x.id).isSome = true := by rw [mem_mget hur hm]; rfl
   have g2 : StAt w2 { s with sp := mvS f t s.sp rest } := HS.out.2.2.1.step H.out.1 (mvS_foot f t s rest s.refs) hgr HS.out.2.2.2.2
   have X2 := g2.mvs hx hxr
   have p2 := X2.pb
   have hgx : gsp s.sp x.id = some x := by
    have h1 : (gsp s.sp x.id).isSome = true := by unfold gsp; rw [List.find?_isSome]; exact ⟨x, hx, by simp⟩
    obtain ⟨y, hy⟩ := Option.isSome_iff_exists.1 h1
    rw [hy, up_one H.out.1.hS.up (gsp_some hy).1 hx (gsp_some hy).2]
   have hgm := mvS_gsp (f := f) (t := t) hgx hxr
   have HG := Hid.mk (And.intro g2 (And.intro X2 (And.intro hrg (And.intro hlt (And.intro (HS.out.2.2.2.1.step hgr HS.out.2.2.2.2) (And.intro hgm hx))))))
   clear g2 X2 hrg hlt hgr hsz hgx hgm hur
   go_upto_region 7 with (first | (at_range; refine wp_range _ rfl _ 129 3 rfl Tryz.underlying129 HG.out.2.1.2 rfl ?_; intro w3 r3 b3 z3))
   go_frame
   have S1 : MvI w s x f t r w2.heap.size (w2.rangeLeft s.bS r) rest x.ps x.ps w3 := by
    have q := HG.out.2.2.1
    refine ⟨r3, InvI.start f t x.ps, q.same (b3.block _ q.mp.lt) (b3.block _ q.lt), left_same (b3.block _ q.mp.lt) (b3.block _ q.lt), ?_, HG.out.2.2.2.2.1.trans (Ch.call b3), HG.out.2.2.2.2.1.size⟩
    have : ssp (mvS f t s.sp rest) { x with ps := x.ps } = mvS f t s.sp rest := ssp_self (by rw [mvS_spm]; exact H.out.1.hS.up) (gsp_some HG.out.2.2.2.2.2.1).1
    rw [this]
    exact HG.out.1.call b3
   replace S1 := Hid.mk S1
   have hL := Hid.mk HG.out.2.2.2.1
   clear r3 b3 z3 p2
   generalize w2.rangeLeft s.bS r = L at *
   generalize w2.heap.size = r2 at *
   go_loopw [9, 10] (fun _ _ wy => ∃ cur ri, MvI w s x f t r r2 L rest cur ri wy) (fun _ _ wy => wy.rangeLeft x.pb r2)
   case atStart => exact ⟨_, _, S1.out⟩
   case round =>
    clear S1
    obtain ⟨cur, ri, hi⟩ := hrel
    have HI := Hid.mk hi
    clear hi
    go_wp2_with (first | (at_next; refine wp_next _ rfl _ rfl HI.out.1 rfl ?_ ?_))
    ·intro hd
     subst hd
     have e0 := HI.out.2.1.fin HG.out.2.1.2.up HI.out.1.mp.up
     go_wp2_with fail
     refine ⟨⟨_, HI.out.2.2.1, (mdel_sub _ _).trans HS.out.2.1, ?_, HI.out.2.2.2.2.2.1, HS.out.2.2.2.2⟩, ?_⟩
     ·have g5 := HI.out.2.2.2.2.1
      rw [e0, show ({ x with ps := mvP f t x.ps } : Sp) = mvSp f t x from rfl, mvS_ssp H.out.1.hS.up hx] at g5
      exact g5
     ·rw [HI.out.2.2.2.1]; exact hL.out
    ·intro k c w4 hm4 hk4 hrg4 hlt4 hgr4 hsz4 hen4
     have hfo : ∀ q : Pl, foot { s with sp := ssp (mvS f t s.sp rest) { x with ps := q } } = foot s := fun q => mvi_foot HG.out.1 HG.out.2.2.2.2.2.1
     have g4 := HI.out.2.2.2.2.1.step H.out.1 (hfo cur) hgr4 HI.out.2.2.2.2.2.2
     have hgx := gsp_ssp (x := { x with ps := cur }) HG.out.2.2.2.2.2.1
     have X4 := g4.hsp _ (gsp_some hgx).1
     have p4 : w4.cell? ⟨x.sb, 2, none⟩ = some (.map (some x.pb)) := X4.pb
     have hbx := (H.out.1.ap.2.2.2.2.2.2.1 x hx).1
     have hbl := H.out.1.hS.lt
     have hr2w := HI.out.2.2.2.2.2.2
     have hrw := HS.out.2.2.2.2
     have hxl := H.out.1.foot_lt _ (mem_pb hx)
     have hrr : r ≠ r2 := by
      intro e
      obtain ⟨_, _, _, q1⟩ := HI.out.1.iter
      obtain ⟨_, _, _, q2⟩ := HI.out.2.2.1.iter
      rw [e, q1] at q2
      simp at q2
      exact hbx q2.1
     have k1 := hgr4.block s.bS HI.out.2.2.1.mp.lt (by simp; omega)
     have k2 := hgr4.block r HI.out.2.2.1.lt (by simpa using hrr)
     have q4 := HI.out.2.2.1.same k1 k2
     have j4 := (left_same k1 k2).trans HI.out.2.2.2.1
     have C4 := HI.out.2.2.2.2.2.1.step hgr4 hr2w
     have hcu := HI.out.1.mp.up
     have hmc := mem_mget hcu (HI.out.2.1.sub.subset hm4)
     by_cases hc : c = f
     ·have hcl : cur.length < 1000000 := by have := HI.out.2.1.len HG.out.2.1.2.up hcu; have := H.out.2.2.2 x hx; omega
      have inv := HI.out.2.1.put hcu (hc ▸ hm4)
      have hms : (mget cur k).isSome = true := by rw [hmc]; rfl
      have H4 := Hid.mk (And.intro g4 (And.intro hgx (And.intro hrg4 (And.intro hlt4 (And.intro inv (And.intro q4 (And.intro j4 (And.intro C4 (And.intro hfo (And.intro hbx (And.intro hbl (And.intro hrw hxl))))))))))))
      clear g4 hgx X4 hrg4 hlt4 inv q4 j4 C4 hcu hmc hm4 hgr4 hsz4 k1 k2 hrr hfo hbx hbl hr2w hrw hxl
      go_wp2_with (first | (at_mapUpdate; refine wp_putR _ rfl _ _ _ rfl H4.out.2.2.1 hcl k t rfl rfl rfl hk4 hms (mdel_ne _ _) ?_; intro w5 r5 t5 l5; go_frame))
      obtain ⟨g4, hgx, hrg4, hlt4, inv, q4, j4, C4, hfo, hbx, hbl, hrw, hxl⟩ := H4.out
      have k3 := t5.grown.block s.bS q4.mp.lt (by simpa using hbx.symm)
      have k4 := t5.grown.block r q4.lt (by simp; omega)
      have g5 := g4.pagesT hgx r5.mp t5
      refine ⟨⟨_, _, r5, inv, q4.same k3 k4, (left_same k3 k4).trans j4, ?_, C4.trans (Ch.turned t5 (mem_pb hx) rfl rfl), HI.out.2.2.2.2.2.2⟩, ?_⟩
      ·have e5 := ssp_ssp (mvS f t s.sp rest) { x with ps := cur } { x with ps := mput cur k t } rfl
       rw [<- e5]
       exact g5
      ·rw [l5]; exact hlt4
     ·have inv := HI.out.2.1.skip hcu hm4 hc
      have H4 := Hid.mk (And.intro g4 (And.intro hrg4 (And.intro hlt4 (And.intro inv (And.intro q4 (And.intro j4 C4))))))
      clear g4 hgx X4 hrg4 hlt4 inv q4 j4 C4 hcu hmc hm4 hgr4 hsz4 k1 k2 hrr hfo hbx hbl hr2w hrw hxl
      go_wp2_with fail
      obtain ⟨g4, hrg4, hlt4, inv, q4, j4, C4⟩ := H4.out
      exact ⟨⟨_, _, hrg4, inv, q4, j4, g4, C4, HI.out.2.2.2.2.2.2⟩, hlt4⟩
end Go.Proofs.YtcmmhfjnhlaepabGreatDoor.S8
