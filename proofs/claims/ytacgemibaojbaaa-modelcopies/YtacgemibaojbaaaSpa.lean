/-
  Spaces in memory: a map of structs, each with a map of its pages; what is looked up there. No condition.
-/
import Derived.Test.YtacgemibaojbaaaPur
import Derived.Test.YtacgemibaojbaaaShelf
namespace Go.Proofs.Ytacgemibaojbaaa
open Go Go.RowKit Go.Maps Go.Sort Go.Shelf

def spE (f : Int → Nat) (x : Asp) : Int × Bool × Nat := (x.q, x.sl, f x.id)
def spm (f : Int → Nat) (l : List Asp) : Pl := l.map fun x => (x.id, cS (spE f x))
/-- which numbers spaces may have; pages are of puts from 1 on -/
structure InvM (n : Int) (l : List Asp) : Prop where
  inv : InvA ⟨l, [], []⟩
  pos : ∀ x ∈ l, ∀ p ∈ x.ps, 1 ≤ p.2 ∧ p.2 ≤ n
/-- block b is these spaces; the pages of space i are in block f i -/
structure SpsAt (L : Int → ByteArray) (w : World) (b : Nat) (l : List Asp) (f : Int → Nat) : Prop where
  mp : Mp elS w b (spm f l)
  pg : ∀ x ∈ l, Mp (elL L) w (f x.id) x.ps
  ne : ∀ x ∈ l, f x.id ≠ b
theorem SpsAt.lt {L w b l f} (h : SpsAt L w b l f) : b < w.heap.size := h.mp.lt
theorem SpsAt.same {L} {w w' : World} {b l f} (h : SpsAt L w b l f) (e : ∀ i, i < w.heap.size → (i = b ∨ ∃ x ∈ l, i = f x.id) → w'.heap[i]? = w.heap[i]?) : SpsAt L w' b l f :=
  ⟨h.mp.same (e b h.lt (.inl rfl)), fun x hx => (h.pg x hx).same (e _ (h.pg x hx).lt (.inr ⟨x, hx, rfl⟩)), h.ne⟩
theorem SpsAt.call {L} {w w' : World} {b l f} (h : SpsAt L w b l f) (q : Below w.heap.size w w') : SpsAt L w' b l f := h.same fun i hi _ => q.block i hi
theorem SpsAt.alloc {L} {w : World} {b l f} (h : SpsAt L w b l f) (o : Obj) : SpsAt L (w.alloc o) b l f := h.same fun i hi _ => Below.heap_alloc w o i hi
theorem spm_get (f : Int → Nat) (l : List Asp) (id : Int) : mget (spm f l) id = ((gA l id).map (spE f)).map cS := by
  unfold mget spm gA
  rw [List.find?_map]
  simp only [Option.map_map]
  rfl
theorem spm_len (f : Int → Nat) (l : List Asp) : (spm f l).length = l.length := by simp [spm]
theorem spm_ids (f : Int → Nat) (l : List Asp) : (spm f l).map (·.1) = l.map (·.id) := by
  unfold spm
  rw [List.map_map]
  rfl
theorem InvM.q {n l} (h : InvM n l) {x : Asp} (hx : x ∈ l) : 0 ≤ x.q ∧ x.q < 2048 := by have := h.inv.qs x hx; omega
theorem spm_code {f : Int → Nat} {n l} (h : InvM n l) : ∀ p ∈ spm f l, p.2 ≠ -1 := by
  intro p hp
  obtain ⟨x, hx, rfl⟩ := List.mem_map.1 hp
  exact cS_pos (h.q hx)
/-- what is looked up: a space that is there, and none -/
theorem SpsAt.look {L n} {w : World} {b l f} (h : SpsAt L w b l f) (hi : InvM n l) (c : Bool) {id : Int} (hk : K64 id) {x : Asp} (hg : gA l id = some x) : (Instr.lookup 70 (.map (some b)) (.int .i64 id) c).run Try.prog w = .ok (if c then .tuple #[.agg #[.int .i64 x.q, .bool x.sl, .map (some (f id))], .bool true] else .agg #[.int .i64 x.q, .bool x.sl, .map (some (f id))]) w := by
  have hx := gA_some hg
  have := h.mp.lookS c hk (y := some (spE f x)) (by rw [spm_get, hg]; rfl) (fun z e => by cases e; exact hi.q hx.1)
  simp only [spE, svS, hx.2, Option.isSome_some] at this
  exact this
theorem SpsAt.lookNo {L} {w : World} {b l f} (h : SpsAt L w b l f) (c : Bool) {id : Int} (hk : K64 id) (hg : gA l id = none) : (Instr.lookup 70 (.map (some b)) (.int .i64 id) c).run Try.prog w = .ok (if c then .tuple #[.agg #[.int .i64 0, .bool false, .map none], .bool false] else .agg #[.int .i64 0, .bool false, .map none]) w :=
  h.mp.lookS c hk (y := none) (by rw [spm_get, hg]; rfl) (fun z e => by cases e)
/-- a page that is looked up -/
theorem SpsAt.page {L n} {w : World} {b l f} (h : SpsAt L w b l f) (hi : InvM n l) (c : Bool) {id page : Int} (hk : K64 page) {x : Asp} (hg : gA l id = some x) : (Instr.lookup 95 (.map (some (f id))) (.int .i64 page) c).run Try.prog w = .ok (if c then .tuple #[svL L (mget x.ps page), .bool (mget x.ps page).isSome] else svL L (mget x.ps page)) w := by
  have hx := gA_some hg
  have := (h.pg x hx.1).lookL (fun p hp => (hi.pos x hx.1 p hp).1) c hk
  rw [hx.2] at this
  exact this
/-- a space that is there is turned, or one is laid -/
theorem spm_set {f : Int → Nat} {l : List Asp} (hu : UpA l) {x x' : Asp} (hx : x ∈ l) (he : x'.id = x.id) (g : Nat) : mput (spm f l) x.id (cS (x'.q, x'.sl, g)) = spm (fun i => if i = x.id then g else f i) (sA l x') := by
  have hup : Up (spm f l) := by unfold Up spm; rw [List.pairwise_map]; exact hu
  refine up_ext (up_put hup _ _) ?_ fun k => ?_
  · unfold Up spm
    rw [List.pairwise_map]
    have := upA_sA (x := x') hu
    exact this
  · rw [spm_get]
    by_cases e : k = x.id
    · subst e
      have h1 : gA (sA l x') x.id = some x' := by
        have : x' ∈ sA l x' := by
          unfold sA
          exact List.mem_map.2 ⟨x, hx, by rw [if_pos he.symm]⟩
        have q := gA_mem (upA_sA (x := x') hu) this
        rw [he] at q
        exact q
      rw [h1, mget_put]
      simp [spE, he]
    · rw [mget_put_ne e, spm_get]
      have h1 : gA (sA l x') k = gA l k := by
        clear hup hu hx
        induction l with
        | nil => rfl
        | cons y r ih =>
          unfold gA at ih ⊢
          show List.find? _ ((if y.id = x'.id then x' else y) :: sA r x') = _
          rw [List.find?_cons, List.find?_cons, ih]
          by_cases e2 : y.id = x'.id
          · rw [if_pos e2]
            have e3 : ¬ x'.id = k := by rw [he]; exact fun q => e q.symm
            have e4 : ¬ y.id = k := by rw [e2]; exact e3
            simp [e3, e4]
          · rw [if_neg e2]
      rw [h1]
      cases hgk : gA l k with
      | none => rfl
      | some y =>
        have := (gA_some hgk).2
        simp only [Option.map_some, spE]
        rw [if_neg (by rw [this]; exact e)]
theorem spm_new {f : Int → Nat} {l : List Asp} {x : Asp} (hx : gA l x.id = none) (g : Nat) : mput (spm f l) x.id (cS (x.q, x.sl, g)) = spm (fun i => if i = x.id then g else f i) (iA x l) := by
  have hn := gA_none hx
  unfold mput
  rw [mdel_none (fun p hp => by obtain ⟨y, hy, rfl⟩ := List.mem_map.1 hp; exact hn y hy)]
  clear hx
  induction l with
  | nil => simp [spm, mins, iA, spE]
  | cons y r ih =>
    have h1 : y.id ≠ x.id := hn y (by simp)
    have h2 := ih (fun z hz => hn z (by simp [hz]))
    have er : spm (fun i => if i = x.id then g else f i) r = spm f r := by
      unfold spm
      apply List.map_congr_left
      intro z hz
      simp only [spE]
      rw [if_neg (hn z (by simp [hz]))]
    show mins _ ((y.id, cS (spE f y)) :: spm f r) = _
    unfold mins iA
    by_cases e : x.id < y.id
    · rw [if_pos (show x.id < y.id from e), if_pos e]
      show _ = (x.id, cS (spE _ x)) :: (y.id, cS (spE _ y)) :: spm _ r
      rw [er]
      simp only [spE, if_neg h1, if_pos]
    · rw [if_neg (show ¬ x.id < y.id from e), if_neg e]
      show _ = (y.id, cS (spE _ y)) :: spm _ (iA x r)
      rw [h2]
      simp only [spE, if_neg h1]
theorem spm_drop {f : Int → Nat} (l : List Asp) (id : Int) : mdel (spm f l) id = spm f (dA l id) := by
  unfold mdel spm dA
  rw [List.filter_map]
  rfl
end Go.Proofs.Ytacgemibaojbaaa
