/-
  Reading a page, marking a block: the walks of Read and Mark. No condition. Erasing a block: the walk of Erase. No condition. Writing a page: the walk of Program. No condition.
-/
import Derived.Test.YtbhggcleijjofaaDoorNow
import Derived.Deep.RegionHeld3
import Derived.Lib.SliceRun
import Derived.Lib.LazyBuf
import Derived.BigFrame
namespace Go.Proofs.YtbhggcleijjofaaDoor
open Go Go.RowKit

theorem notEmpty {R : ByteArray} (h : ¬ R = ⟨#[]⟩) : R.toList.isEmpty = false := by
  rw [ByteArray.toList_eq]
  cases hl : R.data.toList with
  | nil => exact absurd (ByteArray.ext (by simpa using hl)) h
  | cons => rfl
/-- what a page has -/
def seen (C : Ch) (b p : Nat) : ByteArray := if C.pg b p = ⟨#[]⟩ then rep (C.Z + 32) 255 else C.pg b p
theorem seen_size {w : World} {L C} (h : Chip w L C) (b p : Nat) : (seen C b p).size = C.Z + 32 := by
  unfold seen
  split
  · exact rep_size _ _
  · rename_i hne
    rcases h.len b p with h0 | h0
    · exact absurd (ByteArray.ext (Array.eq_empty_of_size_eq_zero h0)) hne
    · exact h0
/-- what Read answers -/
def rdV (C : Ch) (b p : Int) : Value := if refP C b p = 0 then .tuple #[.string ((seen C b.toNat p.toNat).extract 0 C.Z), .string ((seen C b.toNat p.toNat).extract C.Z (C.Z + 32)), .int .i64 0] else .tuple #[.string ⟨#[]⟩, .string ⟨#[]⟩, .int .i64 (refP C b p)]
theorem read_any {w : World} {L C} (h : Chip w L C) (b p : Int) : Calls Tryd.prog 29 #[.pointer (some ⟨L.a, 0, none⟩), .int .i64 b, .int .i64 p] w fun e w' => e = .returned (rdV C b p) ∧ Below w.heap.size w w' := by
  unfold rdV
  by_cases h0 : refP C b p = 0
  · rw [if_pos h0]
    have hr0 := Hid.mk h0
    obtain ⟨_, ⟨b, rfl, hb⟩, p, rfl, hp⟩ := refP_zero h0
    rw [Int.toNat_natCast, Int.toNat_natCast]
    obtain ⟨mc, mf, n, k, _, _, c0, c1, c2, c3, c4, c5, c6, c7, _⟩ := h.cellA
    obtain ⟨b0, b1, b2, b3⟩ := h.cellB b hb
    have p0 := h.cellP b p hb hp
    have hs := seen_size h b p
    have hg := h.geo
    have HH := Hid.mk h
    have HG := Hid.mk hg
    have hb1 : (b : Int) < C.B := by omega
    have hp1 : (p : Int) < C.P := by omega
    clear h h0 hg
    by_cases he : C.pg b p = ⟨#[]⟩
    · have es : seen C b p = rep (C.Z + 32) 255 := by unfold seen; rw [if_pos he]
      rw [es] at hs
      rw [es]
      rw [he] at p0
      generalize hR : rep (C.Z + 32) 255 = R at *
      have HR := Hid.mk (And.intro hR es)
      clear hR es
      go_enter Tryd.func29, Tryd.ntmps29
      go_upto_region 7 with (first
        | (go_at_call 49; refine (refusep_any HH.out _ _).mono ?_; rintro e w' ⟨rfl, rfl⟩; rw [hr0.out])
        | (go_at_call 50; refine (filled_any HH.out _).mono ?_; rintro e w1 ⟨rfl, b1⟩; rw [HR.out.1]))
      obtain ⟨_, _, _, _, _, _, _, _, d2, _⟩ := (HH.out.call b1).cellA
      have HB := Hid.mk b1
      clear b1 c0 c1 c2 c3 c4 c5 c6 c7 b0 b2 b3 p0
      go_region
      go_wp2_with fail
      go_ret3
      exact ⟨rfl, HB.out.drew⟩
    · have es : seen C b p = C.pg b p := by unfold seen; rw [if_neg he]
      rw [es] at hs
      rw [es]
      generalize hR : C.pg b p = R at *
      have HR := Hid.mk (And.intro hR es)
      have hne := notEmpty he
      clear hR es he
      go_enter Tryd.func29, Tryd.ntmps29
      go_upto_region 7 with (first
        | (go_at_call 49; refine (refusep_any HH.out _ _).mono ?_; rintro e w' ⟨rfl, rfl⟩; rw [hr0.out]))
      clear c0 c1 c3 c4 c5 c6 c7 b0 b1 b2 b3 p0
      go_region
      go_wp2_with fail
      go_ret3
      exact ⟨rfl, (Below.refl _ _).drew⟩
  · rw [if_neg h0]
    have HH := Hid.mk h
    clear h
    go_enter Tryd.func29, Tryd.ntmps29
    go_wp2_with (go_at_call 49; refine (refusep_any HH.out _ _).mono ?_; rintro e w' ⟨rfl, rfl⟩)
    go_ret3
    exact ⟨rfl, Below.refl _ _⟩
/-- a block is marked -/
def markC (C : Ch) (b : Int) : Ch × Int :=
  if refB C b = 0 then
    match C.cuts (C.did + 1) with
    | some x => ({ C with did := C.did + 1, off := true, mark := upd C.mark b.toNat (C.mark b.toNat || decide (0 < x.1)) }, 51)
    | none => ({ C with did := C.did + 1, mark := upd C.mark b.toNat true }, 0)
  else (C, refB C b)
theorem mark_any {w : World} {L C} (h : Chip w L C) (b : Int) (hd : C.did < 999999) : Calls Tryd.prog 84 #[.pointer (some ⟨L.a, 0, none⟩), .int .i64 b] w fun e w' =>
    e = .returned (.int .i64 (markC C b).2) ∧ Chip w' L (markC C b).1 ∧ Kp (L.own C.B) w w' := by
  unfold markC
  by_cases h0 : refB C b = 0
  · rw [if_pos h0]
    have hr0 := Hid.mk h0
    obtain ⟨hoff, b, rfl, hb⟩ := refB_zero h0
    have HO := Hid.mk hoff
    clear hoff
    rw [Int.toNat_natCast]
    obtain ⟨mc, mf, n, k, _, _, c0, c1, c2, c3, c4, c5, c6, c7, hf⟩ := h.cellA
    obtain ⟨b0, b1, b2, b3⟩ := h.cellB b hb
    have f6 := hf 6
    have hdr := h.didr
    have HD := Hid.mk (h.setDid (C.did + 1) (by omega))
    have HK := Hid.mk ((Kp.refl (L.own C.B) w).setCell (p := ⟨L.a, 6, none⟩) (Or.inl rfl) (.int .i64 (C.did + 1)))
    have HH := Hid.mk h
    have hb1 : (b : Int) < C.B := by omega
    clear h h0 hf
    cases hc : C.cuts (C.did + 1) with
    | none =>
      simp only
      go_enter Tryd.func84, Tryd.ntmps84
      go_upto_region 9 with (first
        | (go_at_call 71; refine (refuse_any HH.out _).mono ?_; rintro e w' ⟨rfl, rfl⟩; rw [hr0.out])
        | (go_at_call 79; refine (cutnow_none HD.out hc).mono ?_; rintro e w1 ⟨rfl, b1⟩; unfold cut0))
      have HW := Hid.mk ((HD.out.call b1).alloc (.cells #[.int .i64 0, .int .i64 0, .int .u8 0] 61))
      have HQ := Hid.mk ((HK.out.call b1).alloc (.cells #[.int .i64 0, .int .i64 0, .int .u8 0] 61))
      generalize w1.alloc (.cells #[.int .i64 0, .int .i64 0, .int .u8 0] 61) = W at *
      clear b1 HD HK HH c0 c1 c2 c3 c4 c5 c6 c7 b0 b2 b3 f6
      obtain ⟨_, _, _, _, _, _, _, _, _, c3, _⟩ := HW.out.cellA
      obtain ⟨b0, b1, b2, b3⟩ := HW.out.cellB b hb
      have f3 := HW.out.frozenB (b * 4 + 3)
      go_wp2_with fail
      go_ret
      exact ⟨rfl, HW.out.setMark b true, HQ.out.setCell (p := ⟨L.bs, b * 4 + 3, none⟩) (Or.inr (Or.inl rfl)) _⟩
    | some x =>
      obtain ⟨k0, f⟩ := x
      simp only
      generalize hv : (C.mark b || decide (0 < k0)) = v
      have HV := Hid.mk hv
      clear hv
      go_enter Tryd.func84, Tryd.ntmps84
      go_upto_region 7 with (first
        | (go_at_call 71; refine (refuse_any HH.out _).mono ?_; rintro e w' ⟨rfl, rfl⟩; rw [hr0.out])
        | (go_at_call 79; refine (cutnow_some HD.out hc).mono ?_; rintro e w1 ⟨rfl, h1, q1⟩; unfold cutV))
      have cv : (w1.alloc (.cells #[.int .i64 (C.did + 1), .int .i64 k0, .int .u8 f] 61)).cell? ⟨w1.heap.size, 1, none⟩ = some (.int .i64 k0) := cell_of_row _ _ 1 _ 61 _ (heap_alloc_new w1 _)
      have HW := Hid.mk (h1.alloc (.cells #[.int .i64 (C.did + 1), .int .i64 k0, .int .u8 f] 61))
      have HQ := Hid.mk ((HK.out.trans q1).alloc (.cells #[.int .i64 (C.did + 1), .int .i64 k0, .int .u8 f] 61))
      generalize w1.alloc (.cells #[.int .i64 (C.did + 1), .int .i64 k0, .int .u8 f] 61) = W at *
      generalize w1.heap.size = G at *
      clear h1 q1 HD HK HH c0 c1 c2 c3 c4 c5 c6 c7 b0 b1 b2 b3 f6
      obtain ⟨_, _, _, _, _, _, _, _, _, c3, _⟩ := HW.out.cellA
      obtain ⟨b0, b1, b2, b3⟩ := HW.out.cellB b hb
      have f3 := HW.out.frozenB (b * 4 + 3)
      have hq : ∀ v, Chip (W.setCell ⟨L.bs, b * 4 + 3, none⟩ (.bool v)).drew L _ ∧ Kp (L.own C.B) w' (W.setCell ⟨L.bs, b * 4 + 3, none⟩ (.bool v)).drew := fun v => ⟨(HW.out.setMark b v).drew, (HQ.out.setCell (p := ⟨L.bs, b * 4 + 3, none⟩) (Or.inr (Or.inl rfl)) _).drew⟩
      have HX := Hid.mk hq
      clear hq
      simp only at b3
      cases hm : C.mark b
      · rw [hm] at b3
        by_cases hk : 0 < k0
        · obtain rfl : v = true := by rw [← HV.out, hm]; simp [hk]
          go_region
          go_wp2_with fail
          go_ret
          exact ⟨rfl, HX.out true⟩
        · obtain rfl : v = false := by rw [← HV.out, hm]; simp [hk]
          go_region
          go_wp2_with fail
          go_ret
          exact ⟨rfl, HX.out false⟩
      · rw [hm] at b3
        obtain rfl : v = true := by rw [← HV.out, hm]; rfl
        go_region
        go_wp2_with fail
        go_ret
        exact ⟨rfl, HX.out true⟩
  · rw [if_neg h0]
    have HH := Hid.mk h
    clear h
    go_enter Tryd.func84, Tryd.ntmps84
    go_wp2_with (go_at_call 71; refine (refuse_any HH.out _).mono ?_; rintro e w' ⟨rfl, rfl⟩)
    go_ret
    exact ⟨rfl, HH.out, Kp.refl _ _⟩
theorem zero9 (w : World) : (zeroValue 9).run Tryd.prog w = .ok (.string ⟨#[]⟩) w := by kernel_rfl
/-- pages are let go -/
theorem clear_run {W : World} {g P : Nat} {f : Nat → Value} (h : W.rowIs g 9 P f) (n c : Nat) (hn : n ≤ P) (ty : TypeId) :
    (Builtin.clear_ #[37] ty #[.slice (some ⟨g, 0, none⟩) n c]).run Tryd.prog W = .ok (.tuple #[]) (W.setCells g 0 (List.replicate n (.string ⟨#[]⟩))) := by
  by_cases h0 : n = 0
  · subst h0
    simp [Builtin.clear_, run_underlying Tryd.underlying37]
    rfl
  · refine Lib.run_clear_slice W 37 9 ty (.string ⟨#[]⟩) Tryd.underlying37 zero9 rfl rfl g 0 n c (by omega) (fun j hj => ?_) (fun j _ => ?_)
    · rw [Nat.zero_add, h.cell (by omega)]
      rfl
    · exact h.frozen _
theorem heap_setCells (g : Nat) : ∀ (vs : List Value) (o : Nat) (w : World) (i : Nat), i ≠ g → (w.setCells g o vs).heap[i]? = w.heap[i]?
  | [], _, _, _, _ => rfl
  | v :: r, o, w, i, h => (heap_setCells g r (o + 1) _ i h).trans (Below.heap_setCell w ⟨g, o, none⟩ v i h)
theorem Chip.clear {w : World} {L C} (h : Chip w L C) (b n : Nat) (hb : b < C.B) : Chip (w.setCells (L.pb b) 0 (List.replicate n (.string ⟨#[]⟩))) L { C with pg := upd C.pg b (fun p => if p < n then ⟨#[]⟩ else C.pg b p) } := by
  refine h.setRow b hb _ (fun p => ?_) ((rowIs_setCells _ 0 w _ (h.pgs b hb)).congr (fun p _ => ?_)) (fun i _ hi => heap_setCells _ _ _ _ i hi)
  · split
    · exact Or.inl rfl
    · exact h.len b p
  · rw [List.length_replicate]
    by_cases hp : p < n
    · rw [if_pos ⟨Nat.zero_le _, by omega⟩, if_pos hp]
      simp [hp]
    · rw [if_neg (by omega), if_neg hp]
theorem upd_upd {α : Type} (f : Nat → α) (b : Nat) (v u : α) : upd (upd f b v) b u = upd f b u := by
  funext i
  unfold upd
  split <;> rfl
theorem upd_same {α : Type} (f : Nat → α) (b : Nat) (v : α) : upd f b v b = v := by
  unfold upd
  rw [if_pos rfl]
/-- the text at an address -/
def strAt (w : World) (a : Addr) : ByteArray := match w.cell? a with | some (.string s) => s | _ => ⟨#[]⟩
theorem strAt_of {w : World} {a : Addr} {s : ByteArray} (h : w.cell? a = some (.string s)) : strAt w a = s := by
  unfold strAt
  rw [h]
/-- a chip one page of which is this -/
def putPg (C : Ch) (b q : Nat) (s : ByteArray) : Ch := { C with pg := upd C.pg b (upd (C.pg b) q s) }
theorem putPg_self (C : Ch) (b q : Nat) : putPg C b q (C.pg b q) = C := by
  unfold putPg
  rw [upd_self, upd_self]
theorem putPg_put (C : Ch) (b q : Nat) (s t : ByteArray) : putPg (putPg C b q s) b q t = putPg C b q t := by
  unfold putPg
  simp only [upd_upd, upd_same]
/-- what is held while a page is reckoned: the chip, what was there, the cut's own block -/
structure PgK (w0 : World) (L : Ly) (C : Ch) (b q G : Nat) (i k x : Int) (w' : World) : Prop where
  chip : Chip w' L (putPg C b q (strAt w' ⟨L.pb b, q, none⟩))
  kept : Kp (L.own C.B) w0 w'
  cut : w'.heap[G]? = some (.cells #[.int .i64 i, .int .i64 k, .int .u8 x] 61 (0, 0))
  ne : G ≠ L.pb b
  hb : b < C.B
  hq : q < C.P
theorem PgK.page {w0 : World} {L C b q G i k x} {w' : World} (h : PgK w0 L C b q G i k x w') : w'.cell? ⟨L.pb b, q, none⟩ = some (.string (strAt w' ⟨L.pb b, q, none⟩)) := by
  have := h.chip.cellP b q h.hb h.hq
  unfold putPg at this
  simp only [upd_same] at this
  exact this
theorem PgK.start {w0 w' : World} {L C b q G i k x} (h : Chip w' L C) (hk : Kp (L.own C.B) w0 w') (hc : w'.heap[G]? = some (.cells #[.int .i64 i, .int .i64 k, .int .u8 x] 61 (0, 0))) (hn : G ≠ L.pb b) (hb : b < C.B) (hq : q < C.P) : PgK w0 L C b q G i k x w' :=
  ⟨by rw [strAt_of (h.cellP b q hb hq), putPg_self]; exact h, hk, hc, hn, hb, hq⟩
theorem PgK.call {w0 : World} {L C b q G i k x} {w1 w2 : World} (h : PgK w0 L C b q G i k x w1) (b' : Below w1.heap.size w1 w2) : PgK w0 L C b q G i k x w2 := by
  have e : strAt w2 ⟨L.pb b, q, none⟩ = strAt w1 ⟨L.pb b, q, none⟩ := strAt_of ((b'.cell (p := ⟨L.pb b, q, none⟩) (h.chip.lt (Or.inr (Or.inr ⟨b, h.hb, rfl⟩)))).trans h.page)
  exact ⟨by rw [e]; exact h.chip.call b', h.kept.call b', (b'.block G (Array.getElem?_eq_some_iff.1 h.cut).1).trans h.cut, h.ne, h.hb, h.hq⟩
theorem PgK.drew {w0 : World} {L C b q G i k x} {w1 : World} (h : PgK w0 L C b q G i k x w1) : PgK w0 L C b q G i k x w1.drew := ⟨h.chip.drew, h.kept.drew, h.cut, h.ne, h.hb, h.hq⟩
theorem PgK.stored {w0 : World} {L C b q G i k x} {w1 : World} (h : PgK w0 L C b q G i k x w1) {s : ByteArray} (hs : s.size = 0 ∨ s.size = C.Z + 32) : PgK w0 L C b q G i k x (w1.setCell ⟨L.pb b, q, none⟩ (.string s)) := by
  have e : strAt (w1.setCell ⟨L.pb b, q, none⟩ (.string s)) ⟨L.pb b, q, none⟩ = s := strAt_of (World.cell?_setCell_same _ _ _ h.page)
  have h2 := h.chip.setPage b q h.hb s hs
  have h3 : Chip (w1.setCell ⟨L.pb b, q, none⟩ (.string s)) L (putPg (putPg C b q (strAt w1 ⟨L.pb b, q, none⟩)) b q s) := h2
  rw [putPg_put] at h3
  exact ⟨by rw [e]; exact h3, h.kept.setCell (p := ⟨L.pb b, q, none⟩) (Or.inr (Or.inr ⟨b, h.hb, rfl⟩)) _, (Below.heap_setCell w1 _ _ G h.ne).trans h.cut, h.ne, h.hb, h.hq⟩
/-- a page is written: what is there -/
theorem PgK.done {w0 : World} {L C b q G i k x} {w1 : World} (h : PgK w0 L C b q G i k x w1) {s : ByteArray} (hs : s.size = 0 ∨ s.size = C.Z + 32) : Chip (w1.setCell ⟨L.pb b, q, none⟩ (.string s)) L (putPg C b q s) ∧ Kp (L.own C.B) w0 (w1.setCell ⟨L.pb b, q, none⟩ (.string s)) := by
  have h2 := (h.stored hs).chip
  rw [strAt_of (World.cell?_setCell_same _ _ _ h.page)] at h2
  exact ⟨h2, (h.stored hs).kept⟩
theorem PgK.cells {w0 : World} {L C b q G i k x} {w' : World} (h : PgK w0 L C b q G i k x w') :
    w'.cell? ⟨L.bs, b * 4, none⟩ = some (.slice (some ⟨L.pb b, 0, none⟩) C.P C.P) ∧ w'.cell? ⟨L.pb b, q, none⟩ = some (.string (strAt w' ⟨L.pb b, q, none⟩)) ∧ w'.frozen? ⟨L.pb b, q, none⟩ = false ∧
    w'.cell? ⟨G, 0, none⟩ = some (.int .i64 i) ∧ w'.cell? ⟨G, 1, none⟩ = some (.int .i64 k) ∧ w'.cell? ⟨G, 2, none⟩ = some (.int .u8 x) ∧ PgK w0 L C b q G i k x w' :=
  ⟨(h.chip.cellB b h.hb).1, h.page, h.chip.frozenP b q h.hb, cell_of_row _ _ 0 _ 61 _ h.cut, cell_of_row _ _ 1 _ 61 _ h.cut, cell_of_row _ _ 2 _ 61 _ h.cut, h⟩
theorem pg_keep {w0 : World} {L C b q G i k x} {w1 w2 : World} {a1 a2 a3 a4 a5 a6 : Prop} (h : a1 ∧ a2 ∧ a3 ∧ a4 ∧ a5 ∧ a6 ∧ PgK w0 L C b q G i k x w1) (b' : Below w1.heap.size w1 w2) :
    w2.cell? ⟨L.bs, b * 4, none⟩ = some (.slice (some ⟨L.pb b, 0, none⟩) C.P C.P) ∧ w2.cell? ⟨L.pb b, q, none⟩ = some (.string (strAt w2 ⟨L.pb b, q, none⟩)) ∧ w2.frozen? ⟨L.pb b, q, none⟩ = false ∧
    w2.cell? ⟨G, 0, none⟩ = some (.int .i64 i) ∧ w2.cell? ⟨G, 1, none⟩ = some (.int .i64 k) ∧ w2.cell? ⟨G, 2, none⟩ = some (.int .u8 x) ∧ PgK w0 L C b q G i k x w2 := (h.2.2.2.2.2.2.call b').cells
theorem pg_store {w0 : World} {L C b q G i k x} {w1 : World} {a1 a2 a3 a4 a5 a6 : Prop} (h : a1 ∧ a2 ∧ a3 ∧ a4 ∧ a5 ∧ a6 ∧ PgK w0 L C b q G i k x w1) {s : ByteArray} (hs : s.size = 0 ∨ s.size = C.Z + 32) {w2 : World} (hw : w2 = w1.setCell ⟨L.pb b, q, none⟩ (.string s)) :
    w2.cell? ⟨L.bs, b * 4, none⟩ = some (.slice (some ⟨L.pb b, 0, none⟩) C.P C.P) ∧ w2.cell? ⟨L.pb b, q, none⟩ = some (.string (strAt w2 ⟨L.pb b, q, none⟩)) ∧ w2.frozen? ⟨L.pb b, q, none⟩ = false ∧
    w2.cell? ⟨G, 0, none⟩ = some (.int .i64 i) ∧ w2.cell? ⟨G, 1, none⟩ = some (.int .i64 k) ∧ w2.cell? ⟨G, 2, none⟩ = some (.int .u8 x) ∧ PgK w0 L C b q G i k x w2 := by
  rw [hw]
  exact (h.2.2.2.2.2.2.stored hs).cells
theorem pg_chip {w0 : World} {L C b q G i k x} {a1 a2 a3 a4 a5 a6 : Prop} {w' : World} (h : a1 ∧ a2 ∧ a3 ∧ a4 ∧ a5 ∧ a6 ∧ PgK w0 L C b q G i k x w') : Chip w' L (putPg C b q (strAt w' ⟨L.pb b, q, none⟩)) := h.2.2.2.2.2.2.chip
theorem pg_all {w0 : World} {L C b q G i k x} {a1 a2 a3 a4 a5 a6 : Prop} {w' : World} (h : a1 ∧ a2 ∧ a3 ∧ a4 ∧ a5 ∧ a6 ∧ PgK w0 L C b q G i k x w') : PgK w0 L C b q G i k x w' := h.2.2.2.2.2.2
/-- a block of which so many pages are erased, the next filled -/
def tornB (C : Ch) (f : Nat → ByteArray) (k x : Int) (p : Nat) : ByteArray := if (p : Int) = k ∧ (p : Int) < C.P then kp C.Z (rep (C.Z + 32) (u8 x)) else if (p : Int) < k ∧ (p : Int) < C.P then ⟨#[]⟩ else f p
/-- a block is erased -/
def eraseC (C : Ch) (b : Int) : Ch × Int :=
  if refB C b = 0 then
    match C.cuts (C.did + 1) with
    | some x => ({ C with did := C.did + 1, worn := upd C.worn b.toNat (C.worn b.toNat + 1), off := true, pg := upd C.pg b.toNat (tornB C (C.pg b.toNat) x.1 x.2) }, 51)
    | none => if (C.dead b.toNat || C.fails (C.did + 1)) = true then ({ C with did := C.did + 1, worn := upd C.worn b.toNat (C.worn b.toNat + 1), dead := upd C.dead b.toNat true }, 54)
      else ({ C with did := C.did + 1, worn := upd C.worn b.toNat (C.worn b.toNat + 1), pg := upd C.pg b.toNat (fun p => if p < C.P then ⟨#[]⟩ else C.pg b.toNat p) }, 0)
  else (C, refB C b)
theorem torn_in {C C2 : Ch} {b kk q : Nat} {x : Int} (hCC : C2 = { C with did := C.did + 1, worn := upd C.worn b (C.worn b + 1), off := true, pg := upd C.pg b (fun p => if p < kk then ⟨#[]⟩ else C.pg b p) }) (hk : kk = q) (hq : q < C.P) :
    ({ C2 with pg := upd C2.pg b (upd (C2.pg b) q (kp C2.Z (rep (C2.Z + 32) (u8 x)))) } : Ch) = { C with did := C.did + 1, worn := upd C.worn b (C.worn b + 1), off := true, pg := upd C.pg b (tornB C (C.pg b) q x) } := by
  subst hCC hk
  have e : upd (fun p => if p < kk then ⟨#[]⟩ else C.pg b p) kk (kp C.Z (rep (C.Z + 32) (u8 x))) = tornB C (C.pg b) kk x := by
    funext p
    unfold upd tornB
    by_cases h1 : p = kk
    · rw [if_pos h1, if_pos (by omega)]
    · rw [if_neg h1, if_neg (by omega)]
      by_cases h2 : p < kk
      · simp only [if_pos h2]
        rw [if_pos (by omega)]
      · simp only [if_neg h2]
        rw [if_neg (by omega)]
  simp only [upd_upd, upd_same, e]
theorem torn_out {C C2 : Ch} {b kk : Nat} {k x : Int} (hCC : C2 = { C with did := C.did + 1, worn := upd C.worn b (C.worn b + 1), off := true, pg := upd C.pg b (fun p => if p < kk then ⟨#[]⟩ else C.pg b p) }) (hk : ¬ (0 ≤ k ∧ k < C.P)) (hm : min (max k 0) (C.P : Int) = kk) (hkk : kk ≤ C.P) :
    C2 = { C with did := C.did + 1, worn := upd C.worn b (C.worn b + 1), off := true, pg := upd C.pg b (tornB C (C.pg b) k x) } := by
  have e : (fun p => if p < kk then ⟨#[]⟩ else C.pg b p) = tornB C (C.pg b) k x := by
    funext p
    unfold tornB
    by_cases h2 : p < kk
    · rw [if_pos h2, if_neg (by omega), if_pos (by omega)]
    · rw [if_neg h2, if_neg (by omega), if_neg (by omega)]
  rw [hCC, e]
/-- is a page from p on not erased? -/
def usedB (C : Ch) (b p : Nat) : Bool := (List.range C.P).any fun q => decide (p ≤ q ∧ C.pg b q ≠ ⟨#[]⟩)
theorem usedB_false {C : Ch} {b p : Nat} (h : usedB C b p = false) (q : Nat) (h1 : p ≤ q) (h2 : q < C.P) : C.pg b q = ⟨#[]⟩ := by
  unfold usedB at h
  rw [List.any_eq_false] at h
  have := h q (List.mem_range.2 h2)
  simp only [decide_eq_true_eq, not_and, ne_eq, Decidable.not_not] at this
  exact this h1
theorem usedB_true {C : Ch} {b p : Nat} (h : usedB C b p = true) : ∃ q, p ≤ q ∧ q < C.P ∧ ¬ C.pg b q = ⟨#[]⟩ := by
  unfold usedB at h
  rw [List.any_eq_true] at h
  obtain ⟨q, h1, h2⟩ := h
  rw [decide_eq_true_eq] at h2
  exact ⟨q, h2.1, List.mem_range.1 h1, h2.2⟩
/-- the first bytes are new ones, all others filled -/
def tornP (Z : Nat) (raw : ByteArray) (k x : Int) : ByteArray := raw.extract 0 (min (max k 0) ((Z + 32 : Nat) : Int)).toNat ++ (rep (Z + 32) (u8 x)).extract (min (max k 0) ((Z + 32 : Nat) : Int)).toNat (Z + 32)
theorem cut_size (Z kk : Nat) (raw y : ByteArray) (h : raw.size = Z + 32) (hy : y.size = Z + 32) (hk : kk ≤ Z + 32) : (raw.extract 0 kk ++ y.extract kk (Z + 32)).size = Z + 32 := by
  rw [ByteArray.size_append, ByteArray.size_extract, ByteArray.size_extract]
  omega
/-- a page is written -/
def progC (C : Ch) (b p : Int) (data spare : ByteArray) : Ch × Int :=
  if refP C b p = 0 then
    if data.size = C.Z ∧ spare.size = 32 then
      if usedB C b.toNat p.toNat = true then (C, 52)
      else match C.cuts (C.did + 1) with
        | some x => (putPg { C with did := C.did + 1, off := true } b.toNat p.toNat (kp C.Z (tornP C.Z (data ++ spare) x.1 x.2)), 51)
        | none => if (C.dead b.toNat || C.fails (C.did + 1)) = true then (putPg { C with did := C.did + 1, dead := upd C.dead b.toNat true } b.toNat p.toNat (rep (C.Z + 32) 0), 53)
          else (putPg { C with did := C.did + 1 } b.toNat p.toNat (kp C.Z (data ++ spare)), 0)
    else (C, 1)
  else (C, refP C b p)

theorem prog_used {w : World} {L C} (h : Chip w L C) (b p : Nat) (hb : b < C.B) (hp : p < C.P) (hr0 : Hid (refP C b p = 0)) (data spare : ByteArray) (hs1 : data.size = C.Z) (hs2 : spare.size = 32) (hd : C.did < 999999) (hu : usedB C b p = true) :
    Calls Tryd.prog 68 #[.pointer (some ⟨L.a, 0, none⟩), .int .i64 b, .int .i64 p, .string data, .string spare] w fun e w' => e = .returned (.int .i64 52) ∧ w' = w := by
  obtain ⟨mc, mf, n, k, _, _, c0, c1, c2, c3, c4, c5, c6, c7, hf⟩ := h.cellA
  obtain ⟨b0, b1, b2, b3⟩ := h.cellB b hb
  have hp0 := fun q hq => h.cellP b q hb hq
  have f6 := hf 6
  have hdr := h.didr
  have HD := Hid.mk (h.setDid (C.did + 1) (by omega))
  have HK := Hid.mk ((Kp.refl (L.own C.B) w).setCell (p := ⟨L.a, 6, none⟩) (Or.inl rfl) (.int .i64 (C.did + 1)))
  have HG := Hid.mk h.geo
  have HH := Hid.mk h
  have hb1 : (b : Int) < C.B := by omega
  have hp1 : (p : Int) < C.P := by omega
  have hgp := h.geo
  clear h hf
  go_enter Tryd.func68, Tryd.ntmps68
  go_upto_region 8 with (first
    | (go_at_call 49; refine (refusep_any HH.out _ _).mono ?_; rintro e w' ⟨rfl, hw'⟩; rw [hw', hr0.out]; clear hw'))
  have hpp : ((C.P - p : Nat) : Int) = (C.P : Int) - p := by omega
  go_loopw [52] (fun i wr => ∃ k : Nat, k ≤ C.P - p ∧ i = .int .i64 k ∧ wr = w ∧ ∀ q, p ≤ q → q < p + k → C.pg b q = ⟨#[]⟩) (fun i _ => C.P - p - (intOf i).toNat)
  case atStart => exact ⟨0, Nat.zero_le _, rfl, rfl, fun q h1 h2 => by omega⟩
  case round =>
    obtain ⟨i, hi, rfl, rfl, hall⟩ := hrel
    have HA := Hid.mk hall
    clear hall
    by_cases hik : i < C.P - p
    · have ci := hp0 (p + i) (by omega)
      have hi1 : (i : Int) < (C.P : Int) - p := by omega
      have hi2 : (i : Int) < ((C.P - p : Nat) : Int) := by omega
      by_cases he : C.pg b (p + i) = ⟨#[]⟩
      · rw [he] at ci
        clear hp0 c0 c1 c2 c3 c4 c5 c6 c7 b0 b1 b2 b3
        go_wp2_with fail
        refine ⟨⟨i + 1, by omega, by go_num, by first | rfl | trivial, fun q h1 h2 => ?_⟩, by simp [intOf]; omega⟩
        by_cases hqi : q = p + i
        · rw [hqi]
          exact he
        · exact HA.out q h1 (by omega)
      · have hne := notEmpty he
        generalize C.pg b (p + i) = S at *
        clear hp0 c0 c1 c2 c3 c4 c5 c6 c7 b0 b1 b2 b3 he
        go_wp2_with fail
        go_ret
        exact ⟨rfl, rfl⟩
    · have hall : ∀ q, p ≤ q → q < C.P → C.pg b q = ⟨#[]⟩ := fun q h1 h2 => HA.out q h1 (by omega)
      have hi1 : ¬ (i : Int) < (C.P : Int) - p := by omega
      have hi2 : ¬ (i : Int) < ((C.P - p : Nat) : Int) := by omega
      obtain ⟨q, q1, q2, q3⟩ := usedB_true hu
      exact absurd (hall q q1 q2) q3
set_option maxHeartbeats 1000000 in
theorem prog_ok {w : World} {L C} (h : Chip w L C) (b p : Nat) (hb : b < C.B) (hp : p < C.P) (hr0 : Hid (refP C b p = 0)) (data spare R : ByteArray) (hR : data ++ spare = R) (hs1 : data.size = C.Z) (hs2 : spare.size = 32) (hd : C.did < 999999) (hu : usedB C b p = false) (hc : C.cuts (C.did + 1) = none) (hfa : (C.dead b || C.fails (C.did + 1)) = false) :
    Calls Tryd.prog 68 #[.pointer (some ⟨L.a, 0, none⟩), .int .i64 b, .int .i64 p, .string data, .string spare] w fun e w' => e = .returned (.int .i64 0) ∧ Chip w' L (putPg { C with did := C.did + 1 } b p (kp C.Z R)) ∧ Kp (L.own C.B) w w' := by
  have hRs : R.size = C.Z + 32 := by rw [← hR, ByteArray.size_append, hs1, hs2]
  obtain ⟨mc, mf, n, k, _, _, c0, c1, c2, c3, c4, c5, c6, c7, hf⟩ := h.cellA
  obtain ⟨b0, b1, b2, b3⟩ := h.cellB b hb
  have hp0 := fun q hq => h.cellP b q hb hq
  have f6 := hf 6
  have hdr := h.didr
  have HD := Hid.mk (h.setDid (C.did + 1) (by omega))
  have HK := Hid.mk ((Kp.refl (L.own C.B) w).setCell (p := ⟨L.a, 6, none⟩) (Or.inl rfl) (.int .i64 (C.did + 1)))
  have HG := Hid.mk h.geo
  have HH := Hid.mk h
  have hb1 : (b : Int) < C.B := by omega
  have hp1 : (p : Int) < C.P := by omega
  have hgp := h.geo
  clear h hf
  go_enter Tryd.func68, Tryd.ntmps68
  go_upto_region 8 with (first
    | (go_at_call 49; refine (refusep_any HH.out _ _).mono ?_; rintro e w' ⟨rfl, hw'⟩; rw [hw', hr0.out]; clear hw'))
  have hpp : ((C.P - p : Nat) : Int) = (C.P : Int) - p := by omega
  go_loopw [52] (fun i wr => ∃ k : Nat, k ≤ C.P - p ∧ i = .int .i64 k ∧ wr = w ∧ ∀ q, p ≤ q → q < p + k → C.pg b q = ⟨#[]⟩) (fun i _ => C.P - p - (intOf i).toNat)
  case atStart => exact ⟨0, Nat.zero_le _, rfl, rfl, fun q h1 h2 => by omega⟩
  case round =>
    obtain ⟨i, hi, rfl, rfl, hall⟩ := hrel
    have HA := Hid.mk hall
    clear hall
    by_cases hik : i < C.P - p
    · have ci := hp0 (p + i) (by omega)
      have hi1 : (i : Int) < (C.P : Int) - p := by omega
      have hi2 : (i : Int) < ((C.P - p : Nat) : Int) := by omega
      by_cases he : C.pg b (p + i) = ⟨#[]⟩
      · rw [he] at ci
        clear hp0 c0 c1 c2 c3 c4 c5 c6 c7 b0 b1 b2 b3
        go_wp2_with fail
        refine ⟨⟨i + 1, by omega, by go_num, by first | rfl | trivial, fun q h1 h2 => ?_⟩, by simp [intOf]; omega⟩
        by_cases hqi : q = p + i
        · rw [hqi]
          exact he
        · exact HA.out q h1 (by omega)
      · have hne := notEmpty he
        exact absurd (usedB_false hu (p + i) (by omega) (by omega)) he
    · have hall : ∀ q, p ≤ q → q < C.P → C.pg b q = ⟨#[]⟩ := fun q h1 h2 => HA.out q h1 (by omega)
      have hi1 : ¬ (i : Int) < (C.P : Int) - p := by omega
      have hi2 : ¬ (i : Int) < ((C.P - p : Nat) : Int) := by omega
      clear hp0
      go_upto_region 23 with (first
        | (go_at_call 79; refine (cutnow_none HD.out hc).mono ?_; rintro e w1 ⟨rfl, b1⟩; unfold cut0; have HW := Hid.mk ((HD.out.call b1).alloc (.cells #[.int .i64 0, .int .i64 0, .int .u8 0] 61)); have HQ := Hid.mk ((HK.out.call b1).alloc (.cells #[.int .i64 0, .int .i64 0, .int .u8 0] 61)))
        | (go_at_call 82; refine (failsnow_any HW.out (b := b) hb).mono ?_; rintro e w2 ⟨rfl, h2, q2⟩; simp only [hfa]))
      have hGa : ∀ i, L.own C.B i → i < w1.heap.size := fun i hi => (HD.out.call b1).lt hi
      have cv := heap_alloc_new w1 (.cells #[.int .i64 0, .int .i64 0, .int .u8 0] 61)
      have cv2 : w2.heap[w1.heap.size]? = some (.cells #[.int .i64 0, .int .i64 0, .int .u8 0] 61 (0, 0)) := (q2.block _ (by rw [size_alloc]; omega) (fun hx => by have := hGa _ hx; omega)).trans cv
      have hnG : w1.heap.size ≠ L.pb b := fun e => by have := hGa (L.pb b) (Or.inr (Or.inr ⟨b, hb, rfl⟩)); omega
      replace h2 : Chip w2 L { C with did := C.did + 1, dead := upd C.dead b (C.dead b || C.fails (C.did + 1)) } := h2
      have hk2 : Kp (L.own C.B) wr w2 := HQ.out.trans q2
      generalize w1.heap.size = G at *
      clear b1 HD HK HH c0 c1 c2 c3 c4 c5 c6 c7 b0 b2 b3 f6 HW HQ q2 cv hGa hall HA
      have ed : C.dead b = false := by
        cases hx : C.dead b
        · rfl
        · rw [hx] at hfa
          exact absurd hfa (by simp)
      have e2 : upd C.dead b (C.dead b || C.fails (C.did + 1)) = C.dead := by rw [hfa, ← ed, upd_self]
      rw [e2] at h2
      clear e2 ed
      obtain ⟨C2, eC⟩ : ∃ C2 : Ch, C2 = { C with did := C.did + 1 } := ⟨_, rfl⟩
      rw [← eC] at h2
      have eB : C2.B = C.B := by rw [eC]
      have eP : C2.P = C.P := by rw [eC]
      have eZ : C2.Z = C.Z := by rw [eC]
      rw [← eB] at hk2
      have hfin : (kp C2.Z R).size = 0 ∨ (kp C2.Z R).size = C2.Z + 32 := kp_size _ _ (by rw [eZ]; exact hRs)
      have HPK := Hid.mk (PgK.start (b := b) (q := p) h2 hk2 cv2 hnG (by rw [eB]; exact hb) (by rw [eP]; exact hp))
      have HS := Hid.mk HPK.out.drew.cells
      have HE := Hid.mk (And.intro eZ eC)
      have hq3 : (p : Int) < C2.P := by rw [eP]; exact hp1
      have HF := Hid.mk hfin
      clear h2 hk2 cv2 hnG eB eP eZ eC hfin
      go_region_held3 (fun w9 => w9.cell? ⟨L.bs, b * 4, none⟩ = some (.slice (some ⟨L.pb b, 0, none⟩) C2.P C2.P) ∧ w9.cell? ⟨L.pb b, p, none⟩ = some (.string (strAt w9 ⟨L.pb b, p, none⟩)) ∧ w9.frozen? ⟨L.pb b, p, none⟩ = false ∧
            w9.cell? ⟨G, 0, none⟩ = some (.int .i64 0) ∧ w9.cell? ⟨G, 1, none⟩ = some (.int .i64 0) ∧ w9.cell? ⟨G, 2, none⟩ = some (.int .u8 0) ∧ PgK wr L C2 b p G 0 0 0 w9) (first | assumption | exact HS.out | exact pg_keep (by assumption) (by assumption) | exact pg_store (by assumption) HF.out rfl | fail)
          (first
            | (go_at_call 80; refine (kept_any (pg_chip (by assumption)) _).mono ?_; rintro e w7 ⟨rfl, b7⟩))
      have H7 := Hid.mk ((HPK.out.drew.call b7).done HF.out)
      clear b7 HS HPK
      go_wp2_with fail
      go_ret
      have h8 := H7.out
      have e8 := HE.out.2
      clear HE HF H7 hq3
      subst e8
      exact ⟨rfl, h8.1, h8.2⟩

set_option maxHeartbeats 1000000 in
theorem prog_dead {w : World} {L C} (h : Chip w L C) (b p : Nat) (hb : b < C.B) (hp : p < C.P) (hr0 : Hid (refP C b p = 0)) (data spare R : ByteArray) (hR : data ++ spare = R) (hs1 : data.size = C.Z) (hs2 : spare.size = 32) (hd : C.did < 999999) (hu : usedB C b p = false) (hc : C.cuts (C.did + 1) = none) (hfa : (C.dead b || C.fails (C.did + 1)) = true) :
    Calls Tryd.prog 68 #[.pointer (some ⟨L.a, 0, none⟩), .int .i64 b, .int .i64 p, .string data, .string spare] w fun e w' => e = .returned (.int .i64 53) ∧ Chip w' L (putPg { C with did := C.did + 1, dead := upd C.dead b true } b p (rep (C.Z + 32) 0)) ∧ Kp (L.own C.B) w w' := by
  have hRs : R.size = C.Z + 32 := by rw [← hR, ByteArray.size_append, hs1, hs2]
  obtain ⟨mc, mf, n, k, _, _, c0, c1, c2, c3, c4, c5, c6, c7, hf⟩ := h.cellA
  obtain ⟨b0, b1, b2, b3⟩ := h.cellB b hb
  have hp0 := fun q hq => h.cellP b q hb hq
  have f6 := hf 6
  have hdr := h.didr
  have HD := Hid.mk (h.setDid (C.did + 1) (by omega))
  have HK := Hid.mk ((Kp.refl (L.own C.B) w).setCell (p := ⟨L.a, 6, none⟩) (Or.inl rfl) (.int .i64 (C.did + 1)))
  have HG := Hid.mk h.geo
  have HH := Hid.mk h
  have hb1 : (b : Int) < C.B := by omega
  have hp1 : (p : Int) < C.P := by omega
  have hgp := h.geo
  clear h hf
  go_enter Tryd.func68, Tryd.ntmps68
  go_upto_region 8 with (first
    | (go_at_call 49; refine (refusep_any HH.out _ _).mono ?_; rintro e w' ⟨rfl, hw'⟩; rw [hw', hr0.out]; clear hw'))
  have hpp : ((C.P - p : Nat) : Int) = (C.P : Int) - p := by omega
  go_loopw [52] (fun i wr => ∃ k : Nat, k ≤ C.P - p ∧ i = .int .i64 k ∧ wr = w ∧ ∀ q, p ≤ q → q < p + k → C.pg b q = ⟨#[]⟩) (fun i _ => C.P - p - (intOf i).toNat)
  case atStart => exact ⟨0, Nat.zero_le _, rfl, rfl, fun q h1 h2 => by omega⟩
  case round =>
    obtain ⟨i, hi, rfl, rfl, hall⟩ := hrel
    have HA := Hid.mk hall
    clear hall
    by_cases hik : i < C.P - p
    · have ci := hp0 (p + i) (by omega)
      have hi1 : (i : Int) < (C.P : Int) - p := by omega
      have hi2 : (i : Int) < ((C.P - p : Nat) : Int) := by omega
      by_cases he : C.pg b (p + i) = ⟨#[]⟩
      · rw [he] at ci
        clear hp0 c0 c1 c2 c3 c4 c5 c6 c7 b0 b1 b2 b3
        go_wp2_with fail
        refine ⟨⟨i + 1, by omega, by go_num, by first | rfl | trivial, fun q h1 h2 => ?_⟩, by simp [intOf]; omega⟩
        by_cases hqi : q = p + i
        · rw [hqi]
          exact he
        · exact HA.out q h1 (by omega)
      · have hne := notEmpty he
        exact absurd (usedB_false hu (p + i) (by omega) (by omega)) he
    · have hall : ∀ q, p ≤ q → q < C.P → C.pg b q = ⟨#[]⟩ := fun q h1 h2 => HA.out q h1 (by omega)
      have hi1 : ¬ (i : Int) < (C.P : Int) - p := by omega
      have hi2 : ¬ (i : Int) < ((C.P - p : Nat) : Int) := by omega
      clear hp0
      go_upto_region 21 with (first
        | (go_at_call 79; refine (cutnow_none HD.out hc).mono ?_; rintro e w1 ⟨rfl, b1⟩; unfold cut0; have HW := Hid.mk ((HD.out.call b1).alloc (.cells #[.int .i64 0, .int .i64 0, .int .u8 0] 61)); have HQ := Hid.mk ((HK.out.call b1).alloc (.cells #[.int .i64 0, .int .i64 0, .int .u8 0] 61)))
        | (go_at_call 82; refine (failsnow_any HW.out (b := b) hb).mono ?_; rintro e w2 ⟨rfl, h2, q2⟩; simp only [hfa]))
      have hGa : ∀ i, L.own C.B i → i < w1.heap.size := fun i hi => (HD.out.call b1).lt hi
      have cv := heap_alloc_new w1 (.cells #[.int .i64 0, .int .i64 0, .int .u8 0] 61)
      have cv2 : w2.heap[w1.heap.size]? = some (.cells #[.int .i64 0, .int .i64 0, .int .u8 0] 61 (0, 0)) := (q2.block _ (by rw [size_alloc]; omega) (fun hx => by have := hGa _ hx; omega)).trans cv
      have hnG : w1.heap.size ≠ L.pb b := fun e => by have := hGa (L.pb b) (Or.inr (Or.inr ⟨b, hb, rfl⟩)); omega
      replace h2 : Chip w2 L { C with did := C.did + 1, dead := upd C.dead b (C.dead b || C.fails (C.did + 1)) } := h2
      have hk2 : Kp (L.own C.B) wr w2 := HQ.out.trans q2
      generalize w1.heap.size = G at *
      clear b1 HD HK HH c0 c1 c2 c3 c4 c5 c6 c7 b0 b2 b3 f6 HW HQ q2 cv hGa hall HA
      rw [hfa] at h2
      obtain ⟨C2, eC⟩ : ∃ C2 : Ch, C2 = { C with did := C.did + 1, dead := upd C.dead b true } := ⟨_, rfl⟩
      rw [← eC] at h2
      have eB : C2.B = C.B := by rw [eC]
      have eP : C2.P = C.P := by rw [eC]
      have eZ : C2.Z = C.Z := by rw [eC]
      rw [← eB] at hk2
      have hfin : (rep (C2.Z + 32) 0).size = 0 ∨ (rep (C2.Z + 32) 0).size = C2.Z + 32 := Or.inr (rep_size _ _)
      have HPK := Hid.mk (PgK.start (b := b) (q := p) h2 hk2 cv2 hnG (by rw [eB]; exact hb) (by rw [eP]; exact hp))
      have HS := Hid.mk HPK.out.drew.cells
      have HE := Hid.mk (And.intro eZ eC)
      have hq3 : (p : Int) < C2.P := by rw [eP]; exact hp1
      have HF := Hid.mk hfin
      clear h2 hk2 cv2 hnG eB eP eZ eC hfin
      go_region_held3 (fun w9 => w9.cell? ⟨L.bs, b * 4, none⟩ = some (.slice (some ⟨L.pb b, 0, none⟩) C2.P C2.P) ∧ w9.cell? ⟨L.pb b, p, none⟩ = some (.string (strAt w9 ⟨L.pb b, p, none⟩)) ∧ w9.frozen? ⟨L.pb b, p, none⟩ = false ∧
            w9.cell? ⟨G, 0, none⟩ = some (.int .i64 0) ∧ w9.cell? ⟨G, 1, none⟩ = some (.int .i64 0) ∧ w9.cell? ⟨G, 2, none⟩ = some (.int .u8 0) ∧ PgK wr L C2 b p G 0 0 0 w9) (first | assumption | exact HS.out | exact pg_keep (by assumption) (by assumption) | exact pg_store (by assumption) HF.out rfl | fail)
          (first
            | (go_at_call 50; refine (filled_any (pg_chip (by assumption)) _).mono ?_; rintro e w7 ⟨rfl, b7⟩))
      have H7 := Hid.mk ((HPK.out.drew.call b7).done HF.out)
      clear b7 HS HPK
      go_wp2_with fail
      go_ret
      have h8 := H7.out
      have e8 := HE.out.2
      clear HE HF H7 hq3
      subst e8
      exact ⟨rfl, h8.1, h8.2⟩

set_option maxHeartbeats 1000000 in
theorem prog_cut {w : World} {L C} (h : Chip w L C) (b p : Nat) (hb : b < C.B) (hp : p < C.P) (hr0 : Hid (refP C b p = 0)) (data spare R : ByteArray) (hR : data ++ spare = R) (hs1 : data.size = C.Z) (hs2 : spare.size = 32) (hd : C.did < 999999) (hu : usedB C b p = false) (k0 x0 : Int) (hc : C.cuts (C.did + 1) = some (k0, x0)) :
    Calls Tryd.prog 68 #[.pointer (some ⟨L.a, 0, none⟩), .int .i64 b, .int .i64 p, .string data, .string spare] w fun e w' => e = .returned (.int .i64 51) ∧ Chip w' L (putPg { C with did := C.did + 1, off := true } b p (kp C.Z (tornP C.Z R k0 x0))) ∧ Kp (L.own C.B) w w' := by
  have hRs : R.size = C.Z + 32 := by rw [← hR, ByteArray.size_append, hs1, hs2]
  obtain ⟨mc, mf, n, k, _, _, c0, c1, c2, c3, c4, c5, c6, c7, hf⟩ := h.cellA
  obtain ⟨b0, b1, b2, b3⟩ := h.cellB b hb
  have hp0 := fun q hq => h.cellP b q hb hq
  have f6 := hf 6
  have hdr := h.didr
  have HD := Hid.mk (h.setDid (C.did + 1) (by omega))
  have HK := Hid.mk ((Kp.refl (L.own C.B) w).setCell (p := ⟨L.a, 6, none⟩) (Or.inl rfl) (.int .i64 (C.did + 1)))
  have HG := Hid.mk h.geo
  have HH := Hid.mk h
  have hb1 : (b : Int) < C.B := by omega
  have hp1 : (p : Int) < C.P := by omega
  have hgp := h.geo
  clear h hf
  go_enter Tryd.func68, Tryd.ntmps68
  go_upto_region 8 with (first
    | (go_at_call 49; refine (refusep_any HH.out _ _).mono ?_; rintro e w' ⟨rfl, hw'⟩; rw [hw', hr0.out]; clear hw'))
  have hpp : ((C.P - p : Nat) : Int) = (C.P : Int) - p := by omega
  go_loopw [52] (fun i wr => ∃ k : Nat, k ≤ C.P - p ∧ i = .int .i64 k ∧ wr = w ∧ ∀ q, p ≤ q → q < p + k → C.pg b q = ⟨#[]⟩) (fun i _ => C.P - p - (intOf i).toNat)
  case atStart => exact ⟨0, Nat.zero_le _, rfl, rfl, fun q h1 h2 => by omega⟩
  case round =>
    obtain ⟨i, hi, rfl, rfl, hall⟩ := hrel
    have HA := Hid.mk hall
    clear hall
    by_cases hik : i < C.P - p
    · have ci := hp0 (p + i) (by omega)
      have hi1 : (i : Int) < (C.P : Int) - p := by omega
      have hi2 : (i : Int) < ((C.P - p : Nat) : Int) := by omega
      by_cases he : C.pg b (p + i) = ⟨#[]⟩
      · rw [he] at ci
        clear hp0 c0 c1 c2 c3 c4 c5 c6 c7 b0 b1 b2 b3
        go_wp2_with fail
        refine ⟨⟨i + 1, by omega, by go_num, by first | rfl | trivial, fun q h1 h2 => ?_⟩, by simp [intOf]; omega⟩
        by_cases hqi : q = p + i
        · rw [hqi]
          exact he
        · exact HA.out q h1 (by omega)
      · have hne := notEmpty he
        exact absurd (usedB_false hu (p + i) (by omega) (by omega)) he
    · have hall : ∀ q, p ≤ q → q < C.P → C.pg b q = ⟨#[]⟩ := fun q h1 h2 => HA.out q h1 (by omega)
      have hi1 : ¬ (i : Int) < (C.P : Int) - p := by omega
      have hi2 : ¬ (i : Int) < ((C.P - p : Nat) : Int) := by omega
      have hfl := HH.out.fill _ _ hc
      obtain ⟨kk, hkk, hm⟩ : ∃ kk : Nat, kk ≤ C.Z + 32 ∧ min (max k0 0) ((C.Z : Int) + 32) = kk := ⟨(min (max k0 0) ((C.Z : Int) + 32)).toNat, by omega, by omega⟩
      have et : tornP C.Z R k0 x0 = R.extract 0 kk ++ (rep (C.Z + 32) (u8 x0)).extract kk (C.Z + 32) := by
        unfold tornP
        rw [show (((C.Z + 32 : Nat)) : Int) = (C.Z : Int) + 32 by omega, hm, Int.toNat_natCast]
      have hkz : (kk : Int) ≤ (C.Z : Int) + 32 := by omega
      clear hp0
      go_upto_region 18 with (first
        | (go_at_call 79; refine (cutnow_some HD.out hc).mono ?_; rintro e w2 ⟨rfl, h1, q1⟩; unfold cutV))
      have hGa : ∀ i, L.own C.B i → i < w2.heap.size := fun i hi => h1.lt hi
      have cv2 := heap_alloc_new w2 (.cells #[.int .i64 (C.did + 1), .int .i64 k0, .int .u8 x0] 61)
      have hnG : w2.heap.size ≠ L.pb b := fun e => by have := hGa (L.pb b) (Or.inr (Or.inr ⟨b, hb, rfl⟩)); omega
      have h2 : Chip (w2.alloc (.cells #[.int .i64 (C.did + 1), .int .i64 k0, .int .u8 x0] 61)) L { C with did := C.did + 1, off := true } := h1.alloc _
      have hk2 : Kp (L.own C.B) wr (w2.alloc (.cells #[.int .i64 (C.did + 1), .int .i64 k0, .int .u8 x0] 61)) := (HK.out.trans q1).alloc _
      generalize w2.alloc (.cells #[.int .i64 (C.did + 1), .int .i64 k0, .int .u8 x0] 61) = W at *
      generalize w2.heap.size = G at *
      clear h1 q1 HD HK HH c0 c1 c2 c3 c4 c5 c6 c7 b0 b1 b2 b3 f6 hGa hall HA
      obtain ⟨C2, eC⟩ : ∃ C2 : Ch, C2 = { C with did := C.did + 1, off := true } := ⟨_, rfl⟩
      rw [← eC] at h2
      have eB : C2.B = C.B := by rw [eC]
      have eP : C2.P = C.P := by rw [eC]
      have eZ : C2.Z = C.Z := by rw [eC]
      rw [← eB] at hk2
      obtain ⟨Y, hY⟩ : ∃ Y, rep (C.Z + 32) (u8 x0) = Y := ⟨_, rfl⟩
      have hYs : Y.size = C.Z + 32 := by rw [← hY, rep_size]
      have hfin : (kp C.Z (R.extract 0 kk ++ Y.extract kk (C.Z + 32))).size = 0 ∨ (kp C.Z (R.extract 0 kk ++ Y.extract kk (C.Z + 32))).size = C2.Z + 32 := by rw [eZ]; exact kp_size _ _ (cut_size _ _ _ _ hRs hYs hkk)
      rw [hY] at et
      have hkz2 : (kk : Int) ≤ ((C.Z + 32 : Nat) : Int) := by omega
      have hzz : ¬ 9223372036854775807 < C.Z + 32 := by omega
      have HY := Hid.mk (And.intro hY et)
      clear hY et
      have HPK := Hid.mk (PgK.start (b := b) (q := p) h2 hk2 cv2 hnG (by rw [eB]; exact hb) (by rw [eP]; exact hp))
      obtain ⟨u0, u1, u2, u3, u4, u5, _⟩ := HPK.out.cells
      have HS := Hid.mk HPK.out.drew.cells
      have HE := Hid.mk (And.intro eZ eC)
      have hq3 : (p : Int) < C2.P := by rw [eP]; exact hp1
      have HF := Hid.mk hfin
      clear h2 hk2 cv2 hnG eB eP eZ eC hfin
      go_region_held3 (fun w9 => w9.cell? ⟨L.bs, b * 4, none⟩ = some (.slice (some ⟨L.pb b, 0, none⟩) C2.P C2.P) ∧ w9.cell? ⟨L.pb b, p, none⟩ = some (.string (strAt w9 ⟨L.pb b, p, none⟩)) ∧ w9.frozen? ⟨L.pb b, p, none⟩ = false ∧
            w9.cell? ⟨G, 0, none⟩ = some (.int .i64 (C.did + 1)) ∧ w9.cell? ⟨G, 1, none⟩ = some (.int .i64 k0) ∧ w9.cell? ⟨G, 2, none⟩ = some (.int .u8 x0) ∧ PgK wr L C2 b p G (C.did + 1) k0 x0 w9) (first | assumption | exact HS.out | exact pg_keep (by assumption) (by assumption) | exact pg_store (by assumption) HF.out rfl | fail)
          (first
            | (go_at_call 81; refine (fill_any _ _ _ hfl _).mono ?_; rintro e w5 ⟨rfl, b5⟩)
            | (go_at_call 50; refine (filled_any (pg_chip (by assumption)) _).mono ?_; rintro e w6 ⟨rfl, b6⟩; rw [show (putPg C2 b p (strAt w5 ⟨L.pb b, p, none⟩)).Z = C.Z from HE.out.1, HY.out.1])
            | (go_at_call 80; refine (kept_any (pg_chip (by assumption)) _).mono ?_; rintro e w7 ⟨rfl, b7⟩; rw [show (putPg C2 b p (strAt w6 ⟨L.pb b, p, none⟩)).Z = C.Z from HE.out.1]))
      have H7 := Hid.mk ((((HPK.out.drew.call b5).call b6).call b7).done (s := kp C.Z (R.extract 0 kk ++ Y.extract kk (C.Z + 32))) HF.out)
      clear b5 b6 b7 HS HPK
      go_wp2_with fail
      go_ret
      have h8 := H7.out
      have e8 := HE.out.2
      have e9 := HY.out.2
      clear HE HF H7 hq3
      subst e8
      rw [e9]
      exact ⟨rfl, h8.1, h8.2⟩

theorem prog_any {w : World} {L C} (h : Chip w L C) (b p : Int) (data spare : ByteArray) (hd : C.did < 999999) : Calls Tryd.prog 68 #[.pointer (some ⟨L.a, 0, none⟩), .int .i64 b, .int .i64 p, .string data, .string spare] w fun e w' =>
    e = .returned (.int .i64 (progC C b p data spare).2) ∧ Chip w' L (progC C b p data spare).1 ∧ Kp (L.own C.B) w w' := by
  unfold progC
  by_cases h0 : refP C b p = 0
  · rw [if_pos h0]
    obtain ⟨_, ⟨b, rfl, hb⟩, p, rfl, hp⟩ := refP_zero h0
    rw [Int.toNat_natCast, Int.toNat_natCast]
    by_cases hs : data.size = C.Z ∧ spare.size = 32
    · rw [if_pos hs]
      cases hu : usedB C b p
      · rw [if_neg (by decide)]
        cases hc : C.cuts (C.did + 1) with
        | none =>
          simp only
          cases hfa : C.dead b || C.fails (C.did + 1)
          · rw [if_neg (by decide)]
            exact prog_ok h b p hb hp h0 data spare _ rfl hs.1 hs.2 hd hu hc hfa
          · rw [if_pos rfl]
            exact prog_dead h b p hb hp h0 data spare _ rfl hs.1 hs.2 hd hu hc hfa
        | some x => exact prog_cut h b p hb hp h0 data spare _ rfl hs.1 hs.2 hd hu x.1 x.2 hc
      · rw [if_pos rfl]
        refine (prog_used h b p hb hp h0 data spare hs.1 hs.2 hd hu).mono ?_
        rintro e w' ⟨rfl, rfl⟩
        exact ⟨rfl, h, Kp.refl _ _⟩
    · rw [if_neg hs]
      obtain ⟨mc, mf, n, k, _, _, c0, c1, c2, c3, c4, c5, c6, c7, hf⟩ := h.cellA
      have HH := Hid.mk h
      have hr0 := Hid.mk h0
      clear h h0 hf
      by_cases hs1 : data.size = C.Z
      · have hs2 : ¬ (spare.size : Int) = 32 := by omega
        go_enter Tryd.func68, Tryd.ntmps68
        go_wp2_with (go_at_call 49; refine (refusep_any HH.out _ _).mono ?_; rintro e w' ⟨rfl, rfl⟩; rw [hr0.out])
        go_ret
        exact ⟨rfl, HH.out, Kp.refl _ _⟩
      · have hs2 : ¬ (data.size : Int) = C.Z := by omega
        go_enter Tryd.func68, Tryd.ntmps68
        go_wp2_with (go_at_call 49; refine (refusep_any HH.out _ _).mono ?_; rintro e w' ⟨rfl, rfl⟩; rw [hr0.out])
        go_ret
        exact ⟨rfl, HH.out, Kp.refl _ _⟩
  · rw [if_neg h0]
    have HH := Hid.mk h
    clear h
    go_enter Tryd.func68, Tryd.ntmps68
    go_wp2_with (go_at_call 49; refine (refusep_any HH.out _ _).mono ?_; rintro e w' ⟨rfl, rfl⟩)
    go_ret
    exact ⟨rfl, HH.out, Kp.refl _ _⟩
end Go.Proofs.YtbhggcleijjofaaDoor
