/-
  Erasing a block: the walk of Erase. No condition.
-/
import Derived.Test.YtbcnocbdifbocaaDoorActA
import Derived.Lib.SliceRun
import Derived.Lib.LazyBuf
import Derived.BigFrame
namespace Go.Proofs.YtbcnocbdifbocaaDoor
open Go Go.RowKit

theorem zero9 (w : World) : (zeroValue 9).run Tryd.prog w = .ok (.string ⟨#[]⟩) w := by kernel_rfl
/-- pages are let go -/
theorem clear_run {W : World} {g P : Nat} {f : Nat → Value} (h : W.rowIs g 9 P f) (n c : Nat) (hn : n ≤ P) (ty : TypeId) :
    (Builtin.clear_ #[35] ty #[.slice (some ⟨g, 0, none⟩) n c]).run Tryd.prog W = .ok (.tuple #[]) (W.setCells g 0 (List.replicate n (.string ⟨#[]⟩))) := by
  by_cases h0 : n = 0
  · subst h0
    simp [Builtin.clear_, run_underlying Tryd.underlying35]
    rfl
  · refine Lib.run_clear_slice W 35 9 ty (.string ⟨#[]⟩) Tryd.underlying35 zero9 rfl rfl g 0 n c (by omega) (fun j hj => ?_) (fun j _ => ?_)
    · rw [Nat.zero_add, h.cell (by omega)]
      rfl
    · exact h.frozen _
theorem heap_setCells (g : Nat) : ∀ (vs : List Value) (o : Nat) (w : World) (i : Nat), i ≠ g → (w.setCells g o vs).heap[i]? = w.heap[i]?
  | [], _, _, _, _ => rfl
  | v :: r, o, w, i, h => (heap_setCells g r (o + 1) _ i h).trans (Below.heap_setCell w ⟨g, o, none⟩ v i h)
theorem Chip.clear {w : World} {L C} (h : Chip w L C) (b n : Nat) (hb : b < C.B) : Chip (w.setCells (L.pb b) 0 (List.replicate n (.string ⟨#[]⟩))) L { C with pg := upd C.pg b (fun p => if p < n then ⟨#[]⟩ else C.pg b p) } := by
  refine h.setRow b hb _ (fun p => ?_) ((rowIs_setCells _ 0 w _ (h.pgs b hb)).congr (fun p _ => ?_)) (fun i _ hi => heap_setCells _ _ _ _ i hi)
  · split
    · exact Or.inl rfl
    · exact h.len b p
  · rw [List.length_replicate]
    by_cases hp : p < n
    · rw [if_pos ⟨Nat.zero_le _, by omega⟩, if_pos hp]
      simp [hp]
    · rw [if_neg (by omega), if_neg hp]
theorem upd_upd {α : Type} (f : Nat → α) (b : Nat) (v u : α) : upd (upd f b v) b u = upd f b u := by
  funext i
  unfold upd
  split <;> rfl
theorem upd_same {α : Type} (f : Nat → α) (b : Nat) (v : α) : upd f b v b = v := by
  unfold upd
  rw [if_pos rfl]
/-- the text at an address -/
def strAt (w : World) (a : Addr) : ByteArray := match w.cell? a with | some (.string s) => s | _ => ⟨#[]⟩
theorem strAt_of {w : World} {a : Addr} {s : ByteArray} (h : w.cell? a = some (.string s)) : strAt w a = s := by
  unfold strAt
  rw [h]
/-- a chip one page of which is this -/
def putPg (C : Ch) (b q : Nat) (s : ByteArray) : Ch := { C with pg := upd C.pg b (upd (C.pg b) q s) }
theorem putPg_self (C : Ch) (b q : Nat) : putPg C b q (C.pg b q) = C := by
  unfold putPg
  rw [upd_self, upd_self]
theorem putPg_put (C : Ch) (b q : Nat) (s t : ByteArray) : putPg (putPg C b q s) b q t = putPg C b q t := by
  unfold putPg
  simp only [upd_upd, upd_same]
/-- what is held while a page is reckoned: the chip, what was there, the cut's own block -/
structure PgK (w0 : World) (L : Ly) (C : Ch) (b q G : Nat) (i k x : Int) (w' : World) : Prop where
  chip : Chip w' L (putPg C b q (strAt w' ⟨L.pb b, q, none⟩))
  kept : Kp (L.own C.B) w0 w'
  cut : w'.heap[G]? = some (.cells #[.int .i64 i, .int .i64 k, .int .u8 x] 64 (0, 0))
  ne : G ≠ L.pb b
  hb : b < C.B
  hq : q < C.P
theorem PgK.page {w0 : World} {L C b q G i k x} {w' : World} (h : PgK w0 L C b q G i k x w') : w'.cell? ⟨L.pb b, q, none⟩ = some (.string (strAt w' ⟨L.pb b, q, none⟩)) := by
  have := h.chip.cellP b q h.hb h.hq
  unfold putPg at this
  simp only [upd_same] at this
  exact this
theorem PgK.start {w0 w' : World} {L C b q G i k x} (h : Chip w' L C) (hk : Kp (L.own C.B) w0 w') (hc : w'.heap[G]? = some (.cells #[.int .i64 i, .int .i64 k, .int .u8 x] 64 (0, 0))) (hn : G ≠ L.pb b) (hb : b < C.B) (hq : q < C.P) : PgK w0 L C b q G i k x w' :=
  ⟨by rw [strAt_of (h.cellP b q hb hq), putPg_self]; exact h, hk, hc, hn, hb, hq⟩
theorem PgK.call {w0 : World} {L C b q G i k x} {w1 w2 : World} (h : PgK w0 L C b q G i k x w1) (b' : Below w1.heap.size w1 w2) : PgK w0 L C b q G i k x w2 := by
  have e : strAt w2 ⟨L.pb b, q, none⟩ = strAt w1 ⟨L.pb b, q, none⟩ := strAt_of ((b'.cell (p := ⟨L.pb b, q, none⟩) (h.chip.lt (Or.inr (Or.inr ⟨b, h.hb, rfl⟩)))).trans h.page)
  exact ⟨by rw [e]; exact h.chip.call b', h.kept.call b', (b'.block G (Array.getElem?_eq_some_iff.1 h.cut).1).trans h.cut, h.ne, h.hb, h.hq⟩
theorem PgK.drew {w0 : World} {L C b q G i k x} {w1 : World} (h : PgK w0 L C b q G i k x w1) : PgK w0 L C b q G i k x w1.drew := ⟨h.chip.drew, h.kept.drew, h.cut, h.ne, h.hb, h.hq⟩
theorem PgK.stored {w0 : World} {L C b q G i k x} {w1 : World} (h : PgK w0 L C b q G i k x w1) {s : ByteArray} (hs : s.size = 0 ∨ s.size = C.Z + 32) : PgK w0 L C b q G i k x (w1.setCell ⟨L.pb b, q, none⟩ (.string s)) := by
  have e : strAt (w1.setCell ⟨L.pb b, q, none⟩ (.string s)) ⟨L.pb b, q, none⟩ = s := strAt_of (World.cell?_setCell_same _ _ _ h.page)
  have h2 := h.chip.setPage b q h.hb s hs
  have h3 : Chip (w1.setCell ⟨L.pb b, q, none⟩ (.string s)) L (putPg (putPg C b q (strAt w1 ⟨L.pb b, q, none⟩)) b q s) := h2
  rw [putPg_put] at h3
  exact ⟨by rw [e]; exact h3, h.kept.setCell (p := ⟨L.pb b, q, none⟩) (Or.inr (Or.inr ⟨b, h.hb, rfl⟩)) _, (Below.heap_setCell w1 _ _ G h.ne).trans h.cut, h.ne, h.hb, h.hq⟩
/-- a page is written: what is there -/
theorem PgK.done {w0 : World} {L C b q G i k x} {w1 : World} (h : PgK w0 L C b q G i k x w1) {s : ByteArray} (hs : s.size = 0 ∨ s.size = C.Z + 32) : Chip (w1.setCell ⟨L.pb b, q, none⟩ (.string s)) L (putPg C b q s) ∧ Kp (L.own C.B) w0 (w1.setCell ⟨L.pb b, q, none⟩ (.string s)) := by
  have h2 := (h.stored hs).chip
  rw [strAt_of (World.cell?_setCell_same _ _ _ h.page)] at h2
  exact ⟨h2, (h.stored hs).kept⟩
theorem PgK.cells {w0 : World} {L C b q G i k x} {w' : World} (h : PgK w0 L C b q G i k x w') :
    w'.cell? ⟨L.bs, b * 4, none⟩ = some (.slice (some ⟨L.pb b, 0, none⟩) C.P C.P) ∧ w'.cell? ⟨L.pb b, q, none⟩ = some (.string (strAt w' ⟨L.pb b, q, none⟩)) ∧ w'.frozen? ⟨L.pb b, q, none⟩ = false ∧
    w'.cell? ⟨G, 0, none⟩ = some (.int .i64 i) ∧ w'.cell? ⟨G, 1, none⟩ = some (.int .i64 k) ∧ w'.cell? ⟨G, 2, none⟩ = some (.int .u8 x) ∧ PgK w0 L C b q G i k x w' :=
  ⟨(h.chip.cellB b h.hb).1, h.page, h.chip.frozenP b q h.hb, cell_of_row _ _ 0 _ 64 _ h.cut, cell_of_row _ _ 1 _ 64 _ h.cut, cell_of_row _ _ 2 _ 64 _ h.cut, h⟩
theorem pg_keep {w0 : World} {L C b q G i k x} {w1 w2 : World} {a1 a2 a3 a4 a5 a6 : Prop} (h : a1 ∧ a2 ∧ a3 ∧ a4 ∧ a5 ∧ a6 ∧ PgK w0 L C b q G i k x w1) (b' : Below w1.heap.size w1 w2) :
    w2.cell? ⟨L.bs, b * 4, none⟩ = some (.slice (some ⟨L.pb b, 0, none⟩) C.P C.P) ∧ w2.cell? ⟨L.pb b, q, none⟩ = some (.string (strAt w2 ⟨L.pb b, q, none⟩)) ∧ w2.frozen? ⟨L.pb b, q, none⟩ = false ∧
    w2.cell? ⟨G, 0, none⟩ = some (.int .i64 i) ∧ w2.cell? ⟨G, 1, none⟩ = some (.int .i64 k) ∧ w2.cell? ⟨G, 2, none⟩ = some (.int .u8 x) ∧ PgK w0 L C b q G i k x w2 := (h.2.2.2.2.2.2.call b').cells
theorem pg_store {w0 : World} {L C b q G i k x} {w1 : World} {a1 a2 a3 a4 a5 a6 : Prop} (h : a1 ∧ a2 ∧ a3 ∧ a4 ∧ a5 ∧ a6 ∧ PgK w0 L C b q G i k x w1) {s : ByteArray} (hs : s.size = 0 ∨ s.size = C.Z + 32) {w2 : World} (hw : w2 = w1.setCell ⟨L.pb b, q, none⟩ (.string s)) :
    w2.cell? ⟨L.bs, b * 4, none⟩ = some (.slice (some ⟨L.pb b, 0, none⟩) C.P C.P) ∧ w2.cell? ⟨L.pb b, q, none⟩ = some (.string (strAt w2 ⟨L.pb b, q, none⟩)) ∧ w2.frozen? ⟨L.pb b, q, none⟩ = false ∧
    w2.cell? ⟨G, 0, none⟩ = some (.int .i64 i) ∧ w2.cell? ⟨G, 1, none⟩ = some (.int .i64 k) ∧ w2.cell? ⟨G, 2, none⟩ = some (.int .u8 x) ∧ PgK w0 L C b q G i k x w2 := by
  rw [hw]
  exact (h.2.2.2.2.2.2.stored hs).cells
theorem pg_chip {w0 : World} {L C b q G i k x} {a1 a2 a3 a4 a5 a6 : Prop} {w' : World} (h : a1 ∧ a2 ∧ a3 ∧ a4 ∧ a5 ∧ a6 ∧ PgK w0 L C b q G i k x w') : Chip w' L (putPg C b q (strAt w' ⟨L.pb b, q, none⟩)) := h.2.2.2.2.2.2.chip
theorem pg_all {w0 : World} {L C b q G i k x} {a1 a2 a3 a4 a5 a6 : Prop} {w' : World} (h : a1 ∧ a2 ∧ a3 ∧ a4 ∧ a5 ∧ a6 ∧ PgK w0 L C b q G i k x w') : PgK w0 L C b q G i k x w' := h.2.2.2.2.2.2
/-- a block of which so many pages are erased, the next filled -/
def tornB (C : Ch) (f : Nat → ByteArray) (k x : Int) (p : Nat) : ByteArray := if (p : Int) = k ∧ (p : Int) < C.P then kp C.Z (rep (C.Z + 32) (u8 x)) else if (p : Int) < k ∧ (p : Int) < C.P then ⟨#[]⟩ else f p
/-- a block is erased -/
def eraseC (C : Ch) (b : Int) : Ch × Int :=
  if refB C b = 0 then
    match C.cuts (C.did + 1) with
    | some x => ({ C with did := C.did + 1, worn := upd C.worn b.toNat (C.worn b.toNat + 1), off := true, pg := upd C.pg b.toNat (tornB C (C.pg b.toNat) x.1 x.2) }, 51)
    | none => if (C.dead b.toNat || C.fails (C.did + 1)) = true then ({ C with did := C.did + 1, worn := upd C.worn b.toNat (C.worn b.toNat + 1), dead := upd C.dead b.toNat true }, 54)
      else ({ C with did := C.did + 1, worn := upd C.worn b.toNat (C.worn b.toNat + 1), pg := upd C.pg b.toNat (fun p => if p < C.P then ⟨#[]⟩ else C.pg b.toNat p) }, 0)
  else (C, refB C b)
theorem torn_in {C C2 : Ch} {b kk q : Nat} {x : Int} (hCC : C2 = { C with did := C.did + 1, worn := upd C.worn b (C.worn b + 1), off := true, pg := upd C.pg b (fun p => if p < kk then ⟨#[]⟩ else C.pg b p) }) (hk : kk = q) (hq : q < C.P) :
    ({ C2 with pg := upd C2.pg b (upd (C2.pg b) q (kp C2.Z (rep (C2.Z + 32) (u8 x)))) } : Ch) = { C with did := C.did + 1, worn := upd C.worn b (C.worn b + 1), off := true, pg := upd C.pg b (tornB C (C.pg b) q x) } := by
  subst hCC hk
  have e : upd (fun p => if p < kk then ⟨#[]⟩ else C.pg b p) kk (kp C.Z (rep (C.Z + 32) (u8 x))) = tornB C (C.pg b) kk x := by
    funext p
    unfold upd tornB
    by_cases h1 : p = kk
    · rw [if_pos h1, if_pos (by omega)]
    · rw [if_neg h1, if_neg (by omega)]
      by_cases h2 : p < kk
      · simp only [if_pos h2]
        rw [if_pos (by omega)]
      · simp only [if_neg h2]
        rw [if_neg (by omega)]
  simp only [upd_upd, upd_same, e]
theorem torn_out {C C2 : Ch} {b kk : Nat} {k x : Int} (hCC : C2 = { C with did := C.did + 1, worn := upd C.worn b (C.worn b + 1), off := true, pg := upd C.pg b (fun p => if p < kk then ⟨#[]⟩ else C.pg b p) }) (hk : ¬ (0 ≤ k ∧ k < C.P)) (hm : min (max k 0) (C.P : Int) = kk) (hkk : kk ≤ C.P) :
    C2 = { C with did := C.did + 1, worn := upd C.worn b (C.worn b + 1), off := true, pg := upd C.pg b (tornB C (C.pg b) k x) } := by
  have e : (fun p => if p < kk then ⟨#[]⟩ else C.pg b p) = tornB C (C.pg b) k x := by
    funext p
    unfold tornB
    by_cases h2 : p < kk
    · rw [if_pos h2, if_neg (by omega), if_pos (by omega)]
    · rw [if_neg h2, if_neg (by omega), if_neg (by omega)]
  rw [hCC, e]
set_option maxHeartbeats 1000000 in
theorem erase_any {w : World} {L C} (h : Chip w L C) (b : Int) (hd : C.did < 999999) (hw : ∀ n, 0 ≤ C.worn n ∧ C.worn n < 999999) : Calls Tryd.prog 33 #[.pointer (some ⟨L.a, 0, none⟩), .int .i64 b] w fun e w' =>
    e = .returned (.int .i64 (eraseC C b).2) ∧ Chip w' L (eraseC C b).1 ∧ Kp (L.own C.B) w w' := by
  unfold eraseC
  by_cases h0 : refB C b = 0
  · rw [if_pos h0]
    have hr0 := Hid.mk h0
    obtain ⟨hoff, b, rfl, hb⟩ := refB_zero h0
    have HO := Hid.mk hoff
    clear hoff
    rw [Int.toNat_natCast]
    obtain ⟨mc, mf, n, k, _, _, c0, c1, c2, c3, c4, c5, c6, c7, hf⟩ := h.cellA
    obtain ⟨b0, b1, b2, b3⟩ := h.cellB b hb
    have f6 := hf 6
    have g1 := h.frozenB (b * 4 + 1)
    have hdr := h.didr
    have hwb := hw b
    have HD := Hid.mk ((h.setDid (C.did + 1) (by omega)).setWorn b (C.worn b + 1))
    have HK := Hid.mk (((Kp.refl (L.own C.B) w).setCell (p := ⟨L.a, 6, none⟩) (Or.inl rfl) (.int .i64 (C.did + 1))).setCell (p := ⟨L.bs, b * 4 + 1, none⟩) (Or.inr (Or.inl rfl)) (.int .i64 (C.worn b + 1)))
    have hab := h.ab
    have hab' : ¬ L.a = L.bs := fun e => h.ab e.symm
    have HG := Hid.mk h.geo
    have HH := Hid.mk h
    have hb1 : (b : Int) < C.B := by omega
    have hgp := h.geo
    clear h h0 hf hw
    cases hc : C.cuts (C.did + 1) with
    | none =>
      simp only
      cases hfa : C.dead b || C.fails (C.did + 1)
      · rw [if_neg (by decide)]
        go_enter Tryd.func33, Tryd.ntmps33
        go_upto_region 15 with (first
          | (go_at_call 44; refine (refuse_any HH.out _).mono ?_; rintro e w' ⟨rfl, rfl⟩; rw [hr0.out])
          | (go_at_call 50; refine (cutnow_none HD.out hc).mono ?_; rintro e w1 ⟨rfl, b1⟩; unfold cut0; have HW := Hid.mk ((HD.out.call b1).alloc (.cells #[.int .i64 0, .int .i64 0, .int .u8 0] 64)); have HQ := Hid.mk ((HK.out.call b1).alloc (.cells #[.int .i64 0, .int .i64 0, .int .u8 0] 64)))
          | (go_at_call 54; refine (failsnow_any HW.out (b := b) hb).mono ?_; rintro e w2 ⟨rfl, h2, q2⟩; simp only [hfa]))
        have ed : C.dead b = false := by
          cases hx : C.dead b
          · rfl
          · rw [hx] at hfa
            exact absurd hfa (by simp)
        have e2 : upd C.dead b (C.dead b || C.fails (C.did + 1)) = C.dead := by rw [hfa, ← ed, upd_self]
        replace h2 : Chip w2 L { C with did := C.did + 1, worn := upd C.worn b (C.worn b + 1), dead := upd C.dead b (C.dead b || C.fails (C.did + 1)) } := h2
        rw [e2] at h2
        have HQ2 := Hid.mk (HQ.out.trans q2)
        have hcl := clear_run (h2.pgs b hb) C.P C.P (Nat.le_refl _)
        clear b1 HD HK HH c0 c1 c2 c3 c4 c5 c6 c7 b0 b2 b3 f6 g1 HW HQ q2 e2 ed
        obtain ⟨b0, b1, b2, b3⟩ := h2.cellB b hb
        have H2 := Hid.mk h2
        clear h2
        go_wp2_with (simp only [hcl])
        go_ret
        exact ⟨rfl, H2.out.clear b C.P hb, HQ2.out.cells _ _ _ (Or.inr (Or.inr ⟨b, hb, rfl⟩))⟩
      · rw [if_pos rfl]
        go_enter Tryd.func33, Tryd.ntmps33
        go_wp2_with (first
          | (go_at_call 44; refine (refuse_any HH.out _).mono ?_; rintro e w' ⟨rfl, rfl⟩; rw [hr0.out])
          | (go_at_call 50; refine (cutnow_none HD.out hc).mono ?_; rintro e w1 ⟨rfl, b1⟩; unfold cut0; have HW := Hid.mk ((HD.out.call b1).alloc (.cells #[.int .i64 0, .int .i64 0, .int .u8 0] 64)); have HQ := Hid.mk ((HK.out.call b1).alloc (.cells #[.int .i64 0, .int .i64 0, .int .u8 0] 64)))
          | (go_at_call 54; refine (failsnow_any HW.out (b := b) hb).mono ?_; rintro e w2 ⟨rfl, h2, q2⟩; simp only [hfa]; have HQ2 := Hid.mk (HQ.out.trans q2)))
        go_ret
        replace h2 : Chip w2 L { C with did := C.did + 1, worn := upd C.worn b (C.worn b + 1), dead := upd C.dead b (C.dead b || C.fails (C.did + 1)) } := h2
        rw [hfa] at h2
        exact ⟨rfl, h2, HQ2.out⟩
    | some x =>
      obtain ⟨k0, x0⟩ := x
      simp only
      have hfl := HH.out.fill _ _ hc
      go_enter Tryd.func33, Tryd.ntmps33
      go_upto_region 9 with (first
        | (go_at_call 44; refine (refuse_any HH.out _).mono ?_; rintro e w' ⟨rfl, rfl⟩; rw [hr0.out])
        | (go_at_call 50; refine (cutnow_some HD.out hc).mono ?_; rintro e w1 ⟨rfl, h1, q1⟩; unfold cutV))
      have cv := heap_alloc_new w1 (.cells #[.int .i64 (C.did + 1), .int .i64 k0, .int .u8 x0] 64)
      have HW := Hid.mk (h1.alloc (.cells #[.int .i64 (C.did + 1), .int .i64 k0, .int .u8 x0] 64))
      have HQ := Hid.mk ((HK.out.trans q1).alloc (.cells #[.int .i64 (C.did + 1), .int .i64 k0, .int .u8 x0] 64))
      generalize w1.alloc (.cells #[.int .i64 (C.did + 1), .int .i64 k0, .int .u8 x0] 64) = W at *
      have hGa : ∀ i, L.own C.B i → i < w1.heap.size := fun i hi => h1.lt hi
      generalize w1.heap.size = G at *
      clear h1 q1 HD HK HH c0 c1 c2 c3 c4 c5 c6 c7 b0 b1 b2 b3 f6 g1
      obtain ⟨b0, b1, b2, b3⟩ := HW.out.cellB b hb
      have v0 : W.cell? ⟨G, 0, none⟩ = some (.int .i64 (C.did + 1)) := cell_of_row _ _ 0 _ 64 _ cv
      have v1 : W.cell? ⟨G, 1, none⟩ = some (.int .i64 k0) := cell_of_row _ _ 1 _ 64 _ cv
      have v2 : W.cell? ⟨G, 2, none⟩ = some (.int .u8 x0) := cell_of_row _ _ 2 _ 64 _ cv
      have HCV := Hid.mk (And.intro cv hGa)
      clear cv hGa b1 b2 b3
      obtain ⟨kk, hkk, hm⟩ : ∃ kk : Nat, kk ≤ C.P ∧ min (max k0 0) (C.P : Int) = kk := ⟨(min (max k0 0) (C.P : Int)).toNat, by omega, by omega⟩
      have hcl := clear_run (HW.out.drew.pgs b hb) kk C.P hkk
      have hki : (kk : Int) ≤ C.P := by omega
      go_region
      have hcG : (W.drew.setCells (L.pb b) 0 (List.replicate kk (.string ⟨#[]⟩))).heap[G]? = some (.cells #[.int .i64 (C.did + 1), .int .i64 k0, .int .u8 x0] 64 (0, 0)) :=
        (heap_setCells _ _ _ _ G (fun e => by have := HCV.out.2 (L.pb b) (Or.inr (Or.inr ⟨b, hb, rfl⟩)); omega)).trans HCV.out.1
      have hnG : G ≠ L.pb b := fun e => by have := HCV.out.2 (L.pb b) (Or.inr (Or.inr ⟨b, hb, rfl⟩)); omega
      have hC := HW.out.drew.clear b kk hb
      have hK := HQ.out.drew.cells (L.pb b) (List.replicate kk (.string ⟨#[]⟩)) 0 (Or.inr (Or.inr ⟨b, hb, rfl⟩))
      generalize W.drew.setCells (L.pb b) 0 (List.replicate kk (.string ⟨#[]⟩)) = W2 at *
      clear hcl v0 v1 v2 b0 HCV HW HQ
      obtain ⟨C2, hCC⟩ : ∃ C2 : Ch, C2 = { C with did := C.did + 1, worn := upd C.worn b (C.worn b + 1), off := true, pg := upd C.pg b (fun p => if p < kk then ⟨#[]⟩ else C.pg b p) } := ⟨_, rfl⟩
      have hC2 : Chip W2 L C2 := by rw [hCC]; exact hC
      have hK2 : Kp (L.own C2.B) w' W2 := by rw [hCC]; exact hK
      have eB : C2.B = C.B := by rw [hCC]
      have eP : C2.P = C.P := by rw [hCC]
      have eZ : C2.Z = C.Z := by rw [hCC]
      have HCC := Hid.mk hCC
      have HC2 := Hid.mk (And.intro hC2 hK2)
      have HcG := Hid.mk hcG
      have HnG := Hid.mk hnG
      clear hCC hC2 hK2 hC hK hcG hnG
      by_cases hin : 0 ≤ k0 ∧ k0 < C.P
      · obtain ⟨q, rfl⟩ := Int.eq_ofNat_of_zero_le hin.1
        have hq : q < C.P := by omega
        have hq1 : (q : Int) < C.P := by omega
        have HPK := Hid.mk (PgK.start (b := b) (q := q) HC2.out.1 HC2.out.2 HcG.out HnG.out (by rw [eB]; exact hb) (by rw [eP]; exact hq))
        have HS := Hid.mk HPK.out.drew.drew.cells
        obtain ⟨u0, u1, u2, u3, u4, u5, _⟩ := HPK.out.cells
        have hqk : kk = q := by omega
        have HE := Hid.mk (And.intro eP (And.intro eZ eB))
        rw [eP] at u0
        clear hm hin eP eB hkk hki eZ
        go_upto_region 10 with fail
        go_region
        go_upto_region 11 with fail
        have hq3 : (q : Int) < C2.P := by rw [HE.out.1]; exact hq1
        clear u0 u1 u2 u3 u4 u5
        go_region_held3 (fun w2 => w2.cell? ⟨L.bs, b * 4, none⟩ = some (.slice (some ⟨L.pb b, 0, none⟩) C2.P C2.P) ∧ w2.cell? ⟨L.pb b, q, none⟩ = some (.string (strAt w2 ⟨L.pb b, q, none⟩)) ∧ w2.frozen? ⟨L.pb b, q, none⟩ = false ∧
            w2.cell? ⟨G, 0, none⟩ = some (.int .i64 (C.did + 1)) ∧ w2.cell? ⟨G, 1, none⟩ = some (.int .i64 q) ∧ w2.cell? ⟨G, 2, none⟩ = some (.int .u8 x0) ∧ PgK w' L C2 b q G (C.did + 1) q x0 w2) (first | assumption | exact HS.out | exact pg_keep (by assumption) (by assumption) | exact pg_store (by assumption) (kp_size _ _ (rep_size _ _)) rfl | fail)
          (first
            | (go_at_call 53; refine (fill_any _ _ _ hfl _).mono ?_; rintro e w5 ⟨rfl, b5⟩)
            | (go_at_call 52; refine (filled_any (pg_chip (by assumption)) _).mono ?_; rintro e w6 ⟨rfl, b6⟩)
            | (go_at_call 51; refine (kept_any (pg_chip (by assumption)) _).mono ?_; rintro e w7 ⟨rfl, b7⟩))
        have h7 := ((HPK.out.drew.drew.call b5).call b6).call b7
        have H7 := Hid.mk (h7.done (s := kp C2.Z (rep (C2.Z + 32) (u8 x0))) (kp_size _ _ (rep_size _ _)))
        clear h7 b5 b6 b7 HS HPK
        go_wp2_with fail
        go_ret
        refine ⟨rfl, ?_, ?_⟩
        · have h8 := H7.out.1
          have e8 := torn_in (x := x0) HCC.out hqk hq
          unfold putPg at h8
          rw [e8] at h8
          exact h8
        · rw [← HE.out.2.2]
          exact H7.out.2
      · have HPK := Hid.mk (PgK.start (b := b) (q := 0) HC2.out.1 HC2.out.2 HcG.out HnG.out (by rw [eB]; exact hb) (by rw [eP]; omega))
        obtain ⟨u0, u1, u2, u3, u4, u5, _⟩ := HPK.out.cells
        rw [eP] at u0
        have ef := torn_out (C := C) (b := b) (x := x0) HCC.out (by omega) hm hkk
        have HE := Hid.mk (And.intro ef eB)
        clear eP eB eZ hm hkk hki ef
        by_cases hk0 : 0 ≤ k0
        · have hk1 : ¬ k0 < C.P := by omega
          go_upto_region 10 with fail
          go_region
          go_wp2_with fail
          go_ret
          refine ⟨rfl, ?_, ?_⟩
          · rw [← HE.out.1]
            exact HC2.out.1.drew
          · rw [← HE.out.2]
            exact HC2.out.2.drew
        · go_upto_region 10 with fail
          go_region
          go_wp2_with fail
          go_ret
          refine ⟨rfl, ?_, ?_⟩
          · rw [← HE.out.1]
            exact HC2.out.1.drew
          · rw [← HE.out.2]
            exact HC2.out.2.drew
  · rw [if_neg h0]
    have HH := Hid.mk h
    clear h
    go_enter Tryd.func33, Tryd.ntmps33
    go_wp2_with (go_at_call 44; refine (refuse_any HH.out _).mono ?_; rintro e w' ⟨rfl, rfl⟩)
    go_ret
    exact ⟨rfl, HH.out, Kp.refl _ _⟩
end Go.Proofs.YtbcnocbdifbocaaDoor
