/-
  What a state tells: Get, Refs, Live, Keys, Bad, Bads, Worn; and what no state tells. No condition.
-/
import Derived.Test.YtccelipljbkkgaaApp
namespace Go.Proofs.Ytccelipljbkkgaa
open Go Go.RowKit Go.Maps

/-- a page's place -/
def getA (t : Ab) (id page : Int) : Option Int := match gA t.sp id with | none => none | some x => mget x.ps page
set_option maxRecDepth 20000 in
theorem get_any {w s} (h : StAt w s) {id page : Int} (hi : K64 id) (hp : K64 page) :
    Calls Try.prog 48 #[.pointer (some ⟨s.p, 0, none⟩), .int .i64 id, .int .i64 page] w fun e w' => e = .returned (.tuple #[.int .i64 ((getA (ab s) id page).getD 0), .bool (getA (ab s) id page).isSome]) ∧ w = w' := by
  have c0 := h.c0
  unfold getA
  cases hg : gsp s.sp id with
  | none =>
    rw [ab_gspN hg]
    have l0 := h.noSp hi hg
    clear h hg
    go_enter Try.func48, Try.ntmps48
    go_wp2
    go_ret2
    exact ⟨rfl, rfl⟩
  | some x =>
    rw [ab_gsp hg]
    have hxid := (gsp_some hg).2
    have hgx := gsp_id hg
    subst hxid
    have l0 := h.aSp hi hgx
    have hX := h.hsp x (gsp_some hg).1
    have q2 := hX.pb
    have l1 := hX.2.lookOk hp
    show Calls _ _ _ _ fun e w' => e = .returned (.tuple #[.int .i64 ((mget x.ps page).getD 0), .bool (mget x.ps page).isSome]) ∧ w = w'
    generalize (mget x.ps page).getD 0 = a at *
    generalize (mget x.ps page).isSome = b at *
    clear h hg hgx hX
    go_enter Try.func48, Try.ntmps48
    go_wp2
    go_ret2
    exact ⟨rfl, rfl⟩
theorem refs_any {w s} (h : StAt w s) {a : Int} (ha : K64 a) : Calls Try.prog 65 #[.pointer (some ⟨s.p, 0, none⟩), .int .i64 a] w fun e w' => e = .returned (.int .i64 ((mget s.refs a).getD 0)) ∧ w = w' := by
  have c1 := h.c1
  have l1 := h.hR.look ha
  generalize (mget s.refs a).getD 0 = b at *
  clear h
  go_enter Try.func65, Try.ntmps65
  go_wp2
  go_ret
  exact ⟨rfl, rfl⟩
theorem live_any {w s} (h : StAt w s) : Calls Try.prog 67 #[.pointer (some ⟨s.p, 0, none⟩)] w fun e w' => e = .returned (.int .i64 (s.refs.length : Int)) ∧ w = w' := by
  have c1 := h.c1
  have l1 := fun ty => h.hR.len Try.underlying65 ty
  generalize (s.refs : Pl).length = b at *
  clear h
  go_enter Try.func67, Try.ntmps67
  go_wp2
  go_ret
  exact ⟨rfl, rfl⟩
/-- how many pages those spaces have that are no longer to come -/
def kN (rest : Pl) : List Sp → Nat
  | [] => 0
  | x :: r => (if (mget rest x.id).isSome then 0 else x.ps.length) + kN rest r
theorem kN_start (l : List Sp) (rest : Pl) (h : ∀ x ∈ l, (mget rest x.id).isSome = true) : kN rest l = 0 := by
  induction l with
  | nil => rfl
  | cons x r ih => simp only [kN]; rw [if_pos (h x (by simp)), ih (fun y hy => h y (by simp [hy]))]
theorem kN_none {l : List Sp} {rest : Pl} {k : Int} (h : ∀ x ∈ l, x.id ≠ k) : kN (mdel rest k) l = kN rest l := by
  induction l with
  | nil => rfl
  | cons x r ih => simp only [kN]; rw [mget_del_ne (h x (by simp)), ih (fun y hy => h y (by simp [hy]))]
theorem kN_step {l : List Sp} (hu : Up (spm l)) {rest : Pl} {x : Sp} (hx : x ∈ l) (hr : (mget rest x.id).isSome = true) : kN (mdel rest x.id) l = kN rest l + x.ps.length := by
  induction l with
  | nil => cases hx
  | cons y r ih =>
    have hy : ∀ z ∈ r, z.id ≠ y.id := fun z hz e => by
      have := (List.pairwise_cons.1 hu).1 (z.id, (z.sb : Int)) (List.mem_map.2 ⟨z, hz, rfl⟩)
      simp only at this; omega
    simp only [kN]
    rcases List.mem_cons.1 hx with rfl | hx
    · rw [mget_del_same, hr, kN_none hy]
      simp; omega
    · rw [mget_del_ne (fun e => hy x hx e.symm), ih (List.pairwise_cons.1 hu).2 hx]
      omega
def pagesN : List Asp → Nat
  | [] => 0
  | x :: r => x.ps.length + pagesN r
theorem kN_end (l : List Sp) : kN [] l = pagesN (l.map Sp.a) := by
  induction l with
  | nil => rfl
  | cons x r ih => simp only [kN, List.map_cons, pagesN, ih]; rfl
theorem pagesN_le {l : List Asp} (h : ∀ x ∈ l, x.ps.length ≤ 1024) : pagesN l ≤ l.length * 1024 := by
  induction l with
  | nil => simp [pagesN]
  | cons x r ih =>
    have h2 := h x (by simp)
    have h3 := ih (fun y hy => h y (by simp [hy]))
    simp only [pagesN, List.length_cons]; omega
theorem kN_le (l : List Sp) (rest : Pl) : kN rest l ≤ pagesN (l.map Sp.a) := by
  induction l with
  | nil => simp [kN]
  | cons x r ih => simp only [kN, List.map_cons, pagesN, Sp.a]; split <;> omega
def KyS (w : World) (s : St) (r : Nat) (rest : Pl) (wr : World) : Prop := Rg elP wr s.bS r (spm s.sp) rest ∧ rest.Sublist (spm s.sp) ∧ StAt wr s ∧ Below w.heap.size w wr ∧ w.heap.size ≤ r
set_option maxRecDepth 20000 in
theorem keys_any {w s} (h : Whole w s) : Calls Try.prog 17 #[.pointer (some ⟨s.p, 0, none⟩)] w fun e w' => e = .returned (.int .i64 (pagesN (ab s).sp : Int)) ∧ Below w.heap.size w w' := by
  have c0 := h.at'.c0
  have hmx : pagesN (ab s).sp ≤ 15360 := by have h1 := pagesN_le (fun x hx => h.inv.plen hx); have := h.inv.len; omega
  have hk := fun rest => kN_le s.sp rest
  have H := Hid.mk h
  clear h
  generalize hT : pagesN (ab s).sp = T at *
  have HT : Hid (pagesN (s.sp.map Sp.a) = T) := hT
  clear hT
  replace hk : Hid (∀ rest, kN rest s.sp ≤ T) := fun rest => by rw [← HT.out]; exact hk rest
  go_enter Try.func17, Try.ntmps17
  go_upto_region 5 with (first | (at_range; refine wp_range _ rfl _ 64 97 rfl Try.underlying64 H.out.at'.hS rfl ?_; intro w1 r1 b1 z1))
  go_frame
  have S0 : KyS w s w.heap.size (spm s.sp) w1 := ⟨r1, List.Sublist.refl _, H.out.at'.call b1, b1, Nat.le_refl _⟩
  replace S0 := Hid.mk S0
  clear r1 b1 z1 c0
  have hst : Hid (kN (spm s.sp) s.sp = 0) := kN_start _ _ (fun x hx => by
    rw [spm_get, Option.isSome_map]
    unfold gsp
    rw [List.find?_isSome]
    exact ⟨x, hx, by simp⟩)
  generalize hr : w.heap.size = r at *
  replace hr := Hid.mk hr
  go_loopw [3] (fun a wr => ∃ rest, a = .int .i64 (kN rest s.sp : Int) ∧ KyS w s r rest wr) (fun _ wr => wr.rangeLeft s.bS r)
  case atStart => exact ⟨_, by rw [hst.out]; rfl, S0.out⟩
  case round =>
    clear S0
    obtain ⟨rest, rfl, hs⟩ := hrel
    have HS := Hid.mk hs
    clear hs
    go_wp2_with (first | (at_next; refine wp_nextP _ rfl _ rfl HS.out.1 rfl ?_ ?_))
    · intro hd
      subst hd
      go_wp2_with fail
      go_ret
      refine ⟨?_, ?_⟩
      · rw [← HT.out, ← kN_end]; rfl
      · exact HS.out.2.2.2.1
    · intro k g w2 hm hk2 hrg hlt hgr hsz hen
      obtain ⟨x, hx, ex⟩ := List.mem_map.1 (HS.out.2.1.subset hm)
      simp only [Prod.mk.injEq, Int.ofNat_inj] at ex
      obtain ⟨rfl, rfl⟩ := ex
      have hu := H.out.at'.hS.up
      have hxr : (mget rest x.id).isSome = true := by rw [mem_mget (up_sub hu HS.out.2.1) hm]; rfl
      have hst := kN_step hu hx hxr
      have g2 : StAt w2 s := HS.out.2.2.1.step H.out.at' rfl hgr HS.out.2.2.2.2
      have X2 := g2.hsp x hx
      have p2 := X2.pb
      have l2 := fun ty => X2.2.len Try.underlying65 ty
      have b2 : Below w.heap.size w w2 := HS.out.2.2.2.1.grown hgr (HS.out.2.2.2.1.size) (fun j hj => by cases hj; exact HS.out.2.2.2.2)
      have hle := hk.out (mdel rest x.id)
      have hw : IntKind.i64.wrap ((kN rest s.sp : Int) + (x.ps.length : Int)) = (kN (mdel rest x.id) s.sp : Int) := by rw [wrap_id (by omega) (by omega), hst]; omega
      generalize (kN rest s.sp : Int) = n1 at *
      generalize (x.ps : Pl).length = n2 at *
      have HG := Hid.mk (And.intro g2 (And.intro hrg (And.intro hlt b2)))
      clear g2 X2 hrg hlt hgr hsz hu hst hle hm b2
      go_wp2_with fail
      exact ⟨⟨_, rfl, HG.out.2.1, (mdel_sub _ _).trans HS.out.2.1, HG.out.1, HG.out.2.2.2, HS.out.2.2.2.2⟩, HG.out.2.2.1⟩
/-! no state -/
theorem get_nil (w : World) (id page : Int) : Calls Try.prog 48 #[.pointer none, .int .i64 id, .int .i64 page] w fun e w' => e = .returned (.tuple #[.int .i64 0, .bool false]) ∧ w = w' := by
  go_enter Try.func48, Try.ntmps48
  go_wp2
  go_ret2
  exact ⟨rfl, rfl⟩
theorem refs_nil (w : World) (a : Int) : Calls Try.prog 65 #[.pointer none, .int .i64 a] w fun e w' => e = .returned (.int .i64 0) ∧ w = w' := by
  go_enter Try.func65, Try.ntmps65
  go_wp2
  go_ret
  exact ⟨rfl, rfl⟩
theorem live_nil (w : World) : Calls Try.prog 67 #[.pointer none] w fun e w' => e = .returned (.int .i64 0) ∧ w = w' := by
  go_enter Try.func67, Try.ntmps67
  go_wp2
  go_ret
  exact ⟨rfl, rfl⟩
theorem keys_nil (w : World) : Calls Try.prog 17 #[.pointer none] w fun e w' => e = .returned (.int .i64 0) ∧ w = w' := by
  go_enter Try.func17, Try.ntmps17
  go_wp2
  go_ret
  exact ⟨rfl, rfl⟩
theorem spaces_nil (w : World) : Calls Try.prog 49 #[.pointer none] w fun e w' => e = .returned (.slice none 0 0) ∧ w = w' := by
  go_enter Try.func49, Try.ntmps49
  go_wp2
  go_ret
  exact ⟨rfl, rfl⟩
theorem copy_nil (w : World) : Calls Try.prog 31 #[.pointer none] w fun e w' => e = .returned (.pointer none) ∧ w = w' := by
  go_enter Try.func31, Try.ntmps31
  go_wp2
  go_ret
  exact ⟨rfl, rfl⟩
theorem lay_nil (w : World) (a b c : Int) : Calls Try.prog 41 #[.pointer none, .int .i64 a, .int .i64 b, .int .i64 c] w fun e w' => e = .returned (.int .i64 1) ∧ w = w' := by
  go_enter Try.func41, Try.ntmps41
  go_wp2
  go_ret
  exact ⟨rfl, rfl⟩
end Go.Proofs.Ytccelipljbkkgaa
