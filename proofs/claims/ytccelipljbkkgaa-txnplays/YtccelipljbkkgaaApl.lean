/-
  Put, trim, move, add, drop, double and seal, each said over the plain state. No condition.
-/
import Derived.Test.YtccelipljbkkgaaAb
namespace Go.Proofs.Ytccelipljbkkgaa
open Go Go.RowKit Go.Maps

theorem k15 {x : Int} (h : 1 ≤ x ∧ x ≤ 15) : K64 x := k64 (by omega) (by omega)
theorem k1023 {x : Int} (h : 0 ≤ x ∧ x ≤ 1023) : K64 x := k64 (by omega) (by omega)
theorem ab_gsp {s : St} {id : Int} {x : Sp} (h : gsp s.sp id = some x) : gA (ab s).sp id = some x.a := by
  show gA (s.sp.map Sp.a) id = _
  rw [gA_map, h]; rfl
theorem ab_gspN {s : St} {id : Int} (h : gsp s.sp id = none) : gA (ab s).sp id = none := by
  show gA (s.sp.map Sp.a) id = _
  rw [gA_map, h]; rfl
theorem ab_mem {s : St} {x : Sp} (h : x ∈ s.sp) : x.a ∈ (ab s).sp := List.mem_map.2 ⟨x, h, rfl⟩
theorem Whole.up {w s} (h : Whole w s) : UpA (ab s).sp := upA_of h.at'.hS.up
theorem gsp_id {l : List Sp} {id : Int} {x : Sp} (h : gsp l id = some x) : gsp l x.id = some x := by rw [(gsp_some h).2]; exact h
theorem mem_mput {m : Pl} {k v : Int} {p : Int × Int} (h : p ∈ mput m k v) : p = (k, v) ∨ p ∈ m := by
  have hm : ∀ l : Pl, p ∈ mins (k, v) l → p = (k, v) ∨ p ∈ l := by
    intro l
    induction l with
    | nil => intro h; simpa [mins] using h
    | cons z t ih =>
      unfold mins
      split
      · intro h
        rcases List.mem_cons.1 h with h | h
        · exact .inl h
        · exact .inr h
      · intro h
        rcases List.mem_cons.1 h with h | h
        · exact .inr (by simp [h])
        · rcases ih h with h | h
          · exact .inl h
          · exact .inr (by simp [h])
  rcases hm _ h with h | h
  · exact .inl h
  · exact .inr ((mdel_sub m k).subset h)
theorem mem_sA {l : List Asp} {x y : Asp} (h : y ∈ sA l x) : y = x ∨ y ∈ l := by
  obtain ⟨z, hz, rfl⟩ := List.mem_map.1 h
  by_cases e : z.id = x.id
  · rw [if_pos e]; exact .inl rfl
  · rw [if_neg e]; exact .inr hz
theorem iA_perm (x : Asp) : ∀ l : List Asp, (iA x l).Perm (x :: l)
  | [] => List.Perm.refl _
  | y :: r => by
    unfold iA
    split
    · exact List.Perm.refl _
    · exact ((iA_perm x r).cons y).trans (List.Perm.swap x y r)
theorem upA_sA {l : List Asp} (hu : UpA l) (x : Asp) : UpA (sA l x) := by
  unfold UpA sA at *
  rw [List.pairwise_map]
  refine hu.imp (fun {a b} h => ?_)
  split <;> split <;> omega
theorem upA_dA {l : List Asp} (hu : UpA l) (id : Int) : UpA (dA l id) := hu.sublist List.filter_sublist
theorem upA_iA {x : Asp} : ∀ {l : List Asp}, UpA l → (∀ y ∈ l, y.id ≠ x.id) → UpA (iA x l)
  | [], _, _ => by simp [iA, UpA]
  | y :: r, hu, hn => by
    unfold iA
    have hy := hn y (by simp)
    have h1 := List.pairwise_cons.1 hu
    split
    · rename_i hl
      refine List.pairwise_cons.2 ⟨fun q hq => ?_, hu⟩
      rcases List.mem_cons.1 hq with rfl | hq
      · exact hl
      · have := h1.1 q hq; omega
    · rename_i hl
      refine List.pairwise_cons.2 ⟨fun q hq => ?_, upA_iA h1.2 (fun p hp => hn p (by simp [hp]))⟩
      rcases List.mem_cons.1 ((iA_perm x r).mem_iff.1 hq) with rfl | h
      · omega
      · exact h1.1 q h
theorem upA_mA {l : List Asp} (hu : UpA l) (f t : Int) : UpA (l.map (mA f t)) := by
  unfold UpA at *
  rw [List.pairwise_map]
  exact hu
theorem InvA.withS {t : Ab} (h : InvA t) {x : Asp} (h1 : 1 ≤ x.id ∧ x.id ≤ 15) (h2 : 1 ≤ x.q ∧ x.q ≤ 1024) (h3 : ∀ p ∈ x.ps, (0 ≤ p.1 ∧ p.1 < x.q) ∧ 0 ≤ p.2 ∧ p.2 ≤ 2000) (h4 : Up x.ps) : InvA { t with sp := sA t.sp x } := by
  refine ⟨fun y hy => ?_, fun y hy => ?_, fun y hy => ?_, fun y hy => ?_, upA_sA h.up x, h.bad, h.worn, h.upb, h.upw⟩
  all_goals rcases mem_sA hy with rfl | hy
  · exact h1
  · exact h.ids y hy
  · exact h2
  · exact h.qs y hy
  · exact h3
  · exact h.pss y hy
  · exact h4
  · exact h.ups y hy
theorem InvA.withI {t : Ab} (h : InvA t) {x : Asp} (hn : gA t.sp x.id = none) (h1 : 1 ≤ x.id ∧ x.id ≤ 15) (h2 : 1 ≤ x.q ∧ x.q ≤ 1024) (h3 : ∀ p ∈ x.ps, (0 ≤ p.1 ∧ p.1 < x.q) ∧ 0 ≤ p.2 ∧ p.2 ≤ 2000) (h4 : Up x.ps) : InvA { t with sp := iA x t.sp } := by
  refine ⟨fun y hy => ?_, fun y hy => ?_, fun y hy => ?_, fun y hy => ?_, upA_iA h.up (gA_none hn), h.bad, h.worn, h.upb, h.upw⟩
  all_goals rcases List.mem_cons.1 ((iA_perm x t.sp).mem_iff.1 hy) with rfl | hy
  · exact h1
  · exact h.ids y hy
  · exact h2
  · exact h.qs y hy
  · exact h3
  · exact h.pss y hy
  · exact h4
  · exact h.ups y hy
theorem InvA.withD {t : Ab} (h : InvA t) (id : Int) : InvA { t with sp := dA t.sp id } := by
  have hs : ∀ y ∈ dA t.sp id, y ∈ t.sp := fun y hy => (List.mem_filter.1 hy).1
  exact ⟨fun y hy => h.ids y (hs y hy), fun y hy => h.qs y (hs y hy), fun y hy => h.pss y (hs y hy), fun y hy => h.ups y (hs y hy), upA_dA h.up id, h.bad, h.worn, h.upb, h.upw⟩
theorem InvA.withM {t : Ab} (h : InvA t) {f g : Int} (hg : 0 ≤ g ∧ g ≤ 2000) : InvA { t with sp := t.sp.map (mA f g) } := by
  refine ⟨fun y hy => ?_, fun y hy => ?_, fun y hy p hp => ?_, fun y hy => ?_, upA_mA h.up f g, h.bad, h.worn, h.upb, h.upw⟩
  all_goals obtain ⟨x, hx, rfl⟩ := List.mem_map.1 hy
  · exact h.ids x hx
  · exact h.qs x hx
  · obtain ⟨q, hq, rfl⟩ := List.mem_map.1 hp
    have := h.pss x hx q hq
    refine ⟨this.1, ?_⟩
    unfold mvV
    simp only
    split
    · exact hg
    · exact this.2
  · exact up_mvP (h.ups x hx)
theorem InvA.space {t : Ab} (h : InvA t) {x : Asp} (hx : x ∈ t.sp) : (1 ≤ x.id ∧ x.id ≤ 15) ∧ (1 ≤ x.q ∧ x.q ≤ 1024) ∧ (∀ p ∈ x.ps, (0 ≤ p.1 ∧ p.1 < x.q) ∧ 0 ≤ p.2 ∧ p.2 ≤ 2000) ∧ Up x.ps := ⟨h.ids x hx, h.qs x hx, h.pss x hx, h.ups x hx⟩
theorem RefsIs.of {m : Pl} {f g : Int → Nat} (h : RefsIs m f) (e : ∀ a, f a = g a) : RefsIs m g := h.congr e

/-! put -/
def putA (t : Ab) (S P A : Int) : Ab × Int :=
  match gA t.sp S with
  | none => (t, 80)
  | some x => if x.q ≤ P then (t, 81) else ({ t with sp := sA t.sp { x with ps := mput x.ps P A } }, 0)
theorem put_ab {w s} (h : Whole w s) {S P A : Int} (hS : 1 ≤ S ∧ S ≤ 15) (hP : 0 ≤ P ∧ P ≤ 1023) (hA : 0 ≤ A ∧ A ≤ 2000) :
    Calls Try.prog 22 #[.pointer (some ⟨s.p, 0, none⟩), .int .i64 S, .int .i64 P, .int .i64 A] w (Done w s (putA (ab s) S P A)) := by
  have hkA : K64 A := k64 (by omega) (by omega)
  unfold putA
  cases hg : gsp s.sp S with
  | none =>
    rw [ab_gspN hg]
    refine (put_none h.at' (k15 hS) hg).mono ?_
    rintro e w' ⟨rfl, rfl⟩
    exact Done.same h 80
  | some x =>
    rw [ab_gsp hg]
    have hxid := (gsp_some hg).2
    have hgx := gsp_id hg
    subst hxid
    have hm := ab_mem (gsp_some hg).1
    obtain ⟨i1, i2, i3, i4⟩ := h.inv.space hm
    by_cases hq : x.q ≤ P
    · show Calls _ _ _ _ (Done w s (if x.q ≤ P then _ else _))
      rw [if_pos hq]
      refine (put_high h.at' (k15 hS) hgx hq).mono ?_
      rintro e w' ⟨rfl, rfl⟩
      exact Done.same h 81
    · show Calls _ _ _ _ (Done w s (if x.q ≤ P then _ else _))
      rw [if_neg hq]
      have hlen : x.ps.length < 1000000 := by have := h.inv.plen hm; simp only [Sp.a] at this; omega
      have hrl := h.refs.len h.at'.hR.up
      have htop := h.inv.top
      have hinv : InvA { ab s with sp := sA (ab s).sp { x.a with ps := mput x.ps P A } } := h.inv.withS i1 i2 (fun p hp => by
        rcases mem_mput hp with rfl | hp
        · exact ⟨⟨hP.1, by show P < x.q; omega⟩, hA⟩
        · exact i3 p hp) (up_put i4 P A)
      have habs : ∀ m, ab (putS s x P A m) = { ab s with sp := sA (ab s).sp { x.a with ps := mput x.ps P A } } := fun m => by
        show (⟨(ssp s.sp _).map Sp.a, s.bad, s.worn⟩ : Ab) = _
        rw [sA_map]; rfl
      have hcnt := fun a => cntA_sA h.up hm (x' := { x.a with ps := mput x.ps P A }) rfl a
      cases ho : mget x.ps P with
      | none =>
        refine (put_new h.at' (k15 hS) (k1023 hP) hkA hgx (by omega) ho hlen (by omega) (by rw [h.refs.val]; omega) (by rw [h.refs.val]; have := htop A; omega)).mono ?_
        rintro e w' ⟨rfl, g, c⟩
        refine ⟨rfl, _, ⟨g, by rw [habs]; exact hinv, ?_⟩, habs _, c⟩
        rw [habs]
        refine (h.refs.inc hA (by have := htop A; omega)).of (fun a => ?_)
        have h1 := hcnt a
        have h2 := cntP_put x.ps P A a
        have h3 : mdel x.ps P = x.ps := mdel_none ((mget_none_iff _ _).1 ho)
        rw [h3] at h2
        simp only [Sp.a] at h1
        show _ = cntA (sA (ab s).sp { x.a with ps := mput x.ps P A }) a
        simp only [Sp.a]
        by_cases e : a = A
        · subst e; simp at h2 ⊢; omega
        · rw [if_neg e]; rw [if_neg (fun e2 => e e2.symm)] at h2; omega
      | some old =>
        have hmem := mget_mem ho
        have hold := (i3 _ hmem).2
        have hkO : K64 old := k64 (by simp only at hold; omega) (by simp only at hold; omega)
        have hc1 := cntP_del i4 hmem
        have hge : 1 ≤ cntA (ab s).sp old := by
          have h1 := cntA_dA h.up hm old
          have h2 := hc1 old
          simp only [Sp.a] at h1 h2
          simp at h2; omega
        have hl := h.refs.leave hge
        have hln : (lvm s.refs old).length < 1000000 := by
          have h1 : (lvm s.refs old).length ≤ s.refs.length + 1 := by
            unfold lvm
            split
            · exact Nat.le_trans (mdel_sub _ _).length_le (mput_len _ _ _)
            · exact mput_len _ _ _
          omega
        refine (put_old h.at' (k15 hS) (k1023 hP) hkA hgx (by omega) ho hkO (by rw [h.refs.val]; omega) (by rw [h.refs.val]; have := htop old; omega) (by omega) hlen hln (by rw [hl.val]; omega) (by rw [hl.val]; have := hl.top A; omega)).mono ?_
        rintro e w' ⟨rfl, g, c⟩
        refine ⟨rfl, _, ⟨g, by rw [habs]; exact hinv, ?_⟩, habs _, c⟩
        rw [habs]
        refine (hl.inc hA (by have := htop A; split <;> omega)).of (fun a => ?_)
        have h1 := hcnt a
        have h2 := cntP_put x.ps P A a
        have h3 := hc1 a
        simp only [Sp.a] at h1 h3
        show _ = cntA (sA (ab s).sp { x.a with ps := mput x.ps P A }) a
        simp only [Sp.a]
        have h5 : cntA (ab s).sp a ≥ cntP x.ps a := by have := cntA_dA h.up hm a; simp only [Sp.a] at this; omega
        by_cases e : a = A <;> by_cases e2 : a = old
        · subst e; subst e2; simp at h2 h3 ⊢; omega
        · subst e; rw [if_pos rfl] at h2 ⊢; rw [if_neg (fun e3 => e2 e3.symm)] at h3; rw [if_neg e2]; omega
        · subst e2; rw [if_neg (fun e3 => e e3.symm)] at h2; rw [if_pos rfl] at h3; rw [if_neg e, if_pos rfl]; omega
        · rw [if_neg (fun e3 => e e3.symm)] at h2; rw [if_neg (fun e3 => e2 e3.symm)] at h3; rw [if_neg e, if_neg e2]; omega
end Go.Proofs.Ytccelipljbkkgaa
