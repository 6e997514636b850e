/-
  Trim, move, add, drop, double and seal, each said over the plain state. No condition.
-/
import Derived.Test.YtccelipljbkkgaaApl
namespace Go.Proofs.Ytccelipljbkkgaa
open Go Go.RowKit Go.Maps

def trimA (t : Ab) (S P : Int) : Ab × Int :=
  match gA t.sp S with
  | none => (t, 80)
  | some x => if mget x.ps P = none then (t, 81) else ({ t with sp := sA t.sp { x with ps := mdel x.ps P } }, 0)
theorem trim_ab {w s} (h : Whole w s) {S P : Int} (hS : 1 ≤ S ∧ S ≤ 15) (hP : 0 ≤ P ∧ P ≤ 1023) :
    Calls Try.prog 23 #[.pointer (some ⟨s.p, 0, none⟩), .int .i64 S, .int .i64 P] w (Done w s (trimA (ab s) S P)) := by
  unfold trimA
  cases hg : gsp s.sp S with
  | none =>
    rw [ab_gspN hg]
    refine (trim_none h.at' (k15 hS) hg).mono ?_
    rintro e w' ⟨rfl, rfl⟩
    exact Done.same h 80
  | some x =>
    rw [ab_gsp hg]
    have hxid := (gsp_some hg).2
    have hgx := gsp_id hg
    subst hxid
    have hm := ab_mem (gsp_some hg).1
    obtain ⟨i1, i2, i3, i4⟩ := h.inv.space hm
    show Calls _ _ _ _ (Done w s (if mget x.ps P = none then _ else _))
    cases ho : mget x.ps P with
    | none =>
      rw [if_pos rfl]
      refine (trim_not h.at' (k15 hS) (k1023 hP) hgx ho).mono ?_
      rintro e w' ⟨rfl, rfl⟩
      exact Done.same h 81
    | some old =>
      rw [if_neg (by simp)]
      have hmem := mget_mem ho
      have hold := (i3 _ hmem).2
      have hkO : K64 old := k64 (by simp only at hold; omega) (by simp only at hold; omega)
      have hc1 := cntP_del i4 hmem
      have hrl := h.refs.len h.at'.hR.up
      have htop := h.inv.top
      have hge : 1 ≤ cntA (ab s).sp old := by
        have h1 := cntA_dA h.up hm old
        have h2 := hc1 old
        simp only [Sp.a] at h1 h2
        simp at h2; omega
      have habs : ab (trimS s x P (lvm s.refs old)) = { ab s with sp := sA (ab s).sp { x.a with ps := mdel x.ps P } } := by
        show (⟨(ssp s.sp _).map Sp.a, s.bad, s.worn⟩ : Ab) = _
        rw [sA_map]; rfl
      refine (trim_old h.at' (k15 hS) (k1023 hP) hgx ho hkO (by rw [h.refs.val]; omega) (by rw [h.refs.val]; have := htop old; omega) (by omega)).mono ?_
      rintro e w' ⟨rfl, g, c⟩
      refine ⟨rfl, _, ⟨g, ?_, ?_⟩, habs, c⟩
      · rw [habs]
        exact h.inv.withS i1 i2 (fun p hp => i3 p ((mdel_sub _ _).subset hp)) (up_del i4 P)
      · rw [habs]
        refine (h.refs.leave hge).of (fun a => ?_)
        have h1 := cntA_sA h.up hm (x' := { x.a with ps := mdel x.ps P }) rfl a
        have h3 := hc1 a
        simp only [Sp.a] at h1 h3
        show _ = cntA (sA (ab s).sp { x.a with ps := mdel x.ps P }) a
        simp only [Sp.a]
        by_cases e : a = old
        · subst e; rw [if_pos rfl] at h3 ⊢; omega
        · rw [if_neg (fun e2 => e e2.symm)] at h3; rw [if_neg e]; omega

def moveA (t : Ab) (A T : Int) : Ab × Int := if cntA t.sp A = 0 ∨ cntA t.sp T ≠ 0 then (t, 82) else ({ t with sp := t.sp.map (mA A T) }, 0)
theorem move_ab {w s} (h : Whole w s) {A T : Int} (hA : 0 ≤ A ∧ A ≤ 2000) (hT : 0 ≤ T ∧ T ≤ 2000) :
    Calls Try.prog 24 #[.pointer (some ⟨s.p, 0, none⟩), .int .i64 A, .int .i64 T] w (Done w s (moveA (ab s) A T)) := by
  have kA : K64 A := k64 (by omega) (by omega)
  have kT : K64 T := k64 (by omega) (by omega)
  unfold moveA
  have vA := h.refs.val A
  have vT := h.refs.val T
  by_cases h0 : cntA (ab s).sp A = 0
  · rw [if_pos (.inl h0)]
    refine (move_a h.at' kA (by rw [vA, h0]; rfl)).mono ?_
    rintro e w' ⟨rfl, rfl⟩
    exact Done.same h 82
  · by_cases h1 : cntA (ab s).sp T = 0
    · rw [if_neg (by omega)]
      have habs : ab (movS s A T) = { ab s with sp := (ab s).sp.map (mA A T) } := by
        show (⟨(s.sp.map (mvSp A T)).map Sp.a, s.bad, s.worn⟩ : Ab) = _
        rw [mA_map]; rfl
      have hne : A ≠ T := fun e => h0 (by rw [e]; exact h1)
      refine (move_c h.at' kA kT (by rw [vA]; omega) (by rw [vT, h1]; rfl) (fun x hx => k15 (h.inv.ids _ (ab_mem hx))) (by have := h.refs.len h.at'.hR.up; omega) (fun x hx => by have := h.inv.plen (ab_mem hx); simp only [Sp.a] at this; omega)).mono ?_
      rintro e w' ⟨rfl, g, c⟩
      refine ⟨rfl, _, ⟨g, by rw [habs]; exact h.inv.withM hT, ?_⟩, habs, c⟩
      rw [habs]
      refine ⟨fun a => ?_, fun a => ?_, fun a => ?_⟩
      · show mget (mdel (mput s.refs T ((mget s.refs A).getD 0)) A) a = _
        rw [cntA_mv, vA]
        by_cases e : a = A
        · subst e
          rw [mget_del_same, if_neg hne]
          simp
        · rw [mget_del_ne e]
          by_cases e2 : a = T
          · subst e2
            rw [mget_put, if_pos rfl, if_neg e, h1]
            rw [if_neg (by omega)]
            simp
          · rw [mget_put_ne e2, h.refs.get, if_neg e2, if_neg e]
            simp
      · show cntA ((ab s).sp.map (mA A T)) a ≠ 0 → _
        rw [cntA_mv]
        intro hh
        by_cases e2 : a = T
        · subst e2; exact hT
        · rw [if_neg e2] at hh
          by_cases e : a = A
          · subst e; exact hA
          · rw [if_neg e] at hh
            exact h.refs.rng a (by omega)
      · show cntA ((ab s).sp.map (mA A T)) a ≤ 100000
        have := (h.inv.withM (f := A) hT).top a
        simp only at this; omega
    · rw [if_pos (.inr h1)]
      refine (move_b h.at' kA kT (by rw [vA]; omega) (by rw [vT]; omega)).mono ?_
      rintro e w' ⟨rfl, rfl⟩
      exact Done.same h 82

def addA (t : Ab) (S N : Int) : Ab × Int :=
  match gA t.sp S with
  | some _ => (t, 80)
  | none => ({ t with sp := iA ⟨S, N, false, []⟩ t.sp }, 0)
theorem add_ab {w s} (h : Whole w s) {S N : Int} (hS : 1 ≤ S ∧ S ≤ 15) (hN : 1 ≤ N ∧ N ≤ 1024) :
    Calls Try.prog 25 #[.pointer (some ⟨s.p, 0, none⟩), .int .i64 S, .int .i64 N] w (Done w s (addA (ab s) S N)) := by
  unfold addA
  cases hg : gsp s.sp S with
  | some x =>
    rw [ab_gsp hg]
    have hxid := (gsp_some hg).2
    subst hxid
    refine (add_some h.at' (k15 hS) (gsp_id hg)).mono ?_
    rintro e w' ⟨rfl, rfl⟩
    exact Done.same h 80
  | none =>
    have hgA := ab_gspN hg
    rw [hgA]
    refine (add_none h.at' (k15 hS) hg (by have := h.inv.len; simp only [ab, List.length_map] at this; omega)).mono ?_
    rintro e w' ⟨rfl, sb, pb, g, c⟩
    have habs : ab (addS s ⟨S, N, false, [], sb, pb⟩) = { ab s with sp := iA ⟨S, N, false, []⟩ (ab s).sp } := by
      show (⟨(isp _ s.sp).map Sp.a, s.bad, s.worn⟩ : Ab) = _
      rw [iA_map]; rfl
    refine ⟨rfl, _, ⟨g, ?_, ?_⟩, habs, c⟩
    · rw [habs]
      exact h.inv.withI (x := ⟨S, N, false, []⟩) hgA hS hN (fun p hp => by cases hp) List.Pairwise.nil
    · rw [habs]
      refine h.refs.of (fun a => ?_)
      show _ = cntA (iA ⟨S, N, false, []⟩ (ab s).sp) a
      rw [cntA_iA, cntP_nil, Nat.zero_add]

def dropA (t : Ab) (S : Int) : Ab × Int :=
  match gA t.sp S with
  | none => (t, 80)
  | some _ => ({ t with sp := dA t.sp S }, 0)
theorem drop_ab {w s} (h : Whole w s) {S : Int} (hS : 1 ≤ S ∧ S ≤ 15) :
    Calls Try.prog 26 #[.pointer (some ⟨s.p, 0, none⟩), .int .i64 S] w (Done w s (dropA (ab s) S)) := by
  unfold dropA
  cases hg : gsp s.sp S with
  | none =>
    rw [ab_gspN hg]
    refine (drop_none h.at' (k15 hS) hg).mono ?_
    rintro e w' ⟨rfl, rfl⟩
    exact Done.same h 80
  | some x =>
    rw [ab_gsp hg]
    have hxid := (gsp_some hg).2
    have hgx := gsp_id hg
    subst hxid
    have hm := ab_mem (gsp_some hg).1
    obtain ⟨i1, i2, i3, i4⟩ := h.inv.space hm
    refine (drop_some h.at' (F := cntA (dA (ab s).sp x.id)) (k15 hS) hgx (h.refs.of (fun a => (cntA_dA h.up hm a).symm)) (fun p hp => (i3 p hp).2)).mono ?_
    rintro e w' ⟨rfl, M, g, r, c⟩
    have habs : ab (dropS s x.id M) = { ab s with sp := dA (ab s).sp x.id } := by
      show (⟨(dsp s.sp _).map Sp.a, s.bad, s.worn⟩ : Ab) = _
      rw [dA_map]; rfl
    refine ⟨rfl, _, ⟨g, by rw [habs]; exact h.inv.withD _, by rw [habs]; exact r⟩, habs, c⟩

def dblA (t : Ab) (S T : Int) : Ab × Int :=
  match gA t.sp S with
  | none => (t, 80)
  | some x => match gA t.sp T with
    | some _ => (t, 80)
    | none => ({ t with sp := iA ⟨T, x.q, false, x.ps⟩ t.sp }, 0)
theorem dbl_ab {w s} (h : Whole w s) {S T : Int} (hS : 1 ≤ S ∧ S ≤ 15) (hT : 1 ≤ T ∧ T ≤ 15) :
    Calls Try.prog 27 #[.pointer (some ⟨s.p, 0, none⟩), .int .i64 S, .int .i64 T] w (Done w s (dblA (ab s) S T)) := by
  unfold dblA
  cases hg : gsp s.sp S with
  | none =>
    rw [ab_gspN hg]
    refine (double_none h.at' (k15 hS) hg).mono ?_
    rintro e w' ⟨rfl, rfl⟩
    exact Done.same h 80
  | some x =>
    rw [ab_gsp hg]
    have hxid := (gsp_some hg).2
    have hgx := gsp_id hg
    subst hxid
    have hm := ab_mem (gsp_some hg).1
    obtain ⟨i1, i2, i3, i4⟩ := h.inv.space hm
    cases hg2 : gsp s.sp T with
    | some y =>
      show Calls _ _ _ _ (Done w s (match gA (ab s).sp T with | some _ => _ | none => _))
      rw [ab_gsp hg2]
      have hyid := (gsp_some hg2).2
      subst hyid
      refine (double_taken h.at' (k15 hS) (k15 hT) hgx (gsp_id hg2)).mono ?_
      rintro e w' ⟨rfl, rfl⟩
      exact Done.same h 80
    | none =>
      have hgA := ab_gspN hg2
      show Calls _ _ _ _ (Done w s (match gA (ab s).sp T with | some _ => _ | none => _))
      rw [hgA]
      have hl := h.inv.len
      simp only [ab, List.length_map] at hl
      refine (double_some h.at' (f := cntA (ab s).sp) (k15 hS) (k15 hT) hgx hg2 (by omega) h.refs (fun p hp => (i3 p hp).2) (fun a => by have h1 := h.inv.top a; have h2 := cntP_le x.ps a; have h3 := h.inv.plen hm; simp only [Sp.a] at h3; omega)).mono ?_
      rintro e w' ⟨rfl, sb, pb, M, g, r, c⟩
      have habs : ab (dblS s ⟨T, x.q, false, x.ps, sb, pb⟩ M) = { ab s with sp := iA ⟨T, x.q, false, x.ps⟩ (ab s).sp } := by
        show (⟨(isp _ s.sp).map Sp.a, s.bad, s.worn⟩ : Ab) = _
        rw [iA_map]; rfl
      refine ⟨rfl, _, ⟨g, ?_, ?_⟩, habs, c⟩
      · rw [habs]
        exact h.inv.withI (x := ⟨T, x.q, false, x.ps⟩) hgA hT i2 i3 i4
      · rw [habs]
        refine r.of (fun a => ?_)
        show _ = cntA (iA ⟨T, x.q, false, x.ps⟩ (ab s).sp) a
        rw [cntA_iA]; exact Nat.add_comm _ _

def sealA (t : Ab) (S : Int) : Ab × Int :=
  match gA t.sp S with
  | none => (t, 80)
  | some x => ({ t with sp := sA t.sp { x with sl := true } }, 0)
theorem seal_ab {w s} (h : Whole w s) {S : Int} (hS : 1 ≤ S ∧ S ≤ 15) :
    Calls Try.prog 28 #[.pointer (some ⟨s.p, 0, none⟩), .int .i64 S] w (Done w s (sealA (ab s) S)) := by
  unfold sealA
  cases hg : gsp s.sp S with
  | none =>
    rw [ab_gspN hg]
    refine (seal_none h.at' (k15 hS) hg).mono ?_
    rintro e w' ⟨rfl, rfl⟩
    exact Done.same h 80
  | some x =>
    rw [ab_gsp hg]
    have hxid := (gsp_some hg).2
    have hgx := gsp_id hg
    subst hxid
    have hm := ab_mem (gsp_some hg).1
    obtain ⟨i1, i2, i3, i4⟩ := h.inv.space hm
    refine (seal_some h.at' (k15 hS) hgx).mono ?_
    rintro e w' ⟨rfl, g, c⟩
    have habs : ab (sealS s x) = { ab s with sp := sA (ab s).sp { x.a with sl := true } } := by
      show (⟨(ssp s.sp _).map Sp.a, s.bad, s.worn⟩ : Ab) = _
      rw [sA_map]; rfl
    refine ⟨rfl, _, ⟨g, by rw [habs]; exact h.inv.withS i1 i2 i3 i4, ?_⟩, habs, c⟩
    rw [habs]
    refine h.refs.of (fun a => ?_)
    have h1 := cntA_sA h.up hm (x' := { x.a with sl := true }) rfl a
    show _ = cntA (sA (ab s).sp { x.a with sl := true }) a
    simp only [Sp.a] at h1 ⊢
    omega
end Go.Proofs.Ytccelipljbkkgaa
