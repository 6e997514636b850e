/-
  Valid pages: what was framed is read again; both sides' Look in three ways. Condition of the program's: the table's cells hold what the text lays.
-/
import Derived.Test.YtbhggcleijjofaaDoorLook
namespace Go.Proofs.YtbhggcleijjofaaDoor.Pg
open Go Go.RowKit

theorem extract_left (a t : ByteArray) : (a ++ t).extract 0 a.size = a := by
  apply ByteArray.ext
  rw [ByteArray.data_extract, ByteArray.data_append]
  exact (Array.extract_append_left ..).trans (by simp)
theorem extract_right (a t : ByteArray) : (a ++ t).extract a.size (a ++ t).size = t := by
  apply ByteArray.ext
  rw [ByteArray.data_extract, ByteArray.data_append, ByteArray.size_append]
  have e1 : a.size = a.data.size := rfl
  have e2 : t.size = t.data.size := rfl
  have e3 : a.data.extract a.size (a.size + t.size) = #[] := Array.extract_empty_of_size_le_start (by rw [e1]; exact Nat.le_refl _)
  have e4 : t.data.extract 0 t.size = t.data := by rw [e2]; exact Array.extract_size
  rw [Array.extract_append, e3, Array.empty_append, show a.size - a.data.size = 0 by omega, show a.size + t.size - a.data.size = t.size by omega, e4]
theorem rB_app (a t : ByteArray) (n : Int) (h : n = (a.size : Int)) : rB (a ++ t) 0 n = (t, 0, a) := by
  subst h
  unfold rB
  have hs : (a ++ t).size = a.size + t.size := ByteArray.size_append
  rw [if_neg (by decide), if_neg (by rw [hs]; omega), Int.toNat_natCast, extract_right, extract_left]
theorem rF_fx (x k : Nat) (hk : k ≤ 8) (hx : x < 256 ^ k) (t : ByteArray) : rF (fx x k ++ t) 0 (k : Int) = (t, 0, x) := by
  have hw : wid (k : Int) = (k : Int) := by unfold wid; rw [if_neg (by omega), if_neg (by omega)]
  unfold rF
  rw [hw, rB_app (fx x k) t k (by rw [fx_size])]
  show (t, (0 : Int), leL (fixL x k)) = _
  rw [leL_fixL, Nat.mod_eq_of_lt hx]
theorem app_assoc (a b c : ByteArray) : (a ++ b) ++ c = a ++ (b ++ c) := by
  apply ByteArray.ext
  simp only [ByteArray.data_append, Array.append_assoc]
theorem six_spare (K S I O W : Nat) (t : ByteArray) (n : Nat) (hK : K < 256) (hS : S < 18446744073709551616) (hI : I < 65536) (hO : O < 65536) (hW : W < 4294967296) (ht : t.size < 65536) : Six (spareB K S I O W t n) K S I O W t.size := by
  unfold spareB
  rw [beside_zs]
  generalize fx (crcN _) 4 = X
  simp only [app_assoc]
  exact ⟨_, _, _, _, _, _, _, _, _, _, _, _, rF_fx K 1 (by omega) (by omega) _, rF_fx S 8 (by omega) (by omega) _, rF_fx I 2 (by omega) (by omega) _, rF_fx O 2 (by omega) (by omega) _, rF_fx W 4 (by omega) (by omega) _, rF_fx t.size 2 (by omega) (by omega) _⟩
theorem Six.unique {s : ByteArray} {K S I O W L K' S' I' O' W' L' : Nat} (h : Six s K S I O W L) (h' : Six s K' S' I' O' W' L') : K = K' ∧ S = S' ∧ I = I' ∧ O = O' ∧ W = W' ∧ L = L' := by
  obtain ⟨s1, e1, s2, e2, s3, e3, s4, e4, s5, e5, s6, e6, q1, q2, q3, q4, q5, q6⟩ := h.out
  obtain ⟨t1, g1, t2, g2, t3, g3, t4, g4, t5, g5, t6, g6, r1, r2, r3, r4, r5, r6⟩ := h'.out
  rw [q1] at r1
  obtain ⟨rfl, rfl, rfl⟩ : s1 = t1 ∧ e1 = g1 ∧ K = K' := by simpa using r1
  rw [q2] at r2
  obtain ⟨rfl, rfl, rfl⟩ : s2 = t2 ∧ e2 = g2 ∧ S = S' := by simpa using r2
  rw [q3] at r3
  obtain ⟨rfl, rfl, rfl⟩ : s3 = t3 ∧ e3 = g3 ∧ I = I' := by simpa using r3
  rw [q4] at r4
  obtain ⟨rfl, rfl, rfl⟩ : s4 = t4 ∧ e4 = g4 ∧ O = O' := by simpa using r4
  rw [q5] at r5
  obtain ⟨rfl, rfl, rfl⟩ : s5 = t5 ∧ e5 = g5 ∧ W = W' := by simpa using r5
  rw [q6] at r6
  obtain ⟨rfl, rfl, rfl⟩ : s6 = t6 ∧ e6 = g6 ∧ L = L' := by simpa using r6
  exact ⟨rfl, rfl, rfl, rfl, rfl, rfl⟩
theorem allF_append (a b : ByteArray) : allF (a ++ b) = (allF a && allF b) := by
  unfold allF
  rw [toList_append, List.all_append]
/-- these bytes are the page that says t under this tag -/
structure Val (d s t : ByteArray) (K S I O W : Nat) : Prop where
  may : mayB K I O W
  seq : S < 18446744073709551616
  le : t.size ≤ d.size
  most : d.size ≤ 65535
  data : padB t d.size = d
  spare : spareB K S I O W t d.size = s
theorem Val.framed (K S I O W : Nat) (hm : mayB K I O W) (hS : S < 18446744073709551616) (t : ByteArray) (n : Nat) (h : t.size ≤ n) (hn : n ≤ 65535) : Val (padB t n) (spareB K S I O W t n) t K S I O W := by
  have hz := padB_size t n h
  exact ⟨hm, hS, by rw [hz]; exact h, by rw [hz]; exact hn, by rw [hz], by rw [hz]⟩
theorem Val.six {d s t : ByteArray} {K S I O W : Nat} (h : Val d s t K S I O W) : Six s K S I O W t.size := by
  have hm := h.may
  have hl := h.le
  have h6 := h.most
  unfold mayB at hm
  rw [← h.spare]
  exact six_spare K S I O W t d.size (by omega) h.seq (by omega) (by omega) (by omega) (by omega)
theorem Val.text {d s t : ByteArray} {K S I O W : Nat} (h : Val d s t K S I O W) : d.extract 0 t.size = t := by
  have hd := h.data
  unfold padB at hd
  rw [← hd]
  exact extract_left _ _
theorem Val.size {d s t : ByteArray} {K S I O W : Nat} (h : Val d s t K S I O W) : s.size = 32 := by
  rw [← h.spare]
  exact spareB_size ..
theorem Val.not {d s t : ByteArray} {K S I O W : Nat} (h : Val d s t K S I O W) : allF s = false := by
  have hm := h.may
  unfold mayB at hm
  rw [← h.spare]
  unfold spareB
  rw [beside_zs]
  simp only [app_assoc]
  rw [allF_append]
  have h1 : allF (fx K 1) = false := by
    have h3 : K = 1 ∨ K = 2 ∨ K = 3 := by omega
    rcases h3 with rfl | rfl | rfl <;> rfl
  rw [h1]
  rfl
theorem look_v {d s t : ByteArray} {K S I O W : Nat} (h : Val d s t K S I O W) (w : World) (hT : Tab w) :
    Calls Tryd.prog 30 #[.string d, .string s] w fun e w' => e = .returned (.tuple #[.int .i64 1, tagV K S I O W, .string t]) ∧ Below w.heap.size w w' := by
  have hx := h.text
  have hs := h.size
  have hmin : min t.size d.size = t.size := Nat.min_eq_left h.le
  have e1 : d.extract 0 (min t.size d.size) = t := by rw [hmin, hx]
  have h1 := h.data
  have h2 := h.spare
  rw [← e1] at h1 h2 ⊢
  generalize hL : t.size = L at *
  have h6 := h.six
  rw [hL] at h6
  cases hd : allF d with
  | false => exact look_va d s h.most hd h6 h.may h1 h2 w hT
  | true => exact look_vb d s h.most (by omega) hd h.not h6 h.may h1 h2 w hT
theorem look_t (d s : ByteArray) (zd : d.size ≤ 65535) (zs : s.size ≤ 1000000) (hE : ¬ (allF d = true ∧ allF s = true)) (hV : ¬ ∃ t K S I O W, Val d s t K S I O W) (w : World) (hT : Tab w) :
    Calls Tryd.prog 30 #[.string d, .string s] w fun e w' => e = .returned (lookV 2) ∧ Below w.heap.size w w' := by
  obtain ⟨K, S, I, O, W, L, h6⟩ := six_some s
  by_cases hm : mayB K I O W
  · by_cases h1 : padB (d.extract 0 (min L d.size)) d.size = d
    · by_cases h2 : spareB K S I O W (d.extract 0 (min L d.size)) d.size = s
      · exact absurd ⟨_, K, S, I, O, W, hm, h6.bounds.2.1, by rw [ByteArray.size_extract]; omega, zd, h1, h2⟩ hV
      · cases hd : allF d with
        | false => exact look_t3a d s zd hd h6 hm h1 h2 w hT
        | true =>
          cases hs : allF s with
          | false => exact look_t3b d s zd zs hd hs h6 hm h1 h2 w hT
          | true => exact absurd ⟨hd, hs⟩ hE
    · cases hd : allF d with
      | false => exact look_t2a d s zd hd h6 hm h1 w hT
      | true =>
        cases hs : allF s with
        | false => exact look_t2b d s zd zs hd hs h6 hm h1 w hT
        | true => exact absurd ⟨hd, hs⟩ hE
  · cases hd : allF d with
    | false => exact look_t1a d s zd hd h6 hm w hT
    | true =>
      cases hs : allF s with
      | false => exact look_t1b d s zd zs hd hs h6 hm w hT
      | true => exact absurd ⟨hd, hs⟩ hE
end Go.Proofs.YtbhggcleijjofaaDoor.Pg
