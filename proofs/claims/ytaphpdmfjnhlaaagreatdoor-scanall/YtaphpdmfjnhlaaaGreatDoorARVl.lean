/-
  Valid pages: what was framed is read again; both sides' Look in three ways. Condition of the program's: the table's cells hold what the text lays.
-/
import Derived.Test.YtaphpdmfjnhlaaaGreatDoorARLl
namespace Go.Proofs.YtaphpdmfjnhlaaaGreatDoor.Pg
open Go Go.RowKit
set_option maxRecDepth 100000
theorem rlook_val {d s t : ByteArray} {K S I O W : Nat} (h : Val d s t K S I O W) (w : World) :
  Calls Tryz.prog 22 #[.string d, .string s] w fun e w' => e = .returned (.tuple #[.int .i64 1, tagV K S I O W, .string t]) /\ Below w.heap.size w w' := by
 have hx := h.text
 have hs := h.size
 have h1 := h.data
 have h2 := h.spare
 have hl := h.le
 have ha : allF (d ++ s) = false := by rw [allF_append, h.not, Bool.and_false]
 have h6 := h.six
 rw [<- hx] at h1 h2
 have hr := rlook_v d s h.most ha hs h6 hl h.may h1 h2 w
 rw [hx] at hr
 exact hr
theorem rlook_t (d s : ByteArray) (zd : d.size <= 65535) (zs : s.size <= 1000000) (hE : ¬ (allF d = true /\ allF s = true)) (hV : ¬ ∃ t K S I O W, Val d s t K S I O W) (w : World) :
  Calls Tryz.prog 22 #[.string d, .string s] w fun e w' => e = .returned (lookV 2) /\ Below w.heap.size w w' := by
 have ha : allF (d ++ s) = false := by
  rw [allF_append]
  cases h1 : allF d <;> cases h2 : allF s <;> first | rfl | exact absurd ⟨h1, h2⟩ hE
 by_cases h32 : s.size = 32
 ·obtain ⟨K, S, I, O, W, L, h6⟩ := six_some s
  by_cases hL : L <= d.size
  ·by_cases hm : mayB K I O W
   ·by_cases h1 : padB (d.extract 0 L) d.size = d
    ·by_cases h2 : spareB K S I O W (d.extract 0 L) d.size = s
     ·exact absurd ⟨_, K, S, I, O, W, hm, h6.bounds.2.1, by rw [ByteArray.size_extract]; omega, zd, h1, h2⟩ hV
     ·exact rlook_t4 d s zd ha h32 h6 hL hm h1 h2 w
    ·exact rlook_t3 d s zd ha h32 h6 hL hm h1 w
   ·exact rlook_t2 d s zd ha h32 h6 hL hm w
  ·exact rlook_t1 d s zd ha h32 h6 (by omega) w
 ·exact rlook_t0 d s zd zs ha h32 w
theorem rlook_e (d s : ByteArray) (zd : d.size <= 65535) (zs : s.size <= 1000000) (hd : allF d = true) (hs : allF s = true) (w : World) :
  Calls Tryz.prog 22 #[.string d, .string s] w fun e w' => e = .returned (lookV 0) /\ Below w.heap.size w w' :=
 rlook_erased d s zd zs (by rw [allF_append, hd, hs]; rfl) w
theorem looks_same (d s : ByteArray) (zd : d.size <= 65535) (zs : s.size <= 1000000) : ∃ (c K S I O W : Int) (t : ByteArray), (∀ w, Tab w -> Calls Tryz.prog 32 #[.string d, .string s] w fun e w' => e = .returned (.tuple #[.int .i64 c, tagV K S I O W, .string t]) /\ Below w.heap.size w w') /\ ∀ w, Calls Tryz.prog 22 #[.string d, .string s] w fun e w' => e = .returned (.tuple #[.int .i64 c, tagV K S I O W, .string t]) /\ Below w.heap.size w w' := by
 by_cases hE : allF d = true /\ allF s = true
 ·exact ⟨0, 0, 0, 0, 0, 0, ⟨#[]⟩, fun w _ => look_erased _ _ (by omega) (by omega) hE.1 hE.2 w, fun w => rlook_e _ _ (by omega) (by omega) hE.1 hE.2 w⟩
 ·by_cases hV : ∃ t K S I O W, Val d s t K S I O W
  ·obtain ⟨t, K, S, I, O, W, hV⟩ := hV
   exact ⟨1, K, S, I, O, W, t, fun w hT => look_v hV w hT, fun w => rlook_val hV w⟩
  ·exact ⟨2, 0, 0, 0, 0, 0, ⟨#[]⟩, fun w hT => look_t _ _ (by omega) (by omega) hE hV w hT, fun w => rlook_t _ _ (by omega) (by omega) hE hV w⟩
end Go.Proofs.YtaphpdmfjnhlaaaGreatDoor.Pg
