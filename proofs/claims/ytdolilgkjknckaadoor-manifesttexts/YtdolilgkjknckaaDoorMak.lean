/-
  An image's manifest (manifest.Of 17) and the laws' cut (9): a manifest that may be. No condition.
-/
import Derived.Test.YtdolilgkjknckaaDoorPrs
import Derived.Test.YtdolilgkjknckaaDoorRefSumA
import Derived.Test.YtdolilgkjknckaaDoorSum
import Derived.Test.YtdolilgkjknckaaDoorRef
namespace Go.Proofs.YtdolilgkjknckaaDoor
open Go Go.RowKit
set_option maxRecDepth 100000
/-- a text's digest -/
def sumB (s : ByteArray) : ByteArray := ⟨(Sh.sumL s.data.toList).toArray⟩
theorem sumB_size (s : ByteArray) : (sumB s).size = 32 := by
  show (Sh.sumL s.data.toList).toArray.size = 32
  rw [List.size_toArray, Sh.sumL, Sh.bytesOf_eq, Sh.bytesTo_length]
theorem of_any (v : Int) (s : ByteArray) (hs : s.size ≤ 1000) (w : World) :
    Calls Tryd.prog 17 #[.int .i64 v, .string s] w fun e w' => e = .returned (mv v s.size (sumB s)) ∧ Below w.heap.size w w' := by
  have c : ∀ w, Calls Tryd.prog 42 #[.string s] w fun e w' => e = .returned (.string (sumB s)) ∧ Below w.heap.size w w' := Sh.sum_any s hs
  have hm := Mf.fresh w 0 0 ⟨#[]⟩
  have hb : Below w.heap.size w (w.alloc (.cells #[.int .i64 0, .int .i64 0, .string ⟨#[]⟩] 23)) := (Below.refl _ _).alloc (Nat.le_refl _) _
  generalize sumB s = D at *
  have hk := Hid.mk (And.intro hm hb)
  clear hm hb
  go_enter Tryd.func17, Tryd.ntmps17
  go_wp2_with (go_at_call 42; refine (c _).mono ?_; rintro e w1 ⟨rfl, b1⟩; replace hk := Hid.mk (And.intro (hk.out.1.call b1) (below3 hk.out.2 b1)); clear b1; have f0 := hk.out.1.frozen; have c0 := hk.out.1.c0; have c1 := hk.out.1.c1; have c2 := hk.out.1.c2)
  exact bodyPost_ret (mf_result1 rfl rfl (((hk.out.1.set0 v).set1 s.size).set2 D)) rfl
      ⟨rfl, ((hk.out.2.setCell (Nat.le_refl _) _).setCell (Nat.le_refl _) _).setCell (Nat.le_refl _) _⟩
theorem and_low (x : Int) (m : Nat) (hm : m < 9223372036854775808) : 0 ≤ bits .and .i64 x m ∧ bits .and .i64 x m ≤ m := by
  have e : bits .and .i64 x m = IntKind.i64.wrap ((BitVec.ofInt 64 x &&& BitVec.ofInt 64 m).toNat : Int) := rfl
  have e1 : BitVec.ofInt 64 (m : Int) = BitVec.ofNat 64 m := BitVec.ofInt_natCast 64 m
  have h : (BitVec.ofInt 64 x &&& BitVec.ofNat 64 m).toNat ≤ m := by
    rw [BitVec.toNat_and, BitVec.toNat_ofNat, Nat.mod_eq_of_lt (by omega)]
    exact Nat.and_le_right
  rw [e, e1, IntKind.wrap_i64]
  omega
def lenS : Value → Nat | .slice _ n _ => n | _ => 0
theorem cutM_any (v l : Int) (s : ByteArray) (hs : s.size ≤ 1000) (w : World) :
    Calls Tryd.prog 9 #[.int .i64 v, .int .i64 l, .string s] w fun e w' => (∃ V L D, Mok V L D ∧ e = .returned (mv V L D)) ∧ Below w.heap.size w w' := by
  obtain ⟨a0, a1⟩ := and_low v 1073741823 (by omega)
  obtain ⟨b0, b1⟩ := and_low l 1048575 (by omega)
  have hm := Mf.fresh w 0 0 ⟨#[]⟩
  have hb : Below w.heap.size w (w.alloc (.cells #[.int .i64 0, .int .i64 0, .string ⟨#[]⟩] 23)) := (Below.refl _ _).alloc (Nat.le_refl _) _
  have hconv := fun w s => run_bytes_of_string (P := Tryd.prog) w 9 50 5 s Tryd.underlying9 Tryd.underlying50 Tryd.underlying5
  have hsl : s.data.toList.length = s.size := Array.length_toList
  generalize ha : bits .and .i64 v ((1073741823 : Nat) : Int) = A at *
  generalize hbb : bits .and .i64 l ((1048575 : Nat) : Int) = B at *
  have ha' : bits .and .i64 v 1073741823 = A := ha
  have hb' : bits .and .i64 l 1048575 = B := hbb
  clear ha hbb
  go_enter Tryd.func9, Tryd.ntmps9
  go_wp2_with fail
  clear hconv
  have hm2 := hm.alloc (.cells (bytesRow s (grownCap (w.alloc (.cells #[.int .i64 0, .int .i64 0, .string ⟨#[]⟩] 23)) s.size 0 5)) 5 ((bytesRow s (grownCap (w.alloc (.cells #[.int .i64 0, .int .i64 0, .string ⟨#[]⟩] 23)) s.size 0 5)).size, (bytesRow s (grownCap (w.alloc (.cells #[.int .i64 0, .int .i64 0, .string ⟨#[]⟩] 23)) s.size 0 5)).size + 1))
  have hb2 := hb.alloc hb.size (.cells (bytesRow s (grownCap (w.alloc (.cells #[.int .i64 0, .int .i64 0, .string ⟨#[]⟩] 23)) s.size 0 5)) 5 ((bytesRow s (grownCap (w.alloc (.cells #[.int .i64 0, .int .i64 0, .string ⟨#[]⟩] 23)) s.size 0 5)).size, (bytesRow s (grownCap (w.alloc (.cells #[.int .i64 0, .int .i64 0, .string ⟨#[]⟩] 23)) s.size 0 5)).size + 1))
  have hc := Sh.slConverted (w.alloc (.cells #[.int .i64 0, .int .i64 0, .string ⟨#[]⟩] 23)) s 5
  rw [size_alloc] at hc
  clear hm hb
  go_loopw [7] (fun x wr => ∃ (t : List UInt8) (g : Nat), Sl wr 5 .u8 x g (toI t) ∧ t.length ≤ 1000 ∧ w.heap.size + 1 ≤ g ∧ Mf wr w.heap.size 0 0 ⟨#[]⟩ ∧ Below w.heap.size w wr) (fun x _ => 32 - lenS x)
  case atStart => exact ⟨s.data.toList, w.heap.size + 1, hc, by omega, Nat.le_refl _, hm2, hb2.drew⟩
  case round =>
    clear hm2 hb2 hc
    obtain ⟨t, g, q1, q2, q3, q4, q5⟩ := hrel
    obtain ⟨cap, rfl, hcap⟩ := q1.val
    rw [toI_length] at hcap ⊢
    have HQ := Hid.mk (And.intro q1 (And.intro q2 (And.intro q3 (And.intro q4 q5))))
    by_cases hlt : t.length < 32
    · have hlen : (toI t).length + 1 ≤ 1000000 := by rw [toI_length]; omega
      clear q1 q2 q3 q4 q5
      go_wp2_with (first | (at_builtin; refine wpList_append_sl rfl (.tmp 13) (.tmp 17) 50 rfl Tryd.underlying50 info5y rfl (by decide) rfl (by rw [← toI_length]; exact HQ.out.1.alloc _) ⟨wr.heap.size, 0, none⟩ 1 1 [(t.length : Int)] rfl rfl (one_cell wr .u8 _ 5) hlen ?_; intro v2 g2 w2 hs2 hgr hgg))
      obtain ⟨q1, q2, q3, q4, q5⟩ := HQ.out
      have hd : (UInt8.ofNat t.length).toNat = t.length := by rw [UInt8.toNat_ofNat']; omega
      have e : toI t ++ [(t.length : Int)] = toI (t ++ [UInt8.ofNat t.length]) := by rw [← toI_snoc, hd]
      rw [e] at hs2
      obtain ⟨c2, hv2, _⟩ := hs2.val
      rw [toI_length, List.length_append] at hv2
      have hz := q5.size
      have hsz : (wr.alloc (.cells #[.int .u8 (t.length : Int)] 5)).heap.size = wr.heap.size + 1 := size_alloc _ _
      refine ⟨⟨t ++ [UInt8.ofNat t.length], g2, hs2, by rw [List.length_append]; simp; omega, by omega, (q4.alloc _).kept hgr (by omega), below_grown (q5.alloc hz _) hgr (by omega) (by omega)⟩, ?_⟩
      rw [hv2]
      simp [lenS]
      omega
    · have hbk := fun (W : World) (hq : Sl W 5 .u8 (.slice (some ⟨g, 0, none⟩) (toI t).length cap) g (toI t)) (c : Nat) => (hq.hasBytes.take 32).back (P := Tryd.prog) 50 9 5 32 c (by rw [List.length_take]; omega) Tryd.underlying50 Tryd.underlying5 Tryd.underlying9
      have hb1 := hbk wr q1
      have hb2 := hbk wr.drew q1.drew
      have hD : (⟨(t.take 32).toArray⟩ : ByteArray).size = 32 := by
        show (t.take 32).toArray.size = 32
        rw [List.size_toArray, List.length_take]
        omega
      generalize (⟨(t.take 32).toArray⟩ : ByteArray) = D at *
      have f0 := q4.frozen
      have c0 := q4.c0
      have c1 := q4.c1
      have c2 := q4.c2
      have hcap2 : 32 ≤ cap := by omega
      clear q1 q2 q3 q4 q5 hbk
      go_wp2_with fail
      obtain ⟨q1, q2, q3, q4, q5⟩ := HQ.out
      exact bodyPost_ret (mf_result1 rfl rfl (((q4.set0 (1 + A)).set1 B).set2 D)) rfl
        ⟨⟨1 + A, B, D, ⟨by omega, by omega, b0, by omega, hD⟩, rfl⟩, ((q5.setCell (Nat.le_refl _) _).setCell (Nat.le_refl _) _).setCell (Nat.le_refl _) _⟩
end Go.Proofs.YtdolilgkjknckaaDoor
