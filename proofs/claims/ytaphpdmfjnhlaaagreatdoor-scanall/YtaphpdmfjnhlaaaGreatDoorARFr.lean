/-
  Pages that may not be framed; the answer's Frame. No condition.
-/
import Derived.Test.YtaphpdmfjnhlaaaGreatDoorARCw
namespace Go.Proofs.YtaphpdmfjnhlaaaGreatDoor.Pg
open Go Go.RowKit
set_option maxRecDepth 100000
set_option maxHeartbeats 4000000 in
theorem refFrame_any (K S I O W : Nat) (hK : K < 9223372036854775808) (hS : S < 18446744073709551616) (hI : I < 9223372036854775808) (hO : O < 9223372036854775808) (hW : W < 9223372036854775808) (s : ByteArray) (n : Nat) (h : s.size <= n) (hn : n <= 65535) (w : World) :
  Calls Tryz.prog 20 #[tagV K S I O W, .string s, .int .i64 n] w fun e w' => e = .returned (.tuple #[.string (padB s n), .string (spareB K S I O W s n)]) /\ Below w.heap.size w w' := by
 have e1 := wrap_nat K hK
 have e2 := wrap_nat I hI
 have e3 := wrap_nat O hO
 have e4 := wrap_nat W hW
 have e5 := wrap_nat s.size (by omega)
 unfold spareB
 rw [beside_zs]
 have hz := padB_size s n h
 have hzz : (zs (n - s.size)).size = n - s.size := zs_size _
 have hzr := fun w => zeros_any ((n : Int) - (s.size : Int)) (by omega) (by omega) w
 have hz9 := fun w => zeros_any 9 (by omega) (by omega) w
 have ez : ((n : Int) - (s.size : Int)).toNat = n - s.size := by omega
 have ez9 : ((9 : Int)).toNat = 9 := rfl
 have rt : ∀ x : Nat, x < 18446744073709551616 -> ∀ (b : Int) (w : World), Calls Tryz.prog 59 #[.int .u64 x, .int .i64 b] w fun e w' => e = .returned (.string (fxW x b)) /\ Below w.heap.size w w' := fun x hx b w => renc_w x hx b w
 rw [ez] at hzr
 rw [ez9] at hz9
 generalize hX : crcN ((padB s n).data.toList ++ (fx K 1 ++ fx S 8 ++ fx I 2 ++ fx O 2 ++ fx W 4 ++ fx s.size 2 ++ zs 9).data.toList) = X
 have hlt : X < 4294967296 := by rw [<- hX]; exact crcN_lt _
 have hpd : s ++ zs (n - s.size) = padB s n := rfl
 generalize hL : s.size = L at *
 have z1 := fx_size K 1
 have z2 := fx_size S 8
 have z3 := fx_size I 2
 have z4 := fx_size O 2
 have z5 := fx_size W 4
 have z6 := fx_size L 2
 have z7 := zs_size 9
 have y1 : K < 18446744073709551616 := by omega
 have y3 : I < 18446744073709551616 := by omega
 have y4 : O < 18446744073709551616 := by omega
 have y5 : W < 18446744073709551616 := by omega
 have y6 : L < 18446744073709551616 := by omega
 have z12 : (fx K 1 ++ fx S 8).size = 9 := by rw [ByteArray.size_append, z1, z2]
 have z13 : (fx K 1 ++ fx S 8 ++ fx I 2).size = 11 := by rw [ByteArray.size_append, z12, z3]
 have z14 : (fx K 1 ++ fx S 8 ++ fx I 2 ++ fx O 2).size = 13 := by rw [ByteArray.size_append, z13, z4]
 have z15 : (fx K 1 ++ fx S 8 ++ fx I 2 ++ fx O 2 ++ fx W 4).size = 17 := by rw [ByteArray.size_append, z14, z5]
 have z16 : (fx K 1 ++ fx S 8 ++ fx I 2 ++ fx O 2 ++ fx W 4 ++ fx L 2).size = 19 := by rw [ByteArray.size_append, z15, z6]
 have z17 : (fx K 1 ++ fx S 8 ++ fx I 2 ++ fx O 2 ++ fx W 4 ++ fx L 2 ++ zs 9).size = 28 := by rw [ByteArray.size_append, z16, z7]
 have eX : IntKind.u64.wrap (X : Int) = (X : Int) := by rw [IntKind.wrap_u64]; omega
 obtain ⟨t5, tS⟩ := tg_fresh w K S I O W
 unfold tagV
 generalize hw0 : w.alloc (.cells #[.int .i64 K, .int .u64 S, .int .i64 I, .int .i64 O, .int .i64 W] 68) = w0 at t5 tS
 have HW0 := Hid.mk hw0
 have HQ := Hid.mk (And.intro t5 tS)
 have HX := Hid.mk hX
 clear hw0 t5 tS hX ez ez9 hK hI hO hW
 generalize padB s n = D at *
 generalize zs (n - L) = Z at *
 generalize zs 9 = Z9 at *
 have hsn : (L : Int) <= (n : Int) := by omega
 have hZ2 : Z.size <= 65535 := by omega
 have hD2 : D.size <= 65535 := by omega
 clear hzz hz
 go_enter Tryz.func20, Tryz.ntmps20
 go_upto_region 2 with (first
  | (go_at_call 58; rw [HW0.out]; refine (hzr _).mono ?_; rintro e w1 ⟨rfl, c1⟩; have HQ1 := Hid.mk (tg_keep ⟨HQ.out.1.1, HQ.out.1.2.1, HQ.out.1.2.2.1, HQ.out.1.2.2.2.1, HQ.out.1.2.2.2.2, HQ.out.2⟩ c1); clear c1 HQ))
 have hS1 : Hid (w1.drew.cell? ⟨w.heap.size, 0, none⟩ = some (.int .i64 K) /\ w1.drew.cell? ⟨w.heap.size, 1, none⟩ = some (.int .u64 S) /\ w1.drew.cell? ⟨w.heap.size, 2, none⟩ = some (.int .i64 I) /\ w1.drew.cell? ⟨w.heap.size, 3, none⟩ = some (.int .i64 O) /\ w1.drew.cell? ⟨w.heap.size, 4, none⟩ = some (.int .i64 W) /\ TgS w w.heap.size w1.drew) := ⟨HQ1.out.1, HQ1.out.2.1, HQ1.out.2.2.1, HQ1.out.2.2.2.1, HQ1.out.2.2.2.2.1, HQ1.out.2.2.2.2.2.1, HQ1.out.2.2.2.2.2.2.drew⟩
 clear HQ1 hzr hpd hn
 go_region_held3 (fun w' => w'.cell? ⟨w.heap.size, 0, none⟩ = some (.int .i64 K) /\ w'.cell? ⟨w.heap.size, 1, none⟩ = some (.int .u64 S) /\ w'.cell? ⟨w.heap.size, 2, none⟩ = some (.int .i64 I) /\ w'.cell? ⟨w.heap.size, 3, none⟩ = some (.int .i64 O) /\ w'.cell? ⟨w.heap.size, 4, none⟩ = some (.int .i64 W) /\ TgS w w.heap.size w') (first | assumption | exact hS1.out | exact tg_keep (by assumption) (by assumption) | fail)
  (first | (go_at_call 59; refine (rt _ (by assumption) _ _).mono ?_; rintro x w3 ⟨rfl, b3⟩; (first | rw [fw1] | rw [fw8] | rw [fw2] | rw [fw4])) | (go_at_call 58; refine (hz9 _).mono ?_; rintro x w3 ⟨rfl, b3⟩))
 have hb2 : Hid (TgS w w.heap.size w3) := (by assumption : _ /\ _ /\ _ /\ _ /\ _ /\ TgS w w.heap.size w3).2.2.2.2.2
 clear hS1
 generalize hR : fx K 1 ++ fx S 8 ++ fx I 2 ++ fx O 2 ++ fx W 4 ++ fx L 2 ++ Z9 = R at *
 have HR := Hid.mk hR
 clear hR
 have hRD : (D ++ R).size <= maxLen := by rw [ByteArray.size_append]; unfold maxLen; omega
 have hRD2 : D.size + R.size <= 70000 := by omega
 have hz4 : (fx X 4).size = 4 := fx_size X 4
 go_wp2_with (first
  | (go_at_call 60; refine (refSum_any _ _ hRD).mono ?_; rintro e w5 ⟨rfl, rfl⟩; rw [moreI_crcN, toList_append, HX.out])
  | (go_at_call 59; refine (rt _ (by omega) _ _).mono ?_; rintro e w5 ⟨rfl, c5⟩; rw [fw4]))
 go_ret2
 exact ⟨by rw [HR.out]; rfl, below3 hb2.out.2 c5⟩
end Go.Proofs.YtaphpdmfjnhlaaaGreatDoor.Pg
