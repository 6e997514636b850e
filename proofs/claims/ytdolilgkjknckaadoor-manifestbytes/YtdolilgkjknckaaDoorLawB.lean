/-
  ManifestBytes (7): a manifest's bytes, and that they are read again; what other bytes say. Condition: the library's table of powers of ten holds what it was laid with (Tb).
-/
import Derived.Test.YtdolilgkjknckaaDoorAwk
import Derived.Test.YtdolilgkjknckaaDoorRtk
import Derived.Deep.QuietTactic
import Derived.BigQuiet
namespace Go.Proofs.YtdolilgkjknckaaDoor
open Go Go.RowKit
set_option maxRecDepth 100000
theorem take_put (v l : Int) (d : ByteArray) (m : Mok v l d) : tkR (putB v l d) 0 = (⟨#[]⟩, 0, d) ∧ tkV (putB v l d) 0 = mv v l d := by
  have hv : v.toNat < 18446744073709551616 := by have := m.v2; omega
  have hl : l.toNat < 18446744073709551616 := by have := m.l2; omega
  have e1 : tk1 (putB v l d) 0 = (numB l.toNat ++ d, 0, v.toNat) := by
    unfold tk1 putB
    rw [ByteArray.append_assoc, rN_app _ _ _ hv, if_neg (by have := m.v2; have := m.v1; omega)]
  have e2 : tk2 (putB v l d) 0 = (d, 0, l.toNat) := by
    unfold tk2
    rw [e1]
    show rN (numB l.toNat ++ d) 0 1048576 = _
    rw [rN_app _ _ _ hl, if_neg (by have := m.l2; have := m.l1; omega)]
  have e3 : tkR (putB v l d) 0 = (⟨#[]⟩, 0, d) := by
    unfold tkR
    rw [e2]
    show rB d 0 32 = _
    have := rB_app d ⟨#[]⟩ 32 (by rw [m.d1]; rfl)
    rwa [append_nilB] at this
  refine ⟨e3, ?_⟩
  unfold tkV
  rw [e3, if_pos rfl, e1, e2]
  show mv (v.toNat : Int) (l.toNat : Int) d = mv v l d
  rw [Int.toNat_of_nonneg (by have := m.v1; omega), Int.toNat_of_nonneg m.l1]
theorem Tb.lt {w : World} (h : Tb w) : 1 < w.heap.size := by
  unfold Tb Lib.TabIs World.var? at h
  rw [show Tryd.prog.globalNamed "internal/strconv.uint64pow10" = some 1 by kernel_rfl] at h
  simp only [Option.bind_some] at h
  split at h
  · rename_i hb
    exact (Array.getElem?_eq_some_iff.1 hb).1
  · cases h
theorem Tb.kept {w w' : World} {g : Nat} (h : Tb w) (b : w.grownBy w' (some g)) (hne : 1 ≠ g) : Tb w' := by
  have hl := h.lt
  have e := b.block 1 hl (by simpa using hne)
  unfold Tb Lib.TabIs World.var? at h ⊢
  rw [show Tryd.prog.globalNamed "internal/strconv.uint64pow10" = some 1 by kernel_rfl] at h ⊢
  simp only [Option.bind_some] at h ⊢
  rw [e]
  exact h
/-- what stands while the law runs -/
structure ZS (w : World) (V L : Int) (D s3 : ByteArray) (e3 a b : Int) (c : ByteArray) (n1 n2 : Int) (d : ByteArray) (g7 g9 g10 g11 g13 g14 g15 : Nat) (w' : World) : Prop where
  m7 : Mf w' g7 V L D
  r9 : Rd w' g9 ⟨#[]⟩ 0
  m10 : Mf w' g10 V L D
  r11 : Rd w' g11 s3 e3
  m13 : Mf w' g13 a b c
  a14 : Ab w' g14 s3 e3
  m15 : Mf w' g15 n1 n2 d
  tb : Tb w'
  bel : Below w.heap.size w w'
theorem ZS.call {w : World} {V L D s3 e3 a b c n1 n2 d g7 g9 g10 g11 g13 g14 g15} {w1 w2 : World} (h : ZS w V L D s3 e3 a b c n1 n2 d g7 g9 g10 g11 g13 g14 g15 w1) (k : Below w1.heap.size w1 w2) : ZS w V L D s3 e3 a b c n1 n2 d g7 g9 g10 g11 g13 g14 g15 w2 :=
  ⟨h.m7.call k, h.r9.call k, h.m10.call k, h.r11.call k, h.m13.call k, h.a14.call k, h.m15.call k, h.tb.call k, below3 h.bel k⟩
theorem ZS.drew {w : World} {V L D s3 e3 a b c n1 n2 d g7 g9 g10 g11 g13 g14 g15} {w1 : World} (h : ZS w V L D s3 e3 a b c n1 n2 d g7 g9 g10 g11 g13 g14 g15 w1) : ZS w V L D s3 e3 a b c n1 n2 d g7 g9 g10 g11 g13 g14 g15 w1.drew :=
  ⟨h.m7.drew, h.r9.drew, h.m10.drew, h.r11.drew, h.m13.drew, h.a14.drew, h.m15.drew, h.tb.drew, h.bel.drew⟩
/-- what the law's tests read -/
theorem p8_of {w : World} {V L D s3 e3 a b c n1 n2 d G7 G9 G10 G11 G13 G14 G15} {w1 : World} (h : ZS w V L D s3 e3 a b c n1 n2 d G7 G9 G10 G11 G13 G14 G15 w1) :
    w1.cell? ⟨G7, 0, none⟩ = some (.int .i64 V) ∧ w1.cell? ⟨G7, 1, none⟩ = some (.int .i64 L) ∧ w1.cell? ⟨G7, 2, none⟩ = some (.string D) ∧ w1.cell? ⟨G10, 0, none⟩ = some (.int .i64 V) ∧ w1.cell? ⟨G10, 1, none⟩ = some (.int .i64 L) ∧ w1.cell? ⟨G10, 2, none⟩ = some (.string D) ∧ ZS w V L D s3 e3 a b c n1 n2 d G7 G9 G10 G11 G13 G14 G15 w1 :=
  ⟨h.m7.c0, h.m7.c1, h.m7.c2, h.m10.c0, h.m10.c1, h.m10.c2, h⟩
theorem p8_keep {w : World} {V L D s3 e3 a b c n1 n2 d G7 G9 G10 G11 G13 G14 G15} {w1 w2 : World} (h : w1.cell? ⟨G7, 0, none⟩ = some (.int .i64 V) ∧ w1.cell? ⟨G7, 1, none⟩ = some (.int .i64 L) ∧ w1.cell? ⟨G7, 2, none⟩ = some (.string D) ∧ w1.cell? ⟨G10, 0, none⟩ = some (.int .i64 V) ∧ w1.cell? ⟨G10, 1, none⟩ = some (.int .i64 L) ∧ w1.cell? ⟨G10, 2, none⟩ = some (.string D) ∧ ZS w V L D s3 e3 a b c n1 n2 d G7 G9 G10 G11 G13 G14 G15 w1) (k : Below w1.heap.size w1 w2) :
    w2.cell? ⟨G7, 0, none⟩ = some (.int .i64 V) ∧ w2.cell? ⟨G7, 1, none⟩ = some (.int .i64 L) ∧ w2.cell? ⟨G7, 2, none⟩ = some (.string D) ∧ w2.cell? ⟨G10, 0, none⟩ = some (.int .i64 V) ∧ w2.cell? ⟨G10, 1, none⟩ = some (.int .i64 L) ∧ w2.cell? ⟨G10, 2, none⟩ = some (.string D) ∧ ZS w V L D s3 e3 a b c n1 n2 d G7 G9 G10 G11 G13 G14 G15 w2 := p8_of (h.2.2.2.2.2.2.call k)
theorem p10_of {w : World} {V L D s3 e3 a b c n1 n2 d G7 G9 G10 G11 G13 G14 G15} {w1 : World} (h : ZS w V L D s3 e3 a b c n1 n2 d G7 G9 G10 G11 G13 G14 G15 w1) :
    w1.cell? ⟨G14, 1, none⟩ = some (.int .i64 e3) ∧ w1.cell? ⟨G13, 0, none⟩ = some (.int .i64 a) ∧ w1.cell? ⟨G13, 1, none⟩ = some (.int .i64 b) ∧ w1.cell? ⟨G13, 2, none⟩ = some (.string c) ∧ w1.cell? ⟨G15, 0, none⟩ = some (.int .i64 n1) ∧ w1.cell? ⟨G15, 1, none⟩ = some (.int .i64 n2) ∧ w1.cell? ⟨G15, 2, none⟩ = some (.string d) ∧ ZS w V L D s3 e3 a b c n1 n2 d G7 G9 G10 G11 G13 G14 G15 w1 :=
  ⟨h.a14.err, h.m13.c0, h.m13.c1, h.m13.c2, h.m15.c0, h.m15.c1, h.m15.c2, h⟩
theorem p10_keep {w : World} {V L D s3 e3 a b c n1 n2 d G7 G9 G10 G11 G13 G14 G15} {w1 w2 : World} (h : w1.cell? ⟨G14, 1, none⟩ = some (.int .i64 e3) ∧ w1.cell? ⟨G13, 0, none⟩ = some (.int .i64 a) ∧ w1.cell? ⟨G13, 1, none⟩ = some (.int .i64 b) ∧ w1.cell? ⟨G13, 2, none⟩ = some (.string c) ∧ w1.cell? ⟨G15, 0, none⟩ = some (.int .i64 n1) ∧ w1.cell? ⟨G15, 1, none⟩ = some (.int .i64 n2) ∧ w1.cell? ⟨G15, 2, none⟩ = some (.string d) ∧ ZS w V L D s3 e3 a b c n1 n2 d G7 G9 G10 G11 G13 G14 G15 w1) (k : Below w1.heap.size w1 w2) :
    w2.cell? ⟨G14, 1, none⟩ = some (.int .i64 e3) ∧ w2.cell? ⟨G13, 0, none⟩ = some (.int .i64 a) ∧ w2.cell? ⟨G13, 1, none⟩ = some (.int .i64 b) ∧ w2.cell? ⟨G13, 2, none⟩ = some (.string c) ∧ w2.cell? ⟨G15, 0, none⟩ = some (.int .i64 n1) ∧ w2.cell? ⟨G15, 1, none⟩ = some (.int .i64 n2) ∧ w2.cell? ⟨G15, 2, none⟩ = some (.string d) ∧ ZS w V L D s3 e3 a b c n1 n2 d G7 G9 G10 G11 G13 G14 G15 w2 := p10_of (h.2.2.2.2.2.2.2.call k)
theorem end_ok {w : World} {g : Nat} (h : Rd w g ⟨#[]⟩ 0) : Calls Tryd.prog 25 #[.pointer (some ⟨g, 0, none⟩)] w fun x w' => x = .returned (.int .i64 0) ∧ Below w.heap.size w w' :=
  (end_any h).mono fun x w' ⟨hx, hw⟩ => ⟨hx, by rw [hw]; exact Below.refl _ _⟩
theorem err_ok {w : World} {g : Nat} {s e} (h : Rd w g s e) : Calls Tryd.prog 26 #[.pointer (some ⟨g, 0, none⟩)] w fun x w' => x = .returned (.int .i64 e) ∧ Below w.heap.size w w' :=
  (err_any h).mono fun x w' ⟨hx, hw⟩ => ⟨hx, by rw [hw]; exact Below.refl _ _⟩
theorem below_draw {B : Nat} {a b : World} (h : Below B a b) (n : Nat) : Below B a (b.drewN n) := h.trans ⟨rfl, rfl, rfl, Nat.le_refl _, fun _ _ => rfl⟩
set_option maxHeartbeats 1000000 in
theorem bytes_walk (v l : Int) (s : ByteArray) (w : World) (ht : Tb w) : Calls Tryd.prog 7 #[.int .i64 v, .int .i64 l, .string s] w fun e w' => e = .returned (.bool true) ∧ Below w.heap.size w w' := by
  have c0 := few_any s
  have hs := cut400_le s
  generalize cut400 s = S at *
  have c1 := cutM_any v l S (by omega)
  obtain ⟨a, b, c, hV, hVe⟩ : ∃ a b c, tkV S 0 = mv a b c ∧ ((tkR S 0).2.1 = 0 → a = (tk1 S 0).2.2 ∧ b = (tk2 S 0).2.2 ∧ c = (tkR S 0).2.2) := by
    unfold tkV
    split
    · exact ⟨_, _, _, rfl, fun _ => ⟨rfl, rfl, rfl⟩⟩
    · rename_i hne
      exact ⟨_, _, _, rfl, fun h => absurd h hne⟩
  have tkx := fun (w : World) (g : Nat) (h : Rd w g S 0) => take_any h
  have rt := refTake_any S 0
  simp only [hV] at tkx
  generalize tkR S 0 = q3 at *
  generalize ((tk1 S 0).2.2 : Nat) = n1 at *
  generalize ((tk2 S 0).2.2 : Nat) = n2 at *
  obtain ⟨s3, e3, d⟩ := q3
  simp only at tkx rt hVe
  clear hV
  have zt := ht.lt
  have hk := Hid.mk (And.intro ht (Below.refl w.heap.size w))
  clear ht
  go_enter Tryd.func7, Tryd.ntmps7
  go_upto_region 2 with (first
    | (go_at_call 10; refine (c0 _).mono ?_; rintro e w0 ⟨rfl, hw0⟩; rw [hw0]; clear hw0)
    | (go_at_call 9; refine (c1 _).mono ?_; rintro e w1 ⟨⟨V, L, D, m, rfl⟩, b1⟩; have hm := Hid.mk m; clear m; have z1 := b1.size; replace hk := Hid.mk (show MS w w1.heap.size V L D (w1.alloc (.cells #[.int .i64 V, .int .i64 L, .string D] 23)) from ⟨Mf.fresh w1 V L D, (hk.out.1.call b1).alloc _, b1.alloc b1.size _⟩); clear b1))
  have tp := take_put V L D hm.out
  generalize hP : putB V L D = P at *
  have pa := put_any V L D hm.out
  have rp := refPut_any V L D hm.out
  rw [hP] at pa rp
  have tk9 := fun (w : World) (g : Nat) (h : Rd w g P 0) => take_any h
  simp only [tp.1, tp.2] at tk9
  clear tp hP c0 c1
  go_upto_region 3 with (first
    | (go_at_call 21; refine (pa _).mono ?_; rintro e w2 ⟨rfl, b2⟩; replace hk := Hid.mk (hk.out.call b2); have z2 := hk.out.1.lt; clear b2)
    | (go_at_call 20; refine (new_any _ _).mono ?_; rintro e w3 ⟨rfl, r3, b3⟩; replace hk := Hid.mk (hk.out.call b3); have hr := Hid.mk r3; clear b3 r3))
  have hN := fun (w4 : World) (b4 : w3.grownBy w4 (some w2.heap.size)) => (show MS w w1.heap.size V L D w4 from ⟨hk.out.1.kept b4 (by omega), hk.out.2.1.kept b4 (by omega), below_grown hk.out.2.2 b4 hk.out.2.2.size (by omega)⟩)
  go_upto_region 4 with (go_at_call 22; refine (tk9 _ _ hr.out).mono ?_; rintro e w4 ⟨rfl, r4, b4⟩)
  have hk4 := hN w4 b4
  have z3 : w2.heap.size < w4.heap.size := r4.lt
  have y7 := hk4.1.alloc (.cells #[.int .i64 V, .int .i64 L, .string D] 23)
  have y9 := r4.alloc (.cells #[.int .i64 V, .int .i64 L, .string D] 23)
  have y10 := Mf.fresh w4 V L D
  have yt := hk4.2.1.alloc (.cells #[.int .i64 V, .int .i64 L, .string D] 23)
  have yb := hk4.2.2.alloc hk4.2.2.size (.cells #[.int .i64 V, .int .i64 L, .string D] 23)
  have zz : (w4.alloc (.cells #[.int .i64 V, .int .i64 L, .string D] 23)).heap.size = w4.heap.size + 1 := size_alloc _ _
  clear hk4 r4 b4 hN hk hr tk9
  generalize w4.alloc (.cells #[.int .i64 V, .int .i64 L, .string D] 23) = W4 at *
  generalize w4.heap.size = G10 at *
  generalize w2.heap.size = G9 at *
  generalize w1.heap.size = G7 at *
  have hk := Hid.mk (And.intro y7 (And.intro y9 (And.intro y10 (And.intro yt yb))))
  clear y7 y9 y10 yt yb
  go_upto_region 6 with (go_at_call 20; refine (new_any _ _).mono ?_; rintro e w5 ⟨rfl, r5, b5⟩; replace hk := Hid.mk (show Mf w5 G7 V L D ∧ Rd w5 G9 ⟨#[]⟩ 0 ∧ Mf w5 G10 V L D ∧ Tb w5 ∧ Below w.heap.size w w5 from ⟨hk.out.1.call b5, hk.out.2.1.call b5, hk.out.2.2.1.call b5, hk.out.2.2.2.1.call b5, below3 hk.out.2.2.2.2 b5⟩); have z5 := b5.size; clear b5)
  rw [zz] at r5
  have z6 := r5.lt
  have hk6 : Hid (Mf (w5.alloc (.cells #[.string S, .int .i64 0] 42)) G7 V L D ∧ Rd (w5.alloc (.cells #[.string S, .int .i64 0] 42)) G9 ⟨#[]⟩ 0 ∧ Mf (w5.alloc (.cells #[.string S, .int .i64 0] 42)) G10 V L D ∧ Tb (w5.alloc (.cells #[.string S, .int .i64 0] 42)) ∧ Below w.heap.size w (w5.alloc (.cells #[.string S, .int .i64 0] 42))) :=
    ⟨hk.out.1.alloc _, hk.out.2.1.alloc _, hk.out.2.2.1.alloc _, hk.out.2.2.2.1.alloc _, hk.out.2.2.2.2.alloc hk.out.2.2.2.2.size _⟩
  have r11 := r5.alloc (.cells #[.string S, .int .i64 0] 42)
  have a12 := Ab.fresh w5 S 0
  clear hk r5 z5 zz
  generalize w5.alloc (.cells #[.string S, .int .i64 0] 42) = W5 at *
  generalize w5.heap.size = G12 at *
  have hN := fun (w6 : World) (b6 : W5.grownBy w6 (some (G10 + 1))) => (show Mf w6 G7 V L D ∧ Rd w6 G9 ⟨#[]⟩ 0 ∧ Mf w6 G10 V L D ∧ Tb w6 ∧ Below w.heap.size w w6 ∧ Ab w6 G12 S 0 from
    ⟨hk6.out.1.kept b6 (by omega), hk6.out.2.1.kept b6 (by omega), hk6.out.2.2.1.kept b6 (by omega), hk6.out.2.2.2.1.kept b6 (by omega), below_grown hk6.out.2.2.2.2 b6 hk6.out.2.2.2.2.size (by omega), a12.kept b6 (by omega)⟩)
  have HA := Hid.mk r11
  clear r11 a12
  go_upto_region 7 with (go_at_call 22; refine (tkx _ _ HA.out).mono ?_; rintro e w6 ⟨rfl, r6, b6⟩)
  obtain ⟨x7, x9, x10, xt, xb, x12⟩ := hN w6 b6
  have hk7 : Hid (Mf (w6.alloc (.cells #[.int .i64 a, .int .i64 b, .string c] 23)) G7 V L D ∧ Rd (w6.alloc (.cells #[.int .i64 a, .int .i64 b, .string c] 23)) G9 ⟨#[]⟩ 0 ∧ Mf (w6.alloc (.cells #[.int .i64 a, .int .i64 b, .string c] 23)) G10 V L D ∧ Tb (w6.alloc (.cells #[.int .i64 a, .int .i64 b, .string c] 23)) ∧ Below w.heap.size w (w6.alloc (.cells #[.int .i64 a, .int .i64 b, .string c] 23)) ∧
      Rd (w6.alloc (.cells #[.int .i64 a, .int .i64 b, .string c] 23)) (G10 + 1) s3 e3 ∧ Mf (w6.alloc (.cells #[.int .i64 a, .int .i64 b, .string c] 23)) w6.heap.size a b c) :=
    ⟨x7.alloc _, x9.alloc _, x10.alloc _, xt.alloc _, xb.alloc xb.size _, r6.alloc _, Mf.fresh w6 a b c⟩
  have x12b := x12.alloc (.cells #[.int .i64 a, .int .i64 b, .string c] 23)
  have q0 := x12b.rest
  have q1 := x12b.err
  clear x7 x9 x10 xt xb x12 r6 b6 hN HA hk6 x12b tkx
  generalize w6.alloc (.cells #[.int .i64 a, .int .i64 b, .string c] 23) = W6 at *
  generalize w6.heap.size = G13 at *
  go_upto_region 8 with (go_at_call 23; refine (rt _).mono ?_; rintro e w7 ⟨rfl, b7⟩)
  have hz : Hid (ZS w V L D s3 e3 a b c n1 n2 d G7 G9 G10 (G10 + 1) G13 w7.heap.size (w7.heap.size + 1) ((w7.alloc (.cells #[.string s3, .int .i64 e3] 42)).alloc (.cells #[.int .i64 n1, .int .i64 n2, .string d] 23))) := by
    obtain ⟨x7, x9, x10, xt, xb, x11, x13⟩ := hk7.out
    have h3 := Mf.fresh (w7.alloc (.cells #[.string s3, .int .i64 e3] 42)) n1 n2 d
    rw [size_alloc] at h3
    have xb7 := below3 xb b7
    exact ⟨((x7.call b7).alloc _).alloc _, ((x9.call b7).alloc _).alloc _, ((x10.call b7).alloc _).alloc _, ((x11.call b7).alloc _).alloc _, ((x13.call b7).alloc _).alloc _, (Ab.fresh w7 s3 e3).alloc _, h3, ((xt.call b7).alloc _).alloc _,
      (xb7.alloc xb7.size _).alloc (by rw [size_alloc]; have := xb7.size; omega) _⟩
  clear hk7 q0 q1 b7 rt
  generalize (w7.alloc (.cells #[.string s3, .int .i64 e3] 42)).alloc (.cells #[.int .i64 n1, .int .i64 n2, .string d] 23) = W7 at *
  generalize w7.heap.size + 1 = G15 at *
  generalize w7.heap.size = G14 at *
  obtain ⟨p0, p1, p2, p3, p4, p5, p6⟩ := p8_of hz.out.drew
  have hS : Hid (W7.drew.cell? ⟨G7, 0, none⟩ = some (.int .i64 V) ∧ W7.drew.cell? ⟨G7, 1, none⟩ = some (.int .i64 L) ∧ W7.drew.cell? ⟨G7, 2, none⟩ = some (.string D) ∧ W7.drew.cell? ⟨G10, 0, none⟩ = some (.int .i64 V) ∧ W7.drew.cell? ⟨G10, 1, none⟩ = some (.int .i64 L) ∧ W7.drew.cell? ⟨G10, 2, none⟩ = some (.string D) ∧ ZS w V L D s3 e3 a b c n1 n2 d G7 G9 G10 (G10 + 1) G13 G14 G15 W7.drew) := ⟨p0, p1, p2, p3, p4, p5, p6⟩
  clear p6
  have hE := hVe
  have HE := Hid.mk hE
  clear hE hVe hz hm z1 z2 z3 z6 zt hs
  go_region_held3 (fun w' => w'.cell? ⟨G7, 0, none⟩ = some (.int .i64 V) ∧ w'.cell? ⟨G7, 1, none⟩ = some (.int .i64 L) ∧ w'.cell? ⟨G7, 2, none⟩ = some (.string D) ∧ w'.cell? ⟨G10, 0, none⟩ = some (.int .i64 V) ∧ w'.cell? ⟨G10, 1, none⟩ = some (.int .i64 L) ∧ w'.cell? ⟨G10, 2, none⟩ = some (.string D) ∧ ZS w V L D s3 e3 a b c n1 n2 d G7 G9 G10 (G10 + 1) G13 G14 G15 w') (first | assumption | exact hS.out | exact p8_keep (by assumption) (by assumption) | fail)
    (first
      | (go_at_call 13; refine (awake_any _ (by assumption : _ ∧ _ ∧ _ ∧ _ ∧ _ ∧ _ ∧ ZS w V L D s3 e3 a b c n1 n2 d G7 G9 G10 (G10 + 1) G13 G14 G15 _).2.2.2.2.2.2.tb).mono ?_; rintro e w8 ⟨rfl, b8⟩)
      | (go_at_call 21; refine (pa _).mono ?_; rintro e w8 ⟨rfl, b8⟩)
      | (go_at_call 24; refine (rp _).mono ?_; rintro e w8 ⟨rfl, b8⟩)
      | (go_at_call 25; refine (end_ok (by assumption : _ ∧ _ ∧ _ ∧ _ ∧ _ ∧ _ ∧ ZS w V L D s3 e3 a b c n1 n2 d G7 G9 G10 (G10 + 1) G13 G14 G15 _).2.2.2.2.2.2.r9).mono ?_; rintro e w8 ⟨rfl, b8⟩))
  have hz2 := (by assumption : _ ∧ _ ∧ _ ∧ _ ∧ _ ∧ _ ∧ ZS w V L D s3 e3 a b c n1 n2 d G7 G9 G10 (G10 + 1) G13 G14 G15 w8).2.2.2.2.2.2
  clear hS p0 p1 p2 p3 p4 p5 pa rp
  go_upto_region 10 with fail
  by_cases h0 : e3 = 0
  · obtain ⟨rfl, rfl, rfl⟩ := HE.out h0
    subst h0
    clear HE
    obtain ⟨p0, p1, p2, p3, p4, p5, p6, p7⟩ := p10_of hz2.drew
    have hS : Hid (w8.drew.cell? ⟨G14, 1, none⟩ = some (.int .i64 0) ∧ w8.drew.cell? ⟨G13, 0, none⟩ = some (.int .i64 n1) ∧ w8.drew.cell? ⟨G13, 1, none⟩ = some (.int .i64 n2) ∧ w8.drew.cell? ⟨G13, 2, none⟩ = some (.string c) ∧ w8.drew.cell? ⟨G15, 0, none⟩ = some (.int .i64 n1) ∧ w8.drew.cell? ⟨G15, 1, none⟩ = some (.int .i64 n2) ∧ w8.drew.cell? ⟨G15, 2, none⟩ = some (.string c) ∧ ZS w V L D s3 0 n1 n2 c n1 n2 c G7 G9 G10 (G10 + 1) G13 G14 G15 w8.drew) := ⟨p0, p1, p2, p3, p4, p5, p6, p7⟩
    clear p7 hz2
    go_region_held3 (fun w' => w'.cell? ⟨G14, 1, none⟩ = some (.int .i64 0) ∧ w'.cell? ⟨G13, 0, none⟩ = some (.int .i64 n1) ∧ w'.cell? ⟨G13, 1, none⟩ = some (.int .i64 n2) ∧ w'.cell? ⟨G13, 2, none⟩ = some (.string c) ∧ w'.cell? ⟨G15, 0, none⟩ = some (.int .i64 n1) ∧ w'.cell? ⟨G15, 1, none⟩ = some (.int .i64 n2) ∧ w'.cell? ⟨G15, 2, none⟩ = some (.string c) ∧ ZS w V L D s3 0 n1 n2 c n1 n2 c G7 G9 G10 (G10 + 1) G13 G14 G15 w') (first | assumption | exact hS.out | exact p10_keep (by assumption) (by assumption) | fail)
      (first | (go_at_call 26; refine (err_ok (by assumption : _ ∧ _ ∧ _ ∧ _ ∧ _ ∧ _ ∧ _ ∧ ZS w V L D s3 0 n1 n2 c n1 n2 c G7 G9 G10 (G10 + 1) G13 G14 G15 _).2.2.2.2.2.2.2.r11).mono ?_; rintro e w9 ⟨rfl, b9⟩))
    have hz3 := (by assumption : _ ∧ _ ∧ _ ∧ _ ∧ _ ∧ _ ∧ _ ∧ ZS w V L D s3 0 n1 n2 c n1 n2 c G7 G9 G10 (G10 + 1) G13 G14 G15 w9).2.2.2.2.2.2.2
    go_wp2_with fail
    go_ret
    exact ⟨by simp, hz3.bel⟩
  · have hb0 : (e3 == 0) = false := beq_eq_false_iff_ne.2 h0
    clear HE
    obtain ⟨p0, p1, p2, p3, p4, p5, p6, p7⟩ := p10_of hz2
    have HZ := Hid.mk p7
    clear p7 hz2
    go_quiet ((go_at_call 26; exact Calls.quiet_of_same (err_any (HZ.out.r11.drewN _))))
    go_wp2_with fail
    go_ret
    exact ⟨by simp, below_draw HZ.out.bel _⟩
end Go.Proofs.YtdolilgkjknckaaDoor
