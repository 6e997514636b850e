/-
  ManifestTexts (3): a manifest's lines, and that they are read again. Condition: the library's table of powers of ten holds what it was laid with (Tb).
-/
import Derived.Test.YtdolilgkjknckaaDoorAwk
import Derived.Test.YtdolilgkjknckaaDoorRtx
namespace Go.Proofs.YtdolilgkjknckaaDoor
open Go Go.RowKit
set_option maxRecDepth 100000
theorem texts_walk (v l : Int) (s : ByteArray) (w : World) (ht : Tb w) : Calls Tryd.prog 3 #[.int .i64 v, .int .i64 l, .string s] w fun e w' => e = .returned (.bool true) ∧ Below w.heap.size w w' := by
  have c0 := few_any s
  have hs := cut400_le s
  generalize cut400 s = S at *
  have c1 := cutM_any v l S (by omega)
  have hk := Hid.mk (And.intro ht (Below.refl w.heap.size w))
  clear ht
  go_enter Tryd.func3, Tryd.ntmps3
  go_wp2_with (first
    | (go_at_call 10; refine (c0 _).mono ?_; rintro e w0 ⟨rfl, hw0⟩; rw [hw0]; clear hw0)
    | (go_at_call 9; refine (c1 _).mono ?_; rintro e w1 ⟨⟨V, L, D, m, rfl⟩, b1⟩; have hm := Hid.mk m; have hc := mOk_of m; clear m; replace hk := Hid.mk (show MS w w1.heap.size V L D (w1.alloc (.cells #[.int .i64 V, .int .i64 L, .string D] 23)) from ⟨Mf.fresh w1 V L D, (hk.out.1.call b1).alloc _, b1.alloc b1.size _⟩); clear b1)
    | (go_at_call 11; refine (text_any V L D hm.out _ hk.out.2.1).mono ?_; rintro e w2 ⟨rfl, b2⟩; replace hk := Hid.mk (hk.out.call b2); clear b2)
    | (go_at_call 12; refine (parse_any V L D hm.out _).mono ?_; rintro e w3 ⟨rfl, b3⟩; replace hk := Hid.mk (hk.out.call b3); clear b3; have hp := Hid.mk (Mf.fresh w3 V L D); replace hk := Hid.mk (show MS w w1.heap.size V L D (w3.alloc (.cells #[.int .i64 V, .int .i64 L, .string D] 23)) from ⟨hk.out.1.alloc _, hk.out.2.1.alloc _, hk.out.2.2.alloc hk.out.2.2.size _⟩))
    | (go_at_call 13; refine (awake_any _ hk.out.2.1).mono ?_; rintro e w4 ⟨rfl, b4⟩; replace hk := Hid.mk (hk.out.call b4); replace hp := Hid.mk (hp.out.call b4); clear b4; have a0 := hk.out.1.c0; have a1 := hk.out.1.c1; have a2 := hk.out.1.c2)
    | (go_at_call 14; refine (refText_any V L D hm.out _).mono ?_; rintro e w5 ⟨rfl, b5⟩; replace hk := Hid.mk (hk.out.call b5); replace hp := Hid.mk (hp.out.call b5); clear b5; have a0 := hk.out.1.c0; have a1 := hk.out.1.c1; have a2 := hk.out.1.c2; have p0 := hp.out.c0; have p1 := hp.out.c1; have p2 := hp.out.c2)
    | (go_at_call 15; refine (check_any V L D _).mono ?_; rintro e w6 ⟨rfl, b6⟩; rw [hc]; replace hk := Hid.mk (hk.out.call b6); clear b6))
  go_ret
  exact ⟨rfl, hk.out.2.2⟩
end Go.Proofs.YtdolilgkjknckaaDoor
