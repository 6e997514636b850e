/-
  Texts with noughts behind them: the walks of Repeat (of noughts), padded, zeros, fields, few. No condition.
-/
import Derived.Lib.LazyBuf
import Derived.Lib.SmallJoins
import Derived.Test.YtaphpdmfjnhlaaaGreatDoorARRef
import Derived.Test.YtaphpdmfjnhlaaaGreatDoorAK2
namespace Go.Proofs.YtaphpdmfjnhlaaaGreatDoor.Pg
open Go Go.RowKit
set_option maxRecDepth 100000
theorem run_make_bytes (l : Nat) (hc : l <= 65535) (w : World) :
  (Instr.makeSlice 64 (.int .i64 l) (.int .i64 l)).run Tryz.prog w = .ok (.slice (some ⟨w.heap.size, 0, none⟩) l l) (w.alloc (.cells (madeCells #[.int .u8 0] l) 5)) := by
 obtain ⟨i, hi, hzz⟩ := Option.map_eq_some_iff.1 info5y
 simp only [Prod.mk.injEq] at hzz
 obtain ⟨hz, hs, hb⟩ := hzz
 have hr := run_make (P := Tryz.prog) w 64 5 i (.int .u8 0) Tryz.underlying64 hi hz .i64 .i64 l l (by omega) (by omega) (by rw [hb]; omega) (by omega)
 simp only [Int.toNat_natCast, hs, Nat.mul_one] at hr
 exact hr
theorem zeros_any (n : Int) (h0 : 0 <= n) (hn : n <= 65535) (w : World) : Calls Tryz.prog 58 #[.int .i64 n] w fun e w' => e = .returned (.string (zs n.toNat)) /\ Below w.heap.size w w' := by
 obtain ⟨m, rfl⟩ := Int.eq_ofNat_of_zero_le h0
 rw [Int.toNat_natCast]
 have hb := fun (w : World) => (HasBytes.made w m 5).back (P := Tryz.prog) 64 9 5 m m (by rw [List.length_replicate]) Tryz.underlying64 Tryz.underlying5 Tryz.underlying9
 unfold zs
 generalize (⟨(List.replicate m (0 : UInt8)).toArray⟩ : ByteArray) = Z at *
 have hmk := run_make_bytes m (by omega)
 go_enter Tryz.func58, Tryz.ntmps58
 go_wp2_with fail
 go_ret
 exact ⟨rfl, below_one w _⟩
end Go.Proofs.YtaphpdmfjnhlaaaGreatDoor.Pg
