/-
  A record's bytes, as the answer has them: the walk of its Put, of a record that may be. No condition.
-/
import Derived.Test.YtdapoonojhfkkaaPut
namespace Go.Proofs.Ytdapoonojhfkkaa
open Go Go.RowKit

theorem refPut_any (K S P A T N : Int) (hm : mayB K S P A T N = true) (w : World) : Calls Try.prog 9 #[rv K S P A T N] w fun e w' => e = .returned (.string (putB K [K, S, P, A, T, N])) ∧ Below w.heap.size w w' := by
  obtain ⟨n, O, RES, g, h3, hz0, F⟩ := putF hm
  rw [F.res]
  have hk64 := u64_wrap K (by have := F.kind; omega) (by have := F.kind; omega)
  have hrow := row_any K S P A T N
  unfold rowPost at hrow
  have hxs := fun k hk => valsL_getD (flds K) [K, S, P, A, T, N] k hk
  have hxl := valsL_length (flds K) [K, S, P, A, T, N]
  generalize valsL (flds K) [K, S, P, A, T, N] = xs at *
  replace hrow := Hid.mk hrow
  replace F := Hid.mk (And.intro F (And.intro hxs hxl))
  clear hm hxs hxl
  unfold rv
  go_enter Try.func9, Try.ntmps9
  go_upto_region 1 with fail
  have p1 : Row (w.alloc (.cells #[.int .i64 K, .int .i64 S, .int .i64 P, .int .i64 A, .int .i64 T, .int .i64 N] 27)) w.heap.size 27 .i64 [K, S, P, A, T, N] := Row.fresh w 27 .i64 [K, S, P, A, T, N]
  have p2 := below_one w (.cells #[.int .i64 K, .int .i64 S, .int .i64 P, .int .i64 A, .int .i64 T, .int .i64 N] 27)
  generalize (w.alloc (.cells #[.int .i64 K, .int .i64 S, .int .i64 P, .int .i64 A, .int .i64 T, .int .i64 N] 27)) = W at *
  have c0 := p1.six.1
  have H := Hid.mk (And.intro p1 p2)
  clear p1 p2
  go_upto_region 2 with (go_at_call 21; refine (refFixedI_any K (by have := F.out.1.kind; omega) _).mono ?_; rintro e w2 ⟨rfl, b1⟩; rw [F.out.1.one]; replace H := Hid.mk (And.intro (H.out.1.call b1) (below3 H.out.2 b1)); clear b1 c0)
  obtain ⟨c0, c1, c2, c3, c4, c5⟩ := H.out.1.six
  go_upto_region 4 with (go_at_call 12; refine (hrow.out _).mono ?_; rintro e w3 ⟨a, b, c, rfl, b1, i1, _, _⟩; rw [F.out.1.len])
  have s0 : Hid (IsL w3 0 a xs ∧ Below w.heap.size w w3) := Hid.mk ⟨i1.mono (Nat.zero_le _), below3 H.out.2 b1⟩
  clear H b1 i1 hk64 hrow c0 c1 c2 c3 c4 c5
  go_loopw [3, 8] (fun s i wr => ∃ (k : Nat) (X : ByteArray), k ≤ n ∧ i = .int .i64 k ∧ s = .string X ∧ X = g k ∧ IsL wr 0 a xs ∧ Below w.heap.size w wr) (fun _ i _ => n - (intOf i).toNat)
  case atStart => exact ⟨0, O, Nat.zero_le _, rfl, rfl, F.out.1.first.symm, s0.out⟩
  case round =>
    clear s0 hz0
    obtain ⟨k, X, hk, rfl, rfl, hX, hs⟩ := hrel
    have hz := F.out.1.size k
    rw [← hX] at hz
    by_cases hkn : k < n
    · have hkl : k < (flds K).length := by rw [F.out.1.len]; exact hkn
      obtain ⟨gg, rfl, _, hgl, c0⟩ := hs.1.cell k (by rw [F.out.2.2]; exact hkl)
      have hval := F.out.1.val _ (getD_mem _ k hkl)
      have hst := F.out.1.step k hkn
      rw [F.out.2.1 k hkl] at c0
      generalize [K, S, P, A, T, N].getD ((flds K).getD k (0, 0, 0)).1 0 = x at *
      have hx64 := u64_wrap x hval.1 hval.2
      have hzn := numB_size x.toNat (by omega)
      generalize hB : numB x.toNat = Bx at *
      have HS := Hid.mk (And.intro hs (And.intro hval (And.intro hB (And.intro hst hX))))
      clear hs hval hB hst hX
      go_wp2_with (go_at_call 22; refine (refNumI_any x HS.out.2.1 _).mono ?_; rintro e w5 ⟨rfl, b5⟩; rw [HS.out.2.2.1])
      obtain ⟨hp, _, hB, hst, hX⟩ := HS.out
      exact ⟨⟨k + 1, X ++ Bx, by omega, by go_num, rfl, by rw [hst, hX], hp.1.call b5, below3 hp.2 b5⟩, by simp [intOf]; omega⟩
    · have hk2 : k = n := by omega
      rw [hk2, F.out.1.last] at hX
      subst hX
      have HS := Hid.mk hs
      clear hs hk2
      go_wp2_with fail
      go_ret
      exact ⟨rfl, HS.out.2⟩
end Go.Proofs.Ytdapoonojhfkkaa
