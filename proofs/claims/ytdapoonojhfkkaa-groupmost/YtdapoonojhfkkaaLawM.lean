/-
  The walk of the law GroupMost. No condition.
-/
import Derived.Test.YtdapoonojhfkkaaAwa
import Derived.Laws.Bits128
namespace Go.Proofs.Ytdapoonojhfkkaa
open Go Go.RowKit

theorem sum_take (rs : List R6) (k : Nat) (h : k < rs.length) : sumS ((rs.take (k + 1)).map R6.put) = sumS ((rs.take k).map R6.put) + (rs.getD k (0, 0, 0, 0, 0, 0)).put.size := by
  rw [List.take_succ_eq_append_getElem h, List.map_append, List.map_singleton, sumS_snoc]
  simp [List.getD_eq_getElem?_getD, h]
theorem sum_bound (rs : List R6) (hm : ∀ r ∈ rs, R6.may r = true) (k : Nat) : sumS ((rs.take k).map R6.put) ≤ 9 * rs.length := by
  have h := sumS_le ((rs.take k).map R6.put) (fun s hs => by
    obtain ⟨r, hr, rfl⟩ := List.mem_map.1 hs
    exact (put6_le r (hm r (List.mem_of_mem_take hr))).2)
  rw [List.length_map, List.length_take] at h
  omega
set_option maxRecDepth 20000 in
set_option maxHeartbeats 2000000 in
theorem groupMost_any (a : Option Addr) (len cap : Nat) (f : Nat → R6) (z : Int) (w : World) (hx : RecsF w a len f) : Calls Try.prog 4 #[.slice a len cap, .int .i64 z] w fun e w' => e = .returned (.bool true) ∧ Below w.heap.size w w' := by
  have HG := Hid.mk (good_any a len cap f w hx)
  clear hx
  obtain ⟨m, hb, hm0, hm1⟩ : ∃ m : Int, bits .and .i64 z 127 = m ∧ 0 ≤ m ∧ m ≤ 127 := ⟨_, rfl, by rw [i64_and127]; omega, by rw [i64_and127]; omega⟩
  go_enter Try.func4, Try.ntmps4
  go_upto_region 3 with (go_at_call 8; refine HG.out.mono ?_; rintro e w1 ⟨v, rs, rfl, hs, h40⟩)
  clear HG hb
  obtain ⟨va, vc, rfl⟩ := hs.form
  have hmy := hs.may
  have hsum := sum_bound rs hmy
  have hmost := packGo_most (20 + m) (rs.map R6.put) [] ⟨#[]⟩ 0 (fun s hs => by obtain ⟨r, hr, rfl⟩ := List.mem_map.1 hs; exact (put6_le r (hmy r hr)).2) (Int.le_of_eq (by show (0 : Int) * (20 + m - 10) + 0 = 0; rw [Int.zero_mul]; rfl))
  have hone := (packGo_len (20 + m) (rs.map R6.put) [] ⟨#[]⟩)
  have hpg := fun w2 (h : Rw w (.slice va rs.length vc) rs w2) => pages_any va vc (20 + m) rs w2 h.recs h.may (by omega)
  have HF := Hid.mk (And.intro hs (And.intro hmost (And.intro hone hpg)))
  have HM := Hid.mk (And.intro hmy hsum)
  clear hs hmost hone hpg hmy hsum
  generalize hn : rs.length = n at *
  replace hn := Hid.mk hn
  go_loopw [7, 8] (fun b i wr => ∃ k s : Nat, k ≤ n ∧ s ≤ 9 * n ∧ i = .int .i64 k ∧ b = .int .i64 s ∧ s = sumS ((rs.take k).map R6.put) ∧ Rw w (.slice va n vc) rs wr) (fun _ i _ => n - (intOf i).toNat)
  case atStart => exact ⟨0, 0, Nat.zero_le _, Nat.zero_le _, rfl, rfl, rfl, HF.out.1⟩
  case round =>
    obtain ⟨k, s, hk, hsb, rfl, rfl, hse, hs⟩ := hrel
    by_cases hlt : k < n
    · have hltl : k < rs.length := by rw [hn.out]; exact hlt
      obtain ⟨r, hr⟩ : ∃ r, rs.getD k (0, 0, 0, 0, 0, 0) = r := ⟨_, rfl⟩
      obtain ⟨K, S, P, A, T, N⟩ := r
      have hm := hs.mayAt k hltl hr
      have hst := sum_take rs k hltl
      have hsb2 := HM.out.2 (k + 1)
      rw [hst, ← hse, hr] at hsb2
      rw [← hse, hr] at hst
      rw [← hn.out] at hs
      obtain ⟨gv, rfl, hgv, d0, d1, d2, d3, d4, d5⟩ := hs.at k hltl hr
      have hput := fun w => refPut_any K S P A T N hm w
      have hps := put6_le (K, S, P, A, T, N) hm
      have hPB2 : putB K [K, S, P, A, T, N] = R6.put (K, S, P, A, T, N) := rfl
      rw [hPB2] at hput
      generalize R6.put (K, S, P, A, T, N) = B at *
      have HS := Hid.mk (And.intro hs (And.intro hput (And.intro hst hse)))
      clear hs hput hst hse hPB2
      go_wp2_with (go_at_call 9; refine (HS.out.2.1 _).mono ?_; rintro e w2 ⟨rfl, b2⟩)
      refine ⟨⟨k + 1, s + B.size, by omega, by omega, by go_num, by go_num, HS.out.2.2.1.symm, ?_⟩, by simp [intOf]; omega⟩
      rw [← hn.out]
      exact HS.out.1.call b2
    · obtain rfl : k = n := by omega
      rw [← hn.out, List.take_length] at hse
      have p1 := HF.out.2.1
      have p2 := HF.out.2.2.1
      have p3 := HF.out.2.2.2
      rw [← hse] at p1
      generalize packGo (20 + m) (rs.map R6.put) [] ⟨#[]⟩ = L at *
      rw [List.length_map] at p2
      generalize hl : L.length = l at *
      have hL1 : (1 : Int) ≤ l := by simp at p2; omega
      have hL2 : (l : Int) ≤ 100 := by simp at p2; have := hn.out; omega
      have hml : ((l : Int) - 1) * (20 + m - 10) ≤ s := by omega
      have hmu : 0 ≤ ((l : Int) - 1) * (20 + m - 10) := Int.mul_nonneg (by omega) (by omega)
      have HS := Hid.mk (And.intro hs p3)
      clear hs p3 p1 p2 hl hse HF HM
      go_wp2_with (first
        | (go_at_call 10; refine (HS.out.2 _ HS.out.1).mono ?_; rintro e w2 ⟨rfl, b2⟩; replace HS := Hid.mk (HS.out.1.call b2))
        | (go_at_call 7; refine (awake_any _).mono ?_; rintro e w3 ⟨rfl, b3⟩))
      go_ret
      exact ⟨rfl, (HS.out.call b3).below⟩
end Go.Proofs.Ytdapoonojhfkkaa
