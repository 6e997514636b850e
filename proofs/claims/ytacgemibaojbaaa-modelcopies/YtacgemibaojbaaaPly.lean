/-
  Things that are done to a plain device: the law's play. No condition.
-/
import Derived.Test.YtacgemibaojbaaaOpnC
namespace Go.Proofs.Ytacgemibaojbaaa
open Go Go.RowKit Go.Maps

def stepM (X : MX) (c : Ac) : MX × Int :=
  if c.k = 0 then beginX X else if c.k = 1 ∨ c.k = 2 then commitX X else if c.k = 3 then abortX X
  else if c.r.1 = 1 then putX X c.r.2.1 c.r.2.2.1 c.s else doX X c.r.1 c.r.2.1 c.r.2.2.1 c.r.2.2.2.1 c.r.2.2.2.2.1 c.r.2.2.2.2.2
def runM (X : MX) (f : Nat → Ac) : Nat → MX
  | 0 => X
  | k + 1 => (stepM (runM X f k) (f k)).1
theorem tryX_puts (X : MX) (R : Ab × Int) : (tryX X R).1.puts = X.puts := by
  unfold tryX
  split
  · rfl
  · split
    · rfl
    · split <;> rfl
theorem step_puts (X : MX) (c : Ac) : X.puts ≤ (stepM X c).1.puts ∧ (stepM X c).1.puts ≤ X.puts + 1 := by
  unfold stepM
  split
  · unfold beginX; split <;> (simp; try omega)
  · split
    · unfold commitX
      cases X.op <;> simp <;> omega
    · split
      · unfold abortX
        cases X.op <;> simp <;> omega
      · split
        · unfold putX
          cases X.op with
          | none => simp; omega
          | some l =>
            simp only
            split
            · simp; omega
            · split
              · simp; omega
              · rw [tryX_puts]; simp [moreX]; omega
        · unfold doX
          cases X.op with
          | none => simp; omega
          | some l =>
            simp only
            split
            · simp; omega
            · split
              · simp; omega
              · rw [tryX_puts]; omega
theorem run_puts (X : MX) (f : Nat → Ac) : ∀ k : Nat, X.puts ≤ (runM X f k).puts ∧ (runM X f k).puts ≤ X.puts + k
  | 0 => by simp [runM]
  | k + 1 => by
    have h1 := run_puts X f k
    have h2 := step_puts (runM X f k) (f k)
    simp only [runM]
    omega
/-- only the device's struct has turned since -/
structure PyS (w0 : World) (g : Nat) (X : MX) (w wr : World) : Prop where
  at' : MxA w0.heap.size g X w0 wr
  gr : w.grownBy wr (some g)
theorem PyS.step {w0 g X w wr W r e} (h : PyS w0 g X w wr) (b : Below wr.heap.size wr W) {w2 : World} (k : MxD g r W e w2) : PyS w0 g r.1 w w2 :=
  ⟨(h.at'.call b).did k, grown_trans h.gr (grown_trans (grown_of_below b _) k.2.2)⟩
set_option maxRecDepth 20000 in
set_option maxHeartbeats 4000000 in
theorem play_any {w0 w : World} {g : Nat} {X : MX} {a : Option Addr} {n cap : Nat} {f : Nat → Ac} (hF : ActF w0 a n f) (h : MxA w0.heap.size g X w0 w) (hp : X.puts + 60 ≤ 1900) :
    Calls Try.prog 17 #[.pointer (some ⟨g, 0, none⟩), .slice a n cap] w fun e w' => e = .returned (.tuple #[]) ∧ PyS w0 g (runM X f (min n 60)) w w' := by
  have H := Hid.mk (And.intro hF (And.intro h hp))
  clear hF h
  go_enter Try.func17, Try.ntmps17
  go_upto_region 1 with fail
  have S0 : Hid (PyS w0 g (runM X f 0) w w) := ⟨H.out.2.1, grown_of_below (Below.refl _ w) _⟩
  go_loopw [4] (fun i wr => ∃ k : Nat, k ≤ n ∧ k ≤ 60 ∧ i = .int .i64 k ∧ PyS w0 g (runM X f k) w wr) (fun i _ => 60 - (intOf i).toNat)
  case atStart => exact ⟨0, Nat.zero_le _, Nat.zero_le _, rfl, S0.out⟩
  case round =>
    clear S0
    obtain ⟨k, hkn, hk60, rfl, hs⟩ := hrel
    by_cases hk : k < n
    · by_cases hk2 : k < 60
      · obtain ⟨ga, o, rfl, hga, hc, hwf⟩ := (H.out.1.below hs.at'.2.1) k hk
        obtain ⟨kk, c1, c2, c3, c4, c5, c6, c7⟩ := hc
        have hd1 : decide ((k : Int) < (n : Int)) = true := by simpa using hk
        have hd2 : decide ((k : Int) < 60) = true := by simp; omega
        have hrun : runM X f (k + 1) = (stepM (runM X f k) (f k)).1 := rfl
        have hpu : (runM X f k).puts + 1 ≤ 1900 := by have := (run_puts X f k).2; have := H.out.2.2; omega
        generalize f k = c at *
        obtain ⟨kd, ⟨K, S, P, A, T, N⟩, str⟩ := c
        simp only at kk c1 c2 c3 c4 c5 c6 c7
        obtain ⟨hK, hS, hP, -, -, -⟩ := hwf
        simp only at hK hS hP
        have b1 := below_box wr (.cells #[.int .i64 K, .int .i64 S, .int .i64 P, .int .i64 A, .int .i64 T, .int .i64 N, .string str] 43)
        obtain ⟨⟨bS, bO, fS, fO, hX⟩, -, -, -⟩ := hs.at'
        have hX1 := hX.call b1
        have q0 := begin_any hX1
        have q1 := commit_any hX1
        have q3 := abort_any hX1
        have q4 := mput_any hX1 (S := S) (P := P) hS hP hpu str
        have q5 := mdo_any hX1 K S P A T N hS
        unfold rv at q5
        have x1 := heap_alloc_new wr (.cells #[.int .i64 K, .int .i64 S, .int .i64 P, .int .i64 A, .int .i64 T, .int .i64 N, .string str] 43)
        have lga := Nat.lt_of_lt_of_le hga b1.size
        have kk1 := (b1.cell (p := ⟨ga, o + k * 8, none⟩) hga).trans kk
        have hst : ∀ R : MX × Int, R = stepM (runM X f k) ⟨kd, (K, S, P, A, T, N), str⟩ → ∀ (e : Ending) (w2 : World), MxD g R (wr.alloc (.cells #[.int .i64 K, .int .i64 S, .int .i64 P, .int .i64 A, .int .i64 T, .int .i64 N, .string str] 43)) e w2 → ∃ k2 : Nat, k2 ≤ n ∧ k2 ≤ 60 ∧ Value.int .i64 ((k : Int) + 1) = .int .i64 k2 ∧ PyS w0 g (runM X f k2) w w2 := fun R hR e w2 d =>
          ⟨k + 1, by omega, by omega, by go_num, by rw [hrun, ← hR]; exact hs.step b1 d⟩
        have HS := Hid.mk (And.intro q0 (And.intro q1 (And.intro q3 (And.intro q4 (And.intro q5 hst)))))
        clear hs q0 q1 q3 q4 q5 hst hX hX1 hpu hrun hK hP hS
        go_upto_region 4 with fail
        generalize (wr.alloc (.cells #[.int .i64 K, .int .i64 S, .int .i64 P, .int .i64 A, .int .i64 T, .int .i64 N, .string str] 43)) = w1 at *
        obtain ⟨z0, z1, z2, z3, z4, z5, z6⟩ : w1.cell? ⟨wr.heap.size, 0, none⟩ = some (.int .i64 K) ∧ w1.cell? ⟨wr.heap.size, 1, none⟩ = some (.int .i64 S) ∧ w1.cell? ⟨wr.heap.size, 2, none⟩ = some (.int .i64 P) ∧ w1.cell? ⟨wr.heap.size, 3, none⟩ = some (.int .i64 A) ∧ w1.cell? ⟨wr.heap.size, 4, none⟩ = some (.int .i64 T) ∧ w1.cell? ⟨wr.heap.size, 5, none⟩ = some (.int .i64 N) ∧ w1.cell? ⟨wr.heap.size, 6, none⟩ = some (.string str) := by
          refine ⟨?_, ?_, ?_, ?_, ?_, ?_, ?_⟩ <;> rw [cell_of_row w1 wr.heap.size _ _ 43 _ x1] <;> rfl
        have lwr : wr.heap.size < w1.heap.size := (Array.getElem?_eq_some_iff.1 x1).1
        clear kk c1 c2 c3 c4 c5 c6 c7 x1 b1 hga
        by_cases h0 : kd = 0
        · subst h0
          go_wp2_with (first | (go_at_call 9; refine HS.out.1.mono ?_; intro e w2 d; obtain ⟨rfl, d2⟩ := d))
          exact ⟨HS.out.2.2.2.2.2 _ (by unfold stepM; rfl) _ w2 ⟨rfl, d2⟩, by simp [intOf]; omega⟩
        by_cases h1 : kd = 1
        · subst h1
          go_wp2_with (first | (go_at_call 10; refine HS.out.2.1.mono ?_; intro e w2 d; obtain ⟨rfl, d2⟩ := d))
          exact ⟨HS.out.2.2.2.2.2 _ (by unfold stepM; rfl) _ w2 ⟨rfl, d2⟩, by simp [intOf]; omega⟩
        by_cases h2 : kd = 2
        · subst h2
          go_wp2_with (first | (go_at_call 10; refine HS.out.2.1.mono ?_; intro e w2 d; obtain ⟨rfl, d2⟩ := d))
          exact ⟨HS.out.2.2.2.2.2 _ (by unfold stepM; rfl) _ w2 ⟨rfl, d2⟩, by simp [intOf]; omega⟩
        by_cases h3 : kd = 3
        · subst h3
          go_wp2_with (first | (go_at_call 11; refine HS.out.2.2.1.mono ?_; intro e w2 d; obtain ⟨rfl, d2⟩ := d))
          exact ⟨HS.out.2.2.2.2.2 _ (by unfold stepM; rfl) _ w2 ⟨rfl, d2⟩, by simp [intOf]; omega⟩
        have n0 : (kd == 0) = false := by simpa using h0
        have n1 : (kd == 1) = false := by simpa using h1
        have n2 : (kd == 2) = false := by simpa using h2
        have n3 : (kd == 3) = false := by simpa using h3
        have hne := Hid.mk (And.intro h0 (And.intro h1 (And.intro h2 h3)))
        clear h0 h1 h2 h3
        by_cases hK1 : K = 1
        · subst hK1
          go_wp2_with (first | (go_at_call 12; refine HS.out.2.2.2.1.mono ?_; intro e w2 d; obtain ⟨rfl, d2⟩ := d))
          exact ⟨HS.out.2.2.2.2.2 _ (by obtain ⟨h0, h1, h2, h3⟩ := hne.out; unfold stepM; simp only [if_neg h0, if_neg (fun q : kd = 1 ∨ kd = 2 => q.elim h1 h2), if_neg h3]; rfl) _ w2 ⟨rfl, d2⟩, by simp [intOf]; omega⟩
        · have nK : (K == 1) = false := by simpa using hK1
          have hK1' := Hid.mk hK1
          clear hK1
          go_wp2_with (first | (go_at_call 13; refine HS.out.2.2.2.2.1.mono ?_; intro e w2 d; obtain ⟨rfl, d2⟩ := d))
          exact ⟨HS.out.2.2.2.2.2 _ (by obtain ⟨h0, h1, h2, h3⟩ := hne.out; unfold stepM; simp only [if_neg h0, if_neg (fun q : kd = 1 ∨ kd = 2 => q.elim h1 h2), if_neg h3, if_neg hK1'.out]) _ w2 ⟨rfl, d2⟩, by simp [intOf]; omega⟩
      · have hk3 : k = 60 := by omega
        subst hk3
        have hd1 : decide (((60 : Nat) : Int) < (n : Int)) = true := by simp; omega
        have HS := Hid.mk hs
        clear hs
        go_wp2_with fail
        go_end0
        rw [show min n 60 = 60 by omega]
        exact ⟨rfl, HS.out⟩
    · have hk2 : k = n := by omega
      subst hk2
      have HS := Hid.mk hs
      clear hs
      go_wp2_with fail
      go_end0
      rw [show min k 60 = k by omega]
      exact ⟨rfl, HS.out⟩
end Go.Proofs.Ytacgemibaojbaaa
