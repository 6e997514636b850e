/-
  A writer beside a law's own row; the walk of the laws' own 'awake'. Condition: the table's cells hold what the text lays.
-/
import Derived.Test.YtbcnocbdifbocaaDoorSeq
namespace Go.Proofs.YtbcnocbdifbocaaDoor
open Go Go.RowKit
set_option maxRecDepth 100000

/-- a writer that was begun in w0's time, and the table -/
structure Run (w0 : World) (A : Wl) (X : Wx) (w : World) : Prop where
  wtr : Wtr w A X
  below : Below w0.heap.size w0 w
  lo : w0.heap.size ≤ A.lo
  tab : Pg.Tab w
theorem Run.call {w0 : World} {A X} {w w' : World} (h : Run w0 A X w) (b : Below w.heap.size w w') : Run w0 A X w' := ⟨h.wtr.call b, below3 h.below b, h.lo, h.tab.call b⟩
theorem Run.drew {w0 : World} {A X} {w : World} (h : Run w0 A X w) : Run w0 A X w.drew := ⟨h.wtr.drew, h.below.drew, h.lo, h.tab.drew⟩
theorem Run.drewN {w0 : World} {A X} {w : World} (h : Run w0 A X w) (n : Nat) : Run w0 A X (w.drewN n) := ⟨h.wtr.drewN n, below_drewN h.below, h.lo, h.tab⟩
theorem Run.alloc {w0 : World} {A X} {w : World} (h : Run w0 A X w) (o : Obj) : Run w0 A X (w.alloc o) := h.call ((Below.refl _ w).alloc (Nat.le_refl _) o)
theorem Run.next {w0 : World} {A A' X X'} {w w' : World} (h : Run w0 A X w) (k : Wtr w' A' X') (n : Nxt A A' X.C.B w w') : Run w0 A' X' w' :=
  ⟨k, Kp.below h.below n.kp h.below.size (fun i hi => Nat.le_trans h.lo (h.wtr.low i hi)), by rw [n.lo]; exact h.lo, Tab.off h.tab n.kp h.wtr.zero⟩
theorem Run.beg {w0 w : World} {cl fl b p z A} (h : Begd w0 cl fl b p z A w) (hT : Pg.Tab w0) : Run w0 A (begX b p z cl fl) w := ⟨h.wtr, h.below, by rw [h.lo]; exact Nat.le_refl _, hT.call h.below⟩
/-- Append, one page behind the other -/
theorem append_sq {w0 w : World} {A X} (h : Run w0 A X w) {a r : Nat} {T : Nat → ByteArray} {Q : Nat → Nat} (hq : Sq X a r T Q) (hab : a < X.C.B) (hn : ∀ i, Q i < 18446744073709551616) (n : Nat) (hnn : n = Q (a * X.C.P + r)) (s : ByteArray) (hss : s = T (a * X.C.P + r)) (hs : s.size ≤ X.C.Z)
    (hc : X.C.cuts (X.C.did + 1) = none) (hf : X.C.fails (X.C.did + 1) = false) (W0 : Int) :
    Calls Tryd.prog 18 #[.pointer (some ⟨A.a, 0, none⟩), Pg.tagV 1 n 0 1 W0, .string s] w fun e w' => ∃ X' A' a' r', e = .returned (.tuple #[.int .i64 ((a * X.C.P + r : Nat) : Int), .int .i64 0]) ∧ Sq X' a' r' T Q ∧ Geq X' X ∧ X'.C.cuts = X.C.cuts ∧ X'.C.fails = X.C.fails ∧ X'.C.worn = X.C.worn ∧ X'.C.dead = X.C.dead ∧ Run w0 A' X' w' ∧ Nxt A A' X.C.B w w' ∧ a' * X.C.P + r' = a * X.C.P + r + 1 ∧ (a' = a ∧ r' = r + 1 ∨ a' = a + 1 ∧ r' = 0 ∧ r + 1 = X.C.P) := by
  have hg := h.wtr.chip.geo
  have hr := hq.le
  have hdid := hq.did
  have hm := Lf.mul_range (a := (a : Int)) (b := (X.C.P : Int)) (A := 32) (B := 16) (by omega) (by omega)
  refine (append_plain h.wtr h.tab hq.fin n (by rw [hnn]; exact hn _) s hs (by rw [hdid]; simp only [Int.natCast_add, Int.natCast_mul]; omega) (by rw [hq.bd]; simp) hc hf W0).mono ?_
  rintro e w' ⟨pl, er, X', A', rfl, hp, hgq, hw, hN⟩
  have ok := h.wtr.lif.ok
  rcases hp with ⟨_, _, _, h4, h5⟩ | ⟨b, X1, q, ht, hb, hqP, rfl, rfl, rfl⟩
  · exfalso
    have hx := hq.xs a hab
    rw [if_neg (by omega)] at hx
    by_cases h0 : 0 < r
    · rw [if_pos ⟨rfl, h0⟩] at hx
      have := (ok.opn a hab).1 hx
      omega
    · rw [if_neg (fun x => h0 x.2)] at hx
      exact h5 a hab hx
  · obtain ⟨_, rfl, hqr⟩ := hq.tk ok ht
    obtain rfl : q = r := by omega
    subst hnn hss
    obtain ⟨e1, e2, e3⟩ := ht.C
    obtain ⟨a', r', h1, h2, h3, h4⟩ := hq.more ok hn hs ht
    refine ⟨_, A', a', r', by simp only [Int.natCast_add, Int.natCast_mul], h3, hgq, ?_, ?_, ?_, ?_, h.next hw hN, hN, h1, h4⟩
    · show X1.C.cuts = X.C.cuts; rw [e1]
    · show X1.C.fails = X.C.fails; rw [e1]
    · show X1.C.worn = X.C.worn; rw [e1]
    · show X1.C.dead = X.C.dead; rw [e1]
def awT (i : Nat) : ByteArray := if i = 0 then ⟨#[111, 110, 101]⟩ else ⟨#[116, 119, 111]⟩
def awQ (i : Nat) : Nat := if i = 0 then 1 else 2
theorem awQ_lt (i : Nat) : awQ i < 18446744073709551616 := by unfold awQ; split <;> omega
theorem tag1 (w : World) : Calls Tryd.prog 19 #[.int .i64 1] w fun e w' => e = .returned (Pg.tagV 1 1 0 1 0) ∧ Below w.heap.size w w' := tag_any 1 (by omega) w
theorem tag2 (w : World) : Calls Tryd.prog 19 #[.int .i64 2] w fun e w' => e = .returned (Pg.tagV 1 2 0 1 0) ∧ Below w.heap.size w w' := tag_any 2 (by omega) w
theorem begun_none (B0 P0 Z0 : Int) (w : World) (hw0 : 0 < w.heap.size) : Calls Tryd.prog 9 #[.agg #[.int .i64 B0, .int .i64 P0, .int .i64 Z0], .agg #[.slice none 0 0, .slice none 0 0, .slice none 0 0]] w fun e w' =>
      ∃ b p z A, e = .returned (.tuple #[.pointer (some ⟨A.L.a, 0, none⟩), .pointer (some ⟨A.a, 0, none⟩), .bool true]) ∧ Begd w [] [] b p z A w' :=
  begun_any B0 P0 Z0 none none [] [] 0 0 w hw0 (fun i hi => by simp at hi) (fun i hi => by simp at hi) (.inl rfl) (.inl rfl) (Nat.le_refl _) (Nat.le_refl _) (fun x hx => by simp at hx) (fun x hx => by simp at hx)
set_option maxHeartbeats 1000000 in
theorem awake_any (w : World) (hT : Pg.Tab w) : Calls Tryd.prog 10 #[] w fun e w' => e = .returned (.bool true) ∧ Below w.heap.size w w' := by
  have hbg := Hid.mk (begun_none 0 0 0 w hT.1)
  have HT := Hid.mk hT
  have ht1 := Hid.mk tag1
  have ht2 := Hid.mk tag2
  clear hT
  go_enter Tryd.func10, Tryd.ntmps10
  go_upto_region 4 with (first
    | (go_at_call 9; refine hbg.out.mono ?_; rintro e w1 ⟨b, p, z, A, rfl, h1⟩; have H1 := Hid.mk h1; clear h1))
  have hg := H1.out.geo
  have R1 := Run.beg H1.out HT.out
  have S1 := Sq.beg b p z [] [] (by omega) (by omega) (by omega) awT awQ
  have a1 := fun w' (R : Run w A (begX b p z [] []) w') => append_sq R S1 (by show 0 < b; omega) awQ_lt 1 (by rw [show 0 * (begX b p z [] []).C.P + 0 = 0 by simp]; rfl) ⟨#[111, 110, 101]⟩ (by rw [show 0 * (begX b p z [] []).C.P + 0 = 0 by simp]; rfl) (by show 3 ≤ z; omega) rfl rfl 0
  simp only [Nat.zero_mul, Nat.add_zero] at a1
  have HR := Hid.mk R1
  have HA := Hid.mk a1
  clear R1 a1 S1 H1 HT hbg
  go_upto_region 5 with (first
    | (go_at_call 19; refine (ht1.out _).mono ?_; rintro e w2 ⟨rfl, b2⟩; replace HR := Hid.mk (HR.out.call b2); clear b2)
    | (go_at_call 18; refine (HA.out _ HR.out).mono ?_; rintro e w3 ⟨X3, A3, a3, r3, rfl, S3, G3, C3, F3, -, -, R3, N3, -, q3⟩; have H3 := Hid.mk (And.intro S3 (And.intro G3 (And.intro C3 (And.intro F3 (And.intro R3 (And.intro N3.a q3)))))); clear S3 G3 C3 F3 R3 N3 q3))
  obtain ⟨S3, G3, C3, F3, R3, ea3, q3⟩ := H3.out
  have gP : X3.C.P = p := G3.2.1
  have gB : X3.C.B = b := G3.1
  have gZ : X3.C.Z = z := G3.2.2
  obtain ⟨rfl, rfl⟩ : a3 = 0 ∧ r3 = 1 := by
    rcases q3 with ⟨rfl, rfl⟩ | ⟨_, _, q⟩
    · exact ⟨rfl, rfl⟩
    · have : 0 + 1 = p := q
      omega
  have a2 := fun w' (R : Run w A3 X3 w') => append_sq R S3 (by rw [gB]; omega) awQ_lt 2 (by rw [Nat.zero_mul, Nat.zero_add]; rfl) ⟨#[116, 119, 111]⟩ (by rw [Nat.zero_mul, Nat.zero_add]; rfl) (by rw [gZ]; show 3 ≤ z; omega) (by rw [C3]; rfl) (by rw [F3]; rfl) 0
  simp only [Nat.zero_mul, Nat.zero_add] at a2
  rw [ea3] at a2
  replace HA := Hid.mk a2
  replace HR := Hid.mk R3
  clear a2 S3 G3 C3 F3 R3 H3 q3
  go_upto_region 6 with (first
    | (go_at_call 19; refine (ht2.out _).mono ?_; rintro e w4 ⟨rfl, b4⟩; replace HR := Hid.mk (HR.out.call b4); clear b4)
    | (go_at_call 18; refine (HA.out _ HR.out).mono ?_; rintro e w5 ⟨X5, A5, a5, r5, rfl, S5, G5, C5, F5, -, -, R5, N5, -, q5⟩; have H5 := Hid.mk (And.intro S5 (And.intro G5 (And.intro R5 (And.intro N5 q5)))); clear S5 G5 C5 F5 R5 N5 q5))
  obtain ⟨S5, G5, R5, N5, q5⟩ := H5.out
  have hP : X5.C.P = p := G5.2.1.trans gP
  have hB : X5.C.B = b := G5.1.trans gB
  obtain ⟨rfl, rfl⟩ : a5 = 0 ∧ r5 = 2 := by
    rcases q5 with ⟨rfl, rfl⟩ | ⟨_, _, q⟩
    · exact ⟨rfl, rfl⟩
    · omega
  have hsy := S5.says 0 1 (.inr ⟨rfl, by omega⟩)
  rw [Nat.zero_mul, Nat.zero_add] at hsy
  replace hsy : Says X5.C 0 1 ⟨#[116, 119, 111]⟩ 1 2 0 1 0 := hsy
  have rd : ∀ w' (R : Run w A5 X5 w'), Calls Tryd.prog 20 #[.pointer (some ⟨A5.a, 0, none⟩), .int .i64 1] w' fun e w'' => e = .returned (.tuple #[.agg #[.int .i64 1, .int .u64 2, .int .i64 0, .int .i64 1, .int .i64 0], .string ⟨#[116, 119, 111]⟩, .int .i64 0]) ∧ Below w'.heap.size w' w'' := fun w' (R : Run w A5 X5 w') => read_ok R.wtr R.tab 0 1 (by rw [hB]; omega) (by rw [hP]; omega) S5.fin.off hsy 1 (by simp)
  have hx := S5.xs 0 (by rw [hB]; omega)
  rw [if_neg (by omega), if_pos ⟨rfl, by omega⟩] at hx
  have ea5 : A5.a = A.a := N5.a.trans ea3
  have hli := fun w' (R : Run w A5 X5 w') => life_any R.wtr
  have his := fun w' (R : Run w A5 X5 w') => Lf.is_any R.wtr.lif ((0 : Nat) : Int)
  rw [Lf.isL_in X5.xs 0 (by rw [R5.wtr.lif.ok.len, hB]; omega), hx] at his
  rw [ea5] at rd hli
  replace HR := Hid.mk R5
  replace HA := Hid.mk rd
  have HLI := Hid.mk hli
  have HIS := Hid.mk his
  clear rd hli his hsy S5 G5 R5 N5 H5 q5 hx
  go_upto_region 7 with (first
    | (go_at_call 20; refine (HA.out _ HR.out).mono ?_; rintro e w6 ⟨rfl, b6⟩; replace HR := Hid.mk ((HR.out.call b6).alloc (.cells #[.int .i64 1, .int .u64 2, .int .i64 0, .int .i64 1, .int .i64 0] 52)); have N0 := Pg.TB.fresh w6 1 2 0 1 0; clear b6))
  generalize w6.heap.size = G at *
  generalize (w6.alloc (.cells #[.int .i64 1, .int .u64 2, .int .i64 0, .int .i64 1, .int .i64 0] 52)) = V at *
  obtain ⟨c0, c1, c2, c3, c4⟩ := N0.five
  have hli := Hid.mk (HLI.out _ HR.out)
  have his := Hid.mk (HIS.out _ HR.out)
  have HB := Hid.mk HR.out.below
  clear HA HLI HIS HR N0
  go_wp2_with (first
    | (go_at_call 13; refine hli.out.mono ?_; rintro e w7 ⟨rfl, rfl⟩)
    | (go_at_call 14; refine his.out.mono ?_; rintro e w8 ⟨rfl, rfl⟩))
  go_ret
  exact ⟨rfl, HB.out⟩
end Go.Proofs.YtbcnocbdifbocaaDoor
