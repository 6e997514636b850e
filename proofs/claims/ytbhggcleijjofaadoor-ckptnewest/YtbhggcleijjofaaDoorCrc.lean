/-
  The arithmetic of the check: a nibble's step by the table is four steps of one bit; the steps are linear and one to one; turned round they are the steps of the dividing way. No condition.
-/
import Derived.Laws.BitsAllLaws
namespace Go.Proofs.YtbhggcleijjofaaDoor.Pg
namespace Crc

abbrev W := BitVec 32

/-- one bit of the check, from the lowest on -/
def bitStep (r : W) : W := if r.getLsbD 0 then (r >>> 1) ^^^ 0x82f63b78#32 else r >>> 1

def tabB (i : Nat) : W :=
  ([0x00000000#32, 0x105ec76f#32, 0x20bd8ede#32, 0x30e349b1#32, 0x417b1dbc#32, 0x5125dad3#32, 0x61c69362#32, 0x7198540d#32,
    0x82f63b78#32, 0x92a8fc17#32, 0xa24bb5a6#32, 0xb21572c9#32, 0xc38d26c4#32, 0xd3d3e1ab#32, 0xe330a81a#32, 0xf36e6f75#32] : List W).getD i 0#32

def nib (r : W) : W := (r >>> 4) ^^^ tabB (r &&& 15#32).toNat
def byteStep (r : W) (b : UInt8) : W := nib (nib (r ^^^ BitVec.ofNat 32 b.toNat))
def run (r : W) (l : List UInt8) : W := l.foldl byteStep r
def more (a : W) (l : List UInt8) : W := ~~~ (run (~~~ a) l)

theorem run_append (r : W) (a b : List UInt8) : run r (a ++ b) = run (run r a) b := by simp [run, List.foldl_append]
theorem run_nil (r : W) : run r [] = r := rfl
theorem more_more (a : W) (x y : List UInt8) : more (more a x) y = more a (x ++ y) := by
  simp [more, run_append]
theorem more_nil (a : W) : more a [] = a := by simp [more, run_nil]

/-! ### linear -/
theorem bitStep_eq (r : W) : bitStep r = (r >>> 1) ^^^ (if r.getLsbD 0 then 0x82f63b78#32 else 0#32) := by
  unfold bitStep; split <;> simp

theorem bitStep_xor (x y : W) : bitStep (x ^^^ y) = bitStep x ^^^ bitStep y := by
  rw [bitStep_eq, bitStep_eq, bitStep_eq, BitVec.ushiftRight_xor_distrib, BitVec.getLsbD_xor]
  generalize x >>> 1 = a
  generalize y >>> 1 = b
  generalize (0x82f63b78#32) = p
  have h1 : a ^^^ p ^^^ (b ^^^ p) = a ^^^ b := by
    have : a ^^^ p ^^^ (b ^^^ p) = a ^^^ b ^^^ (p ^^^ p) := by ac_rfl
    rw [this]; simp
  cases x.getLsbD 0 <;> cases y.getLsbD 0 <;> simp [h1] <;> ac_rfl

theorem bitStep_zero : bitStep 0#32 = 0#32 := by decide

def bits4 (r : W) : W := bitStep (bitStep (bitStep (bitStep r)))
theorem bits4_xor (x y : W) : bits4 (x ^^^ y) = bits4 x ^^^ bits4 y := by simp [bits4, bitStep_xor]

theorem bitStep_shl (q : W) (k : Nat) (hq : ∀ i, 31 - k ≤ i → q.getLsbD i = false) : bitStep (q <<< (k + 1)) = q <<< k := by
  have h0 : (q <<< (k + 1)).getLsbD 0 = false := by simp
  unfold bitStep
  rw [h0]
  simp only [Bool.false_eq_true, if_false]
  apply BitVec.eq_of_getLsbD_eq
  intro i hi
  simp only [BitVec.getLsbD_ushiftRight, BitVec.getLsbD_shiftLeft]
  by_cases h : i < k
  · simp [h]; omega
  · by_cases h31 : i = 31
    · subst h31
      simp [hq (31 - k) (Nat.le_refl _)]
    · have e : 1 + i - (k + 1) = i - k := by omega
      rw [e]
      have h2 : 1 + i < 32 := by omega
      have h3 : ¬ (1 + i < k + 1) := by omega
      simp [hi, h, h2, h3]

theorem bits4_shl (r : W) : bits4 ((r >>> 4) <<< 4) = r >>> 4 := by
  have hq : ∀ i, 28 ≤ i → (r >>> 4).getLsbD i = false := by
    intro i hi
    rw [BitVec.getLsbD_ushiftRight]
    exact BitVec.getLsbD_of_ge _ _ (by omega)
  unfold bits4
  rw [bitStep_shl _ 3 (fun i hi => hq i (by omega)), bitStep_shl _ 2 (fun i hi => hq i (by omega)), bitStep_shl _ 1 (fun i hi => hq i (by omega)), bitStep_shl _ 0 (fun i hi => hq i (by omega))]
  simp

theorem tab_bits : ∀ i : Fin 16, bits4 (BitVec.ofNat 32 i.val) = tabB i.val := by decide

theorem low_lt (r : W) : (r &&& 15#32).toNat < 16 := by
  rw [BitVec.toNat_and]
  have : r.toNat &&& (15#32).toNat ≤ (15#32).toNat := Nat.and_le_right
  have e : (15#32).toNat = 15 := rfl
  omega

theorem split4 (r : W) : r = ((r >>> 4) <<< 4) ^^^ (r &&& 15#32) := by
  apply BitVec.eq_of_getLsbD_eq
  intro i hi
  have h15 : ∀ j, (15#32).getLsbD j = decide (j < 4) := by
    intro j
    by_cases hj : j < 32
    · have : ∀ j : Fin 32, (15#32).getLsbD j.val = decide (j.val < 4) := by decide
      exact this ⟨j, hj⟩
    · rw [BitVec.getLsbD_of_ge _ _ (by omega)]; simp; omega
  rw [BitVec.getLsbD_xor, BitVec.getLsbD_and, h15, BitVec.getLsbD_shiftLeft, BitVec.getLsbD_ushiftRight]
  by_cases h : i < 4
  · simp [h]
  · have e : 4 + (i - 4) = i := by omega
    simp [h, hi, e]

theorem nib_bits (r : W) : nib r = bits4 r := by
  conv => rhs; rw [split4 r]
  rw [bits4_xor, bits4_shl]
  unfold nib
  have h := tab_bits ⟨(r &&& 15#32).toNat, low_lt r⟩
  simp only [BitVec.ofNat_toNat] at h
  rw [← h]
  simp

def bits8 (r : W) : W := bits4 (bits4 r)
theorem bits8_xor (x y : W) : bits8 (x ^^^ y) = bits8 x ^^^ bits8 y := by simp [bits8, bits4_xor]
theorem byteStep_bits (r : W) (b : UInt8) : byteStep r b = bits8 (r ^^^ BitVec.ofNat 32 b.toNat) := by
  simp [byteStep, nib_bits, bits8]

/-! ### one to one -/
theorem bitStep_top (r : W) : (bitStep r).getLsbD 31 = r.getLsbD 0 := by
  unfold bitStep
  have hp : (0x82f63b78#32).getLsbD 31 = true := by decide
  have hs : (r >>> 1).getLsbD 31 = false := by
    rw [BitVec.getLsbD_ushiftRight]; exact BitVec.getLsbD_of_ge _ _ (by omega)
  cases h : r.getLsbD 0
  · exact hs
  · simp only [if_true]
    rw [BitVec.getLsbD_xor, hs, hp]
    rfl

theorem bitStep_inj {x y : W} (h : bitStep x = bitStep y) : x = y := by
  have h0 : x.getLsbD 0 = y.getLsbD 0 := by rw [← bitStep_top, ← bitStep_top, h]
  have h1 : x >>> 1 = y >>> 1 := by
    rw [bitStep_eq, bitStep_eq, h0] at h
    exact (BitVec.xor_left_inj _).1 h
  apply BitVec.eq_of_getLsbD_eq
  intro i hi
  cases i with
  | zero => exact h0
  | succ n =>
    have := congrArg (fun v => v.getLsbD n) h1
    simp only [BitVec.getLsbD_ushiftRight] at this
    rw [Nat.add_comm 1 n] at this
    exact this

theorem bits4_inj {x y : W} (h : bits4 x = bits4 y) : x = y := bitStep_inj (bitStep_inj (bitStep_inj (bitStep_inj h)))
theorem bits8_inj {x y : W} (h : bits8 x = bits8 y) : x = y := bits4_inj (bits4_inj h)
theorem byteStep_inj {x y : W} {b : UInt8} (h : byteStep x b = byteStep y b) : x = y := by
  rw [byteStep_bits, byteStep_bits] at h
  exact (BitVec.xor_left_inj _).1 (bits8_inj h)
theorem run_inj {x y : W} (l : List UInt8) (h : run x l = run y l) : x = y := by
  induction l generalizing x y with
  | nil => exact h
  | cons b l ih => exact byteStep_inj (ih h)
theorem more_inj {x y : W} (l : List UInt8) (h : more x l = more y l) : x = y := by
  unfold more at h
  have := run_inj l (BitVec.not_inj.1 h)
  exact BitVec.not_inj.1 this

/-! ### turned round -/
def tur : Nat → W → W → W
  | 0, _, o => o
  | k + 1, n, o => tur k (BitVec.ofNat 32 (n.toNat / 2)) (BitVec.ofNat 32 (o.toNat * 2 + n.toNat % 2))

theorem half_bit (n : W) (i : Nat) : (BitVec.ofNat 32 (n.toNat / 2)).getLsbD i = n.getLsbD (i + 1) := by
  have h : BitVec.ofNat 32 (n.toNat / 2) = n >>> 1 := by
    apply BitVec.eq_of_toNat_eq
    simp [Nat.shiftRight_eq_div_pow]
    have := n.isLt
    omega
  rw [h, BitVec.getLsbD_ushiftRight, Nat.add_comm]

theorem double_bit (o : W) (c : Nat) (hc : c < 2) (i : Nat) (hi : i < 32) :
    (BitVec.ofNat 32 (o.toNat * 2 + c)).getLsbD i = if i = 0 then decide (c = 1) else o.getLsbD (i - 1) := by
  rw [BitVec.getLsbD_ofNat]
  simp only [hi, decide_true, Bool.true_and]
  cases i with
  | zero =>
    rw [Nat.testBit_zero]
    simp only [if_true]
    rcases (by omega : c = 0 ∨ c = 1) with rfl | rfl
    · simp
    · simp
  | succ j =>
    rw [Nat.testBit_succ]
    have e : (o.toNat * 2 + c) / 2 = o.toNat := by omega
    rw [e]
    simp [BitVec.getLsbD]

theorem tur_bit (k : Nat) (n o : W) (i : Nat) (hi : i < 32) :
    (tur k n o).getLsbD i = if i < k then n.getLsbD (k - 1 - i) else o.getLsbD (i - k) := by
  induction k generalizing n o with
  | zero => simp [tur]
  | succ k ih =>
    rw [tur, ih]
    by_cases h : i < k
    · rw [if_pos h, if_pos (by omega), half_bit]
      congr 1
      omega
    · rw [if_neg h, double_bit _ _ (Nat.mod_lt _ (by omega)) _ (by omega)]
      by_cases h2 : i = k
      · subst h2
        rw [if_pos (by omega), if_pos (by omega)]
        have e : i + 1 - 1 - i = 0 := by omega
        rw [e]
        simp [BitVec.getLsbD, Nat.testBit_zero]
      · rw [if_neg (by omega), if_neg (by omega)]
        congr 1

def rev (n : W) : W := tur 32 n 0#32
theorem rev_bit (n : W) (i : Nat) (hi : i < 32) : (rev n).getLsbD i = n.getLsbD (31 - i) := by
  unfold rev
  rw [tur_bit _ _ _ _ hi, if_pos hi]
theorem rev_xor (x y : W) : rev (x ^^^ y) = rev x ^^^ rev y := by
  apply BitVec.eq_of_getLsbD_eq
  intro i hi
  rw [rev_bit _ _ hi, BitVec.getLsbD_xor, BitVec.getLsbD_xor, rev_bit _ _ hi, rev_bit _ _ hi]

/-- one bit of the dividing way, from the highest on -/
def refBit (r : W) : W := if r.getLsbD 31 then (r <<< 1) ^^^ 0x1edc6f41#32 else r <<< 1
theorem rev_shl (r : W) : rev (r <<< 1) = rev r >>> 1 := by
  apply BitVec.eq_of_getLsbD_eq
  intro i hi
  rw [rev_bit _ _ hi, BitVec.getLsbD_shiftLeft, BitVec.getLsbD_ushiftRight]
  by_cases h : i = 31
  · subst h
    rw [BitVec.getLsbD_of_ge (rev r) _ (by omega)]
    simp
  · rw [rev_bit _ _ (by omega)]
    have e1 : 31 - i < 32 := by omega
    have e2 : ¬ (31 - i < 1) := by omega
    have e3 : 31 - (1 + i) = 31 - i - 1 := by omega
    simp [e1, e2, e3]
theorem rev_poly : rev 0x1edc6f41#32 = 0x82f63b78#32 := by decide
theorem rev_refBit (r : W) : rev (refBit r) = bitStep (rev r) := by
  unfold refBit bitStep
  rw [rev_bit _ _ (by omega)]
  cases h : r.getLsbD (31 - 0)
  · rw [if_neg (by simp), if_neg (by simp), rev_shl]
  · rw [if_pos rfl, if_pos rfl, rev_xor, rev_shl, rev_poly]

def refBits : Nat → W → W
  | 0, r => r
  | k + 1, r => refBits k (refBit r)
def refIn (r : W) (b : UInt8) : W := r ^^^ (tur 8 (BitVec.ofNat 32 b.toNat) 0#32) <<< 24
def refByte (r : W) (b : UInt8) : W := refBits 8 (refIn r b)
theorem byte_bit (b : UInt8) (i : Nat) (h : 8 ≤ i) : (BitVec.ofNat 32 b.toNat).getLsbD i = false := by
  rw [BitVec.getLsbD_ofNat]
  have hb := b.toNat_lt
  have : b.toNat.testBit i = false := by
    apply Nat.testBit_lt_two_pow
    exact Nat.lt_of_lt_of_le hb (by
      have : 2 ^ 8 ≤ 2 ^ i := Nat.pow_le_pow_right (by omega) h
      omega)
  simp [this]
theorem rev_byte (b : UInt8) : rev ((tur 8 (BitVec.ofNat 32 b.toNat) 0#32) <<< 24) = BitVec.ofNat 32 b.toNat := by
  apply BitVec.eq_of_getLsbD_eq
  intro i hi
  rw [rev_bit _ _ hi, BitVec.getLsbD_shiftLeft]
  by_cases h : i < 8
  · have e1 : 31 - i < 32 := by omega
    have e2 : ¬ (31 - i < 24) := by omega
    rw [tur_bit _ _ _ _ (by omega), if_pos (by omega)]
    have e3 : 8 - 1 - (31 - i - 24) = i := by omega
    rw [e3]
    simp [e1, e2]
  · have e2 : 31 - i < 24 := by omega
    rw [byte_bit b i (by omega)]
    simp [e2]
theorem rev_refByte (r : W) (b : UInt8) : rev (refByte r b) = byteStep (rev r) b := by
  rw [byteStep_bits]
  unfold refByte refIn
  simp only [refBits, rev_refBit, rev_xor, rev_byte]
  rfl
def refRun (r : W) (l : List UInt8) : W := l.foldl refByte r
theorem rev_refRun (r : W) (l : List UInt8) : rev (refRun r l) = run (rev r) l := by
  induction l generalizing r with
  | nil => rfl
  | cons b l ih =>
    show rev (refRun (refByte r b) l) = run (byteStep (rev r) b) l
    rw [ih, rev_refByte]
theorem rev_ones : rev 0xffffffff#32 = 0xffffffff#32 := by decide
theorem ref_is (l : List UInt8) : rev (refRun 0xffffffff#32 l) ^^^ 0xffffffff#32 = more 0#32 l := by
  rw [rev_refRun, rev_ones]
  unfold more
  have e : ~~~ (0#32) = 0xffffffff#32 := by decide
  rw [e]
  have h : ∀ x : W, x ^^^ 0xffffffff#32 = ~~~ x := by
    intro x
    have : (0xffffffff#32) = BitVec.allOnes 32 := by decide
    rw [this, BitVec.xor_allOnes]
  exact h _

/-! ### four bytes that follow one another -/
theorem bits8_shl (y : W) (hy : ∀ i, 24 ≤ i → y.getLsbD i = false) : bits8 (y <<< 8) = y := by
  unfold bits8 bits4
  rw [bitStep_shl _ 7 (fun i hi => hy i (by omega)), bitStep_shl _ 6 (fun i hi => hy i (by omega)), bitStep_shl _ 5 (fun i hi => hy i (by omega)), bitStep_shl _ 4 (fun i hi => hy i (by omega)),
    bitStep_shl _ 3 (fun i hi => hy i (by omega)), bitStep_shl _ 2 (fun i hi => hy i (by omega)), bitStep_shl _ 1 (fun i hi => hy i (by omega)), bitStep_shl _ 0 (fun i hi => hy i (by omega))]
  simp
def word (b0 b1 b2 b3 : UInt8) : W :=
  BitVec.ofNat 32 b0.toNat ^^^ ((BitVec.ofNat 32 b1.toNat ^^^ ((BitVec.ofNat 32 b2.toNat ^^^ (BitVec.ofNat 32 b3.toNat <<< 8)) <<< 8)) <<< 8)
def bits32 (r : W) : W := bits8 (bits8 (bits8 (bits8 r)))
theorem run_four (r : W) (b0 b1 b2 b3 : UInt8) : run r [b0, b1, b2, b3] = bits32 (r ^^^ word b0 b1 b2 b3) := by
  have s : ∀ (y : W) (n : Nat), (∀ i, n ≤ i → y.getLsbD i = false) → ∀ i, n + 8 ≤ i → (y <<< 8).getLsbD i = false := by
    intro y n h i hi
    rw [BitVec.getLsbD_shiftLeft, h (i - 8) (by omega)]
    simp
  have x2 : ∀ (y z : W) (n : Nat), (∀ i, n ≤ i → y.getLsbD i = false) → (∀ i, n ≤ i → z.getLsbD i = false) → ∀ i, n ≤ i → (y ^^^ z).getLsbD i = false := by
    intro y z n h1 h2 i hi
    rw [BitVec.getLsbD_xor, h1 i hi, h2 i hi]
    rfl
  have up : ∀ (b : UInt8) (n : Nat), 8 ≤ n → ∀ i, n ≤ i → (BitVec.ofNat 32 b.toNat).getLsbD i = false := fun b n hn i hi => byte_bit b i (by omega)
  have h3 : ∀ i, 8 ≤ i → (BitVec.ofNat 32 b3.toNat).getLsbD i = false := up b3 8 (by omega)
  have h2 := x2 _ _ 16 (up b2 16 (by omega)) (s _ 8 h3)
  have h1 := x2 _ _ 24 (up b1 24 (by omega)) (s _ 16 h2)
  show byteStep (byteStep (byteStep (byteStep r b0) b1) b2) b3 = _
  simp only [byteStep_bits]
  unfold bits32 word
  rw [← BitVec.xor_assoc, bits8_xor (r ^^^ _), bits8_shl _ h1, ← BitVec.xor_assoc, bits8_xor (bits8 (r ^^^ _) ^^^ _), bits8_shl _ (fun i hi => h2 i (by omega)), ← BitVec.xor_assoc,
    bits8_xor (bits8 (bits8 (r ^^^ _) ^^^ _) ^^^ _), bits8_shl _ (fun i hi => h3 i (by omega))]
theorem bits32_inj {x y : W} (h : bits32 x = bits32 y) : x = y := bits8_inj (bits8_inj (bits8_inj (bits8_inj h)))
theorem four_inj {r : W} {a0 a1 a2 a3 b0 b1 b2 b3 : UInt8} (h : run r [a0, a1, a2, a3] = run r [b0, b1, b2, b3]) : word a0 a1 a2 a3 = word b0 b1 b2 b3 := by
  rw [run_four, run_four] at h
  exact (BitVec.xor_right_inj _).1 (bits32_inj h)

/-! ### linear over texts -/
def xors : List UInt8 → List UInt8 → List UInt8
  | a :: x, b :: y => (a ^^^ b) :: xors x y
  | _, _ => []
theorem byte_xor (a b : UInt8) : BitVec.ofNat 32 (a ^^^ b).toNat = BitVec.ofNat 32 a.toNat ^^^ BitVec.ofNat 32 b.toNat := by
  rw [UInt8.toNat_xor]
  apply BitVec.eq_of_toNat_eq
  have ha := a.toNat_lt
  have hb := b.toNat_lt
  have hx : a.toNat ^^^ b.toNat < 2 ^ 8 := Nat.xor_lt_two_pow ha hb
  simp only [BitVec.toNat_ofNat, BitVec.toNat_xor]
  rw [Nat.mod_eq_of_lt (by omega), Nat.mod_eq_of_lt (by omega), Nat.mod_eq_of_lt (by omega)]
theorem run_xors (x y : List UInt8) (hl : x.length = y.length) (r1 r2 r3 : W) :
    run (r1 ^^^ r2 ^^^ r3) (xors x y) = run r1 x ^^^ run r2 y ^^^ run r3 (List.replicate x.length 0) := by
  induction x generalizing y r1 r2 r3 with
  | nil =>
    cases y with
    | nil => rfl
    | cons _ _ => simp at hl
  | cons a x ih =>
    cases y with
    | nil => simp at hl
    | cons b y =>
      simp only [List.length_cons, List.replicate_succ]
      show run (byteStep (r1 ^^^ r2 ^^^ r3) (a ^^^ b)) (xors x y) = run (byteStep r1 a) x ^^^ run (byteStep r2 b) y ^^^ run (byteStep r3 0) (List.replicate x.length 0)
      rw [← ih y (by simpa using hl)]
      congr 1
      simp only [byteStep_bits, byte_xor]
      rw [← bits8_xor, ← bits8_xor]
      congr 1
      have e0 : BitVec.ofNat 32 (0 : UInt8).toNat = 0#32 := rfl
      rw [e0, BitVec.xor_zero]
      ac_rfl
theorem more_xors (x y : List UInt8) (hl : x.length = y.length) :
    more 0#32 (xors x y) = more 0#32 x ^^^ more 0#32 y ^^^ more 0#32 (List.replicate x.length 0) := by
  unfold more
  have e : ~~~ (0#32) = ~~~ (0#32) ^^^ ~~~ (0#32) ^^^ ~~~ (0#32) := by decide
  rw [e, run_xors x y hl, ← e]
  generalize run (~~~ (0#32)) x = a
  generalize run (~~~ (0#32)) y = b
  generalize run (~~~ (0#32)) (List.replicate x.length 0) = c
  have h : ∀ x : W, ~~~ x = x ^^^ BitVec.allOnes 32 := fun x => BitVec.xor_allOnes.symm
  rw [h, h a, h b, h c]
  have e2 : a ^^^ BitVec.allOnes 32 ^^^ (b ^^^ BitVec.allOnes 32) ^^^ (c ^^^ BitVec.allOnes 32) = a ^^^ b ^^^ c ^^^ BitVec.allOnes 32 ^^^ (BitVec.allOnes 32 ^^^ BitVec.allOnes 32) := by ac_rfl
  rw [e2]
  simp

end Crc
end Go.Proofs.YtbhggcleijjofaaDoor.Pg
