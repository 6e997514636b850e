/-
  What the walk of the answer's digest wants.
-/
import Derived.Test.YtdolilgkjknckaaDoorRefPrimes
import Derived.Test.YtdolilgkjknckaaDoorRootsEq
import Derived.Test.YtdolilgkjknckaaDoorSum
import Derived.Test.YtdolilgkjknckaaDoorRefBits
import Derived.Deep.CutBlock
import Derived.Deep.RegionHeld3
namespace Go.Proofs.YtdolilgkjknckaaDoor.Sh
set_option maxRecDepth 100000
open Go Go.RowKit
attribute [local irreducible] H0 K0 primes64

theorem info33z : (Tryd.prog.info? 64).map (fun i => (i.zero, i.size, i.bytes)) = some (some (.int .u32 0), 1, 4) := by kernel_rfl
theorem info5y : (Tryd.prog.info? 5).map (fun i => (i.zero, i.size, i.bytes)) = some (some (.int .u8 0), 1, 1) := by kernel_rfl
/-- '[]byte(s)' -/
theorem slConverted (w : World) (s : ByteArray) (e : TypeId) :
    Sl (w.alloc (.cells (bytesRow s (grownCap w s.size 0 e)) e ((bytesRow s (grownCap w s.size 0 e)).size, (bytesRow s (grownCap w s.size 0 e)).size + 1))) e .u8 (.slice (some ⟨w.heap.size, 0, none⟩) s.size (grownCap w s.size 0 e)) w.heap.size (toI s.data.toList) := by
  have hl : (toI s.data.toList).length = s.size := by rw [toI_length, Array.length_toList]; rfl
  have hge := grownCap_ge w s.size 0 e
  have hsz : (bytesRow s (grownCap w s.size 0 e)).size = grownCap w s.size 0 e := by
    simp only [bytesRow, Array.size_append, Array.size_map, Array.size_replicate]
    have : s.data.size = s.size := rfl
    omega
  have hB := HasBytes.converted w s (grownCap w s.size 0 e) e
  refine ⟨by rw [size_alloc]; omega, grownCap w s.size 0 e, by rw [hl], by rw [hl]; exact hge, fun j hj => ⟨?_, ?_⟩, fun j hj => ?_⟩
  · rw [World.cell?_alloc_mark, Array.getElem?_eq_getElem (by rw [hsz]; exact hj)]
    rfl
  · rw [World.frozen?_alloc_mark]
    have : ¬ (bytesRow s (grownCap w s.size 0 e)).size ≤ j := by omega
    simp [this]
  · rw [toI_getD]
    exact (hB j (by rw [toI_length] at hj; exact hj)).1
theorem slHas {w : World} {e v g} {l : List UInt8} (h : Sl w e .u8 v g (toI l)) : HasBytes w g l := by
  intro j hj
  have hj2 : j < (toI l).length := by rw [toI_length]; exact hj
  exact ⟨by rw [h.cell j hj2, toI_getD], h.frozen j hj2⟩
/-- 'string(b)' -/
theorem slBack {w : World} {v g} {l : List UInt8} (h : Sl w 5 .u8 v g (toI l)) : (convert 50 9 v).run Tryd.prog w = .ok (.string ⟨l.toArray⟩) w := by
  obtain ⟨cap, rfl, _⟩ := h.val
  rw [toI_length]
  exact (slHas h).back 50 9 5 l.length cap rfl Tryd.underlying50 Tryd.underlying5 Tryd.underlying9

def hL (n : Nat) : List Int := (primes64.take (min n 8)).map fun p => rootL p 2
def kL (n : Nat) : List Int := (primes64.take n).map fun p => rootL p 3
theorem hL_length (n : Nat) : (hL n).length = min n 8 := by
  have : primes64.length = 64 := primes64_length
  simp only [hL, List.length_map, List.length_take, this]
  omega
theorem kL_length (n : Nat) (h : n ≤ 64) : (kL n).length = n := by
  have : primes64.length = 64 := primes64_length
  simp only [kL, List.length_map, List.length_take, this]
  omega
theorem take_getD (l : List Int) (n : Nat) (h : n < l.length) : l.take (n + 1) = l.take n ++ [l.getD n 0] := by
  rw [List.take_succ_eq_append_getElem h]
  simp [List.getD_eq_getElem?_getD, h]
theorem hL_succ (n : Nat) (h : n < 8) : hL (n + 1) = hL n ++ [rootL (primes64.getD n 0) 2] := by
  have hp : primes64.length = 64 := primes64_length
  unfold hL
  rw [show min (n + 1) 8 = n + 1 by omega, show min n 8 = n by omega, take_getD _ _ (by omega), List.map_append]
  rfl
theorem hL_rest (n : Nat) (h : ¬ n < 8) : hL (n + 1) = hL n := by
  unfold hL
  rw [show min (n + 1) 8 = 8 by omega, show min n 8 = 8 by omega]
theorem kL_succ (n : Nat) (h : n < 64) : kL (n + 1) = kL n ++ [rootL (primes64.getD n 0) 3] := by
  have hp : primes64.length = 64 := primes64_length
  unfold kL
  rw [take_getD _ _ (by omega), List.map_append]
  rfl
theorem hL_all : hL 64 = H0 := squares_same
theorem kL_all : kL 64 = K0 := by
  have hp : primes64.length = 64 := primes64_length
  unfold kL
  rw [List.take_of_length_le (by omega)]
  exact cubes_same

theorem one_cell1 (w : World) (o : Obj) (k : IntKind) (x : Int) (e : TypeId) : ∀ j, j < 1 → ((w.alloc o).alloc (.cells #[.int k x] e)).drew.cell? ((⟨w.heap.size + 1, 0, none⟩ : Addr).add j) = some (.int k ([x].getD j 0)) := by
  intro j hj
  obtain rfl : j = 0 := by omega
  have h := (Row.fresh1 w o e k [x]).drew.cell 0 (by simp)
  exact h
/-- the words and the round numbers -/
def HK (vh vk : Value) (gh gk : Nat) : List Ent := [⟨64, .u32, vh, gh, H0⟩, ⟨64, .u32, vk, gk, K0⟩]
/-- a slice's length, for a measure -/
def lenV : Value → Nat | .slice _ n _ => n | _ => 0
/-- how many noughts are wanted -/
def zOf (n : Nat) : Nat := (119 - n % 64) % 64
theorem zOf_lt (n z : Nat) (h : z < zOf n) : ¬ (n + 1 + z) % 64 = 56 := by unfold zOf at h; omega
theorem zOf_eq (n : Nat) : (n + 1 + zOf n) % 64 = 56 := by unfold zOf; omega
theorem zOf_le (n : Nat) : zOf n ≤ 63 := by unfold zOf; omega
def padZ (l : List UInt8) (z : Nat) : List UInt8 := l ++ [128] ++ List.replicate z 0
theorem padZ_length (l : List UInt8) (z : Nat) : (padZ l z).length = l.length + 1 + z := by simp [padZ]; omega
theorem padZ_succ (l : List UInt8) (z : Nat) : padZ l (z + 1) = padZ l z ++ [0] := by
  unfold padZ
  rw [List.replicate_succ', ← List.append_assoc]
def beTo (n k : Nat) : List UInt8 := (List.range k).map fun i => UInt8.ofNat (n * 8 / 2 ^ (56 - 8 * i))
theorem beTo_succ (n k : Nat) : beTo n (k + 1) = beTo n k ++ [UInt8.ofNat (n * 8 / 2 ^ (56 - 8 * k))] := by simp [beTo, List.range_succ]
theorem beTo_length (n k : Nat) : (beTo n k).length = k := by simp [beTo]
@[irreducible] def padded (l : List UInt8) : List UInt8 := padZ l (zOf l.length) ++ beTo l.length 8
theorem padded_eq (l : List UInt8) : padded l = padZ l (zOf l.length) ++ beTo l.length 8 := by unfold padded; rfl
theorem padded_length (l : List UInt8) : (padded l).length = l.length + 9 + zOf l.length := by rw [padded_eq, List.length_append, padZ_length, beTo_length]; omega
theorem padded_64 (l : List UInt8) : (padded l).length % 64 = 0 := by
  rw [padded_length]
  have := zOf_eq l.length
  omega
theorem toI_append (a b : List UInt8) : toI (a ++ b) = toI a ++ toI b := by simp [toI]
theorem beByte (n i : Nat) : ((n : Int) * 8 / 2 ^ (56 - 8 * i) % 256) = ((UInt8.ofNat (n * 8 / 2 ^ (56 - 8 * i))).toNat : Int) := by
  rw [UInt8.toNat_ofNat']
  have h : ((n : Int) * 8 / 2 ^ (56 - 8 * i)) = ((n * 8 / 2 ^ (56 - 8 * i) : Nat) : Int) := by
    rw [Int.natCast_ediv, Int.natCast_mul, Int.natCast_pow]
    rfl
  rw [h]
  omega

theorem wrap_small (x : Int) (h0 : -1000000 ≤ x) (h1 : x ≤ 1000000) : IntKind.i64.wrap x = x := by
  rw [IntKind.wrap_i64]
  omega
theorem index_at (g n c : Nat) (i : Int) (j : Nat) (hj : i = (j : Int)) (h : j < n) (w : World) : (Instr.indexAt 63 (.slice (some ⟨g, 0, none⟩) n c) (.int .i64 i)).run Tryd.prog w = .ok (.pointer (some ⟨g, j, none⟩)) w := by
  subst hj
  have he : Tryd.prog.elem 63 = 64 := by kernel_rfl
  rw [run_indexAt_slice w 63 ⟨g, 0, none⟩ n c .i64 j (by rw [he]; exact Tryd.underlying63), if_pos ⟨by omega, by omega⟩, he, Tryd.sizeOf64]
  simp [Addr.add]
  exact fun h => h.symm
theorem keep_cell (w : World) (o : Obj) (a : Addr) (v : Value) (h : w.cell? a = some v) : (w.alloc o).drew.cell? a = some v := by
  have h2 := World.cell?_alloc_some w a o (by rw [h]; rfl)
  exact h2.trans h
theorem absorb_small (l : List UInt8) (k : Nat) : Small (absorb H0 l k) := by
  cases k with
  | zero => exact H0_small
  | succ k => rw [absorb]; exact mix_small _ _ _
/-- block b of a text -/
def chunk (l : List UInt8) (b : Nat) : List UInt8 := (l.drop (64 * b)).take 64
theorem chunk_byte (l : List UInt8) (b j : Nat) (hj : j < 64) : byteI (chunk l b) j = byteI l (64 * b + j) := by
  unfold byteI chunk
  simp [List.getD_eq_getElem?_getD, hj, List.getElem?_drop]
theorem pushB_nonneg (x c : Int) : 0 ≤ pushB x c := by
  unfold pushB bits
  simp only []
  rw [IntKind.wrap_u32]
  omega
theorem push_eq (x c : Int) (x0 : 0 ≤ x) (c0 : 0 ≤ c) (c1 : c < 256) : (x * 256 + c) % 4294967296 = pushB x c := by
  obtain ⟨a, rfl⟩ := Int.eq_ofNat_of_zero_le x0
  obtain ⟨d, rfl⟩ := Int.eq_ofNat_of_zero_le c0
  have hd : d < 256 := by omega
  have e1 : ((a : Int) * 256 % 4294967296) = ((a % 16777216 * 256 : Nat) : Int) := by omega
  have h1 : a % 16777216 * 256 < 4294967296 := by omega
  unfold pushB
  rw [e1, u32_or_nat _ _ h1 (by omega)]
  have h2 : a % 16777216 * 256 ||| d = a % 16777216 * 256 + d := by
    have := Nat.two_pow_add_eq_or_of_lt (i := 8) (b := d) (by omega) (a % 16777216)
    rw [Nat.mul_comm (2 ^ 8)] at this
    exact this.symm
  rw [h2]
  omega
theorem wordTo_nonneg (l : List UInt8) (i j : Nat) : 0 ≤ wordTo l i j := by
  cases j with
  | zero => exact Int.le_refl 0
  | succ j => exact pushB_nonneg _ _
theorem wordTo_next (l : List UInt8) (b n j : Nat) (hn : n < 16) (hj : j < 4) : (wordTo (chunk l b) n j * 256 + byteI l (64 * b + 4 * n + j)) % 4294967296 = wordTo (chunk l b) n (j + 1) := by
  rw [wordTo, chunk_byte l b (4 * n + j) (by omega), ← Nat.add_assoc]
  obtain ⟨_, h0, h1⟩ := byteI_eq l (64 * b + 4 * n + j)
  exact push_eq _ _ (wordTo_nonneg _ _ _) h0 h1
/-- what is kept while a block goes in: the words, the round numbers, the text -/
def E3 (gh ch gk ck gB cB B : Nat) (F : List UInt8) (h : List Int) : List Ent :=
  [⟨64, .u32, .slice (some ⟨gh, 0, none⟩) 8 ch, gh, h⟩, ⟨64, .u32, .slice (some ⟨gk, 0, none⟩) 64 ck, gk, K0⟩, ⟨5, .u8, .slice (some ⟨gB, 0, none⟩) (64 * B) cB, gB, toI F⟩]
theorem grown_cell {w w' : World} {g0 g j : Nat} {v : Value} (b : w.grownBy w' (some g0)) (h : w.cell? ⟨g, j, none⟩ = some v) (hne : g ≠ g0) (hlt : g < w.heap.size) : w'.cell? ⟨g, j, none⟩ = some v :=
  (World.cell?_of_block (w := w) (a := ⟨g, j, none⟩) (b.block g hlt (by simpa using hne))).trans h
theorem four_cells (w : World) (k : IntKind) (x y z u : Int) (e : TypeId) : ∀ j, j < 4 → (w.alloc (.cells #[.int k x, .int k y, .int k z, .int k u] e)).drew.cell? ((⟨w.heap.size, 0, none⟩ : Addr).add j) = some (.int k ([x, y, z, u].getD j 0)) := by
  intro j hj
  have ea : (⟨w.heap.size, 0, none⟩ : Addr).add j = ⟨w.heap.size, j, none⟩ := by unfold Addr.add; split <;> simp_all
  rw [ea]
  have h := (Sl.ofRow (Row.fresh w e k [x, y, z, u])).drew.cell j hj
  exact h
theorem bytesTo_four (W : List Int) (n : Nat) : bytesTo W (4 * (n + 1)) = bytesTo W (4 * n) ++ [byteW (W.getD n 0) 24, byteW (W.getD n 0) 16, byteW (W.getD n 0) 8, byteW (W.getD n 0) 0] := by
  rw [show 4 * (n + 1) = 4 * n + 1 + 1 + 1 + 1 by omega, bytesTo_succ, bytesTo_succ, bytesTo_succ, bytesTo_succ]
  rw [show (4 * n + 1 + 1 + 1) / 4 = n by omega, show (4 * n + 1 + 1) / 4 = n by omega, show (4 * n + 1) / 4 = n by omega, show 4 * n / 4 = n by omega]
  rw [show (4 * n + 1 + 1 + 1) % 4 = 3 by omega, show (4 * n + 1 + 1) % 4 = 2 by omega, show (4 * n + 1) % 4 = 1 by omega, show 4 * n % 4 = 0 by omega]
  simp
theorem four_bytes (x : Int) (x0 : 0 ≤ x) : [IntKind.u8.wrap (IntKind.u32.wrap (x.tdiv 16777216)), IntKind.u8.wrap (IntKind.u32.wrap (x.tdiv 65536)), IntKind.u8.wrap (IntKind.u32.wrap (x.tdiv 256)), IntKind.u8.wrap x] = toI [byteW x 24, byteW x 16, byteW x 8, byteW x 0] := by
  unfold toI
  simp only [List.map_cons, List.map_nil, byteW_val, IntKind.wrap_u8, IntKind.wrap_u32, Int.tdiv_eq_ediv_of_nonneg x0]
  rw [show (2 : Int) ^ 24 = 16777216 from rfl, show (2 : Int) ^ 16 = 65536 from rfl, show (2 : Int) ^ 8 = 256 from rfl, show (2 : Int) ^ 0 = 1 from rfl, Int.ediv_one]
  congr 1
  · omega
  · congr 1
    · omega
    · congr 1
      omega
end Go.Proofs.YtdolilgkjknckaaDoor.Sh
