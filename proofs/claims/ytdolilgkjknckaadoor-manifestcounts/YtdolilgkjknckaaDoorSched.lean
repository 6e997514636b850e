/-
  A block's words: the first sixteen out of its bytes, each later one out of four ahead of it.
-/
import Derived.Test.YtdolilgkjknckaaDoorPrimes
import Derived.OpenShut
import Derived.RegionTactic
import Derived.BigQuiet
namespace Go.Proofs.YtdolilgkjknckaaDoor.Sh
open Go Go.RowKit

/-- a byte behind a word's bytes -/
def pushB (x c : Int) : Int := bits .or .u32 (x * 256 % 4294967296) c
def byteI (l : List UInt8) (j : Nat) : Int := ((l.getD j 0).toNat : Int)
theorem byteI_eq (l : List UInt8) (j : Nat) : ((l.getD j 0).toNat : Int) = byteI l j ∧ 0 ≤ byteI l j ∧ byteI l j < 256 := by
  have := (l.getD j 0).toNat_lt
  refine ⟨rfl, ?_, ?_⟩ <;> unfold byteI <;> omega
/-- a word of these bytes, as far as j of them -/
def wordTo (l : List UInt8) (i : Nat) : Nat → Int
  | 0 => 0
  | j + 1 => pushB (wordTo l i j) (byteI l (4 * i + j))
def words16 (l : List UInt8) (k : Nat) : List Int := (List.range k).map fun i => wordTo l i 4
theorem words16_length (l : List UInt8) (k : Nat) : (words16 l k).length = k := by simp [words16]
theorem words16_succ (l : List UInt8) (k : Nat) : words16 l (k + 1) = words16 l k ++ [wordTo l k 4] := by simp [words16, List.range_succ]

theorem pad_zero (l : List Int) (h : l.length < 64) : pad (l ++ [0]) = pad l := by
  have e : List.replicate (64 - l.length) (0 : Int) = 0 :: List.replicate (64 - (l.length + 1)) 0 := by
    rw [← List.replicate_succ]
    congr 1
    omega
  unfold pad
  rw [e]
  simp
theorem pad_reset (l : List Int) (x y : Int) : (pad (l ++ [x])).set l.length y = pad (l ++ [y]) := by
  unfold pad
  simp
theorem pad_full (l : List Int) (h : l.length = 64) : pad l = l := by simp [pad, h]

theorem extract_at (b : ByteArray) (k j : Nat) (hb : b.size = 64) (hk : k < 16) (hj : j < 4) : (b.extract (4 * k) (4 * k + 4)).data.toList.getD j 0 = b.data.toList.getD (4 * k + j) 0 := by
  have h1 : (b.extract (4 * k) (4 * k + 4)).data = b.data.extract (4 * k) (4 * k + 4) := by simp
  have h3 : min (4 * k + 4) b.data.size - 4 * k = 4 := by have : b.data.size = 64 := hb; omega
  rw [h1, List.getD_eq_getElem?_getD, List.getD_eq_getElem?_getD, Array.getElem?_toList, Array.getElem?_toList, Array.getElem?_extract, h3, if_pos hj]

def s0 (x : Int) : Int := bits .xor .u32 (bits .xor .u32 (rotr x 7) (rotr x 18)) (x / 8)
def s1 (x : Int) : Int := bits .xor .u32 (bits .xor .u32 (rotr x 17) (rotr x 19)) (x / 1024)
/-- the word behind these -/
def nextW (ws : List Int) : Int := (ws.getD (ws.length - 16) 0 + s0 (ws.getD (ws.length - 15) 0) + ws.getD (ws.length - 7) 0 + s1 (ws.getD (ws.length - 2) 0)) % 4294967296
def more (ws : List Int) : Nat → List Int
  | 0 => ws
  | k + 1 => more ws k ++ [nextW (more ws k)]
theorem more_length (ws : List Int) (k : Nat) : (more ws k).length = ws.length + k := by
  induction k with
  | zero => rfl
  | succ k ih => simp [more, ih]; omega
@[irreducible] def schedule (l : List UInt8) : List Int := more (words16 l 16) 48
theorem schedule_eq (l : List UInt8) : schedule l = more (words16 l 16) 48 := by unfold schedule; rfl
theorem schedule_length (l : List UInt8) : (schedule l).length = 64 := by rw [schedule_eq, more_length, words16_length]

theorem blockWords_any (b : ByteArray) (hb64 : b.size = 64) (w : World) :
    Calls Tryd.prog 76 #[.string b] w fun e w' => e = .returned (.agg (cellsOf .u32 (schedule b.data.toList))) ∧ Below w.heap.size w w' := by
  generalize hS : schedule b.data.toList = S
  have HS := Hid.mk hS
  clear hS
  have hconv := fun w s => run_bytes_of_string (P := Tryd.prog) w 9 50 5 s Tryd.underlying9 Tryd.underlying50 Tryd.underlying5
  go_enter Tryd.func76, Tryd.ntmps76
  go_wp2_with fail
  go_loopw [12] (fun i wr => ∃ k : Nat, k ≤ 16 ∧ i = .int .i64 k ∧ Row wr w.heap.size 82 .u32 (List.replicate 64 0) ∧ Row wr (w.heap.size + 1) 82 .u32 (pad (words16 b.data.toList k)) ∧ Below w.heap.size w wr)
    (fun i _ => 16 - (intOf i).toNat)
  case atStart =>
    exact ⟨0, Nat.zero_le _, rfl, (Row.fresh w 82 .u32 (List.replicate 64 0)).alloc _, Row.fresh1 w _ 82 .u32 (List.replicate 64 0),
      ((Below.refl w.heap.size w).alloc (Nat.le_refl _) _).alloc (by simp only [size_alloc]; omega) _⟩
  case round =>
    obtain ⟨k, hk, rfl, hr, hp, hb⟩ := hrel
    obtain ⟨w0, rfl⟩ : ∃ x : World, x = wr := ⟨_, rfl⟩
    by_cases hk16 : k < 16
    · have HR := Hid.mk hr
      have HP := Hid.mk hp
      have HB := Hid.mk hb
      clear hr hp hb
      have hmin : min (4 * k + 4) 64 - 4 * k = 4 := by omega
      go_wp2_with fail
      clear hconv hmin
      have hB0 := (HasBytes.converted w0 (b.extract (4 * k) (4 * k + 4)) (grownCap w0 4 0 5) 5).drew
      have hEl : (b.extract (4 * k) (4 * k + 4)).data.toList.length = 4 := by
        rw [Array.length_toList]
        show (b.extract (4 * k) (4 * k + 4)).size = 4
        rw [ByteArray.size_extract]
        omega
      generalize hE : (b.extract (4 * k) (4 * k + 4)) = E at *
      have HE := Hid.mk hE
      have HL := Hid.mk hEl
      clear hE hEl
      go_loopw [24] (fun i wx => ∃ j : Nat, j ≤ 4 ∧ i = .int .i64 j ∧ HasBytes wx w0.heap.size E.data.toList ∧ Row wx w.heap.size 82 .u32 (List.replicate 64 0) ∧ Row wx (w.heap.size + 1) 82 .u32 (pad (words16 b.data.toList k ++ [wordTo b.data.toList k j])) ∧ Below w.heap.size w wx)
        (fun i _ => 4 - (intOf i).toNat)
      case atStart =>
        refine ⟨0, Nat.zero_le _, rfl, hB0, (HR.out.alloc _).drew, ?_, (HB.out.alloc HB.out.size _).drew⟩
        rw [wordTo, pad_zero _ (by rw [words16_length]; omega)]
        exact (HP.out.alloc _).drew
      case round =>
        clear hB0
        obtain ⟨j, hj, rfl, hB, hr, hp, hb⟩ := hrel
        have hg := HR.out.lt
        have hg1 := HP.out.lt
        by_cases hj4 : j < 4
        · obtain ⟨c1, _⟩ := hB j (by rw [HL.out]; omega)
          have ce : E.data.toList.getD j 0 = b.data.toList.getD (4 * k + j) 0 := by
            rw [← HE.out]
            exact extract_at b k j hb64 hk16 hj4
          rw [ce] at c1
          have hkl := words16_length b.data.toList k
          have c2 := hp.cell k (by rw [pad_length _ (by simp; omega)]; omega)
          have f2 := hp.frozen k
          have e2 : (pad (words16 b.data.toList k ++ [wordTo b.data.toList k j])).getD k 0 = wordTo b.data.toList k j := by
            rw [pad_at _ _ (by simp; omega)]
            simp [hkl]
          rw [e2] at c2
          have hpn := hp.stored k (wordTo b.data.toList k (j + 1))
          have er := pad_reset (words16 b.data.toList k) (wordTo b.data.toList k j) (wordTo b.data.toList k (j + 1))
          rw [hkl] at er
          rw [er] at hpn
          have hwd : wordTo b.data.toList k (j + 1) = pushB (wordTo b.data.toList k j) (byteI b.data.toList (4 * k + j)) := rfl
          rw [hwd] at hpn
          have hcv := byteI_eq b.data.toList (4 * k + j)
          generalize hbv : byteI b.data.toList (4 * k + j) = v at *
          rw [hcv.1] at c1
          obtain ⟨_, v0, v1⟩ := hcv
          have hBn := hB.other (a := ⟨w.heap.size + 1, k, none⟩) (by show w.heap.size + 1 ≠ w0.heap.size; omega) (.int .u32 (pushB (wordTo b.data.toList k j) v))
          have hrn := hr.other (a := ⟨w.heap.size + 1, k, none⟩) (by show w.heap.size + 1 ≠ w.heap.size; omega) (.int .u32 (pushB (wordTo b.data.toList k j) v))
          have hbn := hb.setCell (p := ⟨w.heap.size + 1, k, none⟩) (by show w.heap.size ≤ w.heap.size + 1; omega) (.int .u32 (pushB (wordTo b.data.toList k j) v))
          have HN := Hid.mk (And.intro hpn (And.intro hBn (And.intro hrn (And.intro hbn hwd))))
          clear hpn hBn hrn hbn hwd hB hr hp hb er e2 ce hkl hg hg1
          generalize hW : wordTo b.data.toList k j = W at *
          have HV := Hid.mk hbv
          have HW := Hid.mk hW
          clear hbv hW
          go_wp2_with fail
          obtain ⟨n1, n2, n3, n4, n5⟩ := HN.out
          refine ⟨⟨j + 1, by omega, by go_num, n2, n3, ?_, n4⟩, by simp [intOf]; omega⟩
          rw [n5]
          exact n1
        · obtain rfl : j = 4 := by omega
          have HQ := Hid.mk (And.intro hr (And.intro hp hb))
          clear hr hp hb hB
          go_wp2_with fail
          obtain ⟨q1, q2, q3⟩ := HQ.out
          rw [← words16_succ] at q2
          refine ⟨⟨k + 1, by omega, by go_num, q1, q2, q3⟩, by simp [intOf]; omega⟩
    · have hk2 : k = 16 := by omega
      rw [hk2] at hp
      clear hk2
      have HR := Hid.mk hr
      have HP := Hid.mk hp
      have HB := Hid.mk hb
      clear hr hp hb hconv
      go_wp2_with fail
      go_loopw [7] (fun i wr => ∃ n : Nat, 16 ≤ n ∧ n ≤ 64 ∧ i = .int .i64 n ∧ Row wr w.heap.size 82 .u32 (List.replicate 64 0) ∧ Row wr (w.heap.size + 1) 82 .u32 (pad (more (words16 b.data.toList 16) (n - 16))) ∧ Below w.heap.size w wr)
        (fun i _ => 64 - (intOf i).toNat)
      case atStart => exact ⟨16, by omega, by omega, rfl, HR.out, HP.out, HB.out⟩
      case round =>
        clear HR HP HB
        obtain ⟨n, n16, n64, rfl, hr, hp, hb⟩ := hrel
        by_cases hn : n < 64
        · have hlen : (more (words16 b.data.toList 16) (n - 16)).length = n := by rw [more_length, words16_length]; omega
          have hsucc : more (words16 b.data.toList 16) (n + 1 - 16) = more (words16 b.data.toList 16) (n - 16) ++ [nextW (more (words16 b.data.toList 16) (n - 16))] := by
            rw [show n + 1 - 16 = (n - 16) + 1 by omega]
            rfl
          generalize hws : more (words16 b.data.toList 16) (n - 16) = ws at *
          have hpl := pad_length ws (by omega)
          have cc : ∀ d : Nat, d ≤ n → 0 < d → wr.cell? ⟨w.heap.size + 1, n - d, none⟩ = some (.int .u32 (ws.getD (n - d) 0)) := by
            intro d hd h0
            have h := hp.cell (n - d) (by omega)
            rw [pad_at ws (n - d) (by omega)] at h
            rw [h, List.getD_eq_getElem?_getD, List.getElem?_eq_getElem (by omega : n - d < ws.length)]
            rfl
          have c2 := cc 2 (by omega) (by omega)
          have c7 := cc 7 (by omega) (by omega)
          have c15 := cc 15 (by omega) (by omega)
          have c16 := cc 16 (by omega) (by omega)
          have ct := hp.cell n (by omega)
          have ft := hp.frozen n
          clear cc
          generalize hx2 : ws.getD (n - 2) 0 = x2 at *
          generalize hx7 : ws.getD (n - 7) 0 = x7 at *
          generalize hx15 : ws.getD (n - 15) 0 = x15 at *
          generalize hx16 : ws.getD (n - 16) 0 = x16 at *
          have HX := Hid.mk (And.intro hx2 (And.intro hx7 (And.intro hx15 (And.intro hx16 (And.intro hlen (And.intro hsucc (And.intro hws (And.intro hr (And.intro hp hb)))))))))
          clear hx2 hx7 hx15 hx16 hlen hsucc hws hr hp hb hpl
          go_wp2_with fail
          go_quiet (fail)
          go_wp2_with (go_at_call 90; refine (right_any _ _ (by decide) _).mono ?_; rintro e w' ⟨rfl, rfl⟩)
          go_region
          go_wp2_with fail
          go_roundw
          case rel =>
            obtain ⟨hx2, hx7, hx15, hx16, hlen, hsucc, hws, hr, hp, hb⟩ := HX.out
            have hnx : nextW ws = (x16 + s0 x15 + x7 + s1 x2) % 4294967296 := by rw [nextW, hlen, hx2, hx7, hx15, hx16]
            refine ⟨n + 1, by omega, by omega, by go_num, (hr.drewN _).other (by show w.heap.size + 1 ≠ w.heap.size; omega) _, ?_, (below_drewN hb).setCell (by show w.heap.size ≤ w.heap.size + 1; omega) _⟩
            rw [hsucc, ← pad_set ws _ (by omega), hlen, hnx]
            exact (hp.drewN _).stored n _
          case measure => simp [intOf]; omega
        · have hn2 : n = 64 := by omega
          rw [hn2] at hp
          clear hn2
          have hp : Row wr (w.heap.size + 1) 82 .u32 S := by
            have h := hp
            rw [show 64 - 16 = 48 from rfl, ← schedule_eq, pad_full _ (schedule_length _)] at h
            rw [← HS.out]
            exact h
          have hsl : S.length = 64 := by rw [← HS.out, schedule_length]
          clear HS
          go_wp2_with (first | (refine wpList_loadRow rfl 82 _ rfl _ rfl hp Tryd.underlying82 (by rw [hsl]; exact info82) ?_) | (refine wpList_storeRow rfl 82 _ _ rfl _ rfl rfl hr (by rw [hsl]; exact info82) (by rw [hsl]; rfl) rfl ?_))
          have hrw := hr.whole S
          refine bodyPost_ret (v := .agg (cellsOf .u32 S)) (Row.result (p := 2) (ty := 82) Tryd.results76 hrw ?_ Tryd.underlying82 (by rw [hsl]; exact info82)) ?_ ?_
          · simp [Act.put]
          · simp [Act.put]
          · exact ⟨rfl, below_setRow hb (Nat.le_refl _) _⟩
end Go.Proofs.YtdolilgkjknckaaDoor.Sh
