/-
  strings.Repeat of at least two copies of a text that is not empty is just so many copies: the library's contract, laid at this program (laid by the shelf's tool in plain words). No condition beyond its own. Texts with noughts behind them: the walks of Repeat (of noughts), padded, zeros, fields, few. No condition. A tag and a length as bytes: the walk of fields. No condition. What a page would say: the walks of erased and said. No condition. What a page would say: the walk of said. No condition. The arithmetic of the check: a nibble's step by the table is four steps of one bit; the steps are linear and one to one; turned round they are the steps of the dividing way. No condition. What the calls of package crc, and of the answer that the document gives, do to the world: they hand back the check of 'Crc' and leave the world as it was. Condition: the table's sixteen cells hold what the text lays. Pages framed: the walks of both sides' Frame. Condition of the program's: the table's cells hold what the text lays. Pages that may not be framed; the answer's Frame. No condition. What a page is: the walk of the program's Look. Condition: the table's cells hold what the text lays. Valid pages: what was framed is read again; both sides' Look in three ways. Condition of the program's: the table's cells hold what the text lays.
-/
import Derived.Shelf.Strings.Repeat
import Derived.Test.YtcmmhfjnhlaepabGreatDoorRShelf
import Derived.Test.YtcmmhfjnhlaepabGreatDoorProg
import Derived.Test.YtcmmhfjnhlaepabGreatDoorRK1
import Derived.Lib.LazyBuf
import Derived.Lib.SmallJoins
import Derived.Laws.ResultCell
import Derived.Laws.NewBlocks
import Derived.Laws.BitsAllLaws
import Derived.Test.YtcmmhfjnhlaepabGreatDoorRows
import Derived.WalkKit
import Derived.WalkSpells
import Derived.WalkLawsBesides
namespace Go.Proofs.YtcmmhfjnhlaepabGreatDoor.Pg
open Go Go.RowKit
def zs (n : Nat) : ByteArray := ⟨(List.replicate n 0).toArray⟩
theorem zs_size (n : Nat) : (zs n).size = n := by
 show (List.replicate n (0 : UInt8)).toArray.size = n
 simp
set_option maxRecDepth 100000 in
theorem repeat_zs (c : Nat) (hc : c <= 65535) (w : World) : Calls Tryz.prog 179 #[.string ⟨#[0]⟩, .int .i64 c] w fun e w' => e = .returned (.string (zs c)) /\ Below w.heap.size w w' := by
 by_cases h2 : 2 <= c
 ·have hr := repeat_main ⟨#[0]⟩ c w h2 (by omega) (by show 1 * c <= _; omega) (by show 0 < 1; decide)
  have e1 : (⟨(Lib.repeatL (⟨#[0]⟩ : ByteArray).data.toList c).toArray⟩ : ByteArray) = zs c := by
   unfold zs
   show (⟨(Lib.repeatL (List.replicate 1 0) c).toArray⟩ : ByteArray) = _
   rw [Lib.repeatL_replicate, Nat.mul_one]
  rw [e1] at hr
  exact hr
 ·by_cases h1 : c = 1
  ·subst h1
   go_enter Tryz.func179, Tryz.ntmps179
   go_wp2_with fail
   go_ret
   exact ⟨rfl, Below.refl _ _⟩
  ·have h0 : c = 0 := by omega
   subst h0
   go_enter Tryz.func179, Tryz.ntmps179
   go_wp2_with fail
   go_ret
   exact ⟨rfl, Below.refl _ _⟩
def padB (s : ByteArray) (n : Nat) : ByteArray := s ++ zs (n - s.size)
theorem padB_size (s : ByteArray) (n : Nat) (h : s.size <= n) : (padB s n).size = n := by
 unfold padB
 rw [ByteArray.size_append, zs_size]
 omega
theorem padded_any (s : ByteArray) (n : Nat) (h : s.size <= n) (hn : n <= 65535) (w : World) : Calls Tryz.prog 182 #[.string s, .int .i64 n] w fun e w' => e = .returned (.string (padB s n)) /\ Below w.heap.size w w' := by
 have hr := fun w => repeat_zs (n - s.size) (by omega) w
 have hz := zs_size (n - s.size)
 unfold padB
 generalize zs (n - s.size) = Z at *
 have e1 : ((n - s.size : Nat) : Int) = (n : Int) - (s.size : Int) := by omega
 rw [e1] at hr
 have hz2 : Z.size <= 65535 := by omega
 clear hz e1
 go_enter Tryz.func182, Tryz.ntmps182
 go_wp2_with (first | (go_at_call 179; refine (hr _).mono ?_; rintro e w' ⟨rfl, b1⟩))
 go_ret
 exact ⟨rfl, b1⟩
def fx (n k : Nat) : ByteArray := ⟨(fixL n k).toArray⟩
theorem fx_size (n k : Nat) : (fx n k).size = k := by
 show (fixL n k).toArray.size = k
 rw [List.size_toArray, fixL_length]
def fieldsB (K S I O W L : Nat) : ByteArray := fx K 1 ++ fx S 8 ++ fx I 2 ++ fx O 2 ++ fx W 4 ++ fx L 2
theorem fieldsB_size (K S I O W L : Nat) : (fieldsB K S I O W L).size = 19 := by
 unfold fieldsB
 simp only [ByteArray.size_append, fx_size]
def cut (s : ByteArray) : ByteArray := if s.size <= 300 then s else s.extract 0 300
def TgS (w : World) (g : Nat) (w' : World) : Prop := g < w'.heap.size /\ Below w.heap.size w w'
def Tg5 (w' : World) (g : Nat) (K S I O W : Int) : Prop := w'.cell? ⟨g, 0, none⟩ = some (.int .i64 K) /\ w'.cell? ⟨g, 1, none⟩ = some (.int .u64 S) /\ w'.cell? ⟨g, 2, none⟩ = some (.int .i64 I) /\ w'.cell? ⟨g, 3, none⟩ = some (.int .i64 O) /\ w'.cell? ⟨g, 4, none⟩ = some (.int .i64 W)
theorem tg_keep {w : World} {g : Nat} {K S I O W : Int} {wx w2 : World}
  (h : wx.cell? ⟨g, 0, none⟩ = some (.int .i64 K) /\ wx.cell? ⟨g, 1, none⟩ = some (.int .u64 S) /\ wx.cell? ⟨g, 2, none⟩ = some (.int .i64 I) /\ wx.cell? ⟨g, 3, none⟩ = some (.int .i64 O) /\ wx.cell? ⟨g, 4, none⟩ = some (.int .i64 W) /\ TgS w g wx)
  (b : Below wx.heap.size wx w2) :
  w2.cell? ⟨g, 0, none⟩ = some (.int .i64 K) /\ w2.cell? ⟨g, 1, none⟩ = some (.int .u64 S) /\ w2.cell? ⟨g, 2, none⟩ = some (.int .i64 I) /\ w2.cell? ⟨g, 3, none⟩ = some (.int .i64 O) /\ w2.cell? ⟨g, 4, none⟩ = some (.int .i64 W) /\ TgS w g w2 := by
 obtain ⟨h0, h1, h2, h3, h4, hl, hb⟩ := h
 refine ⟨(b.cell (p := ⟨g, 0, none⟩) hl).trans h0, (b.cell (p := ⟨g, 1, none⟩) hl).trans h1, (b.cell (p := ⟨g, 2, none⟩) hl).trans h2, (b.cell (p := ⟨g, 3, none⟩) hl).trans h3, (b.cell (p := ⟨g, 4, none⟩) hl).trans h4, Nat.lt_of_lt_of_le hl b.size, below3 hb b⟩
theorem tg_fresh (w : World) (K S I O W : Int) :
  Tg5 (w.alloc (.cells #[.int .i64 K, .int .u64 S, .int .i64 I, .int .i64 O, .int .i64 W] 97)) w.heap.size K S I O W /\ TgS w w.heap.size (w.alloc (.cells #[.int .i64 K, .int .u64 S, .int .i64 I, .int .i64 O, .int .i64 W] 97)) := by
 have h := heap_alloc_new w (.cells #[.int .i64 K, .int .u64 S, .int .i64 I, .int .i64 O, .int .i64 W] 97)
 refine ⟨⟨?_, ?_, ?_, ?_, ?_⟩, by rw [size_alloc]; omega, below_one w _⟩
 all_goals (rw [cell_of_row _ _ _ _ 97 _ h]; rfl)
def fxW (n : Nat) (b : Int) : ByteArray := ⟨(fixL n (wid b).toNat).toArray⟩
theorem fw1 (n : Nat) : fxW n 1 = fx n 1 := rfl
theorem fw2 (n : Nat) : fxW n 2 = fx n 2 := rfl
theorem fw4 (n : Nat) : fxW n 4 = fx n 4 := rfl
theorem fw8 (n : Nat) : fxW n 8 = fx n 8 := rfl
theorem enc_w (n : Nat) (b : Int) (w : World) : Calls Tryz.prog 186 #[.int .u64 n, .int .i64 b] w fun e w' => e = .returned (.string (fxW n b)) /\ Below w.heap.size w w' := encFixed_any n b w
theorem wrap_nat (n : Nat) (h : n < 9223372036854775808) : IntKind.u64.wrap (n : Int) = (n : Int) := by rw [IntKind.wrap_u64]; omega
set_option maxHeartbeats 4000000 in
theorem fields_any (K S I O W L : Nat) (hK : K < 9223372036854775808) (hI : I < 9223372036854775808) (hO : O < 9223372036854775808) (hW : W < 9223372036854775808) (hL : L < 9223372036854775808) (w : World) :
  Calls Tryz.prog 183 #[tagV K S I O W, .int .i64 L] w fun e w' => e = .returned (.string (fieldsB K S I O W L)) /\ Below w.heap.size w w' := by
 have e1 := wrap_nat K hK
 have e2 := wrap_nat I hI
 have e3 := wrap_nat O hO
 have e4 := wrap_nat W hW
 have e5 := wrap_nat L hL
 have z1 := fx_size K 1
 have z2 := fx_size S 8
 have z3 := fx_size I 2
 have z4 := fx_size O 2
 have z5 := fx_size W 4
 have z6 := fx_size L 2
 have z12 : (fx K 1 ++ fx S 8).size = 9 := by rw [ByteArray.size_append, z1, z2]
 have z13 : (fx K 1 ++ fx S 8 ++ fx I 2).size = 11 := by rw [ByteArray.size_append, z12, z3]
 have z14 : (fx K 1 ++ fx S 8 ++ fx I 2 ++ fx O 2).size = 13 := by rw [ByteArray.size_append, z13, z4]
 have z15 : (fx K 1 ++ fx S 8 ++ fx I 2 ++ fx O 2 ++ fx W 4).size = 17 := by rw [ByteArray.size_append, z14, z5]
 obtain ⟨t5, tS⟩ := tg_fresh w K S I O W
 unfold fieldsB tagV
 clear hK hI hO hW hL
 go_enter Tryz.func183, Tryz.ntmps183
 go_wp2_with fail
 generalize w.alloc (.cells #[.int .i64 K, .int .u64 S, .int .i64 I, .int .i64 O, .int .i64 W] 97) = W1 at *
 obtain ⟨c0, c1, c2, c3, c4⟩ := t5
 have hS : Hid (W1.drew.cell? ⟨w.heap.size, 0, none⟩ = some (.int .i64 K) /\ W1.drew.cell? ⟨w.heap.size, 1, none⟩ = some (.int .u64 S) /\ W1.drew.cell? ⟨w.heap.size, 2, none⟩ = some (.int .i64 I) /\ W1.drew.cell? ⟨w.heap.size, 3, none⟩ = some (.int .i64 O) /\ W1.drew.cell? ⟨w.heap.size, 4, none⟩ = some (.int .i64 W) /\ TgS w w.heap.size W1.drew) := ⟨c0, c1, c2, c3, c4, tS.1, tS.2.drew⟩
 clear tS
 go_region_held3 (fun w' => w'.cell? ⟨w.heap.size, 0, none⟩ = some (.int .i64 K) /\ w'.cell? ⟨w.heap.size, 1, none⟩ = some (.int .u64 S) /\ w'.cell? ⟨w.heap.size, 2, none⟩ = some (.int .i64 I) /\ w'.cell? ⟨w.heap.size, 3, none⟩ = some (.int .i64 O) /\ w'.cell? ⟨w.heap.size, 4, none⟩ = some (.int .i64 W) /\ TgS w w.heap.size w') (first | assumption | exact hS.out | exact tg_keep (by assumption) (by assumption) | fail)
  (first | (go_at_call 186; refine (enc_w _ _ _).mono ?_; rintro x w3 ⟨rfl, b3⟩; (first | rw [fw1] | rw [fw8] | rw [fw2] | rw [fw4])))
 have hb2 : TgS w w.heap.size w3 := (by assumption : _ /\ _ /\ _ /\ _ /\ _ /\ TgS w w.heap.size w3).2.2.2.2.2
 go_wp2_with fail
 go_ret
 exact ⟨rfl, hb2.2⟩
end Go.Proofs.YtcmmhfjnhlaepabGreatDoor.Pg
namespace Go.Proofs.YtcmmhfjnhlaepabGreatDoor.Pg
open Go Go.RowKit
def allF (s : ByteArray) : Bool := s.data.toList.all (fun b => b == 255)
theorem allF_true (s : ByteArray) (h : ∀ j, (hj : j < s.size) -> s[j] = 255) : allF s = true := by
 unfold allF
 rw [List.all_eq_true]
 intro b hb
 obtain ⟨j, hj, rfl⟩ := List.mem_iff_getElem.1 hb
 rw [Array.length_toList] at hj
 have h1 := h j hj
 have h2 : s.data.toList[j] = s[j] := by
  rw [Array.getElem_toList]
  rfl
 rw [h2, h1]
 rfl
theorem allF_false (s : ByteArray) (j : Nat) (hj : j < s.size) (h : s[j] ≠ 255) : allF s = false := by
 unfold allF
 rw [List.all_eq_false]
 refine ⟨s[j], ?_, by simpa using h⟩
 have h2 : s.data.toList[j]'(by rw [Array.length_toList]; exact hj) = s[j] := by
  rw [Array.getElem_toList]
  rfl
 rw [<- h2]
 exact List.getElem_mem _
theorem erased_any (s : ByteArray) (hs : s.size <= 1000000) (w : World) : Calls Tryz.prog 140 #[.string s] w fun e w' => e = .returned (.bool (allF s)) /\ w' = w := by
 generalize hA : allF s = A
 have HA := Hid.mk hA
 clear hA
 go_enter Tryz.func140, Tryz.ntmps140
 go_wp2_with fail
 go_loop [6] (fun i => ∃ k : Nat, k <= s.size /\ i = .int .i64 k /\ Hid (∀ j, j < k -> (hj : j < s.size) -> s[j] = 255)) (fun i => s.size - (intOf i).toNat)
 case atStart => exact ⟨0, Nat.zero_le _, rfl, Hid.mk (fun j h => absurd h (Nat.not_lt_zero _))⟩
 case round =>
  obtain ⟨k, hk, rfl, hall⟩ := hrel
  by_cases hks : k < s.size
  ·by_cases hb : s[k] = 255
   ·have hb2 : ((s[k].toNat : Int)) = 255 := by rw [hb]; rfl
    have HB := Hid.mk hb
    clear hb
    go_wp2_with fail
    refine ⟨⟨k + 1, by omega, by go_num, Hid.mk ?_⟩, by simp [intOf]; omega⟩
    intro j hj hjs
    by_cases e : j = k
    ·subst e
     exact HB.out
    ·exact hall.out j (by omega) hjs
   ·have hb2 : ¬ ((s[k].toNat : Int)) = 255 := by
     intro e
     apply hb
     apply UInt8.toNat_inj.1
     show s[k].toNat = 255
     omega
    have hf := allF_false s k hks hb
    rw [HA.out] at hf
    subst hf
    clear hb
    go_wp2_with fail
    go_ret
    exact ⟨rfl, rfl⟩
  ·have ht := allF_true s (fun j hj => hall.out j (by omega) hj)
   rw [HA.out] at ht
   subst ht
   go_wp2_with fail
   go_ret
   exact ⟨rfl, rfl⟩
def TB (w : World) (g : Nat) (K S I O W : Int) : Prop := w.heap[g]? = some (.cells #[.int .i64 K, .int .u64 S, .int .i64 I, .int .i64 O, .int .i64 W] 97 (0, 0))
theorem TB.lt {w : World} {g : Nat} {K S I O W : Int} (h : TB w g K S I O W) : g < w.heap.size := (Array.getElem?_eq_some_iff.1 h).1
theorem TB.five {w : World} {g : Nat} {K S I O W : Int} (h : TB w g K S I O W) : Tg5 w g K S I O W := by
 refine ⟨?_, ?_, ?_, ?_, ?_⟩
 all_goals (rw [cell_of_row w g _ _ 97 _ h]; rfl)
theorem TB.frozen {w : World} {g : Nat} {K S I O W : Int} (h : TB w g K S I O W) (j : Nat) : w.frozen? ⟨g, j, none⟩ = false := frozen_of_row w g j _ 97 h
theorem TB.call {w w' : World} {g : Nat} {K S I O W : Int} (h : TB w g K S I O W) (b : Below w.heap.size w w') : TB w' g K S I O W := (b.block g h.lt).trans h
theorem TB.drew {w : World} {g : Nat} {K S I O W : Int} (h : TB w g K S I O W) : TB w.drew g K S I O W := h
theorem TB.alloc {w : World} {g : Nat} {K S I O W : Int} (h : TB w g K S I O W) (o : Obj) : TB (w.alloc o) g K S I O W := (Below.heap_alloc w o g h.lt).trans h
theorem TB.kept {w w' : World} {g g0 : Nat} {K S I O W : Int} (h : TB w g K S I O W) (b : w.grownBy w' (some g0)) (hne : g ≠ g0) : TB w' g K S I O W := (b.block g h.lt (by simpa using hne)).trans h
theorem TB.fresh (w : World) (K S I O W : Int) : TB (w.alloc (.cells #[.int .i64 K, .int .u64 S, .int .i64 I, .int .i64 O, .int .i64 W] 97)) w.heap.size K S I O W := heap_alloc_new w _
theorem TB.other {w : World} {g : Nat} {K S I O W : Int} (h : TB w g K S I O W) {a : Addr} (ha : a.block ≠ g) (v : Value) : TB (w.setCell a v) g K S I O W := (heap_setCell_other w a g v (fun e => ha e.symm)).trans h
theorem TB.set0 {w : World} {g : Nat} {K S I O W : Int} (h : TB w g K S I O W) (x : Int) : TB (w.setCell ⟨g, 0, none⟩ (.int .i64 x)) g x S I O W := heap_setCell_same w g 0 _ 97 _ h
theorem TB.set1 {w : World} {g : Nat} {K S I O W : Int} (h : TB w g K S I O W) (x : Int) : TB (w.setCell ⟨g, 1, none⟩ (.int .u64 x)) g K x I O W := heap_setCell_same w g 1 _ 97 _ h
theorem TB.set2 {w : World} {g : Nat} {K S I O W : Int} (h : TB w g K S I O W) (x : Int) : TB (w.setCell ⟨g, 2, none⟩ (.int .i64 x)) g K S x O W := heap_setCell_same w g 2 _ 97 _ h
theorem TB.set3 {w : World} {g : Nat} {K S I O W : Int} (h : TB w g K S I O W) (x : Int) : TB (w.setCell ⟨g, 3, none⟩ (.int .i64 x)) g K S I x W := heap_setCell_same w g 3 _ 97 _ h
theorem TB.set4 {w : World} {g : Nat} {K S I O W : Int} (h : TB w g K S I O W) (x : Int) : TB (w.setCell ⟨g, 4, none⟩ (.int .i64 x)) g K S I O x := heap_setCell_same w g 4 _ 97 _ h
theorem tb_load {w : World} {g : Nat} {K S I O W : Int} (h : TB w g K S I O W) : (loadVar 97 ⟨g, 0, none⟩).run Tryz.prog w = .ok (tagV K S I O W) w := by
 obtain ⟨c0, c1, c2, c3, c4⟩ := h.five
 clear h
 unfold tagV
 go_simp
theorem tb_result {fn : Func} {p u : Tmp} (h : fn.results = #[.cell p 97, .tmp u]) {tmps : Array Value} {w : World} {g : Nat} {K S I O W : Int} (hp : tmps.getD p undef = .pointer (some ⟨g, 0, none⟩)) (ha : TB w g K S I O W) :
  (results fn tmps).run Tryz.prog w = .ok (.tuple #[tagV K S I O W, tmps.getD u undef]) w := by
 rw [results_cell_tmp h, hp]
 simp only [asAddr, Sem.run_pure, Result.andThen, tb_load ha]
theorem tb_whole {B g : Nat} {w wx : World} {K0 S0 I0 O0 W0 : Int} (h : TB wx g K0 S0 I0 O0 W0) (b : Below B w wx) (hg : B <= g) (K S I O W : Int) :
  TB (((((wx.setCell ⟨g, 0, none⟩ (.int .i64 K)).setCell ⟨g, 1, none⟩ (.int .u64 S)).setCell ⟨g, 2, none⟩ (.int .i64 I)).setCell ⟨g, 3, none⟩ (.int .i64 O)).setCell ⟨g, 4, none⟩ (.int .i64 W)) g K S I O W ∧
  Below B w (((((wx.setCell ⟨g, 0, none⟩ (.int .i64 K)).setCell ⟨g, 1, none⟩ (.int .u64 S)).setCell ⟨g, 2, none⟩ (.int .i64 I)).setCell ⟨g, 3, none⟩ (.int .i64 O)).setCell ⟨g, 4, none⟩ (.int .i64 W)) :=
 ⟨((((h.set0 K).set1 S).set2 I).set3 O).set4 W, ((((b.setCell hg _).setCell hg _).setCell hg _).setCell hg _).setCell hg _⟩
def Sd (w : World) (g0 g1 g2 : Nat) (s : ByteArray) (e : Int) (K S I O W : Int) (wx : World) : Prop :=
 Rd wx g1 s e /\ TB wx g2 K S I O W /\ TB wx g0 0 0 0 0 0 /\ Below w.heap.size w wx /\ (w.heap.size <= g0 /\ w.heap.size <= g1 /\ w.heap.size <= g2 /\ g0 ≠ g1 /\ g0 ≠ g2 /\ g1 ≠ g2)
theorem Sd.fixed {w : World} {g0 g1 g2 : Nat} {s s' : ByteArray} {e e' : Int} {K S I O W : Int} {wx w' : World} (h : Sd w g0 g1 g2 s e K S I O W wx) (r : Rd w' g1 s' e') (b : wx.grownBy w' (some g1)) : Sd w g0 g1 g2 s' e' K S I O W w' :=
 ⟨r, h.2.1.kept b (fun e => h.2.2.2.2.2.2.2.2.2 e.symm), h.2.2.1.kept b h.2.2.2.2.2.2.2.1, below_grown h.2.2.2.1 b h.2.2.2.1.size h.2.2.2.2.2.1, h.2.2.2.2⟩
theorem Rd.other {w : World} {g : Nat} {s : ByteArray} {e : Int} (h : Rd w g s e) {a : Addr} (ha : a.block ≠ g) (v : Value) : Rd (w.setCell a v) g s e := (heap_setCell_other w a g v (fun e => ha e.symm)).trans h
theorem Sd.set {w : World} {g0 g1 g2 : Nat} {s : ByteArray} {e : Int} {K S I O W K' S' I' O' W' : Int} {wx : World} (h : Sd w g0 g1 g2 s e K S I O W wx) (j : Nat) (v : Value) (ht : TB (wx.setCell ⟨g2, j, none⟩ v) g2 K' S' I' O' W') : Sd w g0 g1 g2 s e K' S' I' O' W' (wx.setCell ⟨g2, j, none⟩ v) :=
 ⟨h.1.other (fun e => h.2.2.2.2.2.2.2.2.2 e.symm) v, ht, h.2.2.1.other (fun e => h.2.2.2.2.2.2.2.2.1 e.symm) v, h.2.2.2.1.setCell h.2.2.2.2.2.2.1 v, h.2.2.2.2⟩
theorem rF_bound (s : ByteArray) (e n : Int) : (rF s e n).2.2 < 256 ^ (wid n).toNat := by
 refine Nat.lt_of_lt_of_le (leL_lt _) (Nat.pow_le_pow_right (by omega) ?_)
 rw [Array.length_toList]
 show (rB s e (wid n)).2.2.size <= _
 unfold rB
 split
 ·exact Nat.zero_le _
 ·split
  ·exact Nat.zero_le _
  ·rw [ByteArray.size_extract]
   omega
structure Six (s : ByteArray) (K S I O W L : Nat) : Prop where
 out : ∃ s1 e1 s2 e2 s3 e3 s4 e4 s5 e5 s6 e6, rF s 0 1 = (s1, e1, K) /\ rF s1 e1 8 = (s2, e2, S) /\ rF s2 e2 2 = (s3, e3, I) /\ rF s3 e3 2 = (s4, e4, O) /\ rF s4 e4 4 = (s5, e5, W) /\ rF s5 e5 2 = (s6, e6, L)
theorem Six.bounds {s : ByteArray} {K S I O W L : Nat} (h : Six s K S I O W L) : K < 256 /\ S < 18446744073709551616 /\ I < 65536 /\ O < 65536 /\ W < 4294967296 /\ L < 65536 := by
 obtain ⟨s1, e1, s2, e2, s3, e3, s4, e4, s5, e5, s6, e6, q1, q2, q3, q4, q5, q6⟩ := h.out
 have b1 := rF_bound s 0 1
 have b2 := rF_bound s1 e1 8
 have b3 := rF_bound s2 e2 2
 have b4 := rF_bound s3 e3 2
 have b5 := rF_bound s4 e4 4
 have b6 := rF_bound s5 e5 2
 rw [q1] at b1
 rw [q2] at b2
 rw [q3] at b3
 rw [q4] at b4
 rw [q5] at b5
 rw [q6] at b6
 exact ⟨b1, b2, b3, b4, b5, b6⟩
theorem wrap_i64 (n : Nat) (h : n < 9223372036854775808) : IntKind.i64.wrap (n : Int) = (n : Int) := by simp [IntKind.wrap, IntKind.bits, IntKind.signed]; omega
theorem sd_start (w : World) (s : ByteArray) {w1 : World} (r : Rd w1 (w.alloc (.cells #[.int .i64 0, .int .u64 0, .int .i64 0, .int .i64 0, .int .i64 0] 97)).heap.size s 0)
  (b : Below (w.alloc (.cells #[.int .i64 0, .int .u64 0, .int .i64 0, .int .i64 0, .int .i64 0] 97)).heap.size (w.alloc (.cells #[.int .i64 0, .int .u64 0, .int .i64 0, .int .i64 0, .int .i64 0] 97)) w1) :
  Sd w w.heap.size (w.heap.size + 1) w1.heap.size s 0 0 0 0 0 0 (w1.alloc (.cells #[.int .i64 0, .int .u64 0, .int .i64 0, .int .i64 0, .int .i64 0] 97)) := by
 rw [size_alloc] at r
 have hl := r.lt
 have h0 := ((TB.fresh w 0 0 0 0 0).call b).alloc (.cells #[.int .i64 0, .int .u64 0, .int .i64 0, .int .i64 0, .int .i64 0] 97)
 have hb := below3 (below_one w _) b
 exact ⟨r.alloc _, TB.fresh w1 0 0 0 0 0, h0, hb.alloc hb.size _, Nat.le_refl _, by omega, hb.size, by omega, by omega, by omega⟩
set_option maxHeartbeats 4000000 in
theorem said_any (d s : ByteArray) (hd : d.size <= 1000000) {K S I O W L : Nat} (h : Six s K S I O W L) (w : World) :
  Calls Tryz.prog 141 #[.string d, .string s] w fun e w' => e = .returned (.tuple #[tagV K S I O W, .string (d.extract 0 (min L d.size))]) /\ Below w.heap.size w w' := by
 obtain ⟨b1, b2, b3, b4, b5, b6⟩ := h.bounds
 obtain ⟨s1, e1, s2, e2, s3, e3, s4, e4, s5, e5, s6, e6, q1, q2, q3, q4, q5, q6⟩ := h.out
 clear h
 have x1 := wrap_i64 K (by omega)
 have x3 := wrap_i64 I (by omega)
 have x4 := wrap_i64 O (by omega)
 have x5 := wrap_i64 W (by omega)
 have x6 := wrap_i64 L (by omega)
 generalize hM : d.extract 0 (min L d.size) = M
 have HM := Hid.mk hM
 clear hM
 go_enter Tryz.func141, Tryz.ntmps141
 go_upto_region 3 with (first | (go_at_call 172; refine (new_any _ _).mono ?_; rintro e w1 ⟨rfl, r1, c1⟩; have HQ := Hid.mk (sd_start w s r1 c1); clear r1 c1))
 generalize (w1.alloc (.cells #[.int .i64 0, .int .u64 0, .int .i64 0, .int .i64 0, .int .i64 0] 97)) = W0 at *
 generalize w1.heap.size = G at *
 go_upto_region 4 with (first | (go_at_call 180; refine (fixedF_any HQ.out.1 _).mono ?_; rintro x W1 ⟨rfl, r, gr⟩; rw [q1] at r |-; replace HQ := Hid.mk (HQ.out.fixed r gr); clear r gr; obtain ⟨c0, c1, c2, c3, c4⟩ := HQ.out.2.1.five; have f0 := HQ.out.2.1.frozen 0))
 replace HQ := Hid.mk (HQ.out.set 0 _ (HQ.out.2.1.set0 K))
 clear c0 c1 c2 c3 c4 f0
 generalize (W1.setCell ⟨G, 0, none⟩ (.int .i64 K)) = V1 at *
 go_upto_region 5 with (first | (go_at_call 180; refine (fixedF_any HQ.out.1 _).mono ?_; rintro x W2 ⟨rfl, r, gr⟩; rw [q2] at r |-; replace HQ := Hid.mk (HQ.out.fixed r gr); clear r gr; obtain ⟨c0, c1, c2, c3, c4⟩ := HQ.out.2.1.five; have f0 := HQ.out.2.1.frozen 1))
 replace HQ := Hid.mk (HQ.out.set 1 _ (HQ.out.2.1.set1 S))
 clear c0 c1 c2 c3 c4 f0
 generalize (W2.setCell ⟨G, 1, none⟩ (.int .u64 S)) = V2 at *
 go_upto_region 6 with (first | (go_at_call 180; refine (fixedF_any HQ.out.1 _).mono ?_; rintro x W3 ⟨rfl, r, gr⟩; rw [q3] at r |-; replace HQ := Hid.mk (HQ.out.fixed r gr); clear r gr; obtain ⟨c0, c1, c2, c3, c4⟩ := HQ.out.2.1.five; have f0 := HQ.out.2.1.frozen 2))
 replace HQ := Hid.mk (HQ.out.set 2 _ (HQ.out.2.1.set2 I))
 clear c0 c1 c2 c3 c4 f0
 generalize (W3.setCell ⟨G, 2, none⟩ (.int .i64 I)) = V3 at *
 go_upto_region 7 with (first | (go_at_call 180; refine (fixedF_any HQ.out.1 _).mono ?_; rintro x W4 ⟨rfl, r, gr⟩; rw [q4] at r |-; replace HQ := Hid.mk (HQ.out.fixed r gr); clear r gr; obtain ⟨c0, c1, c2, c3, c4⟩ := HQ.out.2.1.five; have f0 := HQ.out.2.1.frozen 3))
 replace HQ := Hid.mk (HQ.out.set 3 _ (HQ.out.2.1.set3 O))
 clear c0 c1 c2 c3 c4 f0
 generalize (W4.setCell ⟨G, 3, none⟩ (.int .i64 O)) = V4 at *
 go_upto_region 8 with (first | (go_at_call 180; refine (fixedF_any HQ.out.1 _).mono ?_; rintro x W5 ⟨rfl, r, gr⟩; rw [q5] at r |-; replace HQ := Hid.mk (HQ.out.fixed r gr); clear r gr; obtain ⟨c0, c1, c2, c3, c4⟩ := HQ.out.2.1.five; have f0 := HQ.out.2.1.frozen 4))
 replace HQ := Hid.mk (HQ.out.set 4 _ (HQ.out.2.1.set4 W))
 clear c0 c1 c2 c3 c4 f0
 generalize (W5.setCell ⟨G, 4, none⟩ (.int .i64 W)) = V5 at *
 go_upto_region 9 with (first | (go_at_call 180; refine (fixedF_any HQ.out.1 _).mono ?_; rintro x W6 ⟨rfl, r, gr⟩; rw [q6] at r |-; replace HQ := Hid.mk (HQ.out.fixed r gr); clear r gr))
 obtain ⟨c0, c1, c2, c3, c4⟩ := HQ.out.2.1.five
 obtain ⟨d0, d1, d2, d3, d4⟩ := HQ.out.2.2.1.five
 have f0 := HQ.out.2.2.1.frozen 0
 have f1 := HQ.out.2.2.1.frozen 1
 have f2 := HQ.out.2.2.1.frozen 2
 have f3 := HQ.out.2.2.1.frozen 3
 have f4 := HQ.out.2.2.1.frozen 4
 clear q1 q2 q3 q4 q5 q6 x1 x3 x4 x5 x6
 have eM : (min (L : Int) (d.size : Int)).toNat = min L d.size := by omega
 have hM := HM.out
 clear HM
 go_region
 have hr := tb_whole HQ.out.2.2.1 HQ.out.2.2.2.1 (Nat.le_refl _) K S I O W
 have HR := Hid.mk (And.intro hr.1.drew hr.2.drew)
 clear hr c0 c1 c2 c3 c4 d0 d1 d2 d3 d4 f0 f1 f2 f3 f4 HQ eM
 generalize (((((W6.setCell ⟨w.heap.size, 0, none⟩ (.int .i64 K)).setCell ⟨w.heap.size, 1, none⟩ (.int .u64 S)).setCell ⟨w.heap.size, 2, none⟩ (.int .i64 I)).setCell ⟨w.heap.size, 3, none⟩ (.int .i64 O)).setCell ⟨w.heap.size, 4, none⟩ (.int .i64 W)).drew = V at *
 go_wp2_with fail
 exact bodyPost_ret (tb_result rfl rfl HR.out.1) rfl ⟨rfl, HR.out.2⟩
end Go.Proofs.YtcmmhfjnhlaepabGreatDoor.Pg
namespace Go.Proofs.YtcmmhfjnhlaepabGreatDoor.Pg
namespace Crc
abbrev W := BitVec 32
def tabB (i : Nat) : W :=
 ([0x00000000#32, 0x105ec76f#32, 0x20bd8ede#32, 0x30e349b1#32, 0x417b1dbc#32, 0x5125dad3#32, 0x61c69362#32, 0x7198540d#32,
  0x82f63b78#32, 0x92a8fc17#32, 0xa24bb5a6#32, 0xb21572c9#32, 0xc38d26c4#32, 0xd3d3e1ab#32, 0xe330a81a#32, 0xf36e6f75#32] : List W).getD i 0#32
def nib (r : W) : W := (r >>> 4) ^^^ tabB (r &&& 15#32).toNat
def byteStep (r : W) (b : UInt8) : W := nib (nib (r ^^^ BitVec.ofNat 32 b.toNat))
def run (r : W) (l : List UInt8) : W := l.foldl byteStep r
def more (a : W) (l : List UInt8) : W := ~~~ (run (~~~ a) l)
theorem run_append (r : W) (a b : List UInt8) : run r (a ++ b) = run (run r a) b := by simp [run, List.foldl_append]
theorem more_more (a : W) (x y : List UInt8) : more (more a x) y = more a (x ++ y) := by
 simp [more, run_append]
/-! ### linear -/
theorem low_lt (r : W) : (r &&& 15#32).toNat < 16 := by
 rw [BitVec.toNat_and]
 have : r.toNat &&& (15#32).toNat <= (15#32).toNat := Nat.and_le_right
 have e : (15#32).toNat = 15 := rfl
 omega
/-! ### one to one -/
/-! ### turned round -/
/-! ### four bytes that follow one another -/
/-! ### linear over texts -/
end Crc
end Go.Proofs.YtcmmhfjnhlaepabGreatDoor.Pg
namespace Go.Proofs.YtcmmhfjnhlaepabGreatDoor.Pg
open Go.RowKit
open Crc
def tab : List Int := [0, 274646895, 549293790, 820201905, 1098587580, 1361435347, 1640403810, 1905808397, 2197175160, 2460548119, 2722870694, 2987750089, 3280807620, 3553878443, 3811616794, 4084100981]
theorem tab_is (i : Nat) : tab[i]?.getD 0 = ((tabB i).toNat : Int) := by
 by_cases h : i < 16
 ·have : ∀ i : Fin 16, tab[i.val]?.getD 0 = ((tabB i.val).toNat : Int) := by decide
  exact this ⟨i, h⟩
 ·have h1 : tab[i]? = none := List.getElem?_eq_none (by simp [tab]; omega)
  have h2 : tabB i = 0#32 := by
   unfold tabB
   rw [List.getD_eq_getElem?_getD, List.getElem?_eq_none (by simp; omega)]
   rfl
  rw [h1, h2]
  rfl
theorem bxor (x y : W) : bits .xor .u32 (x.toNat : Int) (y.toNat : Int) = ((x ^^^ y).toNat : Int) := by
 rw [u32_xor_nat _ _ x.isLt y.isLt, BitVec.toNat_xor]
theorem band15 (x : W) : bits .and .u32 (x.toNat : Int) 15 = ((x &&& 15#32).toNat : Int) := by
 have := u32_and_nat x.toNat 15 x.isLt (by omega)
 rw [BitVec.toNat_and]
 exact this
theorem band15_lt (x : Int) : 0 <= bits .and .u32 x 15 /\ bits .and .u32 x 15 < 16 := by
 have e : bits .and .u32 x 15 = IntKind.u32.wrap ((BitVec.ofInt 32 x &&& BitVec.ofInt 32 15).toNat : Int) := rfl
 have h : (BitVec.ofInt 32 x &&& 15#32).toNat < 16 := low_lt _
 have e15 : BitVec.ofInt 32 15 = 15#32 := by decide
 rw [e, e15, IntKind.wrap_u32']
 omega
theorem nib_is (x : W) : bits .xor .u32 ((x.toNat : Int) / 16) (tab[(bits .and .u32 (x.toNat : Int) 15).toNat]?.getD 0) = ((nib x).toNat : Int) := by
 rw [band15, tab_is]
 have e : (x.toNat : Int) / (16 : Int) = ((x >>> 4).toNat : Int) := by
  rw [BitVec.toNat_ushiftRight, Nat.shiftRight_eq_div_pow]
  omega
 rw [e, bxor]
 rfl
theorem byte_is (x : W) (b : UInt8) : bits .xor .u32 (x.toNat : Int) ((b.toNat : Int) % 4294967296) = ((x ^^^ BitVec.ofNat 32 b.toNat).toNat : Int) := by
 have e : ((b.toNat : Int) % 4294967296) = ((BitVec.ofNat 32 b.toNat).toNat : Int) := by
  rw [BitVec.toNat_ofNat]
  omega
 rw [e, bxor]
theorem not_is (x : W) : bits .xor .u32 IntKind.u32.max (x.toNat : Int) = ((~~~ x).toNat : Int) := by
 have e : IntKind.u32.max = ((0xffffffff#32).toNat : Int) := by decide
 rw [e, bxor]
 have : (0xffffffff#32) = BitVec.allOnes 32 := by decide
 rw [this, BitVec.allOnes_xor]
theorem not_any (x : Int) : bits .xor .u32 IntKind.u32.max x = ((~~~ (BitVec.ofInt 32 x)).toNat : Int) := by
 have e : bits .xor .u32 IntKind.u32.max x = IntKind.u32.wrap ((BitVec.ofInt 32 IntKind.u32.max ^^^ BitVec.ofInt 32 x).toNat : Int) := rfl
 have e1 : BitVec.ofInt 32 IntKind.u32.max = BitVec.allOnes 32 := by decide
 rw [e, e1, BitVec.allOnes_xor, IntKind.wrap_u32']
 have := (~~~ (BitVec.ofInt 32 x)).isLt
 omega
theorem take_next (s : ByteArray) (k : Nat) (hk : k < s.size) : s.data.toList.take (k + 1) = s.data.toList.take k ++ [s[k]] := by
 rw [List.take_add_one]
 have : s.data.toList[k]? = some s[k] := by
  rw [Array.getElem?_toList, Array.getElem?_eq_getElem hk]
  rfl
 rw [this]
 rfl
theorem take_all (s : ByteArray) : s.data.toList.take s.size = s.data.toList := by
 apply List.take_of_length_le
 exact Nat.le_of_eq (Array.length_toList)
def moreI (x : Int) (l : List UInt8) : Int := ((more (BitVec.ofInt 32 x) l).toNat : Int)
theorem ofInt_back (a : W) : BitVec.ofInt 32 (a.toNat : Int) = a := by
 rw [BitVec.ofInt_natCast, BitVec.ofNat_toNat, BitVec.setWidth_eq]
theorem moreI_moreI (x : Int) (a b : List UInt8) : moreI (moreI x a) b = moreI x (a ++ b) := by
 unfold moreI
 rw [ofInt_back, more_more]
set_option maxHeartbeats 400000 in
theorem more_any (x : Int) (s : ByteArray) (w : World) (hs : s.size <= maxLen)
  (ht : ∀ i : Nat, i < 16 -> w.cell? ⟨0, i, none⟩ = some (.int .u32 (tab.getD i 0))) :
  Calls Tryz.prog 184 #[.int .u32 x, .string s] w fun e w' => e = .returned (.int .u32 (moreI x s.data.toList)) /\ w' = w := by
 unfold maxLen at hs
 unfold moreI
 go_enter Tryz.func184, Tryz.ntmps184
 go_wp2
 rw [not_any]
 go_loop [5, 11] (fun r i => ∃ k : Nat, k <= s.size /\ i = .int .i64 k /\ r = .int .u32 (run (~~~ (BitVec.ofInt 32 x)) (s.data.toList.take k)).toNat)
   (fun _ i => s.size - (intOf i).toNat)
 case atStart => exact ⟨0, Nat.zero_le _, rfl, rfl⟩
 case round =>
  obtain ⟨k, hk, rfl, rfl⟩ := hrel
  have hb := band15_lt
  go_wp2
  ·have hlt : k < s.size := by assumption
   refine ⟨⟨k + 1, by omega, by go_num, ?_⟩, by simp [intOf]; omega⟩
   rw [byte_is, nib_is, nib_is, take_next s k hlt, run_append]
   rfl
  ·have he : k = s.size := by omega
   subst he
   go_ret
   rw [not_is, take_all]
   exact ⟨rfl, rfl⟩
set_option maxHeartbeats 400000 in
theorem sum_any (s : ByteArray) (w : World) (hs : s.size <= maxLen)
  (ht : ∀ i : Nat, i < 16 -> w.cell? ⟨0, i, none⟩ = some (.int .u32 (tab.getD i 0))) :
  Calls Tryz.prog 185 #[.string s] w fun e w' => e = .returned (.int .u32 (moreI 0 s.data.toList)) /\ w' = w := by
 go_enter Tryz.func185, Tryz.ntmps185
 go_wp2_with (go_at_call 184; refine (more_any _ _ _ hs ht).mono ?_; rintro e w' ⟨rfl, rfl⟩)
 go_ret
 exact ⟨rfl, rfl⟩
/- WHAT THE DOCUMENT's ANSWER DOES -/
end Go.Proofs.YtcmmhfjnhlaepabGreatDoor.Pg
namespace Go.Proofs.YtcmmhfjnhlaepabGreatDoor.Pg
open Go Go.RowKit
def Tab (w : World) : Prop := 0 < w.heap.size /\ ∀ i : Nat, i < 16 -> w.cell? ⟨0, i, none⟩ = some (.int .u32 (tab.getD i 0))
theorem Tab.call {w w' : World} (h : Tab w) (b : Below w.heap.size w w') : Tab w' := ⟨Nat.lt_of_lt_of_le h.1 b.size, fun i hi => (b.cell (p := ⟨0, i, none⟩) h.1).trans (h.2 i hi)⟩
theorem Tab.alloc {w : World} (h : Tab w) (o : Obj) : Tab (w.alloc o) := h.call (below_one w o)
theorem Tab.drew {w : World} (h : Tab w) : Tab w.drew := h
def crcN (l : List UInt8) : Nat := (Crc.more 0#32 l).toNat
theorem moreI_crcN (l : List UInt8) : moreI 0 l = (crcN l : Int) := by
 unfold moreI crcN
 rfl
theorem crcN_lt (l : List UInt8) : crcN l < 4294967296 := (Crc.more 0#32 l).isLt
def besideB (K S I O W L : Nat) : ByteArray := padB (fieldsB K S I O W L) 28
theorem besideB_size (K S I O W L : Nat) : (besideB K S I O W L).size = 28 := padB_size _ _ (by rw [fieldsB_size]; omega)
def spareB (K S I O W : Nat) (s : ByteArray) (n : Nat) : ByteArray := besideB K S I O W s.size ++ fx (crcN ((padB s n).data.toList ++ (besideB K S I O W s.size).data.toList)) 4
theorem spareB_size (K S I O W : Nat) (s : ByteArray) (n : Nat) : (spareB K S I O W s n).size = 32 := by
 unfold spareB
 rw [ByteArray.size_append, besideB_size, fx_size]
def FrS (w : World) (g : Nat) (K S I O W : Int) (wx : World) : Prop := Tg5 wx g K S I O W /\ TgS w g wx /\ Tab wx
theorem FrS.call {w : World} {g : Nat} {K S I O W : Int} {wx w2 : World} (h : FrS w g K S I O W wx) (b : Below wx.heap.size wx w2) : FrS w g K S I O W w2 := by
 have hk := tg_keep (w := w) ⟨h.1.1, h.1.2.1, h.1.2.2.1, h.1.2.2.2.1, h.1.2.2.2.2, h.2.1⟩ b
 exact ⟨⟨hk.1, hk.2.1, hk.2.2.1, hk.2.2.2.1, hk.2.2.2.2.1⟩, hk.2.2.2.2.2, h.2.2.call b⟩
theorem frs_fresh (w : World) (K S I O W : Int) (hT : Tab w) : FrS w w.heap.size K S I O W (w.alloc (.cells #[.int .i64 K, .int .u64 S, .int .i64 I, .int .i64 O, .int .i64 W] 97)) :=
 ⟨(tg_fresh w K S I O W).1, (tg_fresh w K S I O W).2, hT.alloc _⟩
theorem frame_ok (K S I O W : Nat) (hm : mayB K I O W) (s : ByteArray) (n : Nat) (h : s.size <= n) (hn : n <= 65535) (w : World) (hT : Tab w) :
  Calls Tryz.prog 142 #[tagV K S I O W, .string s, .int .i64 n] w fun e w' => e = .returned (.tuple #[.string (padB s n), .string (spareB K S I O W s n), .int .i64 0]) /\ Below w.heap.size w w' := by
 have hc := chk_iff.2 hm
 unfold mayB at hm
 have HM := Hid.mk hm
 have b1 : W < 9223372036854775808 := by omega
 have b2 : O < 9223372036854775808 := by omega
 have b3 : I < 9223372036854775808 := by omega
 have b4 : K < 9223372036854775808 := by omega
 have b5 : (W : Int) <= 9223372036854775807 := by omega
 clear hm
 have hz := padB_size s n h
 have hz2 := besideB_size K S I O W s.size
 have hz3 := fieldsB_size K S I O W s.size
 unfold spareB
 have hmm : moreI (moreI 0 (padB s n).data.toList) (besideB K S I O W s.size).data.toList = (crcN ((padB s n).data.toList ++ (besideB K S I O W s.size).data.toList) : Int) := by
  rw [moreI_moreI, moreI_crcN]
 have hlt := crcN_lt ((padB s n).data.toList ++ (besideB K S I O W s.size).data.toList)
 generalize crcN ((padB s n).data.toList ++ (besideB K S I O W s.size).data.toList) = X at *
 have hfx := fx_size X 4
 have hu : fxW X 4 = fx X 4 := rfl
 have hbe : padB (fieldsB K S I O W s.size) 28 = besideB K S I O W s.size := rfl
 generalize hF : fieldsB K S I O W s.size = F at *
 generalize hB : besideB K S I O W s.size = B at *
 generalize hD : padB s n = D at *
 generalize fx X 4 = Y at *
 have pd1 := fun w => padded_any s n h hn w
 have pd2 := fun w => padded_any F 28 (by omega) (by omega) w
 have fd := fun w => fields_any K S I O W s.size b4 b3 b2 b1 (by omega) w
 rw [hD] at pd1
 rw [hbe] at pd2
 rw [hF] at fd
 have sD : D.size <= maxLen := by unfold maxLen; omega
 have sB : B.size <= maxLen := by unfold maxLen; omega
 have e4 : IntKind.u64.wrap (X : Int) = (X : Int) := by rw [IntKind.wrap_u64]; omega
 have hq := frs_fresh w K S I O W hT
 unfold tagV at fd |-
 generalize hw0 : w.alloc (.cells #[.int .i64 K, .int .u64 S, .int .i64 I, .int .i64 O, .int .i64 W] 97) = w0 at hq
 have HQ := Hid.mk hq
 have HW0 := Hid.mk hw0
 clear hw0
 have HD := Hid.mk (And.intro hF (And.intro hB (And.intro hD hmm)))
 clear hT hF hB hD hq b1 b2 b3 b4 hbe hmm
 have hcn : (n : Int) <= 65535 := by omega
 have hsn : (s.size : Int) <= (n : Int) := by omega
 go_enter Tryz.func142, Tryz.ntmps142
 go_upto_region 4 with (first
  | (go_at_call 181; rw [HW0.out]; refine (check_any _ _ _ _ _ b5 _).mono ?_; rintro e w1 ⟨rfl, c1⟩; rw [hc]; replace HQ := Hid.mk (HQ.out.call c1); clear c1)
  | (go_at_call 182; refine (pd1 _).mono ?_; rintro e w2 ⟨rfl, c1⟩; replace HQ := Hid.mk (HQ.out.call c1); clear c1))
 obtain ⟨c0, c1, c2, c3, c4⟩ := HQ.out.1
 clear pd1
 go_wp2_with (first
  | (go_at_call 183; refine (fd _).mono ?_; rintro e w3 ⟨rfl, c5⟩; replace HQ := Hid.mk (HQ.out.call c5); clear c5)
  | (go_at_call 182; refine (pd2 _).mono ?_; rintro e w4 ⟨rfl, c6⟩; replace HQ := Hid.mk (HQ.out.call c6); clear c6)
  | (go_at_call 185; refine (sum_any _ _ sD HQ.out.2.2.2).mono ?_; rintro e w5 ⟨rfl, rfl⟩)
  | (go_at_call 184; refine (more_any _ _ _ sB HQ.out.2.2.2).mono ?_; rintro e w6 ⟨rfl, rfl⟩; rw [HD.out.2.2.2])
  | (go_at_call 186; refine (enc_w _ _ _).mono ?_; rintro e w7 ⟨rfl, c7⟩; rw [hu]; replace HQ := Hid.mk (HQ.out.call c7); clear c7))
 go_ret3
 exact ⟨rfl, HQ.out.2.1.2⟩
theorem frame_bad (K S I O W : Int) (hW : W <= 9223372036854775807) (s : ByteArray) (n : Int) (h : ¬ (chk K I O W = true /\ 0 <= n /\ n <= 65535 /\ (s.size : Int) <= n)) (w : World) :
  Calls Tryz.prog 142 #[tagV K S I O W, .string s, .int .i64 n] w fun e w' => e = .returned (.tuple #[.string ⟨#[]⟩, .string ⟨#[]⟩, .int .i64 1]) /\ Below w.heap.size w w' := by
 have hb : Hid (Below w.heap.size w (w.alloc (.cells #[.int .i64 K, .int .u64 S, .int .i64 I, .int .i64 O, .int .i64 W] 97))) := below_one w _
 unfold tagV
 cases hc : chk K I O W with
 | false =>
  clear h
  go_enter Tryz.func142, Tryz.ntmps142
  go_wp2_with (first | (go_at_call 181; refine (check_any _ _ _ _ _ hW _).mono ?_; rintro e w1 ⟨rfl, c1⟩; rw [hc]; replace hb := Hid.mk (below3 hb.out c1); clear c1))
  go_ret3
  exact ⟨rfl, hb.out⟩
 | true =>
  by_cases h0 : n < 0
  ·clear h
   go_enter Tryz.func142, Tryz.ntmps142
   go_wp2_with (first | (go_at_call 181; refine (check_any _ _ _ _ _ hW _).mono ?_; rintro e w1 ⟨rfl, c1⟩; rw [hc]; replace hb := Hid.mk (below3 hb.out c1); clear c1))
   go_ret3
   exact ⟨rfl, hb.out⟩
  ·by_cases h1 : 65535 < n
   ·clear h
    go_enter Tryz.func142, Tryz.ntmps142
    go_wp2_with (first | (go_at_call 181; refine (check_any _ _ _ _ _ hW _).mono ?_; rintro e w1 ⟨rfl, c1⟩; rw [hc]; replace hb := Hid.mk (below3 hb.out c1); clear c1))
    go_ret3
    exact ⟨rfl, hb.out⟩
   ·have h2 : n < (s.size : Int) := by
     rcases Int.lt_or_le n (s.size : Int) with h2 | h2
     ·exact h2
     ·exact absurd ⟨hc, by omega, by omega, h2⟩ h
    clear h
    go_enter Tryz.func142, Tryz.ntmps142
    go_wp2_with (first | (go_at_call 181; refine (check_any _ _ _ _ _ hW _).mono ?_; rintro e w1 ⟨rfl, c1⟩; rw [hc]; replace hb := Hid.mk (below3 hb.out c1); clear c1))
    go_ret3
    exact ⟨rfl, hb.out⟩
theorem beside_zs (K S I O W L : Nat) : besideB K S I O W L = fx K 1 ++ fx S 8 ++ fx I 2 ++ fx O 2 ++ fx W 4 ++ fx L 2 ++ zs 9 := by
 unfold besideB padB
 rw [fieldsB_size]
 rfl
theorem toList_append (a b : ByteArray) : (a ++ b).data.toList = a.data.toList ++ b.data.toList := by
 rw [ByteArray.data_append, Array.toList_append]
end Go.Proofs.YtcmmhfjnhlaepabGreatDoor.Pg
namespace Go.Proofs.YtcmmhfjnhlaepabGreatDoor.Pg
open Go Go.RowKit
theorem tb_result3 {fn : Func} {a p u : Tmp} (h : fn.results = #[.tmp a, .cell p 97, .tmp u]) {tmps : Array Value} {w : World} {g : Nat} {K S I O W : Int} (hp : tmps.getD p undef = .pointer (some ⟨g, 0, none⟩)) (ha : TB w g K S I O W) :
  (results fn tmps).run Tryz.prog w = .ok (.tuple #[tmps.getD a undef, tagV K S I O W, tmps.getD u undef]) w := by
 have hp' : tmps[p]?.getD undef = .pointer (some ⟨g, 0, none⟩) := by simpa using hp
 simp [results, h, hp', asAddr, tb_load ha]
theorem bytes_beq_false (a b : ByteArray) (h : ¬ a = b) : (a.toList == b.toList) = false := by
 rw [beq_eq_false_iff_ne]
 intro e
 rw [ByteArray.toList_eq, ByteArray.toList_eq] at e
 exact h (ByteArray.ext (Array.toList_inj.1 e))
def lookV (c : Int) : Value := .tuple #[.int .i64 c, tagV 0 0 0 0 0, .string ⟨#[]⟩]
theorem look_erased (d s : ByteArray) (zd : d.size <= 1000000) (zs : s.size <= 1000000) (hd : allF d = true) (hs : allF s = true) (w : World) :
  Calls Tryz.prog 83 #[.string d, .string s] w fun e w' => e = .returned (lookV 0) /\ Below w.heap.size w w' := by
 have HR := Hid.mk (TB.fresh w 0 0 0 0 0)
 go_enter Tryz.func83, Tryz.ntmps83
 go_wp2_with (first | (go_at_call 140; refine (erased_any _ (by assumption) _).mono ?_; rintro e w1 ⟨rfl, rfl⟩; (first | rw [hd] | rw [hs])))
 exact bodyPost_ret (tb_result3 rfl rfl HR.out) rfl ⟨rfl, below_one _ _⟩
def LkS (w : World) (g : Nat) (K S I O W : Int) (wx : World) : Prop := TB wx w.heap.size 0 0 0 0 0 /\ TB wx g K S I O W /\ Below w.heap.size w wx /\ Tab wx
theorem LkS.call {w : World} {g : Nat} {K S I O W : Int} {wx w2 : World} (h : LkS w g K S I O W wx) (b : Below wx.heap.size wx w2) : LkS w g K S I O W w2 := ⟨h.1.call b, h.2.1.call b, below3 h.2.2.1 b, h.2.2.2.call b⟩
theorem lks_start (w : World) (hT : Tab w) {w1 : World} (b : Below (w.alloc (.cells #[.int .i64 0, .int .u64 0, .int .i64 0, .int .i64 0, .int .i64 0] 97)).heap.size (w.alloc (.cells #[.int .i64 0, .int .u64 0, .int .i64 0, .int .i64 0, .int .i64 0] 97)) w1) (K S I O W : Int) : LkS w w1.heap.size K S I O W (w1.alloc (.cells #[.int .i64 K, .int .u64 S, .int .i64 I, .int .i64 O, .int .i64 W] 97)) := by
 have hb := below3 (below_one w _) b
 exact ⟨((TB.fresh w 0 0 0 0 0).call b).alloc _, TB.fresh w1 K S I O W, hb.alloc hb.size _, (hT.call hb).alloc _⟩
set_option maxHeartbeats 2000000 in
theorem look_t1a (d s : ByteArray) (zd : d.size <= 65535) (hd : allF d = false) {K S I O W L : Nat} (h6 : Six s K S I O W L) (hbad : ¬ mayB K I O W) (w : World) (hT : Tab w) :
  Calls Tryz.prog 83 #[.string d, .string s] w fun e w' => e = .returned (lookV 2) /\ Below w.heap.size w w' := by
 have hbW := h6.bounds.2.2.2.2.1
 have sd := fun w => said_any d s (by omega) h6 w
 generalize hM : d.extract 0 (min L d.size) = M at *
 have HM := Hid.mk hM
 clear hM
 unfold tagV at sd
 have fb := fun w => frame_bad K S I O W (by omega) M d.size (fun h => hbad (chk_iff.1 h.1)) w
 unfold tagV at fb
 clear hbad hbW
 have HT := Hid.mk hT
 clear hT
 have zd1 : d.size <= 1000000 := by omega
 go_enter Tryz.func83, Tryz.ntmps83
 go_upto_region 4 with (first
  | (go_at_call 140; refine (erased_any _ (by assumption) _).mono ?_; rintro e w0 ⟨rfl, hw0⟩; rw [hw0, hd]; clear hw0)
  | (go_at_call 141; refine (sd _).mono ?_; rintro e w1 ⟨rfl, c1⟩; have HQ := Hid.mk (lks_start w HT.out c1 K S I O W); clear c1))
 clear sd
 generalize w1.heap.size = G at *
 generalize (w1.alloc (.cells #[.int .i64 K, .int .u64 S, .int .i64 I, .int .i64 O, .int .i64 W] 97)) = W1 at *
 obtain ⟨c0, c1, c2, c3, c4⟩ := HQ.out.2.1.five
 go_upto_region 5 with (first | (go_at_call 142; refine (fb _).mono ?_; rintro e w2 ⟨rfl, b2⟩; replace HQ := Hid.mk (HQ.out.call b2); clear b2))
 clear c0 c1 c2 c3 c4
 obtain ⟨c0, c1, c2, c3, c4⟩ := HQ.out.2.1.five
 obtain ⟨d0, d1, d2, d3, d4⟩ := HQ.out.1.five
 have f0 := HQ.out.1.frozen 0
 have f1 := HQ.out.1.frozen 1
 have f2 := HQ.out.1.frozen 2
 have f3 := HQ.out.1.frozen 3
 have f4 := HQ.out.1.frozen 4
 go_wp2_with fail
 have hr := tb_whole HQ.out.1 HQ.out.2.2.1 (Nat.le_refl _) 0 0 0 0 0
 exact bodyPost_ret (tb_result3 rfl rfl hr.1) rfl ⟨rfl, hr.2⟩
set_option maxHeartbeats 2000000 in
theorem look_t2a (d s : ByteArray) (zd : d.size <= 65535) (hd : allF d = false) {K S I O W L : Nat} (h6 : Six s K S I O W L) (hmay : mayB K I O W) (hne : ¬ padB (d.extract 0 (min L d.size)) d.size = d) (w : World) (hT : Tab w) :
  Calls Tryz.prog 83 #[.string d, .string s] w fun e w' => e = .returned (lookV 2) /\ Below w.heap.size w w' := by
 have hMs : (d.extract 0 (min L d.size)).size <= d.size := by rw [ByteArray.size_extract]; omega
 have hnb := bytes_beq_false _ _ hne
 clear hne
 have sd := fun w => said_any d s (by omega) h6 w
 generalize hM : d.extract 0 (min L d.size) = M at *
 have HM := Hid.mk hM
 clear hM
 unfold tagV at sd
 have fo := fun w hT => frame_ok K S I O W hmay M d.size hMs zd w hT
 unfold tagV at fo
 clear hmay
 generalize padB M d.size = D at *
 generalize spareB K S I O W M d.size = P at *
 have HT := Hid.mk hT
 clear hT
 have zd1 : d.size <= 1000000 := by omega
 go_enter Tryz.func83, Tryz.ntmps83
 go_upto_region 4 with (first
  | (go_at_call 140; refine (erased_any _ (by assumption) _).mono ?_; rintro e w0 ⟨rfl, hw0⟩; rw [hw0, hd]; clear hw0)
  | (go_at_call 141; refine (sd _).mono ?_; rintro e w1 ⟨rfl, c1⟩; have HQ := Hid.mk (lks_start w HT.out c1 K S I O W); clear c1))
 clear sd
 generalize w1.heap.size = G at *
 generalize (w1.alloc (.cells #[.int .i64 K, .int .u64 S, .int .i64 I, .int .i64 O, .int .i64 W] 97)) = W1 at *
 obtain ⟨c0, c1, c2, c3, c4⟩ := HQ.out.2.1.five
 go_upto_region 5 with (first | (go_at_call 142; refine (fo _ HQ.out.2.2.2).mono ?_; rintro e w2 ⟨rfl, b2⟩; replace HQ := Hid.mk (HQ.out.call b2); clear b2))
 clear c0 c1 c2 c3 c4
 obtain ⟨c0, c1, c2, c3, c4⟩ := HQ.out.2.1.five
 obtain ⟨d0, d1, d2, d3, d4⟩ := HQ.out.1.five
 have f0 := HQ.out.1.frozen 0
 have f1 := HQ.out.1.frozen 1
 have f2 := HQ.out.1.frozen 2
 have f3 := HQ.out.1.frozen 3
 have f4 := HQ.out.1.frozen 4
 go_wp2_with fail
 have hr := tb_whole HQ.out.1 HQ.out.2.2.1 (Nat.le_refl _) 0 0 0 0 0
 exact bodyPost_ret (tb_result3 rfl rfl hr.1) rfl ⟨rfl, hr.2⟩
set_option maxHeartbeats 2000000 in
theorem look_va (d s : ByteArray) (zd : d.size <= 65535) (hd : allF d = false) {K S I O W L : Nat} (h6 : Six s K S I O W L) (hmay : mayB K I O W) (heq : padB (d.extract 0 (min L d.size)) d.size = d) (heq2 : spareB K S I O W (d.extract 0 (min L d.size)) d.size = s) (w : World) (hT : Tab w) :
  Calls Tryz.prog 83 #[.string d, .string s] w fun e w' => e = .returned (.tuple #[.int .i64 1, tagV K S I O W, .string (d.extract 0 (min L d.size))]) /\ Below w.heap.size w w' := by
 have hMs : (d.extract 0 (min L d.size)).size <= d.size := by rw [ByteArray.size_extract]; omega
 have sd := fun w => said_any d s (by omega) h6 w
 generalize hM : d.extract 0 (min L d.size) = M at *
 have HM := Hid.mk hM
 clear hM
 unfold tagV at sd
 have fo := fun w hT => frame_ok K S I O W hmay M d.size hMs zd w hT
 unfold tagV at fo
 clear hmay
 rw [heq, heq2] at fo
 clear heq heq2
 have HT := Hid.mk hT
 clear hT
 have zd1 : d.size <= 1000000 := by omega
 go_enter Tryz.func83, Tryz.ntmps83
 go_upto_region 4 with (first
  | (go_at_call 140; refine (erased_any _ (by assumption) _).mono ?_; rintro e w0 ⟨rfl, hw0⟩; rw [hw0, hd]; clear hw0)
  | (go_at_call 141; refine (sd _).mono ?_; rintro e w1 ⟨rfl, c1⟩; have HQ := Hid.mk (lks_start w HT.out c1 K S I O W); clear c1))
 clear sd
 generalize w1.heap.size = G at *
 generalize (w1.alloc (.cells #[.int .i64 K, .int .u64 S, .int .i64 I, .int .i64 O, .int .i64 W] 97)) = W1 at *
 obtain ⟨c0, c1, c2, c3, c4⟩ := HQ.out.2.1.five
 go_upto_region 5 with (first | (go_at_call 142; refine (fo _ HQ.out.2.2.2).mono ?_; rintro e w2 ⟨rfl, b2⟩; replace HQ := Hid.mk (HQ.out.call b2); clear b2))
 clear c0 c1 c2 c3 c4
 obtain ⟨c0, c1, c2, c3, c4⟩ := HQ.out.2.1.five
 obtain ⟨d0, d1, d2, d3, d4⟩ := HQ.out.1.five
 have f0 := HQ.out.1.frozen 0
 have f1 := HQ.out.1.frozen 1
 have f2 := HQ.out.1.frozen 2
 have f3 := HQ.out.1.frozen 3
 have f4 := HQ.out.1.frozen 4
 go_wp2_with fail
 go_region
 have hr := tb_whole HQ.out.1 HQ.out.2.2.1 (Nat.le_refl _) K S I O W
 have HR := Hid.mk (And.intro hr.1.drew hr.2.drew)
 clear hr c0 c1 c2 c3 c4 d0 d1 d2 d3 d4 f0 f1 f2 f3 f4 HQ
 generalize (((((w2.setCell ⟨w.heap.size, 0, none⟩ (.int .i64 K)).setCell ⟨w.heap.size, 1, none⟩ (.int .u64 S)).setCell ⟨w.heap.size, 2, none⟩ (.int .i64 I)).setCell ⟨w.heap.size, 3, none⟩ (.int .i64 O)).setCell ⟨w.heap.size, 4, none⟩ (.int .i64 W)).drew = V at *
 go_wp2_with fail
 exact bodyPost_ret (tb_result3 rfl rfl HR.out.1) rfl ⟨rfl, HR.out.2⟩
set_option maxHeartbeats 2000000 in
theorem look_t1b (d s : ByteArray) (zd : d.size <= 65535) (zs : s.size <= 1000000) (hd : allF d = true) (hs : allF s = false) {K S I O W L : Nat} (h6 : Six s K S I O W L) (hbad : ¬ mayB K I O W) (w : World) (hT : Tab w) :
  Calls Tryz.prog 83 #[.string d, .string s] w fun e w' => e = .returned (lookV 2) /\ Below w.heap.size w w' := by
 have hbW := h6.bounds.2.2.2.2.1
 have sd := fun w => said_any d s (by omega) h6 w
 generalize hM : d.extract 0 (min L d.size) = M at *
 have HM := Hid.mk hM
 clear hM
 unfold tagV at sd
 have fb := fun w => frame_bad K S I O W (by omega) M d.size (fun h => hbad (chk_iff.1 h.1)) w
 unfold tagV at fb
 clear hbad hbW
 have HT := Hid.mk hT
 clear hT
 have zd1 : d.size <= 1000000 := by omega
 go_enter Tryz.func83, Tryz.ntmps83
 go_upto_region 4 with (first
  | (go_at_call 140; refine (erased_any _ (by assumption) _).mono ?_; rintro e w0 ⟨rfl, hw0⟩; rw [hw0]; clear hw0; (first | rw [hd] | rw [hs]))
  | (go_at_call 141; refine (sd _).mono ?_; rintro e w1 ⟨rfl, c1⟩; have HQ := Hid.mk (lks_start w HT.out c1 K S I O W); clear c1))
 clear sd
 generalize w1.heap.size = G at *
 generalize (w1.alloc (.cells #[.int .i64 K, .int .u64 S, .int .i64 I, .int .i64 O, .int .i64 W] 97)) = W1 at *
 obtain ⟨c0, c1, c2, c3, c4⟩ := HQ.out.2.1.five
 go_upto_region 5 with (first | (go_at_call 142; refine (fb _).mono ?_; rintro e w2 ⟨rfl, b2⟩; replace HQ := Hid.mk (HQ.out.call b2); clear b2))
 clear c0 c1 c2 c3 c4
 obtain ⟨c0, c1, c2, c3, c4⟩ := HQ.out.2.1.five
 obtain ⟨d0, d1, d2, d3, d4⟩ := HQ.out.1.five
 have f0 := HQ.out.1.frozen 0
 have f1 := HQ.out.1.frozen 1
 have f2 := HQ.out.1.frozen 2
 have f3 := HQ.out.1.frozen 3
 have f4 := HQ.out.1.frozen 4
 go_wp2_with fail
 have hr := tb_whole HQ.out.1 HQ.out.2.2.1 (Nat.le_refl _) 0 0 0 0 0
 exact bodyPost_ret (tb_result3 rfl rfl hr.1) rfl ⟨rfl, hr.2⟩
set_option maxHeartbeats 2000000 in
theorem look_t2b (d s : ByteArray) (zd : d.size <= 65535) (zs : s.size <= 1000000) (hd : allF d = true) (hs : allF s = false) {K S I O W L : Nat} (h6 : Six s K S I O W L) (hmay : mayB K I O W) (hne : ¬ padB (d.extract 0 (min L d.size)) d.size = d) (w : World) (hT : Tab w) :
  Calls Tryz.prog 83 #[.string d, .string s] w fun e w' => e = .returned (lookV 2) /\ Below w.heap.size w w' := by
 have hMs : (d.extract 0 (min L d.size)).size <= d.size := by rw [ByteArray.size_extract]; omega
 have hnb := bytes_beq_false _ _ hne
 clear hne
 have sd := fun w => said_any d s (by omega) h6 w
 generalize hM : d.extract 0 (min L d.size) = M at *
 have HM := Hid.mk hM
 clear hM
 unfold tagV at sd
 have fo := fun w hT => frame_ok K S I O W hmay M d.size hMs zd w hT
 unfold tagV at fo
 clear hmay
 generalize padB M d.size = D at *
 generalize spareB K S I O W M d.size = P at *
 have HT := Hid.mk hT
 clear hT
 have zd1 : d.size <= 1000000 := by omega
 go_enter Tryz.func83, Tryz.ntmps83
 go_upto_region 4 with (first
  | (go_at_call 140; refine (erased_any _ (by assumption) _).mono ?_; rintro e w0 ⟨rfl, hw0⟩; rw [hw0]; clear hw0; (first | rw [hd] | rw [hs]))
  | (go_at_call 141; refine (sd _).mono ?_; rintro e w1 ⟨rfl, c1⟩; have HQ := Hid.mk (lks_start w HT.out c1 K S I O W); clear c1))
 clear sd
 generalize w1.heap.size = G at *
 generalize (w1.alloc (.cells #[.int .i64 K, .int .u64 S, .int .i64 I, .int .i64 O, .int .i64 W] 97)) = W1 at *
 obtain ⟨c0, c1, c2, c3, c4⟩ := HQ.out.2.1.five
 go_upto_region 5 with (first | (go_at_call 142; refine (fo _ HQ.out.2.2.2).mono ?_; rintro e w2 ⟨rfl, b2⟩; replace HQ := Hid.mk (HQ.out.call b2); clear b2))
 clear c0 c1 c2 c3 c4
 obtain ⟨c0, c1, c2, c3, c4⟩ := HQ.out.2.1.five
 obtain ⟨d0, d1, d2, d3, d4⟩ := HQ.out.1.five
 have f0 := HQ.out.1.frozen 0
 have f1 := HQ.out.1.frozen 1
 have f2 := HQ.out.1.frozen 2
 have f3 := HQ.out.1.frozen 3
 have f4 := HQ.out.1.frozen 4
 go_wp2_with fail
 have hr := tb_whole HQ.out.1 HQ.out.2.2.1 (Nat.le_refl _) 0 0 0 0 0
 exact bodyPost_ret (tb_result3 rfl rfl hr.1) rfl ⟨rfl, hr.2⟩
set_option maxHeartbeats 2000000 in
theorem look_vb (d s : ByteArray) (zd : d.size <= 65535) (zs : s.size <= 1000000) (hd : allF d = true) (hs : allF s = false) {K S I O W L : Nat} (h6 : Six s K S I O W L) (hmay : mayB K I O W) (heq : padB (d.extract 0 (min L d.size)) d.size = d) (heq2 : spareB K S I O W (d.extract 0 (min L d.size)) d.size = s) (w : World) (hT : Tab w) :
  Calls Tryz.prog 83 #[.string d, .string s] w fun e w' => e = .returned (.tuple #[.int .i64 1, tagV K S I O W, .string (d.extract 0 (min L d.size))]) /\ Below w.heap.size w w' := by
 have hMs : (d.extract 0 (min L d.size)).size <= d.size := by rw [ByteArray.size_extract]; omega
 have sd := fun w => said_any d s (by omega) h6 w
 generalize hM : d.extract 0 (min L d.size) = M at *
 have HM := Hid.mk hM
 clear hM
 unfold tagV at sd
 have fo := fun w hT => frame_ok K S I O W hmay M d.size hMs zd w hT
 unfold tagV at fo
 clear hmay
 rw [heq, heq2] at fo
 clear heq heq2
 have HT := Hid.mk hT
 clear hT
 have zd1 : d.size <= 1000000 := by omega
 go_enter Tryz.func83, Tryz.ntmps83
 go_upto_region 4 with (first
  | (go_at_call 140; refine (erased_any _ (by assumption) _).mono ?_; rintro e w0 ⟨rfl, hw0⟩; rw [hw0]; clear hw0; (first | rw [hd] | rw [hs]))
  | (go_at_call 141; refine (sd _).mono ?_; rintro e w1 ⟨rfl, c1⟩; have HQ := Hid.mk (lks_start w HT.out c1 K S I O W); clear c1))
 clear sd
 generalize w1.heap.size = G at *
 generalize (w1.alloc (.cells #[.int .i64 K, .int .u64 S, .int .i64 I, .int .i64 O, .int .i64 W] 97)) = W1 at *
 obtain ⟨c0, c1, c2, c3, c4⟩ := HQ.out.2.1.five
 go_upto_region 5 with (first | (go_at_call 142; refine (fo _ HQ.out.2.2.2).mono ?_; rintro e w2 ⟨rfl, b2⟩; replace HQ := Hid.mk (HQ.out.call b2); clear b2))
 clear c0 c1 c2 c3 c4
 obtain ⟨c0, c1, c2, c3, c4⟩ := HQ.out.2.1.five
 obtain ⟨d0, d1, d2, d3, d4⟩ := HQ.out.1.five
 have f0 := HQ.out.1.frozen 0
 have f1 := HQ.out.1.frozen 1
 have f2 := HQ.out.1.frozen 2
 have f3 := HQ.out.1.frozen 3
 have f4 := HQ.out.1.frozen 4
 go_wp2_with fail
 go_region
 have hr := tb_whole HQ.out.1 HQ.out.2.2.1 (Nat.le_refl _) K S I O W
 have HR := Hid.mk (And.intro hr.1.drew hr.2.drew)
 clear hr c0 c1 c2 c3 c4 d0 d1 d2 d3 d4 f0 f1 f2 f3 f4 HQ
 generalize (((((w2.setCell ⟨w.heap.size, 0, none⟩ (.int .i64 K)).setCell ⟨w.heap.size, 1, none⟩ (.int .u64 S)).setCell ⟨w.heap.size, 2, none⟩ (.int .i64 I)).setCell ⟨w.heap.size, 3, none⟩ (.int .i64 O)).setCell ⟨w.heap.size, 4, none⟩ (.int .i64 W)).drew = V at *
 go_wp2_with fail
 exact bodyPost_ret (tb_result3 rfl rfl HR.out.1) rfl ⟨rfl, HR.out.2⟩
end Go.Proofs.YtcmmhfjnhlaepabGreatDoor.Pg
namespace Go.Proofs.YtcmmhfjnhlaepabGreatDoor.Pg
open Go Go.RowKit
theorem extract_left (a t : ByteArray) : (a ++ t).extract 0 a.size = a := by
 apply ByteArray.ext
 rw [ByteArray.data_extract, ByteArray.data_append]
 exact (Array.extract_append_left ..).trans (by simp)
theorem extract_right (a t : ByteArray) : (a ++ t).extract a.size (a ++ t).size = t := by
 apply ByteArray.ext
 rw [ByteArray.data_extract, ByteArray.data_append, ByteArray.size_append]
 have e1 : a.size = a.data.size := rfl
 have e2 : t.size = t.data.size := rfl
 have e3 : a.data.extract a.size (a.size + t.size) = #[] := Array.extract_empty_of_size_le_start (by rw [e1]; exact Nat.le_refl _)
 have e4 : t.data.extract 0 t.size = t.data := by rw [e2]; exact Array.extract_size
 rw [Array.extract_append, e3, Array.empty_append, show a.size - a.data.size = 0 by omega, show a.size + t.size - a.data.size = t.size by omega, e4]
theorem rB_app (a t : ByteArray) (n : Int) (h : n = (a.size : Int)) : rB (a ++ t) 0 n = (t, 0, a) := by
 subst h
 unfold rB
 have hs : (a ++ t).size = a.size + t.size := ByteArray.size_append
 rw [if_neg (by decide), if_neg (by rw [hs]; omega), Int.toNat_natCast, extract_right, extract_left]
theorem rF_fx (x k : Nat) (hk : k <= 8) (hx : x < 256 ^ k) (t : ByteArray) : rF (fx x k ++ t) 0 (k : Int) = (t, 0, x) := by
 have hw : wid (k : Int) = (k : Int) := by unfold wid; rw [if_neg (by omega), if_neg (by omega)]
 unfold rF
 rw [hw, rB_app (fx x k) t k (by rw [fx_size])]
 show (t, (0 : Int), leL (fixL x k)) = _
 rw [leL_fixL, Nat.mod_eq_of_lt hx]
theorem app_assoc (a b c : ByteArray) : (a ++ b) ++ c = a ++ (b ++ c) := by
 apply ByteArray.ext
 simp only [ByteArray.data_append, Array.append_assoc]
theorem six_spare (K S I O W : Nat) (t : ByteArray) (n : Nat) (hK : K < 256) (hS : S < 18446744073709551616) (hI : I < 65536) (hO : O < 65536) (hW : W < 4294967296) (ht : t.size < 65536) : Six (spareB K S I O W t n) K S I O W t.size := by
 unfold spareB
 rw [beside_zs]
 generalize fx (crcN _) 4 = X
 simp only [app_assoc]
 exact ⟨_, _, _, _, _, _, _, _, _, _, _, _, rF_fx K 1 (by omega) (by omega) _, rF_fx S 8 (by omega) (by omega) _, rF_fx I 2 (by omega) (by omega) _, rF_fx O 2 (by omega) (by omega) _, rF_fx W 4 (by omega) (by omega) _, rF_fx t.size 2 (by omega) (by omega) _⟩
theorem allF_append (a b : ByteArray) : allF (a ++ b) = (allF a && allF b) := by
 unfold allF
 rw [toList_append, List.all_append]
structure Val (d s t : ByteArray) (K S I O W : Nat) : Prop where
 may : mayB K I O W
 seq : S < 18446744073709551616
 le : t.size <= d.size
 most : d.size <= 65535
 data : padB t d.size = d
 spare : spareB K S I O W t d.size = s
theorem Val.framed (K S I O W : Nat) (hm : mayB K I O W) (hS : S < 18446744073709551616) (t : ByteArray) (n : Nat) (h : t.size <= n) (hn : n <= 65535) : Val (padB t n) (spareB K S I O W t n) t K S I O W := by
 have hz := padB_size t n h
 exact ⟨hm, hS, by rw [hz]; exact h, by rw [hz]; exact hn, by rw [hz], by rw [hz]⟩
theorem Val.six {d s t : ByteArray} {K S I O W : Nat} (h : Val d s t K S I O W) : Six s K S I O W t.size := by
 have hm := h.may
 have hl := h.le
 have h6 := h.most
 unfold mayB at hm
 rw [<- h.spare]
 exact six_spare K S I O W t d.size (by omega) h.seq (by omega) (by omega) (by omega) (by omega)
theorem Val.text {d s t : ByteArray} {K S I O W : Nat} (h : Val d s t K S I O W) : d.extract 0 t.size = t := by
 have hd := h.data
 unfold padB at hd
 rw [<- hd]
 exact extract_left _ _
theorem Val.size {d s t : ByteArray} {K S I O W : Nat} (h : Val d s t K S I O W) : s.size = 32 := by
 rw [<- h.spare]
 exact spareB_size ..
theorem Val.not {d s t : ByteArray} {K S I O W : Nat} (h : Val d s t K S I O W) : allF s = false := by
 have hm := h.may
 unfold mayB at hm
 rw [<- h.spare]
 unfold spareB
 rw [beside_zs]
 simp only [app_assoc]
 rw [allF_append]
 have h1 : allF (fx K 1) = false := by
  have h3 : K = 1 \/ K = 2 \/ K = 3 := by omega
  rcases h3 with rfl | rfl | rfl <;> rfl
 rw [h1]
 rfl
theorem look_v {d s t : ByteArray} {K S I O W : Nat} (h : Val d s t K S I O W) (w : World) (hT : Tab w) :
  Calls Tryz.prog 83 #[.string d, .string s] w fun e w' => e = .returned (.tuple #[.int .i64 1, tagV K S I O W, .string t]) /\ Below w.heap.size w w' := by
 have hx := h.text
 have hs := h.size
 have hmin : min t.size d.size = t.size := Nat.min_eq_left h.le
 have e1 : d.extract 0 (min t.size d.size) = t := by rw [hmin, hx]
 have h1 := h.data
 have h2 := h.spare
 rw [<- e1] at h1 h2 |-
 generalize hL : t.size = L at *
 have h6 := h.six
 rw [hL] at h6
 cases hd : allF d with
 | false => exact look_va d s h.most hd h6 h.may h1 h2 w hT
 | true => exact look_vb d s h.most (by omega) hd h.not h6 h.may h1 h2 w hT
end Go.Proofs.YtcmmhfjnhlaepabGreatDoor.Pg
