/-
  A state's blocks beside others; what happened to blocks since: the walk of since, where no block is bad. No condition. What happened to blocks since: the walk of since, where no block is bad. No condition. The state behind records: the walk of behind. Condition: no record is refused. An FTL in memory, whole: its state, its rows, its writer, none in another's blocks. No condition. A page of data is written: the walk of writeData, on a chip on which nothing fails. No condition. Records are written as one page: the walk of writeRecords, on a chip on which nothing fails. Condition: they fit into a page. A checkpoint is written: the walk of save, on a chip on which nothing fails. Condition: the records fit into a page. A checkpoint is written: the walk of save, on a chip on which nothing fails. Condition: the records fit into a page. Records are written as several pages of one block; a checkpoint is: the walks of writeRecords and save, on a chip on which nothing fails. Condition: the pages fit into the block. Records are told: the walk of tell, on a chip on which nothing fails. Condition: the records fit into a page. What is not needed for a commit: the walks of level, tellBlocks, tidy, where there is nothing to do. No condition.
-/
import Derived.Test.YtcmmhfjnhlaepabGreatDoorRB
import Derived.Test.YtcmmhfjnhlaepabGreatDoorREra
import Derived.Test.YtcmmhfjnhlaepabGreatDoorRN1
import Derived.Lib.SliceRun
import Derived.Test.YtcmmhfjnhlaepabGreatDoorRFew
namespace Go.Proofs.YtcmmhfjnhlaepabGreatDoor.S8
open Go Go.RowKit Go.Maps Gp Pg We

set_option maxRecDepth 20000 in
theorem worn_any {w s} (h : StAt w s) {a : Int} (ha : K64 a) : Calls Tryz.prog 63 #[.pointer (some ⟨s.p, 0, none⟩), .int .i64 a] w fun e w' => e = .returned (.int .i64 ((mget s.worn a).getD 0)) ∧ w = w' := by
  have c3 := h.c3
  have l3 := h.hW.look ha
  generalize (mget s.worn a).getD 0 = b at *
  clear h
  go_enter Tryz.func63, Tryz.ntmps63
  go_wp2
  go_ret
  exact ⟨rfl, rfl⟩
/-- a state at P, said plainly; its blocks are none of Z -/
def Sth (w : World) (P : Nat) (t : Ab) (Z : Nat → Prop) : Prop := ∃ s, s.p = P ∧ Whole w s ∧ ab s = t ∧ ∀ i ∈ foot s, ¬ Z i
theorem Sth.kp {w w' : World} {P t Z} {S : Nat → Prop} (h : Sth w P t Z) (k : Kp S w w') (hs : ∀ i, S i → Z i) : Sth w' P t Z := by
  obtain ⟨s, h1, h2, h3, h4⟩ := h
  exact ⟨s, h1, h2.frame fun i hi => k.block i (h2.at'.foot_lt i hi) (fun x => h4 i hi (hs i x)), h3, h4⟩
theorem Sth.call {w w' : World} {P t Z} (h : Sth w P t Z) (b : Below w.heap.size w w') : Sth w' P t Z := by
  obtain ⟨s, h1, h2, h3, h4⟩ := h
  exact ⟨s, h1, h2.call b, h3, h4⟩
theorem Sth.hold {w : World} {P t Z} (h : Sth w P t Z) : Hold 0 w P t w := by
  obtain ⟨s, h1, h2, h3, h4⟩ := h
  exact ⟨s, h1, h2, h3, Below.refl _ w, Nat.zero_le _, fun _ _ => Nat.zero_le _⟩
theorem Sth.more {w : World} {P t} {Z Z' : Nat → Prop} (h : Sth w P t Z) (hz : ∀ i, Z' i → Z i ∨ w.heap.size ≤ i) : Sth w P t Z' := by
  obtain ⟨s, h1, h2, h3, h4⟩ := h
  exact ⟨s, h1, h2, h3, fun i hi x => (hz i x).elim (h4 i hi) (fun q => by have := h2.at'.foot_lt i hi; omega)⟩
theorem Hold.sth {B : Nat} {w0 w : World} {P t} (h : Hold B w0 P t w) {Z : Nat → Prop} (hz : ∀ i, Z i → i < B) : Sth w P t Z := by
  obtain ⟨s, h1, h2, h3, h4, h5, h6⟩ := h
  exact ⟨s, h1, h2, h3, fun i hi x => by have := h6 i hi; have := hz i x; omega⟩
theorem hold_worn {B : Nat} {w0 w : World} {P t} (h : Hold B w0 P t w) {a : Int} (ha : K64 a) : Calls Tryz.prog 63 #[.pointer (some ⟨P, 0, none⟩), .int .i64 a] w fun e w' => e = .returned (.int .i64 ((mget t.worn a).getD 0)) ∧ w = w' := by
  obtain ⟨s, rfl, h2, rfl, h4, h5, h6⟩ := h
  exact worn_any h2.at' ha
/-- how often a block was erased, as a state tells it -/
def wo (t : Ab) (b : Int) : Int := (mget t.worn b).getD 0
/-- what is told of block b -/
def sn1 (wn : List Int) (t : Ab) (b : Nat) : List R6 := if wo t b < wn.getD b 0 then [(9, 0, 0, (b : Int), 0, wn.getD b 0)] else []
/-- what happened to the first blocks since -/
def sn (wn : List Int) (t : Ab) : Nat → List R6
  | 0 => []
  | b + 1 => sn wn t b ++ sn1 wn t b
theorem sn_len (wn : List Int) (t : Ab) : ∀ b, (sn wn t b).length ≤ b
  | 0 => Nat.le_refl _
  | b + 1 => by
    have := sn_len wn t b
    simp only [sn, List.length_append, sn1]
    split <;> simp <;> omega
end Go.Proofs.YtcmmhfjnhlaepabGreatDoor.S8
namespace Go.Proofs.YtcmmhfjnhlaepabGreatDoor
open Go Go.RowKit

theorem Fa.call {w w' : World} {f F A X} (h : Fa w f F A X) (b : Below w.heap.size w w') : Fa w' f F A X :=
  ⟨(b.block f (Array.getElem?_eq_some_iff.1 h.box).1).trans h.box, h.wtr.call b⟩
theorem Fa.lt {w : World} {f F A X} (h : Fa w f F A X) : f < w.heap.size := (Array.getElem?_eq_some_iff.1 h.box).1
/-- what since's loop holds -/
structure SnS (w : World) (f : Nat) (F : Fc) (A : Wl) (X : Wx) (t : S8.Ab) (Z : Nat → Prop) (vi v : Value) (k : Nat) (wr : World) : Prop where
  fa : Fa wr f F A X
  st : S8.Sth wr F.st t Z
  ids : Ints wr w.heap.size vi X.wn
  out : We.Ow wr w.heap.size 47 6 v ((S8.sn X.wn t k).map S8.rR)
  below : Below w.heap.size w wr
theorem SnS.next {w f F A X t Z vi v v3 k} {wr w3 : World} (h : SnS w f F A X t Z vi v k wr) (h0 : Fa w f F A X) (hs : S8.Sth w F.st t Z) (gr : wr.grownBy w3 v.ownBlock) (o3 : We.Ow w3 w.heap.size 47 6 v3 ((S8.sn X.wn t (k + 1)).map S8.rR)) : SnS w f F A X t Z vi v3 (k + 1) w3 := by
  have hlt : ∀ g, v.ownBlock = some g → w.heap.size ≤ g := fun g hg => (h.out.lt g hg).1
  have hb : Below w.heap.size w w3 := h.below.grown gr h.below.size hlt
  refine ⟨h0.call hb, hs.call hb, We.Ow.same h.ids (fun g hg => gr.block g (We.Ow.lt h.ids g hg).2 (fun e => ?_)), o3, hb⟩
  have := Gp.owns_ne (h.ids.lower (Nat.zero_le _)).own (h.out.lower (Nat.zero_le _)).own (by decide)
  rw [hg, ← e] at this
  simp at this
theorem SnS.same {w f F A X t Z vi v k} {wr : World} (h : SnS w f F A X t Z vi v k wr) (e : (S8.sn X.wn t (k + 1)).map S8.rR = (S8.sn X.wn t k).map S8.rR) : SnS w f F A X t Z vi v (k + 1) wr :=
  ⟨h.fa, h.st, h.ids, by rw [e]; exact h.out, h.below⟩
end Go.Proofs.YtcmmhfjnhlaepabGreatDoor
namespace Go.Proofs.YtcmmhfjnhlaepabGreatDoor
open Go Go.RowKit

set_option maxRecDepth 20000 in
theorem since_any {w f F A X t Z} (h : Fa w f F A X) (hS : S8.Sth w F.st t Z) (hb : Lf.cnt X.xs 3 = 0) (hw : ∀ n, 0 ≤ X.wn.getD n 0 ∧ X.wn.getD n 0 < 1000000) :
    Calls Tryz.prog 71 #[.pointer (some ⟨f, 0, none⟩)] w fun e w' => ∃ v, e = .returned v ∧ We.Ow w' w.heap.size 47 6 v ((S8.sn X.wn t X.C.B).map S8.rR) ∧ Below w.heap.size w w' := by
  have hg := h.wtr.chip.geo
  have hlen : X.xs.length = X.C.B := h.wtr.lif.ok.len
  have hwl : X.wn.length = X.C.B := h.wtr.wlen
  obtain ⟨_, c8, _⟩ := h.ptr
  have HW := Hid.mk (wworn_any h.wtr)
  have H := Hid.mk (And.intro h (And.intro hS (And.intro hb (And.intro hw (And.intro hlen hwl)))))
  clear h hS hb hw hlen
  go_enter Tryz.func71, Tryz.ntmps71
  go_upto_region 3 with (first | (go_at_call 123; refine HW.out.mono ?_; rintro e w1 ⟨vi, rfl, i1, b1⟩; obtain ⟨ia, ic, rfl⟩ := i1.form))
  have S0 : SnS w f F A X t Z (.slice ia X.wn.length ic) (.slice none 0 0) 0 w1 := ⟨H.out.1.call b1, H.out.2.1.call b1, i1, We.Ow.nil _ _ _ _, b1⟩
  replace S0 := Hid.mk S0
  rw [hwl] at S0
  have hB : X.C.B ≤ 32 := by omega
  clear i1 b1 c8 hg hwl
  generalize hn : X.C.B = n at *
  replace hn := Hid.mk hn
  go_loopw [3, 12] (fun v i wr => ∃ k : Nat, k ≤ n ∧ i = .int .i64 k ∧ SnS w f F A X t Z (.slice ia n ic) v k wr) (fun _ i _ => n - (intOf i).toNat)
  case atStart => exact ⟨0, Nat.zero_le _, rfl, S0.out⟩
  case round =>
    clear S0
    obtain ⟨k, hk, rfl, hs⟩ := hrel
    by_cases hkn : k < n
    · have hkI : (k : Int) < (n : Int) := by omega
      have hnn := hn.out
      obtain ⟨g, rfl, hgl, -, cj, cf⟩ := hs.ids.cell (j := k) (by rw [H.out.2.2.2.2.2]; omega)
      have hbad := isBad_any hs.fa (k : Int)
      rw [cnt_none H.out.2.2.1 k (by rw [H.out.2.2.2.2.1]; omega)] at hbad
      obtain ⟨_, _, c9⟩ := hs.fa.ptr
      have hwo := S8.hold_worn hs.st.hold (a := (k : Int)) (S8.k64 (by omega) (by omega))
      have hwn := H.out.2.2.2.1 k
      have hsn : (S8.sn X.wn t (k + 1)).map S8.rR = (S8.sn X.wn t k).map S8.rR ++ (S8.sn1 X.wn t k).map S8.rR := by rw [S8.sn, List.map_append]
      have hrl : ((S8.sn X.wn t k).map S8.rR).length < 1000000 := by rw [List.length_map]; have := S8.sn_len X.wn t k; omega
      unfold S8.sn1 S8.wo at hsn
      obtain ⟨x, hx⟩ : ∃ x, X.wn.getD k 0 = x := ⟨_, rfl⟩
      obtain ⟨y, hy⟩ : ∃ y, (S8.mget t.worn (k : Int)).getD 0 = y := ⟨_, rfl⟩
      rw [hx] at hwn hsn cj
      rw [hy] at hwo hsn
      have hm : min x 1073741824 = x := by omega
      have HB := Hid.mk hbad
      have HO := Hid.mk hwo
      by_cases hyx : y < x
      · rw [if_pos hyx] at hsn
        have HS := Hid.mk (And.intro hs (And.intro hsn hrl))
        clear hs hsn hrl hbad hwo hx hy hgl
        go_wp2_with (first
          | (go_at_call 47; refine HB.out.mono ?_; rintro e w2 ⟨rfl, rfl⟩)
          | (go_at_call 63; refine HO.out.mono ?_; rintro e w2 ⟨rfl, rfl⟩)
          | (at_builtin; refine We.wp_app S8.ei47 rfl _ _ rfl HS.out.1.out HS.out.1.below.size (S8.cR (9, 0, 0, (k : Int), 0, x)) rfl rfl rfl (S8.cR_one _) HS.out.2.2 ?_; intro v3 w3 o3 g3 p3))
        have o4 : We.Ow w3 w.heap.size 47 6 v3 ((S8.sn X.wn t (k + 1)).map S8.rR) := by rw [HS.out.2.1]; exact o3
        exact ⟨⟨k + 1, by omega, by go_num, HS.out.1.next H.out.1 H.out.2.1 g3 o4⟩, by simp [intOf]; omega⟩
      · rw [if_neg hyx, List.map_nil, List.append_nil] at hsn
        have HS := Hid.mk (And.intro hs (And.intro hsn hrl))
        clear hs hsn hrl hbad hwo hx hy hgl
        go_wp2_with (first
          | (go_at_call 47; refine HB.out.mono ?_; rintro e w2 ⟨rfl, rfl⟩)
          | (go_at_call 63; refine HO.out.mono ?_; rintro e w2 ⟨rfl, rfl⟩))
        exact ⟨⟨k + 1, by omega, by go_num, HS.out.1.same HS.out.2.1⟩, by simp [intOf]; omega⟩
    · have hk2 : k = n := by omega
      subst hk2
      have HS := Hid.mk hs
      clear hs
      go_wp2_with fail
      go_ret
      exact ⟨_, rfl, by rw [hn.out]; exact HS.out.out, HS.out.below⟩
end Go.Proofs.YtcmmhfjnhlaepabGreatDoor
namespace Go.Proofs.YtcmmhfjnhlaepabGreatDoor
open Go Go.RowKit

theorem dropR (l : List Gp.R6) (k : Nat) (h : k < l.length) : l.drop k = l.getD k (0, 0, 0, 0, 0, 0) :: l.drop (k + 1) := by
  rw [List.drop_eq_getElem_cons h]
  simp [List.getD_eq_getElem?_getD, h]
set_option maxRecDepth 20000 in
theorem behind_any {w f F A X t Z} (h : Fa w f F A X) (hS : S8.Sth w F.st t Z) (ra : Option Addr) (rc : Nat) (rs : List Gp.R6) (hx : Gp.RecsF w ra rs.length (fun i => rs.getD i (0, 0, 0, 0, 0, 0))) (hl : rs.length ≤ 1000) (t' : S8.Ab) (hp : S8.plays t rs t') :
    Calls Tryz.prog 70 #[.pointer (some ⟨f, 0, none⟩), .slice ra rs.length rc] w fun e w' => ∃ P, e = .returned (.tuple #[.pointer (some ⟨P, 0, none⟩), .int .i64 0]) ∧ S8.Hold w.heap.size w P t' w' := by
  obtain ⟨_, _, c9⟩ := h.ptr
  have HC : Hid (Calls Tryz.prog 46 #[.pointer (some ⟨F.st, 0, none⟩)] w fun e w' => ∃ P, e = .returned (.pointer (some ⟨P, 0, none⟩)) ∧ S8.Hold w.heap.size w P t w') := by
    obtain ⟨s, h1, h2, h3, h4⟩ := hS
    rw [← h1]
    refine (S8.copy_any h2).mono ?_
    rintro e w' ⟨s2, rfl, g1, g2, g3, g4⟩
    exact ⟨s2.p, rfl, s2, rfl, g1, g2.trans h3, g4, Nat.le_refl _, g3⟩
  have HX := Hid.mk hx
  have HP := Hid.mk hp
  clear h hS hx hp
  generalize hn : rs.length = n at *
  replace hn := Hid.mk hn
  go_enter Tryz.func70, Tryz.ntmps70
  go_upto_region 3 with (first | (go_at_call 46; refine HC.out.mono ?_; rintro e w1 ⟨P, rfl, h1⟩))
  have H1 := Hid.mk h1
  clear h1 c9 HC
  go_loopw [8, 9, 17] (fun _ _ i wr => ∃ (k : Nat) (tk : S8.Ab), k ≤ n ∧ i = .int .i64 k ∧ S8.plays tk (rs.drop k) t' ∧ S8.Hold w.heap.size w P tk wr) (fun _ _ i _ => n - (intOf i).toNat)
  case atStart => exact ⟨0, t, Nat.zero_le _, rfl, HP.out, H1.out⟩
  case round =>
    obtain ⟨k, tk, hk, rfl, hpk, hI⟩ := hrel
    by_cases hlt : k < n
    · have hltI : (k : Int) < (n : Int) := by omega
      have hltl : k < rs.length := by rw [hn.out]; exact hlt
      obtain ⟨g, o, rfl, hg, c0, c1', c2', c3, c4, c5⟩ := (HX.out.below hI.below) k hlt
      rw [dropR rs k hltl] at hpk
      dsimp only at c0 c1' c2' c3 c4 c5
      generalize rs.getD k (0, 0, 0, 0, 0, 0) = r at *
      obtain ⟨x0, x1, x2, x3, x4, x5⟩ := r
      dsimp only at c0 c1' c2' c3 c4 c5
      obtain ⟨hp0, hpk⟩ := hpk
      have hbl := Pg.below_one wr (.cells #[.int .i64 x0, .int .i64 x1, .int .i64 x2, .int .i64 x3, .int .i64 x4, .int .i64 x5] 47)
      have hrow : Row (wr.alloc (.cells #[.int .i64 x0, .int .i64 x1, .int .i64 x2, .int .i64 x3, .int .i64 x4, .int .i64 x5] 47)) wr.heap.size 47 .i64 [x0, x1, x2, x3, x4, x5] := Row.fresh wr 47 .i64 [x0, x1, x2, x3, x4, x5]
      have hA := S8.hold_apply (hI.call hbl) x0 x1 x2 x3 x4 x5
      unfold S8.apR at hp0 hpk
      dsimp only at hp0 hpk
      rw [hp0] at hA
      obtain ⟨d0, d1, d2, d3, d4, d5⟩ := hrow.six
      have HA := Hid.mk hA
      have HK := Hid.mk hpk
      clear hI hpk hA hrow hbl hp0
      generalize (S8.apA tk x0 x1 x2 x3 x4 x5).1 = t2 at *
      go_wp2_with (first | (go_at_call 48; refine HA.out.mono ?_; rintro e w2 ⟨rfl, h2⟩))
      exact ⟨⟨k + 1, t2, by omega, by go_num, HK.out, h2⟩, by simp [intOf]; omega⟩
    · have hk2 : k = n := by omega
      subst hk2
      rw [List.drop_of_length_le (by rw [hn.out]; omega)] at hpk
      cases hpk
      have HS := Hid.mk hI
      clear hI
      go_wp2_with fail
      go_ret2
      exact ⟨_, rfl, HS.out⟩
end Go.Proofs.YtcmmhfjnhlaepabGreatDoor
namespace Go.Proofs.YtcmmhfjnhlaepabGreatDoor
open Go Go.RowKit

theorem La.call {w w' : World} {f F A X g l} (h : La w f F A X g l) (b : w'.heap[g]? = w.heap[g]?) : La w' f F A X g l :=
  ⟨h.la, b.trans h.row, h.len, h.ne, h.own⟩
theorem Tl.call {w w' : World} {f F A X g l} (h : Tl w f F A X g l) (b : w'.heap[g]? = w.heap[g]?) : Tl w' f F A X g l :=
  ⟨h.tl, b.trans h.row, h.len, h.ne, h.own⟩
theorem La.lt {w : World} {f F A X g l} (h : La w f F A X g l) : g < w.heap.size := h.row.lt
theorem Tl.lt {w : World} {f F A X g l} (h : Tl w f F A X g l) : g < w.heap.size := (Array.getElem?_eq_some_iff.1 h.row).1
/-- the blocks that no block of the state may be -/
def Zs (w0 : World) (f gl gt : Nat) (A : Wl) (X : Wx) (i : Nat) : Prop := i < w0.heap.size ∨ i = f ∨ i = gl ∨ i = gt ∨ A.own X.C.B i
/-- an FTL at f that the call itself has made, behind w0 -/
structure Ft (w0 : World) (f : Nat) (F : Fc) (A : Wl) (X : Wx) (gl : Nat) (la : List Int) (gt : Nat) (tl : List Bool) (t : S8.Ab) (w : World) : Prop where
  fa : Fa w f F A X
  la : La w f F A X gl la
  tl : Tl w f F A X gt tl
  st : S8.Sth w F.st t (Zs w0 f gl gt A X)
  tab : Pg.Tab w
  fo : ¬ A.own X.C.B f
  ne : gl ≠ gt
  below : Below w0.heap.size w0 w
  lo : w0.heap.size ≤ A.lo ∧ w0.heap.size ≤ f ∧ w0.heap.size ≤ gl ∧ w0.heap.size ≤ gt
  z0 : 0 < w0.heap.size
theorem Ft.call {w0 f F A X gl la gt tl t} {w w' : World} (h : Ft w0 f F A X gl la gt tl t w) (b : Below w.heap.size w w') : Ft w0 f F A X gl la gt tl t w' :=
  ⟨h.fa.call b, h.la.call (b.block _ h.la.lt), h.tl.call (b.block _ h.tl.lt), h.st.call b, h.tab.call b, h.fo, h.ne, below3 h.below b, h.lo, h.z0⟩
theorem Ft.drewN {w0 f F A X gl la gt tl t} {w : World} (h : Ft w0 f F A X gl la gt tl t w) (n : Nat) : Ft w0 f F A X gl la gt tl t (w.drewN n) := h.call ⟨rfl, rfl, rfl, Nat.le_refl _, fun _ _ => rfl⟩
theorem Ft.drew {w0 f F A X gl la gt tl t} {w : World} (h : Ft w0 f F A X gl la gt tl t w) : Ft w0 f F A X gl la gt tl t w.drew := h.call (Below.refl _ w).drew
/-- its writer has done something -/
theorem Ft.next {w0 f F A X A' X' gl la gt tl t} {w w' : World} (h : Ft w0 f F A X gl la gt tl t w) (hw : Wtr w' A' X') (n : Nxt A A' X.C.B w w') (g : Geq X' X) : Ft w0 f F A' X' gl la gt tl t w' := by
  obtain ⟨gB, gP, gZ⟩ := g
  have hf := h.fa.lt
  have hgl := h.la.lt
  have hgt := h.tl.lt
  have own' : ∀ i, i < w.heap.size → ¬ A.own X.C.B i → ¬ A'.own X'.C.B i := fun i hi ho x => by
    rw [gB] at x
    rcases n.own i x with q | q
    · exact ho q
    · omega
  have b1 := n.kp.block f hf h.fo
  have b2 := n.kp.block gl hgl h.la.own
  have b3 := n.kp.block gt hgt h.tl.own
  refine ⟨⟨?_, hw⟩, ⟨by rw [gB]; exact h.la.la, b2.trans h.la.row, by rw [gB]; exact h.la.len, h.la.ne, own' _ hgl h.la.own⟩, ⟨by rw [gB, gP]; exact h.tl.tl, b3.trans h.tl.row, by rw [gB, gP]; exact h.tl.len, h.tl.ne, own' _ hgt h.tl.own⟩, ?_, Tab.off h.tab n.kp h.fa.wtr.zero, own' _ hf h.fo, h.ne, Kp.below h.below n.kp h.below.size (fun i hi => Nat.le_trans h.lo.1 (h.fa.wtr.low i hi)), by rw [n.lo]; exact h.lo, h.z0⟩
  · rw [b1, h.fa.box]
    unfold Fc.cells
    rw [gB, gP, gZ, n.a, n.L]
  · have s1 := h.st.more (Z' := fun i => Zs w0 f gl gt A X i ∨ w.heap.size ≤ i) (fun i x => x)
    have s2 := s1.kp n.kp (fun i hi => .inl (.inr (.inr (.inr (.inr hi)))))
    refine s2.more (fun i x => .inl ?_)
    rcases x with x | x | x | x | x
    · exact .inl (.inl x)
    · exact .inl (.inr (.inl x))
    · exact .inl (.inr (.inr (.inl x)))
    · exact .inl (.inr (.inr (.inr (.inl x))))
    · rw [gB] at x
      rcases n.own i x with q | q
      · exact .inl (.inr (.inr (.inr (.inr q))))
      · exact .inr q
theorem Fa.cel {w : World} {f F A X} (h : Fa w f F A X) : Cel w f := ⟨_, _, _, h.box⟩
/-- a row of it is another one -/
theorem Ft.laTo {w0 f F A X gl la gt tl t la'} {w w' : World} (h : Ft w0 f F A X gl la gt tl t w) (hf : Fa w' f F A X) (hl : La w' f F A X gl la') (k : Kp (fun i => i = gl) w w') : Ft w0 f F A X gl la' gt tl t w' := by
  refine ⟨hf, hl, h.tl.call (k.block _ h.tl.lt (fun e => h.ne e.symm)), h.st.kp k (fun i hi => .inr (.inr (.inl hi))), Tab.off h.tab k (fun e => ?_), h.fo, h.ne, Kp.below h.below k h.below.size (fun i hi => by rw [hi]; exact h.lo.2.2.1), h.lo, h.z0⟩
  have := h.lo.2.2.1
  have := h.z0
  omega
theorem Ft.tlTo {w0 f F A X gl la gt tl t tl'} {w w' : World} (h : Ft w0 f F A X gl la gt tl t w) (hf : Fa w' f F A X) (hl : Tl w' f F A X gt tl') (k : Kp (fun i => i = gt) w w') : Ft w0 f F A X gl la gt tl' t w' := by
  refine ⟨hf, h.la.call (k.block _ h.la.lt (fun e => h.ne e)), hl, h.st.kp k (fun i hi => .inr (.inr (.inr (.inl hi)))), Tab.off h.tab k (fun e => by have := h.lo.2.2.2; have := h.z0; omega), h.fo, h.ne, Kp.below h.below k h.below.size (fun i hi => by rw [hi]; exact h.lo.2.2.2), h.lo, h.z0⟩
/-- a cell of its own is another one -/
theorem Ft.cell {w0 f F A X gl la gt tl t F'} {w : World} (h : Ft w0 f F A X gl la gt tl t w) (j : Nat) (v : Value) (hc : F'.cells A X.C.B X.C.P X.C.Z = (F.cells A X.C.B X.C.P X.C.Z).setIfInBounds j v) (e1 : F'.la = F.la) (e2 : F'.tl = F.tl) (e3 : S8.Sth w F'.st t (Zs w0 f gl gt A X)) : Ft w0 f F' A X gl la gt tl t (w.setCell ⟨f, j, none⟩ v) := by
  have k : Kp (fun i => i = f) w (w.setCell ⟨f, j, none⟩ v) := (Kp.refl (fun i => i = f) w).setCell (p := ⟨f, j, none⟩) rfl v
  have hr := h.la.call (k.block _ h.la.lt (fun e => h.la.ne e))
  have hT := h.tl.call (k.block _ h.tl.lt (fun e => h.tl.ne e))
  refine ⟨⟨?_, h.fa.wtr.off k (fun i hi => ⟨by rw [hi]; exact h.fo, by rw [hi]; exact h.fa.cel⟩)⟩, ⟨by rw [e1]; exact hr.la, hr.row, hr.len, hr.ne, hr.own⟩, ⟨by rw [e2]; exact hT.tl, hT.row, hT.len, hT.ne, hT.own⟩, e3.kp k (fun i hi => .inr (.inl hi)), Tab.off h.tab k (fun e => by have := h.lo.2.1; have := h.z0; omega), h.fo, h.ne, Kp.below h.below k h.below.size (fun i hi => by rw [hi]; exact h.lo.2.1), h.lo, h.z0⟩
  rw [heap_setCell_same w f j _ 75 _ h.fa.box, hc]
/-- an FTL's own blocks, but for its state's -/
def Fo (f gl gt : Nat) (A : Wl) (X : Wx) (i : Nat) : Prop := i = f ∨ i = gl ∨ i = gt ∨ A.own X.C.B i
/-- what an FTL has done: what is not its own lies as it lay -/
structure Mv (f gl gt : Nat) (A : Wl) (X : Wx) (A' : Wl) (X' : Wx) (w w' : World) : Prop where
  kp : Kp (Fo f gl gt A X) w w'
  own : ∀ i, A'.own X'.C.B i → A.own X.C.B i ∨ w.heap.size ≤ i
  L : A'.L = A.L
  a : A'.a = A.a
theorem Mv.refl (f gl gt : Nat) (A : Wl) (X : Wx) (w : World) : Mv f gl gt A X A X w w := ⟨Kp.refl _ w, fun _ h => .inl h, rfl, rfl⟩
theorem Mv.trans {f gl gt A X A1 X1 A2 X2} {w w1 w2 : World} (h : Mv f gl gt A X A1 X1 w w1) (k : Mv f gl gt A1 X1 A2 X2 w1 w2) : Mv f gl gt A X A2 X2 w w2 := by
  refine ⟨⟨k.kp.os.trans h.kp.os, k.kp.tape.trans h.kp.tape, k.kp.output.trans h.kp.output, Nat.le_trans h.kp.size k.kp.size, fun i hi hn => ?_⟩, fun i x => ?_, k.L.trans h.L, k.a.trans h.a⟩
  · refine (k.kp.block i (Nat.lt_of_lt_of_le hi h.kp.size) (fun x => ?_)).trans (h.kp.block i hi hn)
    rcases x with x | x | x | x
    · exact hn (.inl x)
    · exact hn (.inr (.inl x))
    · exact hn (.inr (.inr (.inl x)))
    · rcases h.own i x with q | q
      · exact hn (.inr (.inr (.inr q)))
      · omega
  · rcases k.own i x with q | q
    · exact h.own i q
    · exact .inr (Nat.le_trans h.kp.size q)
theorem Mv.call {f gl gt A X A1 X1} {w w1 w2 : World} (h : Mv f gl gt A X A1 X1 w w1) (b : Below w1.heap.size w1 w2) : Mv f gl gt A X A1 X1 w w2 := ⟨h.kp.call b, h.own, h.L, h.a⟩
theorem Mv.of {f gl gt A X} {w w' : World} {S : Nat → Prop} (k : Kp S w w') (hs : ∀ i, S i → Fo f gl gt A X i) : Mv f gl gt A X A X w w' := ⟨k.mono hs, fun _ h => .inl h, rfl, rfl⟩
theorem Mv.nxt {f gl gt A X A' X'} {w w' : World} (n : Nxt A A' X.C.B w w') (g : Geq X' X) : Mv f gl gt A X A' X' w w' :=
  ⟨n.kp.mono (fun i hi => .inr (.inr (.inr hi))), fun i x => n.own i (by rw [← g.1]; exact x), n.L, n.a⟩
end Go.Proofs.YtcmmhfjnhlaepabGreatDoor
namespace Go.Proofs.YtcmmhfjnhlaepabGreatDoor
open Go Go.RowKit

/-- nothing fails from now on -/
structure Calm (X : Wx) : Prop where
  cuts : ∀ i, X.C.cuts i = none
  fails : ∀ i, X.C.fails i = false
theorem Calm.hc {X : Wx} (h : Calm X) {D a r T Q} (hq : Sq D X a r T Q) (kf : Int × Int) : ∀ i : Nat, X.C.did ≤ i → X.C.cuts ((i : Int) + 1) = if i + D + 1 = ((0 : Nat) : Int) then some kf else none := fun i hi => by
  have := hq.did
  rw [h.cuts, if_neg (by omega)]
theorem Calm.same {X X' : Wx} (h : Calm X) (h1 : X'.C.cuts = X.C.cuts) (h2 : X'.C.fails = X.C.fails) : Calm X' := ⟨by rw [h1]; exact h.cuts, by rw [h2]; exact h.fails⟩
/-- what writeData reads at its call -/
def Wd3 (f a g : Nat) (n : Nat) (w' : World) : Prop := Pg.TB w' g 1 n 0 1 0 ∧ w'.cell? ⟨f, 8, none⟩ = some (.pointer (some ⟨a, 0, none⟩))
theorem Wd3.kp {f a g n} {S : Nat → Prop} {w1 w2 : World} (h : Wd3 f a g n w1) (k : Kp S w1 w2) (hs : ∀ i, S i → i ≠ g ∧ i ≠ f) (hf : f < w1.heap.size) : Wd3 f a g n w2 := by
  refine ⟨(k.block g h.1.lt (fun x => (hs _ x).1 rfl)).trans h.1, ?_⟩
  have := h.2
  unfold World.cell? at this ⊢
  rw [k.block f hf (fun x => (hs _ x).2 rfl)]
  exact this
theorem Wd3.facts {f a g n} {w' : World} (h : Wd3 f a g n w') : w'.cell? ⟨f, 8, none⟩ = some (.pointer (some ⟨a, 0, none⟩)) ∧ w'.cell? ⟨g, 0, none⟩ = some (.int .i64 1) ∧ w'.cell? ⟨g, 1, none⟩ = some (.int .u64 n) ∧ w'.cell? ⟨g, 2, none⟩ = some (.int .i64 0) ∧ w'.cell? ⟨g, 3, none⟩ = some (.int .i64 1) ∧ w'.cell? ⟨g, 4, none⟩ = some (.int .i64 0) := by
  obtain ⟨c0, c1, c2, c3, c4⟩ := h.1.five
  exact ⟨h.2, c0, c1, c2, c3, c4⟩
set_option maxRecDepth 20000 in
theorem writeData_any {w0 f F A X gl la gt tl t} {w : World} (h : Ft w0 f F A X gl la gt tl t w) (hc : Calm X) {D : Int} {a r : Nat} {T : Nat → ByteArray} {Q : Nat → Tg} (hq : Sq D X a r T Q) (hab : a < X.C.B) (n0 : Nat) (hn0 : a * X.C.P + r = n0) (n : Nat) (hn : F.nx = n) (hnl : n < 1000000) (s : ByteArray) (hT : T n0 = s) (hQ : Q n0 = (1, n, 0, 1)) (hs : s.size ≤ X.C.Z) :
    Calls Tryz.prog 106 #[.pointer (some ⟨f, 0, none⟩), .string s] w fun e w' => e = .returned (.tuple #[.int .i64 n0, .int .i64 0]) ∧ ∃ A' X' a' r', Ft w0 f { F with nx := ((n + 1 : Nat) : Int) } A' X' gl (la.set a (n : Int)) gt tl t w' ∧ Geq X' X ∧ Calm X' ∧ a' * X.C.P + r' = n0 + 1 ∧ Sq D X' a' r' T Q ∧ Mv f gl gt A X A' X' w w' := by
  have c8 := h.fa.ptr.2.1
  have c12 : w.cell? ⟨f, 12, none⟩ = some (.int .u64 F.nx) := h.fa.c 12
  rw [hn] at c12
  have hwn : IntKind.u64.wrap ((n : Int) + 1) = ((n + 1 : Nat) : Int) := by rw [IntKind.wrap_u64]; omega
  have hf := h.fa.lt
  have ff : w.frozen? ⟨f, 12, none⟩ = false := frozen_of_row w f 12 _ _ h.fa.box
  have H := Hid.mk h
  clear h
  go_enter Tryz.func106, Tryz.ntmps106
  go_upto_region 3 with fail
  have h1 : Ft w0 f { F with nx := ((n + 1 : Nat) : Int) } A X gl la gt tl t (w.setCell ⟨f, 12, none⟩ (.int .u64 (n + 1))) := H.out.cell 12 _ rfl rfl rfl H.out.st
  have b1 := Pg.below_one (w.setCell ⟨f, 12, none⟩ (.int .u64 (n + 1))) (.cells #[.int .i64 1, .int .u64 (n : Int), .int .i64 0, .int .i64 1, .int .i64 0] 97)
  have m1 : Mv f gl gt A X A X w ((w.setCell ⟨f, 12, none⟩ (.int .u64 (n + 1))).alloc (.cells #[.int .i64 1, .int .u64 (n : Int), .int .i64 0, .int .i64 1, .int .i64 0] 97)) := (Mv.of (S := fun i => i = f) ((Kp.refl (fun i => i = f) w).setCell (p := ⟨f, 12, none⟩) rfl _) (fun i hi => .inl hi)).call b1
  have h2 := h1.call b1
  have hT1 := heap_alloc_new (w.setCell ⟨f, 12, none⟩ (.int .u64 (n + 1))) (.cells #[.int .i64 1, .int .u64 (n : Int), .int .i64 0, .int .i64 1, .int .i64 0] 97)
  have hsz : (w.setCell ⟨f, 12, none⟩ (.int .u64 (n + 1))).heap.size = w.heap.size := by simp [World.setCell]
  rw [hsz] at hT1
  have hsz2 : ((w.setCell ⟨f, 12, none⟩ (.int .u64 (n + 1))).alloc (.cells #[.int .i64 1, .int .u64 (n : Int), .int .i64 0, .int .i64 1, .int .i64 0] 97)).heap.size = w.heap.size + 1 := by rw [size_alloc, hsz]
  obtain ⟨W, hW⟩ : ∃ W, (w.setCell ⟨f, 12, none⟩ (.int .u64 (n + 1))).alloc (.cells #[.int .i64 1, .int .u64 (n : Int), .int .i64 0, .int .i64 1, .int .i64 0] 97) = W := ⟨_, rfl⟩
  rw [hW] at h2 m1 hT1 hsz2
  rw [hW]
  have hS : Wd3 f A.a w.heap.size n W.drew := ⟨hT1, h2.fa.ptr.2.1⟩
  have hA := append_w h2.drew.fa.wtr h2.drew.tab hq hab 1 n 0 1 (by rw [hn0]; exact hQ) ⟨by unfold Pg.mayB; dsimp only; omega, by dsimp only; omega⟩ s (by rw [hn0]; exact hT) hs 0 (0, 0) (hc.hc hq _) hc.fails 0
  have hg8 : ∀ i, A.own X.C.B i → i ≠ w.heap.size ∧ i ≠ f := fun i hi => ⟨by have := H.out.fa.wtr.lt i hi; omega, fun e => H.out.fo (e ▸ hi)⟩
  rw [hn0] at hA
  unfold Pg.tagV at hA
  rw [show ((1 : Nat) : Int) = 1 from rfl, show ((0 : Nat) : Int) = 0 from rfl] at hA
  have H2 := Hid.mk (And.intro h2.drew (And.intro (m1.call (Below.refl _ W).drew) (And.intro hg8 hsz2)))
  replace hA := Hid.mk hA
  generalize w.heap.size = g6 at *
  clear h1 b1 h2 m1 hT1 hsz hsz2 hg8 hW c8 c12 ff hf
  refine wp_region_held_drew (S := fun w' => Wd3 f A.a g6 n w') (by kernel_rfl) hS (fun hHeld => ?_)
  refine tkF 0 (fun _ q => Wd3.facts q) hHeld ?_
  refine tkF 1 (fun _ q => Wd3.facts q) hHeld ?_
  refine tkF 2 (fun _ q => Wd3.facts q) hHeld ?_
  refine tkF 3 (fun _ q => Wd3.facts q) hHeld ?_
  refine tkF 4 (fun _ q => Wd3.facts q) hHeld ?_
  refine tkF 5 (fun _ q => Wd3.facts q) hHeld ?_
  refine wpAnyH_ready (rs := [6]) (by kernel_rfl) (by simp) ?_
  refine arH rfl (fun K hK => ?_) AllReadyH.nil
  go_simp
  go_at_call 152
  refine hA.out.mono ?_
  rintro e w5 ⟨X5, A5, hw5, n5, g5, cu5, fa5, hcase⟩
  have h5 := H2.out.1.next hw5 n5 g5
  have m5 := H2.out.2.1.trans (Mv.nxt n5 g5)
  have hH5 := hHeld.kp n5.kp H2.out.2.2.1 H2.out.1.fa.lt
  have hc5 := hc.same cu5 fa5
  rcases hcase with ⟨_, rfl, a5, r5, har5, hq5⟩ | ⟨h0, _⟩
  · have HW := Hid.mk (wrote_any h5.fa h5.la a r (by rw [g5.1]; exact hab) (by rw [g5.2.1]; have := hq.le; omega) (n : Int))
    rw [g5.2.1, hn0] at HW
    have H5 := Hid.mk (And.intro h5 (And.intro m5 (And.intro g5 (And.intro hc5 (And.intro har5 hq5)))))
    clear hw5 n5 g5 cu5 fa5 h5 m5 hc5 har5 hq5
    refine hK.out _ _ hH5 (fun hHeld => ?_)
    clear hK K
    try simp only [Act.put, zA, zB, zC]
    refine tkF 7 (fun _ q => Wd3.facts q) hHeld ?_
    refine tkF 8 (fun _ q => Wd3.facts q) hHeld ?_
    refine tkF 9 (fun _ q => Wd3.facts q) hHeld ?_
    refine tkF 10 (fun _ q => Wd3.facts q) hHeld ?_
    refine tkF 11 (fun _ q => Wd3.facts q) hHeld ?_
    refine wpAnyH_done (by kernel_rfl) ?_ _
    obtain ⟨_, _, c1, _⟩ := hH5.facts
    clear hH5
    go_wp2_with (go_at_call 125; refine HW.out.mono ?_; rintro e w6 ⟨rfl, h6, l6, k6⟩)
    go_ret2
    refine ⟨rfl, A5, X5, a5, r5, H5.out.1.laTo h6 l6 k6, H5.out.2.2.1, H5.out.2.2.2.1, H5.out.2.2.2.2.1, H5.out.2.2.2.2.2, H5.out.2.1.trans (Mv.of k6 (fun i hi => .inr (.inl hi)))⟩
  · exact absurd h0 (by omega)
end Go.Proofs.YtcmmhfjnhlaepabGreatDoor
namespace Go.Proofs.YtcmmhfjnhlaepabGreatDoor
open Go Go.RowKit

/-- what writeRecords reads at its call -/
def Wr2 (f a : Nat) (Z : Nat) (w' : World) : Prop := w'.cell? ⟨f, 8, none⟩ = some (.pointer (some ⟨a, 0, none⟩)) ∧ w'.cell? ⟨f, 3, none⟩ = some (.int .i64 Z)
theorem Wr2.facts {f a Z} {w' : World} (h : Wr2 f a Z w') : w'.cell? ⟨f, 8, none⟩ = some (.pointer (some ⟨a, 0, none⟩)) ∧ w'.cell? ⟨f, 3, none⟩ = some (.int .i64 Z) := h
theorem sqN_0 (K : Int) (s : Nat) : sqN K s 0 = s := by unfold sqN; split <;> rfl
set_option maxRecDepth 20000 in
theorem writeRecs_any {w0 f F A X gl la gt tl t} {w : World} (h : Ft w0 f F A X gl la gt tl t w) (hc : Calm X) {D : Int} {a r : Nat} {T : Nat → ByteArray} {Q : Nat → Tg} (hq : Sq D X a r T Q) (hab : a < X.C.B) (n0 : Nat) (hn0 : a * X.C.P + r = n0) (n : Nat) (hn : F.nx = n) (hnl : n < 1000000)
    (rs : List Gp.R6) (ra : Option Addr) (rc : Nat) (hx : Gp.RecsF w ra rs.length (fun i => rs.getD i (0, 0, 0, 0, 0, 0))) (hmay : ∀ r ∈ rs, Gp.R6.may r = true) (hl : rs.length ≤ 20000) (K : Nat) (hK : 1 ≤ K ∧ K ≤ 3)
    (tx : ByteArray) (hts : Gp.packGo X.C.Z (rs.map Gp.R6.put) [] ⟨#[]⟩ = [tx]) (hT : T n0 = tx) (hQ : Q n0 = (K, n, 0, 1)) :
    Calls Tryz.prog 72 #[.pointer (some ⟨f, 0, none⟩), .slice ra rs.length rc, .int .i64 K] w fun e w' => ∃ v, e = .returned (.tuple #[v, .int .i64 0]) ∧ Ints w' w.heap.size v [(n0 : Int)] ∧ ∃ A' X' a' r', Ft w0 f { F with nx := ((n + 1 : Nat) : Int) } A' X' gl (la.set a (n : Int)) gt tl t w' ∧ Geq X' X ∧ Calm X' ∧ a' * X.C.P + r' = n0 + 1 ∧ Sq D X' a' r' T Q ∧ Mv f gl gt A X A' X' w w' := by
  have hgeo := h.fa.wtr.chip.geo
  have c12 : w.cell? ⟨f, 12, none⟩ = some (.int .u64 F.nx) := h.fa.c 12
  rw [hn] at c12
  have hr : r < X.C.P := by have := hq.le; omega
  have hroom : n0 + 1 ≤ X.C.B * X.C.P := by
    have := Nat.mul_le_mul_right X.C.P (show a + 1 ≤ X.C.B by omega)
    rw [Nat.succ_mul] at this
    omega
  have hS : Wr2 f A.a X.C.Z w.drew := ⟨h.fa.ptr.2.1, h.fa.c 3⟩
  have hW := write_any h.drew.fa.wtr h.drew.tab hq n0 hn0 rs ra rc (hx.below (Below.refl _ w).drew) hmay hl K hK n hnl X.C.Z (by omega) [tx] hts (fun i hi => by
    obtain rfl : i = 0 := by simpa using hi
    rw [Nat.add_zero, sqN_0]
    exact ⟨hT, hQ⟩) 0 (0, 0) (hc.hc hq _) hc.fails (.inl (Nat.zero_le _))
  have hnx : nxv K n [tx].length = n + 1 := by
    show nxv K n 1 = _
    unfold nxv
    rw [if_neg (by omega), show 1 - 1 = 0 from rfl, sqN_0]
  rw [hnx, show ((n + 1 : Nat) : Int) = (n : Int) + 1 from rfl] at hW
  have H := Hid.mk h
  have HW := Hid.mk hW
  clear h hW hx hmay hts hT hQ hnx
  go_enter Tryz.func72, Tryz.ntmps72
  go_upto_region 2 with fail
  refine wp_region_held_drew (S := fun w' => Wr2 f A.a X.C.Z w') (by kernel_rfl) hS (fun hHeld => ?_)
  refine tkF 0 (fun _ q => Wr2.facts q) hHeld ?_
  refine tkF 1 (fun _ q => Wr2.facts q) hHeld ?_
  refine tkF 2 (fun _ q => Wr2.facts q) hHeld ?_
  refine tkF 3 (fun _ q => Wr2.facts q) hHeld ?_
  refine tkF 4 (fun _ q => Wr2.facts q) hHeld ?_
  refine tkF 5 (fun _ q => Wr2.facts q) hHeld ?_
  refine tkF 6 (fun _ q => Wr2.facts q) hHeld ?_
  refine tkF 7 (fun _ q => Wr2.facts q) hHeld ?_
  refine tkF 8 (fun _ q => Wr2.facts q) hHeld ?_
  refine tkF 9 (fun _ q => Wr2.facts q) hHeld ?_
  refine tkF 10 (fun _ q => Wr2.facts q) hHeld ?_
  refine tkF 11 (fun _ q => Wr2.facts q) hHeld ?_
  refine wpAnyH_ready (rs := [12]) (by kernel_rfl) (by simp) ?_
  refine arH rfl (fun K hK => ?_) AllReadyH.nil
  go_simp
  go_at_call 124
  refine HW.out.mono ?_
  rintro e w5 ⟨X5, A5, hw5, ht5, n5, g5, cu5, fa5, hcase⟩
  rcases hcase with ⟨_, _, ⟨v, rfl, i5⟩, a5, r5, har5, hq5⟩ | ⟨_, h0, _⟩ | ⟨h0, _⟩
  · have h5 := H.out.drew.next hw5 n5 g5
    have m5 : Mv f gl gt A X A5 X5 w w5 := ((Mv.refl f gl gt A X w).call (Below.refl _ w).drew).trans (Mv.nxt n5 g5)
    have hH5 : Wr2 f A.a X.C.Z w5 := ⟨by rw [← n5.a]; exact h5.fa.ptr.2.1, by rw [← g5.2.2]; exact h5.fa.c 3⟩
    have hc5 := hc.same cu5 fa5
    have hp : plc n0 [tx].length = [(n0 : Int)] := by show plc n0 1 = _; simp [plc]
    rw [hp] at i5
    have hgf : ∀ g, v.ownBlock = some g → w.heap.size ≤ g := fun g hg => (We.Ow.lt i5 g hg).1
    obtain ⟨va, vc, hv⟩ := Ints.form i5
    rw [show [(n0 : Int)].length = 1 from rfl] at hv
    subst hv
    obtain ⟨g, rfl, hgl, -, cj, cf⟩ := i5.cell (j := 0) (by exact Nat.one_pos)
    have hlt := H.out.fa.lt
    have hg := hgf g rfl
    have h6 : Ft w0 f { F with nx := ((n + 1 : Nat) : Int) } A5 X5 gl la gt tl t (w5.setCell ⟨f, 12, none⟩ (.int .u64 ((n : Int) + 1))) := h5.cell 12 _ rfl rfl rfl h5.st
    have k6 : Kp (fun i => i = f) w5 (w5.setCell ⟨f, 12, none⟩ (.int .u64 ((n : Int) + 1))) := (Kp.refl (fun i => i = f) w5).setCell (p := ⟨f, 12, none⟩) rfl _
    have m6 := m5.trans (Mv.of (f := f) (gl := gl) (gt := gt) (A := A5) (X := X5) k6 (fun i hi => .inl hi))
    have i6 : Ints (w5.setCell ⟨f, 12, none⟩ (.int .u64 ((n : Int) + 1))) w.heap.size (.slice (some ⟨g, 0, none⟩) 1 vc) [(n0 : Int)] := We.Ow.same i5 (fun g' hg' => k6.block g' (We.Ow.lt i5 g' hg').2 (fun e => by have := hgf g' hg'; omega))
    have c6 : (w5.setCell ⟨f, 12, none⟩ (.int .u64 ((n : Int) + 1))).cell? ⟨g, 0, none⟩ = some (.int .i64 n0) := by
      obtain ⟨g2, e, _, _, cj, _⟩ := Ints.cell i6 (j := 0) (by exact Nat.one_pos)
      have : g = g2 := by simpa using e
      rw [this]
      exact cj
    have ff : w5.frozen? ⟨f, 12, none⟩ = false := frozen_of_row w5 f 12 _ _ h5.fa.box
    have d12 : w5.cell? ⟨f, 12, none⟩ = some (.int .u64 F.nx) := h5.fa.c 12
    have H5 := Hid.mk (And.intro h6 (And.intro m6 (And.intro g5 (And.intro hc5 (And.intro har5 (And.intro hq5 i6))))))
    clear hw5 n5 g5 cu5 fa5 h5 m5 hc5 har5 hq5 i5 i6 h6 m6 k6 ht5 hgf cj cf hp
    refine hK.out _ _ hH5 (fun hHeld => ?_)
    clear hK K
    try simp only [Act.put, zA, zB, zC]
    refine tkF 13 (fun _ q => Wr2.facts q) hHeld ?_
    refine tkF 14 (fun _ q => Wr2.facts q) hHeld ?_
    refine tkF 15 (fun _ q => Wr2.facts q) hHeld ?_
    refine tkF 16 (fun _ q => Wr2.facts q) hHeld ?_
    refine tkF 17 (fun _ q => Wr2.facts q) hHeld ?_
    refine tkF 18 (fun _ q => Wr2.facts q) hHeld ?_
    refine tkF 19 (fun _ q => Wr2.facts q) hHeld ?_
    refine wpAnyH_done (by kernel_rfl) ?_ _
    clear hH5
    go_upto_region 7 with fail
    obtain ⟨W, hW⟩ : ∃ W, w5.setCell ⟨f, 12, none⟩ (.int .u64 ((n : Int) + 1)) = W := ⟨_, rfl⟩
    rw [hW] at c6 H5 ⊢
    have HR := Hid.mk (wrote_any H5.out.1.fa H5.out.1.la a r (by rw [H5.out.2.2.1.1]; exact hab) (by rw [H5.out.2.2.1.2.1]; exact hr) (n : Int))
    rw [H5.out.2.2.1.2.1, hn0] at HR
    have hgl2 : g ≠ gl := by
      intro e
      exact ow_ne_cell H5.out.2.2.2.2.2.2 H5.out.1.la.row (by decide) (by rw [e]; rfl)
    have hw5 : IntKind.u64.wrap (n : Int) = n := by rw [IntKind.wrap_u64]; omega
    clear hW d12 ff hHeld HW hS c12
    go_loopw [12, 13, 44] (fun _ _ i wr => ∃ k : Nat, k ≤ 1 ∧ i = .int .i64 k ∧ (k = 0 → wr = W) ∧ (k = 1 → Ft w0 f { F with nx := ((n + 1 : Nat) : Int) } A5 X5 gl (la.set a (n : Int)) gt tl t wr ∧ Mv f gl gt A X A5 X5 w wr ∧ Ints wr w.heap.size (.slice (some ⟨g, 0, none⟩) 1 vc) [(n0 : Int)])) (fun _ _ i _ => 1 - (intOf i).toNat)
    case atStart => exact ⟨0, by omega, rfl, fun _ => rfl, fun e => absurd e (by omega)⟩
    case round =>
      obtain ⟨k, hk, rfl, h7, h8⟩ := hrel
      by_cases hk0 : k = 0
      · subst hk0
        have hwr := h7 rfl
        subst hwr
        clear h7 h8
        go_wp2_with (go_at_call 125; refine HR.out.mono ?_; rintro e w6 ⟨rfl, h6, l6, k6⟩)
        refine ⟨⟨1, by omega, rfl, fun e => absurd e (by omega), fun _ => ⟨H5.out.1.laTo h6 l6 k6, H5.out.2.1.trans (Mv.of k6 (fun i hi => .inr (.inl hi))), We.Ow.same H5.out.2.2.2.2.2.2 (fun g' hg' => k6.block g' (We.Ow.lt H5.out.2.2.2.2.2.2 g' hg').2 (fun e => hgl2 ?_))⟩⟩, by simp [intOf]⟩
        rw [← e]; simpa [Value.ownBlock] using hg'
      · obtain rfl : k = 1 := by omega
        have HS := Hid.mk (h8 rfl)
        clear h7 h8
        go_wp2_with fail
        go_ret2
        exact ⟨_, rfl, HS.out.2.2, A5, X5, a5, r5, HS.out.1, H5.out.2.2.1, H5.out.2.2.2.1, H5.out.2.2.2.2.1, H5.out.2.2.2.2.2.1, HS.out.2.1⟩
  · exact absurd h0 (by omega)
  · exact absurd h0 (by simp; omega)
end Go.Proofs.YtcmmhfjnhlaepabGreatDoor
namespace Go.Proofs.YtcmmhfjnhlaepabGreatDoor
open Go Go.RowKit

theorem recs_of {w : World} {B : Nat} {a : Option Addr} {n c : Nat} {rs : List Gp.R6} (h : We.Ow w B 47 6 (.slice a n c) (rs.map S8.rR)) : Gp.RecsF w a rs.length (fun i => rs.getD i (0, 0, 0, 0, 0, 0)) := by
  intro i hi
  obtain ⟨g, ha, _, hg, hc⟩ := h.at (j := i) (by rw [List.length_map]; exact hi)
  have e : (rs.map S8.rR).getD i [] = S8.rR (rs.getD i (0, 0, 0, 0, 0, 0)) := by
    rw [List.getD_eq_getElem?_getD, List.getD_eq_getElem?_getD, List.getElem?_map, List.getElem?_eq_getElem hi]
    rfl
  rw [e] at hc
  refine ⟨g, 0, ha, hg, ?_⟩
  rw [Nat.zero_add]
  have h0 := hc 0 (by omega)
  rw [Nat.add_zero] at h0
  exact ⟨h0, hc 1 (by omega), hc 2 (by omega), hc 3 (by omega), hc 4 (by omega), hc 5 (by omega)⟩
/-- of a row k are false from o on -/
def clr : List Bool → Nat → Nat → List Bool
  | l, _, 0 => l
  | l, o, k + 1 => clr (l.set o false) (o + 1) k
theorem clr_len : ∀ (k o : Nat) (l : List Bool), (clr l o k).length = l.length
  | 0, _, _ => rfl
  | k + 1, o, l => by rw [clr, clr_len k, List.length_set]
theorem clr_get : ∀ (k o : Nat) (l : List Bool) (i : Nat), (clr l o k).getD i false = if o ≤ i ∧ i < o + k then false else l.getD i false
  | 0, o, l, i => by rw [clr, if_neg (by omega)]
  | k + 1, o, l, i => by
    rw [clr, clr_get k]
    by_cases e : i = o
    · subst e
      rw [if_neg (by omega), if_pos (by omega)]
      by_cases h : i < l.length
      · simp [List.getD_eq_getElem?_getD, h]
      · simp [List.getD_eq_getElem?_getD, h]
    · by_cases h : o + 1 ≤ i ∧ i < o + 1 + k
      · rw [if_pos h, if_pos (by omega)]
      · rw [if_neg h, if_neg (by omega)]
        simp [List.getD_eq_getElem?_getD, Ne.symm e]
theorem clr_all (l : List Bool) (n : Nat) (h : l.length = n) : clr l 0 n = List.replicate n false := by
  apply List.ext_getElem
  · rw [clr_len, h, List.length_replicate]
  · intro i h1 h2
    have := clr_get n 0 l i
    rw [List.getD_eq_getElem?_getD, List.getElem?_eq_getElem h1, Option.getD_some] at this
    rw [this, List.getElem_replicate]
    rw [clr_len, h] at h1
    rw [if_pos (by omega)]
theorem clr_heap (g : Nat) : ∀ (k o : Nat) (l : List Bool) (w : World), w.heap[g]? = some (.cells (l.map Value.bool).toArray 4 (0, 0)) → (w.setCells g o (List.replicate k (.bool false))).heap[g]? = some (.cells ((clr l o k).map Value.bool).toArray 4 (0, 0))
  | 0, _, _, _, h => h
  | k + 1, o, l, w, h => by
    rw [List.replicate_succ, World.setCells, clr]
    refine clr_heap g k (o + 1) (l.set o false) _ ?_
    rw [heap_setCell_same w g o _ 4 _ h]
    simp [List.map_set]
theorem zeroB (w : World) : (zeroValue 4).run Tryz.prog w = .ok (.bool false) w := by kernel_rfl
theorem Tl.run {w f F A X g l} (h : Tl w f F A X g l) (hn : 0 < X.C.B * X.C.P) (ty : TypeId) :
    (Builtin.clear_ #[71] ty #[.slice (some ⟨g, 0, none⟩) (X.C.B * X.C.P) (X.C.B * X.C.P)]).run Tryz.prog w = .ok (.tuple #[]) (w.setCells g 0 (List.replicate (X.C.B * X.C.P) (.bool false))) :=
  Lib.run_clear_slice w 71 4 ty (.bool false) Tryz.underlying71 zeroB rfl rfl g 0 _ _ hn (fun j hj => by rw [Nat.zero_add, h.cell j hj]; rfl) (fun j _ => frozen_of_row w g _ _ 4 h.row)
theorem Tl.clear {w f F A X g l} (h : Tl w f F A X g l) : Tl (w.setCells g 0 (List.replicate (X.C.B * X.C.P) (.bool false))) f F A X g (List.replicate (X.C.B * X.C.P) false) := by
  refine ⟨h.tl, ?_, List.length_replicate, h.ne, h.own⟩
  have := clr_heap g (X.C.B * X.C.P) 0 l w h.row
  rw [clr_all l _ h.len] at this
  exact this
end Go.Proofs.YtcmmhfjnhlaepabGreatDoor
namespace Go.Proofs.YtcmmhfjnhlaepabGreatDoor
open Go Go.RowKit

theorem below_dn (w : World) (n : Nat) : Below w.heap.size w (w.drewN n) := ⟨rfl, rfl, rfl, Nat.le_refl _, fun _ _ => rfl⟩
theorem hold_dump {B : Nat} {w0 w : World} {P t} (h : S8.Hold B w0 P t w) : Calls Tryz.prog 73 #[.pointer (some ⟨P, 0, none⟩)] w fun e w' => ∃ v, e = .returned v ∧ We.Ow w' w.heap.size 47 6 v ((S8.dumpA t).map S8.rR) ∧ Below w.heap.size w w' := by
  obtain ⟨s, rfl, h2, rfl, h4, h5, h6⟩ := h
  exact S8.dump_any h2
theorem Ft.zlt {w0 f F A X gl la gt tl t} {w : World} (h : Ft w0 f F A X gl la gt tl t w) : ∀ i, Zs w0 f gl gt A X i → i < w.heap.size := by
  intro i hi
  rcases hi with q | q | q | q | q
  · exact Nat.lt_of_lt_of_le q h.below.size
  · rw [q]; exact h.fa.lt
  · rw [q]; exact h.la.lt
  · rw [q]; exact h.tl.lt
  · exact h.fa.wtr.lt i q
theorem Fo.zs {w0 : World} {f gl gt A X i} (h : Fo f gl gt A X i) : Zs w0 f gl gt A X i := .inr h
theorem Ft.frz {w0 f F A X gl la gt tl t} {w : World} (h : Ft w0 f F A X gl la gt tl t w) (j : Nat) : w.frozen? ⟨f, j, none⟩ = false := frozen_of_row w f j _ _ h.fa.box
/-- a state that another writing has left alone -/
theorem Mv.sth {w0 : World} {f gl gt A X A' X'} {w w' : World} {P t} (m : Mv f gl gt A X A' X' w w') (h : S8.Sth w P t (Zs w0 f gl gt A X)) : S8.Sth w' P t (Zs w0 f gl gt A' X') := by
  have s1 := h.more (Z' := fun i => Zs w0 f gl gt A X i ∨ w.heap.size ≤ i) (fun i x => x)
  have s2 := s1.kp m.kp (fun i hi => .inl (Fo.zs hi))
  refine s2.more (fun i x => .inl ?_)
  rcases x with x | x | x | x | x
  · exact .inl (.inl x)
  · exact .inl (.inr (.inl x))
  · exact .inl (.inr (.inr (.inl x)))
  · exact .inl (.inr (.inr (.inr (.inl x))))
  · rcases m.own i x with q | q
    · exact .inl (.inr (.inr (.inr (.inr q))))
    · exact .inr q
/-- its state is another one -/
theorem Ft.state {w0 f F A X gl la gt tl t t'} {P' : Nat} {w : World} (h : Ft w0 f F A X gl la gt tl t w) (hs : S8.Sth w P' t' (Zs w0 f gl gt A X)) : Ft w0 f { F with st := P' } A X gl la gt tl t' (w.setCell ⟨f, 9, none⟩ (.pointer (some ⟨P', 0, none⟩))) := by
  have k : Kp (fun i => i = f) w (w.setCell ⟨f, 9, none⟩ (.pointer (some ⟨P', 0, none⟩))) := (Kp.refl (fun i => i = f) w).setCell (p := ⟨f, 9, none⟩) rfl _
  have hr := h.la.call (k.block _ h.la.lt (fun e => h.la.ne e))
  have hT := h.tl.call (k.block _ h.tl.lt (fun e => h.tl.ne e))
  refine ⟨⟨?_, h.fa.wtr.off k (fun i hi => ⟨by rw [hi]; exact h.fo, by rw [hi]; exact h.fa.cel⟩)⟩, ⟨hr.la, hr.row, hr.len, hr.ne, hr.own⟩, ⟨hT.tl, hT.row, hT.len, hT.ne, hT.own⟩, hs.kp k (fun i hi => .inr (.inl hi)), Tab.off h.tab k (fun e => by have := h.lo.2.1; have := h.z0; omega), h.fo, h.ne, Kp.below h.below k h.below.size (fun i hi => by rw [hi]; exact h.lo.2.1), h.lo, h.z0⟩
  rw [heap_setCell_same w f 9 _ 75 _ h.fa.box]
  rfl
end Go.Proofs.YtcmmhfjnhlaepabGreatDoor
namespace Go.Proofs.YtcmmhfjnhlaepabGreatDoor
open Go Go.RowKit

set_option maxRecDepth 20000 in
theorem writeRecs_all {w0 f F A X gl la gt tl t} {w : World} (h : Ft w0 f F A X gl la gt tl t w) (hc : Calm X) {D : Int} {a r : Nat} {T : Nat → ByteArray} {Q : Nat → Tg} (hq : Sq D X a r T Q) (hab : a < X.C.B) (n0 : Nat) (hn0 : a * X.C.P + r = n0) (n : Nat) (hn : F.nx = n) (hnl : n < 1000000)
    (rs : List Gp.R6) (ra : Option Addr) (rc : Nat) (hx : Gp.RecsF w ra rs.length (fun i => rs.getD i (0, 0, 0, 0, 0, 0))) (hmay : ∀ r ∈ rs, Gp.R6.may r = true) (hl : rs.length ≤ 20000) (K : Nat) (hK : 1 ≤ K ∧ K ≤ 3)
    (ts : List ByteArray) (hts : Gp.packGo X.C.Z (rs.map Gp.R6.put) [] ⟨#[]⟩ = ts) (m : Nat) (hm : ts.length = m) (hm1 : 1 ≤ m) (hrm : r + m ≤ X.C.P) (hKm : K = 3 ∨ m = 1) (hTQ : ∀ i, i < m → T (n0 + i) = ts.getD i ⟨#[]⟩ ∧ Q (n0 + i) = (K, n, i, m)) :
    Calls Tryz.prog 72 #[.pointer (some ⟨f, 0, none⟩), .slice ra rs.length rc, .int .i64 K] w fun e w' => ∃ v, e = .returned (.tuple #[v, .int .i64 0]) ∧ Ints w' w.heap.size v (plc n0 m) ∧ ∃ A' X' a' r', Ft w0 f { F with nx := ((n + 1 : Nat) : Int) } A' X' gl (la.set a (n : Int)) gt tl t w' ∧ Geq X' X ∧ Calm X' ∧ a' * X.C.P + r' = n0 + m ∧ Sq D X' a' r' T Q ∧ Mv f gl gt A X A' X' w w' := by
  have hgeo := h.fa.wtr.chip.geo
  have c12 : w.cell? ⟨f, 12, none⟩ = some (.int .u64 F.nx) := h.fa.c 12
  rw [hn] at c12
  have hr : r < X.C.P := by have := hq.le; omega
  have hroom : n0 + m ≤ X.C.B * X.C.P := by
    have := Nat.mul_le_mul_right X.C.P (show a + 1 ≤ X.C.B by omega)
    rw [Nat.succ_mul] at this
    omega
  have hS : Wr2 f A.a X.C.Z w.drew := ⟨h.fa.ptr.2.1, h.fa.c 3⟩
  have hsq : ∀ i, i < m → sqN K n i = n := fun i hi => by
    unfold sqN
    rcases hKm with e | e
    · rw [if_pos (by omega)]
    · split <;> omega
  have hW := write_any h.drew.fa.wtr h.drew.tab hq n0 hn0 rs ra rc (hx.below (Below.refl _ w).drew) hmay hl K hK n hnl X.C.Z (by omega) ts hts (fun i hi => by
    rw [hm] at hi ⊢
    rw [hsq i hi]
    exact hTQ i hi) 0 (0, 0) (hc.hc hq _) hc.fails (.inl (Nat.zero_le _))
  rw [hm] at hW
  have hnx : nxv K n m = n + 1 := by
    unfold nxv
    rw [if_neg (by omega), hsq (m - 1) (by omega)]
  rw [hnx, show ((n + 1 : Nat) : Int) = (n : Int) + 1 from rfl] at hW
  have H := Hid.mk h
  have HW := Hid.mk hW
  have hmP : m ≤ 16 := by omega
  clear h hW hx hmay hts hTQ hnx hm hsq hKm
  go_enter Tryz.func72, Tryz.ntmps72
  go_upto_region 2 with fail
  refine wp_region_held_drew (S := fun w' => Wr2 f A.a X.C.Z w') (by kernel_rfl) hS (fun hHeld => ?_)
  refine tkF 0 (fun _ q => Wr2.facts q) hHeld ?_
  refine tkF 1 (fun _ q => Wr2.facts q) hHeld ?_
  refine tkF 2 (fun _ q => Wr2.facts q) hHeld ?_
  refine tkF 3 (fun _ q => Wr2.facts q) hHeld ?_
  refine tkF 4 (fun _ q => Wr2.facts q) hHeld ?_
  refine tkF 5 (fun _ q => Wr2.facts q) hHeld ?_
  refine tkF 6 (fun _ q => Wr2.facts q) hHeld ?_
  refine tkF 7 (fun _ q => Wr2.facts q) hHeld ?_
  refine tkF 8 (fun _ q => Wr2.facts q) hHeld ?_
  refine tkF 9 (fun _ q => Wr2.facts q) hHeld ?_
  refine tkF 10 (fun _ q => Wr2.facts q) hHeld ?_
  refine tkF 11 (fun _ q => Wr2.facts q) hHeld ?_
  refine wpAnyH_ready (rs := [12]) (by kernel_rfl) (by simp) ?_
  refine arH rfl (fun K hK => ?_) AllReadyH.nil
  go_simp
  go_at_call 124
  refine HW.out.mono ?_
  rintro e w5 ⟨X5, A5, hw5, ht5, n5, g5, cu5, fa5, hcase⟩
  rcases hcase with ⟨-, -, ⟨v, rfl, i5⟩, a5, r5, har5, hq5⟩ | ⟨_, h0, _⟩ | ⟨h0, _⟩
  · have h5 := H.out.drew.next hw5 n5 g5
    have m5 : Mv f gl gt A X A5 X5 w w5 := ((Mv.refl f gl gt A X w).call (Below.refl _ w).drew).trans (Mv.nxt n5 g5)
    have hH5 : Wr2 f A.a X.C.Z w5 := ⟨by rw [← n5.a]; exact h5.fa.ptr.2.1, by rw [← g5.2.2]; exact h5.fa.c 3⟩
    have hc5 := hc.same cu5 fa5
    have hgf : ∀ g, v.ownBlock = some g → w.heap.size ≤ g := fun g hg => (We.Ow.lt i5 g hg).1
    obtain ⟨va, vc, hv⟩ := Ints.form i5
    rw [plc_len] at hv
    subst hv
    obtain ⟨g, rfl, hgl, -, cj, cf⟩ := i5.cell (j := 0) (by rw [plc_len]; omega)
    have hlt := H.out.fa.lt
    have hg := hgf g rfl
    have h6 : Ft w0 f { F with nx := ((n + 1 : Nat) : Int) } A5 X5 gl la gt tl t (w5.setCell ⟨f, 12, none⟩ (.int .u64 ((n : Int) + 1))) := h5.cell 12 _ rfl rfl rfl h5.st
    have k6 : Kp (fun i => i = f) w5 (w5.setCell ⟨f, 12, none⟩ (.int .u64 ((n : Int) + 1))) := (Kp.refl (fun i => i = f) w5).setCell (p := ⟨f, 12, none⟩) rfl _
    have m6 := m5.trans (Mv.of (f := f) (gl := gl) (gt := gt) (A := A5) (X := X5) k6 (fun i hi => .inl hi))
    have i6 : Ints (w5.setCell ⟨f, 12, none⟩ (.int .u64 ((n : Int) + 1))) w.heap.size (.slice (some ⟨g, 0, none⟩) m vc) (plc n0 m) := We.Ow.same i5 (fun g' hg' => k6.block g' (We.Ow.lt i5 g' hg').2 (fun e => by have := hgf g' hg'; omega))
    have ff : w5.frozen? ⟨f, 12, none⟩ = false := frozen_of_row w5 f 12 _ _ h5.fa.box
    have d12 : w5.cell? ⟨f, 12, none⟩ = some (.int .u64 F.nx) := h5.fa.c 12
    have H5 := Hid.mk (And.intro h6 (And.intro m6 (And.intro g5 (And.intro hc5 (And.intro har5 (And.intro hq5 i6))))))
    clear hw5 n5 g5 cu5 fa5 h5 m5 hc5 har5 hq5 i5 i6 h6 m6 k6 ht5 hgf cj cf
    refine hK.out _ _ hH5 (fun hHeld => ?_)
    clear hK K
    try simp only [Act.put, zA, zB, zC]
    refine tkF 13 (fun _ q => Wr2.facts q) hHeld ?_
    refine tkF 14 (fun _ q => Wr2.facts q) hHeld ?_
    refine tkF 15 (fun _ q => Wr2.facts q) hHeld ?_
    refine tkF 16 (fun _ q => Wr2.facts q) hHeld ?_
    refine tkF 17 (fun _ q => Wr2.facts q) hHeld ?_
    refine tkF 18 (fun _ q => Wr2.facts q) hHeld ?_
    refine tkF 19 (fun _ q => Wr2.facts q) hHeld ?_
    refine wpAnyH_done (by kernel_rfl) ?_ _
    clear hH5
    go_upto_region 7 with fail
    obtain ⟨W, hW⟩ : ∃ W, w5.setCell ⟨f, 12, none⟩ (.int .u64 ((n : Int) + 1)) = W := ⟨_, rfl⟩
    rw [hW] at H5 ⊢
    have hgl2 : g ≠ gl := by
      intro e
      exact ow_ne_cell H5.out.2.2.2.2.2.2 H5.out.1.la.row (by decide) (by rw [e]; rfl)
    have hw5 : IntKind.u64.wrap (n : Int) = n := by rw [IntKind.wrap_u64]; omega
    clear hW d12 ff hHeld HW hS c12
    have hset : ∀ la' : List Int, (la' = la ∨ la' = la.set a (n : Int)) → la'.set a (n : Int) = la.set a (n : Int) := fun la' e => by
      rcases e with e | e
      · rw [e]
      · rw [e, List.set_set]
    have HSt := Hid.mk hset
    clear hset
    go_loopw [12, 13, 44] (fun _ _ i wr => ∃ k : Nat, k ≤ m ∧ i = .int .i64 k ∧ ∃ la' : List Int, (la' = la ∨ la' = la.set a (n : Int)) ∧ (0 < k → la' = la.set a (n : Int)) ∧ Ft w0 f { F with nx := ((n + 1 : Nat) : Int) } A5 X5 gl la' gt tl t wr ∧ Mv f gl gt A X A5 X5 w wr ∧ Ints wr w.heap.size (.slice (some ⟨g, 0, none⟩) m vc) (plc n0 m)) (fun _ _ i _ => m - (intOf i).toNat)
    case atStart => exact ⟨0, by omega, rfl, la, .inl rfl, fun e => absurd e (by omega), H5.out.1, H5.out.2.1, H5.out.2.2.2.2.2.2⟩
    case round =>
      obtain ⟨k, hk, rfl, la', hla, hla2, h7, m7, i7⟩ := hrel
      by_cases hkm : k < m
      · have hkI : (k : Int) < (m : Int) := by omega
        obtain ⟨g2, eg, -, -, cj, -⟩ := i7.cell (j := k) (by rw [plc_len]; exact hkm)
        have eg2 : g = g2 := by simpa using eg
        subst eg2
        have hpk : (plc n0 m).getD k 0 = ((n0 + k : Nat) : Int) := by unfold plc; simp [List.getD_eq_getElem?_getD, hkm]
        rw [hpk] at cj
        have hR := wrote_any h7.fa h7.la a (r + k) (by rw [H5.out.2.2.1.1]; exact hab) (by rw [H5.out.2.2.1.2.1]; omega) (n : Int)
        rw [H5.out.2.2.1.2.1, show a * X.C.P + (r + k) = n0 + k by omega, HSt.out la' hla] at hR
        have HR := Hid.mk hR
        have H7 := Hid.mk (And.intro h7 (And.intro m7 i7))
        obtain ⟨kk, hkk⟩ : ∃ kk : Int, (k : Int) = kk := ⟨_, rfl⟩
        obtain ⟨sq, hsq⟩ : ∃ sq : Int, (n : Int) + kk = sq := ⟨_, rfl⟩
        have hwk : IntKind.u64.wrap (k : Int) = kk := by rw [IntKind.wrap_u64]; omega
        have hwa : IntKind.u64.wrap ((n : Int) + kk) = sq := by rw [IntKind.wrap_u64]; omega
        have hmn : min sq (n : Int) = n := by omega
        clear hR h7 m7 i7 eg hpk hla hla2 hsq hkk
        obtain ⟨pk, hpk⟩ : ∃ pk : Nat, n0 + k = pk := ⟨_, rfl⟩
        rw [hpk] at cj HR
        clear hpk
        go_wp2_with (go_at_call 125; refine HR.out.mono ?_; rintro e w6 ⟨rfl, h6, l6, k6⟩)
        refine ⟨⟨k + 1, by omega, by go_num, la.set a (n : Int), .inr rfl, fun _ => rfl, H7.out.1.laTo h6 l6 k6, H7.out.2.1.trans (Mv.of k6 (fun i hi => .inr (.inl hi))), We.Ow.same H7.out.2.2 (fun g' hg' => k6.block g' (We.Ow.lt H7.out.2.2 g' hg').2 (fun e => hgl2 ?_))⟩, by simp [intOf]; omega⟩
        rw [← e]; simpa [Value.ownBlock] using hg'
      · obtain rfl : k = m := by omega
        obtain rfl := hla2 (by omega)
        have HS := Hid.mk (And.intro h7 (And.intro m7 i7))
        clear h7 m7 i7 hla hk hkm
        go_wp2_with fail
        go_ret2
        exact ⟨_, rfl, HS.out.2.2, A5, X5, HS.out.1, H5.out.2.2.1, H5.out.2.2.2.1, a5, r5, H5.out.2.2.2.2.1, H5.out.2.2.2.2.2.1, HS.out.2.1⟩
  · exact absurd h0 (by omega)
  · exact absurd h0 (by simp; omega)
set_option maxRecDepth 20000 in
theorem save_all {w0 f F A X gl la gt tl t} {w : World} (h : Ft w0 f F A X gl la gt tl t w) (hc : Calm X) {D : Int} {a r : Nat} {T : Nat → ByteArray} {Q : Nat → Tg} (hq : Sq D X a r T Q) (hab : a < X.C.B) (n0 : Nat) (hn0 : a * X.C.P + r = n0) (n : Nat) (hn : F.nx = n) (hnl : n < 1000000)
    (hb : Lf.cnt X.xs 3 = 0) (hw : ∀ n, 0 ≤ X.wn.getD n 0 ∧ X.wn.getD n 0 < 1000000) (hk : S8.pagesN t.sp ≤ 5000) (hs : t.sp.length ≤ 100) (hfit : Rm.pgs ((S8.pagesN t.sp : Int) * 9 + (t.sp.length : Int) * 9 + (X.C.B : Int) * 11) X.C.Z ≤ X.free)
    (t' : S8.Ab) (hp : S8.plays t (S8.sn X.wn t X.C.B) t') (hmay : ∀ r ∈ S8.dumpA t', Gp.R6.may r = true) (hl : (S8.dumpA t').length ≤ 20000) (ts : List ByteArray) (hts : Gp.packGo X.C.Z ((S8.dumpA t').map Gp.R6.put) [] ⟨#[]⟩ = ts) (m : Nat) (hm : ts.length = m) (hm1 : 1 ≤ m) (hrm : r + m ≤ X.C.P) (hTQ : ∀ i, i < m → T (n0 + i) = ts.getD i ⟨#[]⟩ ∧ Q (n0 + i) = (3, n, i, m)) :
    Calls Tryz.prog 35 #[.pointer (some ⟨f, 0, none⟩)] w fun e w' => e = .returned (.int .i64 0) ∧ ∃ P' A' X' a' r', Ft w0 f { F with nx := ((n + 1 : Nat) : Int), st := P', jr := 0 } A' X' gl (la.set a (n : Int)) gt (told (List.replicate (X.C.B * X.C.P) false) (plc n0 m)) t' w' ∧ Geq X' X ∧ Calm X' ∧ a' * X.C.P + r' = n0 + m ∧ Sq D X' a' r' T Q ∧ Mv f gl gt A X A' X' w w' := by
  have hgeo := h.fa.wtr.chip.geo
  have HP := Hid.mk (cpPages_any h.fa (fun w' b => h.st.hold.call b) hk hs _ rfl)
  have HF := Hid.mk (fun w' (b : Below w.heap.size w w') => free_any (h.call b).fa)
  have HS := Hid.mk (fun w' (b : Below w.heap.size w w') => since_any (h.call b).fa (h.call b).st hb hw)
  generalize Rm.pgs ((S8.pagesN t.sp : Int) * 9 + (t.sp.length : Int) * 9 + (X.C.B : Int) * 11) X.C.Z = cp at *
  have hfit2 : ¬ X.free < cp := by omega
  have hsl := S8.sn_len X.wn t X.C.B
  generalize X.free = fr at *
  have H := Hid.mk h
  have HD := Hid.mk (And.intro hp (And.intro hmay (And.intro hl (And.intro hts (And.intro hm hTQ)))))
  clear h hp hmay hl hts hm hTQ hb hw hk hs hfit
  go_enter Tryz.func35, Tryz.ntmps35
  go_upto_region 6 with (first
    | (go_at_call 69; refine HP.out.mono ?_; rintro e w1 ⟨rfl, b1⟩)
    | (go_at_call 23; refine (HF.out _ b1).mono ?_; rintro e w2 ⟨rfl, m2, rfl⟩; have b2 := below3 b1 (below_dn w1 m2))
    | (go_at_call 71; refine (HS.out _ b2).mono ?_; rintro e w3 ⟨v3, rfl, o3, b3⟩; obtain ⟨a3, c3, rfl⟩ := o3.form; rw [List.length_map] at o3 ⊢; have B3 := below3 b2 b3)
    | (go_at_call 70; refine (behind_any (H.out.call B3).fa (H.out.call B3).st a3 c3 _ (recs_of o3) (by omega) t' HD.out.1).mono ?_; rintro e w4 ⟨P, rfl, h4⟩))
  have H4 := H.out.call (below3 B3 h4.below)
  have S4 : S8.Sth w4 P t' (Zs w0 f gl gt A X) := h4.sth (fun i hi => (H.out.call B3).zlt i hi)
  have M4 : Mv f gl gt A X A X w w4 := (Mv.refl f gl gt A X w).call (below3 B3 h4.below)
  have HU := Hid.mk (hold_dump h4)
  have HA := Hid.mk (And.intro H4 (And.intro S4 M4))
  clear b1 b2 o3 b3 B3 h4 H4 S4 M4 HP HF HS hfit2
  go_upto_region 9 with (first
    | (go_at_call 73; refine HU.out.mono ?_; rintro e w5 ⟨v5, rfl, o5, b5⟩; obtain ⟨a5, c5, rfl⟩ := o5.form; rw [List.length_map] at o5 ⊢)
    | (go_at_call 72; refine (writeRecs_all (HA.out.1.call b5) hc hq hab n0 hn0 n hn hnl _ a5 c5 (recs_of o5) HD.out.2.1 HD.out.2.2.1 3 (by omega) ts HD.out.2.2.2.1 m HD.out.2.2.2.2.1 hm1 hrm (.inl rfl) HD.out.2.2.2.2.2).mono ?_; rintro e w6 ⟨v6, rfl, i6, A', X', a', r', h6, g6, c6, har, hq6, m6⟩))
  have hS6 := m6.sth (HA.out.2.1.call b5)
  have M6 := (HA.out.2.2.call b5).trans m6
  have h7 := h6.state hS6
  have h8 := h7.cell (F' := { F with nx := ((n + 1 : Nat) : Int), st := P, jr := 0 }) 11 (.int .i64 0) rfl rfl rfl h7.st
  have k7 : Kp (fun i => i = f) w6 (w6.setCell ⟨f, 9, none⟩ (.pointer (some ⟨P, 0, none⟩))) := (Kp.refl (fun i => i = f) w6).setCell (p := ⟨f, 9, none⟩) rfl _
  have k8 : Kp (fun i => i = f) w6 ((w6.setCell ⟨f, 9, none⟩ (.pointer (some ⟨P, 0, none⟩))).setCell ⟨f, 11, none⟩ (.int .i64 0)) := k7.setCell (p := ⟨f, 11, none⟩) rfl _
  have M8 := M6.trans (Mv.of (f := f) (gl := gl) (gt := gt) (A := A') (X := X') k8 (fun i hi => .inl hi))
  have d9 : w6.cell? ⟨f, 9, none⟩ = some (.pointer (some ⟨F.st, 0, none⟩)) := h6.fa.c 9
  have d11 : w6.cell? ⟨f, 11, none⟩ = some (.int .i64 F.jr) := h6.fa.c 11
  have f9 := h6.frz 9
  have f11 := h6.frz 11
  have hfg : ∀ g, v6.ownBlock = some g → g ≠ f := fun g hg e => by
    have := (We.Ow.lt i6 g hg).1
    have := (HA.out.1.call b5).fa.lt
    omega
  have i8 : Ints ((w6.setCell ⟨f, 9, none⟩ (.pointer (some ⟨P, 0, none⟩))).setCell ⟨f, 11, none⟩ (.int .i64 0)) w5.heap.size v6 (plc n0 m) := We.Ow.same i6 (fun g' hg' => k8.block g' (We.Ow.lt i6 g' hg').2 (hfg g' hg'))
  have hS8 := h8.st
  obtain ⟨va, vc, hv⟩ := Ints.form i8
  rw [plc_len] at hv
  subst hv
  have H8 := Hid.mk (And.intro h8 (And.intro M8 (And.intro i8 (And.intro g6 (And.intro c6 (And.intro har hq6))))))
  clear hS6 M6 h7 h8 k7 k8 M8 i8 hS8 h6 g6 c6 har hq6 m6 i6 o5 hfg b5
  go_upto_region 11 with fail
  obtain ⟨W, hW⟩ : ∃ W, (w6.setCell ⟨f, 9, none⟩ (.pointer (some ⟨P, 0, none⟩))).setCell ⟨f, 11, none⟩ (.int .i64 0) = W := ⟨_, rfl⟩
  rw [hW] at H8 ⊢
  clear hW d9 d11 f9 f11
  have hB : X'.C.B * X'.C.P = X.C.B * X.C.P := by rw [H8.out.2.2.2.1.1, H8.out.2.2.2.1.2.1]
  have hpos : 0 < X'.C.B * X'.C.P := by rw [hB]; exact Nat.mul_pos (by omega) (by omega)
  have c10 : W.cell? ⟨f, 10, none⟩ = some F.tl := H8.out.1.fa.c 10
  rw [show F.tl = _ from H8.out.1.tl.tl] at c10
  have hrun := H8.out.1.tl.run hpos 0
  have hT9 := H8.out.1.tl.clear
  have k9 : Kp (fun i => i = gt) W (W.setCells gt 0 (List.replicate (X'.C.B * X'.C.P) (.bool false))) := (Kp.refl (fun i => i = gt) W).cells gt _ 0 rfl
  have h9 := H8.out.1.tlTo (H8.out.1.fa.off k9 (fun i hi => by rw [hi]; exact ⟨fun e => H8.out.1.tl.ne e, H8.out.1.tl.own, ⟨_, _, _, H8.out.1.tl.row⟩⟩)) hT9 k9
  have hng : ∀ a, va = some a → a.block ≠ gt := fun a ha e => ow_ne_cell H8.out.2.2.1 H8.out.1.tl.row (by decide) (by rw [ha, ← e]; rfl)
  have i9 : Ints (W.setCells gt 0 (List.replicate (X'.C.B * X'.C.P) (.bool false))) w5.heap.size (.slice va m vc) (plc n0 m) := We.Ow.same H8.out.2.2.1 (fun g' hg' => k9.block g' (We.Ow.lt H8.out.2.2.1 g' hg').2 (fun e => by
    cases va with
    | none => cases hg'
    | some a => exact hng a rfl (by rw [← e]; simpa [Value.ownBlock] using hg')))
  have hn0B : n0 + m ≤ X'.C.B * X'.C.P := by
    have := hq.le
    have := Nat.mul_le_mul_right X.C.P (show a + 1 ≤ X.C.B by omega)
    rw [Nat.succ_mul] at this
    omega
  have HN := Hid.mk ((plc_len n0 m ▸ nowTell_any h9.fa h9.tl va (plc n0 m) vc (Ints.rds i9) (by rw [plc_len]; omega) (fun p hp => by obtain ⟨i, hi, rfl⟩ := List.mem_map.1 hp; have := List.mem_range.1 hi; omega) hng))
  have H9 := Hid.mk (And.intro h9 k9)
  have HB := Hid.mk hB
  clear hT9 k9 h9 hng i9 hpos hn0B hB
  go_wp2_with (go_at_call 74; refine HN.out.mono ?_; rintro e w10 ⟨rfl, h10, t10, k10⟩)
  go_ret
  have h11 := H9.out.1.tlTo h10 t10 k10
  rw [HB.out] at h11
  exact ⟨rfl, P, A', X', a', r', h11, H8.out.2.2.2.1, H8.out.2.2.2.2.1, H8.out.2.2.2.2.2.1, H8.out.2.2.2.2.2.2, (H8.out.2.1.trans (Mv.of H9.out.2 (fun i hi => .inr (.inr (.inl hi))))).trans (Mv.of k10 (fun i hi => .inr (.inr (.inl hi))))⟩
end Go.Proofs.YtcmmhfjnhlaepabGreatDoor
namespace Go.Proofs.YtcmmhfjnhlaepabGreatDoor
open Go Go.RowKit

set_option maxRecDepth 20000 in
theorem tell_any {w0 f F A X gl la gt tl t} {w : World} (h : Ft w0 f F A X gl la gt tl t w) (hc : Calm X) {D : Int} {a r : Nat} {T : Nat → ByteArray} {Q : Nat → Tg} (hq : Sq D X a r T Q) (hab : a < X.C.B) (n0 : Nat) (hn0 : a * X.C.P + r = n0) (n : Nat) (hn : F.nx = n) (hnl : n < 1000000)
    (hb : Lf.cnt X.xs 3 = 0) (hw : ∀ n, 0 ≤ X.wn.getD n 0 ∧ X.wn.getD n 0 < 1000000) (hj : 0 ≤ F.jr ∧ F.jr < 1000000)
    (rs : List Gp.R6) (ra : Option Addr) (rc : Nat) (B0 : Nat) (ho : We.Ow w B0 47 6 (.slice ra rs.length rc) (rs.map S8.rR)) (hne : rs ≠ []) (hrl : rs.length ≤ 900)
    (t' : S8.Ab) (hp : S8.plays t (S8.sn X.wn t X.C.B ++ rs) t') (hmay : ∀ r ∈ S8.sn X.wn t X.C.B ++ rs, Gp.R6.may r = true) (tx : ByteArray) (hts : Gp.packGo X.C.Z ((S8.sn X.wn t X.C.B ++ rs).map Gp.R6.put) [] ⟨#[]⟩ = [tx]) (hT : T n0 = tx) (hQ : Q n0 = (2, n, 0, 1)) :
    Calls Tryz.prog 58 #[.pointer (some ⟨f, 0, none⟩), .slice ra rs.length rc] w fun e w' => e = .returned (.int .i64 0) ∧ ∃ P' A' X' a' r', Ft w0 f { F with nx := ((n + 1 : Nat) : Int), st := P', jr := F.jr + 1 } A' X' gl (la.set a (n : Int)) gt (told tl [(n0 : Int)]) t' w' ∧ Geq X' X ∧ Calm X' ∧ a' * X.C.P + r' = n0 + 1 ∧ Sq D X' a' r' T Q ∧ Mv f gl gt A X A' X' w w' := by
  have hgeo := h.fa.wtr.chip.geo
  have HS := Hid.mk (since_any h.fa h.st hb hw)
  have hsl := S8.sn_len X.wn t X.C.B
  have H := Hid.mk h
  generalize hsn : S8.sn X.wn t X.C.B = sn at *
  have hal : (sn ++ rs).length ≤ 1000 := by rw [List.length_append]; omega
  have HD := Hid.mk (And.intro hp (And.intro hmay (And.intro ho (And.intro hts (And.intro hT hQ)))))
  have HJ : IntKind.i64.wrap (F.jr + 1) = F.jr + 1 := by rw [IntKind.wrap_i64]; omega
  have hn2 : (sn.map S8.rR).length + (rs.map S8.rR).length < 1000000 := by rw [List.length_map, List.length_map]; omega
  have hne2 : rs.map S8.rR ≠ [] := by simpa using hne
  clear h hp hmay ho hts hT hQ hb hw hsn
  go_enter Tryz.func58, Tryz.ntmps58
  go_upto_region 2 with (first
    | (go_at_call 71; refine HS.out.mono ?_; rintro e w3 ⟨v3, rfl, o3, b3⟩)
    | (at_builtin; refine S8.wp_apps S8.ei47 rfl _ _ rfl o3 b3.size (HD.out.2.2.1.call b3) hne2 rfl rfl hn2 ?_; intro v4 w4 o4 g4 p4))
  rw [← List.map_append] at o4
  generalize sn ++ rs = al at *
  have B3 := b3.grown g4 b3.size (fun j hj => (o3.lt j hj).1)
  obtain ⟨a4, c4, hv4⟩ := o4.form
  rw [List.length_map] at hv4
  subst hv4
  have HB := Hid.mk (behind_any (H.out.call B3).fa (H.out.call B3).st a4 c4 _ (recs_of o4) hal t' HD.out.1)
  have H3 := Hid.mk (And.intro B3 o4)
  clear o3 b3 g4 p4 B3 o4 HS
  go_upto_region 5 with (go_at_call 70; refine HB.out.mono ?_; rintro e w5 ⟨P, rfl, h4⟩)
  have H4 := H.out.call (below3 H3.out.1 h4.below)
  have S4 : S8.Sth w5 P t' (Zs w0 f gl gt A X) := h4.sth (fun i hi => (H.out.call H3.out.1).zlt i hi)
  have M4 : Mv f gl gt A X A X w w5 := (Mv.refl f gl gt A X w).call (below3 H3.out.1 h4.below)
  have HA := Hid.mk (And.intro H4 (And.intro S4 M4))
  have HR := Hid.mk (writeRecs_any HA.out.1 hc hq hab n0 hn0 n hn hnl _ a4 c4 (recs_of (H3.out.2.call h4.below)) HD.out.2.1 (by omega) 2 (by omega) tx HD.out.2.2.2.1 HD.out.2.2.2.2.1 HD.out.2.2.2.2.2)
  clear h4 H4 S4 M4 HB
  go_upto_region 8 with (go_at_call 72; refine HR.out.mono ?_; rintro e w6 ⟨v6, rfl, i6, A', X', a', r', h6, g6, c6, har, hq6, m6⟩)
  have hS6 := m6.sth HA.out.2.1
  have M6 := HA.out.2.2.trans m6
  have h7 := h6.state hS6
  have h8 := h7.cell (F' := { F with nx := ((n + 1 : Nat) : Int), st := P, jr := F.jr + 1 }) 11 (.int .i64 (F.jr + 1)) rfl rfl rfl h7.st
  have k7 : Kp (fun i => i = f) w6 (w6.setCell ⟨f, 9, none⟩ (.pointer (some ⟨P, 0, none⟩))) := (Kp.refl (fun i => i = f) w6).setCell (p := ⟨f, 9, none⟩) rfl _
  have k8 : Kp (fun i => i = f) w6 ((w6.setCell ⟨f, 9, none⟩ (.pointer (some ⟨P, 0, none⟩))).setCell ⟨f, 11, none⟩ (.int .i64 (F.jr + 1))) := k7.setCell (p := ⟨f, 11, none⟩) rfl _
  have M8 := M6.trans (Mv.of (f := f) (gl := gl) (gt := gt) (A := A') (X := X') k8 (fun i hi => .inl hi))
  have d9 : w6.cell? ⟨f, 9, none⟩ = some (.pointer (some ⟨F.st, 0, none⟩)) := h6.fa.c 9
  have d11 : w6.cell? ⟨f, 11, none⟩ = some (.int .i64 F.jr) := h6.fa.c 11
  have f9 := h6.frz 9
  have f11 := h6.frz 11
  have hfg : ∀ g, v6.ownBlock = some g → g ≠ f := fun g hg e => by
    have := (We.Ow.lt i6 g hg).1
    have := HA.out.1.fa.lt
    omega
  have i8 : Ints ((w6.setCell ⟨f, 9, none⟩ (.pointer (some ⟨P, 0, none⟩))).setCell ⟨f, 11, none⟩ (.int .i64 (F.jr + 1))) w5.heap.size v6 [(n0 : Int)] := We.Ow.same i6 (fun g' hg' => k8.block g' (We.Ow.lt i6 g' hg').2 (hfg g' hg'))
  have hS8 := h8.st
  obtain ⟨va, vc, hv⟩ := Ints.form i8
  rw [show [(n0 : Int)].length = 1 from rfl] at hv
  subst hv
  have H8 := Hid.mk (And.intro h8 (And.intro M8 (And.intro i8 (And.intro g6 (And.intro c6 (And.intro har hq6))))))
  clear hS6 M6 h7 h8 k7 k8 M8 i8 hS8 h6 g6 c6 har hq6 m6 i6 hfg
  go_upto_region 10 with fail
  obtain ⟨W, hW⟩ : ∃ W, (w6.setCell ⟨f, 9, none⟩ (.pointer (some ⟨P, 0, none⟩))).setCell ⟨f, 11, none⟩ (.int .i64 (F.jr + 1)) = W := ⟨_, rfl⟩
  rw [hW] at H8 ⊢
  clear hW d9 d11 f9 f11
  have hB : X'.C.B * X'.C.P = X.C.B * X.C.P := by rw [H8.out.2.2.2.1.1, H8.out.2.2.2.1.2.1]
  have hng : ∀ a, va = some a → a.block ≠ gt := fun a ha e => ow_ne_cell H8.out.2.2.1 H8.out.1.tl.row (by decide) (by rw [ha, ← e]; rfl)
  have hn0B : n0 < X'.C.B * X'.C.P := by
    have := hq.le
    have := Nat.mul_le_mul_right X.C.P (show a + 1 ≤ X.C.B by omega)
    rw [Nat.succ_mul] at this
    omega
  have HN := Hid.mk (nowTell_any H8.out.1.fa H8.out.1.tl va [(n0 : Int)] vc (Ints.rds H8.out.2.2.1) (by simp) (fun p hp => by rw [List.mem_singleton.1 hp]; omega) hng)
  clear hng hn0B hB
  go_wp2_with (go_at_call 74; refine HN.out.mono ?_; rintro e w10 ⟨rfl, h10, t10, k10⟩)
  go_ret
  exact ⟨rfl, P, A', X', a', r', H8.out.1.tlTo h10 t10 k10, H8.out.2.2.2.1, H8.out.2.2.2.2.1, H8.out.2.2.2.2.2.1, H8.out.2.2.2.2.2.2, H8.out.2.1.trans (Mv.of k10 (fun i hi => .inr (.inr (.inl hi))))⟩
end Go.Proofs.YtcmmhfjnhlaepabGreatDoor
namespace Go.Proofs.YtcmmhfjnhlaepabGreatDoor
open Go Go.RowKit

theorem rds_row {w : World} {g : Nat} {l : List Int} (h : Row w g 3 .i64 l) : Rds w (some ⟨g, 0, none⟩) l := fun k hk => ⟨g, 0, rfl, h.lt, by rw [Nat.zero_add]; exact h.cell k hk⟩
set_option maxRecDepth 20000 in
theorem level_none {w f F A X} (h : Fa w f F A X) (hfull : frs X.xs X.wn [2] X.C.B = []) (hw : ∀ n, 0 ≤ X.wn.getD n 0 ∧ X.wn.getD n 0 < 1000000) :
    Calls Tryz.prog 86 #[.pointer (some ⟨f, 0, none⟩)] w fun e w' => e = .returned (.int .i64 0) ∧ Below w.heap.size w w' := by
  have hg := h.wtr.chip.geo
  obtain ⟨_, c8, _⟩ := h.ptr
  have HC : Hid (∀ w', Below w.heap.size w w' → w'.cell? ⟨f, 8, none⟩ = some (.pointer (some ⟨A.a, 0, none⟩))) := fun w' b => (h.call b).ptr.2.1
  have H1 : Hid (∀ w', Below w.heap.size w w' → ∀ g, Row w' g 3 .i64 [2] → Calls Tryz.prog 143 #[.pointer (some ⟨A.a, 0, none⟩), .slice (some ⟨g, 0, none⟩) 1 1] w' fun e w2 => ∃ a c, e = .returned (.slice a 0 c) ∧ Below w'.heap.size w' w2) := fun w' b g hr => by
    refine (wears_any (h.call b).wtr [2] (by simp) (some ⟨g, 0, none⟩) 1 (rds_row hr)).mono ?_
    rintro e w2 ⟨v, rfl, o, b2⟩
    rw [hfull] at o
    obtain ⟨a, c, rfl⟩ := o.form
    exact ⟨a, c, rfl, b2⟩
  have H2 : Hid (∀ w', Below w.heap.size w w' → ∀ g, Row w' g 3 .i64 [0, 1, 2] → Calls Tryz.prog 143 #[.pointer (some ⟨A.a, 0, none⟩), .slice (some ⟨g, 0, none⟩) 3 3] w' fun e w2 => ∃ a n c, e = .returned (.slice a n c) ∧ Below w'.heap.size w' w2 ∧ ∀ b c2, Calls Tryz.prog 144 #[.slice a n c, .slice b 0 c2, .int .i64 12] w2 fun e w3 => e = .returned (.int .i64 (-1)) ∧ Below w2.heap.size w2 w3) := fun w' b g hr => by
    refine (wears_any (h.call b).wtr [0, 1, 2] (by simp) (some ⟨g, 0, none⟩) 3 (rds_row hr)).mono ?_
    rintro e w2 ⟨v, rfl, o, b2⟩
    obtain ⟨a, c, rfl⟩ := o.form
    refine ⟨a, _, c, rfl, b2, fun b' c2 => ?_⟩
    have hfl := frs_len X.xs X.wn [0, 1, 2] X.C.B
    have := We.cold_any (cf := c2) (ca := c) (rowsW_ws o) (b := b') (nf := 0) (ff := fun _ => (0, 0)) (fun i hi => absurd hi (by omega)) (by omega) (by omega) (fun i hi => by
      have hm : (frs X.xs X.wn [0, 1, 2] X.C.B).getD i (0, 0) ∈ frs X.xs X.wn [0, 1, 2] X.C.B := by
        rw [List.getD_eq_getElem?_getD, List.getElem?_eq_getElem hi, Option.getD_some]
        exact List.getElem_mem hi
      generalize (frs X.xs X.wn [0, 1, 2] X.C.B).getD i (0, 0) = p at *
      unfold frs at hm
      obtain ⟨j, _, rfl⟩ := List.mem_map.1 hm
      have := hw j
      dsimp only
      omega) (fun i hi => absurd hi (by omega)) 12
    rw [← rowsW_len] at this
    exact this
  clear h hfull hw hg
  go_enter Tryz.func86, Tryz.ntmps86
  go_upto_region 2 with (go_at_call 143; refine (H1.out _ (Pg.below_one w _) _ (Row.fresh w 3 .i64 [2])).mono ?_; rintro e w1 ⟨a1, c1, rfl, b1⟩)
  have B1 := below3 (Pg.below_one w (.cells (cellsOf .i64 [2]) 3)) b1
  have c8' := HC.out _ B1
  go_wp2_with (first
    | (go_at_call 143; refine (H2.out _ (below3 B1 (Pg.below_one w1 _)) _ (Row.fresh w1 3 .i64 [0, 1, 2])).mono ?_; rintro e w2 ⟨a2, n2, c2, rfl, b2, hc⟩)
    | (go_at_call 144; refine (hc _ _).mono ?_; rintro e w3 ⟨rfl, b3⟩))
  go_ret
  exact ⟨rfl, below3 (below3 (below3 B1 (Pg.below_one w1 _)) b2) b3⟩
set_option maxRecDepth 20000 in
theorem tellBlocks_none {w f F A X t Z} (h : Fa w f F A X) (hS : S8.Sth w F.st t Z) (hb : Lf.cnt X.xs 3 = 0) (hw : ∀ n, 0 ≤ X.wn.getD n 0 ∧ X.wn.getD n 0 < 1000000) (hn : S8.sn X.wn t X.C.B = []) :
    Calls Tryz.prog 109 #[.pointer (some ⟨f, 0, none⟩)] w fun e w' => e = .returned (.int .i64 0) ∧ Below w.heap.size w w' := by
  have HS : Hid (Calls Tryz.prog 71 #[.pointer (some ⟨f, 0, none⟩)] w fun e w' => ∃ a c, e = .returned (.slice a 0 c) ∧ Below w.heap.size w w') := by
    refine (since_any h hS hb hw).mono ?_
    rintro e w' ⟨v, rfl, o, b⟩
    rw [hn] at o
    obtain ⟨a, c, rfl⟩ := o.form
    exact ⟨a, c, rfl, b⟩
  clear h hS hb hw hn
  go_enter Tryz.func109, Tryz.ntmps109
  go_wp2_with (go_at_call 71; refine HS.out.mono ?_; rintro e w1 ⟨a1, c1, rfl, b1⟩)
  go_ret
  exact ⟨rfl, b1⟩
set_option maxRecDepth 20000 in
theorem tidy_calm {w f F A X t Z} (h : Fa w f F A X) (hS : S8.Sth w F.st t Z) (hb : Lf.cnt X.xs 3 = 0) (hw : ∀ n, 0 ≤ X.wn.getD n 0 ∧ X.wn.getD n 0 < 1000000) (hn : S8.sn X.wn t X.C.B = []) (hfull : frs X.xs X.wn [2] X.C.B = []) (hj : 0 ≤ F.jr ∧ F.jr ≤ 2 * X.C.P) :
    Calls Tryz.prog 59 #[.pointer (some ⟨f, 0, none⟩)] w fun e w' => e = .returned (.int .i64 0) ∧ Below w.heap.size w w' := by
  have H0 : Hid (∀ w', Below w.heap.size w w' → Calls Tryz.prog 107 #[.pointer (some ⟨f, 0, none⟩)] w' fun e w2 => e = .returned (.int .i64 0) ∧ w2 = w') := fun w' b => clearBad_none (h.call b) hb
  have H1 : Hid (∀ w', Below w.heap.size w w' → Calls Tryz.prog 108 #[.pointer (some ⟨f, 0, none⟩)] w' fun e w2 => e = .returned (.int .i64 0) ∧ ∃ m, w2 = w'.drewN m) := fun w' b => shorten_any (h.call b) hj
  have H2 : Hid (∀ w', Below w.heap.size w w' → Calls Tryz.prog 86 #[.pointer (some ⟨f, 0, none⟩)] w' fun e w2 => e = .returned (.int .i64 0) ∧ Below w'.heap.size w' w2) := fun w' b => level_none (h.call b) hfull hw
  have H3 : Hid (∀ w', Below w.heap.size w w' → Calls Tryz.prog 109 #[.pointer (some ⟨f, 0, none⟩)] w' fun e w2 => e = .returned (.int .i64 0) ∧ Below w'.heap.size w' w2) := fun w' b => tellBlocks_none (h.call b) (hS.call b) hb hw hn
  clear h hS hb hw hn hfull hj
  go_enter Tryz.func59, Tryz.ntmps59
  have b0 := Pg.below_one w (.cells #[.func (.func 107) #[.pointer (some ⟨f, 0, none⟩)] #[], .func (.func 108) #[.pointer (some ⟨f, 0, none⟩)] #[], .func (.func 86) #[.pointer (some ⟨f, 0, none⟩)] #[], .func (.func 109) #[.pointer (some ⟨f, 0, none⟩)] #[]] 60)
  have hr := heap_alloc_new w (.cells #[.func (.func 107) #[.pointer (some ⟨f, 0, none⟩)] #[], .func (.func 108) #[.pointer (some ⟨f, 0, none⟩)] #[], .func (.func 86) #[.pointer (some ⟨f, 0, none⟩)] #[], .func (.func 109) #[.pointer (some ⟨f, 0, none⟩)] #[]] 60)
  go_upto_region 2 with fail
  obtain ⟨W, hW⟩ : ∃ W, w.alloc (.cells #[.func (.func 107) #[.pointer (some ⟨f, 0, none⟩)] #[], .func (.func 108) #[.pointer (some ⟨f, 0, none⟩)] #[], .func (.func 86) #[.pointer (some ⟨f, 0, none⟩)] #[], .func (.func 109) #[.pointer (some ⟨f, 0, none⟩)] #[]] 60) = W := ⟨_, rfl⟩
  rw [hW] at b0 hr ⊢
  have hlt : w.heap.size < W.heap.size := (Array.getElem?_eq_some_iff.1 hr).1
  generalize hg : w.heap.size = g at *
  have HB := Hid.mk (And.intro b0 (And.intro hr (And.intro hlt hg)))
  clear b0 hr hlt hW hg
  go_loopw [4, 5, 16] (fun _ _ i wr => ∃ k : Nat, k ≤ 4 ∧ i = .int .i64 k ∧ Below W.heap.size W wr) (fun _ _ i _ => 4 - (intOf i).toNat)
  case atStart => exact ⟨0, by omega, rfl, Below.refl _ _⟩
  case round =>
    obtain ⟨k, hk, rfl, hb⟩ := hrel
    have hr := (hb.block g HB.out.2.2.1).trans HB.out.2.1
    have hbw : Below g w wr := HB.out.1.trans (hb.mono (Nat.le_of_lt HB.out.2.2.1))
    have c : k = 0 ∨ k = 1 ∨ k = 2 ∨ k = 3 ∨ k = 4 := by omega
    have HR := Hid.mk hb
    clear hb hk
    rcases c with rfl | rfl | rfl | rfl | rfl
    · have cg : wr.cell? ⟨g, 0, none⟩ = some (.func (.func 107) #[.pointer (some ⟨f, 0, none⟩)] #[]) := by rw [cell_of_row wr g 0 _ 60 _ hr]; rfl
      clear hr
      go_wp2_with (go_at_call 107; refine (H0.out _ (by first | exact hbw | (rw [← HB.out.2.2.2] at hbw; exact hbw))).mono ?_; rintro e w2 ⟨rfl, rfl⟩)
      exact ⟨⟨1, by omega, rfl, HR.out⟩, by simp [intOf]⟩
    · have cg : wr.cell? ⟨g, 1, none⟩ = some (.func (.func 108) #[.pointer (some ⟨f, 0, none⟩)] #[]) := by rw [cell_of_row wr g 1 _ 60 _ hr]; rfl
      clear hr
      go_wp2_with (go_at_call 108; refine (H1.out _ (by first | exact hbw | (rw [← HB.out.2.2.2] at hbw; exact hbw))).mono ?_; rintro e w2 ⟨rfl, m, rfl⟩)
      exact ⟨⟨2, by omega, rfl, below3 HR.out (below_dn wr m)⟩, by simp [intOf]⟩
    · have cg : wr.cell? ⟨g, 2, none⟩ = some (.func (.func 86) #[.pointer (some ⟨f, 0, none⟩)] #[]) := by rw [cell_of_row wr g 2 _ 60 _ hr]; rfl
      clear hr
      go_wp2_with (go_at_call 86; refine (H2.out _ (by first | exact hbw | (rw [← HB.out.2.2.2] at hbw; exact hbw))).mono ?_; rintro e w2 ⟨rfl, b2⟩)
      exact ⟨⟨3, by omega, rfl, below3 HR.out b2⟩, by simp [intOf]⟩
    · have cg : wr.cell? ⟨g, 3, none⟩ = some (.func (.func 109) #[.pointer (some ⟨f, 0, none⟩)] #[]) := by rw [cell_of_row wr g 3 _ 60 _ hr]; rfl
      clear hr
      go_wp2_with (go_at_call 109; refine (H3.out _ (by first | exact hbw | (rw [← HB.out.2.2.2] at hbw; exact hbw))).mono ?_; rintro e w2 ⟨rfl, b2⟩)
      exact ⟨⟨4, by omega, rfl, below3 HR.out b2⟩, by simp [intOf]⟩
    · clear hr
      go_wp2_with fail
      go_ret
      refine ⟨rfl, ?_⟩
      rw [HB.out.2.2.2]
      exact hbw
end Go.Proofs.YtcmmhfjnhlaepabGreatDoor
