/-
  The plain device: Put and Do; none. No condition.
-/
import Derived.Test.YtacgemibaojbaaaTry
namespace Go.Proofs.Ytacgemibaojbaaa
open Go Go.RowKit Go.Maps

def updL (L : Int → ByteArray) (p : Int) (s : ByteArray) : Int → ByteArray := fun q => if q = p then s else L q
def moreX (X : MX) (s : ByteArray) : MX := { X with puts := X.puts + 1, L := updL X.L (X.puts + 1) s }
def putX (X : MX) (S P : Int) (str : ByteArray) : MX × Int :=
  match X.op with
  | none => (X, 180)
  | some l => if X.sz < (str.size : Int) then (X, 173) else if clA (abl l) S ≠ 0 then (X, clA (abl l) S) else tryX (moreX X str) (layA (abl l) S P (X.puts + 1))
def doX (X : MX) (K S P A T N : Int) : MX × Int :=
  match X.op with
  | none => (X, 180)
  | some l => if (kindB K && mayB K S P A T N) = false then (X, 1) else if K = 2 ∧ clA (abl l) S ≠ 0 then (X, clA (abl l) S) else tryX X (apA (abl l) K S P A T N)
theorem clA_some {l : List Asp} {S : Int} (h : clA (abl l) S = 0) : ∃ x, gA l S = some x := by
  unfold clA at h
  simp only [abl] at h
  cases hg : gA l S with
  | none => rw [hg] at h; simp at h
  | some x => exact ⟨x, rfl⟩
theorem one_box (w : World) (t : TypeId) (x : Value) : (w.alloc (.cells #[x] t)).cell? ⟨w.heap.size, 0, none⟩ = some x := by
  rw [cell_of_row _ _ 0 _ t _ (heap_alloc_new w _)]; rfl
theorem abl_lay (l : List Asp) (S P p : Int) : (layA (abl l) S P p).1 = abl (layA (abl l) S P p).1.sp := by
  unfold layA
  simp only [abl]
  cases gA l S with
  | none => rfl
  | some x =>
    show (if P < 0 ∨ x.q ≤ P then _ else _ : Ab × Int).1 = (⟨(if P < 0 ∨ x.q ≤ P then _ else _ : Ab × Int).1.sp, [], []⟩ : Ab)
    split <;> rfl
theorem abl_ap {l : List Asp} {K S P A T N : Int} (hm : mayB K S P A T N = true) (hK : K = 2 ∨ K = 4 ∨ K = 5 ∨ K = 6 ∨ K = 7) : (apA (abl l) K S P A T N).1 = abl (apA (abl l) K S P A T N).1.sp := by
  obtain ⟨a2, a6, a4, a5, a7⟩ := apA_kind (l := l) (A := A) (P := P) (N := N) (T := T) hm
  rcases hK with rfl | rfl | rfl | rfl | rfl
  · rw [a2 rfl]
    unfold trimA
    simp only [abl]
    cases gA l S with
    | none => rfl
    | some x =>
      show (if mget x.ps P = none then _ else _ : Ab × Int).1 = (⟨(if mget x.ps P = none then _ else _ : Ab × Int).1.sp, [], []⟩ : Ab)
      split <;> rfl
  · rw [a4 rfl]
    cases gA l S <;> rfl
  · rw [a5 rfl]
    cases gA l S <;> rfl
  · rw [a6 rfl]
    unfold dblA
    simp only [abl]
    cases gA l S with
    | none => rfl
    | some x => cases gA l T <;> rfl
  · rw [a7 rfl]
    cases gA l S <;> rfl
theorem kindB_or {K : Int} (h : kindB K = true) : K = 2 ∨ K = 4 ∨ K = 5 ∨ K = 6 ∨ K = 7 := by
  unfold kindB at h
  simp only [Bool.or_eq_true, beq_iff_eq] at h
  omega
/-- one put more is counted, and its page's struct laid -/
theorem MxH.more {g X bS b fS fO w} (h : MxH g X bS b fS fO w) (hp : X.puts + 1 ≤ 1900) (str : ByteArray) : MxH g (moreX X str) bS b fS fO (w.setCell ⟨g, 8, none⟩ (.int .i64 (X.puts + 1))) := by
  have hL : ∀ p, p ≤ X.puts → updL X.L (X.puts + 1) str p = X.L p := fun p hp => by unfold updL; rw [if_neg (by omega)]
  refine h.turn ?_ (h.nomap 8 _) (h.st.relab h.inv.st hL) ?_ ⟨h.inv.st.mono (by show X.puts ≤ X.puts + 1; omega), fun l q => (h.inv.op l q).mono (by show X.puts ≤ X.puts + 1; omega), by have := h.inv.p0; show 0 ≤ X.puts + 1; omega, hp, h.inv.d0, h.inv.d1⟩
  · rw [cells_set h.box]; rfl
  · have ho := h.op
    cases b <;> cases hx : X.op <;> rw [hx] at ho <;> simp only [moreX, hx]
    · exact ho
    · exact ho
    · exact ho
    · exact SpsAt.relab ho (h.inv.op _ hx) hL
set_option maxRecDepth 20000 in
set_option maxHeartbeats 4000000 in
theorem mput_any {g X bS bO fS fO w} (h : MxH g X bS bO fS fO w) {S P : Int} (hS : K64 S) (hP : K64 P) (hp : X.puts + 1 ≤ 1900) (str : ByteArray) :
    Calls Try.prog 12 #[.pointer (some ⟨g, 0, none⟩), .int .i64 S, .int .i64 P, .string str] w (MxD g (putX X S P str) w) := by
  have b2 : Below w.heap.size w ((w.alloc (.cells #[.int .i64 S] 3)).alloc (.cells #[.int .i64 P] 3)) := ((Below.refl _ w).alloc (Nat.le_refl _) _).alloc (by rw [size_alloc]; omega) _
  have z1 : ((w.alloc (.cells #[.int .i64 S] 3)).alloc (.cells #[.int .i64 P] 3)).cell? ⟨w.heap.size, 0, none⟩ = some (.int .i64 S) := (World.cell?_of_block (Below.heap_alloc _ _ w.heap.size (by rw [size_alloc]; omega))).trans (one_box w 3 _)
  have z2 : ((w.alloc (.cells #[.int .i64 S] 3)).alloc (.cells #[.int .i64 P] 3)).cell? ⟨w.heap.size + 1, 0, none⟩ = some (.int .i64 P) := by
    have := one_box (w.alloc (.cells #[.int .i64 S] 3)) 3 (.int .i64 P)
    rw [size_alloc] at this
    exact this
  have H2 := h.call b2
  have hrf := refuses_any H2
  have hlt := H2.lt
  generalize hRes : putX X S P str = Res at *
  unfold putX at hRes
  unfold refX at hrf
  obtain ⟨-, -, -, -, c4, -, c6, -, c8⟩ := H2.cells
  have ho := h.op
  cases hx : X.op with
  | none =>
    rw [hx] at hRes hrf
    subst hRes
    have H := Hid.mk (And.intro h b2)
    have HN := Hid.mk hrf
    clear h H2 hrf b2 ho z1 z2 c4 c6 c8 hlt
    go_enter Try.func12, Try.ntmps12
    go_wp2_with (first | (go_at_call 23; refine HN.out.mono ?_; rintro e w1 ⟨rfl, rfl⟩; simp only [Option.isNone_none, if_true]))
    go_ret
    exact MxD.same H.out.1 H.out.2 180
  | some l =>
    rw [hx] at hRes hrf ho
    cases bO with
    | none => exact ho.elim
    | some b =>
      simp only at hRes
      have HN := Hid.mk hrf
      clear hrf
      by_cases hsz : X.sz < (str.size : Int)
      · rw [if_pos hsz] at hRes
        subst hRes
        have H := Hid.mk (And.intro h b2)
        clear h H2 b2 ho z1 z2 c6 c8
        go_enter Try.func12, Try.ntmps12
        go_wp2_with (first | (go_at_call 23; refine HN.out.mono ?_; rintro e w1 ⟨rfl, rfl⟩; simp only [Option.isNone_some, Bool.false_eq_true, if_false]))
        go_ret
        exact MxD.same H.out.1 H.out.2 173
      · rw [if_neg hsz] at hRes
        have dsz : decide (X.sz < (str.size : Int)) = false := by simpa using hsz
        have hcl : ∀ W, Below ((w.alloc (.cells #[.int .i64 S] 3)).alloc (.cells #[.int .i64 P] 3)).heap.size ((w.alloc (.cells #[.int .i64 S] 3)).alloc (.cells #[.int .i64 P] 3)) W → Calls Try.prog 24 #[.map (some b), .int .i64 S] W fun e w' => e = .returned (.int .i64 (clA (abl l) S)) ∧ Below W.heap.size W w' := fun W B => closed_any ((show SpsAt X.L w b l fO from ho).call (below3 b2 B)) (h.inv.op l hx) hS
        have hcl0 : clA (abl l) S = 0 → ∃ x, gA l S = some x := clA_some
        have hE : clA (abl l) S = clA (abl l) S := rfl
        generalize clA (abl l) S = E at hRes hcl hcl0
        clear hE
        have lG : w.heap.size + 1 < ((w.alloc (.cells #[.int .i64 S] 3)).alloc (.cells #[.int .i64 P] 3)).heap.size := by simp only [size_alloc]; omega
        have H := Hid.mk (And.intro h (And.intro b2 (And.intro H2 (And.intro hcl (And.intro hcl0 hRes)))))
        clear h H2 b2 ho hcl hcl0 hRes hsz
        have lG0 : w.heap.size < ((w.alloc (.cells #[.int .i64 S] 3)).alloc (.cells #[.int .i64 P] 3)).heap.size := by omega
        go_enter Try.func12, Try.ntmps12
        go_upto_region 6 with (first | (go_at_call 23; refine HN.out.mono ?_; rintro e w1 ⟨rfl, rfl⟩; simp only [Option.isNone_some, Bool.false_eq_true, if_false]))
        generalize ((w.alloc (.cells #[.int .i64 S] 3)).alloc (.cells #[.int .i64 P] 3)) = w2 at *
        generalize hG : w.heap.size = G at *
        have HG := Hid.mk hG
        clear hG HN
        have b0 := Below.refl w2.heap.size w2
        have kS := fun W (B : Below w2.heap.size w2 W) => And.intro B (And.intro ((B.cell (p := ⟨g, 6, none⟩) hlt).trans c6) ((B.cell (p := ⟨G, 0, none⟩) lG0).trans z1))
        go_region_held3 (fun w' => Below w2.heap.size w2 w' ∧ w'.cell? ⟨g, 6, none⟩ = some (.map (some b)) ∧ w'.cell? ⟨G, 0, none⟩ = some (.int .i64 S))
          (first | (exact kS _ b0.drew) | (exact kS _ (below3 (And.left (by assumption)) (by assumption))) | fail)
          (first | (go_at_call 24; refine (H.out.2.2.2.1 _ (And.left (by assumption))).mono ?_; rintro e w3 ⟨rfl, b3⟩))
        have B3 : Below w2.heap.size w2 w3 := below3 b0.drew b3
        have z1' := (B3.cell (p := ⟨G, 0, none⟩) lG0).trans z1
        have z2' := (B3.cell (p := ⟨G + 1, 0, none⟩) lG).trans z2
        have lG' := Nat.lt_of_lt_of_le lG B3.size
        have H3 := H.out.2.2.1.call B3
        have BB := below3 (HG.out ▸ H.out.2.1) B3
        have hgG : g < G := by have := H.out.1.lt; rw [HG.out] at this; exact this
        clear kS b3 c4 c6 c8 hlt b0
        by_cases hE0 : E = 0
        · subst hE0
          have hr := H.out.2.2.2.2.2
          rw [if_neg (fun q => q rfl)] at hr
          obtain ⟨x, hgx⟩ := H.out.2.2.2.2.1 rfl
          obtain ⟨-, -, -, -, c4, -, c6, -, c8⟩ := H3.cells
          have hlt := H3.lt
          have fz8 := H3.fz 8
          have hw : IntKind.i64.wrap (X.puts + 1) = X.puts + 1 := by have := H3.inv.p0; exact wrap_id (by omega) (by omega)
          have K3 := Hid.mk (And.intro BB (And.intro H3 (And.intro hr (And.intro hgx (And.intro z1' (And.intro z2' lG'))))))
          clear BB H3 hr hgx z1' z2' z1 z2 lG lG0 lG' H B3 c4 c6
          generalize hpp : X.puts + 1 = p at *
          go_upto_region 10 with fail
          have M4 := K3.out.2.1.more (by omega) str
          rw [hpp] at M4
          have e4 : w3.grownBy (w3.setCell ⟨g, 8, none⟩ (.int .i64 p)) (some g) := grown_set _
          have y1 : (w3.setCell ⟨g, 8, none⟩ (.int .i64 p)).cell? ⟨G, 0, none⟩ = some (.int .i64 S) := (World.cell?_of_block (heap_setCell_other w3 ⟨g, 8, none⟩ G _ (by show G ≠ g; omega))).trans K3.out.2.2.2.2.1
          have y2 : (w3.setCell ⟨g, 8, none⟩ (.int .i64 p)).cell? ⟨G + 1, 0, none⟩ = some (.int .i64 P) := (World.cell?_of_block (heap_setCell_other w3 ⟨g, 8, none⟩ (G + 1) _ (by show G + 1 ≠ g; omega))).trans K3.out.2.2.2.2.2.1
          have yl : G + 1 < (w3.setCell ⟨g, 8, none⟩ (.int .i64 p)).heap.size := Nat.lt_of_lt_of_le K3.out.2.2.2.2.2.2 e4.size
          have c8' := (M4.cells).2.2.2.2.2.2.2.2
          rw [show (moreX X str).puts = p from hpp] at c8'
          have hl4 := M4.lt
          have B4 : w.grownBy (w3.setCell ⟨g, 8, none⟩ (.int .i64 p)) (some g) := grown_trans (grown_of_below K3.out.1 _) e4
          have hr := K3.out.2.2.1
          have hgx := K3.out.2.2.2.1
          have hp1 : 1 ≤ p := by have := K3.out.2.1.inv.p0; omega
          generalize w3.setCell ⟨g, 8, none⟩ (.int .i64 p) = w4 at *
          have M5 := M4.alloc (.cells #[.int .i64 p, .string str] 75)
          have x5 := heap_alloc_new w4 (.cells #[.int .i64 p, .string str] 75)
          have b5 := below_box w4 (.cells #[.int .i64 p, .string str] 75)
          have hLp : (moreX X str).L p = str := by
            show updL X.L (X.puts + 1) str p = str
            unfold updL
            rw [if_pos hpp.symm]
          have hiO : InvM (moreX X str).puts l := M4.inv.op l hx
          have hpu : (moreX X str).puts = p := hpp
          have ct := try26_any M5 (l := l) hx (R := layA (abl l) S P p) (hiO.lay S P ⟨hp1, by omega⟩ (by omega)) (abl_lay l S P p) G (G + 1) w4.heap.size (fun W b2 f2 bW sW => by
            have bb := below3 b5 bW
            have q := put1_any (g1 := G) (g2 := G + 1) (g3 := w4.heap.size) sW hiO hS hP hp1 hgx ((bb.cell (p := ⟨G, 0, none⟩) (show G < w4.heap.size by omega)).trans y1) ((bb.cell (p := ⟨G + 1, 0, none⟩) yl).trans y2)
              ((World.cell?_of_block (bW.block w4.heap.size (by rw [size_alloc]; omega))).trans (box75 x5).1) (by rw [hLp]; exact (World.cell?_of_block (bW.block w4.heap.size (by rw [size_alloc]; omega))).trans (box75 x5).2)
            exact q)
          rw [hr] at ct
          have CT := Hid.mk (And.intro ct (And.intro B4 b5))
          clear ct B4 b5 x5 M5 M4 e4 y1 y2 yl hr hgx K3 hLp hiO hpu fz8
          go_wp2_with (first | (go_at_call 25; refine CT.out.1.mono ?_; intro e w6 hd; obtain ⟨rfl, hd2⟩ := hd))
          go_ret
          exact ⟨rfl, hd2.1, grown_trans CT.out.2.1 (grown_trans (grown_of_below CT.out.2.2 _) hd2.2)⟩
        · have hEb : (E != 0) = true := by simpa using hE0
          have hr := H.out.2.2.2.2.2
          rw [if_pos hE0] at hr
          subst hr
          have K3 := Hid.mk (And.intro BB H.out.1)
          clear BB H3 z1' z2' z1 z2 lG lG0 lG' H B3 hE0
          go_wp2_with fail
          go_ret
          exact MxD.same K3.out.2 K3.out.1 E
set_option maxRecDepth 20000 in
set_option maxHeartbeats 4000000 in
theorem mdo_any {g X bS bO fS fO w} (h : MxH g X bS bO fS fO w) (K S P A T N : Int) (hS : K64 S) :
    Calls Try.prog 13 #[.pointer (some ⟨g, 0, none⟩), rv K S P A T N] w (MxD g (doX X K S P A T N) w) := by
  have b2 := below_box w (.cells #[.int .i64 K, .int .i64 S, .int .i64 P, .int .i64 A, .int .i64 T, .int .i64 N] 41)
  have H2 := h.call b2
  have hrow := heap_alloc_new w (.cells #[.int .i64 K, .int .i64 S, .int .i64 P, .int .i64 A, .int .i64 T, .int .i64 N] 41)
  have hrf := refuses_any H2
  have hlt := H2.lt
  generalize hRes : doX X K S P A T N = Res at *
  unfold doX at hRes
  unfold refX at hrf
  obtain ⟨-, -, -, -, -, -, c6, -, -⟩ := H2.cells
  have ho := h.op
  unfold rv
  cases hx : X.op with
  | none =>
    rw [hx] at hRes hrf
    subst hRes
    have H := Hid.mk (And.intro h b2)
    have HN := Hid.mk hrf
    clear h H2 hrf b2 ho c6 hlt hrow
    go_enter Try.func13, Try.ntmps13
    go_wp2_with (first | (go_at_call 23; refine HN.out.mono ?_; rintro e w1 ⟨rfl, rfl⟩; simp only [Option.isNone_none, if_true]))
    go_ret
    exact MxD.same H.out.1 H.out.2 180
  | some l =>
    rw [hx] at hRes hrf ho
    cases bO with
    | none => exact ho.elim
    | some b =>
      simp only at hRes
      have HN := Hid.mk hrf
      have hmb := mayBe_any K S P A T N (w.alloc (.cells #[.int .i64 K, .int .i64 S, .int .i64 P, .int .i64 A, .int .i64 T, .int .i64 N] 41))
      unfold rv at hmb
      clear hrf
      obtain ⟨z0, z1, z2, z3, z4, z5⟩ : (w.alloc (.cells #[.int .i64 K, .int .i64 S, .int .i64 P, .int .i64 A, .int .i64 T, .int .i64 N] 41)).cell? ⟨w.heap.size, 0, none⟩ = some (.int .i64 K) ∧ (w.alloc (.cells #[.int .i64 K, .int .i64 S, .int .i64 P, .int .i64 A, .int .i64 T, .int .i64 N] 41)).cell? ⟨w.heap.size, 1, none⟩ = some (.int .i64 S) ∧ (w.alloc (.cells #[.int .i64 K, .int .i64 S, .int .i64 P, .int .i64 A, .int .i64 T, .int .i64 N] 41)).cell? ⟨w.heap.size, 2, none⟩ = some (.int .i64 P) ∧ (w.alloc (.cells #[.int .i64 K, .int .i64 S, .int .i64 P, .int .i64 A, .int .i64 T, .int .i64 N] 41)).cell? ⟨w.heap.size, 3, none⟩ = some (.int .i64 A) ∧ (w.alloc (.cells #[.int .i64 K, .int .i64 S, .int .i64 P, .int .i64 A, .int .i64 T, .int .i64 N] 41)).cell? ⟨w.heap.size, 4, none⟩ = some (.int .i64 T) ∧ (w.alloc (.cells #[.int .i64 K, .int .i64 S, .int .i64 P, .int .i64 A, .int .i64 T, .int .i64 N] 41)).cell? ⟨w.heap.size, 5, none⟩ = some (.int .i64 N) := by
        refine ⟨?_, ?_, ?_, ?_, ?_, ?_⟩ <;> rw [cell_of_row _ _ _ _ 41 _ hrow] <;> rfl
      cases hkb : (kindB K && mayB K S P A T N) with
      | false =>
        rw [hkb] at hRes hmb
        rw [if_pos rfl] at hRes
        subst hRes
        have H := Hid.mk (And.intro h (And.intro b2 hmb))
        clear h H2 b2 ho c6 hrow hmb
        go_enter Try.func13, Try.ntmps13
        go_wp2_with (first | (go_at_call 23; refine HN.out.mono ?_; rintro e w1 ⟨rfl, rfl⟩; simp only [Option.isNone_some, Bool.false_eq_true, if_false]) | (go_at_call 28; refine H.out.2.2.mono ?_; rintro e w1 ⟨rfl, b1⟩))
        go_ret
        exact MxD.same H.out.1 (below3 H.out.2.1 b1) 1
      | true =>
        rw [hkb] at hRes hmb
        rw [if_neg (by simp)] at hRes
        simp only [Bool.and_eq_true] at hkb
        have hK := kindB_or hkb.1
        have hm := hkb.2
        have hrowR : Row (w.alloc (.cells #[.int .i64 K, .int .i64 S, .int .i64 P, .int .i64 A, .int .i64 T, .int .i64 N] 41)) w.heap.size 41 .i64 [K, S, P, A, T, N] := Row.fresh w 41 .i64 [K, S, P, A, T, N]
        have hcl : ∀ W, Below (w.alloc (.cells #[.int .i64 K, .int .i64 S, .int .i64 P, .int .i64 A, .int .i64 T, .int .i64 N] 41)).heap.size (w.alloc (.cells #[.int .i64 K, .int .i64 S, .int .i64 P, .int .i64 A, .int .i64 T, .int .i64 N] 41)) W → Calls Try.prog 24 #[.map (some b), .int .i64 S] W fun e w' => e = .returned (.int .i64 (clA (abl l) S)) ∧ Below W.heap.size W w' := fun W B => closed_any ((show SpsAt X.L w b l fO from ho).call (below3 b2 B)) (h.inv.op l hx) hS
        have hct : ∀ W, Below (w.alloc (.cells #[.int .i64 K, .int .i64 S, .int .i64 P, .int .i64 A, .int .i64 T, .int .i64 N] 41)).heap.size (w.alloc (.cells #[.int .i64 K, .int .i64 S, .int .i64 P, .int .i64 A, .int .i64 T, .int .i64 N] 41)) W → Calls Try.prog 25 #[.pointer (some ⟨g, 0, none⟩), .func (.func 29) #[] #[.pointer (some ⟨w.heap.size, 0, none⟩)]] W (MxD g (tryX X (apA (abl l) K S P A T N)) W) := fun W B => by
          refine try29_any (H2.call B) hx ((h.inv.op l hx).ap hm hK) (abl_ap hm hK) w.heap.size (fun W2 b3 f3 bW sW => ?_)
          exact do1_any sW (h.inv.op l hx) hm hK (hrowR.call (below3 B bW))
        have lG : w.heap.size < (w.alloc (.cells #[.int .i64 K, .int .i64 S, .int .i64 P, .int .i64 A, .int .i64 T, .int .i64 N] 41)).heap.size := by rw [size_alloc]; omega
        generalize clA (abl l) S = E at hRes hcl
        generalize apA (abl l) K S P A T N = R at hRes hct
        have H := Hid.mk (And.intro h (And.intro b2 (And.intro H2 (And.intro hmb (And.intro hcl (And.intro hct hRes))))))
        clear h H2 b2 ho hcl hct hRes hmb hrow hrowR hm hkb hK
        go_enter Try.func13, Try.ntmps13
        go_upto_region 6 with (first | (go_at_call 23; refine HN.out.mono ?_; rintro e w1 ⟨rfl, rfl⟩; simp only [Option.isNone_some, Bool.false_eq_true, if_false]) | (go_at_call 28; refine H.out.2.2.2.1.mono ?_; rintro e w3 ⟨rfl, b3⟩))
        generalize (w.alloc (.cells #[.int .i64 K, .int .i64 S, .int .i64 P, .int .i64 A, .int .i64 T, .int .i64 N] 41)) = w2 at *
        generalize hG : w.heap.size = G at *
        have HG := Hid.mk hG
        clear HN hG
        have c6' := (b3.cell (p := ⟨g, 6, none⟩) hlt).trans c6
        have z0' := (b3.cell (p := ⟨G, 0, none⟩) lG).trans z0
        have z1' := (b3.cell (p := ⟨G, 1, none⟩) lG).trans z1
        have hlt3 := Nat.lt_of_lt_of_le hlt b3.size
        have lG3 := Nat.lt_of_lt_of_le lG b3.size
        have BB := below3 (HG.out ▸ H.out.2.1) b3
        have K3 := Hid.mk (And.intro BB b3)
        clear BB b3 z0 z1 z2 z3 z4 z5 c6 hlt lG
        by_cases hK2 : K = 2
        · subst hK2
          have b0 := Below.refl w3.heap.size w3
          have kS := fun W (B : Below w3.heap.size w3 W) => And.intro B (And.intro ((B.cell (p := ⟨g, 6, none⟩) hlt3).trans c6') ((B.cell (p := ⟨G, 1, none⟩) lG3).trans z1'))
          go_upto_region 7 with fail
          go_region_held3 (fun w' => Below w3.heap.size w3 w' ∧ w'.cell? ⟨g, 6, none⟩ = some (.map (some b)) ∧ w'.cell? ⟨G, 1, none⟩ = some (.int .i64 S))
            (first | (exact kS _ b0.drew) | (exact kS _ (below3 (And.left (by assumption)) (by assumption))) | fail)
            (first | (go_at_call 24; refine (H.out.2.2.2.2.1 _ (below3 K3.out.2 (And.left (by assumption)))).mono ?_; rintro e w4 ⟨rfl, b4⟩))
          have B4 : Below w3.heap.size w3 w4 := below3 b0.drew b4
          have hr := H.out.2.2.2.2.2.2
          by_cases hE0 : E = 0
          · subst hE0
            rw [if_neg (fun q => q.2 rfl)] at hr
            have ct := H.out.2.2.2.2.2.1 w4 (below3 K3.out.2 B4)
            rw [hr] at ct
            have CT := Hid.mk (And.intro ct (below3 K3.out.1 B4))
            clear ct kS b0 b4 B4 K3 hr
            go_wp2_with (first | (go_at_call 25; refine CT.out.1.mono ?_; intro e w6 hd; obtain ⟨rfl, hd2⟩ := hd))
            go_ret
            exact MxD.pre CT.out.2 ⟨rfl, hd2⟩
          · have hEb : (E != 0) = true := by simpa using hE0
            rw [if_pos (by first | exact ⟨rfl, hE0⟩ | exact ⟨trivial, hE0⟩)] at hr
            subst hr
            have CT := Hid.mk (below3 K3.out.1 B4)
            clear kS b0 b4 B4 K3 hE0
            go_wp2_with fail
            go_ret
            exact MxD.same H.out.1 CT.out E
        · have hr := H.out.2.2.2.2.2.2
          rw [if_neg (fun q => hK2 q.1)] at hr
          have hKb : (K == 2) = false := by simpa using hK2
          have ct := H.out.2.2.2.2.2.1 w3 K3.out.2
          rw [hr] at ct
          have CT := Hid.mk (And.intro ct K3.out.1)
          clear ct K3 hr hK2
          go_wp2_with (first | (go_at_call 25; refine CT.out.1.mono ?_; intro e w6 hd; obtain ⟨rfl, hd2⟩ := hd))
          go_ret
          exact MxD.pre CT.out.2 ⟨rfl, hd2⟩
/-! no plain device -/
set_option maxRecDepth 20000 in
theorem none_begin (w : World) : Calls Try.prog 9 #[.pointer none] w fun e w' => e = .returned (.int .i64 1) ∧ w = w' := by
  have HN := Hid.mk (isNone_nil w)
  go_enter Try.func9, Try.ntmps9
  go_wp2_with (first | (go_at_call 22; refine HN.out.mono ?_; rintro e w1 ⟨rfl, rfl⟩))
  go_ret
  exact ⟨rfl, rfl⟩
set_option maxRecDepth 20000 in
theorem none_commit (w : World) : Calls Try.prog 10 #[.pointer none] w fun e w' => e = .returned (.int .i64 1) ∧ w = w' := by
  have HN := Hid.mk (refuses_nil w)
  go_enter Try.func10, Try.ntmps10
  go_wp2_with (first | (go_at_call 23; refine HN.out.mono ?_; rintro e w1 ⟨rfl, rfl⟩))
  go_ret
  exact ⟨rfl, rfl⟩
set_option maxRecDepth 20000 in
theorem none_abort (w : World) : Calls Try.prog 11 #[.pointer none] w fun e w' => e = .returned (.int .i64 1) ∧ w = w' := by
  have HN := Hid.mk (refuses_nil w)
  go_enter Try.func11, Try.ntmps11
  go_wp2_with (first | (go_at_call 23; refine HN.out.mono ?_; rintro e w1 ⟨rfl, rfl⟩))
  go_ret
  exact ⟨rfl, rfl⟩
set_option maxRecDepth 20000 in
theorem none_put (w : World) (S P : Int) (str : ByteArray) : Calls Try.prog 12 #[.pointer none, .int .i64 S, .int .i64 P, .string str] w fun e w' => e = .returned (.int .i64 1) ∧ Below w.heap.size w w' := by
  have b2 : Below w.heap.size w ((w.alloc (.cells #[.int .i64 S] 3)).alloc (.cells #[.int .i64 P] 3)) := ((Below.refl _ w).alloc (Nat.le_refl _) _).alloc (by rw [size_alloc]; omega) _
  have HN := Hid.mk (And.intro (fun w => refuses_nil w) b2)
  clear b2
  go_enter Try.func12, Try.ntmps12
  go_wp2_with (first | (go_at_call 23; refine (HN.out.1 _).mono ?_; rintro e w1 ⟨rfl, rfl⟩))
  go_ret
  exact ⟨rfl, HN.out.2⟩
set_option maxRecDepth 20000 in
theorem none_do (w : World) (K S P A T N : Int) : Calls Try.prog 13 #[.pointer none, rv K S P A T N] w fun e w' => e = .returned (.int .i64 1) ∧ Below w.heap.size w w' := by
  have HN := Hid.mk (fun w => refuses_nil w)
  unfold rv
  go_enter Try.func13, Try.ntmps13
  go_wp2_with (first | (go_at_call 23; refine (HN.out _).mono ?_; rintro e w1 ⟨rfl, rfl⟩))
  go_ret
  exact ⟨rfl, below_box w _⟩
set_option maxRecDepth 20000 in
theorem none_get (w : World) (id page : Int) : Calls Try.prog 21 #[.pointer none, .int .i64 id, .int .i64 page] w fun e w' => e = .returned (.tuple #[.string ByteArray.empty, .int .i64 1]) ∧ w = w' := by
  have HN := Hid.mk (isNone_nil w)
  go_enter Try.func21, Try.ntmps21
  go_wp2_with (first | (go_at_call 22; refine HN.out.mono ?_; rintro e w1 ⟨rfl, rfl⟩))
  go_ret2
  exact ⟨rfl, rfl⟩
set_option maxRecDepth 20000 in
theorem none_spaces (w : World) : Calls Try.prog 19 #[.pointer none] w fun e w' => e = .returned (.slice none 0 0) ∧ w = w' := by
  have HN := Hid.mk (isNone_nil w)
  go_enter Try.func19, Try.ntmps19
  go_wp2_with (first | (go_at_call 22; refine HN.out.mono ?_; rintro e w1 ⟨rfl, rfl⟩))
  go_ret
  exact ⟨rfl, rfl⟩
set_option maxRecDepth 20000 in
theorem none_leaves (w : World) : Calls Try.prog 18 #[.pointer none] w fun e w' => e = .returned (.slice none 0 0) ∧ w = w' := by
  have HN := Hid.mk (isNone_nil w)
  go_enter Try.func18, Try.ntmps18
  go_wp2_with (first | (go_at_call 22; refine HN.out.mono ?_; rintro e w1 ⟨rfl, rfl⟩))
  go_ret
  exact ⟨rfl, rfl⟩
set_option maxRecDepth 20000 in
theorem none_copy (w : World) : Calls Try.prog 20 #[.pointer none] w fun e w' => e = .returned (.pointer none) ∧ w = w' := by
  have HN := Hid.mk (isNone_nil w)
  go_enter Try.func20, Try.ntmps20
  go_wp2_with (first | (go_at_call 22; refine HN.out.mono ?_; rintro e w1 ⟨rfl, rfl⟩))
  go_ret
  exact ⟨rfl, rfl⟩
end Go.Proofs.Ytacgemibaojbaaa
