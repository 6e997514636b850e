/-
  The walk of WriteReads. Condition: the table's cells hold what the text lays.
-/
import Derived.Test.YtbcnocbdifbocaaDoorRdm
import Derived.Deep.CutBlock
import Derived.Deep.DeepCutAuto
namespace Go.Proofs.YtbcnocbdifbocaaDoor
open Go Go.RowKit
set_option maxRecDepth 100000

/-- the number of a block, out of whatever number -/
theorem block_of' (n : Int) (b : Nat) (hb : 1 ≤ b) (hb2 : b ≤ 32) : ∃ (x : Int) (c : Nat), n.tmod (b : Int) = x ∧ -33 < x ∧ x < 33 ∧ (x + (b : Int)).tmod (b : Int) = (c : Int) ∧ c < b := by
  have h1 := Int.lt_tmod_of_pos n (show (0 : Int) < b by omega)
  have h2 := Int.tmod_lt_of_pos n (show (0 : Int) < b by omega)
  have h3 : 0 ≤ (n.tmod (b : Int) + (b : Int)).tmod (b : Int) := Int.tmod_nonneg _ (by omega)
  have h4 := Int.tmod_lt_of_pos (n.tmod (b : Int) + (b : Int)) (show (0 : Int) < b by omega)
  obtain ⟨c, hc⟩ := Int.eq_ofNat_of_zero_le h3
  exact ⟨_, c, rfl, by omega, by omega, hc, by omega⟩
/-- acts that were handed in -/
def ActsF (w : World) (a : Option Addr) (n : Nat) (f : Nat → Int × Int × ByteArray) : Prop := ∀ i, i < n → ∃ g o, a = some ⟨g, o, none⟩ ∧ g < w.heap.size ∧ w.cell? ⟨g, o + i * 3, none⟩ = some (.int .i64 (f i).1) ∧ w.cell? ⟨g, o + i * 3 + 1, none⟩ = some (.int .i64 (f i).2.1) ∧ w.cell? ⟨g, o + i * 3 + 2, none⟩ = some (.string (f i).2.2)
theorem ActsF.below {w w' : World} {a n f} (h : ActsF w a n f) (b : Below w.heap.size w w') : ActsF w' a n f := by
  intro i hi
  obtain ⟨g, o, ha, hg, h1, h2, h3⟩ := h i hi
  exact ⟨g, o, ha, Nat.lt_of_lt_of_le hg b.size, (b.cell (p := ⟨g, o + i * 3, none⟩) hg).trans h1, (b.cell (p := ⟨g, o + i * 3 + 1, none⟩) hg).trans h2, (b.cell (p := ⟨g, o + i * 3 + 2, none⟩) hg).trans h3⟩
def cut70 (s : ByteArray) : ByteArray := if s.size ≤ 70 then s else s.extract 0 70
theorem few_any (s : ByteArray) (w : World) : Calls Tryd.prog 12 #[.string s] w fun e w' => e = .returned (.string (cut70 s)) ∧ w' = w := by
  unfold cut70
  by_cases h : s.size ≤ 70
  · rw [if_pos h]
    go_enter Tryd.func12, Tryd.ntmps12
    go_wp2
    go_ret
    exact ⟨rfl, rfl⟩
  · rw [if_neg h]
    have h2 : (70 : Int) < (s.size : Int) := by omega
    go_enter Tryd.func12, Tryd.ntmps12
    go_wp2
    go_ret
    exact ⟨rfl, rfl⟩
theorem lat_any' {w : World} {a g n k xs o nx} (h : Lf.Lif w a g n k xs o nx) : Calls Tryd.prog 16 #[.pointer (some ⟨a, 0, none⟩)] w fun e w' => ∃ (x y : Int) (t : Bool) (m : Nat), e = .returned (.tuple #[.int .i64 x, .int .i64 y, .bool t]) ∧ w' = w.drewN m ∧ (t = true → x = o ∧ 0 ≤ o) := by
  by_cases ho : 0 ≤ o
  · refine (Lf.at_some h ho).mono ?_
    rintro e w' ⟨rfl, m, rfl⟩
    exact ⟨o, nx, true, m, rfl, rfl, fun _ => ⟨rfl, ho⟩⟩
  · have := h.ok.or
    refine (Lf.at_none h (by omega)).mono ?_
    rintro e w' ⟨rfl, rfl⟩
    exact ⟨0, 0, false, 0, rfl, rfl, fun h => by cases h⟩
/-- what WriteReads holds at each act -/
structure RdI (w : World) (G gs gh b p z v a0 k : Nat) (A : Wl) (X : Wx) (H : Nat → Nat → Option ByteArray) (f : Nat → ByteArray) (wr : World) : Prop where
  m : RdM w G gs gh b p z v A X H f wr
  wc : Wc X H k
  did : X.C.did ≤ 300 * k
  bd : (X.bd.length : Int) ≤ 300 * k
  ea : A.a = a0
theorem RdI.more {w : World} {G gs gh b p z v a0 k A X H f} {wr wr' : World} (h : RdI w G gs gh b p z v a0 k A X H f wr) (m : RdM w G gs gh b p z v A X H f wr') : RdI w G gs gh b p z v a0 (k + 1) A X H f wr' :=
  ⟨m, h.wc.more (by omega), by have := h.did; omega, by have := h.bd; omega, h.ea⟩
theorem rdm_start {w w3 : World} {A X} {G b p z v : Nat} (h : RunG w G b p z A X w3) (hG : G < w3.heap.size) (gs gh : Nat) (V : World) (hs : V.rowIs gs 9 v (fun _ => .string ⟨#[]⟩)) (hh : V.rowIs gh 4 v (fun _ => .bool false)) (bl : Below w3.heap.size w3 V) (g1 : w3.heap.size ≤ gs) (g2 : w3.heap.size ≤ gh) (hne : gs ≠ gh) :
    RdM w G gs gh b p z v A X (fun _ _ => none) (fun _ => ⟨#[]⟩) V := by
  have hw := h.run.below.size
  exact ⟨h.call bl, hs, hh, fun x => by have := h.run.wtr.lt _ x; omega, fun x => by have := h.run.wtr.lt _ x; omega, hne, ⟨by omega, by omega⟩, ⟨by omega, by omega⟩, fun i t _ e => by simp at e⟩
theorem place_of {P p : Nat} (e : P = p) (j : Nat) : (j : Int) = ((j / p : Nat) : Int) * (P : Int) + ((j % p : Nat) : Int) := by
  subst e
  have h := Nat.div_add_mod j P
  rw [Nat.mul_comm] at h
  omega
theorem RdI.keep {w : World} {G gs gh b p z v a0 k A X H f} {wr wr' : World} (h : RdI w G gs gh b p z v a0 k A X H f wr) (m : RdM w G gs gh b p z v A X H f wr') : RdI w G gs gh b p z v a0 k A X H f wr' := ⟨m, h.wc, h.did, h.bd, h.ea⟩
theorem rdi_erf {w : World} {G gs gh b p z v a0 k c A A5 X X5 H f} {wr w7 : World} (h : RdI w G gs gh b p z v a0 k A X H f wr) (h7 : Wtr w7 A5 X5) (n7 : Nxt A A5 X.C.B wr w7) (hB : Geq X5 X ∧ X5.C.did = X.C.did + 1 + 1 ∧ X5.bd = note X.bd (c : Nat)) (hW : Wc X5 H (k + 1)) : RdI w G gs gh b p z v a0 (k + 1) A5 X5 H f w7 := by
  have hn := note_len X.bd (c : Nat)
  have h1 := h.did
  have h2 := h.bd
  exact ⟨h.m.next h7 n7 hB.1, hW, by rw [hB.2.1]; omega, by rw [hB.2.2]; omega, n7.a.trans h.ea⟩
theorem rdi_full {w : World} {G gs gh b p z v a0 k o A X H f} {wr w8 : World} (h : RdI w G gs gh b p z v a0 k A X H f wr) (h8 : Wtr w8 A (X.letB o 2)) (k8 : Kp (A.own X.C.B) wr w8) (hW : Wc (X.letB o 2) H k) : RdI w G gs gh b p z v a0 (k + 1) A (X.letB o 2) H f w8 :=
  ⟨h.m.next h8 (Nxt.of k8) ⟨rfl, rfl, rfl⟩, hW.more (by omega), by have := h.did; show X.C.did ≤ _; omega, by have := h.bd; show (X.bd.length : Int) ≤ _; omega, h.ea⟩
theorem u_facts {c p b v : Nat} (hcb : c < b) (hp : p ≤ 16) (hb : b ≤ 32) (hv : b * p = v) : ∃ u : Nat, c * p = u ∧ u + p ≤ v ∧ wrap64 ((c : Int) * (p : Int)) = (u : Int) ∧ IntKind.i64.wrap ((c : Int) * (p : Int)) = (u : Int) := by
  have h2 : (c + 1) * p ≤ b * p := Nat.mul_le_mul_right p hcb
  have h3 : b * p ≤ 32 * 16 := Nat.mul_le_mul hb hp
  rw [Nat.succ_mul] at h2
  have e : (c : Int) * (p : Int) = ((c * p : Nat) : Int) := by simp
  refine ⟨c * p, rfl, by omega, ?_, ?_⟩
  · rw [e]; unfold wrap64; omega
  · rw [e]; exact wrap_small _ (by omega)
theorem t_facts {u p v j : Nat} (hur : u + p ≤ v) (hv : v ≤ 1000) (hj : j < p) : ∃ t : Nat, u + j = t ∧ t < v ∧ (u : Int) + (j : Int) = (t : Int) ∧ IntKind.i64.wrap ((u : Int) + (j : Int)) = (t : Int) ∧ (t : Int) < (v : Int) := by
  have e : (u : Int) + (j : Int) = ((u + j : Nat) : Int) := by simp
  refine ⟨u + j, rfl, by omega, e, ?_, by omega⟩
  rw [e]; exact wrap_small _ (by omega)
theorem reg_keep {V wx : World} {G b p : Nat} (h : wx.cell? ⟨G, 0, none⟩ = some (.int .i64 b) ∧ wx.cell? ⟨G, 1, none⟩ = some (.int .i64 p) ∧ Below V.heap.size V wx) (o : Obj) :
    (wx.alloc o).cell? ⟨G, 0, none⟩ = some (.int .i64 b) ∧ (wx.alloc o).cell? ⟨G, 1, none⟩ = some (.int .i64 p) ∧ Below V.heap.size V (wx.alloc o) := by
  have k := (Below.refl wx.heap.size wx).alloc (Nat.le_refl _) o
  exact ⟨(k.cell (World.block_lt_of_cell? wx _ h.1)).trans h.1, (k.cell (World.block_lt_of_cell? wx _ h.2.1)).trans h.2.1, h.2.2.alloc h.2.2.size o⟩
theorem two_below (V : World) (o1 o2 : Obj) : Below V.heap.size V ((V.drew.alloc o1).alloc o2) := by
  have h1 := ((Below.refl V.heap.size V).drew).alloc (Nat.le_refl _) o1
  exact h1.alloc h1.size o2
set_option maxHeartbeats 16000000 in
theorem writeReads_any (B0 P0 Z0 : Int) (fa : Option Addr) (flen fc : Nat) (xs : Nat → Int) (la : Option Addr) (llen lc : Nat) (fl : Nat → Int × Int × ByteArray) (w : World) (hT : Pg.Tab w) (hfl : flen ≤ fc) (hfx : ∀ i, i < flen → (∃ g o, fa = some ⟨g, o, none⟩ ∧ g < w.heap.size ∧ w.cell? ⟨g, o + i, none⟩ = some (.int .i64 (xs i))) ∧ (Lit.int .i64 (xs i)).wf = true) (hla : ActsF w la llen fl) :
    Calls Tryd.prog 3 #[.agg #[.int .i64 B0, .int .i64 P0, .int .i64 Z0], .slice fa flen fc, .slice la llen lc] w fun e w' => e = .returned (.bool true) ∧ Below w.heap.size w w' := by
  have B1 := (Below.refl w.heap.size w).alloc (Nat.le_refl _) (.cells #[.int .i64 B0, .int .i64 P0, .int .i64 Z0] 23)
  have hlen : ((List.range flen).map xs).length = flen := by rw [List.length_map, List.length_range]
  have hbg := begun_any B0 P0 Z0 none fa [] ((List.range flen).map xs) 0 fc (w.alloc (.cells #[.int .i64 B0, .int .i64 P0, .int .i64 Z0] 23)) (hT.call B1).1 (fun i hi => by simp at hi) (fun i hi => by
    rw [hlen] at hi
    obtain ⟨⟨g, o, ha, hg, hc⟩, _⟩ := hfx i hi
    have e : ((List.range flen).map xs).getD i 0 = xs i := by simp [List.getD_eq_getElem?_getD, hi]
    exact ⟨g, o, ha, Nat.lt_of_lt_of_le hg B1.size, fun h => h, by rw [e]; exact (B1.cell (p := ⟨g, o + i, none⟩) hg).trans hc⟩) (.inl rfl) (.inl rfl) (Nat.le_refl _) (by rw [hlen]; exact hfl) (fun x hx => by simp at hx) (fun x hx => by
    obtain ⟨i, hi, rfl⟩ := List.mem_map.1 hx
    exact (hfx i (List.mem_range.1 hi)).2)
  rw [hlen] at hbg
  replace hbg : Calls Tryd.prog 9 #[.agg #[.int .i64 B0, .int .i64 P0, .int .i64 Z0], .agg #[.slice none 0 0, .slice fa flen fc, .slice none 0 0]] (w.alloc (.cells #[.int .i64 B0, .int .i64 P0, .int .i64 Z0] 23)) fun e w' =>
      ∃ b p z A, e = .returned (.tuple #[.pointer (some ⟨A.L.a, 0, none⟩), .pointer (some ⟨A.a, 0, none⟩), .bool true]) ∧ Begd (w.alloc (.cells #[.int .i64 B0, .int .i64 P0, .int .i64 Z0] 23)) [] (((List.range flen).map xs).take 8) b p z A w' := hbg
  generalize ((List.range flen).map xs).take 8 = F8 at hbg
  have HBG := Hid.mk hbg
  have HT := Hid.mk (And.intro B1 (And.intro (hT.call B1) (And.intro hT.1 hla)))
  clear hbg B1 hT hla hlen hfx hfl
  go_enter Tryd.func3, Tryd.ntmps3
  go_upto_region 4 with (first
    | (go_at_call 9; refine HBG.out.mono ?_; rintro e w1 ⟨b, p, z, A0, rfl, h1⟩; have HR := Hid.mk (And.intro (Run.from HT.out.1 (Run.beg h1 HT.out.2.1)) h1.geo); clear h1)
    | (go_at_call 10; refine (awake_any _ HR.out.1.tab).mono ?_; rintro e w2 ⟨rfl, b2⟩; replace HR := Hid.mk (And.intro (HR.out.1.call b2) HR.out.2); clear b2))
  have hge := Hid.mk (geom_any HR.out.1.wtr.chip)
  have hg := HR.out.2
  replace hge : Hid (Calls Tryd.prog 11 #[.pointer (some ⟨A0.L.a, 0, none⟩)] w2 fun e w' => e = .returned (.agg #[.int .i64 b, .int .i64 p, .int .i64 z]) ∧ Below w2.heap.size w2 w') := hge
  go_upto_region 5 with (first
    | (go_at_call 11; refine hge.out.mono ?_; rintro e w3 ⟨rfl, b3⟩; have HG := Hid.mk (And.intro (RunG.start (HR.out.1.call b3) b p z rfl rfl rfl) (show w3.heap.size < (w3.alloc (.cells #[.int .i64 b, .int .i64 p, .int .i64 z] 23)).heap.size by rw [size_alloc]; omega)); clear b3))
  generalize w3.heap.size = G at *
  generalize (w3.alloc (.cells #[.int .i64 b, .int .i64 p, .int .i64 z] 23)) = V at *
  have hmr := Lf.mul_range (a := (b : Int)) (b := (p : Int)) (A := 32) (B := 16) (by omega) (by omega)
  obtain ⟨v, hv⟩ : ∃ v : Nat, b * p = v := ⟨_, rfl⟩
  have hvI : (b : Int) * (p : Int) = (v : Int) := by rw [← hv]; simp
  rw [hvI] at hmr
  have hm : wrap64 ((b : Int) * (p : Int)) = (v : Int) := by rw [hvI]; unfold wrap64; omega
  have HV := Hid.mk hv
  have hmkS := run_make_row' (P := Tryd.prog) 35 9 (.string ⟨#[]⟩) 16 Tryd.underlying35 Tryd.info9 rfl .i64 .i64 v (by omega) (by omega)
  have hmkB := run_make_row' (P := Tryd.prog) 36 4 (.bool false) 1 Tryd.underlying36 Tryd.info4 rfl .i64 .i64 v (by omega) (by omega)
  have W0 := Hid.mk (Wc.beg b p z F8 (by omega))
  obtain ⟨a0, ha0⟩ : ∃ a0, a0 = A0.a := ⟨_, rfl⟩
  rw [← ha0]
  have HA0 := Hid.mk ha0
  obtain ⟨c0, c1, c2⟩ := HG.out.1.cells
  have HGEO : Hid (p ≤ 16 ∧ b ≤ 32 ∧ v ≤ 1000) := (by omega : p ≤ 16 ∧ b ≤ 32 ∧ v ≤ 1000)
  have hbn : ¬ b = 0 := by omega
  have hbp : (0 : Int) < (b : Int) := by omega
  have h0w := Hid.mk HT.out.2.2.1
  have HACT := Hid.mk HT.out.2.2.2
  have hS0 : Hid (V.drew.cell? ⟨G, 0, none⟩ = some (.int .i64 b) ∧ V.drew.cell? ⟨G, 1, none⟩ = some (.int .i64 p) ∧ Below V.heap.size V V.drew) := ⟨c0, c1, (Below.refl _ V).drew⟩
  have hmw : IntKind.i64.wrap ((b : Int) * (p : Int)) = (v : Int) := by rw [hvI]; exact wrap_small v (by omega)
  clear HBG HT HR hge hv ha0 hvI c0 c1 c2
  go_cut [11, 12] (fun vs vh wx => ∃ gs gh, vs = .slice (some ⟨gs, 0, none⟩) v v ∧ vh = .slice (some ⟨gh, 0, none⟩) v v ∧ RdM w G gs gh b p z v A0 (begX b p z [] F8) (fun _ _ => none) (fun _ => ⟨#[]⟩) wx)
  case first =>
    refine wp_region_held_drew (S := fun w' => w'.cell? ⟨G, 0, none⟩ = some (.int .i64 b) ∧ w'.cell? ⟨G, 1, none⟩ = some (.int .i64 p) ∧ Below V.heap.size V w') (by kernel_rfl) hS0.out (fun hHeld => ?_)
    refine wpAnyH_take (i := 0) (oi := { dst := some 42, op := Op.fieldAddr 23 (Operand.tmp 10) 0, type := 0, pos := "law.go:57", after := #[], guard := none }) (v := ?vv0) rfl (by kernel_rfl) (by kernel_rfl) (by kernel_rfl) (fun _ _ _ h => h) (Or.inl ⟨by rfl, ?yy0⟩) hHeld ?rr0
    case yy0 => (intro w0 hSw; obtain ⟨s0, s1, s2⟩ := hSw; go_simp; try with_reducible rfl)
    try simp only [Act.put, List.setIfInBounds_toArray, List.set_cons_zero, List.set_cons_succ]
    refine wpAnyH_take (i := 1) (oi := { dst := some 43, op := Op.load 3 (Operand.tmp 42), type := 3, pos := "law.go:57", after := #[{ on := 0, ground := Ground.data }], guard := none }) (v := ?vv1) rfl (by kernel_rfl) (by kernel_rfl) (by kernel_rfl) (fun _ _ _ h => h) (Or.inl ⟨by rfl, ?yy1⟩) hHeld ?rr1
    case yy1 => (intro w0 hSw; obtain ⟨s0, s1, s2⟩ := hSw; go_simp; try with_reducible rfl)
    try simp only [Act.put, List.setIfInBounds_toArray, List.set_cons_zero, List.set_cons_succ]
    refine wpAnyH_take (i := 2) (oi := { dst := some 44, op := Op.fieldAddr 23 (Operand.tmp 10) 1, type := 0, pos := "law.go:57", after := #[], guard := none }) (v := ?vv2) rfl (by kernel_rfl) (by kernel_rfl) (by kernel_rfl) (fun _ _ _ h => h) (Or.inl ⟨by rfl, ?yy2⟩) hHeld ?rr2
    case yy2 => (intro w0 hSw; obtain ⟨s0, s1, s2⟩ := hSw; go_simp; try with_reducible rfl)
    try simp only [Act.put, List.setIfInBounds_toArray, List.set_cons_zero, List.set_cons_succ]
    refine wpAnyH_take (i := 3) (oi := { dst := some 45, op := Op.load 3 (Operand.tmp 44), type := 3, pos := "law.go:57", after := #[{ on := 2, ground := Ground.data }], guard := none }) (v := ?vv3) rfl (by kernel_rfl) (by kernel_rfl) (by kernel_rfl) (fun _ _ _ h => h) (Or.inl ⟨by rfl, ?yy3⟩) hHeld ?rr3
    case yy3 => (intro w0 hSw; obtain ⟨s0, s1, s2⟩ := hSw; go_simp; try with_reducible rfl)
    try simp only [Act.put, List.setIfInBounds_toArray, List.set_cons_zero, List.set_cons_succ]
    refine wpAnyH_take (i := 4) (oi := { dst := some 46, op := Op.binOp BinOp.mul 3 (Operand.tmp 43) (Operand.tmp 45) 3, type := 3, pos := "law.go:57", after := #[{ on := 1, ground := Ground.data }, { on := 3, ground := Ground.data }], guard := none }) (v := ?vv4) rfl (by kernel_rfl) (by kernel_rfl) (by kernel_rfl) (fun _ _ _ h => h) (Or.inl ⟨by rfl, ?yy4⟩) hHeld ?rr4
    case yy4 => (intro w0 hSw; obtain ⟨s0, s1, s2⟩ := hSw; go_simp; try with_reducible rfl)
    try simp only [Act.put, List.setIfInBounds_toArray, List.set_cons_zero, List.set_cons_succ]
    refine wpAnyH_take (i := 6) (oi := { dst := some 48, op := Op.fieldAddr 23 (Operand.tmp 10) 0, type := 0, pos := "law.go:57", after := #[], guard := none }) (v := ?vv6) rfl (by kernel_rfl) (by kernel_rfl) (by kernel_rfl) (fun _ _ _ h => h) (Or.inl ⟨by rfl, ?yy6⟩) hHeld ?rr6
    case yy6 => (intro w0 hSw; obtain ⟨s0, s1, s2⟩ := hSw; go_simp; try with_reducible rfl)
    try simp only [Act.put, List.setIfInBounds_toArray, List.set_cons_zero, List.set_cons_succ]
    refine wpAnyH_take (i := 7) (oi := { dst := some 49, op := Op.load 3 (Operand.tmp 48), type := 3, pos := "law.go:57", after := #[{ on := 6, ground := Ground.data }], guard := none }) (v := ?vv7) rfl (by kernel_rfl) (by kernel_rfl) (by kernel_rfl) (fun _ _ _ h => h) (Or.inl ⟨by rfl, ?yy7⟩) hHeld ?rr7
    case yy7 => (intro w0 hSw; obtain ⟨s0, s1, s2⟩ := hSw; go_simp; try with_reducible rfl)
    try simp only [Act.put, List.setIfInBounds_toArray, List.set_cons_zero, List.set_cons_succ]
    refine wpAnyH_take (i := 8) (oi := { dst := some 50, op := Op.fieldAddr 23 (Operand.tmp 10) 1, type := 0, pos := "law.go:57", after := #[], guard := none }) (v := ?vv8) rfl (by kernel_rfl) (by kernel_rfl) (by kernel_rfl) (fun _ _ _ h => h) (Or.inl ⟨by rfl, ?yy8⟩) hHeld ?rr8
    case yy8 => (intro w0 hSw; obtain ⟨s0, s1, s2⟩ := hSw; go_simp; try with_reducible rfl)
    try simp only [Act.put, List.setIfInBounds_toArray, List.set_cons_zero, List.set_cons_succ]
    refine wpAnyH_take (i := 9) (oi := { dst := some 51, op := Op.load 3 (Operand.tmp 50), type := 3, pos := "law.go:57", after := #[{ on := 8, ground := Ground.data }], guard := none }) (v := ?vv9) rfl (by kernel_rfl) (by kernel_rfl) (by kernel_rfl) (fun _ _ _ h => h) (Or.inl ⟨by rfl, ?yy9⟩) hHeld ?rr9
    case yy9 => (intro w0 hSw; obtain ⟨s0, s1, s2⟩ := hSw; go_simp; try with_reducible rfl)
    try simp only [Act.put, List.setIfInBounds_toArray, List.set_cons_zero, List.set_cons_succ]
    refine wpAnyH_take (i := 10) (oi := { dst := some 52, op := Op.binOp BinOp.mul 3 (Operand.tmp 49) (Operand.tmp 51) 3, type := 3, pos := "law.go:57", after := #[{ on := 7, ground := Ground.data }, { on := 9, ground := Ground.data }], guard := none }) (v := ?vv10) rfl (by kernel_rfl) (by kernel_rfl) (by kernel_rfl) (fun _ _ _ h => h) (Or.inl ⟨by rfl, ?yy10⟩) hHeld ?rr10
    case yy10 => (intro w0 hSw; obtain ⟨s0, s1, s2⟩ := hSw; go_simp; try with_reducible rfl)
    try simp only [Act.put, List.setIfInBounds_toArray, List.set_cons_zero, List.set_cons_succ]
    refine wpAnyH_ready (rs := [5, 11]) (by kernel_rfl) (by simp) ?_
    refine AllReadyH.cons (o := { dst := some 47, op := Op.makeSlice 35 (Operand.tmp 46) (Operand.tmp 46), type := 35, pos := "law.go:57", after := #[{ on := 4, ground := Ground.data }, { on := 4, ground := Ground.data }], guard := none }) rfl (fun K hK => ?_) ?_
    · go_simp
      refine hK.out _ _ (reg_keep hHeld _) (fun hHeld => ?_)
      clear hK K
      try simp only [Act.put, List.setIfInBounds_toArray, List.set_cons_zero, List.set_cons_succ]
      refine wpAnyH_take (i := 12) (oi := { dst := some 11, op := Op.assign (Operand.tmp 47), type := 35, pos := "law.go:57", after := #[{ on := 5, ground := Ground.data }, { on := 0, ground := Ground.phase }, { on := 1, ground := Ground.phase }, { on := 2, ground := Ground.phase }, { on := 3, ground := Ground.phase }, { on := 4, ground := Ground.phase }, { on := 5, ground := Ground.phase }, { on := 6, ground := Ground.textOnly Departure.lateStores }, { on := 7, ground := Ground.textOnly Departure.lateStores }, { on := 8, ground := Ground.textOnly Departure.lateStores }, { on := 9, ground := Ground.textOnly Departure.lateStores }, { on := 10, ground := Ground.textOnly Departure.lateStores }, { on := 11, ground := Ground.textOnly Departure.lateStoresUnsure }], guard := none }) (v := ?vvp12) rfl (by kernel_rfl) (by kernel_rfl) (by kernel_rfl) (fun _ _ _ h => h) (Or.inl ⟨by rfl, ?yyp12⟩) hHeld ?rrp12
      case yyp12 => (intro w0 hSw; obtain ⟨s0, s1, s2⟩ := hSw; go_simp; try with_reducible rfl)
      try simp only [Act.put, List.setIfInBounds_toArray, List.set_cons_zero, List.set_cons_succ]
      refine wpAnyH_ready (rs := [11]) (by kernel_rfl) (by simp) ?_
      refine AllReadyH.cons (o := { dst := some 53, op := Op.makeSlice 36 (Operand.tmp 52) (Operand.tmp 52), type := 36, pos := "law.go:57", after := #[{ on := 10, ground := Ground.data }, { on := 10, ground := Ground.data }], guard := none }) rfl (fun K hK => ?_) AllReadyH.nil
      go_simp
      refine hK.out _ _ (reg_keep hHeld _) (fun hHeld => ?_)
      clear hK K
      try simp only [Act.put, List.setIfInBounds_toArray, List.set_cons_zero, List.set_cons_succ]
      refine wpAnyH_take (i := 13) (oi := { dst := some 12, op := Op.assign (Operand.tmp 53), type := 36, pos := "law.go:57", after := #[{ on := 11, ground := Ground.data }, { on := 12, ground := Ground.chain }, { on := 0, ground := Ground.phase }, { on := 1, ground := Ground.phase }, { on := 2, ground := Ground.phase }, { on := 3, ground := Ground.phase }, { on := 4, ground := Ground.phase }, { on := 5, ground := Ground.phase }, { on := 6, ground := Ground.phase }, { on := 7, ground := Ground.phase }, { on := 8, ground := Ground.phase }, { on := 9, ground := Ground.phase }, { on := 10, ground := Ground.phase }, { on := 11, ground := Ground.phase }, { on := 12, ground := Ground.phase }], guard := none }) (v := ?vvp13) rfl (by kernel_rfl) (by kernel_rfl) (by kernel_rfl) (fun _ _ _ h => h) (Or.inl ⟨by rfl, ?yyp13⟩) hHeld ?rrp13
      case yyp13 => (intro w0 hSw; obtain ⟨s0, s1, s2⟩ := hSw; go_simp; try with_reducible rfl)
      try simp only [Act.put, List.setIfInBounds_toArray, List.set_cons_zero, List.set_cons_succ]
      refine wpAnyH_done (by kernel_rfl) ?_ _
      have M0 := (rdm_start HG.out.1 HG.out.2 V.heap.size (V.alloc (.cells (madeCells #[.string ⟨#[]⟩] v) 9)).heap.size _ ((World.rowIs_made V (.string ⟨#[]⟩) v 9).alloc (.cells (madeCells #[.bool false] v) 4)) (World.rowIs_made (V.alloc (.cells (madeCells #[.string ⟨#[]⟩] v) 9)) (.bool false) v 4) (below_two V _ _) (Nat.le_refl _) (by rw [size_alloc]; exact Nat.le_succ _) (by rw [size_alloc]; exact Nat.ne_of_lt (Nat.lt_succ_self _))).drew
      rw [size_alloc] at M0
      go_wp2_with fail
      go_meet
      exact ⟨_, _, rfl, rfl, M0⟩
    · refine AllReadyH.cons (o := { dst := some 53, op := Op.makeSlice 36 (Operand.tmp 52) (Operand.tmp 52), type := 36, pos := "law.go:57", after := #[{ on := 10, ground := Ground.data }, { on := 10, ground := Ground.data }], guard := none }) rfl (fun K hK => ?_) AllReadyH.nil
      go_simp
      refine hK.out _ _ (reg_keep hHeld _) (fun hHeld => ?_)
      clear hK K
      try simp only [Act.put, List.setIfInBounds_toArray, List.set_cons_zero, List.set_cons_succ]
      refine wpAnyH_ready (rs := [5]) (by kernel_rfl) (by simp) ?_
      refine AllReadyH.cons (o := { dst := some 47, op := Op.makeSlice 35 (Operand.tmp 46) (Operand.tmp 46), type := 35, pos := "law.go:57", after := #[{ on := 4, ground := Ground.data }, { on := 4, ground := Ground.data }], guard := none }) rfl (fun K hK => ?_) AllReadyH.nil
      go_simp
      refine hK.out _ _ (reg_keep hHeld _) (fun hHeld => ?_)
      clear hK K
      try simp only [Act.put, List.setIfInBounds_toArray, List.set_cons_zero, List.set_cons_succ]
      refine wpAnyH_take (i := 12) (oi := { dst := some 11, op := Op.assign (Operand.tmp 47), type := 35, pos := "law.go:57", after := #[{ on := 5, ground := Ground.data }, { on := 0, ground := Ground.phase }, { on := 1, ground := Ground.phase }, { on := 2, ground := Ground.phase }, { on := 3, ground := Ground.phase }, { on := 4, ground := Ground.phase }, { on := 5, ground := Ground.phase }, { on := 6, ground := Ground.textOnly Departure.lateStores }, { on := 7, ground := Ground.textOnly Departure.lateStores }, { on := 8, ground := Ground.textOnly Departure.lateStores }, { on := 9, ground := Ground.textOnly Departure.lateStores }, { on := 10, ground := Ground.textOnly Departure.lateStores }, { on := 11, ground := Ground.textOnly Departure.lateStoresUnsure }], guard := none }) (v := ?vvq12) rfl (by kernel_rfl) (by kernel_rfl) (by kernel_rfl) (fun _ _ _ h => h) (Or.inl ⟨by rfl, ?yyq12⟩) hHeld ?rrq12
      case yyq12 => (intro w0 hSw; obtain ⟨s0, s1, s2⟩ := hSw; go_simp; try with_reducible rfl)
      try simp only [Act.put, List.setIfInBounds_toArray, List.set_cons_zero, List.set_cons_succ]
      refine wpAnyH_take (i := 13) (oi := { dst := some 12, op := Op.assign (Operand.tmp 53), type := 36, pos := "law.go:57", after := #[{ on := 11, ground := Ground.data }, { on := 12, ground := Ground.chain }, { on := 0, ground := Ground.phase }, { on := 1, ground := Ground.phase }, { on := 2, ground := Ground.phase }, { on := 3, ground := Ground.phase }, { on := 4, ground := Ground.phase }, { on := 5, ground := Ground.phase }, { on := 6, ground := Ground.phase }, { on := 7, ground := Ground.phase }, { on := 8, ground := Ground.phase }, { on := 9, ground := Ground.phase }, { on := 10, ground := Ground.phase }, { on := 11, ground := Ground.phase }, { on := 12, ground := Ground.phase }], guard := none }) (v := ?vvq13) rfl (by kernel_rfl) (by kernel_rfl) (by kernel_rfl) (fun _ _ _ h => h) (Or.inl ⟨by rfl, ?yyq13⟩) hHeld ?rrq13
      case yyq13 => (intro w0 hSw; obtain ⟨s0, s1, s2⟩ := hSw; go_simp; try with_reducible rfl)
      try simp only [Act.put, List.setIfInBounds_toArray, List.set_cons_zero, List.set_cons_succ]
      refine wpAnyH_done (by kernel_rfl) ?_ _
      have M0 := (rdm_start HG.out.1 HG.out.2 (V.alloc (.cells (madeCells #[.bool false] v) 4)).heap.size V.heap.size _ (World.rowIs_made (V.alloc (.cells (madeCells #[.bool false] v) 4)) (.string ⟨#[]⟩) v 9) ((World.rowIs_made V (.bool false) v 4).alloc (.cells (madeCells #[.string ⟨#[]⟩] v) 9)) (below_two V _ _) (by rw [size_alloc]; exact Nat.le_succ _) (Nat.le_refl _) (by rw [size_alloc]; exact Nat.ne_of_gt (Nat.lt_succ_self _))).drew
      rw [size_alloc] at M0
      go_wp2_with fail
      go_meet
      exact ⟨_, _, rfl, rfl, M0⟩
  case rest =>
    obtain ⟨gs, gh, rfl, rfl, M0⟩ := hcut
    have HM0 := Hid.mk M0
    clear M0
    go_wp2_with fail
    go_loopw [13] (fun i wr => ∃ (k : Nat) (A : Wl) (X : Wx) (H : Nat → Nat → Option ByteArray) (f : Nat → ByteArray), i = .int .i64 k ∧ k ≤ 80 ∧ RdI w G gs gh b p z v a0 k A X H f wr) (fun i _ => 80 - (intOf i).toNat)
    case atStart => exact ⟨0, A0, _, _, _, rfl, by omega, ⟨HM0.out, W0.out, by show (0 : Int) ≤ _; omega, by show ((([] : List Int).length : Nat) : Int) ≤ _; simp, HA0.out.symm⟩⟩
    case round =>
      clear HM0 W0 HA0 HG
      obtain ⟨k, A, X, H, f, rfl, hk, RI⟩ := hrel
      by_cases hk1 : k < llen
      · have hk1I : (k : Int) < (llen : Int) := by omega
        by_cases hk2 : k < 80
        · have hk2I : (k : Int) < 80 := by omega
          obtain ⟨ga, oa, rfl, hga, d0, d1, d2⟩ := (HACT.out.below RI.m.rg.run.below) k hk1
          generalize fl k = act at *
          obtain ⟨kd, bl, tx⟩ := act
          simp only at d0 d1 d2
          obtain ⟨x, c, hx1, hx2, hx3, hx4, hcb⟩ := block_of' bl b (by omega) (by omega)
          have hwx : IntKind.i64.wrap (x + (b : Int)) = x + (b : Int) := by rw [IntKind.wrap_i64]; omega
          obtain ⟨g0, g1, g2⟩ := RI.m.rg.cells
          have HR := Hid.mk RI
          clear RI
          have hcI : (c : Int) < (b : Int) := by omega
          go_upto_region 10 with (first | (go_at_call 12; refine (few_any _ _).mono ?_; rintro e w4 ⟨rfl, rfl⟩))
          generalize cut70 tx = s
          go_region
          replace HR := Hid.mk (HR.out.keep HR.out.m.drew)
          go_upto_block 2 with fail
          go_cut [16, 17, 18, 19, 20, 21] from 54 to 204 (fun _ _ _ _ _ _ wx => ∃ A5 X5 H5 f5, RdI w G gs gh b p z v a0 (k + 1) A5 X5 H5 f5 wx)
          case first => as_aux_lemma =>
            by_cases h4 : kd = 4
            · subst h4
              have hcB : c < X.C.B := by rw [HR.out.m.rg.eB]; exact hcb
              have hli := life_any HR.out.m.rg.run.wtr
              rw [HR.out.ea] at hli
              have his := Lf.is_any HR.out.m.rg.run.wtr.lif (c : Int)
              rw [Lf.isL_in X.xs c (by rw [HR.out.m.rg.run.wtr.lif.ok.len]; exact hcB)] at his
              have HLI := Hid.mk hli
              have HIS := Hid.mk his
              have HCB := Hid.mk hcB
              clear hli his hcB
              by_cases h3 : X.xs.getD c 0 = 3
              · rw [h3] at HIS
                go_wp2_with (first
                  | (go_at_call 13; refine HLI.out.mono ?_; rintro e w5 ⟨rfl, rfl⟩)
                  | (go_at_call 14; refine HIS.out.mono ?_; rintro e w6 ⟨rfl, rfl⟩))
                exact ⟨⟨k + 1, A, X, H, f, by go_num, by omega, HR.out.more HR.out.m⟩, by simp [intOf]; omega⟩
              · have hlx := HR.out.m.rg.run.wtr.lif.ok.len
                have hlw := HR.out.m.rg.run.wtr.wlen
                have her := werase_any HR.out.m.rg.run.wtr c HCB.out (by have := HR.out.did; omega) (fun i => by have := HR.out.wc.wo i; omega) (by have := HR.out.wc.fin.cnt c; omega) (by have := HR.out.bd; omega)
                rw [HR.out.ea] at her
                by_cases hf : X.C.fails (X.C.did + 1) = true
                · obtain ⟨r1, r2⟩ := erase_fails HCB.out HR.out.wc.fin.off HR.out.wc.cuts hf h3
                  rw [r1, r2] at her
                  have hW5 := Hid.mk (HR.out.wc.erf hlx HCB.out)
                  have hx5 : Hid ((X.erf c).xs.getD c 0 = 3) := (Lf.getD_set X.xs c c 3 (by rw [hlx]; exact HCB.out)).trans (if_pos rfl)
                  obtain ⟨X5, hX5⟩ : ∃ X5, X5 = X.erf c := ⟨_, rfl⟩
                  have hB5 : Hid (Geq X5 X ∧ X5.C.did = X.C.did + 1 + 1 ∧ X5.bd = note X.bd c) := by subst hX5; exact ⟨⟨rfl, rfl, rfl⟩, rfl, rfl⟩
                  rw [← hX5] at her hW5 hx5
                  obtain ⟨y, hy⟩ : ∃ y, X.xs.getD c 0 = y := ⟨_, rfl⟩
                  rw [hy] at HIS h3
                  have HER := Hid.mk her
                  clear her r1 r2 hlx hlw hf hX5 hy
                  go_upto_region 25 with (first
                    | (go_at_call 13; refine HLI.out.mono ?_; rintro e w5 ⟨rfl, rfl⟩)
                    | (go_at_call 14; refine HIS.out.mono ?_; rintro e w6 ⟨rfl, rfl⟩)
                    | (go_at_call 15; refine HER.out.mono ?_; rintro e w7 ⟨rfl, A5, h7, n7⟩; have H7 := Hid.mk (rdi_erf HR.out h7 n7 hB5.out hW5.out); clear h7 n7))
                  clear HLI HIS HER HR
                  go_loopw [16] (fun i wr => i = .int .i64 0 ∧ RdI w G gs gh b p z v a0 (k + 1) A5 X5 H f wr) (fun _ _ => 0)
                  case atStart => exact ⟨rfl, H7.out⟩
                  case round =>
                    clear H7
                    obtain ⟨rfl, RF⟩ := hrel
                    obtain ⟨g0, g1, g2⟩ := RF.m.rg.cells
                    have hli := life_any RF.m.rg.run.wtr
                    rw [RF.ea] at hli
                    have his := Lf.is_any RF.m.rg.run.wtr.lif (c : Int)
                    rw [Lf.isL_in X5.xs c (by rw [RF.m.rg.run.wtr.lif.ok.len, RF.m.rg.eB]; exact hcb), hx5.out] at his
                    have HLI := Hid.mk hli
                    have HIS := Hid.mk his
                    have HF0 := Hid.mk RF
                    have hp0 : (0 : Int) < (p : Int) := by omega
                    clear RF hli his
                    go_wp2_with (first
                      | (go_at_call 13; refine HLI.out.mono ?_; rintro e w8 ⟨rfl, rfl⟩)
                      | (go_at_call 14; refine HIS.out.mono ?_; rintro e w9 ⟨rfl, rfl⟩))
                    obtain ⟨H5, f5, HF⟩ : ∃ H5 f5, Hid (RdI w G gs gh b p z v a0 (k + 1) A5 X5 H5 f5 _) := ⟨_, _, HF0⟩
                    clear HF0 HLI HIS
                    go_meet
                    exact ⟨_, _, _, _, HF.out⟩
                · have hff : X.C.fails (X.C.did + 1) = false := by cases e : X.C.fails (X.C.did + 1); rfl; exact absurd e hf
                  obtain ⟨r1, r2⟩ := erase_go HCB.out HR.out.wc.fin.off (HR.out.wc.cuts _) (HR.out.wc.live c HCB.out h3) hff h3
                  rw [r1, r2] at her
                  have hW5 := HR.out.wc.era HCB.out hlx hlw h3 (by omega)
                  rw [HR.out.m.rg.eP] at hW5
                  replace hW5 := Hid.mk hW5
                  have hx5 : Hid ((X.era c).xs.getD c 0 = 0) := (era_xs (by rw [hlx]; exact HCB.out) c).trans (if_pos rfl)
                  obtain ⟨X5, hX5⟩ : ∃ X5, X5 = X.era c := ⟨_, rfl⟩
                  have hB5 : Hid (Geq X5 X ∧ X5.C.did = X.C.did + 1 ∧ X5.bd = X.bd) := by subst hX5; exact ⟨⟨rfl, rfl, rfl⟩, rfl, rfl⟩
                  rw [← hX5] at her hW5 hx5
                  obtain ⟨y, hy⟩ : ∃ y, X.xs.getD c 0 = y := ⟨_, rfl⟩
                  rw [hy] at HIS h3
                  have HER := Hid.mk her
                  clear her r1 r2 hlx hlw hf hff hX5 hy
                  go_upto_region 25 with (first
                    | (go_at_call 13; refine HLI.out.mono ?_; rintro e w5 ⟨rfl, rfl⟩)
                    | (go_at_call 14; refine HIS.out.mono ?_; rintro e w6 ⟨rfl, rfl⟩)
                    | (go_at_call 15; refine HER.out.mono ?_; rintro e w7 ⟨rfl, A5, h7, n7⟩; have H7 := Hid.mk (And.intro (HR.out.m.next h7 n7 hB5.out.1) (And.intro (n7.a.trans HR.out.ea) (And.intro (show X5.C.did ≤ 300 * ((k + 1 : Nat) : Int) by rw [hB5.out.2.1]; have := HR.out.did; omega) (show (X5.bd.length : Int) ≤ 300 * ((k + 1 : Nat) : Int) by rw [hB5.out.2.2]; have := HR.out.bd; omega)))); clear h7 n7))
                  clear HLI HIS HER HR
                  obtain ⟨u, hu, hur, hum, huw⟩ := u_facts hcb HGEO.out.1 HGEO.out.2.1 HV.out
                  have HU := Hid.mk hu
                  clear hu
                  go_loopw [16] (fun i wr => ∃ j : Nat, i = .int .i64 j ∧ j ≤ p ∧ RdM w G gs gh b p z v A5 X5 (clrJ H c j) f wr) (fun i _ => p - (intOf i).toNat)
                  case atStart => exact ⟨0, rfl, Nat.zero_le _, by rw [clrJ_zero]; exact H7.out.1⟩
                  case round =>
                    obtain ⟨j, rfl, hj, RF⟩ := hrel
                    obtain ⟨g0, g1, g2⟩ := RF.rg.cells
                    by_cases hjp : j < p
                    · have hjp1 : (j : Int) < (p : Int) := by omega
                      have hli := life_any RF.rg.run.wtr
                      rw [H7.out.2.1] at hli
                      have his := Lf.is_any RF.rg.run.wtr.lif (c : Int)
                      rw [Lf.isL_in X5.xs c (by rw [RF.rg.run.wtr.lif.ok.len, RF.rg.eB]; exact hcb), hx5.out] at his
                      obtain ⟨t, ht, htv, htI, htw, htv1⟩ := t_facts hur HGEO.out.2.2 hjp
                      have cH := RF.hv.cell htv
                      have fH := RF.hv.frozen t
                      have M9 := RF.clear h0w.out hjp
                      rw [HU.out, ht] at M9
                      have HLI := Hid.mk hli
                      have HIS := Hid.mk his
                      have HM9 := Hid.mk M9
                      clear RF hli his M9 ht
                      go_wp2_with (first
                        | (go_at_call 13; refine HLI.out.mono ?_; rintro e w8 ⟨rfl, rfl⟩)
                        | (go_at_call 14; refine HIS.out.mono ?_; rintro e w9 ⟨rfl, rfl⟩))
                      exact ⟨⟨j + 1, by go_num, by omega, HM9.out⟩, by simp [intOf]; omega⟩
                    · have hjp1 : ¬ (j : Int) < (p : Int) := by omega
                      obtain rfl : j = p := by omega
                      obtain ⟨H5, f5, HF⟩ : ∃ H5 f5, Hid (RdI w G gs gh b j z v a0 (k + 1) A5 X5 H5 f5 wr) := ⟨_, _, Hid.mk ⟨RF, hW5.out, H7.out.2.2.1, H7.out.2.2.2, H7.out.2.1⟩⟩
                      clear RF H7 hW5
                      go_wp2_with fail
                      go_meet
                      exact ⟨_, _, _, _, HF.out⟩
            · by_cases h5 : kd = 5
              · subst h5
                have hli := life_any HR.out.m.rg.run.wtr
                rw [HR.out.ea] at hli
                have hat := lat_any' HR.out.m.rg.run.wtr.lif
                have HLI := Hid.mk hli
                have HAT := Hid.mk hat
                clear hli hat h4
                go_upto_region 30 with (first
                  | (go_at_call 13; refine HLI.out.mono ?_; rintro e w5 ⟨rfl, rfl⟩)
                  | (go_at_call 16; refine HAT.out.mono ?_; rintro e w6 ⟨ax, ay, at', am, rfl, rfl, ah⟩; replace HR := Hid.mk (HR.out.keep (HR.out.m.drewN am)); have HAH := Hid.mk ah; clear ah))
                clear HAT HLI
                have hdr : w4.drew.drewN am = w4.drewN (1 + am) := by first | rfl | simp | go_simp
                rw [hdr] at HR
                cases at'
                · obtain ⟨A5, X5, H5, f5, HF⟩ : ∃ A5 X5 H5 f5, Hid (RdI w G gs gh b p z v a0 (k + 1) A5 X5 H5 f5 _) := ⟨_, _, _, _, Hid.mk (HR.out.more HR.out.m)⟩
                  clear HR HAH
                  go_wp2_with fail
                  go_meet
                  exact ⟨_, _, _, _, HF.out⟩
                · obtain ⟨rfl, ho0⟩ := HAH.out rfl
                  obtain ⟨o', ho'⟩ := Int.eq_ofNat_of_zero_le ho0
                  have ok := HR.out.m.rg.run.wtr.lif.ok
                  have hW5 := Hid.mk (HR.out.wc.full ok ho')
                  have hfu := Lf.full_of (let_any HR.out.m.rg.run.wtr o' (ok.open_at o' ho').1 2 (by omega) (by omega))
                  have hli := life_any HR.out.m.rg.run.wtr
                  rw [HR.out.ea] at hli
                  rw [ho']
                  have HLI := Hid.mk hli
                  have HFU := Hid.mk hfu
                  clear hli hfu ok HAH ho0
                  go_wp2_with (first
                    | (go_at_call 13; refine HLI.out.mono ?_; rintro e w7 ⟨rfl, rfl⟩)
                    | (go_at_call 17; refine HFU.out.mono ?_; rintro e w8 ⟨rfl, h8, k8⟩; have H8 := Hid.mk (rdi_full HR.out h8 k8 hW5.out); clear h8 k8))
                  obtain ⟨A5, X5, H5, f5, HF⟩ : ∃ A5 X5 H5 f5, Hid (RdI w G gs gh b p z v a0 (k + 1) A5 X5 H5 f5 _) := ⟨_, _, _, _, H8⟩
                  clear H8 HR HLI HFU hW5
                  go_meet
                  exact ⟨_, _, _, _, HF.out⟩
              · have htg := Hid.mk (tag_any k (by omega))
                by_cases hz : z < s.size
                · have hzI : (z : Int) < (s.size : Int) := by omega
                  have hal := fun w' (R : RdM w G gs gh b p z v A X H f w') => append_long R.rg.run.wtr k s (by rw [R.rg.eZ]; exact hz) 0
                  rw [HR.out.ea] at hal
                  have HAL := Hid.mk hal
                  clear hal hz
                  go_upto_region 13 with (first
                    | (go_at_call 19; refine (htg.out _).mono ?_; rintro e w5 ⟨rfl, b5⟩; replace HR := Hid.mk (HR.out.keep (HR.out.m.call b5)); clear b5)
                    | (go_at_call 18; refine (HAL.out _ HR.out.m).mono ?_; rintro e w6 ⟨rfl, b6⟩; replace HR := Hid.mk (HR.out.keep (HR.out.m.call b6)); clear b6))
                  clear g0 g1 g2
                  obtain ⟨g0, g1, g2⟩ := HR.out.m.rg.cells
                  go_wp2_with fail
                  exact ⟨⟨k + 1, A, X, H, f, by go_num, by omega, HR.out.more HR.out.m⟩, by simp [intOf]; omega⟩
                · have hzI : ¬ (z : Int) < (s.size : Int) := by omega
                  have hlf := left_nonneg X.xs
                  have hlx := HR.out.m.rg.run.wtr.lif.ok.len
                  rw [HR.out.m.rg.eB] at hlx
                  have hap := fun w' (R : RdM w G gs gh b p z v A X H f w') => append_w R.rg.run.wtr R.rg.run.tab HR.out.wc k (by omega) s (by rw [R.rg.eZ]; omega) (300 * (k : Int) + 128) (by omega) (by have := HR.out.did; omega) (by have := HR.out.bd; omega) 0
                  rw [HR.out.ea] at hap
                  have HAP := Hid.mk hap
                  clear hap hlf hlx hz
                  go_upto_region 13 with (first
                    | (go_at_call 19; refine (htg.out _).mono ?_; rintro e w5 ⟨rfl, b5⟩; replace HR := Hid.mk (HR.out.keep (HR.out.m.call b5)); clear b5)
                    | (go_at_call 18; refine (HAP.out _ HR.out.m).mono ?_; rintro e w6 ⟨pl, er, X5, A5, rfl, q6, g6, h6, n6⟩; have H6 := Hid.mk (And.intro (HR.out.m.next h6 n6 g6) (And.intro (n6.a.trans HR.out.ea) q6)); clear q6 g6 h6 n6))
                  have HBP := Hid.mk (And.intro HR.out.m.rg.eB HR.out.m.rg.eP)
                  clear HAP HR htg g0 g1 g2
                  obtain ⟨M6, ea6, q6, dd6, bb6⟩ := H6.out
                  obtain ⟨g0, g1, g2⟩ := M6.rg.cells
                  rcases q6 with ⟨rfl, W6⟩ | ⟨rfl, c5, q, hc5, hq, rfl, hnone, W6⟩
                  · have HF := Hid.mk (show RdI w G gs gh b p z v a0 (k + 1) A5 X5 H f w6 from ⟨M6, W6.more (by omega), by omega, by omega, ea6⟩)
                    clear M6 ea6 W6 H6 dd6 bb6
                    go_wp2_with fail
                    exact ⟨⟨k + 1, A5, X5, H, f, by go_num, by omega, HF.out⟩, by simp [intOf]; omega⟩
                  · rw [HBP.out.1] at hc5
                    rw [HBP.out.2] at hq ⊢
                    obtain ⟨t, ht⟩ : ∃ t : Nat, c5 * p + q = t := ⟨_, rfl⟩
                    have htI : (c5 : Int) * (p : Int) + (q : Int) = (t : Int) := by rw [← ht]; simp
                    have htv : t < v := by
                      have h2 : (c5 + 1) * p ≤ b * p := Nat.mul_le_mul_right p hc5
                      rw [Nat.succ_mul, HV.out] at h2
                      omega
                    have hdv : t / p = c5 := by rw [← ht, Nat.add_comm, Nat.add_mul_div_right _ _ (by omega), Nat.div_eq_of_lt hq, Nat.zero_add]
                    have hmd : t % p = q := by rw [← ht, Nat.add_comm, Nat.add_mul_mod_self_right, Nat.mod_eq_of_lt hq]
                    rw [htI]
                    have htv1 : (t : Int) < (v : Int) := by omega
                    have cH := M6.hv.cell htv
                    rw [hdv, hmd, hnone] at cH
                    replace cH : w6.cell? ⟨gh, t, none⟩ = some (.bool false) := cH
                    have cS := M6.sd.cell htv
                    have fH := M6.hv.frozen t
                    have fS := M6.sd.frozen t
                    have hne := M6.ne
                    have M9 := M6.tell h0w.out hq (c := c5) s
                    rw [ht] at M9
                    have HF0 := Hid.mk (show RdI w G gs gh b p z v a0 (k + 1) A5 X5 _ _ _ from ⟨M9, W6.more (by omega), by omega, by omega, ea6⟩)
                    clear M6 M9 ea6 W6 H6 dd6 bb6 hdv hmd hnone ht htI
                    go_wp2_with fail
                    obtain ⟨H5, f5, HF⟩ : ∃ H5 f5, Hid (RdI w G gs gh b p z v a0 (k + 1) A5 X5 H5 f5 _) := ⟨_, _, HF0⟩
                    clear HF0
                    go_meet
                    exact ⟨_, _, _, _, HF.out⟩
          case rest => as_aux_lemma =>
            obtain ⟨A5, X5, H5, f5, HF⟩ := hcut
            replace HF := Hid.mk HF
            clear HR g0 g1 g2 d0 d1 d2
            go_wp2_with fail
            go_loopw [22] (fun i wr => ∃ j : Nat, i = .int .i64 j ∧ j ≤ v ∧ RdI w G gs gh b p z v a0 (k + 1) A5 X5 H5 f5 wr) (fun i _ => v - (intOf i).toNat)
            case atStart => exact ⟨0, rfl, Nat.zero_le _, HF.out⟩
            case round =>
              clear HF
              obtain ⟨j, rfl, hj, RF⟩ := hrel
              by_cases hjv : j < v
              · have hjv1 : (j : Int) < (v : Int) := by omega
                have cH := RF.m.hv.cell hjv
                cases hH : H5 (j / p) (j % p) with
                | none =>
                  rw [hH] at cH
                  have HF := Hid.mk RF
                  clear RF
                  go_wp2_with fail
                  exact ⟨⟨j + 1, by go_num, by omega, HF.out⟩, by simp [intOf]; omega⟩
                | some t =>
                  rw [hH] at cH
                  have hft := RF.m.eq j t hjv hH
                  obtain ⟨q1, q2, -, -, n', W', hsy⟩ := RF.wc.had _ _ t hH
                  have hrd := read_ok RF.m.rg.run.wtr RF.m.rg.run.tab (j / p) (j % p) q1 q2 RF.wc.fin.off hsy j (place_of RF.m.rg.eP j)
                  rw [RF.ea] at hrd
                  unfold Pg.tagV at hrd
                  have HRD := Hid.mk hrd
                  have HF := Hid.mk RF
                  have HFT := Hid.mk hft
                  clear RF hrd hsy q1 q2 hft hH
                  go_upto_region 37 with (first
                    | (go_at_call 20; refine HRD.out.mono ?_; rintro e wq ⟨rfl, bq⟩; replace HF := Hid.mk (HF.out.keep ((HF.out.m.call bq).alloc (.cells #[.int .i64 ((1 : Nat) : Int), .int .u64 (n' : Int), .int .i64 ((0 : Nat) : Int), .int .i64 ((1 : Nat) : Int), .int .i64 (W' : Int)] 52))); clear bq))
                  generalize (wq.alloc (.cells #[.int .i64 ((1 : Nat) : Int), .int .u64 (n' : Int), .int .i64 ((0 : Nat) : Int), .int .i64 ((1 : Nat) : Int), .int .i64 (W' : Int)] 52)) = VQ at *
                  have cS := HF.out.m.sd.cell hjv
                  rw [HFT.out] at cS
                  clear cH
                  go_wp2_with fail
                  exact ⟨⟨j + 1, by go_num, by omega, HF.out⟩, by simp [intOf]; omega⟩
              · have hjv1 : ¬ (j : Int) < (v : Int) := by omega
                have HF := Hid.mk RF
                clear RF
                go_wp2_with fail
                exact ⟨⟨k + 1, A5, X5, H5, f5, by go_num, by omega, HF.out⟩, by simp [intOf]; omega⟩
        · have hk2I : ¬ (k : Int) < 80 := by omega
          have HB := Hid.mk RI.m.rg.run.below
          clear RI
          go_wp2_with fail
          go_ret
          exact ⟨rfl, HB.out⟩
      · have hk1I : ¬ (k : Int) < (llen : Int) := by omega
        have HB := Hid.mk RI.m.rg.run.below
        clear RI
        go_wp2_with fail
        go_ret
        exact ⟨rfl, HB.out⟩
end Go.Proofs.YtbcnocbdifbocaaDoor
