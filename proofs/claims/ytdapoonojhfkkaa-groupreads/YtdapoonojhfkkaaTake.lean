/-
  A record off a reader: the walk of Take. No condition.
-/
import Derived.Test.YtdapoonojhfkkaaRput
namespace Go.Proofs.Ytdapoonojhfkkaa
open Go Go.RowKit

/-- numbers off a reader, one behind the other: what is left, the error, the numbers -/
def tkGo : List Fl → ByteArray → Int → ByteArray × Int × List Int
  | [], s, e => (s, e, [])
  | f :: fs, s, e => ((tkGo fs (rN s e f.2.2).1 (rN s e f.2.2).2.1).1, (tkGo fs (rN s e f.2.2).1 (rN s e f.2.2).2.1).2.1, ((rN s e f.2.2).2.2 : Int) :: (tkGo fs (rN s e f.2.2).1 (rN s e f.2.2).2.1).2.2)
/-- what is left behind a record, and the reader's error -/
def tkQ (s : ByteArray) (e : Int) : ByteArray × Int × List Int := tkGo (flds (rF s e 1).2.2) (rF s e 1).1 (rF s e 1).2.1
/-- what was read, as a record -/
def tkL (s : ByteArray) (e : Int) : List Int := laySet (flds (rF s e 1).2.2) (tkQ s e).2.2 [((rF s e 1).2.2 : Int), 0, 0, 0, 0, 0]
/-- the error of a record that is taken off -/
def tkE (s : ByteArray) (e : Int) : Int := if (tkQ s e).2.1 ≠ 0 then (tkQ s e).2.1 else if chkL ((tkL s e).getD 0 0) (tkL s e) then 0 else 3
/-- the record that is taken off -/
def tkR (s : ByteArray) (e : Int) : List Int := if tkE s e = 0 then tkL s e else [0, 0, 0, 0, 0, 0]
theorem grown_setNew {a b : World} {g : Option Nat} (h : a.grownBy b g) {p : Addr} (hp : a.heap.size ≤ p.block) (v : Value) : a.grownBy (b.setCell p v) g :=
  ⟨h.os, h.tape, h.output, Nat.le_trans h.size (by simp [World.setCell]), fun i hi hne => (heap_setCell_other b p i v (by omega)).trans (h.block i hi hne)⟩
theorem Row.kept {w w' : World} {g g0 t k l} (h : Row w g t k l) (b : w.grownBy w' (some g0)) (hne : g ≠ g0) : Row w' g t k l := (b.block g h.lt (by simpa using hne)).trans h
theorem Rd.other {w : World} {g s e} (h : Rd w g s e) {p : Addr} (hp : p.block ≠ g) (v : Value) : Rd (w.setCell p v) g s e := (heap_setCell_other w p g v (fun q => hp q.symm)).trans h
theorem rec_result2 {fn : Func} {p u : Tmp} (h : fn.results = #[.cell p 27, .tmp u]) {tmps : Array Value} {w : World} {g : Nat} {l : List Int} (hp : tmps.getD p undef = .pointer (some ⟨g, 0, none⟩)) (hs : l.length = 6) (hg : Row w g 27 .i64 l) :
    (results fn tmps).run Try.prog w = .ok (.tuple #[rvL l, tmps.getD u undef]) w := by
  rw [results_cell_tmp h, hp]
  have q := run_loadVar_row (P := Try.prog) w g 27 27 (cellsOf .i64 l) (0, 0) _ hg Try.underlying27 rfl (by rw [cellsOf_size, hs]; exact info27)
  simp only [asAddr, Sem.run_pure, Result.andThen, q]
  rfl
/-- what holds in Take: R is the record's block, Z the answer's, g the reader's -/
structure TkS (w : World) (g R Z : Nat) (a : Option Addr) (fs : List Fl) (q : ByteArray × Int) (L : List Int) (k : Nat) (s : ByteArray) (e : Int) (l : List Int) (wr : World) : Prop where
  len : l.length = 6
  rd : Rd wr g s e
  row : Row wr R 27 .i64 l
  zero : Row wr Z 27 .i64 [0, 0, 0, 0, 0, 0]
  nums : NumsAt wr (R + 1) R a fs
  rest : ((tkGo (fs.drop k) s e).1, (tkGo (fs.drop k) s e).2.1) = q
  lay : laySet (fs.drop k) (tkGo (fs.drop k) s e).2.2 l = L
  grown : w.grownBy wr (some g)
  ords : g < w.heap.size ∧ w.heap.size ≤ Z ∧ Z < R
theorem TkS.alloc {w : World} {g R Z a fs q L k s e l wr} (h : TkS w g R Z a fs q L k s e l wr) (o : Obj) : TkS w g R Z a fs q L k s e l (wr.alloc o) :=
  { h with rd := h.rd.alloc o, row := h.row.alloc o, zero := h.zero.alloc o, nums := h.nums.alloc o, grown := grown_alloc h.grown o }
theorem TkS.after {w : World} {g R Z a fs q L k s e l W2} (h : TkS w g R Z a fs q L k s e l W2) {G : Nat} {x y z : Value} (ph : W2.heap[G]? = some (.cells #[x, y, z] 67 (0, 0))) (hG : g < G) {w5 : World} (g5 : W2.drew.grownBy w5 (some g)) (o : Nat) (ho : o ≤ 5) :
    w5.cell? ⟨G, 0, none⟩ = some x ∧ w5.cell? ⟨R, o, none⟩ = some (.int .i64 (l.getD o 0)) ∧ w5.frozen? ⟨R, o, none⟩ = false := by
  have h1 : w5.heap[G]? = some (.cells #[x, y, z] 67 (0, 0)) := (g5.block G (Array.getElem?_eq_some_iff.1 ph).1 (by simp; omega)).trans ph
  have h2 : Row w5 R 27 .i64 l := h.row.drew.kept g5 (by have := h.ords; omega)
  exact ⟨(three_cells h1).1, h2.cell o (by rw [h.len]; omega), h2.frozen o⟩
theorem TkS.next {w : World} {g R Z a fs q L k s e l W2} (h : TkS w g R Z a fs q L k s e l W2) {w5 : World} (g5 : W2.drew.grownBy w5 (some g)) {s2 : ByteArray} {e2 : Int} (r5 : Rd w5 g s2 e2) (o : Nat) (m : Int)
    (hrest : ((tkGo (fs.drop (k + 1)) s2 e2).1, (tkGo (fs.drop (k + 1)) s2 e2).2.1) = q) (hlay : laySet (fs.drop (k + 1)) (tkGo (fs.drop (k + 1)) s2 e2).2.2 (l.set o m) = L) :
    TkS w g R Z a fs q L (k + 1) s2 e2 (l.set o m) (w5.setCell ⟨R, o, none⟩ (.int .i64 m)) := by
  have hR : Row w5 R 27 .i64 l := h.row.drew.kept g5 (by have := h.ords; omega)
  have hZ : Row w5 Z 27 .i64 [0, 0, 0, 0, 0, 0] := h.zero.drew.kept g5 (by have := h.ords; omega)
  exact { len := by rw [List.length_set]; exact h.len
          rd := r5.other (by show R ≠ g; have := h.ords; omega) _
          row := hR.stored o m
          zero := hZ.other (by show R ≠ Z; have := h.ords; omega) _
          nums := (h.nums.drew.kept g5 (by have := h.ords; omega)).set (by show R < R + 1; omega) _
          rest := hrest
          lay := hlay
          grown := grown_setNew (grown_trans (grown_drewN h.grown 1) g5) (by show w.heap.size ≤ R; have := h.ords; omega) _
          ords := h.ords }
theorem TkS.call {w : World} {g R Z a fs q L k s e l wr w6} (h : TkS w g R Z a fs q L k s e l wr) (b : Below wr.heap.size wr w6) : TkS w g R Z a fs q L k s e l w6 :=
  { h with rd := h.rd.call b, row := h.row.call b, zero := h.zero.call b, nums := h.nums.call b, grown := grown_below h.grown b }
theorem TkS.done {w : World} {g R Z a fs q L k s e l w6} (h : TkS w g R Z a fs q L k s e l w6) (x0 x1 x2 x3 x4 x5 : Int) :
    Row ((((((w6.setCell ⟨Z, 0, none⟩ (.int .i64 x0)).setCell ⟨Z, 1, none⟩ (.int .i64 x1)).setCell ⟨Z, 2, none⟩ (.int .i64 x2)).setCell ⟨Z, 3, none⟩ (.int .i64 x3)).setCell ⟨Z, 4, none⟩ (.int .i64 x4)).setCell ⟨Z, 5, none⟩ (.int .i64 x5)) Z 27 .i64 [x0, x1, x2, x3, x4, x5] ∧ Rd ((((((w6.setCell ⟨Z, 0, none⟩ (.int .i64 x0)).setCell ⟨Z, 1, none⟩ (.int .i64 x1)).setCell ⟨Z, 2, none⟩ (.int .i64 x2)).setCell ⟨Z, 3, none⟩ (.int .i64 x3)).setCell ⟨Z, 4, none⟩ (.int .i64 x4)).setCell ⟨Z, 5, none⟩ (.int .i64 x5)) g s e ∧ w.grownBy ((((((w6.setCell ⟨Z, 0, none⟩ (.int .i64 x0)).setCell ⟨Z, 1, none⟩ (.int .i64 x1)).setCell ⟨Z, 2, none⟩ (.int .i64 x2)).setCell ⟨Z, 3, none⟩ (.int .i64 x3)).setCell ⟨Z, 4, none⟩ (.int .i64 x4)).setCell ⟨Z, 5, none⟩ (.int .i64 x5)) (some g) := by
  have hZ : Z ≠ g := by have := h.ords; omega
  have hz := h.ords.2.1
  exact ⟨(((((h.zero.stored 0 x0).stored 1 x1).stored 2 x2).stored 3 x3).stored 4 x4).stored 5 x5, (((((h.rd.other hZ _).other hZ _).other hZ _).other hZ _).other hZ _).other hZ _,
    grown_setNew (grown_setNew (grown_setNew (grown_setNew (grown_setNew (grown_setNew h.grown hz _) hz _) hz _) hz _) hz _) hz _⟩
theorem take_any {w : World} {g : Nat} {s : ByteArray} {e : Int} (h : Rd w g s e) : Calls Try.prog 18 #[.pointer (some ⟨g, 0, none⟩)] w fun x w' =>
    x = .returned (.tuple #[rvL (tkR s e), .int .i64 (tkE s e)]) ∧ Rd w' g (tkQ s e).1 (tkQ s e).2.1 ∧ w.grownBy w' (some g) := by
  have hb := rF_byte s e
  unfold tkR tkE
  generalize hL : tkL s e = L
  have hQ : tkQ s e = tkGo (flds (rF s e 1).2.2) (rF s e 1).1 (rF s e 1).2.1 := rfl
  unfold tkL at hL
  rw [hQ] at hL ⊢
  clear hQ
  have hrf := fun w (h : Rd w g s e) => fixedF_any h 1
  generalize rF s e 1 = q1 at *
  obtain ⟨s1, e1, b⟩ := q1
  simp only at hb hL hrf ⊢
  have hw : IntKind.i64.wrap (b : Int) = b := by simp [IntKind.wrap, IntKind.bits, IntKind.signed]; omega
  generalize hq : ((tkGo (flds b) s1 e1).1, (tkGo (flds b) s1 e1).2.1) = q at *
  have hq1 : (tkGo (flds b) s1 e1).1 = q.1 := by rw [← hq]
  have hq2 : (tkGo (flds b) s1 e1).2.1 = q.2 := by rw [← hq]
  rw [hq1, hq2]
  obtain ⟨s', e'⟩ := q
  clear hq1 hq2
  simp only
  generalize hE : (if e' ≠ 0 then e' else if chkL (L.getD 0 0) L = true then 0 else 3) = E
  have H := Hid.mk (And.intro h (And.intro hrf (And.intro hL (And.intro hq hE))))
  have hgl := h.lt
  clear h hrf hL hq hE
  go_enter Try.func18, Try.ntmps18
  go_upto_region 1 with fail
  have p1 : Row (w.alloc (.cells #[.int .i64 0, .int .i64 0, .int .i64 0, .int .i64 0, .int .i64 0, .int .i64 0] 27)) w.heap.size 27 .i64 [0, 0, 0, 0, 0, 0] := Row.fresh w 27 .i64 [0, 0, 0, 0, 0, 0]
  have p2 : Rd (w.alloc (.cells #[.int .i64 0, .int .i64 0, .int .i64 0, .int .i64 0, .int .i64 0, .int .i64 0] 27)) g s e := H.out.1.alloc _
  have p3 : w.grownBy (w.alloc (.cells #[.int .i64 0, .int .i64 0, .int .i64 0, .int .i64 0, .int .i64 0, .int .i64 0] 27)) (some g) := grown_alloc (grown_refl w _) _
  generalize (w.alloc (.cells #[.int .i64 0, .int .i64 0, .int .i64 0, .int .i64 0, .int .i64 0, .int .i64 0] 27)) = W at *
  have G := Hid.mk (And.intro p1 (And.intro p2 p3))
  clear p1 p2 p3
  go_upto_region 2 with (go_at_call 24; refine (H.out.2.1 _ G.out.2.1).mono ?_; rintro x w1 ⟨rfl, r1, g1⟩)
  have p1 : Row (w1.alloc (.cells #[.int .i64 b, .int .i64 0, .int .i64 0, .int .i64 0, .int .i64 0, .int .i64 0] 27)) w1.heap.size 27 .i64 [(b : Int), 0, 0, 0, 0, 0] := Row.fresh w1 27 .i64 [(b : Int), 0, 0, 0, 0, 0]
  have p2 : Row (w1.alloc (.cells #[.int .i64 b, .int .i64 0, .int .i64 0, .int .i64 0, .int .i64 0, .int .i64 0] 27)) w.heap.size 27 .i64 [0, 0, 0, 0, 0, 0] := (G.out.1.kept g1 (by omega)).alloc _
  have p3 : Rd (w1.alloc (.cells #[.int .i64 b, .int .i64 0, .int .i64 0, .int .i64 0, .int .i64 0, .int .i64 0] 27)) g s1 e1 := r1.alloc _
  have p4 : w.grownBy (w1.alloc (.cells #[.int .i64 b, .int .i64 0, .int .i64 0, .int .i64 0, .int .i64 0, .int .i64 0] 27)) (some g) := grown_alloc (grown_trans G.out.2.2 g1) _
  have p5 : w.heap.size < w1.heap.size := Nat.lt_of_lt_of_le G.out.1.lt g1.size
  have p6 := size_alloc w1 (.cells #[.int .i64 b, .int .i64 0, .int .i64 0, .int .i64 0, .int .i64 0, .int .i64 0] 27)
  clear r1 g1 G
  generalize (w1.alloc (.cells #[.int .i64 b, .int .i64 0, .int .i64 0, .int .i64 0, .int .i64 0, .int .i64 0] 27)) = W1 at *
  generalize w1.heap.size = R at *
  have G := Hid.mk (And.intro p1 (And.intro p2 (And.intro p3 (And.intro p4 (And.intro p5 p6)))))
  clear p1 p2 p3 p4 p5 p6
  go_upto_region 3 with (go_at_call 25; refine (numbers_any (K := b) G.out.1.lt (G.out.1.cell 0 (by simp))).mono ?_; rintro x w3 ⟨a, rfl, b1, n1⟩)
  have s0 : TkS w g R w.heap.size a (flds b) (s', e') L 0 s1 e1 [(b : Int), 0, 0, 0, 0, 0] w3 :=
    ⟨rfl, G.out.2.2.1.call b1, G.out.1.call b1, G.out.2.1.call b1, by rw [← G.out.2.2.2.2.2]; exact n1, H.out.2.2.2.1, H.out.2.2.1, grown_below G.out.2.2.2.1 b1, hgl, Nat.le_refl _, G.out.2.2.2.2.1⟩
  replace s0 := Hid.mk s0
  have hE := Hid.mk H.out.2.2.2.2
  have hn3 := flds_len b
  have hoffs := Hid.mk (flds_off b)
  clear H G n1 b1 hw
  generalize hfs : flds (b : Int) = fs at *
  clear hfs
  generalize hn : fs.length = n at *
  replace hn := Hid.mk hn
  go_loopw [14] (fun i wr => ∃ (k : Nat) (sk : ByteArray) (ek : Int) (lk : List Int), k ≤ n ∧ i = .int .i64 k ∧ TkS w g R w.heap.size a fs (s', e') L k sk ek lk wr) (fun i _ => n - (intOf i).toNat)
  case atStart => exact ⟨0, s1, e1, _, Nat.zero_le _, rfl, s0.out⟩
  case round =>
    clear s0
    obtain ⟨k, sk, ek, lk, hk, rfl, hs⟩ := hrel
    by_cases hkn : k < n
    · have hkl : k < fs.length := by rw [hn.out]; exact hkn
      obtain ⟨gg, rfl, hg, hggl, c0, c1, c2⟩ := hs.nums.cells k hkl
      have hoff := hoffs.out _ (getD_mem _ k hkl)
      have hrest := hs.rest
      have hlay := hs.lay
      rw [drop_getD _ k hkl] at hrest hlay
      generalize fs.getD k (0, 0, 0) = f at *
      obtain ⟨o, lo, hi⟩ := f
      simp only [tkGo, laySet, List.headD_cons, List.tail_cons] at c0 c1 c2 hoff hrest hlay
      have hle := rN_le sk ek hi (by omega)
      have hnum := fun w (h : Rd w g sk ek) => num_any h hi
      generalize rN sk ek hi = rr at *
      obtain ⟨s2, e2, m⟩ := rr
      simp only at hrest hlay hle hnum
      have hw1 : IntKind.u64.wrap hi = hi := u64_wrap hi (by omega) (by omega)
      have hw2 : IntKind.i64.wrap (m : Int) = m := by simp [IntKind.wrap, IntKind.bits, IntKind.signed]; omega
      have HS := Hid.mk (And.intro hs (And.intro hoff (And.intro hrest (And.intro hlay hnum))))
      clear hs hoff hrest hlay hnum
      go_upto_region 5 with fail
      have p1 := HS.out.1.alloc (.cells #[.pointer (some ⟨R, o, none⟩), .int .i64 lo, .int .i64 hi] 67)
      have p2 := heap_alloc_new wr (.cells #[.pointer (some ⟨R, o, none⟩), .int .i64 lo, .int .i64 hi] 67)
      generalize (wr.alloc (.cells #[.pointer (some ⟨R, o, none⟩), .int .i64 lo, .int .i64 hi] 67)) = W2 at *
      have p4 := HS.out.1.rd.lt
      generalize wr.heap.size = G at *
      clear c0 c1 c2
      obtain ⟨d0, d1, d2⟩ := three_cells p2
      replace HS := Hid.mk (And.intro p1 (And.intro p2 HS.out.2))
      clear p1 p2
      go_region_with (go_at_call 26; refine (HS.out.2.2.2.2.2 _ HS.out.1.rd.drew).mono ?_; rintro x w5 ⟨rfl, r5, g5⟩; obtain ⟨d3, cx, fx⟩ := HS.out.1.after HS.out.2.1 p4 g5 o HS.out.2.2.1.2.1)
      all_goals
        go_wp2_with fail
        exact ⟨⟨k + 1, s2, e2, _, by omega, by go_num, HS.out.1.next g5 r5 o m HS.out.2.2.2.1 HS.out.2.2.2.2.1⟩, by simp [intOf]; omega⟩
    · have hk2 : k = n := by omega
      have h1 := hs.rest
      have h2 := hs.lay
      rw [hk2, ← hn.out, List.drop_length] at h1 h2
      simp only [tkGo, laySet, Prod.mk.injEq] at h1 h2
      obtain ⟨rfl, rfl⟩ := h1
      subst h2
      obtain ⟨x0, x1, x2, x3, x4, x5, rfl⟩ := six hs.len
      obtain ⟨c0, c1, c2, c3, c4, c5⟩ := hs.row.six
      obtain ⟨d0, d1, d2, d3, d4, d5⟩ := hs.zero.six
      have f0 := hs.zero.frozen 0
      have f1 := hs.zero.frozen 1
      have f2 := hs.zero.frozen 2
      have f3 := hs.zero.frozen 3
      have f4 := hs.zero.frozen 4
      have f5 := hs.zero.frozen 5
      have HS := Hid.mk hs
      clear hs hk2 hoffs hn
      by_cases he : ek = 0
      · subst he
        have hE2 : (if mayB x0 x1 x2 x3 x4 x5 = true then 0 else 3) = E := hE.out
        clear hE
        clear d0 d1 d2 d3 d4 d5 f0 f1 f2 f3 f4 f5
        by_cases hm : mayB x0 x1 x2 x3 x4 x5 = true
        · rw [if_pos hm] at hE2
          subst hE2
          replace hm := Hid.mk hm
          go_upto_region 12 with (first
            | (go_at_call 27; refine (err_any HS.out.rd).mono ?_; rintro x w' ⟨rfl, rfl⟩)
            | (go_at_call 28; refine (checkB_any x0 x1 x2 x3 x4 x5 _).mono ?_; rintro x w6 ⟨rfl, b6⟩; rw [hm.out]))
          replace HS := Hid.mk (HS.out.call b6)
          clear b6 c0 c1 c2 c3 c4 c5
          obtain ⟨c0, c1, c2, c3, c4, c5⟩ := HS.out.row.six
          obtain ⟨d0, d1, d2, d3, d4, d5⟩ := HS.out.zero.six
          have f0 := HS.out.zero.frozen 0
          have f1 := HS.out.zero.frozen 1
          have f2 := HS.out.zero.frozen 2
          have f3 := HS.out.zero.frozen 3
          have f4 := HS.out.zero.frozen 4
          have f5 := HS.out.zero.frozen 5
          go_wp2_with fail
          have hd := HS.out.done x0 x1 x2 x3 x4 x5
          exact bodyPost_ret (rec_result2 rfl rfl rfl hd.1) rfl ⟨rfl, hd.2⟩
        · rw [if_neg hm] at hE2
          subst hE2
          replace hm : mayB x0 x1 x2 x3 x4 x5 = false := by simpa using hm
          replace hm := Hid.mk hm
          go_upto_region 11 with (first
            | (go_at_call 27; refine (err_any HS.out.rd).mono ?_; rintro x w' ⟨rfl, rfl⟩)
            | (go_at_call 28; refine (checkB_any x0 x1 x2 x3 x4 x5 _).mono ?_; rintro x w6 ⟨rfl, b6⟩; rw [hm.out]))
          replace HS := Hid.mk (HS.out.call b6)
          clear b6 c0 c1 c2 c3 c4 c5
          obtain ⟨c0, c1, c2, c3, c4, c5⟩ := HS.out.row.six
          obtain ⟨d0, d1, d2, d3, d4, d5⟩ := HS.out.zero.six
          have f0 := HS.out.zero.frozen 0
          have f1 := HS.out.zero.frozen 1
          have f2 := HS.out.zero.frozen 2
          have f3 := HS.out.zero.frozen 3
          have f4 := HS.out.zero.frozen 4
          have f5 := HS.out.zero.frozen 5
          go_wp2_with fail
          have hd := HS.out.done 0 0 0 0 0 0
          exact bodyPost_ret (rec_result2 rfl rfl rfl hd.1) rfl ⟨rfl, hd.2⟩
      · have hE2 : ek = E := by
          have := hE.out
          rw [if_pos he] at this
          exact this
        subst hE2
        clear hE c0 c1 c2 c3 c4 c5
        go_wp2_with (go_at_call 27; refine (err_any HS.out.rd).mono ?_; rintro x w' ⟨rfl, rfl⟩)
        have hd := HS.out.done 0 0 0 0 0 0
        exact bodyPost_ret (rec_result2 rfl rfl rfl hd.1) rfl ⟨rfl, hd.2⟩
end Go.Proofs.Ytdapoonojhfkkaa
