/-
  A page of the model written: the walk of program. No condition.
-/
import Derived.Test.YtkfkepjegdaadaaMprog
namespace Go.Proofs.Ytkfkepjegdaadaa
open Go Go.RowKit

/-- a page of the model is written -/
def progM (C : Ch) (b p : Nat) (s : ByteArray) : Ch × Int :=
  if usedB C b p = true then (C, 52)
  else match C.cuts (C.did + 1) with
    | some x => (putPg { C with did := C.did + 1, off := true } b p (kp C.Z (tornP C.Z s x.1 x.2)), 51)
    | none => if (C.dead b || C.fails (C.did + 1)) = true then (putPg { C with did := C.did + 1, dead := upd C.dead b true } b p (rep (C.Z + 32) 0), 53)
      else (putPg { C with did := C.did + 1 } b p (kp C.Z s), 0)
theorem progC_progM {C : Ch} {b p : Nat} {data spare : ByteArray} (h0 : refP C b p = 0) (h1 : data.size = C.Z) (h2 : spare.size = 32) : progC C b p data spare = progM C b p (data ++ spare) := by
  unfold progC progM
  rw [if_pos h0, if_pos ⟨h1, h2⟩, Int.toNat_natCast, Int.toNat_natCast]
  rfl
theorem kp_zero (Z : Nat) : kp Z (rep (Z + 32) 0) = rep (Z + 32) 0 := by
  unfold kp
  rw [if_neg]
  intro h
  have h1 := congrArg (fun t : ByteArray => t.data.toList[0]?) h
  simp [rep] at h1
/-- the model's struct is an answer, beside a number -/
theorem results_mt {fn : Func} {p u : Tmp} (h : fn.results = #[.cell p 39, .tmp u]) {tmps : Array Value} {w : World} {g : Nat} {A : Array Value} (hp : tmps.getD p undef = .pointer (some ⟨g, 0, none⟩)) (hA : w.heap[g]? = some (.cells A 39 (0, 0))) (hs : A.size = 12) :
    (results fn tmps).run Try.prog w = .ok (.tuple #[.agg A, tmps.getD u undef]) w := by
  have hp' : tmps[p]?.getD undef = .pointer (some ⟨g, 0, none⟩) := by simpa using hp
  simp [results, h, hp', asAddr, lv39 hA hs]
/-- MARK -/
theorem lay_bp {w : World} {S X C} (h : Md w S X C) (hS : ∀ i, S i → i < w.heap.size) {b p bp : Nat} (hb : b < C.B) (hp : p < C.P) (hbp : b * C.P = bp) (s : ByteArray) : Calls Try.prog 41 #[.agg (mdA X C), .int .i64 ((bp : Int) + p), .string s] w fun e w' =>
    ∃ X', e = .returned (.agg (mdA X' (putPg C b p (kp C.Z s)))) ∧ Md w' S X' (putPg C b p (kp C.Z s)) ∧ Below w.heap.size w w' ∧ Xn w X X' := by
  subst hbp
  rw [Int.natCast_mul]
  exact lay_any h hS b p hb hp s
theorem bp_of (C : Ch) (b : Nat) (hb : b < C.B) (hg : C.B ≤ 32 ∧ C.P ≤ 16) : ∃ bp : Nat, b * C.P = bp ∧ (b : Int) * C.P = bp ∧ bp + C.P ≤ C.B * C.P ∧ bp + C.P ≤ 512 := by
  have h1 : (b + 1) * C.P ≤ C.B * C.P := Nat.mul_le_mul_right C.P hb
  have h2 : C.B * C.P ≤ 512 := Nat.le_trans (Nat.mul_le_mul hg.1 hg.2) (by decide)
  rw [Nat.succ_mul] at h1
  exact ⟨b * C.P, rfl, by rw [Int.natCast_mul], h1, by omega⟩
set_option maxRecDepth 100000 in
set_option maxHeartbeats 2000000 in
theorem progm_used {w : World} {S X C} (h : Md w S X C) (hS : ∀ i, S i → i < w.heap.size) (b p : Nat) (hb : b < C.B) (hp : p < C.P) (s : ByteArray) (hs : s.size = C.Z + 32) (hu : usedB C b p = true) : Calls Try.prog 32 #[.agg (mdA X C), .int .i64 b, .int .i64 p, .string s] w fun e w' =>
    ∃ X', e = .returned (.tuple #[.agg (mdA X' (C)), .int .i64 52]) ∧ Md w' S X' (C) ∧ Below w.heap.size w w' ∧ Xn w X X' := by
  have hgeo := h.geo
  obtain ⟨bp, hbp, hbi, hbl, hb5⟩ := bp_of C b hb ⟨hgeo.2.1, hgeo.2.2.2.1⟩
  have hbl1 : (bp : Int) + C.P ≤ ((C.B * C.P : Nat) : Int) := by omega
  have hb51 : (bp : Int) + C.P ≤ 512 := by omega
  have HM := Hid.mk h
  have HBP := Hid.mk hbp
  have hb1 : (b : Int) < C.B := by omega
  clear h hbp
  go_enter Try.func32, Try.ntmps32
  go_upto_region 2 with fail
  have hM0 := Mw.start HM.out
  generalize (w.alloc (.cells (mdA X C) 39)).alloc (.cells #[.int .i64 0, .int .i64 0, .int .i64 0, .slice none 0 0, .slice none 0 0, .slice none 0 0, .slice none 0 0, .slice none 0 0, .slice none 0 0, .slice none 0 0, .int .i64 0, .bool false] 39) = W0 at *
  obtain ⟨p0, p1, p2, p3, p4, p5, p6, p7, p8, p9, p10, p11⟩ := hM0.own.cells
  have hpg := hM0.md.pg
  have HM0 := Hid.mk hM0
  clear hM0
  go_loopw [10] (fun i wr => ∃ k : Nat, k ≤ C.P ∧ p ≤ k ∧ i = .int .i64 k ∧ wr = W0 ∧ ∀ q, p ≤ q → q < k → C.pg b q = ⟨#[]⟩) (fun i _ => C.P - (intOf i).toNat)
  case atStart => exact ⟨p, by omega, Nat.le_refl _, rfl, rfl, fun q h1 h2 => by omega⟩
  case round =>
    obtain ⟨k, hk, hpk, rfl, rfl, hall⟩ := hrel
    have HA := Hid.mk hall
    clear hall
    by_cases hkP : k < C.P
    · have hk1 : (k : Int) < C.P := by omega
      have ci := hpg (bp + k) (by omega)
      have e1 : (bp + k) / C.P = b ∧ (bp + k) % C.P = k := (page_at hkP).1 (by rw [HBP.out])
      rw [e1.1, e1.2] at ci
      by_cases he : C.pg b k = ⟨#[]⟩
      · rw [he] at ci
        clear e1 hpg
        go_wp2_with fail
        refine ⟨⟨k + 1, by omega, by omega, by go_num, by first | rfl | trivial, fun q h1 h2 => ?_⟩, by simp [intOf]; omega⟩
        by_cases hqi : q = k
        · rw [hqi]
          exact he
        · exact HA.out q h1 (by omega)
      · have hne := notEmpty he
        have _k := And.intro hS hs
        generalize C.pg b k = SS at *
        clear e1 hpg he
        obtain ⟨q0, q1, q2, q3, q4, q5, q6, q7, q8, q9, q10, q11, qf⟩ := z39_cells HM0.out.res
        have P1 := putMd HM0.out.res X C
        have hb7 := P1.below HM0.out.below (by omega)
        have hlt7 := HM.out.lt
        have hm7 := P1.mdNew (w := w) HM0.out.md (by omega) (by omega) (by omega) (by omega) (S' := S) HM.out.cut HM.out.fail (by omega)
        have HG := Hid.mk (And.intro P1.here (And.intro hb7 hm7))
        clear P1 hb7 hm7 hlt7
        go_wp2_with fail
        have eW : ((((((((((((wr.setCell ⟨w.heap.size + 1, 0, none⟩ (.int .i64 C.B)).setCell ⟨w.heap.size + 1, 1, none⟩ (.int .i64 C.P)).setCell ⟨w.heap.size + 1, 2, none⟩ (.int .i64 C.Z)).setCell ⟨w.heap.size + 1, 3, none⟩ (.slice X.ca X.cl.length X.cc)).setCell ⟨w.heap.size + 1, 4, none⟩ (.slice X.fa X.fl.length X.fc)).setCell ⟨w.heap.size + 1, 5, none⟩ (.slice X.ba X.bn X.bc)).setCell ⟨w.heap.size + 1, 6, none⟩ (.slice (some ⟨X.gp, 0, none⟩) (C.B * C.P) X.cp)).setCell ⟨w.heap.size + 1, 7, none⟩ (.slice (some ⟨X.gw, 0, none⟩) C.B X.cw)).setCell ⟨w.heap.size + 1, 8, none⟩ (.slice (some ⟨X.gd, 0, none⟩) C.B X.cd)).setCell ⟨w.heap.size + 1, 9, none⟩ (.slice (some ⟨X.gm, 0, none⟩) C.B X.cm)).setCell ⟨w.heap.size + 1, 10, none⟩ (.int .i64 C.did)).setCell ⟨w.heap.size + 1, 11, none⟩ (.bool C.off)) = setMd wr (w.heap.size + 1) X C := rfl
        rw [eW]
        clear eW
        generalize setMd wr (w.heap.size + 1) X C = W9 at *
        exact bodyPost_ret (results_mt rfl rfl HG.out.1 rfl) rfl ⟨X, rfl, HG.out.2.2, HG.out.2.1, Xn.refl _ _⟩
    · have hk1 : ¬ (k : Int) < C.P := by omega
      obtain ⟨q, q1, q2, q3⟩ := usedB_true hu
      exact absurd (HA.out q q1 (by omega)) q3
end Go.Proofs.Ytkfkepjegdaadaa
