/-
  The law's own 'awake': two records packed, and unpacked again. No condition.
-/
import Derived.Test.YtdapoonojhfkkaaGood
namespace Go.Proofs.Ytdapoonojhfkkaa
open Go Go.RowKit

/-- the two records -/
def rs2 : List R6 := [(5, 3, 0, 0, 0, 0), (7, 2, 0, 0, 0, 0)]
def tx2 : ByteArray := ⟨#[5, 1, 3, 7, 1, 2]⟩
theorem rs2_may : ∀ r ∈ rs2, R6.may r = true := by
  intro r hr
  simp only [rs2, List.mem_cons, List.not_mem_nil, or_false] at hr
  rcases hr with rfl | rfl
  · exact mayB_iff.2 (by simp [mayR])
  · exact mayB_iff.2 (by simp [mayR])
theorem pack64 : packGo 64 (rs2.map R6.put) [] ⟨#[]⟩ = [tx2] := by decide +kernel
theorem pack3 : (packGo 3 (rs2.map R6.put) [] ⟨#[]⟩).length = 2 := by decide +kernel
theorem unpack2 : unT [tx2] [] = (rs2, 0) := by kernel_rfl
/-- the two records as they are written out, and as they came back -/
structure Aw (w : World) (X : Nat) (v : Value) (wr : World) : Prop where
  row : Row wr X 27 .i64 [5, 3, 0, 0, 0, 0, 7, 2, 0, 0, 0, 0]
  below : Below w.heap.size w wr
  rw : ∃ w0, Rw w0 v rs2 wr
theorem Row.recs2 {w : World} {X : Nat} (h : Row w X 27 .i64 [5, 3, 0, 0, 0, 0, 7, 2, 0, 0, 0, 0]) : RecsF w (some ⟨X, 0, none⟩) rs2.length (fun i => rs2.getD i (0, 0, 0, 0, 0, 0)) := by
  intro i hi
  have h2 : i = 0 ∨ i = 1 := by simp [rs2] at hi; omega
  rcases h2 with rfl | rfl
  · exact ⟨X, 0, rfl, h.lt, h.cell 0 (by decide), h.cell 1 (by decide), h.cell 2 (by decide), h.cell 3 (by decide), h.cell 4 (by decide), h.cell 5 (by decide)⟩
  · exact ⟨X, 0, rfl, h.lt, h.cell 6 (by decide), h.cell 7 (by decide), h.cell 8 (by decide), h.cell 9 (by decide), h.cell 10 (by decide), h.cell 11 (by decide)⟩
theorem Aw.call {w X v wr w2} (h : Aw w X v wr) (b : Below wr.heap.size wr w2) : Aw w X v w2 := ⟨h.row.call b, below3 h.below b, by obtain ⟨w0, q⟩ := h.rw; exact ⟨w0, q.call b⟩⟩
/-- the cells that the last region reads, beside that -/
def Aws (w : World) (X gm mc : Nat) (w' : World) : Prop :=
  (w'.cell? ⟨gm, 0, none⟩ = some (.int .i64 5) ∧ w'.cell? ⟨gm, 1, none⟩ = some (.int .i64 3) ∧ w'.cell? ⟨gm, 2, none⟩ = some (.int .i64 0) ∧ w'.cell? ⟨gm, 3, none⟩ = some (.int .i64 0) ∧ w'.cell? ⟨gm, 4, none⟩ = some (.int .i64 0) ∧ w'.cell? ⟨gm, 5, none⟩ = some (.int .i64 0)) ∧
  (w'.cell? ⟨X, 0, none⟩ = some (.int .i64 5) ∧ w'.cell? ⟨X, 1, none⟩ = some (.int .i64 3) ∧ w'.cell? ⟨X, 2, none⟩ = some (.int .i64 0) ∧ w'.cell? ⟨X, 3, none⟩ = some (.int .i64 0) ∧ w'.cell? ⟨X, 4, none⟩ = some (.int .i64 0) ∧ w'.cell? ⟨X, 5, none⟩ = some (.int .i64 0)) ∧
  Aw w X (.slice (some ⟨gm, 0, none⟩) 2 mc) w'
theorem Aw.aws {w X gm mc wr} (h : Aw w X (.slice (some ⟨gm, 0, none⟩) 2 mc) wr) : Aws w X gm mc wr := by
  obtain ⟨w0, q⟩ := h.rw
  obtain ⟨g2, e2, hgm, d0, d1, d2, d3, d4, d5⟩ := Rw.at (rs := rs2) q 0 (by decide) (show rs2.getD 0 (0, 0, 0, 0, 0, 0) = (5, 3, 0, 0, 0, 0) from rfl)
  obtain rfl : gm = g2 := by simpa using e2
  exact ⟨⟨d0, d1, d2, d3, d4, d5⟩, ⟨h.row.cell 0 (by decide), h.row.cell 1 (by decide), h.row.cell 2 (by decide), h.row.cell 3 (by decide), h.row.cell 4 (by decide), h.row.cell 5 (by decide)⟩, h⟩
theorem Aws.aw {w X gm mc wr} (h : Aws w X gm mc wr) : Aw w X (.slice (some ⟨gm, 0, none⟩) 2 mc) wr := h.2.2
set_option maxRecDepth 20000 in
set_option maxHeartbeats 2000000 in
theorem awake_any (w : World) : Calls Try.prog 7 #[] w fun e w' => e = .returned (.bool true) ∧ Below w.heap.size w w' := by
  go_enter Try.func7, Try.ntmps7
  go_upto_region 2 with fail
  have p1 : Row (w.alloc (.cells #[.int .i64 5, .int .i64 3, .int .i64 0, .int .i64 0, .int .i64 0, .int .i64 0, .int .i64 7, .int .i64 2, .int .i64 0, .int .i64 0, .int .i64 0, .int .i64 0] 27)) w.heap.size 27 .i64 [5, 3, 0, 0, 0, 0, 7, 2, 0, 0, 0, 0] := Row.fresh w 27 .i64 [5, 3, 0, 0, 0, 0, 7, 2, 0, 0, 0, 0]
  have p2 : Below w.heap.size w (w.alloc (.cells #[.int .i64 5, .int .i64 3, .int .i64 0, .int .i64 0, .int .i64 0, .int .i64 0, .int .i64 7, .int .i64 2, .int .i64 0, .int .i64 0, .int .i64 0, .int .i64 0] 27)) := below_one w _
  generalize (w.alloc (.cells #[.int .i64 5, .int .i64 3, .int .i64 0, .int .i64 0, .int .i64 0, .int .i64 0, .int .i64 7, .int .i64 2, .int .i64 0, .int .i64 0, .int .i64 0, .int .i64 0] 27)) = W at *
  have HC := Hid.mk (And.intro p1 p2)
  clear p1 p2
  have hpk := fun (w2 : World) (h : Row w2 w.heap.size 27 .i64 [5, 3, 0, 0, 0, 0, 7, 2, 0, 0, 0, 0]) => pack_any (some ⟨w.heap.size, 0, none⟩) 2 64 rs2 w2 h.recs2 rs2_may (by decide)
  have hpg := fun (w2 : World) (h : Row w2 w.heap.size 27 .i64 [5, 3, 0, 0, 0, 0, 7, 2, 0, 0, 0, 0]) => pages_any (some ⟨w.heap.size, 0, none⟩) 2 3 rs2 w2 h.recs2 rs2_may (by decide)
  rw [pack64] at hpk
  rw [pack3] at hpg
  generalize hX : w.heap.size = X at *
  replace hX := Hid.mk hX
  replace hpk := Hid.mk hpk
  replace hpg := Hid.mk hpg
  go_upto_region 3 with (go_at_call 19; refine (hpk.out W HC.out.1).mono ?_; rintro e w1 ⟨v, rfl, hv, b1⟩)
  obtain ⟨va, vc, hvf⟩ := owns_form hv
  replace hvf : v = .slice va 1 vc := hvf
  subst hvf
  have hun := unpack_any va vc [tx2] w1 (owns_txt hv) (by intro t ht; rw [List.mem_singleton.1 ht]; decide) (by decide)
  rw [unpack2] at hun
  have hb : Below w.heap.size w W := by rw [hX.out]; exact HC.out.2
  have HU := Hid.mk (And.intro hun (And.intro (HC.out.1.call b1) (below3 hb b1)))
  clear hun b1 hv hb
  go_upto_region 4 with (go_at_call 6; refine HU.out.1.mono ?_; rintro e w2 ⟨v, rfl, b2, hv, _⟩)
  have H0 : ∃ gm mc, v = .slice (some ⟨gm, 0, none⟩) 2 mc ∧ Aw w X (.slice (some ⟨gm, 0, none⟩) 2 mc) w2 := by
    have hv2 := hv trivial
    obtain ⟨ma, mc, rfl⟩ := hv2.form
    obtain ⟨gm, rfl, _⟩ := hv2.at 0 (by decide) (show rs2.getD 0 (0, 0, 0, 0, 0, 0) = (5, 3, 0, 0, 0, 0) from rfl)
    exact ⟨gm, mc, rfl, HU.out.2.1.call b2, below3 HU.out.2.2 b2, w1, hv2⟩
  clear hv HU b2 HC hpk
  obtain ⟨gm, mc, rfl, R⟩ := H0
  have R0 := Hid.mk (R.call (Below.refl _ w2).drew).aws
  unfold Aws at R0
  clear R
  go_region_held3 (fun w' => (w'.cell? ⟨gm, 0, none⟩ = some (.int .i64 5) ∧ w'.cell? ⟨gm, 1, none⟩ = some (.int .i64 3) ∧ w'.cell? ⟨gm, 2, none⟩ = some (.int .i64 0) ∧ w'.cell? ⟨gm, 3, none⟩ = some (.int .i64 0) ∧ w'.cell? ⟨gm, 4, none⟩ = some (.int .i64 0) ∧ w'.cell? ⟨gm, 5, none⟩ = some (.int .i64 0)) ∧
      (w'.cell? ⟨X, 0, none⟩ = some (.int .i64 5) ∧ w'.cell? ⟨X, 1, none⟩ = some (.int .i64 3) ∧ w'.cell? ⟨X, 2, none⟩ = some (.int .i64 0) ∧ w'.cell? ⟨X, 3, none⟩ = some (.int .i64 0) ∧ w'.cell? ⟨X, 4, none⟩ = some (.int .i64 0) ∧ w'.cell? ⟨X, 5, none⟩ = some (.int .i64 0)) ∧
      Aw w X (.slice (some ⟨gm, 0, none⟩) 2 mc) w')
    (first | assumption | exact R0.out | exact (Aw.call (Aws.aw (by assumption)) (by assumption)).aws | fail)
    (first
      | (go_at_call 10; refine (hpg.out _ (Aw.row (Aws.aw (by assumption)))).mono ?_; rintro x w5 ⟨rfl, b5⟩))
  have R5 := Hid.mk (Aw.call (Aws.aw R0.out) b5)
  clear R0 b5
  go_wp2_with fail
  go_ret
  exact ⟨rfl, R5.out.below⟩
end Go.Proofs.Ytdapoonojhfkkaa
