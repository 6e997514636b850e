/-
  The answer's Must, and what becomes of numbers that must be so much. No condition.
-/
import Derived.Test.YtdapoonojhfkkaaAwk
namespace Go.Proofs.Ytdapoonojhfkkaa
open Go Go.RowKit

/-- what Must leaves -/
def must (q : ByteArray × Int) (b : Bool) : ByteArray × Int := if q.2 = 0 ∧ b = false then (⟨#[]⟩, 3) else q
theorem ab_result1 {fn : Func} {p : Tmp} (h : fn.results = #[.cell p 25]) {tmps : Array Value} {w : World} {g : Nat} {s : ByteArray} {e : Int} (hp : tmps.getD p undef = .pointer (some ⟨g, 0, none⟩)) (hg : Ab w g s e) :
    (results fn tmps).run Try.prog w = .ok (.agg #[.string s, .int .i64 e]) w :=
  results_cell_row h tmps w g 25 _ (0, 0) _ hp hg Try.underlying25 rfl (by kernel_rfl)
theorem Ab.fresh1 (w : World) (o : Obj) (s : ByteArray) (e : Int) : Ab ((w.alloc o).alloc (.cells #[.string s, .int .i64 e] 25)) (w.heap.size + 1) s e := by
  have h := Ab.fresh (w.alloc o) s e
  rwa [size_alloc] at h
theorem must_any (s : ByteArray) (e : Int) (b : Bool) (w : World) : Calls Try.prog 14 #[.agg #[.string s, .int .i64 e], .bool b] w fun x w' => x = .returned (.agg #[.string (must (s, e) b).1, .int .i64 (must (s, e) b).2]) ∧ Below w.heap.size w w' := by
  unfold must
  by_cases he : e = 0
  · subst he
    cases b with
    | false =>
      rw [if_pos ⟨rfl, rfl⟩]
      go_enter Try.func14, Try.ntmps14
      go_wp2_with fail
      refine bodyPost_ret (ab_result1 rfl rfl ?_) rfl ⟨rfl, below_two w _ _⟩
      exact Ab.fresh1 w _ _ _
    | true =>
      rw [if_neg (by simp)]
      go_enter Try.func14, Try.ntmps14
      go_wp2_with fail
      refine bodyPost_ret (ab_result1 rfl rfl ?_) rfl ⟨rfl, below_two w _ _⟩
      exact Ab.fresh1 w _ _ _
  · rw [if_neg (fun h => he h.1)]
    go_enter Try.func14, Try.ntmps14
    go_wp2_with fail
    refine bodyPost_ret (ab_result1 rfl rfl ?_) rfl ⟨rfl, below_two w _ _⟩
    exact Ab.fresh1 w _ _ _
end Go.Proofs.Ytdapoonojhfkkaa
