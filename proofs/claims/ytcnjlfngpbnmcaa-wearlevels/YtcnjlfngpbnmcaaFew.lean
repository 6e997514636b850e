/-
  The walks of Cold, and of the laws' few: a slice of its own, of so many, with counts that are not too great. No condition.
-/
import Derived.Test.YtcnjlfngpbnmcaaWr
import Derived.Test.YtcnjlfngpbnmcaaSli
namespace Go.Proofs.Ytcnjlfngpbnmcaa
open Go Go.RowKit Go.Maps

theorem limb {a w : World} {p : Addr} {v : Value} (h : w.cell? p = some v ∧ Below a.heap.size a w) : Below a.heap.size a w := h.2
theorem keepS {a w w' : World} {p : Addr} {v : Value} (hg : p.block < a.heap.size) (h : w.cell? p = some v ∧ Below a.heap.size a w) (b : Below w.heap.size w w') : w'.cell? p = some v ∧ Below a.heap.size a w' :=
  ⟨(b.cell (p := p) (Nat.lt_of_lt_of_le hg h.2.size)).trans h.1, below3 h.2 b⟩
/-- where Cold points -/
def cld (fa : Nat → Int × Int) (na : Nat) (ff : Nat → Int × Int) (nf : Nat) (limit : Int) : Int :=
  if lst ff nf < 0 ∨ na = 0 ∨ ¬ limit < grt fa (fa 0).2 na - (ff (lst ff nf).toNat).2 then -1 else lst ff nf
theorem cold_any {w : World} {a b : Option Addr} {na ca nf cf : Nat} {fa ff : Nat → Int × Int} (ha : Ws w a na fa) (hf : Ws w b nf ff) (hna : na ≤ 1000) (hnf : nf ≤ 1000)
    (hfa : ∀ i, i < na → 0 ≤ (fa i).2 ∧ (fa i).2 ≤ 1000000) (hff : ∀ i, i < nf → 0 ≤ (ff i).2 ∧ (ff i).2 ≤ 1000000) (limit : Int) :
    Calls Try.prog 10 #[.slice a na ca, .slice b nf cf, .int .i64 limit] w fun e w' => e = .returned (.int .i64 (cld fa na ff nf limit)) ∧ Below w.heap.size w w' := by
  have hL := fun w (h : Ws w b nf ff) => least_any (cap := cf) h hnf
  have hr := lst_range ff nf
  unfold cld
  by_cases h0 : lst ff nf < 0
  · rw [if_pos (.inl h0)]
    have HS := Hid.mk (And.intro hf hL)
    generalize lst ff nf = x at *
    clear hf ha hL hfa hff
    go_enter Try.func10, Try.ntmps10
    go_upto_region 2 with (go_at_call 8; refine (HS.out.2 _ HS.out.1).mono ?_; rintro e w1 ⟨rfl, b1⟩)
    go_quiet (fail)
    go_wp2
    go_ret
    exact ⟨rfl, below_drewN b1⟩
  · by_cases h1 : na = 0
    · rw [if_pos (.inr (.inl h1))]
      have hn0 : ((na : Int) == 0) = true := by simp; omega
      clear h1
      have HS := Hid.mk (And.intro hf hL)
      generalize lst ff nf = x at *
      have hd0 : decide (x < 0) = false := decide_eq_false h0
      clear hf ha hL hfa hff h0
      go_enter Try.func10, Try.ntmps10
      go_upto_region 2 with (go_at_call 8; refine (HS.out.2 _ HS.out.1).mono ?_; rintro e w1 ⟨rfl, b1⟩)
      go_quiet (fail)
      go_wp2
      go_ret
      exact ⟨rfl, below_drewN b1⟩
    · have hG := fun w (h : Ws w a na fa) => greatest_any (cap := ca) h (by omega) hna
      have hgr : 0 ≤ grt fa (fa 0).2 na ∧ grt fa (fa 0).2 na ≤ 1000000 := by
        rcases grt_one fa (fa 0).2 na with e | ⟨i, hi, e⟩
        · rw [e]; exact hfa 0 (by omega)
        · rw [e]; exact hfa i hi
      obtain ⟨m, hm⟩ : ∃ m : Nat, lst ff nf = m := ⟨(lst ff nf).toNat, by omega⟩
      rw [hm] at hL hr ⊢
      rw [Int.toNat_natCast]
      have hmn : m < nf := by omega
      have hfm := hff m hmn
      have hA := fun (w : World) => above_any (grt fa (fa 0).2 na) (ff m).2 limit hgr hfm w
      generalize grt fa (fa 0).2 na = G at *
      obtain ⟨g, o, rfl, hg, _, _⟩ := hf m hmn
      have hM : ∀ w', Ws w' (some ⟨g, o, none⟩) nf ff → g < w'.heap.size ∧ w'.cell? ⟨g, o + m * 2 + 1, none⟩ = some (.int .i64 (ff m).2) := fun w' h' => by
        obtain ⟨g, o, e, k, _, d1⟩ := h' m hmn
        cases e
        exact ⟨k, d1⟩
      generalize (ff m).2 = M at *
      clear hff hfa hgr hfm hm h0 hg
      have hm0 : decide ((m : Int) < 0) = false := decide_eq_false (by omega)
      have hn0 : ((na : Int) == 0) = false := by simp; omega
      have hmn1 : (m : Int) < nf := by omega
      obtain ⟨d, hd⟩ : ∃ d : Bool, decide (limit < G - M) = d := ⟨_, rfl⟩
      have hv : (if (m : Int) < 0 ∨ na = 0 ∨ ¬ limit < G - M then (-1 : Int) else m) = if d = true then (m : Int) else -1 := by
        cases d <;> simp at hd
        · rw [if_pos (.inr (.inr (by omega)))]; rfl
        · rw [if_neg (by omega)]; rfl
      rw [hv]
      rw [hd] at hA
      clear hd hv h1
      have HS := Hid.mk (And.intro ha (And.intro hf (And.intro hL (And.intro hG (And.intro hA hM)))))
      clear ha hf hL hG hA hM
      go_enter Try.func10, Try.ntmps10
      go_upto_region 2 with (go_at_call 8; refine (HS.out.2.2.1 _ HS.out.2.1).mono ?_; rintro e w1 ⟨rfl, b1⟩)
      have HA := Hid.mk (HS.out.1.call b1)
      have HF := Hid.mk (HS.out.2.1.call b1)
      have HB := Hid.mk b1
      clear b1
      obtain ⟨hg, c1⟩ := HS.out.2.2.2.2.2 _ HF.out
      cases d
      all_goals
        go_region_held3 (fun w' => w'.cell? ⟨g, o + m * 2 + 1, none⟩ = some (.int .i64 M) ∧ Below w1.heap.size w1 w')
          (first | assumption | exact ⟨c1, (Below.refl _ w1).drew⟩ | exact keepS hg (by assumption) (by assumption) | fail)
          (first | (go_at_call 11; refine (HS.out.2.2.2.1 _ (HA.out.call (limb (by assumption)))).mono ?_; rintro e w2 ⟨rfl, b2⟩) | (go_at_call 12; refine (HS.out.2.2.2.2.1 _).mono ?_; rintro e w2 ⟨rfl, rfl⟩))
        go_wp2
        go_ret
        exact ⟨rfl, below3 HB.out (limb (by assumption))⟩
theorem wrap_small (x : Nat) (hx : x ≤ 1000000) : IntKind.i64.wrap (x : Int) = x := by rw [IntKind.wrap_i64]; omega
theorem low (n : Int) (m : Nat) (hm : m ≤ 1000000) : ∃ k : Nat, bits .and .i64 n (m : Int) = (k : Int) ∧ k ≤ m := by
  unfold bits
  simp only []
  have h : (BitVec.ofInt IntKind.i64.bits n &&& BitVec.ofInt IntKind.i64.bits (m : Int)).toNat ≤ m := by
    rw [BitVec.toNat_and]
    refine Nat.le_trans Nat.and_le_right ?_
    rw [BitVec.toNat_ofInt]
    show ((m : Int) % ((2 ^ 64 : Nat) : Int)).toNat ≤ m
    omega
  exact ⟨_, wrap_small _ (by omega), h⟩
/-- a block and its count as cells -/
def c2 (q : Int × Int) : Array Value := #[.int .i64 q.1, .int .i64 q.2]
theorem c2_one (q : Int × Int) : ∀ u ∈ (c2 q).toList, u.oneCell' = true := by simp [c2, Value.oneCell']
theorem ei25 : EI 22 25 2 16 := ⟨Try.underlying22, ⟨_, _, rfl, rfl, rfl, rfl, rfl⟩, by decide, by decide⟩
/-- what few holds -/
structure Fw (w : World) (v : Value) (rs : List (Int × Int)) (wr : World) : Prop where
  ow : Ow wr w.heap.size 25 2 v (rs.map fun q => (c2 q).toList)
  rng : ∀ q ∈ rs, 0 ≤ q.2 ∧ q.2 ≤ 65535
  below : Below w.heap.size w wr
theorem Fw.more {w v rs wr w3 v2} (h : Fw w v rs wr) {q : Int × Int} (hq : 0 ≤ q.2 ∧ q.2 ≤ 65535) (ho : Ow w3 w.heap.size 25 2 v2 ((rs.map fun q => (c2 q).toList) ++ [(c2 q).toList])) (hg : wr.grownBy w3 v.ownBlock) : Fw w v2 (rs ++ [q]) w3 := by
  refine ⟨by rw [List.map_append]; exact ho, fun x hx => ?_, h.below.grown hg h.below.size (fun k hk => (h.ow.lt k hk).1)⟩
  rcases List.mem_append.1 hx with hx | hx
  · exact h.rng x hx
  · rw [List.mem_singleton.1 hx]; exact hq
theorem Fw.form {w v rs wr} (h : Fw w v rs wr) : ∃ a cap, v = .slice a rs.length cap := by
  obtain ⟨a, cap, e⟩ := h.ow.form
  rw [List.length_map] at e
  exact ⟨a, cap, e⟩
/-- few's slice, as all others read it -/
theorem Fw.ws {w a n cap rs wr} (h : Fw w (.slice a n cap) rs wr) (hn : n = rs.length) : Ws wr a n (fun i => rs.getD i (0, 0)) := by
  intro i hi
  obtain ⟨g, rfl, _, hl, hc⟩ := h.ow.at (j := i) (by rw [List.length_map]; omega)
  have e : (rs.map fun q => (c2 q).toList).getD i [] = (c2 (rs.getD i (0, 0))).toList := by
    have hi' : i < rs.length := by omega
    simp [List.getD_eq_getElem?_getD, hi']
  rw [e] at hc
  refine ⟨g, 0, rfl, hl, ?_, ?_⟩
  · rw [Nat.zero_add]; exact hc 0 (by omega)
  · rw [Nat.zero_add]; exact hc 1 (by omega)
theorem Fw.far {w : World} {v : Value} {rs : List (Int × Int)} {wr w' : World} (h : Fw w v rs wr) (b : wr.grownBy w' v.ownBlock) {g j : Nat} (hg : g < w.heap.size) : w'.cell? ⟨g, j, none⟩ = wr.cell? ⟨g, j, none⟩ :=
  b.cell_far ⟨g, j, none⟩ (Nat.lt_of_lt_of_le hg h.below.size) (fun e => by have := (h.ow.lt g e.symm).1; omega)
/-- what few leaves -/
def FewOut (w : World) (e : Ending) (w' : World) : Prop := ∃ (a2 : Option Addr) (m cap2 : Nat) (f2 : Nat → Int × Int), e = .returned (.slice a2 m cap2) ∧ m ≤ 40 ∧ Ws w' a2 m f2 ∧ (∀ i, i < m → 0 ≤ (f2 i).2 ∧ (f2 i).2 ≤ 65535) ∧ Below w.heap.size w w'
theorem few_any {w : World} {a : Option Addr} {len cap : Nat} {f : Nat → Int × Int} (h : Ws w a len f) : Calls Try.prog 6 #[.slice a len cap] w (FewOut w) := by
  have H := Hid.mk h
  clear h
  go_enter Try.func6, Try.ntmps6
  go_upto_region 3 with fail
  have r0 : Fw w (.slice (some ⟨w.heap.size, 0, none⟩) 0 0) [] (w.alloc (.cells #[] 25)) := ⟨Ow.made w (Nat.le_refl _) 25 2, fun _ h => (by cases h), (Below.refl _ w).alloc (Nat.le_refl _) _⟩
  generalize (w.alloc (.cells #[] 25)) = W at *
  replace r0 := Hid.mk r0
  go_loopw [3, 4] (fun v i wr => ∃ (k : Nat) (rs : List (Int × Int)), k ≤ 40 ∧ k ≤ len ∧ rs.length = k ∧ i = .int .i64 k ∧ Fw w v rs wr) (fun _ i _ => 40 - (intOf i).toNat)
  case atStart => exact ⟨0, [], by omega, Nat.zero_le _, rfl, rfl, r0.out⟩
  case round =>
    clear r0
    obtain ⟨k, rs, hk40, hklen, hrk, rfl, hs⟩ := hrel
    by_cases hgo : k < len ∧ k < 40
    · obtain ⟨h1, h2⟩ := hgo
      obtain ⟨g, o, rfl, hg0, _, _⟩ := H.out k h1
      obtain ⟨_, _, e, hg, c0, c1⟩ := H.out.call hs.below k h1
      cases e
      generalize hr : f k = r at *
      clear hr
      obtain ⟨q0, q1⟩ := r
      simp only at c0 c1
      obtain ⟨b, hb, hb2⟩ := low q1 65535 (by omega)
      simp only [Int.cast_ofNat_Int] at hb
      have kG : Hid (∀ w', wr.grownBy w' u3.ownBlock → w'.cell? ⟨g, o + k * 2, none⟩ = some (.int .i64 q0) ∧ w'.cell? ⟨g, o + k * 2 + 1, none⟩ = some (.int .i64 q1)) := fun w' q => ⟨(hs.far q hg0).trans c0, (hs.far q hg0).trans c1⟩
      have HS := Hid.mk hs
      clear hs
      have h1i : (k : Int) < len := by omega
      have h2i : (k : Int) < 40 := by omega
      go_upto_region 5 with fail
      go_region_held3 (fun w' => w'.cell? ⟨g, o + k * 2, none⟩ = some (.int .i64 q0) ∧ w'.cell? ⟨g, o + k * 2 + 1, none⟩ = some (.int .i64 q1))
        (first | assumption | exact ⟨c0, c1⟩ | exact kG.out _ (gdr (by assumption)) | exact kG.out _ (gdl wr _ _) | fail)
        (first | (refine step_app (w := wr.drew) ei25 (by rfl) _ _ (by rfl) HS.out.ow.drew HS.out.below.size (c2 (q0, (b : Int))) (by rfl) (by rfl) (by rfl) (c2_one _) (by rw [List.length_map]; omega) ?_; intro v4 w4 o4 g4 p4))
      go_wp2_with fail
      exact ⟨⟨k + 1, rs ++ [(q0, (b : Int))], by omega, by omega, by simp; omega, by go_num, HS.out.more ⟨by show (0 : Int) ≤ b; omega, by show (b : Int) ≤ 65535; omega⟩ o4 (gdr g4)⟩, by simp [intOf]; omega⟩
    · have hex : ¬ ((k : Int) < (len : Int)) ∨ ((k : Int) < (len : Int) ∧ ¬ ((k : Int) < 40)) := by omega
      obtain ⟨va, vc, rfl⟩ := hs.form
      have HS := Hid.mk hs
      clear hs hgo
      rw [hrk] at HS ⊢
      have HR := Hid.mk hrk
      clear hrk
      rcases hex with hex | ⟨hex0, hex⟩
      all_goals
        go_wp2_with fail
        go_ret
        unfold FewOut
        refine ⟨va, k, vc, fun i => rs.getD i (0, 0), rfl, hk40, HS.out.ws HR.out.symm, fun i hi => HS.out.rng _ ?_, HS.out.below⟩
        have hi' : i < rs.length := by rw [HR.out]; exact hi
        simp [List.getD_eq_getElem?_getD, hi']
end Go.Proofs.Ytcnjlfngpbnmcaa
