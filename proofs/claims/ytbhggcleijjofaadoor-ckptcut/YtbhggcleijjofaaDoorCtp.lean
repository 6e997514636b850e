/-
  Two checkpoints, the power failing in the second: what is found then. Condition of the walk: the table's cells hold what the text lays.
-/
import Derived.Test.YtbhggcleijjofaaDoorAwk
namespace Go.Proofs.YtbhggcleijjofaaDoor
open Go Go.RowKit
set_option maxRecDepth 100000

/-- a chip whose actions are counted anew, and to which something else happens -/
theorem Sq.arm {X : Wx} {a r T Q n} (h : Sq 0 X a r T Q) (hn : a * X.C.P + r = n) (c : Int → Option (Int × Int)) (f : Int → Bool) : Sq n { X with C := { X.C with did := 0, cuts := c, fails := f } } a r T Q :=
  ⟨⟨h.fin.off, h.fin.free, h.fin.opn, h.fin.cnt, h.fin.geo⟩, h.wz, h.le, h.xs, h.nx, h.says, by show (0 : Int) + (n : Int) = _; rw [← hn]; simp, h.bd⟩
theorem cuts_one (at' : Nat) (kf : Int × Int) (n i : Nat) : cutsOf [((at' : Int), kf)] ((i : Int) + 1) = if i + n + 1 = n + at' then some kf else none := by
  unfold cutsOf
  by_cases h : (at' : Int) = (i : Int) + 1
  · rw [if_pos (by omega)]
    simp [h]
  · rw [if_neg (by omega)]
    simp [h]
/-- what two checkpoints leave on a chip -/
structure Two (G : Nat → Option (ByteArray × Tg)) (m n1 n2 : Nat) : Prop where
  one : ∀ i, i < n1 → ∃ t, G i = some (t, 3, 5, i, n1)
  two : ∀ i, n1 ≤ i → i < m → ∀ t q, G i = some (t, q) → q = (3, 6, i - n1, n2) ∧ i - n1 < n2
/-- the second is whole -/
def Whole (G : Nat → Option (ByteArray × Tg)) (n1 n2 : Nat) : Prop := ∀ j, j < n2 → ∃ t, G (n1 + j) = some (t, 3, 6, j, n2)
theorem Two.whole {G m n1 n2} (h : Two G m n1 n2) (h2 : 0 < n2) (hm : n1 + n2 ≤ m) (hw : Whole G n1 n2) : nwW (fdL G m) = some (((6 : Nat) : Int), (n2 : Int)) := by
  refine newest_is h2 (fun j hj => ⟨n1 + j, by omega, hw j hj⟩) (fun i hi t S I O hG _ => .inl ?_)
  by_cases e : i < n1
  · obtain ⟨t', h'⟩ := h.one i e
    rw [h'] at hG
    simp at hG
    omega
  · have := (h.two i (by omega) hi t _ hG).1
    simp at this
    omega
theorem Two.first {G m n1 n2} (h : Two G m n1 n2) (h1 : 0 < n1) (hm : n1 ≤ m) (hw : ¬ Whole G n1 n2) : nwW (fdL G m) = some (((5 : Nat) : Int), (n1 : Int)) := by
  refine newest_is h1 (fun j hj => ⟨j, by omega, h.one j hj⟩) (fun i hi t S I O hG _ => ?_)
  by_cases e : i < n1
  · left
    obtain ⟨t', h'⟩ := h.one i e
    rw [h'] at hG
    simp at hG
    omega
  · right
    obtain ⟨he, _⟩ := h.two i (by omega) hi t _ hG
    obtain ⟨hS6, hOn⟩ : S = 6 ∧ O = n2 := by
      have : S = 6 ∧ I = i - n1 ∧ O = n2 := by simpa using he
      exact ⟨this.1, this.2.2⟩
    rw [hS6, hOn]
    have hno : ∃ j, j < n2 ∧ ∀ t, G (n1 + j) ≠ some (t, 3, 6, j, n2) := by
      apply Classical.byContradiction
      intro hc
      apply hw
      intro j hj
      apply Classical.byContradiction
      intro hc2
      exact hc ⟨j, hj, fun t ht => hc2 ⟨t, ht⟩⟩
    obtain ⟨j, hj, hno⟩ := hno
    refine ⟨j, hj, fun i' hi' t' hG' => ?_⟩
    by_cases e' : i' < n1
    · obtain ⟨t2, h2⟩ := h.one i' e'
      rw [h2] at hG'
      simp at hG'
    · obtain ⟨he', _⟩ := h.two i' (by omega) hi' t' _ hG'
      have : j = i' - n1 := by simpa using he'
      rw [show i' = n1 + j by omega] at hG'
      exact hno t' hG'
theorem Two.ok {G m n1 n2} (h : Two G m n1 n2) (h2 : n1 ≤ 1000 ∧ n2 ≤ 1000) : GOk G m := by
  intro i hi t K S I O hG
  by_cases e : i < n1
  · obtain ⟨t', h'⟩ := h.one i e
    rw [h'] at hG
    simp at hG
    omega
  · obtain ⟨he, hlt⟩ := h.two i (by omega) hi t _ hG
    have : K = 3 ∧ S = 6 ∧ I = i - n1 ∧ O = n2 := by simpa using he
    omega
/-- the texts and tags of two checkpoints -/
def T2 (n1 : Nat) (t1 t2 : List ByteArray) (i : Nat) : ByteArray := if i < n1 then t1.getD i ⟨#[]⟩ else t2.getD (i - n1) ⟨#[]⟩
def Q2 (n1 n2 i : Nat) : Tg := if i < n1 then (3, 5, i, n1) else (3, 6, i - n1, n2)
theorem two_of (n1 n2 m : Nat) (t1 t2 : List ByteArray) (k : Nat) (gt : Option ByteArray) (hk : n1 ≤ k ∧ k ≤ n1 + n2) (hgt : gt ≠ none → k < n1 + n2) :
    Two (fun i => if i < k then some (T2 n1 t1 t2 i, Q2 n1 n2 i) else if i = k then gt.map (fun t => (t, Q2 n1 n2 k)) else none) m n1 n2 ∧
    (Whole (fun i => if i < k then some (T2 n1 t1 t2 i, Q2 n1 n2 i) else if i = k then gt.map (fun t => (t, Q2 n1 n2 k)) else none) n1 n2 ↔ n1 + n2 ≤ k ∨ (n1 + n2 = k + 1 ∧ gt ≠ none)) := by
  have q2 : ∀ i, n1 ≤ i → Q2 n1 n2 i = (3, 6, i - n1, n2) := fun i hi => by unfold Q2; rw [if_neg (by omega)]
  refine ⟨⟨fun i hi => ⟨T2 n1 t1 t2 i, ?_⟩, fun i h1 h2 t q hG => ?_⟩, ?_, ?_⟩
  · try dsimp only
    rw [if_pos (by omega)]
    unfold Q2
    rw [if_pos hi]
  · try dsimp only at hG
    split at hG
    · simp only [Option.some.injEq, Prod.mk.injEq] at hG
      rw [← hG.2, q2 i h1]
      exact ⟨rfl, by omega⟩
    · split at hG
      · rename_i e
        subst e
        obtain ⟨t', ht', e2⟩ := Option.map_eq_some_iff.1 hG
        simp only [Prod.mk.injEq] at e2
        have := hgt (by rw [ht']; simp)
        rw [← e2.2, q2 i h1]
        exact ⟨rfl, by omega⟩
      · cases hG
  · intro hw
    by_cases e : n1 + n2 ≤ k
    · exact .inl e
    · right
      obtain ⟨t, ht⟩ := hw (n2 - 1) (by omega)
      try dsimp only at ht
      rw [if_neg (by omega)] at ht
      split at ht
      · rename_i e2
        refine ⟨by omega, fun hn => ?_⟩
        rw [hn] at ht
        cases ht
      · cases ht
  · rintro h j hj
    try dsimp only
    by_cases e : n1 + j < k
    · rw [if_pos e, q2 _ (by omega), Nat.add_sub_cancel_left]
      exact ⟨_, rfl⟩
    · rcases h with h | ⟨h, hne⟩
      · omega
      · have e2 : n1 + j = k := by omega
        rw [if_neg e, if_pos e2, q2 k (by omega)]
        cases gt with
        | none => exact absurd rfl hne
        | some t => exact ⟨t, by simp; omega⟩
theorem RecsF_kp {S : Nat → Prop} {w w' : World} {a n f} (h : Gp.RecsF w a n f) (k : Kp S w w') (hs : ∀ g o, a = some ⟨g, o, none⟩ → ¬ S g) : Gp.RecsF w' a n f := by
  intro i hi
  obtain ⟨g, o, ha, hg, c0, c1, c2, c3, c4, c5⟩ := h i hi
  have e : ∀ j, w'.cell? ⟨g, j, none⟩ = w.cell? ⟨g, j, none⟩ := fun j => by unfold World.cell?; rw [k.block g hg (hs g o ha)]
  exact ⟨g, o, ha, Nat.lt_of_lt_of_le hg k.size, (e _).trans c0, (e _).trans c1, (e _).trans c2, (e _).trans c3, (e _).trans c4, (e _).trans c5⟩
/-- the second checkpoint, in which the power may fail -/
theorem write_two {w : World} {A X} (h : Wtr w A X) (hT : Pg.Tab w) {a r : Nat} (n1 n2 : Nat) (t1 t2 : List ByteArray) (hq : Sq n1 X a r (T2 n1 t1 t2) (Q2 n1 n2)) (hn0 : a * X.C.P + r = n1) (rs : List Gp.R6) (ra : Option Addr) (rc : Nat)
    (hx : Gp.RecsF w ra rs.length (fun i => rs.getD i (0, 0, 0, 0, 0, 0))) (hmay : ∀ r ∈ rs, Gp.R6.may r = true) (h30 : rs.length ≤ 30) (sz : Nat) (hsz : 9 ≤ sz ∧ sz = X.C.Z) (hts : Gp.packGo sz (rs.map Gp.R6.put) [] ⟨#[]⟩ = t2) (hl : t2.length = n2) (hn2 : 0 < n2) (hroom : n1 + n2 ≤ 32) (hB : 32 ≤ X.C.B * X.C.P)
    (at' : Nat) (hat : 1 ≤ at') (cK cF : Int) (hc : X.C.cuts = cutsOf [((at' : Int), cK, cF)]) (hf : ∀ i, X.C.fails i = false) :
    Calls Tryd.prog 11 #[.pointer (some ⟨A.a, 0, none⟩), .slice ra rs.length rc, .int .i64 (3 : Nat), .int .u64 (6 : Nat), .int .i64 sz] w fun e w' => ∃ X' A' v x er G, e = .returned (.tuple #[v, .int .u64 x, .int .i64 er]) ∧ Wtr w' A' X' ∧ Pg.Tab w' ∧ Nxt A A' X.C.B w w' ∧ Geq X' X ∧
      (∀ i, i < 32 → PgIs X'.C (i / X.C.P) (i % X.C.P) (G i)) ∧ Two G 32 n1 n2 ∧ ((er = 0 ∧ Whole G n1 n2) ∨ (er = 51 ∧ (at' = n2 → ((sz + 32 : Nat) : Int) ≤ cK → Whole G n1 n2) ∧ (Whole G n1 n2 → at' = n2))) := by
  have hgeo := h.chip.geo
  have hw := write_any h hT hq n1 hn0 rs ra rc hx hmay h30 3 (by omega) 6 (by omega) sz ⟨hsz.1, by rw [hsz.2]; exact Nat.le_refl _⟩ t2 hts (fun i hi => by
    unfold T2 Q2
    rw [if_neg (by omega), if_neg (by omega), Nat.add_sub_cancel_left, hl]
    exact ⟨rfl, rfl⟩) (by rw [hl]; omega) (n1 + at') (cK, cF) (fun i => by rw [hc]; exact cuts_one at' (cK, cF) n1 i) hf (.inr (by omega))
  rw [hl] at hw
  refine hw.mono ?_
  rintro e w' ⟨X', A', hw', tb', nx', g', cu', fa', hcase⟩
  have hP : X'.C.P = X.C.P := g'.2.1
  have hBB : X'.C.B = X.C.B := g'.1
  have hZZ : X'.C.Z = X.C.Z := g'.2.2
  rcases hcase with ⟨hno, ⟨v, rfl, _⟩, a', r', har, hS⟩ | ⟨h1, h2, ⟨x, rfl⟩, a', r', har, hS⟩
  · obtain ⟨hTwo, hW⟩ := two_of n1 n2 32 t1 t2 (n1 + n2) none (by omega) (fun h => absurd rfl h)
    refine ⟨X', A', v, _, 0, _, rfl, hw', tb', nx', g', fun i hi => ?_, hTwo, .inl ⟨rfl, hW.2 (.inl (Nat.le_refl _))⟩⟩
    have := hS.pgs (by rw [hP]; omega) (i := i) (by rw [hBB, hP]; omega)
    rw [hP, har] at this
    try dsimp only
    by_cases e : i < n1 + n2
    · rw [if_pos e] at this ⊢
      exact this
    · rw [if_neg e] at this ⊢
      split <;> exact this
  · obtain ⟨d, s, hv, hds, hpg⟩ := hS.torn
    rw [hP] at hv
    have hk : a' * X.C.P + r' = n1 + at' - 1 := by omega
    rw [hk] at hv
    have hq2 : Q2 n1 n2 (n1 + at' - 1) = (3, 6, at' - 1, n2) := by unfold Q2; rw [if_neg (by omega), show n1 + at' - 1 - n1 = at' - 1 by omega]
    rw [hq2] at hv
    have htorn := torn_says (C := X'.C) (b := a') (p := r') hv hds (by dsimp only; omega) cK cF hpg
    have hlt := hS.lt
    obtain ⟨gt, hgt, hfull⟩ : ∃ gt : Option ByteArray, PgIs X'.C a' r' (gt.map (fun t => (t, Q2 n1 n2 (n1 + at' - 1)))) ∧ (((X'.C.Z + 32 : Nat) : Int) ≤ cK → gt ≠ none) := by
      by_cases hfl : ((X'.C.Z + 32 : Nat) : Int) ≤ cK
      · refine ⟨some (T2 n1 t1 t2 (n1 + at' - 1)), ?_, fun _ => by simp⟩
        show PgIs X'.C a' r' (some (_, Q2 n1 n2 (n1 + at' - 1)))
        rw [hq2]
        exact htorn.2 hfl
      · rcases htorn.1 with ⟨t', ht'⟩ | hno
        · refine ⟨some t', ?_, fun h => absurd h hfl⟩
          show PgIs X'.C a' r' (some (_, Q2 n1 n2 (n1 + at' - 1)))
          rw [hq2]
          exact ht'
        · exact ⟨none, hno, fun h => absurd h hfl⟩
    obtain ⟨hTwo, hW⟩ := two_of n1 n2 32 t1 t2 (n1 + at' - 1) gt (by omega) (fun _ => by omega)
    refine ⟨X', A', .slice none 0 0, x, 51, _, rfl, hw', tb', nx', g', fun i hi => ?_, hTwo, .inr ⟨rfl, fun e1 e2 => hW.2 (.inr ⟨by omega, hfull (by rw [hZZ, ← hsz.2]; exact e2)⟩), fun hw => ?_⟩⟩
    · have hB' : i / X.C.P < X.C.B := Nat.div_lt_of_lt_mul (by rw [Nat.mul_comm]; omega)
      have hm : i % X.C.P < X.C.P := Nat.mod_lt _ (by omega)
      have hdm : i / X.C.P * X.C.P + i % X.C.P = i := by rw [Nat.mul_comm]; exact Nat.div_add_mod i X.C.P
      generalize i / X.C.P = b at *
      generalize i % X.C.P = p at *
      rw [hBB, hP] at hlt
      have hcmp : (i < n1 + at' - 1 ↔ ((b < a' ∧ p < X.C.P) ∨ (b = a' ∧ p < r'))) ∧ (i = n1 + at' - 1 ↔ (b = a' ∧ p = r')) := by
        rw [← hk]
        rcases Nat.lt_trichotomy b a' with e | e | e
        · have := Nat.mul_le_mul_right X.C.P (show b + 1 ≤ a' by omega)
          rw [Nat.succ_mul] at this
          constructor <;> omega
        · subst e; constructor <;> omega
        · have := Nat.mul_le_mul_right X.C.P (show a' + 1 ≤ b by omega)
          rw [Nat.succ_mul] at this
          constructor <;> omega
      try dsimp only
      by_cases e : i < n1 + at' - 1
      · rw [if_pos e]
        have := hS.says b p (by rw [hP]; exact hcmp.1.1 e)
        rw [hP, hdm] at this
        exact this
      · rw [if_neg e]
        by_cases e2 : i = n1 + at' - 1
        · obtain ⟨rfl, rfl⟩ := hcmp.2.1 e2
          rw [if_pos e2]
          exact hgt
        · rw [if_neg e2]
          have n1' := mt hcmp.1.2 e
          have n2' := mt hcmp.2.2 e2
          exact nov_rep _ _ _ (hS.rest b p (by rw [hBB]; exact hB') (by rw [hP]; exact hm) (by omega))
    · rcases hW.1 hw with h | ⟨h, _⟩ <;> omega
end Go.Proofs.YtbhggcleijjofaaDoor
