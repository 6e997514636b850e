/-
  Pages written one behind the other until the power fails, and behind that. Condition of the walk: the table's cells hold what the text lays.
-/
import Derived.Test.YtbcnocbdifbocaaDoorErs
namespace Go.Proofs.YtbcnocbdifbocaaDoor
open Go Go.RowKit
set_option maxRecDepth 100000

theorem Says.same {C C' : Ch} {b p : Nat} {t : ByteArray} {K S I O W : Nat} (h : Says C b p t K S I O W) (e1 : C'.pg b p = C.pg b p) (e2 : C'.Z = C.Z) : Says C' b p t K S I O W := by
  obtain ⟨d, s, h1, h2, h3⟩ := h
  exact ⟨d, s, e1.trans h1, h2.trans e2.symm, h3⟩
def tT (_ : Nat) : ByteArray := ⟨#[116, 101, 120, 116]⟩
def iQ (i : Nat) : Nat := i % 100000
theorem iQ_lt (i : Nat) : iQ i < 18446744073709551616 := by unfold iQ; omega
theorem iQ_is (i : Nat) (h : i < 100000) : iQ i = i := by unfold iQ; omega
/-- the power failed behind so many pages -/
structure Of (X : Wx) (a r : Nat) : Prop where
  off : X.C.off = true
  wz : ∀ i, X.wn.getD i 0 = 0
  lt : a < X.C.B ∧ r < X.C.P
  says : ∀ i p, (i < a ∧ p < X.C.P) ∨ (i = a ∧ p < r) → Says X.C i p (tT (i * X.C.P + p)) 1 (iQ (i * X.C.P + p)) 0 1 0
  did : X.C.did ≤ 1000
  bd : X.bd = []
/-- what WriteCuts knows of its writer -/
structure Cu (X : Wx) (a r n At : Nat) (kf : Int × Int) (off : Bool) : Prop where
  cuts : X.C.cuts = cutsOf [((At : Int), kf)]
  fails : ∀ i, X.C.fails i = false
  worn : 0 < X.C.P ∧ 4 ≤ X.C.Z
  nn : n = a * X.C.P + r
  is : off = false ∧ Sq X a r tT iQ ∧ n + 1 ≤ At ∨ off = true ∧ Of X a r ∧ n + 1 = At
theorem cuts_at (At : Nat) (kf : Int × Int) : cutsOf [((At : Int), kf)] (At : Int) = some kf := by unfold cutsOf; simp
theorem cuts_no (At : Nat) (kf : Int × Int) (i : Int) (h : ¬ i = At) : cutsOf [((At : Int), kf)] i = none := by
  unfold cutsOf
  have : ¬ (At : Int) = i := fun e => h e.symm
  simp [this]
/-- what Append answers where it must stop -/
def StQ (X : Wx) (n : Nat) (s : ByteArray) (_pl er : Int) (Y : Wx) : Prop := (er = 130 ∧ Y = X) ∨ (er = 51 ∧ ∃ b X1 p, Tk X b X1 p ∧ Y = X1.prX b p 1 n 0 1 s)
theorem leave51 (X : Wx) (b : Nat) : X.leaveE b 51 = 51 := by unfold Wx.leaveE; rw [if_neg (by decide), if_neg (by decide)]
theorem append_stop {w : World} {A X} (h : Wtr w A X) (hT : Pg.Tab w) (n : Nat) (s : ByteArray) (hs : s.size ≤ X.C.Z) (hwz : ∀ i, X.wn.getD i 0 = 0) (hd : X.C.did ≤ 1000) (hl : X.bd = []) (h51 : ∀ b X1 p, Tk X b X1 p → Lf.Ok X.C.B X.C.P X.xs X.o X.nx → X1.prE b p 1 n 0 1 s = 51) (W0 : Int) :
    Calls Tryd.prog 18 #[.pointer (some ⟨A.a, 0, none⟩), Pg.tagV 1 n 0 1 W0, .string s] w fun e w' => ∃ pl er X' A', e = .returned (.tuple #[.int .i64 pl, .int .i64 er]) ∧ StQ X n s pl er X' ∧ Geq X' X ∧ Wtr w' A' X' ∧ Nxt A A' X.C.B w w' := by
  refine append_any h hT (fun Y => Y = X) (StQ X n s) 1 n 0 1 W0 s rfl ⟨?_, ?_, ?_, ?_, ?_⟩
  · rintro Y rfl
    exact ⟨by omega, fun i _ => by rw [hwz]; unfold Pg.mayB; omega, hs, by rw [hl]; simp⟩
  · rintro Y rfl _ _ _
    exact .inl ⟨rfl, rfl⟩
  · rintro Y b X1 p rfl ok _ _ _ ht he
    rw [h51 b X1 p ht ok] at he
    exact absurd he (by decide)
  · rintro Y b X1 p rfl ok _ _ _ ht _ _
    rw [h51 b X1 p ht ok]
    exact .inr ⟨rfl, b, X1, p, ht, rfl⟩
  · rintro Y b X1 p rfl ok _ _ _ ht _ he
    rw [h51 b X1 p ht ok, leave51] at he
    exact absurd he (by decide)
/-- what Append answers in WriteCuts -/
def CuQ (X : Wx) (a r n At : Nat) (kf : Int × Int) (off : Bool) (er : Int) (Y : Wx) : Prop :=
  er = 130 ∧ Cu Y a r n At kf off ∨ er = 0 ∧ off = false ∧ (∃ a' r', Cu Y a' r' (n + 1) At kf false) ∧ n < X.C.B * X.C.P ∨ er = 51 ∧ Cu Y a r n At kf true
theorem append_cu {w0 w : World} {A X} (h : Run w0 A X w) {a r n At : Nat} {kf : Int × Int} {off : Bool} (hc : Cu X a r n At kf off) (hAt : At ≤ 32) (i : Nat) (hi : i < 100000) (hin : off = false → i = n) (W0 : Int) :
    Calls Tryd.prog 18 #[.pointer (some ⟨A.a, 0, none⟩), Pg.tagV 1 i 0 1 W0, .string ⟨#[116, 101, 120, 116]⟩] w fun e w' => ∃ pl er X' A', e = .returned (.tuple #[.int .i64 pl, .int .i64 er]) ∧ CuQ X a r n At kf off er X' ∧ Geq X' X ∧ Wtr w' A' X' ∧ Nxt A A' X.C.B w w' := by
  have hok := h.wtr.lif.ok
  have hsz : (⟨#[116, 101, 120, 116]⟩ : ByteArray).size ≤ X.C.Z := hc.worn.2
  rcases hc.is with ⟨rfl, hS, hle⟩ | ⟨rfl, hO, heq⟩
  · obtain rfl := hin rfl
    have hdid : X.C.did = (i : Int) := by rw [hS.did, hc.nn]
    by_cases hcut : i + 1 = At
    · have hb51 : ∀ b X1 p, Tk X b X1 p → Lf.Ok X.C.B X.C.P X.xs X.o X.nx → (X1.prE b p 1 i 0 1 ⟨#[116, 101, 120, 116]⟩ = 51) ∧ b = a ∧ p = r ∧ a < X.C.B ∧ r < X.C.P ∧ ∃ v, (X1.prX b p 1 i 0 1 ⟨#[116, 101, 120, 116]⟩).C = putPg { X.C with did := X.C.did + 1, off := true } a r v := by
        intro b X1 p ht ok
        obtain ⟨hab, rfl, rfl⟩ := hS.tk ok ht
        obtain ⟨hb, q, hqe, hq, hde, hpg⟩ := hS.fin.tk ok ht
        obtain rfl : r = q := by omega
        obtain ⟨e1, e2, _⟩ := ht.C
        have hv := fr_val X1 b i ⟨#[116, 101, 120, 116]⟩ (by rw [e2, hS.wz]; omega) (by rw [e1]; exact hS.fin.geo) (by omega) (by rw [e1]; exact hsz)
        have hp := pr_cut (C := X1.C) (b := b) (p := r) (d := frD X1 ⟨#[116, 101, 120, 116]⟩) (s := frS X1 b 1 i 0 1 ⟨#[116, 101, 120, 116]⟩) (x := kf) (by rw [e1]; exact hS.fin.off) (by rw [e1]; exact hb) (by rw [e1]; exact hq) hv.2.1 hv.2.2 (by rw [e1]; exact hpg) (by rw [e1, hc.cuts, hdid, show (i : Int) + 1 = (At : Int) by omega]; exact cuts_at At kf)
        refine ⟨by unfold Wx.prE; rw [hp], rfl, rfl, hab, hq, ?_⟩
        unfold Wx.prX
        rw [hp, ← e1]
        exact ⟨_, rfl⟩
      refine (append_stop h.wtr h.tab i _ hsz hS.wz (by rw [hdid]; omega) hS.bd (fun b X1 p ht ok => (hb51 b X1 p ht ok).1) W0).mono ?_
      rintro e w' ⟨pl, er, X', A', rfl, hq, hg, hw, hN⟩
      refine ⟨pl, er, X', A', rfl, ?_, hg, hw, hN⟩
      rcases hq with ⟨rfl, rfl⟩ | ⟨rfl, b, X1, p, ht, rfl⟩
      · exact .inl ⟨rfl, hc⟩
      · obtain ⟨_, rfl, rfl, hab, hr, v, hv⟩ := hb51 b X1 p ht hok
        obtain ⟨e1, e2, e3⟩ := ht.C
        refine .inr (.inr ⟨rfl, by rw [hv]; exact hc.cuts, by rw [hv]; exact hc.fails, by rw [hv]; exact hc.worn, by rw [hv]; exact hc.nn, .inr ⟨rfl, ⟨by rw [hv]; rfl, fun j => by show X1.wn.getD j 0 = 0; rw [e2]; exact hS.wz j, by rw [hv]; exact ⟨hab, hr⟩, fun j q hjq => ?_, by rw [hv]; show X.C.did + 1 ≤ 1000; rw [hdid]; omega, by show X1.bd = []; rw [e3]; exact hS.bd⟩, hcut⟩⟩)
        rw [hv] at hjq ⊢
        exact (hS.says j q hjq).same (by rw [putPg_pg, if_neg (fun x => by omega)]) rfl
    · have hcn : X.C.cuts (X.C.did + 1) = none := by rw [hc.cuts, hdid]; exact cuts_no At kf _ (by omega)
      by_cases hab : a < X.C.B
      · refine (append_sq h hS hab iQ_lt i (by rw [← hc.nn, iQ_is i hi]) _ rfl hsz hcn (hc.fails _) W0).mono ?_
        rintro e w' ⟨X', A', a', r', rfl, s1, s2, s3, s4, s5, s6, s7, s8, s9, s10⟩
        refine ⟨_, 0, X', A', rfl, .inr (.inl ⟨rfl, rfl, ⟨a', r', by rw [s3]; exact hc.cuts, by rw [s4]; exact hc.fails, by rw [s2.2.1, s2.2.2]; exact hc.worn, by rw [s2.2.1, s9, hc.nn], .inl ⟨rfl, s1, by omega⟩⟩, ?_⟩), s2, s7.wtr, s8⟩
        have h2 : (a + 1) * X.C.P ≤ X.C.B * X.C.P := Nat.mul_le_mul_right _ hab
        rw [Nat.succ_mul] at h2
        have := hS.le
        have := hc.nn
        omega
      · have hle := hS.le
        obtain ⟨rfl, rfl⟩ : a = X.C.B ∧ r = 0 := by omega
        refine (append_full h hS i (by omega) _ hsz hcn (hc.fails _) W0).mono ?_
        rintro e w' ⟨A', rfl, hw, hN⟩
        exact ⟨0, 130, X, A', rfl, .inl ⟨rfl, hc⟩, ⟨rfl, rfl, rfl⟩, hw, hN⟩
  · refine (append_stop h.wtr h.tab i _ hsz hO.wz hO.did hO.bd (fun b X1 p ht ok => by unfold Wx.prE; rw [ht.C.1, pr_off hO.off]) W0).mono ?_
    rintro e w' ⟨pl, er, X', A', rfl, hq, hg, hw, hN⟩
    refine ⟨pl, er, X', A', rfl, ?_, hg, hw, hN⟩
    rcases hq with ⟨rfl, rfl⟩ | ⟨rfl, b, X1, p, ht, rfl⟩
    · exact .inl ⟨rfl, hc⟩
    · obtain ⟨e1, e2, e3⟩ := ht.C
      have hC : (X1.prX b p 1 i 0 1 ⟨#[116, 101, 120, 116]⟩).C = X.C := by unfold Wx.prX; rw [e1, pr_off hO.off]
      exact .inr (.inr ⟨rfl, by rw [hC]; exact hc.cuts, by rw [hC]; exact hc.fails, by rw [hC]; exact hc.worn, by rw [hC]; exact hc.nn, .inr ⟨rfl, ⟨by rw [hC]; exact hO.off, fun j => by show X1.wn.getD j 0 = 0; rw [e2]; exact hO.wz j, by rw [hC]; exact hO.lt, by rw [hC]; exact hO.says, by rw [hC]; exact hO.did, by show X1.bd = []; rw [e3]; exact hO.bd⟩, heq⟩⟩)
end Go.Proofs.YtbcnocbdifbocaaDoor
