/-
  ModelPlays: what its rounds hold in memory. No condition.
-/
import Derived.Test.YtacgemibaojbaaaSme
import Derived.Test.YtacgemibaojbaaaTwm
import Derived.Test.YtacgemibaojbaaaLawC
namespace Go.Proofs.Ytacgemibaojbaaa
open Go Go.RowKit Go.Maps

theorem cells_ne {w : World} {a b : Nat} {cs cs' : Array Value} {t t' : TypeId} {z z' : Nat × Nat} (h : w.heap[a]? = some (.cells cs t z)) (h' : w.heap[b]? = some (.cells cs' t' z')) (ht : t ≠ t') : a ≠ b := by
  intro e
  subst e
  rw [h] at h'
  cases h'
  exact ht rfl
theorem Ow.far {W W' : World} {B e sz v rows g} (h : Ow W B e sz v rows) (q : W.grownBy W' (some g)) {cs : Array Value} {t : TypeId} {z : Nat × Nat} (hc : W.heap[g]? = some (.cells cs t z)) (ht : t ≠ e) : Ow W' B e sz v rows := h.kept q (.inr (h.ne hc ht))
theorem PAt.far {W W' : World} {B v0 v1 v2 v3 vt y tx g} (h : PAt W B v0 v1 v2 v3 vt y tx) (q : W.grownBy W' (some g)) {cs : Array Value} {t : TypeId} {z : Nat × Nat} (hc : W.heap[g]? = some (.cells cs t z)) (ht : t = 72 ∨ t = 36 ∨ t = 38) : PAt W' B v0 v1 v2 v3 vt y tx := by
  have d : ∀ e : TypeId, (e = 87 ∨ e = 90 ∨ e = 3 ∨ e = 122 ∨ e = 9) → t ≠ e := by
    rintro e (rfl | rfl | rfl | rfl | rfl) <;> rcases ht with rfl | rfl | rfl <;> decide
  exact ⟨⟨h.st.sp.far q hc (d _ (by simp)), h.st.lv.far q hc (d _ (by simp)), h.st.bad.far q hc (d _ (by simp)), h.st.worn.far q hc (d _ (by simp))⟩, h.tx.far q hc (d _ (by simp))⟩
theorem MxA.far {B g X w W W' g2} (h : MxA B g X w W) (q : W.grownBy W' (some g2)) {cs : Array Value} {t : TypeId} {z : Nat × Nat} (hc : W.heap[g2]? = some (.cells cs t z)) (ht : (72 : TypeId) ≠ t) (hB : B ≤ g2) : MxA B g X w W' := by
  obtain ⟨⟨_, _, _, _, h1⟩, h2, h3, h4⟩ := h
  exact ⟨⟨_, _, _, _, h1.far q (cells_ne h1.box hc ht) hc⟩, h2.grown q h4 (fun j hj => by cases hj; exact hB), h3, Nat.le_trans h4 q.size⟩
theorem kp_grown {w w' : World} {g : Nat} (k : Kp w w' g g) : w.grownBy w' (some g) := ⟨k.1, k.2.1, k.2.2.1, by rw [k.2.2.2.1]; exact Nat.le_refl _, fun i _ hn => k.2.2.2.2 i (by simpa using hn) (by simpa using hn)⟩
/-- the device, the room, what the plain one has, its transaction -/
structure PlyS (w : World) (g gr g7 g9 : Nat) (pl ks : Int) (X : MX) (now : Ab) (tx : List ByteArray) (op : Option PP) (u0 u1 u2 u3 ut v0 v1 v2 v3 vt : Value) (n : Int) (wr : World) : Prop where
  m : MxA w.heap.size g X w wr
  rm : RmB wr gr pl ks 0 0
  b7 : Box5 wr g7 u0 u1 u2 u3 ut
  pn : PAt wr w.heap.size u0 u1 u2 u3 ut now tx
  b9 : Box6 wr g9 v0 v1 v2 v3 vt n
  po : ∀ Q, op = some Q → PAt wr w.heap.size v0 v1 v2 v3 vt Q.y Q.tx ∧ n = (Q.n : Int)
  h7 : w.heap.size ≤ g7
  h9 : w.heap.size ≤ g9
theorem PlyS.call {w g gr g7 g9 pl ks X now tx op u0 u1 u2 u3 ut v0 v1 v2 v3 vt n wr wr'} (h : PlyS w g gr g7 g9 pl ks X now tx op u0 u1 u2 u3 ut v0 v1 v2 v3 vt n wr) (b : Below wr.heap.size wr wr') : PlyS w g gr g7 g9 pl ks X now tx op u0 u1 u2 u3 ut v0 v1 v2 v3 vt n wr' :=
  ⟨h.m.call b, h.rm.call b, h.b7.call b, h.pn.call b, h.b9.call b, fun Q hQ => ⟨(h.po Q hQ).1.call b, (h.po Q hQ).2⟩, h.h7, h.h9⟩
theorem PlyS.did {w g gr g7 g9 pl ks X now tx op u0 u1 u2 u3 ut v0 v1 v2 v3 vt n wr r e w2} (h : PlyS w g gr g7 g9 pl ks X now tx op u0 u1 u2 u3 ut v0 v1 v2 v3 vt n wr) (d : MxD g r wr e w2) : PlyS w g gr g7 g9 pl ks r.1 now tx op u0 u1 u2 u3 ut v0 v1 v2 v3 vt n w2 := by
  have q := d.2.2
  obtain ⟨⟨_, _, _, _, hm⟩, -, -, -⟩ := h.m
  have hb := hm.box
  refine ⟨h.m.did d, (q.block gr (Array.getElem?_eq_some_iff.1 h.rm).1 (by simpa using cells_ne h.rm hb (by decide))).trans h.rm, (q.block g7 h.b7.lt (by simpa using cells_ne h.b7 hb (by decide))).trans h.b7, h.pn.far q hb (.inl rfl), (q.block g9 h.b9.lt (by simpa using cells_ne h.b9 hb (by decide))).trans h.b9, fun Q hQ => ⟨(h.po Q hQ).1.far q hb (.inl rfl), (h.po Q hQ).2⟩, h.h7, h.h9⟩
/-- the transaction's block is stored -/
theorem PlyS.set9 {w g gr g7 g9 pl ks X now tx op u0 u1 u2 u3 ut v0 v1 v2 v3 vt n W z0 z1 z2 z3 zt} (h : PlyS w g gr g7 g9 pl ks X now tx op u0 u1 u2 u3 ut v0 v1 v2 v3 vt n W) (Q : PP) (pa : PAt W w.heap.size z0 z1 z2 z3 zt Q.y Q.tx) :
    PlyS w g gr g7 g9 pl ks X now tx (some Q) u0 u1 u2 u3 ut z0 z1 z2 z3 zt Q.n (set6 W g9 z0 z1 z2 z3 zt Q.n) := by
  have q := kp_grown (set6_kp W g9 z0 z1 z2 z3 zt Q.n)
  have hb := h.b9
  refine ⟨h.m.far q hb (by decide) h.h9, (q.block gr (Array.getElem?_eq_some_iff.1 h.rm).1 (by simpa using cells_ne h.rm hb (by decide))).trans h.rm, (q.block g7 h.b7.lt (by simpa using cells_ne h.b7 hb (by decide))).trans h.b7, h.pn.far q hb (.inr (.inr rfl)), set6_box hb _ _ _ _ _ _, fun Q' hQ => ?_, h.h7, h.h9⟩
  cases hQ
  exact ⟨pa.far q hb (.inr (.inr rfl)), rfl⟩
/-- what the plain one has is stored -/
theorem PlyS.set7 {w g gr g7 g9 pl ks X now tx op u0 u1 u2 u3 ut v0 v1 v2 v3 vt n W y' tx' z0 z1 z2 z3 zt} (h : PlyS w g gr g7 g9 pl ks X now tx op u0 u1 u2 u3 ut v0 v1 v2 v3 vt n W) (pa : PAt W w.heap.size z0 z1 z2 z3 zt y' tx') :
    PlyS w g gr g7 g9 pl ks X y' tx' none z0 z1 z2 z3 zt v0 v1 v2 v3 vt n (set5 W g7 z0 z1 z2 z3 zt) := by
  have q := kp_grown (set5_kp W g7 z0 z1 z2 z3 zt)
  have hb := h.b7
  exact ⟨h.m.far q hb (by decide) h.h7, (q.block gr (Array.getElem?_eq_some_iff.1 h.rm).1 (by simpa using cells_ne h.rm hb (by decide))).trans h.rm, set5_box hb _ _ _ _ _, pa.far q hb (.inr (.inl rfl)), (q.block g9 h.b9.lt (by simpa using cells_ne h.b9 hb (by decide))).trans h.b9, fun Q' hQ => (by cases hQ), h.h7, h.h9⟩
theorem PlyS.gone {w g gr g7 g9 pl ks X now tx op u0 u1 u2 u3 ut v0 v1 v2 v3 vt n W} (h : PlyS w g gr g7 g9 pl ks X now tx op u0 u1 u2 u3 ut v0 v1 v2 v3 vt n W) : PlyS w g gr g7 g9 pl ks X now tx none u0 u1 u2 u3 ut v0 v1 v2 v3 vt n W :=
  ⟨h.m, h.rm, h.b7, h.pn, h.b9, fun Q hQ => (by cases hQ), h.h7, h.h9⟩
/-- at the beginning of a round -/
def PlyR (w : World) (g gr g7 g9 : Nat) (pl ks : Int) (k : Nat) (o : Bool) (wr : World) : Prop :=
  ∃ X now tx op u0 u1 u2 u3 ut v0 v1 v2 v3 vt n, PlyS w g gr g7 g9 pl ks X now tx op u0 u1 u2 u3 ut v0 v1 v2 v3 vt n wr ∧ TwM X now tx op ∧ pkM X pl ks ∧ X.puts ≤ (k : Int) ∧ o = op.isSome
end Go.Proofs.Ytacgemibaojbaaa
