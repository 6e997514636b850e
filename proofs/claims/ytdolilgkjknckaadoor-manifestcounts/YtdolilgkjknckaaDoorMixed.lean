/-
  What the words become by a block.
-/
import Derived.Test.YtdolilgkjknckaaDoorSched
import Derived.Laws.CopyRow
import Derived.Deep.Cut
import Derived.Deep.DeepCutAuto
namespace Go.Proofs.YtdolilgkjknckaaDoor.Sh
open Go Go.RowKit

def chD (e f g : Int) : Int := bits .xor .u32 (bits .and .u32 e f) (bits .and .u32 (bits .xor .u32 IntKind.u32.max e) g)
def majD (a b c : Int) : Int := bits .xor .u32 (bits .xor .u32 (bits .and .u32 a b) (bits .and .u32 a c)) (bits .and .u32 b c)

/-- one round -/
def rnd (k x : Int) (v : List Int) : List Int :=
  let t1 := (v.getD 7 0 + tri (v.getD 4 0) 6 11 25 + chD (v.getD 4 0) (v.getD 5 0) (v.getD 6 0) + k + x) % 4294967296
  let t2 := (tri (v.getD 0 0) 2 13 22 + majD (v.getD 0 0) (v.getD 1 0) (v.getD 2 0)) % 4294967296
  [(t1 + t2) % 4294967296, v.getD 0 0, v.getD 1 0, v.getD 2 0, (v.getD 3 0 + t1) % 4294967296, v.getD 4 0, v.getD 5 0, v.getD 6 0]
def rounds (K S v : List Int) : Nat → List Int
  | 0 => v
  | i + 1 => rnd (K.getD i 0) (S.getD i 0) (rounds K S v i)
def sumTo (ws v : List Int) (k : Nat) : List Int := (List.range 8).map fun i => if i < k then (ws.getD i 0 + v.getD i 0) % 4294967296 else ws.getD i 0
@[irreducible] def mix (K S ws : List Int) : List Int := sumTo ws (rounds K S ws 64) 8
theorem mix_eq (K S ws : List Int) : mix K S ws = sumTo ws (rounds K S ws 64) 8 := by unfold mix; rfl
theorem sumTo_length (ws v : List Int) (k : Nat) : (sumTo ws v k).length = 8 := by simp [sumTo]
theorem mix_length (K S ws : List Int) : (mix K S ws).length = 8 := by rw [mix_eq, sumTo_length]
theorem sumTo_zero (ws v : List Int) (h : ws.length = 8) : sumTo ws v 0 = ws := by
  apply List.ext_getElem?
  intro i
  by_cases hi : i < 8
  · simp [sumTo, hi, List.getD_eq_getElem?_getD, (by omega : i < ws.length)]
  · rw [List.getElem?_eq_none (by rw [sumTo_length]; omega), List.getElem?_eq_none (by omega)]
theorem sumTo_at (ws v : List Int) (j : Nat) (hj : j < 8) : (sumTo ws v j).getD j 0 = ws.getD j 0 := by
  simp [sumTo, hj, List.getD_eq_getElem?_getD]
theorem sumTo_set (ws v : List Int) (j : Nat) (hj : j < 8) : (sumTo ws v j).set j ((ws.getD j 0 + v.getD j 0) % 4294967296) = sumTo ws v (j + 1) := by
  apply List.ext_getElem?
  intro i
  rw [List.getElem?_set, sumTo_length]
  by_cases hi : i < 8
  · by_cases e : j = i
    · subst e
      simp [sumTo, hj]
    · have e1 : (i < j + 1) = (i < j) := by
        apply propext
        omega
      simp [sumTo, hi, e, e1]
  · have e : ¬ j = i := by omega
    rw [if_neg e, List.getElem?_eq_none (by rw [sumTo_length]; omega), List.getElem?_eq_none (by rw [sumTo_length]; omega)]
theorem eight (v : List Int) (h : v.length = 8) : ∃ a b c d e f g i, v = [a, b, c, d, e, f, g, i] := by
  rcases v with _ | ⟨a, _ | ⟨b, _ | ⟨c, _ | ⟨d, _ | ⟨e, _ | ⟨f, _ | ⟨g, _ | ⟨i, _ | ⟨j, v⟩⟩⟩⟩⟩⟩⟩⟩⟩
  all_goals first | exact ⟨_, _, _, _, _, _, _, _, rfl⟩ | (simp at h)

theorem info64 : (Tryd.prog.info? 64).map (·.size) = some 1 := by kernel_rfl
/-- the words moved along by one -/
theorem moved (w : World) (G : Nat) (a b c d e f g i : Int) (h : Row w G 84 .u32 [a, b, c, d, e, f, g, i]) :
    (Builtin.copy_ #[63, 63] 3 #[.slice (some ⟨G, 1, none⟩) 7 7, .slice (some ⟨G, 0, none⟩) 7 8]).run Tryd.prog w = .ok (.int .i64 7) (w.setRow G (cellsOf .u32 [a, a, b, c, d, e, f, g])) := by
  have := run_copy_row (P := Tryd.prog) w 63 63 3 64 G 1 7 7 ⟨G, 0, none⟩ 7 8 (cellsOf .u32 [a, b, c, d, e, f, g, i]) 84 ([a, b, c, d, e, f, g].map (Value.int .u32)) Tryd.underlying63 info64 h rfl
    (by
      intro j v hv
      have hj : j < 7 := by
        have := (List.getElem?_eq_some_iff.1 hv).1
        simpa using this
      have ea : (⟨G, 0, none⟩ : Addr).add j = ⟨G, j, none⟩ := by unfold Addr.add; split <;> simp_all
      rw [ea, h.cell j (by simp; omega), ← hv]
      rcases (by omega : j = 0 ∨ j = 1 ∨ j = 2 ∨ j = 3 ∨ j = 4 ∨ j = 5 ∨ j = 6) with rfl | rfl | rfl | rfl | rfl | rfl | rfl <;> rfl)
    (by simp [cellsOf]) (by simp [Value.oneCell'])
  exact this

set_option maxRecDepth 4000 in
set_option maxHeartbeats 1000000 in
theorem mixed_any (ws K : List Int) (b : ByteArray) (gk : Nat) (hb64 : b.size = 64) (hw8 : ws.length = 8) (hK : K.length = 64) (w : World) (hk : Row w gk 82 .u32 K) :
    Calls Tryd.prog 60 #[.agg (cellsOf .u32 ws), .string b, .pointer (some ⟨gk, 0, none⟩)] w fun e w' => e = .returned (.agg (cellsOf .u32 (mix K (schedule b.data.toList) ws))) ∧ Below w.heap.size w w' := by
  generalize hR : mix K (schedule b.data.toList) ws = R
  have HR := Hid.mk hR
  clear hR
  go_enter Tryd.func60, Tryd.ntmps60
  go_upto_region 2 with (first | (go_at_call 76; refine (blockWords_any _ hb64 _).mono ?_; rintro e w' ⟨rfl, hBel⟩) | (refine wpList_storeFresh rfl 82 _ _ rfl w' _ rfl rfl rfl (by rw [schedule_length]; exact info82) (by rw [schedule_length]; rfl) rfl ?_))
  have hk2 : gk < w.heap.size := hk.lt
  have hs2 : ((w.alloc (.cells (cellsOf .u32 ws) 84)).alloc (.cells (cellsOf .u32 (List.replicate 8 0)) 84)).heap.size = w.heap.size + 1 + 1 := by simp only [size_alloc]
  have hB2 : Below ((w.alloc (.cells (cellsOf .u32 ws) 84)).alloc (.cells (cellsOf .u32 (List.replicate 8 0)) 84)).heap.size ((w.alloc (.cells (cellsOf .u32 ws) 84)).alloc (.cells (cellsOf .u32 (List.replicate 8 0)) 84)) w' := hBel
  have r0 : Row w' w.heap.size 84 .u32 ws := ((Row.fresh w 84 .u32 ws).alloc _).call hB2
  have r1 : Row w' (w.heap.size + 1) 84 .u32 (List.replicate 8 0) := (Row.fresh1 w _ 84 .u32 (List.replicate 8 0)).call hB2
  have rk : Row w' gk 82 .u32 K := ((hk.alloc _).alloc _).call hB2
  have hB3 : Below w.heap.size w w' := (((Below.refl w.heap.size w).alloc (Nat.le_refl _) _).alloc (by simp only [size_alloc]; omega) _).trans (hB2.mono (by simp only [size_alloc]; omega))
  have hz : w.heap.size + 1 < w'.heap.size := r1.lt
  clear hBel hB2 hs2
  have r0' := r0.alloc (.cells (cellsOf .u32 (schedule b.data.toList)) 82)
  have i36 : (Tryd.prog.info? 84).map (·.size) = some ws.length := by rw [hw8]; exact info84
  go_upto_region 3 with (first | (refine wpList_loadRow rfl 84 _ rfl _ rfl r0' Tryd.underlying84 i36 ?_) | (refine wpList_storeFresh rfl 84 _ _ rfl (w'.alloc (.cells (cellsOf .u32 (schedule b.data.toList)) 82)) _ rfl (by simp only [size_alloc]) rfl i36 (by rw [hw8]; rfl) rfl ?_))
  obtain ⟨S, hS⟩ : ∃ S, S = schedule b.data.toList := ⟨_, rfl⟩
  have hSl : S.length = 64 := by rw [hS, schedule_length]
  rw [← hS]
  have HS := Hid.mk hS
  have q0 : Row ((w'.alloc (.cells (cellsOf .u32 S) 82)).alloc (.cells (cellsOf .u32 ws) 84)) w.heap.size 84 .u32 ws := (r0.alloc _).alloc _
  have q1 : Row ((w'.alloc (.cells (cellsOf .u32 S) 82)).alloc (.cells (cellsOf .u32 ws) 84)) (w.heap.size + 1) 84 .u32 (List.replicate 8 0) := (r1.alloc _).alloc _
  have qk : Row ((w'.alloc (.cells (cellsOf .u32 S) 82)).alloc (.cells (cellsOf .u32 ws) 84)) gk 82 .u32 K := (rk.alloc _).alloc _
  have q7 : Row ((w'.alloc (.cells (cellsOf .u32 S) 82)).alloc (.cells (cellsOf .u32 ws) 84)) w'.heap.size 82 .u32 S := (Row.fresh w' 82 .u32 S).alloc _
  have q8 : Row ((w'.alloc (.cells (cellsOf .u32 S) 82)).alloc (.cells (cellsOf .u32 ws) 84)) (w'.heap.size + 1) 84 .u32 ws := Row.fresh1 w' _ 84 .u32 ws
  have qb : Below w.heap.size w ((w'.alloc (.cells (cellsOf .u32 S) 82)).alloc (.cells (cellsOf .u32 ws) 84)) := (hB3.alloc hB3.size _).alloc (by simp only [size_alloc]; omega) _
  have HQ := Hid.mk (And.intro q0 (And.intro q1 (And.intro qk (And.intro q7 (And.intro q8 qb)))))
  obtain ⟨B, hh⟩ : ∃ B, B = w'.heap.size := ⟨_, rfl⟩
  rw [← hh] at hz HQ ⊢
  clear r0 r1 rk r0' hB3 hS q0 q1 qk q7 q8 qb hk
  clear hh
  generalize ((w'.alloc (.cells (cellsOf .u32 S) 82)).alloc (.cells (cellsOf .u32 ws) 84)) = wb at *
  clear w'
  go_wp2_with fail
  go_loopw [22] (fun i wr => ∃ (k : Nat) (v : List Int), k ≤ 64 ∧ i = .int .i64 k ∧ v.length = 8 ∧ rounds K S ws k = v ∧ Row wr w.heap.size 84 .u32 ws ∧ Row wr (w.heap.size + 1) 84 .u32 (List.replicate 8 0) ∧ Row wr gk 82 .u32 K ∧ Row wr B 82 .u32 S ∧ Row wr (B + 1) 84 .u32 v ∧ Below w.heap.size w wr)
    (fun i _ => 64 - (intOf i).toNat)
  case atStart =>
    obtain ⟨q0, q1, qk, q7, q8, qb⟩ := HQ.out
    exact ⟨0, ws, Nat.zero_le _, rfl, hw8, rfl, q0, q1, qk, q7, q8, qb⟩
  case round =>
    clear HQ
    obtain ⟨k, v, hk, rfl, hv, hrd, q0, q1, qk, q7, q8, qb⟩ := hrel
    by_cases hk64 : k < 64
    · obtain ⟨a, b1, c, d, e, f, g, i, rfl⟩ := eight v hv
      have c0 := q8.cell 0 (by simp)
      have c1 := q8.cell 1 (by simp)
      have c2 := q8.cell 2 (by simp)
      have c4 := q8.cell 4 (by simp)
      have c5 := q8.cell 5 (by simp)
      have c6 := q8.cell 6 (by simp)
      have c7 := q8.cell 7 (by simp)
      simp only [List.getD_cons_zero, List.getD_cons_succ] at c0 c1 c2 c4 c5 c6 c7
      have cS := q7.cell k (by omega)
      have cK := qk.cell k (by omega)
      generalize hKv : K.getD k 0 = kv at *
      generalize hSv : S.getD k 0 = sv at *
      have HQ := Hid.mk (And.intro hKv (And.intro hSv (And.intro hrd (And.intro q0 (And.intro q1 (And.intro qk (And.intro q7 (And.intro q8 qb))))))))
      clear hKv hSv hrd q0 q1 qk q7 q8 qb hv
      have hsg : IntKind.u32.signed = false := rfl
      have hcopy := fun m => moved (wr.drewN m) (B + 1) a b1 c d e f g i (HQ.out.2.2.2.2.2.2.2.1.drewN m)
      go_wp2_with fail
      go_quiet (fail)
      obtain ⟨n1, rfl⟩ : ∃ x, x = nq := ⟨_, rfl⟩
      go_wp2_with fail
      go_quiet (fail)
      obtain ⟨n2, rfl⟩ : ∃ x, x = nq := ⟨_, rfl⟩
      go_wp2_with fail
      go_quiet (first | (go_at_call 77; refine (turned_any _ _ _ _ (by decide) (by decide) (by decide) _).mono ?_; rintro e2 w2 ⟨rfl, rfl⟩; exact ⟨rfl, _, rfl⟩))
      go_wp2_with (first | (go_at_call 77; refine (turned_any _ _ _ _ (by decide) (by decide) (by decide) _).mono ?_; rintro e w' ⟨rfl, rfl⟩))
      obtain ⟨t1, ht1⟩ : ∃ t1, (i + tri e 6 11 25 + chD e f g + kv + sv) % 4294967296 = t1 := ⟨_, rfl⟩
      obtain ⟨t2, ht2⟩ : ∃ t2, (tri a 2 13 22 + majD a b1 c) % 4294967296 = t2 := ⟨_, rfl⟩
      have HT := Hid.mk (And.intro ht1 ht2)
      have t10 : 0 ≤ t1 ∧ t1 < 4294967296 := by omega
      have t20 : 0 ≤ t2 ∧ t2 < 4294967296 := by omega
      obtain ⟨t10, t11⟩ := t10
      obtain ⟨t20, t21⟩ := t20
      unfold chD at ht1
      unfold majD at ht2
      rw [ht1, ht2]
      clear ht1 ht2
      go_region
      clear hcopy
      obtain ⟨hKv, hSv, hrd, q0, q1, qk, q7, q8, qb⟩ := HQ.out
      have p0 := (q0.drewN (n1 + n2 + nq + 1)).wholeOther (g' := B + 1) (by omega) (cellsOf .u32 [a, a, b1, c, d, e, f, g])
      have p1 := (q1.drewN (n1 + n2 + nq + 1)).wholeOther (g' := B + 1) (by omega) (cellsOf .u32 [a, a, b1, c, d, e, f, g])
      have pk := (qk.drewN (n1 + n2 + nq + 1)).wholeOther (g' := B + 1) (by omega) (cellsOf .u32 [a, a, b1, c, d, e, f, g])
      have p7 := (q7.drewN (n1 + n2 + nq + 1)).wholeOther (g' := B + 1) (by omega) (cellsOf .u32 [a, a, b1, c, d, e, f, g])
      have p8 := (q8.drewN (n1 + n2 + nq + 1)).whole [a, a, b1, c, d, e, f, g]
      have pb := below_setRow (below_drewN (n := n1 + n2 + nq + 1) qb) (by omega : w.heap.size ≤ B + 1) (cellsOf .u32 [a, a, b1, c, d, e, f, g])
      clear q0 q1 qk q7 q8 qb c0 c1 c2 c4 c5 c6 c7 cS cK
      generalize (wr.drewN (n1 + n2 + nq + 1)).setRow (B + 1) (cellsOf .u32 [a, a, b1, c, d, e, f, g]) = wn at *
      have k4 := p8.cell 4 (by simp)
      have k0 := p8.cell 0 (by simp)
      have f4 := p8.frozen 4
      have f0 := p8.frozen 0
      simp only [List.getD_cons_zero, List.getD_cons_succ] at k0 k4
      have HP := Hid.mk (And.intro hKv (And.intro hSv (And.intro hrd (And.intro p0 (And.intro p1 (And.intro pk (And.intro p7 (And.intro p8 pb))))))))
      clear hKv hSv hrd p0 p1 pk p7 p8 pb HQ
      go_wp2_with fail
      go_roundw
      case rel =>
        obtain ⟨hKv, hSv, hrd, q0, q1, qk, q7, q8, qb⟩ := HP.out
        refine ⟨k + 1, rnd kv sv [a, b1, c, d, e, f, g, i], by omega, by go_num, rfl, ?_, ?_, ?_, ?_, ?_, ?_, ?_⟩
        · rw [rounds, hKv, hSv, hrd]
        · exact (q0.other (by show B + 1 ≠ w.heap.size; omega) _).other (by show B + 1 ≠ w.heap.size; omega) _
        · exact (q1.other (by show B + 1 ≠ w.heap.size + 1; omega) _).other (by show B + 1 ≠ w.heap.size + 1; omega) _
        · exact (qk.other (by show B + 1 ≠ gk; omega) _).other (by show B + 1 ≠ gk; omega) _
        · exact (q7.other (by show B + 1 ≠ B; omega) _).other (by show B + 1 ≠ B; omega) _
        · have hr : rnd kv sv [a, b1, c, d, e, f, g, i] = [(t1 + t2) % 4294967296, a, b1, c, (d + t1) % 4294967296, e, f, g] := by
            obtain ⟨ht1, ht2⟩ := HT.out
            rw [← ht1, ← ht2]
            rfl
          rw [hr]
          exact (q8.stored 4 _).stored 0 _
        · exact (qb.setCell (by show w.heap.size ≤ B + 1; omega) _).setCell (by show w.heap.size ≤ B + 1; omega) _
      case measure => simp [intOf]; omega
    · have hk2 : k = 64 := by omega
      rw [hk2] at hrd
      clear hk2
      have hsum : mix K S ws = R := by rw [HS.out]; exact HR.out
      rw [mix_eq, hrd] at hsum
      have HSM := Hid.mk hsum
      have HQ := Hid.mk (And.intro q0 (And.intro q1 (And.intro q8 qb)))
      clear q0 q1 qk q7 q8 qb hsum HS HR hrd
      go_wp2_with fail
      go_loopw [88] (fun i wr => ∃ j : Nat, j ≤ 8 ∧ i = .int .i64 j ∧ Row wr w.heap.size 84 .u32 (sumTo ws v j) ∧ Row wr (w.heap.size + 1) 84 .u32 (List.replicate 8 0) ∧ Row wr (B + 1) 84 .u32 v ∧ Below w.heap.size w wr)
        (fun i _ => 8 - (intOf i).toNat)
      case atStart =>
        obtain ⟨q0, q1, q8, qb⟩ := HQ.out
        refine ⟨0, Nat.zero_le _, rfl, ?_, q1, q8, qb⟩
        rw [sumTo_zero ws v hw8]
        exact q0
      case round =>
        clear HQ
        obtain ⟨j, hj, rfl, q0, q1, q8, qb⟩ := hrel
        by_cases hj8 : j < 8
        · have c0 := q0.cell j (by rw [sumTo_length]; omega)
          rw [sumTo_at ws v j hj8] at c0
          have f0 := q0.frozen j
          have c8 := q8.cell j (by omega)
          generalize hx : ws.getD j 0 = x at *
          generalize hy : v.getD j 0 = y at *
          have HQ := Hid.mk (And.intro hx (And.intro hy (And.intro q0 (And.intro q1 (And.intro q8 qb)))))
          clear hx hy q0 q1 q8 qb
          go_wp2_with fail
          go_region
          go_wp2_with fail
          go_roundw
          case rel =>
            obtain ⟨hx, hy, q0, q1, q8, qb⟩ := HQ.out
            refine ⟨j + 1, by omega, by go_num, ?_, q1.drew.other (by show w.heap.size ≠ w.heap.size + 1; omega) _, q8.drew.other (by show w.heap.size ≠ B + 1; omega) _, qb.drew.setCell (Nat.le_refl _) _⟩
            rw [← sumTo_set ws v j hj8, hx, hy]
            exact q0.drew.stored j _
          case measure => simp [intOf]; omega
        · have hj2 : j = 8 := by omega
          have q0 : Row wr w.heap.size 84 .u32 R := by
            rw [← HSM.out, ← hj2]
            exact q0
          have hRl : R.length = 8 := by rw [← HSM.out, sumTo_length]
          clear hj2 HSM
          go_wp2_with (first | (refine wpList_loadRow rfl 84 _ rfl _ rfl q0 Tryd.underlying84 (by rw [hRl]; exact info84) ?_) | (refine wpList_storeRow rfl 84 _ _ rfl _ rfl rfl q1 (by rw [hRl]; exact info84) (by rw [hRl]; rfl) rfl ?_))
          have hrw := q1.whole R
          refine bodyPost_ret (v := .agg (cellsOf .u32 R)) (Row.result (p := 6) (ty := 84) Tryd.results60 hrw ?_ Tryd.underlying84 (by rw [hRl]; exact info84)) ?_ ?_
          · simp [Act.put]
          · simp [Act.put]
          · exact ⟨rfl, below_setRow qb (by omega) _⟩
end Go.Proofs.YtdolilgkjknckaaDoor.Sh
