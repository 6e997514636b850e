/-
  Dump: the records that make a state of nothing. No condition.
-/
import Derived.Test.YtafeclgghgipcaaDmp
namespace Go.Proofs.Ytafeclgghgipcaa
open Go Go.RowKit Go.Maps

section
variable {ops : Array Oper} {rest : List Oper} {o : Oper} {a : Act} {Q : Exit → Act → World → Prop}
/-- append of a whole slice -/
theorem wp_apps {t e sz bytes : Nat} (E : EI t e sz bytes) {w : World} {B B2 : Nat} {v v2 : Value} {rows rows2 : Rws} (hgd : o.guard = none) (s x : Operand) (ho : o.op = .call { callee := .builtin .append, args := #[s, x], argTypes := #[t, t] })
    (h : Ow w B e sz v rows) (hB : B ≤ w.heap.size) (h2 : Ow w B2 e sz v2 rows2) (hne : rows2 ≠ []) (hs : a.eval s = v) (hx : a.eval x = v2) (hn : rows.length + rows2.length < 1000000)
    (hK : ∀ v' w', Ow w' B e sz v' (rows ++ rows2) → w.grownBy w' v.ownBlock → (v'.ownBlock = v.ownBlock ∨ ∃ g, v'.ownBlock = some g ∧ w.heap.size ≤ g) → wpList Try.prog ops Q rest (a.put o.dst v') w') :
    wpList Try.prog ops Q (o :: rest) a w := by
  obtain ⟨i, z, q1, q2, q3, q4, q5⟩ := E.info
  have hby : (rows.length + rows2.length) * bytes ≤ 140737488355328 := by
    have := Nat.mul_le_mul_left (rows.length + rows2.length) E.top
    omega
  rcases h2.own.2 with ⟨_, hz⟩ | ⟨g, cap, cur, rfl, hr⟩
  · exact absurd (List.length_eq_zero_iff.1 hz) hne
  refine wpList_append_own_at _ hgd s x t ho B e i z sz bytes E.under q1 q2 q3 q4 q5 E.pos v rows.length rows.flatten hs h.own ⟨g, 0, none⟩ rows2.length cap rows2.flatten hx h2.own.1 (h2.own.cells rfl) (fun u hu => by obtain ⟨r, hr, hu⟩ := List.mem_flatten.1 hu; exact h2.one r hr u hu) (by simp [maxLen]; omega) hby hB (fun v' w' p1 p2 _ p4 => ?_)
  refine hK v' w' ⟨by rw [List.length_append, List.flatten_append]; exact p1, fun r hr => ?_, fun r hr => ?_⟩ p2 (p4.imp id (fun p4 => ⟨_, p4, Nat.le_refl _⟩))
  · rcases List.mem_append.1 hr with hr | hr
    · exact h.len r hr
    · exact h2.len r hr
  · rcases List.mem_append.1 hr with hr | hr
    · exact h.one r hr
    · exact h2.one r hr
end
def dBad (p : Int × Int) : R6 := (8, 0, 0, p.1, 0, 0)
def dWorn (p : Int × Int) : R6 := (9, 0, 0, p.1, 0, p.2)
/-- a state as records -/
def dumpA (t : Ab) : List R6 := t.sp.flatMap dmA ++ t.bad.map dBad ++ t.worn.map dWorn
theorem dmA_len (x : Asp) : (dmA x).length ≤ x.ps.length + 2 := by
  unfold dmA
  rw [List.length_cons, List.length_append, List.length_map]
  split <;> simp
theorem dm_len {l : List Asp} (h : ∀ x ∈ l, x.ps.length ≤ 1024) : (l.flatMap dmA).length ≤ l.length * 1026 := by
  induction l with
  | nil => simp
  | cons x r ih =>
    have h1 := dmA_len x
    have h2 := h x (by simp)
    have h3 := ih (fun y hy => h y (by simp [hy]))
    rw [List.flatMap_cons, List.length_append, List.length_cons]
    omega
theorem dmA_ne (x : Asp) : (dmA x).map rR ≠ [] := by simp [dmA]
/-- the records so far -/
def du (t : Ab) (i j k : Nat) : Rws := ((t.sp.take i).flatMap dmA ++ (t.bad.take j).map dBad ++ (t.worn.take k).map dWorn).map rR
theorem du_len {t : Ab} (h : InvA t) (i j k : Nat) : (du t i j k).length < 20000 := by
  have h1 := dm_len (l := t.sp.take i) (fun x hx => h.plen (List.mem_of_mem_take hx))
  have h2 := h.len
  have h3 := h.blen
  have h4 := h.wlen
  unfold du
  rw [List.length_map, List.length_append, List.length_append, List.length_map, List.length_map]
  have h5 : (t.sp.take i).length ≤ t.sp.length := by rw [List.length_take]; omega
  have h6 : (t.bad.take j).length ≤ t.bad.length := by rw [List.length_take]; omega
  have h7 : (t.worn.take k).length ≤ t.worn.length := by rw [List.length_take]; omega
  omega
theorem du_sp (t : Ab) {i : Nat} (h : i < t.sp.length) : du t (i + 1) 0 0 = du t i 0 0 ++ (dmA t.sp[i]).map rR := by
  unfold du
  rw [List.take_succ_eq_append_getElem h, List.flatMap_append]
  simp
theorem du_bad (t : Ab) (i : Nat) {j : Nat} (h : j < t.bad.length) : du t i (j + 1) 0 = du t i j 0 ++ [(cR (dBad t.bad[j])).toList] := by
  unfold du
  rw [List.take_succ_eq_append_getElem h]
  simp only [List.map_append, List.map_cons, List.map_nil, List.take_zero, List.append_nil, ← List.append_assoc]
  rfl
theorem du_worn (t : Ab) (i j : Nat) {k : Nat} (h : k < t.worn.length) : du t i j (k + 1) = du t i j k ++ [(cR (dWorn t.worn[k])).toList] := by
  unfold du
  rw [List.take_succ_eq_append_getElem h]
  simp only [List.map_append, List.map_cons, List.map_nil, ← List.append_assoc]
  rfl
theorem du_all (t : Ab) : du t t.sp.length t.bad.length t.worn.length = (dumpA t).map rR := by
  unfold du dumpA
  rw [List.take_length, List.take_length, List.take_length]
set_option maxRecDepth 20000 in
theorem dump_any {w s} (h : Whole w s) : Calls Try.prog 16 #[.pointer (some ⟨s.p, 0, none⟩)] w fun e w' => ∃ v, e = .returned v ∧ Ow w' w.heap.size 36 6 v ((dumpA (ab s)).map rR) ∧ Below w.heap.size w w' := by
  have c0 := h.at'.c0
  have hl15 := h.inv.len
  have hlm : (spm s.sp).length = s.sp.length := by simp [spm]
  have hri := riseP h.at'.hS (by rw [hlm]; simp only [ab, List.length_map] at hl15; omega)
  rw [hlm, spm_ids] at hri
  have H := Hid.mk h
  have HR := Hid.mk hri
  clear h hri hlm
  go_enter Try.func16, Try.ntmps16
  go_upto_region 5 with (first | (go_at_call 42; refine HR.out.mono ?_; rintro e w1 ⟨ia, ic, rfl, i1, b1⟩))
  have S0 : GS w s ((ab s).sp.map (·.id)) (.slice ia s.sp.length ic) (.slice none 0 0) (du (ab s) 0 0 0) w1 := ⟨i1, Ow.nil _ _ _ _, H.out.at'.call b1, b1, fun _ _ h => by cases h⟩
  replace S0 := Hid.mk S0
  have hl2 : s.sp.length ≤ 15 := by simpa [ab] using hl15
  clear i1 b1 c0 hl15
  generalize hn : s.sp.length = n at *
  replace hn := Hid.mk hn
  go_loopw [3, 18] (fun v i wr => ∃ k : Nat, k ≤ n ∧ i = .int .i64 k ∧ GS w s ((ab s).sp.map (·.id)) (.slice ia n ic) v (du (ab s) k 0 0) wr) (fun _ i _ => n - (intOf i).toNat)
  case atStart => exact ⟨0, Nat.zero_le _, rfl, S0.out⟩
  case round =>
    clear S0
    obtain ⟨k, hk, rfl, hs⟩ := hrel
    by_cases hkn : k < n
    · have hkl : k < s.sp.length := by have := hn.out; omega
      have hka : k < (ab s).sp.length := by simp only [ab, List.length_map]; exact hkl
      obtain ⟨g, rfl, hgB, hgl, cg⟩ := hs.ids.intAt (j := k) (by rw [List.length_map]; exact hka)
      have hx := List.getElem_mem hkl
      have hdu := du_sp (ab s) hka
      have hxa : (ab s).sp[k] = (s.sp[k]).a := by simp [ab]
      rw [hxa] at hdu
      have hxv : ((ab s).sp.map (·.id)).getD k 0 = (s.sp[k]).id := by
        rw [List.getD_eq_getElem?_getD, List.getElem?_map, List.getElem?_eq_getElem hka, hxa]; rfl
      rw [hxv] at cg
      generalize s.sp[k] = x at *
      have hgx : gsp s.sp x.id = some x := by
        have h1 : (gsp s.sp x.id).isSome = true := by unfold gsp; rw [List.find?_isSome]; exact ⟨x, hx, by simp⟩
        obtain ⟨y, hy⟩ := Option.isSome_iff_exists.1 h1
        rw [hy, up_one hs.st.hS.up (gsp_some hy).1 hx (gsp_some hy).2]
      have c0 := hs.st.c0
      have lk := hs.st.aSp (k15 (H.out.inv.ids _ (ab_mem hx))) hgx
      have hsd := sdump_any hs.st hx (fun p hp => by have := H.out.inv.pss _ (ab_mem hx) p hp; have := H.out.inv.qs _ (ab_mem hx); exact k64 (by omega) (by have : x.a.q = x.q := rfl; omega)) (H.out.inv.plen (ab_mem hx))
      have hrl := du_len H.out.inv k 0 0
      have hrl2 := dmA_len x.a
      have hrl3 := H.out.inv.plen (ab_mem hx)
      have HP := Hid.mk hsd
      have HS := Hid.mk (And.intro hs (And.intro hdu (And.intro hrl (And.intro hrl2 hrl3))))
      clear hsd hs hdu hrl hrl2 hrl3 hgx hxv hxa hkl hka
      go_wp2_with (first
        | (go_at_call 43; refine HP.out.mono ?_; rintro e w2 ⟨v2, rfl, o2, b2⟩)
        | (at_builtin; refine wp_apps ei36 rfl _ _ rfl (HS.out.1.out.call b2) (Nat.le_trans HS.out.1.below.size b2.size) o2 (dmA_ne _) rfl rfl (by have := HS.out.2.2.1; have := HS.out.2.2.2.1; have := HS.out.2.2.2.2; rw [List.length_map]; omega) ?_; intro v3 w3 o3 g3 p3))
      rw [← HS.out.2.1] at o3
      have gr : wr.grownBy w3 _ := ⟨g3.os.trans b2.os, g3.tape.trans b2.tape, g3.output.trans b2.output, Nat.le_trans b2.size g3.size, fun k hk hne => (g3.block k (Nat.lt_of_lt_of_le hk b2.size) hne).trans (b2.block k hk)⟩
      exact ⟨⟨k + 1, by omega, by go_num, HS.out.1.next H.out.at' gr o3 (p3.imp id (fun ⟨g, q1, q2⟩ => ⟨g, q1, Nat.le_trans b2.size q2⟩))⟩, by simp [intOf]; omega⟩
    · have hk2 : k = n := by omega
      subst hk2
      have c2 := hs.st.c2
      have hbl := H.out.inv.blen
      have hrb := riseU hs.st.hB (by simp only [ab] at hbl; omega)
      have HS := Hid.mk hs
      have HRb := Hid.mk hrb
      clear hs hrb
      go_upto_region 10 with (first | (go_at_call 44; refine HRb.out.mono ?_; rintro e w1 ⟨ja, jc, rfl, i1, b1⟩))
      have S1 := Hid.mk (HS.out.swap b1 i1)
      clear i1 b1 c2 HS HRb
      replace hbl : s.bad.length ≤ 32 := hbl
      generalize hnb : (s.bad : Pl).length = nb at *
      replace hnb := Hid.mk hnb
      go_loopw [3, 39] (fun v i wr => ∃ j : Nat, j ≤ nb ∧ i = .int .i64 j ∧ GS w s (s.bad.map (·.1)) (.slice ja nb jc) v (du (ab s) k j 0) wr) (fun _ i _ => nb - (intOf i).toNat)
      case atStart => exact ⟨0, Nat.zero_le _, rfl, S1.out⟩
      case round =>
        clear S1
        obtain ⟨j, hj, rfl, hs⟩ := hrel
        by_cases hjn : j < nb
        · have hjl : j < s.bad.length := by have := hnb.out; omega
          obtain ⟨g, rfl, hgB, hgl, cg⟩ := hs.ids.intAt (j := j) (by rw [List.length_map]; exact hjl)
          have hdu : du (ab s) k (j + 1) 0 = du (ab s) k j 0 ++ [(cR (dBad s.bad[j])).toList] := du_bad (ab s) k (j := j) hjl
          have hxv : (s.bad.map (·.1)).getD j 0 = (s.bad[j]).1 := by
            rw [List.getD_eq_getElem?_getD, List.getElem?_map, List.getElem?_eq_getElem hjl]; rfl
          rw [hxv] at cg
          generalize s.bad[j] = p at *
          have hrl := du_len H.out.inv k j 0
          have HS := Hid.mk (And.intro hs (And.intro hdu hrl))
          clear hs hdu hrl hxv hjl
          go_wp2_with (first | (at_builtin; refine wp_app ei36 rfl _ _ rfl HS.out.1.out HS.out.1.below.size (cR (dBad p)) rfl rfl rfl (cR_one _) (Nat.lt_trans HS.out.2.2 (by decide)) ?_; intro v3 w3 o3 g3 p3))
          rw [← HS.out.2.1] at o3
          exact ⟨⟨j + 1, by omega, by go_num, HS.out.1.next H.out.at' g3 o3 p3⟩, by simp [intOf]; omega⟩
        · have hj2 : j = nb := by omega
          subst hj2
          have c3 := hs.st.c3
          have hwl := H.out.inv.wlen
          have hrw := riseI hs.st.hW (by simp only [ab] at hwl; omega)
          have HS := Hid.mk hs
          have HRw := Hid.mk hrw
          clear hs hrw
          go_upto_region 15 with (first | (go_at_call 45; refine HRw.out.mono ?_; rintro e w1 ⟨la, lc, rfl, i1, b1⟩))
          have S2 := Hid.mk (HS.out.swap b1 i1)
          clear i1 b1 c3 HS HRw
          replace hwl : s.worn.length ≤ 32 := hwl
          generalize hnw : (s.worn : Pl).length = nw at *
          replace hnw := Hid.mk hnw
          go_loopw [3, 55] (fun v i wr => ∃ l : Nat, l ≤ nw ∧ i = .int .i64 l ∧ GS w s (s.worn.map (·.1)) (.slice la nw lc) v (du (ab s) k j l) wr) (fun _ i _ => nw - (intOf i).toNat)
          case atStart => exact ⟨0, Nat.zero_le _, rfl, S2.out⟩
          case round =>
            clear S2
            obtain ⟨l, hl, rfl, hs⟩ := hrel
            by_cases hln : l < nw
            · have hll : l < s.worn.length := by have := hnw.out; omega
              obtain ⟨g, rfl, hgB, hgl, cg⟩ := hs.ids.intAt (j := l) (by rw [List.length_map]; exact hll)
              have hdu : du (ab s) k j (l + 1) = du (ab s) k j l ++ [(cR (dWorn s.worn[l])).toList] := du_worn (ab s) k j (k := l) hll
              have hp := List.getElem_mem hll
              have hxv : (s.worn.map (·.1)).getD l 0 = (s.worn[l]).1 := by
                rw [List.getD_eq_getElem?_getD, List.getElem?_map, List.getElem?_eq_getElem hll]; rfl
              rw [hxv] at cg
              generalize s.worn[l] = p at *
              have c3 := hs.st.c3
              have lk := hs.st.hW.look (k := p.1) (k64 (by have := H.out.inv.worn p hp; omega) (by have := H.out.inv.worn p hp; omega))
              rw [mem_mget hs.st.hW.up (k := p.1) (v := p.2) hp, Option.getD_some] at lk
              have hrl := du_len H.out.inv k j l
              have HS := Hid.mk (And.intro hs (And.intro hdu hrl))
              clear hs hdu hrl hxv hll
              go_wp2_with (first | (at_builtin; refine wp_app ei36 rfl _ _ rfl HS.out.1.out HS.out.1.below.size (cR (dWorn p)) rfl rfl rfl (cR_one _) (Nat.lt_trans HS.out.2.2 (by decide)) ?_; intro v3 w3 o3 g3 p3))
              rw [← HS.out.2.1] at o3
              exact ⟨⟨l + 1, by omega, by go_num, HS.out.1.next H.out.at' g3 o3 p3⟩, by simp [intOf]; omega⟩
            · have hl2 : l = nw := by omega
              subst hl2
              have HS := Hid.mk hs
              clear hs
              go_wp2_with fail
              go_ret
              have o5 := HS.out.out
              have e5 := du_all (ab s)
              have e6 : (ab s).sp.length = k := by simp only [ab, List.length_map]; exact hn.out
              have e7 : (ab s).bad.length = j := hnb.out
              have e8 : (ab s).worn.length = l := hnw.out
              rw [e6, e7, e8] at e5
              rw [e5] at o5
              exact ⟨_, rfl, o5, HS.out.below⟩
end Go.Proofs.Ytafeclgghgipcaa
