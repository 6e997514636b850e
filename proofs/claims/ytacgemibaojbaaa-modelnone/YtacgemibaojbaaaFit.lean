/-
  How many places pages take, and whether there is room for them: places, fits. No condition.
-/
import Derived.Test.YtacgemibaojbaaaApm
import Derived.Test.YtacgemibaojbaaaAlk
namespace Go.Proofs.Ytacgemibaojbaaa
open Go Go.RowKit Go.Maps

def liveA (t : Ab) : Nat := nL (lvA t.sp) (lvA t.sp).length
def fitB (pl ks : Int) (t : Ab) : Bool := decide ((liveA t : Int) ≤ pl) && decide ((pagesN t.sp : Int) ≤ ks)
theorem cntA_mem {l : List Asp} {a : Int} : cntA l a ≠ 0 ↔ ∃ x ∈ l, ∃ p ∈ x.ps, p.2 = a := by
  refine ⟨cntA_pos, ?_⟩
  rintro ⟨x, hx, p, hp, rfl⟩
  induction l with
  | nil => cases hx
  | cons y r ih =>
    simp only [cntA]
    rcases List.mem_cons.1 hx with rfl | hx
    · have : 0 < cntP x.ps p.2 := by
        unfold cntP
        exact List.length_pos_iff.2 (List.ne_nil_of_mem (List.mem_filter.2 ⟨hp, by simp⟩))
      omega
    · have := ih hx
      omega
/-- the numbers met so far: of spaces that are not to come any more -/
def Sn (l : List Asp) (rest : Pl) (k : Int) : Prop := ∃ x ∈ l, mget rest x.id = none ∧ ∃ p ∈ x.ps, p.2 = k
def Si (l : List Asp) (rest : Pl) (x : Asp) (r2 : Pl) (k : Int) : Prop := Sn l rest k ∨ ∃ p ∈ x.ps, mget r2 p.1 = none ∧ p.2 = k
theorem sn_start {f : Int → Nat} {l : List Asp} (k : Int) : ¬ Sn l (spm f l) k := by
  rintro ⟨x, hx, hn, _⟩
  exact (mget_none_iff _ _).1 hn _ (List.mem_map.2 ⟨x, hx, rfl⟩) rfl
theorem sn_end {l : List Asp} (k : Int) : Sn l [] k ↔ cntA l k ≠ 0 := by
  rw [cntA_mem]
  constructor
  · rintro ⟨x, hx, _, q⟩; exact ⟨x, hx, q⟩
  · rintro ⟨x, hx, q⟩; exact ⟨x, hx, rfl, q⟩
theorem si_start {l : List Asp} {rest : Pl} {x : Asp} (k : Int) : Si l rest x x.ps k ↔ Sn l rest k := by
  constructor
  · rintro (h | ⟨p, hp, hn, _⟩)
    · exact h
    · exact absurd rfl ((mget_none_iff _ _).1 hn p hp)
  · exact .inl
theorem mget_none_del {m : Pl} {k a : Int} : mget (mdel m k) a = none ↔ mget m a = none ∨ a = k := by
  by_cases e : a = k
  · subst e
    simp [mget_del_same]
  · rw [mget_del_ne e]; simp [e]
theorem si_end {l : List Asp} (hu : UpA l) {rest : Pl} {x : Asp} (hx : x ∈ l) (k : Int) : Si l rest x [] k ↔ Sn l (mdel rest x.id) k := by
  constructor
  · rintro (⟨y, hy, hn, q⟩ | ⟨p, hp, _, q⟩)
    · exact ⟨y, hy, mget_none_del.2 (.inl hn), q⟩
    · exact ⟨x, hx, mget_none_del.2 (.inr rfl), p, hp, q⟩
  · rintro ⟨y, hy, hn, q⟩
    rcases mget_none_del.1 hn with h | h
    · exact .inl ⟨y, hy, h, q⟩
    · have := upA_one hu hy hx h
      subst this
      obtain ⟨p, hp, q⟩ := q
      exact .inr ⟨p, hp, rfl, q⟩
theorem si_step {l : List Asp} {rest : Pl} {x : Asp} (hu : Up x.ps) {r2 : Pl} (hs : r2.Sublist x.ps) {k v : Int} (hm : (k, v) ∈ r2) (a : Int) : Si l rest x (mdel r2 k) a ↔ Si l rest x r2 a ∨ a = v := by
  have hk : (k, v) ∈ x.ps := hs.subset hm
  constructor
  · rintro (h | ⟨p, hp, hn, q⟩)
    · exact .inl (.inl h)
    · rcases mget_none_del.1 hn with h | h
      · exact .inl (.inr ⟨p, hp, h, q⟩)
      · right
        have e1 := mem_mget hu hk
        have e2 := mem_mget hu (k := p.1) (v := p.2) hp
        rw [h, e1] at e2
        rw [← q]
        exact (Option.some.inj e2).symm
  · rintro ((h | ⟨p, hp, hn, q⟩) | rfl)
    · exact .inl h
    · exact .inr ⟨p, hp, mget_none_del.2 (.inl hn), q⟩
    · exact .inr ⟨(k, a), hk, mget_none_del.2 (.inr rfl), rfl⟩
theorem put_some {m : Pl} {k a : Int} : (mget (mput m k 0) a).isSome = true ↔ (mget m a).isSome = true ∨ a = k := by
  by_cases e : a = k
  · subst e
    simp [mget_put]
  · rw [mget_put_ne e]; simp [e]
/-- which space comes -/
theorem spm_mem {n} {f : Int → Nat} {l : List Asp} (hi : InvM n l) {k q : Int} {s : Bool} {g : Nat} (hq : 0 ≤ q ∧ q < 2048) (h : (k, cS (q, s, g)) ∈ spm f l) : ∃ x ∈ l, k = x.id ∧ q = x.q ∧ s = x.sl ∧ g = f x.id := by
  obtain ⟨x, hx, e⟩ := List.mem_map.1 h
  simp only [Prod.mk.injEq, spE] at e
  obtain ⟨e1, e2⟩ := e
  obtain ⟨h1, h2, h3⟩ := cS_inj (hi.q hx) hq e2
  exact ⟨x, hx, e1.symm, h1.symm, h2.symm, h3.symm⟩
section
variable (w : World) {ops : Array Oper} {rest : List Oper} {o : Oper} {a : Act} {Q : Exit → Act → World → Prop}
/-- the next space of a map -/
theorem wp_nextA {n : Int} {l : List Asp} {f : Int → Nat} (hi : InvM n l) {b r : Nat} {ps : Pl} (hs : ps.Sublist (spm f l)) (hg : o.guard = none) (it : Operand) (hop : o.op = Op.next it false) (h : Rg elS w b r (spm f l) ps) (hit : a.eval it = .pointer (some ⟨r, 0, none⟩))
    (hDone : ps = [] → wpList Try.prog ops Q rest (a.put o.dst (.tuple #[.bool false])) w)
    (hMore : ∀ (x : Asp) (w' : World), x ∈ l → (x.id, cS (spE f x)) ∈ ps → Rg elS w' b r (spm f l) (mdel ps x.id) → w'.rangeLeft b r < w.rangeLeft b r → w.grownBy w' (some r) → w'.heap.size = w.heap.size →
      (Instr.entry (.pointer (some ⟨r, 0, none⟩))).run Try.prog w' = .ok (.tuple #[.int .i64 x.id, .agg #[.int .i64 x.q, .bool x.sl, .map (some (f x.id))]]) w' → wpList Try.prog ops Q rest (a.put o.dst (.tuple #[.bool true, .int .i64 x.id, .agg #[.int .i64 x.q, .bool x.sl, .map (some (f x.id))]])) w') : wpList Try.prog ops Q (o :: rest) a w := by
  refine wp_nextS w hg it hop h (spm_code hi) hit hDone ?_
  intro k q s g w2 hm hk hq hrg hlt2 hgr hsz hen
  obtain ⟨x, hx, rfl, rfl, rfl, rfl⟩ := spm_mem hi hq (hs.subset hm)
  exact hMore x w2 hx hm hrg hlt2 hgr hsz hen
end
structure PlS (L : Int → ByteArray) (n : Int) (w : World) (b : Nat) (l : List Asp) (f : Int → Nat) (r bm : Nat) (rest m : Pl) (wr : World) : Prop where
  rg : Rg elS wr b r (spm f l) rest
  sub : rest.Sublist (spm f l)
  at' : SpsAt L wr b l f
  mp : Mp elU wr bm m
  seen : ∀ k, (mget m k).isSome = true ↔ Sn l rest k
  bel : Below w.heap.size w wr
  hr : w.heap.size ≤ r
  hbm : w.heap.size ≤ bm
  ne : r ≠ bm
structure PlS0 (L : Int → ByteArray) (n : Int) (w : World) (b : Nat) (l : List Asp) (f : Int → Nat) (r bm : Nat) (rest m : Pl) (x : Asp) (c : Nat) (wr : World) : Prop where
  rg : Rg elS wr b r (spm f l) (mdel rest x.id) ∧ wr.rangeLeft b r < c
  hx : x ∈ l
  at' : SpsAt L wr b l f
  mp : Mp elU wr bm m
  seen : ∀ k, (mget m k).isSome = true ↔ Sn l rest k
  bel : Below w.heap.size w wr
  hr : w.heap.size ≤ r
  hbm : w.heap.size ≤ bm
  ne : r ≠ bm
structure PiS (L : Int → ByteArray) (n : Int) (w : World) (b : Nat) (l : List Asp) (f : Int → Nat) (r bm : Nat) (rest : Pl) (x : Asp) (r2 : Nat) (rest2 m : Pl) (c : Nat) (wr : World) : Prop where
  rg : Rg elS wr b r (spm f l) (mdel rest x.id)
  rg2 : Rg (elL L) wr (f x.id) r2 x.ps rest2
  sub2 : rest2.Sublist x.ps
  at' : SpsAt L wr b l f
  mp : Mp elU wr bm m
  seen : ∀ k, (mget m k).isSome = true ↔ Si l rest x rest2 k
  bel : Below w.heap.size w wr
  hr : w.heap.size ≤ r
  hr2 : w.heap.size ≤ r2
  hbm : w.heap.size ≤ bm
  ne : r ≠ bm
  ne2 : r2 ≠ bm
  ner : r2 ≠ r
  left : wr.rangeLeft b r < c
structure PiS0 (L : Int → ByteArray) (n : Int) (w : World) (b : Nat) (l : List Asp) (f : Int → Nat) (r bm : Nat) (rest : Pl) (x : Asp) (r2 : Nat) (rest2 m : Pl) (W : World) (c2 : Nat) (k2 : Int) (wr : World) : Prop where
  rg : Rg elS wr b r (spm f l) (mdel rest x.id)
  rg2 : Rg (elL L) wr (f x.id) r2 x.ps (mdel rest2 k2)
  lt2 : wr.rangeLeft (f x.id) r2 < c2
  sub2 : (mdel rest2 k2).Sublist x.ps
  at' : SpsAt L wr b l f
  mp : Mp elU wr bm m
  bel : Below w.heap.size w wr
  left : wr.rangeLeft b r = W.rangeLeft b r
theorem seen_len {n : Int} {l : List Asp} (hi : InvM n l) (hn : n ≤ 2000) {m : Pl} (hu : Up m) (h : ∀ k, (mget m k).isSome = true → ∃ x ∈ l, ∃ p ∈ x.ps, p.2 = k) : m.length < 1000000 := by
  have := up_len (lo := 1) (hi := 2000) hu (fun p hp => by
    obtain ⟨x, hx, q, hq, e⟩ := h p.1 (by rw [mem_mget hu (k := p.1) (v := p.2) hp]; rfl)
    have := hi.pos x hx q hq
    omega)
  omega
set_option maxRecDepth 20000 in
set_option maxHeartbeats 2000000 in
theorem places_any {L n w b l f} (h : SpsAt L w b l f) (hi : InvM n l) (hn : n ≤ 2000) : Calls Try.prog 62 #[.map (some b)] w fun e w' => e = .returned (.int .i64 (liveA (abl l) : Int)) ∧ Below w.heap.size w w' := by
  have hmm := @run_makeMap Try.prog
  have hlt := h.lt
  have H := Hid.mk (And.intro h (And.intro hi hn))
  clear h hi hn
  go_enter Try.func62, Try.ntmps62
  go_upto_region 2 with fail
  have h1 := H.out.1.alloc (.map #[] 0)
  have m1 := Mp.made w elU
  have H1 := Hid.mk (And.intro h1 m1)
  clear h1 m1
  go_upto_region 3 with (first | (at_range; refine wp_range _ rfl _ 70 97 rfl Try.underlying70 H1.out.1.mp rfl ?_; intro w1 r1 b1 z1))
  go_frame
  have S0 : PlS L n w b l f (w.alloc (.map #[] 0)).heap.size w.heap.size (spm f l) [] w1 := by
    refine ⟨r1, List.Sublist.refl _, H1.out.1.call b1, H1.out.2.call b1, fun k => ?_, below3 (below_box w _) b1, by rw [size_alloc]; omega, Nat.le_refl _, by rw [size_alloc]; omega⟩
    have := sn_start (f := f) (l := l) k
    simp [mget, this]
  replace S0 := Hid.mk S0
  clear r1 b1 z1 H1
  generalize (w.alloc (.map #[] 0)).heap.size = r at *
  generalize hbm : w.heap.size = bm at *
  have HB := Hid.mk hbm
  clear hbm
  go_loopw [5] (fun _ wr => ∃ rest m, PlS L n w b l f r bm rest m wr) (fun _ wr => wr.rangeLeft b r)
  case atStart => exact ⟨_, _, S0.out⟩
  case round =>
    clear S0
    obtain ⟨rest, m, hs⟩ := hrel
    have HS := Hid.mk hs
    clear hs
    go_wp2_with (first | (at_next; refine wp_nextA _ H.out.2.1 HS.out.sub rfl _ rfl HS.out.rg rfl ?_ ?_))
    · intro hd
      subst hd
      have hl := fun ty => HS.out.mp.len Try.underlying128 ty
      have hu := HS.out.mp.up
      have hres : m.length = liveA (abl l) := by
        unfold liveA
        refine nL_is _ _ (Nat.le_refl _) hu (fun a => ?_)
        rw [List.take_length, cL_lvA, HS.out.seen a]
        exact sn_end a
      rw [hres] at hl
      clear hres hu
      go_wp2_with fail
      go_ret
      exact ⟨rfl, HS.out.bel⟩
    · intro x w2 hx hm hrg hlt2 hgr hsz hen
      have P0 : PlS0 L n w b l f r bm rest m x (wr.rangeLeft b r) (w2.alloc (.cells #[.int .i64 x.q, .bool x.sl, .map (some (f x.id))] 97)) := by
        have g2 := World.grownBy_alloc w2 (.cells #[.int .i64 x.q, .bool x.sl, .map (some (f x.id))] 97) (some r)
        have g3 := grown_trans hgr g2
        have hne := HS.out.ne
        have hb := H.out.1.lt
        have hr := HS.out.hr
        have hbr : b ≠ r := by omega
        refine ⟨⟨hrg.same (Below.heap_alloc _ _ b hrg.mp.lt) (Below.heap_alloc _ _ r hrg.lt), ?_⟩, hx, ?_, HS.out.mp.same (g3.block bm HS.out.mp.lt (by simpa using hne.symm)), HS.out.seen, HS.out.bel.grown g3 HS.out.bel.size (fun j hj => by cases hj; exact hr), hr, HS.out.hbm, hne⟩
        · rw [left_same (Below.heap_alloc _ _ b hrg.mp.lt) (Below.heap_alloc _ _ r hrg.lt)]; exact hlt2
        · exact HS.out.at'.same (fun i hi hii => g3.block i hi (by
            simp only [Option.some.injEq, ne_eq]
            rcases hii with rfl | ⟨y, hy, rfl⟩
            · exact hbr
            · have := (H.out.1.pg y hy).lt; omega))
      clear hrg hlt2 hgr hm
      have u2 := (box97 (heap_alloc_new w2 (.cells #[.int .i64 x.q, .bool x.sl, .map (some (f x.id))] 97)))
      have HP := Hid.mk (And.intro P0 u2)
      clear P0 u2
      obtain ⟨u0, u1, u2⟩ := HP.out.2
      rw [hsz] at u0 u1 u2
      go_upto_region 5 with fail
      clear hsz
      generalize w2.alloc (.cells #[.int .i64 x.q, .bool x.sl, .map (some (f x.id))] 97) = w3 at *
      have HP3 := Hid.mk HP.out.1
      clear HP
      have hM := Hid.mk (HP3.out.at'.pg x hx)
      go_upto_region 6 with (first | (at_range; refine wp_range _ rfl _ 95 75 rfl Try.underlying95 hM.out rfl ?_; intro w4 r4 b4 z4))
      go_frame
      have S1 : PiS L n w b l f r bm rest x w3.heap.size x.ps m (wr.rangeLeft b r) w4 := by
        have p := HP3.out
        refine ⟨p.rg.1.same (b4.block b p.rg.1.mp.lt) (b4.block r p.rg.1.lt), r4, List.Sublist.refl _, p.at'.call b4, p.mp.call b4, fun k => (p.seen k).trans (si_start k).symm, below3 p.bel b4, p.hr, p.bel.size, p.hbm, p.ne, ?_, ?_, ?_⟩
        · have := p.mp.lt; omega
        · have := p.rg.1.lt; omega
        · rw [left_same (b4.block b p.rg.1.mp.lt) (b4.block r p.rg.1.lt)]; exact p.rg.2
      replace S1 := Hid.mk S1
      clear r4 b4 z4 u0 u1 u2 hM
      generalize w3.heap.size = r2 at *
      go_loopw [7] (fun _ wq => ∃ rest2 m2, PiS L n w b l f r bm rest x r2 rest2 m2 (wr.rangeLeft b r) wq) (fun _ wq => wq.rangeLeft (f x.id) r2)
      case atStart => exact ⟨_, _, S1.out⟩
      case round =>
        clear S1
        obtain ⟨rest2, m2, hs2⟩ := hrel
        have HS2 := Hid.mk hs2
        clear hs2
        go_wp2_with (first | (at_next; refine wp_nextL _ rfl _ rfl HS2.out.rg2 (fun p hp => (H.out.2.1.pos x hx p hp).1) rfl ?_ ?_))
        · intro hd
          subst hd
          go_wp2_with fail
          exact ⟨⟨_, _, HS2.out.rg, (mdel_sub _ _).trans HS.out.sub, HS2.out.at', HS2.out.mp, fun k => (HS2.out.seen k).trans (si_end H.out.2.1.inv.up hx k), HS2.out.bel, HS2.out.hr, HS2.out.hbm, HS2.out.ne⟩, HS2.out.left⟩
        · intro k2 p2 w5 hm2 hk2 hrg2 hlt5 hgr5 hsz5 hen5
          have g2 := World.grownBy_alloc w5 (.cells #[.int .i64 p2, .string (L p2)] 75) (some r2)
          have g3 := grown_trans hgr5 g2
          have Q : PiS0 L n w b l f r bm rest x r2 rest2 m2 wr (wr.rangeLeft (f x.id) r2) k2 (w5.alloc (.cells #[.int .i64 p2, .string (L p2)] 75)) := by
            have s := HS2.out
            have hbl := H.out.1.lt
            have hxl := (H.out.1.pg x hx).lt
            have o := s.hr
            have o2 := s.hr2
            have eb : (w5.alloc (.cells #[.int .i64 p2, .string (L p2)] 75)).heap[b]? = wr.heap[b]? := g3.block b s.rg.mp.lt (by simp; omega)
            have er : (w5.alloc (.cells #[.int .i64 p2, .string (L p2)] 75)).heap[r]? = wr.heap[r]? := g3.block r s.rg.lt (by simpa using s.ner.symm)
            refine ⟨s.rg.same eb er, hrg2.same (Below.heap_alloc _ _ _ hrg2.mp.lt) (Below.heap_alloc _ _ _ hrg2.lt), ?_, (mdel_sub _ _).trans s.sub2, s.at'.same (fun i hi hii => g3.block i hi ?_), s.mp.same (g3.block bm s.mp.lt (by simpa using s.ne2.symm)), s.bel.grown g3 s.bel.size (fun j hj => by cases hj; exact o2), ?_⟩
            · rw [left_same (Below.heap_alloc _ _ _ hrg2.mp.lt) (Below.heap_alloc _ _ _ hrg2.lt)]; exact hlt5
            · simp only [Option.some.injEq, ne_eq]
              rcases hii with rfl | ⟨y, hy, rfl⟩
              · omega
              · have := (H.out.1.pg y hy).lt; omega
            · exact left_same eb er
          have u2 := box75 (heap_alloc_new w5 (.cells #[.int .i64 p2, .string (L p2)] 75))
          have hml : m2.length < 1000000 := seen_len H.out.2.1 H.out.2.2 HS2.out.mp.up (fun k hk => by
            rcases (HS2.out.seen k).1 hk with ⟨y, hy, _, q⟩ | ⟨p, hp, _, q⟩
            · exact ⟨y, hy, q⟩
            · exact ⟨x, hx, p, hp, q⟩)
          have hk64 : K64 p2 := by
            have := H.out.2.1.pos x hx _ (HS2.out.sub2.subset hm2)
            have := H.out.2.2
            simp only at *
            exact k64 (by omega) (by omega)
          have HQ := Hid.mk (And.intro Q (And.intro u2 (And.intro hml hm2)))
          clear Q u2 hml hgr5 g2 g3 hrg2 hlt5 hm2
          obtain ⟨v0, v1⟩ := HQ.out.2.1
          rw [hsz5] at v0 v1
          go_upto_region 8 with fail
          clear hsz5
          generalize w5.alloc (.cells #[.int .i64 p2, .string (L p2)] 75) = w6 at *
          go_wp2_with (first | (at_mapUpdate; refine wp_put _ rfl _ _ _ 128 129 rfl Try.underlying128 HQ.out.1.mp HQ.out.2.2.1 p2 0 _ rfl rfl rfl hk64 rfl ?_; intro w7 m7 t7; try go_frame))
          have q := HQ.out.1
          have s := HS2.out
          have hbl := H.out.1.lt
          have hxl := (H.out.1.pg x hx).lt
          have eb := t7.grown.block b q.rg.mp.lt (by have := s.hbm; simp; omega)
          have er := t7.grown.block r q.rg.lt (by simpa using s.ne)
          have ef := t7.grown.block (f x.id) q.rg2.mp.lt (by have := s.hbm; simp; omega)
          have er2 := t7.grown.block r2 q.rg2.lt (by simpa using s.ne2)
          refine ⟨⟨_, _, q.rg.same eb er, q.rg2.same ef er2, q.sub2, q.at'.same (fun i hi hii => t7.grown.block i hi ?_), m7, fun k => ?_, q.bel.grown t7.grown q.bel.size (fun j hj => by cases hj; exact s.hbm), s.hr, s.hr2, s.hbm, s.ne, s.ne2, s.ner, ?_⟩, ?_⟩
          · have := s.hbm
            simp only [Option.some.injEq, ne_eq]
            rcases hii with rfl | ⟨y, hy, rfl⟩
            · omega
            · have := (H.out.1.pg y hy).lt; omega
          · rw [put_some, s.seen k, si_step (H.out.2.1.inv.ups x hx) s.sub2 HQ.out.2.2.2]
          · rw [left_same eb er, q.left]; exact s.left
          · rw [left_same ef er2]; exact q.lt2
def kA (rest : Pl) : List Asp → Nat
  | [] => 0
  | x :: r => (if (mget rest x.id).isSome then 0 else x.ps.length) + kA rest r
theorem kA_start (l : List Asp) (rest : Pl) (h : ∀ x ∈ l, (mget rest x.id).isSome = true) : kA rest l = 0 := by
  induction l with
  | nil => rfl
  | cons x r ih => simp only [kA]; rw [if_pos (h x (by simp)), ih (fun y hy => h y (by simp [hy]))]
theorem kA_none {l : List Asp} {rest : Pl} {k : Int} (h : ∀ x ∈ l, x.id ≠ k) : kA (mdel rest k) l = kA rest l := by
  induction l with
  | nil => rfl
  | cons x r ih => simp only [kA]; rw [mget_del_ne (h x (by simp)), ih (fun y hy => h y (by simp [hy]))]
theorem kA_step {l : List Asp} (hu : UpA l) {rest : Pl} {x : Asp} (hx : x ∈ l) (hr : (mget rest x.id).isSome = true) : kA (mdel rest x.id) l = kA rest l + x.ps.length := by
  induction l with
  | nil => cases hx
  | cons y r ih =>
    have hy := upA_ne hu
    simp only [kA]
    rcases List.mem_cons.1 hx with rfl | hx
    · rw [mget_del_same, hr, kA_none hy]
      simp; omega
    · rw [mget_del_ne (fun e => hy x hx e.symm), ih (List.pairwise_cons.1 hu).2 hx]
      omega
theorem kA_end (l : List Asp) : kA [] l = pagesN l := by
  induction l with
  | nil => rfl
  | cons x r ih => simp only [kA, pagesN, ih]; rfl
theorem kA_le (l : List Asp) (rest : Pl) : kA rest l ≤ pagesN l := by
  induction l with
  | nil => simp [kA]
  | cons x r ih => simp only [kA, pagesN]; split <;> omega
structure KyS (L : Int → ByteArray) (w : World) (b : Nat) (l : List Asp) (f : Int → Nat) (pl ks rr rp : Int) (gr r : Nat) (rest : Pl) (wr : World) : Prop where
  rg : Rg elS wr b r (spm f l) rest
  sub : rest.Sublist (spm f l)
  at' : SpsAt L wr b l f
  rm : wr.heap[gr]? = some (.cells #[.int .i64 pl, .int .i64 ks, .int .i64 rr, .int .i64 rp] 24 (0, 0))
  bel : Below w.heap.size w wr
  hr : w.heap.size < r
  hgr : gr = w.heap.size
set_option maxRecDepth 20000 in
set_option maxHeartbeats 2000000 in
theorem fits_any {L n w b l f} (h : SpsAt L w b l f) (hi : InvM n l) (hn : n ≤ 2000) (pl ks rr rp : Int) : Calls Try.prog 42 #[.map (some b), .agg #[.int .i64 pl, .int .i64 ks, .int .i64 rr, .int .i64 rp]] w fun e w' => e = .returned (.bool (fitB pl ks (abl l))) ∧ Below w.heap.size w w' := by
  have hlt := h.lt
  have hmx : pagesN l ≤ 15360 := by have h1 := pagesN_le (fun x hx => hi.inv.plen hx) (l := l); have := hi.inv.len; simp only at this; omega
  have hlv0 : liveA (abl l) ≤ pagesN l := by rw [← lvA_len]; exact nL_le _ _
  have hk := fun rest => kA_le l rest
  have h1 := h.alloc (.cells #[.int .i64 pl, .int .i64 ks, .int .i64 rr, .int .i64 rp] 24)
  have H := Hid.mk (And.intro h (And.intro hi hn))
  replace h1 := Hid.mk h1
  have hst : Hid (kA (spm f l) l = 0) := kA_start _ _ (fun x hx => by
    rw [spm_get, Option.isSome_map, Option.isSome_map]
    unfold gA
    rw [List.find?_isSome]
    exact ⟨x, hx, by simp⟩)
  have hen0 := kA_end l
  obtain ⟨T, hT⟩ : ∃ T, T = pagesN l := ⟨_, rfl⟩
  obtain ⟨V, hV⟩ : ∃ V, V = liveA (abl l) := ⟨_, rfl⟩
  have hB : fitB pl ks (abl l) = (decide ((V : Int) ≤ pl) && decide ((T : Int) ≤ ks)) := by rw [hT, hV]; rfl
  rw [← hT] at hmx hlv0 hk hen0
  rw [← hV] at hlv0
  have hen := Hid.mk hen0
  have hlv := hlv0
  have HV := Hid.mk hV
  clear hen0 hT h hi hn hlv0 hV
  generalize fitB pl ks (abl l) = B at hB ⊢
  replace hB := Hid.mk hB
  replace hk : Hid (∀ rest, kA rest l ≤ T) := hk
  go_enter Try.func42, Try.ntmps42
  go_upto_region 3 with (first | (at_range; refine wp_range _ rfl _ 70 97 rfl Try.underlying70 h1.out.mp rfl ?_; intro w1 r1 b1 z1))
  go_frame
  have S0 : KyS L w b l f pl ks rr rp w.heap.size (w.alloc (.cells #[.int .i64 pl, .int .i64 ks, .int .i64 rr, .int .i64 rp] 24)).heap.size (spm f l) w1 := by
    refine ⟨r1, List.Sublist.refl _, h1.out.call b1, (b1.block _ (by rw [size_alloc]; omega)).trans (heap_alloc_new w _), below3 (below_box w _) b1, by rw [size_alloc]; omega, rfl⟩
  replace S0 := Hid.mk S0
  clear r1 b1 z1 h1
  generalize (w.alloc (.cells #[.int .i64 pl, .int .i64 ks, .int .i64 rr, .int .i64 rp] 24)).heap.size = r at *
  generalize hgr : w.heap.size = gr at *
  replace hgr := Hid.mk hgr
  go_loopw [5] (fun a wr => ∃ rest, a = .int .i64 (kA rest l : Int) ∧ KyS L w b l f pl ks rr rp gr r rest wr) (fun _ wr => wr.rangeLeft b r)
  case atStart => exact ⟨_, by rw [hst.out]; rfl, S0.out⟩
  case round =>
    clear S0
    obtain ⟨rest, rfl, hs⟩ := hrel
    have HS := Hid.mk hs
    clear hs
    go_wp2_with (first | (at_next; refine wp_nextA _ H.out.2.1 HS.out.sub rfl _ rfl HS.out.rg rfl ?_ ?_))
    · intro hd
      subst hd
      rw [hen.out]
      have hrm := HS.out.rm
      have hgl : gr < wr.heap.size := (Array.getElem?_eq_some_iff.1 hrm).1
      have c0 : wr.cell? ⟨gr, 0, none⟩ = some (.int .i64 pl) := by rw [cell_of_row wr gr _ _ 24 _ hrm]; rfl
      have c1 : wr.cell? ⟨gr, 1, none⟩ = some (.int .i64 ks) := by rw [cell_of_row wr gr _ _ 24 _ hrm]; rfl
      clear hrm
      by_cases q1 : ks < (T : Int)
      · have d1 : decide (ks < (T : Int)) = true := by simpa using q1
        have d2 : decide ((T : Int) ≤ ks) = false := by simp; omega
        have e := hB.out
        rw [d2, Bool.and_false] at e
        subst e
        go_wp2_with fail
        go_ret
        exact ⟨rfl, HS.out.bel⟩
      · have d1 : decide (ks < (T : Int)) = false := by simpa using q1
        have d2 : decide ((T : Int) ≤ ks) = true := by simp; omega
        have e := hB.out
        rw [d2, Bool.and_true] at e
        clear q1 hB
        by_cases q2 : (T : Int) ≤ pl
        · have d3 : decide ((T : Int) ≤ pl) = true := by simpa using q2
          have d4 : decide ((V : Int) ≤ pl) = true := by simp; omega
          rw [d4] at e
          subst e
          clear q2
          go_upto_region 8 with fail
          go_region
          go_wp2_with fail
          go_ret
          exact ⟨rfl, HS.out.bel.drew⟩
        · have d3 : decide ((T : Int) ≤ pl) = false := by simpa using q2
          clear q2
          have cp := fun W (B : Below wr.heap.size wr W) => places_any (HS.out.at'.call B) H.out.2.1 H.out.2.2
          rw [← HV.out] at cp
          have CP := Hid.mk cp
          clear cp
          subst e
          have b0 := Below.refl wr.heap.size wr
          go_upto_region 8 with fail
          go_region_held3 (fun w' => Below wr.heap.size wr w' ∧ w'.cell? ⟨gr, 0, none⟩ = some (.int .i64 pl))
            (first | (exact ⟨b0.drew, c0⟩) | (have q := below3 (And.left (by assumption)) (by assumption); exact ⟨q, (q.cell (p := ⟨gr, 0, none⟩) hgl).trans c0⟩) | fail)
            (first | (go_at_call 62; refine (CP.out _ (And.left (by assumption))).mono ?_; rintro e w3 ⟨rfl, b3⟩))
          have b4 : Below wr.heap.size wr w3 := below3 b0.drew b3
          go_wp2_with fail
          go_ret
          exact ⟨rfl, below3 HS.out.bel b4⟩
    · intro x w2 hx hm hrg hlt2 hgr2 hsz hen2
      have g2 := World.grownBy_alloc w2 (.cells #[.int .i64 x.q, .bool x.sl, .map (some (f x.id))] 97) (some r)
      have g3 := grown_trans hgr2 g2
      have s := HS.out
      have hr := s.hr
      have hgrr := hgr.out
      have K2 : KyS L w b l f pl ks rr rp gr r (mdel rest x.id) (w2.alloc (.cells #[.int .i64 x.q, .bool x.sl, .map (some (f x.id))] 97)) := by
        refine ⟨hrg.same (Below.heap_alloc _ _ b hrg.mp.lt) (Below.heap_alloc _ _ r hrg.lt), (mdel_sub _ _).trans s.sub, s.at'.same (fun i hi hii => g3.block i hi ?_), (g3.block gr (Array.getElem?_eq_some_iff.1 s.rm).1 (by simp; omega)).trans s.rm, s.bel.grown g3 s.bel.size (fun j hj => by cases hj; omega), hr, s.hgr⟩
        simp only [Option.some.injEq, ne_eq]
        rcases hii with rfl | ⟨y, hy, rfl⟩
        · omega
        · have := (H.out.1.pg y hy).lt; omega
      have hleft : (w2.alloc (.cells #[.int .i64 x.q, .bool x.sl, .map (some (f x.id))] 97)).rangeLeft b r < wr.rangeLeft b r := by
        rw [left_same (Below.heap_alloc _ _ b hrg.mp.lt) (Below.heap_alloc _ _ r hrg.lt)]; exact hlt2
      have u2 := (box97 (heap_alloc_new w2 (.cells #[.int .i64 x.q, .bool x.sl, .map (some (f x.id))] 97)))
      have ln := fun ty => (K2.at'.pg x hx).len Try.underlying95 ty
      have hxr : (mget rest x.id).isSome = true := by
        rw [mem_mget (up_sub s.rg.mp.up s.sub) hm]; rfl
      have hst2 : kA (mdel rest x.id) l = kA rest l + x.ps.length := kA_step H.out.2.1.inv.up hx hxr
      have hle := hk.out (mdel rest x.id)
      have hw : IntKind.i64.wrap ((kA rest l : Int) + (x.ps.length : Int)) = (kA (mdel rest x.id) l : Int) := by rw [wrap_id (by omega) (by omega), hst2]; omega
      generalize (kA rest l : Int) = n1 at *
      generalize (x.ps : Pl).length = n2 at *
      have HG := Hid.mk (And.intro K2 hleft)
      clear K2 hleft g2 g3 hrg hgr2 hlt2 hst2 hle hm s hr hgrr
      obtain ⟨u0, u1, u2⟩ := u2
      rw [hsz] at u0 u1 u2
      go_upto_region 5 with fail
      clear hsz
      generalize w2.alloc (.cells #[.int .i64 x.q, .bool x.sl, .map (some (f x.id))] 97) = w3 at *
      go_wp2_with fail
      exact ⟨⟨_, rfl, HG.out.1⟩, HG.out.2⟩
end Go.Proofs.Ytacgemibaojbaaa
