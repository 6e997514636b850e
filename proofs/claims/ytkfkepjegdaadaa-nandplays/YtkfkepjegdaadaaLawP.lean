/-
  The walk of the law NandPlays. No condition.
-/
import Derived.Test.YtkfkepjegdaadaaPl3
import Derived.Test.YtkfkepjegdaadaaMcut
namespace Go.Proofs.Ytkfkepjegdaadaa
open Go Go.RowKit

/-- faults, as an argument lies in memory: the first eight of each -/
structure FltO (w : World) (ca fa ba : Option Addr) (n1 c1 n2 c2 n3 c3 : Nat) (cl : List (Int × Int × Int)) (fl bl : List Int) : Prop where
  cu : CutsAt w (fun _ => False) ca cl
  fi : IntsAt w (fun _ => False) fa fl
  bd : IntsAt w (fun _ => False) ba bl
  l1 : cl.length = min n1 8
  l2 : fl.length = min n2 8
  l3 : bl.length = min n3 8
  k1 : n1 ≤ c1 ∧ n1 ≤ 9223372036854775807
  k2 : n2 ≤ c2 ∧ n2 ≤ 9223372036854775807
  k3 : n3 ≤ c3 ∧ n3 ≤ 9223372036854775807
  wc : ∀ x ∈ cl, (Lit.int .i64 x.1).wf = true ∧ 0 ≤ x.2.2 ∧ x.2.2 < 256
  wl : ∀ x ∈ fl, (Lit.int .i64 x).wf = true
/-- behind New -/
def Pn (w : World) (b : Nat) (C : Ch) (L : Ly) (wx : World) : Prop := Chip wx L C ∧ Below w.heap.size w wx ∧ ∀ i, L.own b i → w.heap.size < i
theorem Pn.call {w : World} {b C L} {wx w2 : World} (h : Pn w b C L wx) (k : Below wx.heap.size wx w2) : Pn w b C L w2 := ⟨h.1.call k, below3 h.2.1 k, h.2.2⟩
theorem FltO.cuts {w : World} {ca fa ba : Option Addr} {n1 c1 n2 c2 n3 c3 : Nat} {cl fl bl} (h : FltO w ca fa ba n1 c1 n2 c2 n3 c3 cl fl bl) {W : World} (hb : Below w.heap.size w W) (S : Nat → Prop) (hS : ∀ i, S i → w.heap.size < i) : CutsAt W S ca cl :=
  (h.cu.kept (Kp.ofBelow hb)).other (fun i hi _ => by
    obtain ⟨g, o, ha, hg, _⟩ := h.cu i hi
    exact ⟨g, o, ha, fun ho => by have := hS g ho; omega⟩)
theorem FltO.ints {w : World} {ca fa ba : Option Addr} {n1 c1 n2 c2 n3 c3 : Nat} {cl fl bl} (h : FltO w ca fa ba n1 c1 n2 c2 n3 c3 cl fl bl) {W : World} (hb : Below w.heap.size w W) (S : Nat → Prop) (hS : ∀ i, S i → w.heap.size < i) : IntsAt W S fa fl :=
  (h.fi.kept (Kp.ofBelow hb)).other (fun i hi _ => by
    obtain ⟨g, o, ha, hg, _⟩ := h.fi i hi
    exact ⟨g, o, ha, fun ho => by have := hS g ho; omega⟩)
theorem cut_of {w : World} {ca fa ba : Option Addr} {n1 c1 n2 c2 n3 c3 : Nat} {cl fl bl} (h : FltO w ca fa ba n1 c1 n2 c2 n3 c3 cl fl bl) (W : World) : Calls Try.prog 10 #[.agg #[.slice ca n1 c1, .slice fa n2 c2, .slice ba n3 c3]] W fun e w' => e = .returned (.agg #[.slice ca cl.length c1, .slice fa fl.length c2, .slice ba bl.length c3]) ∧ Below W.heap.size W w' :=
  cutf_any ca fa ba n1 c1 n2 c2 n3 c3 cl.length fl.length bl.length h.l1 h.l2 h.l3 h.k1 h.k2 h.k3 W
theorem new_of {w : World} {ca fa ba : Option Addr} {n1 c1 n2 c2 n3 c3 : Nat} {cl fl bl} (h : FltO w ca fa ba n1 c1 n2 c2 n3 c3 cl fl bl) (b p z : Nat) (hg : 8 ≤ b ∧ b ≤ 32 ∧ 4 ≤ p ∧ p ≤ 16 ∧ 64 ≤ z ∧ z ≤ 256) (W : World) (hb : Below w.heap.size w W) :
    Calls Try.prog 9 #[.agg #[.int .i64 b, .int .i64 p, .int .i64 z], .agg #[.slice ca cl.length c1, .slice fa fl.length c2, .slice ba bl.length c3]] W fun e w' => ∃ L : Ly, e = .returned (.tuple #[.pointer (some ⟨L.a, 0, none⟩), .int .i64 0]) ∧ Pn w b (begC b p z cl fl bl) L w' ∧ Below W.heap.size W w' := by
  have h1 := h.l1
  have h2 := h.l2
  have h3 := h.l3
  refine (new_any b p z hg ca fa ba cl fl bl c1 c2 c3 W (h.cu.kept (Kp.ofBelow hb)) (h.fi.kept (Kp.ofBelow hb)) (h.bd.kept (Kp.ofBelow hb)) (by omega) (by omega) (by omega) h.wc h.wl).mono ?_
  rintro e w' ⟨L, rfl, hc, bb, ho⟩
  exact ⟨L, rfl, ⟨hc, below3 hb bb, fun i hi => by have := ho i hi; have := hb.size; omega⟩, bb⟩
theorem beg_of {w : World} {ca fa ba : Option Addr} {n1 c1 n2 c2 n3 c3 : Nat} {cl fl bl} (h : FltO w ca fa ba n1 c1 n2 c2 n3 c3 cl fl bl) (b p z : Nat) (hg : 8 ≤ b ∧ b ≤ 32 ∧ 4 ≤ p ∧ p ≤ 16 ∧ 64 ≤ z ∧ z ≤ 256) (L : Ly) (W : World) (hW : Pn w b (begC b p z cl fl bl) L W) :
    Calls Try.prog 12 #[.agg #[.int .i64 b, .int .i64 p, .int .i64 z], .agg #[.slice ca cl.length c1, .slice fa fl.length c2, .slice ba bl.length c3]] W fun e w' => ∃ X, e = .returned (.agg (mdA X (begC b p z cl fl bl))) ∧ Pq w L X (begC b p z cl fl bl) w' ∧ Below W.heap.size W w' := by
  have h1 := h.l1
  have h2 := h.l2
  have h3 := h.l3
  refine (begun_any (L.own b) b p z hg ca fa ba cl fl bl c1 c2 c3 W (fun i hi => hW.1.lt hi) (h.cuts hW.2.1 _ hW.2.2) (h.ints hW.2.1 _ hW.2.2) (h.bd.kept (Kp.ofBelow hW.2.1)) (by omega) (by omega) (by omega) (fun x hx => (h.wc x hx).2)).mono ?_
  rintro e w' ⟨X, rfl, hm, bb, x1, x2, x3, x4⟩
  exact ⟨X, rfl, ⟨below3 hW.2.1 bb, hW.1.call bb, hm, fun i hi => Nat.le_of_lt (hW.2.2 i hi), old_of (by rw [x1, x2]; exact h.cu) (by rw [x3, x4]; exact h.fi)⟩, bb⟩
set_option maxRecDepth 100000 in
set_option maxHeartbeats 4000000 in
theorem nandPlays_any (B P Z : Int) (ca fa ba : Option Addr) (n1 c1 n2 c2 n3 c3 : Nat) (cl : List (Int × Int × Int)) (fl bl : List Int) (a : Option Addr) (len cap : Nat) (f : Nat → Int × Int × Int × Int) (w : World) (hF : FltO w ca fa ba n1 c1 n2 c2 n3 c3 cl fl bl) (hx : ActsF w a len f) :
    Calls Try.prog 3 #[.agg #[.int .i64 B, .int .i64 P, .int .i64 Z], .agg #[.slice ca n1 c1, .slice fa n2 c2, .slice ba n3 c3], .slice a len cap] w fun e w' => e = .returned (.bool true) ∧ Below w.heap.size w w' := by
  have HF := Hid.mk hF
  have HX := Hid.mk hx
  clear hF hx
  go_enter Try.func3, Try.ntmps3
  go_upto_region 2 with (go_at_call 8; refine (geo_any _ _ _ _).mono ?_; rintro e w1 ⟨b, p, z, rfl, hg0, b1⟩)
  have hg : 8 ≤ b ∧ b ≤ 32 ∧ 4 ≤ p ∧ p ≤ 16 ∧ 64 ≤ z ∧ z ≤ 256 := by omega
  have hS0 : S5 b p z ca fa ba n1 n2 n3 c1 c2 c3 w1.heap.size (w.heap.size + 1) (w1.alloc (.cells #[.int .i64 b, .int .i64 p, .int .i64 z] 23)) := by
    have h2 := heap_alloc_new (w.alloc (.cells #[.int .i64 B, .int .i64 P, .int .i64 Z] 23)) (.cells #[.slice ca n1 c1, .slice fa n2 c2, .slice ba n3 c3] 27)
    rw [size_alloc] at h2
    have h3 := (b1.block _ (by rw [size_alloc, size_alloc]; omega)).trans h2
    exact ⟨heap_alloc_new w1 _, (Below.heap_alloc _ _ _ (Array.getElem?_eq_some_iff.1 h3).1).trans h3⟩
  have hb0 : Below w.heap.size w (w1.alloc (.cells #[.int .i64 b, .int .i64 p, .int .i64 z] 23)) := by
    have h1 := below3 (below_two w (.cells #[.int .i64 B, .int .i64 P, .int .i64 Z] 23) (.cells #[.slice ca n1 c1, .slice fa n2 c2, .slice ba n3 c3] 27)) b1
    exact h1.alloc h1.size _
  generalize w1.alloc (.cells #[.int .i64 b, .int .i64 p, .int .i64 z] 23) = W at *
  generalize w1.heap.size = G at *
  clear b1
  refine reg2 (fun _ _ _ _ _ h => h) b p z ca fa ba n1 n2 n3 c1 c2 c3 cl.length fl.length bl.length G (w.heap.size + 1) (fun W' => Below w.heap.size w W') (fun L W' => Pn w b (begC b p z cl fl bl) L W') (fun _ _ h k => below3 h k) (cut_of HF.out) (new_of HF.out b p z hg) (fun L wx hS2 hP2 => ?_) hS0 hb0
  clear hS0 hb0
  have HS2 := Hid.mk (And.intro hS2 hP2)
  clear hS2 hP2
  go_upto_region 5 with (go_at_call 11; refine (awake_any _).mono ?_; rintro e w3 ⟨rfl, b3⟩)
  have hS3 := HS2.out.1.call b3
  have hP3 := HS2.out.2.call b3
  clear HS2 b3
  refine reg5 (fun _ _ _ _ _ h => h) (begC b p z cl fl bl) b p z ca fa ba n1 n2 n3 c1 c2 c3 cl.length fl.length bl.length G (w.heap.size + 1) (fun W' => Pn w b (begC b p z cl fl bl) L W') (fun X W' => Pq w L X (begC b p z cl fl bl) W') (fun T X W' => Pq w L X (begC b p z cl fl bl) W' ∧ MdAt W' T X (begC b p z cl fl bl) ∧ w.heap.size ≤ T ∧ ¬ L.own b T) (fun _ _ h k => h.call k) (fun _ _ _ h k => h.call k) (fun T => w.heap.size ≤ T ∧ ¬ L.own b T) ?hPw ?hTn (cut_of HF.out) (beg_of HF.out b p z hg L) (fun T X0 wx hE => ?_) hS3 hP3
  case hPw =>
    intro T X W' h hz _ _ hT
    have P1 := putMd hz X (begC b p z cl fl bl)
    obtain ⟨q0, q1, q2, q3, q4, q5, q6, q7, q8, q9, q10, q11, qf⟩ := z39_cells hz
    exact ⟨h.put P1 hT.1 hT.2 hz ⟨_, q0⟩ ⟨_, _, _, q3⟩, P1.here, hT.1, hT.2⟩
  case hTn =>
    intro W' h
    rcases h with h | ⟨X, h⟩
    · exact ⟨h.2.1.size, fun x => by have := h.1.lt x; omega⟩
    · exact ⟨h.below.size, fun x => by have := h.chip.lt x; omega⟩
  clear hS3 hP3
  obtain ⟨C0, hC0⟩ : ∃ C0, C0 = begC b p z cl fl bl := ⟨_, rfl⟩
  have hB0 : C0.B = b ∧ C0.did = 0 ∧ ∀ i, C0.worn i = 0 := by rw [hC0]; exact ⟨rfl, rfl, fun _ => rfl⟩
  rw [← hC0] at hE ⊢
  clear hC0
  have hT1 := hE.2.2.1
  have hT2 := hE.2.2.2
  have HE := Hid.mk (And.intro hE.1 (And.intro hE.2.1 hB0))
  have HT2 := Hid.mk hT2
  clear hE hB0 hT2
  go_upto_region 7 with fail
  go_loopw [11] (fun i wr => ∃ k : Nat, ∃ X C, k ≤ 60 ∧ k ≤ len ∧ i = .int .i64 k ∧ Pq w L X C wr ∧ MdAt wr T X C ∧ C.B = b ∧ C.did ≤ k ∧ ∀ i, C.worn i ≤ k) (fun i _ => 60 - (intOf i).toNat)
  case atStart => exact ⟨0, X0, C0, by omega, by omega, rfl, HE.out.1, HE.out.2.1, HE.out.2.2.1, by rw [HE.out.2.2.2.1]; decide, fun i => by rw [HE.out.2.2.2.2]; decide⟩
  case round =>
    obtain ⟨k, X, C, hk60, hkl, rfl, hP, hM, hCB, hCd, hCw⟩ := hrel
    clear HE
    by_cases hkk : k < len ∧ k < 60
    · obtain ⟨g, o, rfl, hgl, e0, e1, e2, e3, e4, e5⟩ := HX.out k hkk.1
      have hk1 : (k : Int) < len := by omega
      have hk2 : (k : Int) < 60 := by omega
      obtain ⟨⟨K, bb, pp, ff⟩, hfk⟩ : ∃ q, q = f k := ⟨_, rfl⟩
      rw [← hfk] at e0 e1 e2 e3 e4 e5
      clear hfk
      simp only at e0 e1 e2 e3 e4 e5
      have ec : ∀ j, wr.cell? ⟨g, j, none⟩ = w.cell? ⟨g, j, none⟩ := fun j => World.cell?_of_block (w := w) (a := ⟨g, j, none⟩) (hP.below.block g hgl)
      have hS9 : S9 T g o k X C K bb pp ff wr := ⟨hM, (ec _).trans e0, (ec _).trans e1, (ec _).trans e2, (ec _).trans e3, Nat.lt_of_lt_of_le hgl hP.below.size⟩
      have hTo : ¬ L.own C.B T := by rw [hCB]; exact HT2.out
      have hgo : ¬ L.own C.B g := fun x => by have := hP.new g x; omega
      have hdo : ∀ W', Pq w L X C W' → Calls Try.prog 13 #[.agg (mdA X C), .pointer (some ⟨L.a, 0, none⟩), .agg #[.int .i64 K, .int .i64 bb, .int .i64 pp, .int .u8 ff]] W' fun e w' => ∃ X' C', e = .returned (.tuple #[.agg (mdA X' C'), .bool true]) ∧ Pq w L X' C' w' ∧ Kp (L.own C.B) W' w' ∧ Step C C' := fun W' hW => by
        refine (do_any hW.chip hW.md K bb pp ff ⟨e4, e5⟩ (by omega) (fun n => by have := hCw n; omega)).mono ?_
        rintro e w' ⟨X', C', rfl, hc, hm, hkp, hxf, hst⟩
        exact ⟨X', C', rfl, hW.done hc hm hkp hxf hst, hkp, hst⟩
      have HD := Hid.mk (And.intro hdo (And.intro hS9 (And.intro hP (And.intro hCB (And.intro hCd hCw)))))
      clear e0 e1 e2 e3 ec hS9 hdo hP hM hCB hCd hCw
      have hlen : (k : Int) ≤ 60 := by omega
      go_upto_region 9 with fail
      refine reg9 (fun _ _ _ _ _ h => h) w L X C T g o k len cap K bb pp ff hk1 ⟨hT1, hTo⟩ ⟨hgl, hgo⟩ HD.out.1 (fun N X' C' wx hp hN hT' hst hNT => ?_) HD.out.2.1 HD.out.2.2.1
      have hTo' : ¬ L.own C'.B T := by rw [hst.B]; exact hTo
      obtain ⟨p0, p1, p2, p3, p4, p5, p6, p7, p8, p9, p10, p11⟩ := hN.cells
      obtain ⟨q0, q1, q2, q3, q4, q5, q6, q7, q8, q9, q10, q11⟩ := hT'.cells
      have qf := hT'.frozen
      have P1 := hT'.put X' C'
      have hp9 := hp.put P1 hT1 hTo' hT' ⟨_, q0⟩ ⟨_, _, _, q3⟩
      have HR := Hid.mk (And.intro hp9 (And.intro P1.here hst))
      clear P1 hp9 hst hp
      go_upto_region 11 with fail
      have eW : ((((((((((((wx.setCell ⟨T, 0, none⟩ (.int .i64 C'.B)).setCell ⟨T, 1, none⟩ (.int .i64 C'.P)).setCell ⟨T, 2, none⟩ (.int .i64 C'.Z)).setCell ⟨T, 3, none⟩ (.slice X'.ca X'.cl.length X'.cc)).setCell ⟨T, 4, none⟩ (.slice X'.fa X'.fl.length X'.fc)).setCell ⟨T, 5, none⟩ (.slice X'.ba X'.bn X'.bc)).setCell ⟨T, 6, none⟩ (.slice (some ⟨X'.gp, 0, none⟩) (C'.B * C'.P) X'.cp)).setCell ⟨T, 7, none⟩ (.slice (some ⟨X'.gw, 0, none⟩) C'.B X'.cw)).setCell ⟨T, 8, none⟩ (.slice (some ⟨X'.gd, 0, none⟩) C'.B X'.cd)).setCell ⟨T, 9, none⟩ (.slice (some ⟨X'.gm, 0, none⟩) C'.B X'.cm)).setCell ⟨T, 10, none⟩ (.int .i64 C'.did)).setCell ⟨T, 11, none⟩ (.bool C'.off)) = setMd wx T X' C' := rfl
      rw [eW]
      clear eW p0 p1 p2 p3 p4 p5 p6 p7 p8 p9 p10 p11 q0 q1 q2 q3 q4 q5 q6 q7 q8 q9 q10 q11 qf hN hT'
      generalize setMd wx T X' C' = W9 at *
      have hM9 : MdAt W9 T X' C' := HR.out.2.1
      obtain ⟨p0, p1, p2, p3, p4, p5, p6, p7, p8, p9, p10, p11⟩ := hM9.cells
      clear hM9
      go_quiet (first
        | (go_at_call 14; refine Calls.quiet_of_same (off_any (HR.out.1.chip.drewN _)))
        | (go_at_call 15; refine Calls.quiet_of_same (did_any (HR.out.1.chip.drewN _))))
      go_wp2_with fail
      have hd := HR.out.2.2.did
      have hd2 := HD.out.2.2.2.2.1
      have hw2 := HD.out.2.2.2.2.2
      exact ⟨⟨k + 1, X', C', by omega, by omega, by go_num, HR.out.1.call ⟨rfl, rfl, rfl, Nat.le_refl _, fun _ _ => rfl⟩, HR.out.2.1, HR.out.2.2.B.trans HD.out.2.2.2.1, by omega, fun i => by have := HR.out.2.2.worn i; have := hw2 i; omega⟩, by simp [intOf]; omega⟩
    · have HP := Hid.mk hP
      obtain ⟨p0, p1, p2, p3, p4, p5, p6, p7, p8, p9, p10, p11⟩ := hM.cells
      have HN := Hid.mk hP.new
      have hsame := same_any hP.chip hP.md
      unfold mdA at hsame
      have HSm := Hid.mk hsame
      clear hP hsame hCB hCd hCw
      by_cases hkl2 : k < len
      · have hk1 : (k : Int) < len := by omega
        have hk2 : ¬ (k : Int) < 60 := by omega
        go_wp2_with (go_at_call 16; refine HSm.out.mono ?_; rintro e w9 ⟨rfl, k9⟩)
        go_ret
        exact ⟨rfl, k9.below HP.out.below HP.out.below.size HN.out⟩
      · have hk1 : ¬ (k : Int) < len := by omega
        go_wp2_with (go_at_call 16; refine HSm.out.mono ?_; rintro e w9 ⟨rfl, k9⟩)
        go_ret
        exact ⟨rfl, k9.below HP.out.below HP.out.below.size HN.out⟩
end Go.Proofs.Ytkfkepjegdaadaa
