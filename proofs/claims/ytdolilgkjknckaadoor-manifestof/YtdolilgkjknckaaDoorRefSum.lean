/-
  The answer's digest.
-/
import Derived.Test.YtdolilgkjknckaaDoorRefSumA
import Derived.Test.YtdolilgkjknckaaDoorPad
import Derived.Deep.CutBlock
import Derived.Deep.RegionLaw
import Derived.Deep.RegionHeld3
namespace Go.Proofs.YtdolilgkjknckaaDoor.Sh
set_option maxRecDepth 100000
open Go Go.RowKit
attribute [local irreducible] H0 K0 primes64

set_option maxRecDepth 4000 in
set_option maxHeartbeats 20000000 in
theorem refSum_any (s : ByteArray) (hs : s.size ≤ 1000) (w : World) :
    Calls Tryd.prog 18 #[.string s] w fun e w' => e = .returned (.string ⟨(sumL s.data.toList).toArray⟩) ∧ Below w.heap.size w w' := by
  generalize hR : sumL s.data.toList = R
  have HR := Hid.mk hR
  clear hR
  go_enter Tryd.func18, Tryd.ntmps18
  go_upto_block 0 with (first | (go_at_call 43; refine (refPrimes_any _).mono ?_; rintro e wP ⟨vP, gP, rfl, hsP, hgP, hbP⟩))
  have gz := hsP.lt
  have hz := hbP.size
  obtain ⟨cP, rfl, hcP⟩ := hsP.val
  have hpl : primes64.length = 64 := primes64_length
  have HP := Hid.mk (And.intro hsP hbP)
  have HPL := Hid.mk hpl
  rw [hpl] at hcP
  rw [hpl]
  clear hsP hbP hpl
  go_cut [4, 5] (fun vh vk wx => ∃ gh gk : Nat, Sl wx 64 .u32 vh gh H0 ∧ Sl wx 64 .u32 vk gk K0 ∧ gh ≠ gk ∧ w.heap.size ≤ gh ∧ w.heap.size ≤ gk ∧ Below w.heap.size w wx)
  case first =>
    as_aux_lemma =>
      go_wp2_with fail
      go_loopw [4, 5, 6] (fun vh vk i wx => ∃ (n gh gk : Nat), n ≤ 64 ∧ i = .int .i64 n ∧ Sl wx 64 .u32 vh gh (hL n) ∧ Sl wx 64 .u32 vk gk (kL n) ∧ gh ≠ gk ∧ wP.heap.size ≤ gh ∧ wP.heap.size ≤ gk ∧ Below wP.heap.size wP wx)
        (fun _ _ i _ => 64 - (intOf i).toNat)
      case atStart =>
        refine ⟨0, wP.heap.size, wP.heap.size + 1, by omega, rfl, ?_, ?_, by omega, by omega, by omega, ((Below.refl wP.heap.size wP).alloc (Nat.le_refl _) _).alloc (by simp only [size_alloc]; omega) _⟩
        · exact (Sl.ofRow (Row.fresh wP 64 .u32 [])).alloc _
        · exact Sl.ofRow (Row.fresh1 wP _ 64 .u32 [])
      case round =>
        obtain ⟨n, gh, gk, hn, rfl, qh, qk, hne, hgh, hgk, qb⟩ := hrel
        by_cases hn64 : n < 64
        · have cp := (HP.out.1.call qb).cell n (by rw [HPL.out]; omega)
          have hll := hL_length n
          have hkl := kL_length n hn
          have e8 := hL_succ n
          have er := hL_rest n
          have ek := kL_succ n hn64
          generalize hp : primes64.getD n 0 = p at *
          have HE := Hid.mk (And.intro e8 (And.intro er (And.intro ek (And.intro hll hkl))))
          have HQ := Hid.mk (And.intro qh (And.intro qk qb))
          have HC := Hid.mk (And.intro hp hne)
          clear e8 er ek hll hkl qh qk qb hp hne
          by_cases hn8 : n < 8
          · go_upto_region 8 with (first
              | (go_at_call 44; refine (root_any _ 2 (Or.inl rfl) _).mono ?_; rintro e w1 ⟨rfl, b1⟩)
              | (at_builtin; refine wpList_append_sl rfl (.tmp 34) (.tmp 40) 63 rfl Tryd.underlying63 info33z rfl (by decide) rfl ((HQ.out.1.call b1).alloc _) ⟨w1.heap.size, 0, none⟩ 1 1 [rootL p 2] rfl rfl (one_cell w1 .u32 _ 64) (by rw [HE.out.2.2.2.1]; omega) ?_; intro v2 g2 w2 hs2 hgr hgg))
            have sP2 : Sl w2 66 .u64 (.slice (some ⟨gP, 0, none⟩) primes64.length cP) gP primes64 := (((HP.out.1.call HQ.out.2.2).call b1).alloc _).kept hgr (by omega)
            have cp2 := sP2.cell n (by rw [HPL.out]; omega)
            rw [HC.out.1] at cp2
            have qk2 := ((HQ.out.2.1.call b1).alloc _).kept hgr (fun e => HC.out.2 e.symm)
            have qb1 := below3 HQ.out.2.2 b1
            have qb2 := below_grown (qb1.alloc qb1.size _) hgr (by rw [size_alloc]; have := qb1.size; omega) hgh
            have lk := HQ.out.2.1.lt
            have hz1 := b1.size
            rw [size_alloc] at hgg
            have hne2 : g2 ≠ gk := by
              intro e
              have := HC.out.2
              omega
            have hgh2 : wP.heap.size ≤ g2 := by
              have := qb1.size
              omega
            have HX := Hid.mk (And.intro hs2 (And.intro qk2 (And.intro qb2 hne2)))
            clear hs2 qk2 qb2 hne2 hgr hgg b1 sP2 qb1 cp
            go_wp2_with (first
              | (go_at_call 44; refine (root_any _ 3 (Or.inr rfl) _).mono ?_; rintro e w3 ⟨rfl, b3⟩)
              | (at_builtin; refine wpList_append_sl rfl (.tmp 42) (.tmp 48) 63 rfl Tryd.underlying63 info33z rfl (by decide) rfl ((HX.out.2.1.call b3).alloc _) ⟨w3.heap.size, 0, none⟩ 1 1 [rootL p 3] rfl rfl (one_cell w3 .u32 _ 64) (by rw [HE.out.2.2.2.2]; omega) ?_; intro v4 g4 w4 hs4 hgr hgg))
            obtain ⟨hs2, qk2, qb2, hne2⟩ := HX.out
            have l2 := hs2.lt
            have l4 := qk2.lt
            have hz3 := b3.size
            have qb3 := below3 qb2 b3
            rw [size_alloc] at hgg
            refine ⟨⟨n + 1, g2, g4, by omega, by go_num, ?_, ?_, ?_, hgh2, ?_, below_grown (qb3.alloc qb3.size _) hgr (by rw [size_alloc]; have := qb3.size; omega) hgk⟩, by simp [intOf]; omega⟩
            · rw [HE.out.1 hn8]
              exact ((hs2.call b3).alloc _).kept hgr hne2
            · rw [HE.out.2.2.1]
              exact hs4
            · omega
            · have := qb3.size
              omega
          · go_wp2_with (first
              | (go_at_call 44; refine (root_any _ 3 (Or.inr rfl) _).mono ?_; rintro e w3 ⟨rfl, b3⟩)
              | (at_builtin; refine wpList_append_sl rfl (.tmp 42) (.tmp 48) 63 rfl Tryd.underlying63 info33z rfl (by decide) rfl ((HQ.out.2.1.call b3).alloc _) ⟨w3.heap.size, 0, none⟩ 1 1 [rootL p 3] rfl rfl (one_cell w3 .u32 _ 64) (by rw [HE.out.2.2.2.2]; omega) ?_; intro v4 g4 w4 hs4 hgr hgg))
            obtain ⟨qh, qk, qb⟩ := HQ.out
            have hne := HC.out.2
            have l2 := qh.lt
            have hz3 := b3.size
            have qb3 := below3 qb b3
            rw [size_alloc] at hgg
            refine ⟨⟨n + 1, gh, g4, by omega, by go_num, ?_, ?_, ?_, hgh, ?_, below_grown (qb3.alloc qb3.size _) hgr (by rw [size_alloc]; have := qb3.size; omega) hgk⟩, by simp [intOf]; omega⟩
            · rw [HE.out.2.1 hn8]
              exact ((qh.call b3).alloc _).kept hgr hne
            · rw [HE.out.2.2.1]
              exact hs4
            · omega
            · have := qb3.size
              omega
        · have hn2 : n = 64 := by omega
          rw [hn2, hL_all] at qh
          rw [hn2, kL_all] at qk
          have HQ := Hid.mk (And.intro qh (And.intro qk (And.intro hne qb)))
          clear hn2 qh qk qb hne
          go_wp2_with fail
          go_meet
          obtain ⟨qh, qk, hne, qb⟩ := HQ.out
          exact ⟨gh, gk, qh, qk, hne, by omega, by omega, HP.out.2.trans (qb.mono hz)⟩
  case rest =>
    obtain ⟨gh, gk, qh, qk, hne, hgh, hgk, qb⟩ := hcut
    clear HP HPL gz hz hcP hgP
    have hconv := fun w s => run_bytes_of_string (P := Tryd.prog) w 9 50 5 s Tryd.underlying9 Tryd.underlying50 Tryd.underlying5
    have hsl : s.data.toList.length = s.size := Array.length_toList
    have lh := qh.lt
    have lk := qk.lt
    have HQ := Hid.mk (And.intro qh (And.intro qk (And.intro hne (And.intro qb hsl))))
    clear qh qk hne qb hsl
    have hlen : (toI s.data.toList).length + 1 ≤ 1000000 := by rw [toI_length, HQ.out.2.2.2.2]; omega
    have hcs := ((slConverted wc s 5).alloc (.cells #[.int .u8 128] 5)).drew
    go_upto_region 10 with fail
    clear hconv
    go_upto_block 2 with (first
      | (at_builtin; refine wpList_append_sl rfl (.tmp 52) (.tmp 53) 50 rfl Tryd.underlying50 info5y rfl (by decide) rfl hcs ⟨wc.heap.size + 1, 0, none⟩ 1 1 [128] rfl rfl (one_cell1 wc _ .u8 128 5) hlen ?_; intro v2 g2 w2 hs2 hgr hgg))
    have hall0 : All w wc (HK u4 u5 gh gk) :=
      All.cons (All.cons (All.nil HQ.out.2.2.2.1) HQ.out.2.1 hgk) HQ.out.1 hgh
    have hfr0 := hall0.fresh (Nat.le_refl _)
    have hall1 := ((hall0.alloc (.cells (bytesRow s (grownCap wc s.size 0 5)) 5 ((bytesRow s (grownCap wc s.size 0 5)).size, (bytesRow s (grownCap wc s.size 0 5)).size + 1))).alloc (.cells #[.int .u8 128] 5)).drew
    have hfr1 := hall1.next hfr0.1 hfr0.2 hgg
    have hall := hall1.grown hgr hfr0.1 hfr0.2
    have hb0 : Sl w2 5 .u8 v2 g2 (toI (padZ s.data.toList 0)) := by
      have e : toI (padZ s.data.toList 0) = toI s.data.toList ++ [128] := by
        rw [padZ, toI_append, toI_append]
        simp [toI]
      rw [e]
      exact hs2
    have hsl := HQ.out.2.2.2.2
    have HSL := Hid.mk hsl
    have hneq := HQ.out.2.2.1
    clear HQ hall0 hfr0 hall1 hgr hgg hs2 hcs lh lk hgh hgk
    have HB := Hid.mk (And.intro hb0 (And.intro hall hfr1))
    clear hb0 hall hfr1
    go_cut [7] (fun vb wx => ∃ gb : Nat, Sl wx 5 .u8 vb gb (toI (padZ s.data.toList (zOf s.size))) ∧ All w wx (HK u4 u5 gh gk) ∧ w.heap.size ≤ gb ∧ Apart gb (HK u4 u5 gh gk))
    case first =>
      as_aux_lemma =>
        go_wp2_with fail
        go_loopw [7] (fun vb wx => ∃ (z gb : Nat), z ≤ zOf s.size ∧ Sl wx 5 .u8 vb gb (toI (padZ s.data.toList z)) ∧ All w wx (HK u4 u5 gh gk) ∧ w.heap.size ≤ gb ∧ Apart gb (HK u4 u5 gh gk))
          (fun vb _ => s.size + 1 + 64 - lenV vb)
        case atStart =>
          obtain ⟨h1, h2, h3⟩ := HB.out
          exact ⟨0, g2, Nat.zero_le _, h1, h2, h3.1, h3.2⟩
        case round =>
          clear HB
          obtain ⟨z, gb, hz, q1, q2, q3, q4⟩ := hrel
          have hzl := zOf_le s.size
          obtain ⟨cap, rfl, hcap⟩ := q1.val
          have hln : (toI (padZ s.data.toList z)).length = s.size + 1 + z := by rw [toI_length, padZ_length, hsl]
          rw [hln] at hcap q1
          rw [hln]
          by_cases hlt : z < zOf s.size
          · have hm := zOf_lt s.size z hlt
            have hlen1 : (toI (padZ s.data.toList z)).length + 1 ≤ 1000000 := by rw [hln]; omega
            have HQ := Hid.mk (And.intro q1 (And.intro q2 (And.intro q3 q4)))
            clear q1 q2 q3 q4 hln hsl
            go_wp2_with (first
              | (at_builtin; refine wpList_append_sl rfl (.tmp 59) (.tmp 60) 50 rfl Tryd.underlying50 info5y rfl (by decide) rfl (HQ.out.1.alloc _) ⟨wr.heap.size, 0, none⟩ 1 1 [0] rfl rfl (one_cell wr .u8 0 5) hlen1 ?_; intro v3 g3 w3 hs3 hgr hgg))
            obtain ⟨q1, q2, q3, q4⟩ := HQ.out
            obtain ⟨cap3, hv3, _⟩ := hs3.val
            have hfr := (q2.alloc _).next q3 q4 hgg
            refine ⟨⟨z + 1, g3, by omega, ?_, (q2.alloc _).grown hgr q3 q4, hfr.1, hfr.2⟩, ?_⟩
            · rw [padZ_succ, toI_append]
              exact hs3
            · rw [hv3]
              simp only [lenV, List.length_append, List.length_singleton, toI_length, padZ_length]
              rw [HSL.out]
              omega
          · have hz2 : z = zOf s.size := by omega
            have hm := zOf_eq s.size
            rw [hz2] at q1
            have hm2 : (s.size + 1 + z) % 64 = 56 := by rw [hz2]; exact hm
            rw [← hz2] at q1
            have HQ := Hid.mk (And.intro hz2 (And.intro q1 (And.intro q2 (And.intro q3 q4))))
            clear hz2 q1 q2 q3 q4 hln hsl hm
            go_wp2_with fail
            go_meet
            obtain ⟨hz2, q1, q2, q3, q4⟩ := HQ.out
            rw [hz2] at q1
            exact ⟨gb, by rw [hz2]; exact q1, q2, q3, q4⟩
    case rest =>
      obtain ⟨gb, q1, q2, q3, q4⟩ := hcut
      clear HB hlen hsl
      have HQ := Hid.mk (And.intro q1 (And.intro q2 (And.intro q3 q4)))
      clear q1 q2 q3 q4
      go_upto_block 4 with fail
      go_cut [7] (fun vb wx => ∃ gb : Nat, Sl wx 5 .u8 vb gb (toI (padded s.data.toList)) ∧ All w wx (HK u4 u5 gh gk) ∧ w.heap.size ≤ gb ∧ Apart gb (HK u4 u5 gh gk))
      case first =>
        as_aux_lemma =>
          go_wp2_with fail
          go_loopw [7, 9] (fun vb i wx => ∃ (j gb : Nat), j ≤ 8 ∧ i = .int .u64 j ∧ Sl wx 5 .u8 vb gb (toI (padZ s.data.toList (zOf s.size) ++ beTo s.size j)) ∧ All w wx (HK u4 u5 gh gk) ∧ w.heap.size ≤ gb ∧ Apart gb (HK u4 u5 gh gk))
            (fun _ i _ => 8 - (intOf i).toNat)
          case atStart =>
            obtain ⟨h1, h2, h3, h4⟩ := HQ.out
            refine ⟨0, gb, Nat.zero_le _, rfl, ?_, h2, h3, h4⟩
            have e : padZ s.data.toList (zOf s.size) ++ beTo s.size 0 = padZ s.data.toList (zOf s.size) := by simp [beTo]
            rw [e]
            exact h1
          case round =>
            clear HQ
            obtain ⟨j, gb, hj, rfl, q1, q2, q3, q4⟩ := hrel
            by_cases hj8 : j < 8
            · have hzl := zOf_le s.size
              have hlen1 : (toI (padZ s.data.toList (zOf s.size) ++ beTo s.size j)).length + 1 ≤ 1000000 := by
                rw [toI_length, List.length_append, padZ_length, beTo_length, HSL.out]
                omega
              have HQ := Hid.mk (And.intro q1 (And.intro q2 (And.intro q3 q4)))
              clear q1 q2 q3 q4
              go_wp2_with (first
                | (at_builtin; refine wpList_append_sl rfl (.tmp 70) (.tmp 77) 50 rfl Tryd.underlying50 info5y rfl (by decide) rfl (HQ.out.1.alloc _) ⟨wr.heap.size, 0, none⟩ 1 1 [((UInt8.ofNat (s.size * 8 / 2 ^ (56 - 8 * j))).toNat : Int)] rfl rfl (by rw [beByte]; exact one_cell wr .u8 _ 5) hlen1 ?_; intro v3 g3 w3 hs3 hgr hgg))
              obtain ⟨q1, q2, q3, q4⟩ := HQ.out
              have hfr := (q2.alloc _).next q3 q4 hgg
              refine ⟨⟨j + 1, g3, by omega, by go_num, ?_, (q2.alloc _).grown hgr q3 q4, hfr.1, hfr.2⟩, by simp [intOf]; omega⟩
              rw [beTo_succ, ← List.append_assoc, toI_append]
              exact hs3
            · have hj2 : j = 8 := by omega
              have e : toI (padZ s.data.toList (zOf s.size) ++ beTo s.size j) = toI (padded s.data.toList) := by rw [padded_eq, HSL.out, hj2]
              rw [e] at q1
              have HQ := Hid.mk (And.intro q1 (And.intro q2 (And.intro q3 q4)))
              clear hj2 e q1 q2 q3 q4
              go_wp2_with fail
              go_meet
              obtain ⟨q1, q2, q3, q4⟩ := HQ.out
              exact ⟨gb, q1, q2, q3, q4⟩
      case rest =>
        clear HQ
        obtain ⟨gB, q1, q2, q3, q4⟩ := hcut
        obtain ⟨F, hF⟩ : ∃ F, padded s.data.toList = F := ⟨_, rfl⟩
        have hFl : F.length ≤ 1100 ∧ F.length % 64 = 0 := by
          rw [← hF]
          refine ⟨?_, padded_64 _⟩
          rw [padded_length, HSL.out]
          have := zOf_le s.size
          omega
        obtain ⟨hF1, hF2⟩ := hFl
        rw [hF] at q1
        obtain ⟨B, hB⟩ : ∃ B, F.length = 64 * B := ⟨F.length / 64, by omega⟩
        have hB1 : 64 * B ≤ 1100 := by omega
        have hsh : Sl wc 64 .u32 u4 gh H0 := q2.get (f := ⟨64, .u32, u4, gh, H0⟩) (by simp [HK])
        have hsk : Sl wc 64 .u32 u5 gk K0 := q2.get (f := ⟨64, .u32, u5, gk, K0⟩) (by simp [HK])
        have hgh : w.heap.size ≤ gh := (q2.1 ⟨64, .u32, u4, gh, H0⟩ (by simp [HK])).2
        have hgk : w.heap.size ≤ gk := (q2.1 ⟨64, .u32, u5, gk, K0⟩ (by simp [HK])).2
        have hhB : gh ≠ gB := q4 ⟨64, .u32, u4, gh, H0⟩ (by simp [HK])
        have hkB : gk ≠ gB := q4 ⟨64, .u32, u5, gk, K0⟩ (by simp [HK])
        have qbl := q2.below
        clear q2 q4
        obtain ⟨cB, rfl, hcB⟩ := q1.val
        obtain ⟨ch, rfl, hch⟩ := hsh.val
        obtain ⟨ck, rfl, hck⟩ := hsk.val
        have hE : (toI F).length = 64 * B := by rw [toI_length, hB]
        rw [hE] at hcB q1
        rw [H0_length] at hch hsh
        rw [K0_length] at hck hsk
        rw [hE, H0_length, K0_length]
        have hall : All w wc (E3 gh ch gk ck gB cB B F H0) := ((All.cons (All.nil qbl) q1 q3).cons hsk hgk).cons hsh hgh
        have HF := Hid.mk (And.intro hF (And.intro hB hall))
        clear hF hB hF1 hF2 hE hall hsh hsk q1 qbl
        go_upto_block 6 with fail
        go_wp2_with fail
        go_loopw [10] (fun at_ wx => ∃ b : Nat, b ≤ B ∧ at_ = .int .i64 (64 * (b : Int)) ∧ All w wx (E3 gh ch gk ck gB cB B F (absorb H0 F b)))
            (fun at_ _ => 64 * B - (intOf at_).toNat)
        case atStart =>
          obtain ⟨h0, h1, h2⟩ := HF.out
          exact ⟨0, Nat.zero_le _, rfl, h2⟩
        case round =>
          obtain ⟨b, hb, rfl, q1⟩ := hrel
          by_cases hbB : b < B
          ·
            obtain ⟨hl, hhl⟩ : ∃ hl, absorb H0 F b = hl := ⟨_, rfl⟩
            rw [hhl] at q1
            have HH := Hid.mk hhl
            have HQ := Hid.mk q1
            clear q1 hhl
            have hdec : decide ((64 : Int) * (b : Int) < 64 * (B : Int)) = true := by rw [decide_eq_true_eq]; omega
            go_upto_block 8 with fail
            go_cut [11] (fun vw wx => ∃ gw : Nat, Sl wx 64 .u32 vw gw (words16 (chunk F b) 16) ∧ All w wx (E3 gh ch gk ck gB cB B F hl) ∧ w.heap.size ≤ gw ∧ Apart gw (E3 gh ch gk ck gB cB B F hl))
            case first =>
              as_aux_lemma =>
                go_wp2_with fail
                obtain ⟨w0, rfl⟩ : ∃ x : World, x = wr := ⟨_, rfl⟩
                go_loopw [11, 12] (fun vw i wx => ∃ n gw : Nat, n ≤ 16 ∧ i = .int .i64 n ∧ Sl wx 64 .u32 vw gw (words16 (chunk F b) n) ∧ All w wx (E3 gh ch gk ck gB cB B F hl) ∧ w.heap.size ≤ gw ∧ Apart gw (E3 gh ch gk ck gB cB B F hl))
                  (fun _ i _ => 16 - (intOf i).toNat)
                case atStart =>
                  have h := HQ.out
                  have hf := h.fresh (Nat.le_refl _)
                  exact ⟨0, w0.heap.size, Nat.zero_le _, rfl, Sl.ofRow (Row.fresh w0 64 .u32 []), h.alloc _, hf.1, hf.2⟩
                case round =>
                  clear HQ
                  obtain ⟨n, gw, hn, rfl, q1, q2, q3, q4⟩ := hrel
                  by_cases hn16 : n < 16
                  · have HQ := Hid.mk (And.intro q1 (And.intro q2 (And.intro q3 q4)))
                    have hwl : (words16 (chunk F b) n).length + 1 ≤ 1000000 := by rw [words16_length]; omega
                    clear q1 q2 q3 q4
                    have hdn : decide ((n : Int) < 16) = true := by rw [decide_eq_true_eq]; omega
                    go_wp2_with fail
                    go_loop [13, 14] (fun x j => ∃ m : Nat, m ≤ 4 ∧ j = .int .i64 m ∧ x = .int .u32 (wordTo (chunk F b) n m)) (fun _ j => 4 - (intOf j).toNat)
                    case atStart => exact ⟨0, Nat.zero_le _, rfl, rfl⟩
                    case round =>
                      obtain ⟨m, hm, rfl, rfl⟩ := hrel
                      by_cases hm4 : m < 4
                      · have sB := HQ.out.2.1.get (f := ⟨5, .u8, .slice (some ⟨gB, 0, none⟩) (64 * B) cB, gB, toI F⟩) (by simp [E3])
                        have c0 := sB.cell (64 * b + 4 * n + m) (by show 64 * b + 4 * n + m < (toI F).length; rw [toI_length, HF.out.2.1]; omega)
                        have c1 : wr.cell? ⟨gB, 64 * b + 4 * n + m, none⟩ = some (.int .u8 (byteI F (64 * b + 4 * n + m))) := by rw [← (byteI_eq F (64 * b + 4 * n + m)).1, ← toI_getD]; exact c0
                        have hnx := wordTo_next F b n m hn16 hm4
                        obtain ⟨_, v0, v1⟩ := byteI_eq F (64 * b + 4 * n + m)
                        have x0 := wordTo_nonneg (chunk F b) n m
                        generalize byteI F (64 * b + 4 * n + m) = v at *
                        generalize hX : wordTo (chunk F b) n m = X at *
                        have HN := Hid.mk hnx
                        clear sB c0 hnx hX
                        go_wp2_with fail
                        refine ⟨⟨m + 1, by omega, by go_num, ?_⟩, by simp [intOf]; omega⟩
                        rw [← HN.out]
                        congr 1
                        omega
                      · have hm2 : m = 4 := by omega
                        have es := words16_succ (chunk F b) n
                        rw [← hm2] at es
                        generalize hX : wordTo (chunk F b) n m = X at *
                        have HN := Hid.mk es
                        clear es hX hm2
                        go_wp2_with (first
                          | (at_builtin; refine wpList_append_sl rfl (.tmp 107) (.tmp 109) 63 rfl Tryd.underlying63 info33z rfl (by decide) rfl (HQ.out.1.alloc _) ⟨wr.heap.size, 0, none⟩ 1 1 [X] rfl rfl (one_cell wr .u32 X 64) hwl ?_; intro v3 g3 w3 hs3 hgr hgg))
                        obtain ⟨q1, q2, q3, q4⟩ := HQ.out
                        have hfr := (q2.alloc _).next q3 q4 hgg
                        refine ⟨⟨n + 1, g3, by omega, by go_num, ?_, (q2.alloc _).grown hgr q3 q4, hfr.1, hfr.2⟩, by simp [intOf]; omega⟩
                        rw [HN.out]
                        exact hs3
                  · have hn2 : n = 16 := by omega
                    rw [hn2] at q1
                    have HQ := Hid.mk (And.intro q1 (And.intro q2 (And.intro q3 q4)))
                    clear hn2 q1 q2 q3 q4
                    go_wp2_with fail
                    go_meet
                    obtain ⟨q1, q2, q3, q4⟩ := HQ.out
                    exact ⟨gw, q1, q2, q3, q4⟩
            case rest =>
              clear HQ
              obtain ⟨gw, q1, q2, q3, q4⟩ := hcut
              have HQ := Hid.mk (And.intro q1 (And.intro q2 (And.intro q3 q4)))
              clear q1 q2 q3 q4
              go_upto_block 12 with fail
              go_cut [11] (fun vw wx => ∃ gw : Nat, Sl wx 64 .u32 vw gw (schedule (chunk F b)) ∧ All w wx (E3 gh ch gk ck gB cB B F hl) ∧ w.heap.size ≤ gw ∧ Apart gw (E3 gh ch gk ck gB cB B F hl))
              case first =>
                as_aux_lemma =>
                  go_wp2_with fail
                  go_loopw [11, 15] (fun vw i wx => ∃ n gw : Nat, 16 ≤ n ∧ n ≤ 64 ∧ i = .int .i64 n ∧ Sl wx 64 .u32 vw gw (more (words16 (chunk F b) 16) (n - 16)) ∧ All w wx (E3 gh ch gk ck gB cB B F hl) ∧ w.heap.size ≤ gw ∧ Apart gw (E3 gh ch gk ck gB cB B F hl))
                    (fun _ i _ => 64 - (intOf i).toNat)
                  case atStart =>
                    obtain ⟨h1, h2, h3, h4⟩ := HQ.out
                    exact ⟨16, gw, by omega, by omega, rfl, h1, h2, h3, h4⟩
                  case round =>
                    clear HQ
                    obtain ⟨n, gw, n16, n64, rfl, q1, q2, q3, q4⟩ := hrel
                    by_cases hn : n < 64
                    · have hlen : (more (words16 (chunk F b) 16) (n - 16)).length = n := by rw [more_length, words16_length]; omega
                      have hsucc : more (words16 (chunk F b) 16) (n + 1 - 16) = more (words16 (chunk F b) 16) (n - 16) ++ [nextW (more (words16 (chunk F b) 16) (n - 16))] := by
                        rw [show n + 1 - 16 = (n - 16) + 1 by omega]
                        rfl
                      generalize hws : more (words16 (chunk F b) 16) (n - 16) = ws at *
                      obtain ⟨cw, rfl, hcw⟩ := q1.val
                      rw [hlen] at hcw q1
                      rw [hlen]
                      have hl1 : ws.length + 1 ≤ 1000000 := by omega
                      have c2 := q1.cell (n - 2) (by omega)
                      have c7 := q1.cell (n - 7) (by omega)
                      have c15 := q1.cell (n - 15) (by omega)
                      have c16 := q1.cell (n - 16) (by omega)
                      generalize hx2 : ws.getD (n - 2) 0 = x2 at *
                      generalize hx7 : ws.getD (n - 7) 0 = x7 at *
                      generalize hx15 : ws.getD (n - 15) 0 = x15 at *
                      generalize hx16 : ws.getD (n - 16) 0 = x16 at *
                      have hnx : nextW ws = (x16 + s0 x15 + x7 + s1 x2) % 4294967296 := by rw [nextW, hlen, hx2, hx7, hx15, hx16]
                      have HX := Hid.mk (And.intro hnx (And.intro hsucc hlen))
                      have HQ := Hid.mk (And.intro q1 (And.intro q2 (And.intro q3 q4)))
                      clear hnx hsucc hlen hws hx2 hx7 hx15 hx16 q1 q2 q3 q4
                      have hdn : decide ((n : Int) < 64) = true := by rw [decide_eq_true_eq]; omega
                      go_wp2_with fail
                      go_quiet (fail)
                      obtain ⟨n1, rfl⟩ : ∃ x, x = nq := ⟨_, rfl⟩
                      go_wp2_with fail
                      have k16 : (wr.drewN n1).cell? ⟨gw, n - 16, none⟩ = some (.int .u32 x16) := c16
                      have k7 : (wr.drewN n1).cell? ⟨gw, n - 7, none⟩ = some (.int .u32 x7) := c7
                      have hsw := HQ.out.1.drewN n1
                      have hw16 : IntKind.i64.wrap ((n : Int) - 16) = (n : Int) - 16 := wrap_small _ (by omega) (by omega)
                      have hw7 : IntKind.i64.wrap ((n : Int) - 7) = (n : Int) - 7 := wrap_small _ (by omega) (by omega)
                      have hx16 := fun w0 => index_at gw n cw ((n : Int) - 16) (n - 16) (by omega) (by omega) w0
                      have hx7 := fun w0 => index_at gw n cw ((n : Int) - 7) (n - 7) (by omega) (by omega) w0
                      have HW := Hid.mk (And.intro (HQ.out.2.1.drewN n1) (And.intro hsw HQ.out.2.2))
                      clear c2 c7 c15 c16 hsw HQ
                      generalize wr.drewN n1 = wd at *
                      go_region_held3 (fun w' => w'.cell? ⟨gw, n - 16, none⟩ = some (.int .u32 x16) ∧ w'.cell? ⟨gw, n - 7, none⟩ = some (.int .u32 x7)) (go_keep)
                        (first
                          | (go_at_call 45; refine (refRight_any _ _ (by decide) _).mono ?_; rintro e w5 ⟨rfl, rfl⟩)
                          | (refine step_append_sl rfl (.tmp 125) (.tmp 155) 63 rfl Tryd.underlying63 info33z rfl (by decide) rfl (HW.out.2.1.alloc _).drew ⟨wd.heap.size, 0, none⟩ 1 1 [_] rfl rfl (one_cell wd .u32 _ 64) hl1 ?_; intro v3 g3 w3 hs3 hgr hgg hold; have s16 := (hold (n - 16) (by rw [HX.out.2.2]; omega)).trans (keep_cell _ _ _ _ k16); have s7 := (hold (n - 7) (by rw [HX.out.2.2]; omega)).trans (keep_cell _ _ _ _ k7)))
                      go_wp2_with fail
                      obtain ⟨hnx, hsucc, hlen⟩ := HX.out
                      obtain ⟨hal, hsl0, q3, q4⟩ := HW.out
                      have hfr := ((hal.alloc _).drew).next q3 q4 hgg
                      refine ⟨⟨n + 1, g3, by omega, by omega, by go_num, ?_, ((hal.alloc _).drew).grown hgr q3 q4, hfr.1, hfr.2⟩, by simp [intOf]; omega⟩
                      rw [hsucc, hnx]
                      simp only [IntKind.wrap_u32] at hs3
                      have hv : (x16 + s0 x15 + x7 + s1 x2) % 4294967296 = (((x16 + s0 x15) % 4294967296 + x7) % 4294967296 + s1 x2) % 4294967296 := by omega
                      rw [hv]
                      exact hs3
                    · have hn2 : n = 64 := by omega
                      rw [hn2, show 64 - 16 = 48 from rfl, ← schedule_eq] at q1
                      have HQ := Hid.mk (And.intro q1 (And.intro q2 (And.intro q3 q4)))
                      clear hn2 q1 q2 q3 q4
                      go_wp2_with fail
                      go_meet
                      obtain ⟨q1, q2, q3, q4⟩ := HQ.out
                      exact ⟨gw, q1, q2, q3, q4⟩
              case rest =>
                clear HQ
                obtain ⟨gw, q1, q2, q3, q4⟩ := hcut
                obtain ⟨S, hS⟩ : ∃ S, schedule (chunk F b) = S := ⟨_, rfl⟩
                have hSl : S.length = 64 := by rw [← hS, schedule_length]
                rw [hS] at q1
                obtain ⟨cw, rfl, hcw⟩ := q1.val
                rw [hSl] at hcw q1
                rw [hSl]
                have hhl8 : hl.length = 8 := by rw [← HH.out]; exact absorb_length H0 H0_length F b
                have hE4 : All w wc (⟨64, .u32, .slice (some ⟨gw, 0, none⟩) 64 cw, gw, S⟩ :: E3 gh ch gk ck gB cB B F hl) := q2.cons q1 q3
                have hch8 : ∀ o j, j < 8 → (wc.alloc o).cell? ((⟨gh, 0, none⟩ : Addr).add j) = some (.int .u32 (hl.getD j 0)) := by
                  intro o j hj
                  have ea : (⟨gh, 0, none⟩ : Addr).add j = ⟨gh, j, none⟩ := by unfold Addr.add; split <;> simp_all
                  rw [ea]
                  exact ((q2.get (f := ⟨64, .u32, .slice (some ⟨gh, 0, none⟩) 8 ch, gh, hl⟩) (by simp [E3])).alloc o).cell j (by show j < hl.length; omega)
                have HS := Hid.mk (And.intro hS (And.intro hSl (And.intro hhl8 q4)))
                have hfr0 := hE4.fresh (Nat.le_refl _)
                have HE := Hid.mk (And.intro hE4 hfr0)
                clear hS hSl hhl8 q1 q2 q3 q4 hE4 hfr0
                go_upto_region 37 with (first
                  | (at_builtin; refine wpList_append_sl rfl (.tmp 157) (.tmp 158) 63 rfl Tryd.underlying63 info33z rfl (by decide) rfl (Sl.ofRow (Row.fresh wc 64 .u32 [])) ⟨gh, 0, none⟩ 8 ch hl rfl HS.out.2.2.1 (hch8 _) (by show 0 + 8 ≤ 1000000; omega) ?_; intro v5 g5 w5 hs5 hgr hgg))
                have hall5 := (HE.out.1.alloc (.cells #[] 64)).grown hgr HE.out.2.1 HE.out.2.2
                have hfr5 := (HE.out.1.alloc (.cells #[] 64)).next HE.out.2.1 HE.out.2.2 hgg
                have HV := Hid.mk (And.intro hs5 (And.intro hall5 hfr5))
                clear hs5 hall5 hfr5 hgr hgg hch8
                go_upto_block 14 with fail
                go_cut [18] (fun vv wx => ∃ gv : Nat, Sl wx 64 .u32 vv gv (rounds K0 S hl 64) ∧ All w wx (⟨64, .u32, .slice (some ⟨gw, 0, none⟩) 64 cw, gw, S⟩ :: E3 gh ch gk ck gB cB B F hl) ∧ w.heap.size ≤ gv ∧ Apart gv (⟨64, .u32, .slice (some ⟨gw, 0, none⟩) 64 cw, gw, S⟩ :: E3 gh ch gk ck gB cB B F hl))
                case first =>
                  go_wp2_with fail
                  go_loopw [18, 19] (fun vv i wx => ∃ n gv : Nat, n ≤ 64 ∧ i = .int .i64 n ∧ Sl wx 64 .u32 vv gv (rounds K0 S hl n) ∧ All w wx (⟨64, .u32, .slice (some ⟨gw, 0, none⟩) 64 cw, gw, S⟩ :: E3 gh ch gk ck gB cB B F hl) ∧ w.heap.size ≤ gv ∧ Apart gv (⟨64, .u32, .slice (some ⟨gw, 0, none⟩) 64 cw, gw, S⟩ :: E3 gh ch gk ck gB cB B F hl))
                    (fun _ i _ => 64 - (intOf i).toNat)
                  case atStart =>
                    obtain ⟨h1, h2, h3⟩ := HV.out
                    exact ⟨0, g5, Nat.zero_le _, rfl, h1, h2, h3.1, h3.2⟩
                  case round =>
                    clear HV HE
                    obtain ⟨n, gv, hn, rfl, q1, q2, q3, q4⟩ := hrel
                    by_cases hn64 : n < 64
                    · have hvl := rounds_length K0 S hl HS.out.2.2.1 n
                      have hsm := rounds_small K0 S hl (by rw [← HH.out]; exact absorb_small F b) n
                      have hrs : rounds K0 S hl (n + 1) = rnd (K0.getD n 0) (S.getD n 0) (rounds K0 S hl n) := rfl
                      generalize hv : rounds K0 S hl n = v at *
                      obtain ⟨a, b1, c, d, e, f, g, i, rfl⟩ := eight v hvl
                      obtain ⟨cv, rfl, hcv⟩ := q1.val
                      have m0 := hsm 0
                      have m1 := hsm 1
                      have m2 := hsm 2
                      have m4 := hsm 4
                      have m5 := hsm 5
                      have m6 := hsm 6
                      have c0 := q1.cell 0 (by simp)
                      have c1 := q1.cell 1 (by simp)
                      have c2 := q1.cell 2 (by simp)
                      have c3 := q1.cell 3 (by simp)
                      have c4 := q1.cell 4 (by simp)
                      have c5 := q1.cell 5 (by simp)
                      have c6 := q1.cell 6 (by simp)
                      have c7 := q1.cell 7 (by simp)
                      simp only [List.getD_cons_zero, List.getD_cons_succ] at c0 c1 c2 c3 c4 c5 c6 c7 m0 m1 m2 m4 m5 m6
                      rw [show ([a, b1, c, d, e, f, g, i] : List Int).length = 8 from rfl] at hcv q1 ⊢
                      have cS := (q2.get (f := ⟨64, .u32, .slice (some ⟨gw, 0, none⟩) 64 cw, gw, S⟩) (by simp)).cell n (by show n < S.length; rw [HS.out.2.1]; omega)
                      have cK := (q2.get (f := ⟨64, .u32, .slice (some ⟨gk, 0, none⟩) 64 ck, gk, K0⟩) (by simp [E3])).cell n (by show n < K0.length; rw [K0_length]; omega)
                      simp only [] at cS cK
                      have hch2 := ch_same e f g m4.1 m4.2 m5.1 m5.2 m6.1 m6.2
                      have hmaj2 := maj_same a b1 c m0.1 m0.2 m1.1 m1.2 m2.1 m2.2
                      generalize hKv : K0.getD n 0 = kv at *
                      generalize hSv : S.getD n 0 = sv at *
                      have HR2 := Hid.mk (And.intro hrs (And.intro hch2 hmaj2))
                      have HQ := Hid.mk (And.intro q2 (And.intro q3 q4))
                      obtain ⟨e0, e1⟩ := m4
                      clear hrs hch2 hmaj2 hKv hSv hv hvl hsm q1 q2 q3 q4 m0 m1 m2 m5 m6
                      have hdn : decide ((n : Int) < 64) = true := by rw [decide_eq_true_eq]; omega
                      go_wp2_with fail
                      go_quiet (first | (go_at_call 45; refine (refRight_any _ _ (by decide) _).mono ?_; rintro e2 w2 ⟨rfl, rfl⟩; exact ⟨rfl, _, rfl⟩))
                      obtain ⟨n1, rfl⟩ : ∃ x, x = nq := ⟨_, rfl⟩
                      --!CUT
                      go_wp2_with fail
                      go_quiet (first | (go_at_call 45; refine (refRight_any _ _ (by decide) _).mono ?_; rintro e2 w2 ⟨rfl, rfl⟩; exact ⟨rfl, _, rfl⟩))
                      obtain ⟨n2, rfl⟩ : ∃ x, x = nq := ⟨_, rfl⟩
                      --!CUT
                      go_wp2_with fail
                      obtain ⟨t1, ht1⟩ : ∃ t1, (((i + bits .xor .u32 (bits .xor .u32 (rotr e 6) (rotr e 11)) (rotr e 25) + bits .or .u32 (bits .and .u32 e f) (bits .and .u32 (4294967295 - e) g) + kv) % 4294967296 + sv) % 4294967296) = t1 := ⟨_, rfl⟩
                      obtain ⟨t2, ht2⟩ : ∃ t2, ((bits .xor .u32 (bits .xor .u32 (rotr a 2) (rotr a 13)) (rotr a 22) + bits .or .u32 (bits .or .u32 (bits .and .u32 a b1) (bits .and .u32 a c)) (bits .and .u32 b1 c)) % 4294967296) = t2 := ⟨_, rfl⟩
                      rw [ht1, ht2]
                      have HT := Hid.mk (And.intro ht1 ht2)
                      have k0 : ((wr.drewN n1).drewN n2).cell? ⟨gv, 0, none⟩ = some (.int .u32 a) := c0
                      have k1 : ((wr.drewN n1).drewN n2).cell? ⟨gv, 1, none⟩ = some (.int .u32 b1) := c1
                      have k2 : ((wr.drewN n1).drewN n2).cell? ⟨gv, 2, none⟩ = some (.int .u32 c) := c2
                      have k3 : ((wr.drewN n1).drewN n2).cell? ⟨gv, 3, none⟩ = some (.int .u32 d) := c3
                      have k4 : ((wr.drewN n1).drewN n2).cell? ⟨gv, 4, none⟩ = some (.int .u32 e) := c4
                      have k5 : ((wr.drewN n1).drewN n2).cell? ⟨gv, 5, none⟩ = some (.int .u32 f) := c5
                      have k6 : ((wr.drewN n1).drewN n2).cell? ⟨gv, 6, none⟩ = some (.int .u32 g) := c6
                      have HW := Hid.mk (And.intro ((HQ.out.1.drewN n1).drewN n2) HQ.out.2)
                      clear ht1 ht2 c0 c1 c2 c3 c4 c5 c6 c7 cS cK HQ e0 e1
                      generalize (wr.drewN n1).drewN n2 = wd at *
                      --!CUT
                      go_region_held3 (fun w' => w'.cell? ⟨gv, 0, none⟩ = some (.int .u32 a) ∧ w'.cell? ⟨gv, 1, none⟩ = some (.int .u32 b1) ∧ w'.cell? ⟨gv, 2, none⟩ = some (.int .u32 c) ∧ w'.cell? ⟨gv, 3, none⟩ = some (.int .u32 d) ∧ w'.cell? ⟨gv, 4, none⟩ = some (.int .u32 e) ∧ w'.cell? ⟨gv, 5, none⟩ = some (.int .u32 f) ∧ w'.cell? ⟨gv, 6, none⟩ = some (.int .u32 g)) (go_keep) (fail)
                      go_wp2_with fail
                      obtain ⟨hrs, hch2, hmaj2⟩ := HR2.out
                      obtain ⟨ht1, ht2⟩ := HT.out
                      have x1 : (i + tri e 6 11 25 + chD e f g + kv + sv) % 4294967296 = t1 := by
                        rw [← hch2, ← ht1]
                        unfold chR tri
                        omega
                      have x2 : (tri a 2 13 22 + majD a b1 c) % 4294967296 = t2 := by
                        rw [← hmaj2, ← ht2]
                        rfl
                      have hr : rnd kv sv [a, b1, c, d, e, f, g, i] = [(t1 + t2) % 4294967296, a, b1, c, (d + t1) % 4294967296, e, f, g] := by
                        rw [← x1, ← x2]
                        rfl
                      have hfr := HW.out.1.fresh (Nat.le_refl _)
                      refine ⟨⟨n + 1, wd.heap.size, by omega, by go_num, ?_, (HW.out.1.alloc _).drew, hfr.1, hfr.2⟩, by simp [intOf]; omega⟩
                      rw [hrs, hr]
                      exact (Sl.ofRow (Row.fresh wd 64 .u32 [(t1 + t2) % 4294967296, a, b1, c, (d + t1) % 4294967296, e, f, g])).drew
                    · have hn2 : n = 64 := by omega
                      rw [hn2] at q1
                      have HQ := Hid.mk (And.intro q1 (And.intro q2 (And.intro q3 q4)))
                      clear hn2 q1 q2 q3 q4
                      go_wp2_with fail
                      go_meet
                      obtain ⟨q1, q2, q3, q4⟩ := HQ.out
                      exact ⟨gv, q1, q2, q3, q4⟩
                case rest =>
                  clear HV HE
                  obtain ⟨gv, q1, q2, q3, q4⟩ := hcut
                  obtain ⟨V, hV⟩ : ∃ V, rounds K0 S hl 64 = V := ⟨_, rfl⟩
                  have hVl : V.length = 8 := by rw [← hV]; exact rounds_length K0 S hl HS.out.2.2.1 64
                  rw [hV] at q1
                  obtain ⟨cv, rfl, hcv⟩ := q1.val
                  rw [hVl] at hcv q1
                  rw [hVl]
                  have hsh : Sl wc 64 .u32 (.slice (some ⟨gh, 0, none⟩) 8 ch) gh (sumTo hl V 0) := by
                    rw [sumTo_zero hl V HS.out.2.2.1]
                    exact q2.get (f := ⟨64, .u32, .slice (some ⟨gh, 0, none⟩) 8 ch, gh, hl⟩) (by simp [E3])
                  have hgvh : gh ≠ gv := q4 ⟨64, .u32, .slice (some ⟨gh, 0, none⟩) 8 ch, gh, hl⟩ (by simp [E3])
                  have hal2 : All w wc [⟨64, .u32, .slice (some ⟨gv, 0, none⟩) 8 cv, gv, V⟩, ⟨64, .u32, .slice (some ⟨gk, 0, none⟩) 64 ck, gk, K0⟩, ⟨5, .u8, .slice (some ⟨gB, 0, none⟩) (64 * B) cB, gB, toI F⟩] := (q2.tail.tail).cons q1 q3
                  have HV := Hid.mk (And.intro hV (And.intro hVl (And.intro hsh hal2)))
                  clear hV hVl q1 q2 q3 q4 hsh hal2
                  go_upto_block 16 with fail
                  as_aux_lemma =>
                    go_wp2_with fail
                    obtain ⟨w7, rfl⟩ : ∃ x : World, x = wr := ⟨_, rfl⟩
                    go_loopw [22] (fun i wx => ∃ n : Nat, n ≤ 8 ∧ i = .int .i64 n ∧ Sl wx 64 .u32 (.slice (some ⟨gh, 0, none⟩) 8 ch) gh (sumTo hl V n) ∧ All w wx [⟨64, .u32, .slice (some ⟨gv, 0, none⟩) 8 cv, gv, V⟩, ⟨64, .u32, .slice (some ⟨gk, 0, none⟩) 64 ck, gk, K0⟩, ⟨5, .u8, .slice (some ⟨gB, 0, none⟩) (64 * B) cB, gB, toI F⟩])
                      (fun i _ => 8 - (intOf i).toNat)
                    case atStart =>
                      obtain ⟨h0, h1, h2, h3⟩ := HV.out
                      exact ⟨0, Nat.zero_le _, rfl, h2, h3⟩
                    case round =>
                      obtain ⟨n, hn, rfl, q1, q2⟩ := hrel
                      by_cases hn8 : n < 8
                      · have c0 := q1.cell n (by rw [sumTo_length]; omega)
                        rw [sumTo_at hl V n hn8] at c0
                        have f0 := q1.frozen n (by rw [sumTo_length]; omega)
                        have c1 := (q2.get (f := ⟨64, .u32, .slice (some ⟨gv, 0, none⟩) 8 cv, gv, V⟩) (by simp)).cell n (by show n < V.length; rw [HV.out.2.1]; omega)
                        simp only [] at c1
                        have hset := sumTo_set hl V n hn8
                        generalize hl.getD n 0 = x at *
                        generalize V.getD n 0 = y at *
                        have HQ := Hid.mk (And.intro hset (And.intro q1 q2))
                        clear hset q1 q2
                        go_wp2_with fail
                        go_region
                        go_wp2_with fail
                        obtain ⟨hset, q1, q2⟩ := HQ.out
                        have hap : Apart gh [⟨64, .u32, .slice (some ⟨gv, 0, none⟩) 8 cv, gv, V⟩, ⟨64, .u32, .slice (some ⟨gk, 0, none⟩) 64 ck, gk, K0⟩, ⟨5, .u8, .slice (some ⟨gB, 0, none⟩) (64 * B) cB, gB, toI F⟩] :=
                          (((Apart.nil gh).cons (fun e => hhB e.symm)).cons (fun e => hneq e.symm)).cons (fun e => hgvh e.symm)
                        refine ⟨⟨n + 1, by omega, by go_num, ?_, (q2.setCell (a := ⟨gh, n, none⟩) hgh hap _).drew⟩, by simp [intOf]; omega⟩
                        rw [← hset]
                        exact (q1.stored n _).drew
                      · have hn2 : n = 8 := by omega
                        have hnew : absorb H0 F (b + 1) = sumTo hl V n := by
                          rw [hn2, absorb, mix_eq, HH.out]
                          rw [show schedule ((F.drop (64 * b)).take 64) = S from HS.out.1, HV.out.1]
                        rw [← hnew] at q1
                        have HQ := Hid.mk (And.intro q1 q2)
                        clear hn2 hnew q1 q2
                        go_wp2_with fail
                        obtain ⟨q1, q2⟩ := HQ.out
                        exact ⟨⟨b + 1, by omega, by go_num, q2.tail.cons q1 hgh⟩, by simp [intOf]; omega⟩
          · have hbe : b = B := by omega
            obtain ⟨W, hW⟩ : ∃ W, absorb H0 F b = W := ⟨_, rfl⟩
            have hWl : W.length = 8 := by rw [← hW]; exact absorb_length H0 H0_length F b
            have hWs : Small W := by rw [← hW]; exact absorb_small F b
            rw [hW] at q1
            have hres : R = bytesTo W 32 := by
              rw [← HR.out, ← hW, hbe, ← HF.out.1, ← bytesOf_eq]
              refine (bytesOf_padded s.data.toList ?_).symm
              have := HF.out.2.1
              rw [← HF.out.1] at this
              exact this
            have hal2 : All w wr [⟨64, .u32, .slice (some ⟨gh, 0, none⟩) 8 ch, gh, W⟩] := All.cons (All.nil q1.below) (q1.get (f := ⟨64, .u32, .slice (some ⟨gh, 0, none⟩) 8 ch, gh, W⟩) (by simp [E3])) hgh
            have HQ := Hid.mk (And.intro hres (And.intro hWl (And.intro hWs hal2)))
            clear hres hWl hWs hal2 hW q1 hbe HF
            go_upto_block 18 with fail
            as_aux_lemma =>
              go_wp2_with fail
              obtain ⟨w8, rfl⟩ : ∃ x : World, x = wr := ⟨_, rfl⟩
              go_loopw [23, 24] (fun vo i wx => ∃ n go : Nat, n ≤ 8 ∧ i = .int .i64 n ∧ Sl wx 5 .u8 vo go (toI (bytesTo W (4 * n))) ∧ All w wx [⟨64, .u32, .slice (some ⟨gh, 0, none⟩) 8 ch, gh, W⟩] ∧ w.heap.size ≤ go ∧ Apart go [⟨64, .u32, .slice (some ⟨gh, 0, none⟩) 8 ch, gh, W⟩])
                (fun _ i _ => 8 - (intOf i).toNat)
              case atStart =>
                have h := HQ.out.2.2.2
                have hf := h.fresh (Nat.le_refl _)
                exact ⟨0, w8.heap.size, Nat.zero_le _, rfl, Sl.ofRow (Row.fresh w8 5 .u8 []), h.alloc _, hf.1, hf.2⟩
              case round =>
                obtain ⟨n, go, hn, rfl, q1, q2, q3, q4⟩ := hrel
                by_cases hn8 : n < 8
                · have c0 := (q2.get (f := ⟨64, .u32, .slice (some ⟨gh, 0, none⟩) 8 ch, gh, W⟩) (by simp)).cell n (by show n < W.length; rw [HQ.out.2.1]; omega)
                  have lh := (q2.get (f := ⟨64, .u32, .slice (some ⟨gh, 0, none⟩) 8 ch, gh, W⟩) (by simp)).lt
                  simp only [] at c0 lh
                  have hgo : gh ≠ go := q4 _ (List.mem_singleton.2 rfl)
                  have hl4 : (toI (bytesTo W (4 * n))).length + 4 ≤ 1000000 := by rw [toI_length, bytesTo_length]; omega
                  have hfour := bytesTo_four W n
                  obtain ⟨x0, x1⟩ := HQ.out.2.2.1 n
                  generalize W.getD n 0 = x at *
                  have hxn := fun w0 => index_at gh 8 ch (n : Int) n rfl hn8 w0
                  have HX := Hid.mk (And.intro hfour (And.intro q1 (And.intro q2 (And.intro q3 q4))))
                  clear hfour q1 q2 q3 q4
                  have hdn : decide ((n : Int) < 8) = true := by rw [decide_eq_true_eq]; omega
                  go_wp2_with fail
                  go_region_held3 (fun w' => w'.cell? ⟨gh, n, none⟩ = some (.int .u32 x)) (go_keep)
                    (first
                      | (refine step_append_sl rfl (.tmp 293) (.tmp 317) 50 rfl Tryd.underlying50 info5y rfl (by decide) rfl (HX.out.2.1.alloc _).drew ⟨wr.heap.size, 0, none⟩ 4 4 [_, _, _, _] rfl rfl (four_cells wr .u8 _ _ _ _ 5) hl4 ?_; intro v3 g3 w3 hs3 hgr hgg hold; have sh := grown_cell hgr (keep_cell _ _ _ _ c0) hgo (by show gh < (wr.alloc _).heap.size; rw [size_alloc]; omega)))
                  go_wp2_with fail
                  obtain ⟨hfour, q1, q2, q3, q4⟩ := HX.out
                  have hfr := ((q2.alloc _).drew).next q3 q4 hgg
                  refine ⟨⟨n + 1, g3, by omega, by go_num, ?_, ((q2.alloc _).drew).grown hgr q3 q4, hfr.1, hfr.2⟩, by simp [intOf]; omega⟩
                  rw [hfour, toI_append, ← four_bytes x x0]
                  exact hs3
                · have hn2 : n = 8 := by omega
                  rw [hn2, show 4 * 8 = 32 from rfl, ← HQ.out.1] at q1
                  have hbk := slBack q1
                  have hbl := q2.below
                  clear q1 q2 q3 q4 HQ hn2
                  go_wp2_with fail
                  go_ret
                  exact ⟨rfl, hbl⟩
end Go.Proofs.YtdolilgkjknckaaDoor.Sh
