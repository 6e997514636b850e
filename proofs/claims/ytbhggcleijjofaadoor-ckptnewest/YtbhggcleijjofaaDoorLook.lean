/-
  What a page is: the walk of the program's Look. Condition: the table's cells hold what the text lays.
-/
import Derived.Test.YtbhggcleijjofaaDoorSad
import Derived.Test.YtbhggcleijjofaaDoorFrb
namespace Go.Proofs.YtbhggcleijjofaaDoor.Pg
open Go Go.RowKit

theorem tb_result3 {fn : Func} {a p u : Tmp} (h : fn.results = #[.tmp a, .cell p 43, .tmp u]) {tmps : Array Value} {w : World} {g : Nat} {K S I O W : Int} (hp : tmps.getD p undef = .pointer (some ⟨g, 0, none⟩)) (ha : TB w g K S I O W) :
    (results fn tmps).run Tryd.prog w = .ok (.tuple #[tmps.getD a undef, tagV K S I O W, tmps.getD u undef]) w := by
  have hp' : tmps[p]?.getD undef = .pointer (some ⟨g, 0, none⟩) := by simpa using hp
  simp [results, h, hp', asAddr, tb_load ha]
theorem bytes_beq_false (a b : ByteArray) (h : ¬ a = b) : (a.toList == b.toList) = false := by
  rw [beq_eq_false_iff_ne]
  intro e
  rw [ByteArray.toList_eq, ByteArray.toList_eq] at e
  exact h (ByteArray.ext (Array.toList_inj.1 e))
/-- what Look answers where there is nothing -/
def lookV (c : Int) : Value := .tuple #[.int .i64 c, tagV 0 0 0 0 0, .string ⟨#[]⟩]
theorem look_erased (d s : ByteArray) (zd : d.size ≤ 1000000) (zs : s.size ≤ 1000000) (hd : allF d = true) (hs : allF s = true) (w : World) :
    Calls Tryd.prog 30 #[.string d, .string s] w fun e w' => e = .returned (lookV 0) ∧ Below w.heap.size w w' := by
  have HR := Hid.mk (TB.fresh w 0 0 0 0 0)
  go_enter Tryd.func30, Tryd.ntmps30
  go_wp2_with (first | (go_at_call 51; refine (erased_any _ (by assumption) _).mono ?_; rintro e w1 ⟨rfl, rfl⟩; (first | rw [hd] | rw [hs])))
  exact bodyPost_ret (tb_result3 rfl rfl HR.out) rfl ⟨rfl, below_one _ _⟩
/-- what Look holds on its way: the result's block, the tag's, the table -/
def LkS (w : World) (g : Nat) (K S I O W : Int) (wx : World) : Prop := TB wx w.heap.size 0 0 0 0 0 ∧ TB wx g K S I O W ∧ Below w.heap.size w wx ∧ Tab wx
theorem LkS.call {w : World} {g : Nat} {K S I O W : Int} {wx w2 : World} (h : LkS w g K S I O W wx) (b : Below wx.heap.size wx w2) : LkS w g K S I O W w2 := ⟨h.1.call b, h.2.1.call b, below3 h.2.2.1 b, h.2.2.2.call b⟩
theorem lks_start (w : World) (hT : Tab w) {w1 : World} (b : Below (w.alloc (.cells #[.int .i64 0, .int .u64 0, .int .i64 0, .int .i64 0, .int .i64 0] 43)).heap.size (w.alloc (.cells #[.int .i64 0, .int .u64 0, .int .i64 0, .int .i64 0, .int .i64 0] 43)) w1) (K S I O W : Int) : LkS w w1.heap.size K S I O W (w1.alloc (.cells #[.int .i64 K, .int .u64 S, .int .i64 I, .int .i64 O, .int .i64 W] 43)) := by
  have hb := below3 (below_one w _) b
  exact ⟨((TB.fresh w 0 0 0 0 0).call b).alloc _, TB.fresh w1 K S I O W, hb.alloc hb.size _, (hT.call hb).alloc _⟩
set_option maxHeartbeats 2000000 in
theorem look_t1a (d s : ByteArray) (zd : d.size ≤ 65535) (hd : allF d = false) {K S I O W L : Nat} (h6 : Six s K S I O W L) (hbad : ¬ mayB K I O W) (w : World) (hT : Tab w) :
    Calls Tryd.prog 30 #[.string d, .string s] w fun e w' => e = .returned (lookV 2) ∧ Below w.heap.size w w' := by
  have hbW := h6.bounds.2.2.2.2.1
  have sd := fun w => said_any d s (by omega) h6 w
  generalize hM : d.extract 0 (min L d.size) = M at *
  have HM := Hid.mk hM
  clear hM
  unfold tagV at sd
  have fb := fun w => frame_bad K S I O W (by omega) M d.size (fun h => hbad (chk_iff.1 h.1)) w
  unfold tagV at fb
  clear hbad hbW
  have HT := Hid.mk hT
  clear hT
  have zd1 : d.size ≤ 1000000 := by omega
  go_enter Tryd.func30, Tryd.ntmps30
  go_upto_region 4 with (first
    | (go_at_call 51; refine (erased_any _ (by assumption) _).mono ?_; rintro e w0 ⟨rfl, hw0⟩; rw [hw0, hd]; clear hw0)
    | (go_at_call 52; refine (sd _).mono ?_; rintro e w1 ⟨rfl, c1⟩; have HQ := Hid.mk (lks_start w HT.out c1 K S I O W); clear c1))
  clear sd
  generalize w1.heap.size = G at *
  generalize (w1.alloc (.cells #[.int .i64 K, .int .u64 S, .int .i64 I, .int .i64 O, .int .i64 W] 43)) = W1 at *
  obtain ⟨c0, c1, c2, c3, c4⟩ := HQ.out.2.1.five
  go_upto_region 5 with (first | (go_at_call 45; refine (fb _).mono ?_; rintro e w2 ⟨rfl, b2⟩; replace HQ := Hid.mk (HQ.out.call b2); clear b2))
  clear c0 c1 c2 c3 c4
  obtain ⟨c0, c1, c2, c3, c4⟩ := HQ.out.2.1.five
  obtain ⟨d0, d1, d2, d3, d4⟩ := HQ.out.1.five
  have f0 := HQ.out.1.frozen 0
  have f1 := HQ.out.1.frozen 1
  have f2 := HQ.out.1.frozen 2
  have f3 := HQ.out.1.frozen 3
  have f4 := HQ.out.1.frozen 4
  go_wp2_with fail
  have hr := tb_whole HQ.out.1 HQ.out.2.2.1 (Nat.le_refl _) 0 0 0 0 0
  exact bodyPost_ret (tb_result3 rfl rfl hr.1) rfl ⟨rfl, hr.2⟩
set_option maxHeartbeats 2000000 in
theorem look_t2a (d s : ByteArray) (zd : d.size ≤ 65535) (hd : allF d = false) {K S I O W L : Nat} (h6 : Six s K S I O W L) (hmay : mayB K I O W) (hne : ¬ padB (d.extract 0 (min L d.size)) d.size = d) (w : World) (hT : Tab w) :
    Calls Tryd.prog 30 #[.string d, .string s] w fun e w' => e = .returned (lookV 2) ∧ Below w.heap.size w w' := by
  have hMs : (d.extract 0 (min L d.size)).size ≤ d.size := by rw [ByteArray.size_extract]; omega
  have hnb := bytes_beq_false _ _ hne
  clear hne
  have sd := fun w => said_any d s (by omega) h6 w
  generalize hM : d.extract 0 (min L d.size) = M at *
  have HM := Hid.mk hM
  clear hM
  unfold tagV at sd
  have fo := fun w hT => frame_ok K S I O W hmay M d.size hMs zd w hT
  unfold tagV at fo
  clear hmay
  generalize padB M d.size = D at *
  generalize spareB K S I O W M d.size = P at *
  have HT := Hid.mk hT
  clear hT
  have zd1 : d.size ≤ 1000000 := by omega
  go_enter Tryd.func30, Tryd.ntmps30
  go_upto_region 4 with (first
    | (go_at_call 51; refine (erased_any _ (by assumption) _).mono ?_; rintro e w0 ⟨rfl, hw0⟩; rw [hw0, hd]; clear hw0)
    | (go_at_call 52; refine (sd _).mono ?_; rintro e w1 ⟨rfl, c1⟩; have HQ := Hid.mk (lks_start w HT.out c1 K S I O W); clear c1))
  clear sd
  generalize w1.heap.size = G at *
  generalize (w1.alloc (.cells #[.int .i64 K, .int .u64 S, .int .i64 I, .int .i64 O, .int .i64 W] 43)) = W1 at *
  obtain ⟨c0, c1, c2, c3, c4⟩ := HQ.out.2.1.five
  go_upto_region 5 with (first | (go_at_call 45; refine (fo _ HQ.out.2.2.2).mono ?_; rintro e w2 ⟨rfl, b2⟩; replace HQ := Hid.mk (HQ.out.call b2); clear b2))
  clear c0 c1 c2 c3 c4
  obtain ⟨c0, c1, c2, c3, c4⟩ := HQ.out.2.1.five
  obtain ⟨d0, d1, d2, d3, d4⟩ := HQ.out.1.five
  have f0 := HQ.out.1.frozen 0
  have f1 := HQ.out.1.frozen 1
  have f2 := HQ.out.1.frozen 2
  have f3 := HQ.out.1.frozen 3
  have f4 := HQ.out.1.frozen 4
  go_wp2_with fail
  have hr := tb_whole HQ.out.1 HQ.out.2.2.1 (Nat.le_refl _) 0 0 0 0 0
  exact bodyPost_ret (tb_result3 rfl rfl hr.1) rfl ⟨rfl, hr.2⟩
set_option maxHeartbeats 2000000 in
theorem look_t3a (d s : ByteArray) (zd : d.size ≤ 65535) (hd : allF d = false) {K S I O W L : Nat} (h6 : Six s K S I O W L) (hmay : mayB K I O W) (heq : padB (d.extract 0 (min L d.size)) d.size = d) (hne : ¬ spareB K S I O W (d.extract 0 (min L d.size)) d.size = s) (w : World) (hT : Tab w) :
    Calls Tryd.prog 30 #[.string d, .string s] w fun e w' => e = .returned (lookV 2) ∧ Below w.heap.size w w' := by
  have hMs : (d.extract 0 (min L d.size)).size ≤ d.size := by rw [ByteArray.size_extract]; omega
  have hnb := bytes_beq_false _ _ hne
  clear hne
  have sd := fun w => said_any d s (by omega) h6 w
  generalize hM : d.extract 0 (min L d.size) = M at *
  have HM := Hid.mk hM
  clear hM
  unfold tagV at sd
  have fo := fun w hT => frame_ok K S I O W hmay M d.size hMs zd w hT
  unfold tagV at fo
  clear hmay
  rw [heq] at fo
  clear heq
  generalize spareB K S I O W M d.size = P at *
  have HT := Hid.mk hT
  clear hT
  have zd1 : d.size ≤ 1000000 := by omega
  go_enter Tryd.func30, Tryd.ntmps30
  go_upto_region 4 with (first
    | (go_at_call 51; refine (erased_any _ (by assumption) _).mono ?_; rintro e w0 ⟨rfl, hw0⟩; rw [hw0, hd]; clear hw0)
    | (go_at_call 52; refine (sd _).mono ?_; rintro e w1 ⟨rfl, c1⟩; have HQ := Hid.mk (lks_start w HT.out c1 K S I O W); clear c1))
  clear sd
  generalize w1.heap.size = G at *
  generalize (w1.alloc (.cells #[.int .i64 K, .int .u64 S, .int .i64 I, .int .i64 O, .int .i64 W] 43)) = W1 at *
  obtain ⟨c0, c1, c2, c3, c4⟩ := HQ.out.2.1.five
  go_upto_region 5 with (first | (go_at_call 45; refine (fo _ HQ.out.2.2.2).mono ?_; rintro e w2 ⟨rfl, b2⟩; replace HQ := Hid.mk (HQ.out.call b2); clear b2))
  clear c0 c1 c2 c3 c4
  obtain ⟨c0, c1, c2, c3, c4⟩ := HQ.out.2.1.five
  obtain ⟨d0, d1, d2, d3, d4⟩ := HQ.out.1.five
  have f0 := HQ.out.1.frozen 0
  have f1 := HQ.out.1.frozen 1
  have f2 := HQ.out.1.frozen 2
  have f3 := HQ.out.1.frozen 3
  have f4 := HQ.out.1.frozen 4
  go_wp2_with fail
  have hr := tb_whole HQ.out.1 HQ.out.2.2.1 (Nat.le_refl _) 0 0 0 0 0
  exact bodyPost_ret (tb_result3 rfl rfl hr.1) rfl ⟨rfl, hr.2⟩
set_option maxHeartbeats 2000000 in
theorem look_va (d s : ByteArray) (zd : d.size ≤ 65535) (hd : allF d = false) {K S I O W L : Nat} (h6 : Six s K S I O W L) (hmay : mayB K I O W) (heq : padB (d.extract 0 (min L d.size)) d.size = d) (heq2 : spareB K S I O W (d.extract 0 (min L d.size)) d.size = s) (w : World) (hT : Tab w) :
    Calls Tryd.prog 30 #[.string d, .string s] w fun e w' => e = .returned (.tuple #[.int .i64 1, tagV K S I O W, .string (d.extract 0 (min L d.size))]) ∧ Below w.heap.size w w' := by
  have hMs : (d.extract 0 (min L d.size)).size ≤ d.size := by rw [ByteArray.size_extract]; omega
  have sd := fun w => said_any d s (by omega) h6 w
  generalize hM : d.extract 0 (min L d.size) = M at *
  have HM := Hid.mk hM
  clear hM
  unfold tagV at sd
  have fo := fun w hT => frame_ok K S I O W hmay M d.size hMs zd w hT
  unfold tagV at fo
  clear hmay
  rw [heq, heq2] at fo
  clear heq heq2
  have HT := Hid.mk hT
  clear hT
  have zd1 : d.size ≤ 1000000 := by omega
  go_enter Tryd.func30, Tryd.ntmps30
  go_upto_region 4 with (first
    | (go_at_call 51; refine (erased_any _ (by assumption) _).mono ?_; rintro e w0 ⟨rfl, hw0⟩; rw [hw0, hd]; clear hw0)
    | (go_at_call 52; refine (sd _).mono ?_; rintro e w1 ⟨rfl, c1⟩; have HQ := Hid.mk (lks_start w HT.out c1 K S I O W); clear c1))
  clear sd
  generalize w1.heap.size = G at *
  generalize (w1.alloc (.cells #[.int .i64 K, .int .u64 S, .int .i64 I, .int .i64 O, .int .i64 W] 43)) = W1 at *
  obtain ⟨c0, c1, c2, c3, c4⟩ := HQ.out.2.1.five
  go_upto_region 5 with (first | (go_at_call 45; refine (fo _ HQ.out.2.2.2).mono ?_; rintro e w2 ⟨rfl, b2⟩; replace HQ := Hid.mk (HQ.out.call b2); clear b2))
  clear c0 c1 c2 c3 c4
  obtain ⟨c0, c1, c2, c3, c4⟩ := HQ.out.2.1.five
  obtain ⟨d0, d1, d2, d3, d4⟩ := HQ.out.1.five
  have f0 := HQ.out.1.frozen 0
  have f1 := HQ.out.1.frozen 1
  have f2 := HQ.out.1.frozen 2
  have f3 := HQ.out.1.frozen 3
  have f4 := HQ.out.1.frozen 4
  go_wp2_with fail
  go_region
  have hr := tb_whole HQ.out.1 HQ.out.2.2.1 (Nat.le_refl _) K S I O W
  have HR := Hid.mk (And.intro hr.1.drew hr.2.drew)
  clear hr c0 c1 c2 c3 c4 d0 d1 d2 d3 d4 f0 f1 f2 f3 f4 HQ
  generalize (((((w2.setCell ⟨w.heap.size, 0, none⟩ (.int .i64 K)).setCell ⟨w.heap.size, 1, none⟩ (.int .u64 S)).setCell ⟨w.heap.size, 2, none⟩ (.int .i64 I)).setCell ⟨w.heap.size, 3, none⟩ (.int .i64 O)).setCell ⟨w.heap.size, 4, none⟩ (.int .i64 W)).drew = V at *
  go_wp2_with fail
  exact bodyPost_ret (tb_result3 rfl rfl HR.out.1) rfl ⟨rfl, HR.out.2⟩
set_option maxHeartbeats 2000000 in
theorem look_t1b (d s : ByteArray) (zd : d.size ≤ 65535) (zs : s.size ≤ 1000000) (hd : allF d = true) (hs : allF s = false) {K S I O W L : Nat} (h6 : Six s K S I O W L) (hbad : ¬ mayB K I O W) (w : World) (hT : Tab w) :
    Calls Tryd.prog 30 #[.string d, .string s] w fun e w' => e = .returned (lookV 2) ∧ Below w.heap.size w w' := by
  have hbW := h6.bounds.2.2.2.2.1
  have sd := fun w => said_any d s (by omega) h6 w
  generalize hM : d.extract 0 (min L d.size) = M at *
  have HM := Hid.mk hM
  clear hM
  unfold tagV at sd
  have fb := fun w => frame_bad K S I O W (by omega) M d.size (fun h => hbad (chk_iff.1 h.1)) w
  unfold tagV at fb
  clear hbad hbW
  have HT := Hid.mk hT
  clear hT
  have zd1 : d.size ≤ 1000000 := by omega
  go_enter Tryd.func30, Tryd.ntmps30
  go_upto_region 4 with (first
    | (go_at_call 51; refine (erased_any _ (by assumption) _).mono ?_; rintro e w0 ⟨rfl, hw0⟩; rw [hw0]; clear hw0; (first | rw [hd] | rw [hs]))
    | (go_at_call 52; refine (sd _).mono ?_; rintro e w1 ⟨rfl, c1⟩; have HQ := Hid.mk (lks_start w HT.out c1 K S I O W); clear c1))
  clear sd
  generalize w1.heap.size = G at *
  generalize (w1.alloc (.cells #[.int .i64 K, .int .u64 S, .int .i64 I, .int .i64 O, .int .i64 W] 43)) = W1 at *
  obtain ⟨c0, c1, c2, c3, c4⟩ := HQ.out.2.1.five
  go_upto_region 5 with (first | (go_at_call 45; refine (fb _).mono ?_; rintro e w2 ⟨rfl, b2⟩; replace HQ := Hid.mk (HQ.out.call b2); clear b2))
  clear c0 c1 c2 c3 c4
  obtain ⟨c0, c1, c2, c3, c4⟩ := HQ.out.2.1.five
  obtain ⟨d0, d1, d2, d3, d4⟩ := HQ.out.1.five
  have f0 := HQ.out.1.frozen 0
  have f1 := HQ.out.1.frozen 1
  have f2 := HQ.out.1.frozen 2
  have f3 := HQ.out.1.frozen 3
  have f4 := HQ.out.1.frozen 4
  go_wp2_with fail
  have hr := tb_whole HQ.out.1 HQ.out.2.2.1 (Nat.le_refl _) 0 0 0 0 0
  exact bodyPost_ret (tb_result3 rfl rfl hr.1) rfl ⟨rfl, hr.2⟩
set_option maxHeartbeats 2000000 in
theorem look_t2b (d s : ByteArray) (zd : d.size ≤ 65535) (zs : s.size ≤ 1000000) (hd : allF d = true) (hs : allF s = false) {K S I O W L : Nat} (h6 : Six s K S I O W L) (hmay : mayB K I O W) (hne : ¬ padB (d.extract 0 (min L d.size)) d.size = d) (w : World) (hT : Tab w) :
    Calls Tryd.prog 30 #[.string d, .string s] w fun e w' => e = .returned (lookV 2) ∧ Below w.heap.size w w' := by
  have hMs : (d.extract 0 (min L d.size)).size ≤ d.size := by rw [ByteArray.size_extract]; omega
  have hnb := bytes_beq_false _ _ hne
  clear hne
  have sd := fun w => said_any d s (by omega) h6 w
  generalize hM : d.extract 0 (min L d.size) = M at *
  have HM := Hid.mk hM
  clear hM
  unfold tagV at sd
  have fo := fun w hT => frame_ok K S I O W hmay M d.size hMs zd w hT
  unfold tagV at fo
  clear hmay
  generalize padB M d.size = D at *
  generalize spareB K S I O W M d.size = P at *
  have HT := Hid.mk hT
  clear hT
  have zd1 : d.size ≤ 1000000 := by omega
  go_enter Tryd.func30, Tryd.ntmps30
  go_upto_region 4 with (first
    | (go_at_call 51; refine (erased_any _ (by assumption) _).mono ?_; rintro e w0 ⟨rfl, hw0⟩; rw [hw0]; clear hw0; (first | rw [hd] | rw [hs]))
    | (go_at_call 52; refine (sd _).mono ?_; rintro e w1 ⟨rfl, c1⟩; have HQ := Hid.mk (lks_start w HT.out c1 K S I O W); clear c1))
  clear sd
  generalize w1.heap.size = G at *
  generalize (w1.alloc (.cells #[.int .i64 K, .int .u64 S, .int .i64 I, .int .i64 O, .int .i64 W] 43)) = W1 at *
  obtain ⟨c0, c1, c2, c3, c4⟩ := HQ.out.2.1.five
  go_upto_region 5 with (first | (go_at_call 45; refine (fo _ HQ.out.2.2.2).mono ?_; rintro e w2 ⟨rfl, b2⟩; replace HQ := Hid.mk (HQ.out.call b2); clear b2))
  clear c0 c1 c2 c3 c4
  obtain ⟨c0, c1, c2, c3, c4⟩ := HQ.out.2.1.five
  obtain ⟨d0, d1, d2, d3, d4⟩ := HQ.out.1.five
  have f0 := HQ.out.1.frozen 0
  have f1 := HQ.out.1.frozen 1
  have f2 := HQ.out.1.frozen 2
  have f3 := HQ.out.1.frozen 3
  have f4 := HQ.out.1.frozen 4
  go_wp2_with fail
  have hr := tb_whole HQ.out.1 HQ.out.2.2.1 (Nat.le_refl _) 0 0 0 0 0
  exact bodyPost_ret (tb_result3 rfl rfl hr.1) rfl ⟨rfl, hr.2⟩
set_option maxHeartbeats 2000000 in
theorem look_t3b (d s : ByteArray) (zd : d.size ≤ 65535) (zs : s.size ≤ 1000000) (hd : allF d = true) (hs : allF s = false) {K S I O W L : Nat} (h6 : Six s K S I O W L) (hmay : mayB K I O W) (heq : padB (d.extract 0 (min L d.size)) d.size = d) (hne : ¬ spareB K S I O W (d.extract 0 (min L d.size)) d.size = s) (w : World) (hT : Tab w) :
    Calls Tryd.prog 30 #[.string d, .string s] w fun e w' => e = .returned (lookV 2) ∧ Below w.heap.size w w' := by
  have hMs : (d.extract 0 (min L d.size)).size ≤ d.size := by rw [ByteArray.size_extract]; omega
  have hnb := bytes_beq_false _ _ hne
  clear hne
  have sd := fun w => said_any d s (by omega) h6 w
  generalize hM : d.extract 0 (min L d.size) = M at *
  have HM := Hid.mk hM
  clear hM
  unfold tagV at sd
  have fo := fun w hT => frame_ok K S I O W hmay M d.size hMs zd w hT
  unfold tagV at fo
  clear hmay
  rw [heq] at fo
  clear heq
  generalize spareB K S I O W M d.size = P at *
  have HT := Hid.mk hT
  clear hT
  have zd1 : d.size ≤ 1000000 := by omega
  go_enter Tryd.func30, Tryd.ntmps30
  go_upto_region 4 with (first
    | (go_at_call 51; refine (erased_any _ (by assumption) _).mono ?_; rintro e w0 ⟨rfl, hw0⟩; rw [hw0]; clear hw0; (first | rw [hd] | rw [hs]))
    | (go_at_call 52; refine (sd _).mono ?_; rintro e w1 ⟨rfl, c1⟩; have HQ := Hid.mk (lks_start w HT.out c1 K S I O W); clear c1))
  clear sd
  generalize w1.heap.size = G at *
  generalize (w1.alloc (.cells #[.int .i64 K, .int .u64 S, .int .i64 I, .int .i64 O, .int .i64 W] 43)) = W1 at *
  obtain ⟨c0, c1, c2, c3, c4⟩ := HQ.out.2.1.five
  go_upto_region 5 with (first | (go_at_call 45; refine (fo _ HQ.out.2.2.2).mono ?_; rintro e w2 ⟨rfl, b2⟩; replace HQ := Hid.mk (HQ.out.call b2); clear b2))
  clear c0 c1 c2 c3 c4
  obtain ⟨c0, c1, c2, c3, c4⟩ := HQ.out.2.1.five
  obtain ⟨d0, d1, d2, d3, d4⟩ := HQ.out.1.five
  have f0 := HQ.out.1.frozen 0
  have f1 := HQ.out.1.frozen 1
  have f2 := HQ.out.1.frozen 2
  have f3 := HQ.out.1.frozen 3
  have f4 := HQ.out.1.frozen 4
  go_wp2_with fail
  have hr := tb_whole HQ.out.1 HQ.out.2.2.1 (Nat.le_refl _) 0 0 0 0 0
  exact bodyPost_ret (tb_result3 rfl rfl hr.1) rfl ⟨rfl, hr.2⟩
set_option maxHeartbeats 2000000 in
theorem look_vb (d s : ByteArray) (zd : d.size ≤ 65535) (zs : s.size ≤ 1000000) (hd : allF d = true) (hs : allF s = false) {K S I O W L : Nat} (h6 : Six s K S I O W L) (hmay : mayB K I O W) (heq : padB (d.extract 0 (min L d.size)) d.size = d) (heq2 : spareB K S I O W (d.extract 0 (min L d.size)) d.size = s) (w : World) (hT : Tab w) :
    Calls Tryd.prog 30 #[.string d, .string s] w fun e w' => e = .returned (.tuple #[.int .i64 1, tagV K S I O W, .string (d.extract 0 (min L d.size))]) ∧ Below w.heap.size w w' := by
  have hMs : (d.extract 0 (min L d.size)).size ≤ d.size := by rw [ByteArray.size_extract]; omega
  have sd := fun w => said_any d s (by omega) h6 w
  generalize hM : d.extract 0 (min L d.size) = M at *
  have HM := Hid.mk hM
  clear hM
  unfold tagV at sd
  have fo := fun w hT => frame_ok K S I O W hmay M d.size hMs zd w hT
  unfold tagV at fo
  clear hmay
  rw [heq, heq2] at fo
  clear heq heq2
  have HT := Hid.mk hT
  clear hT
  have zd1 : d.size ≤ 1000000 := by omega
  go_enter Tryd.func30, Tryd.ntmps30
  go_upto_region 4 with (first
    | (go_at_call 51; refine (erased_any _ (by assumption) _).mono ?_; rintro e w0 ⟨rfl, hw0⟩; rw [hw0]; clear hw0; (first | rw [hd] | rw [hs]))
    | (go_at_call 52; refine (sd _).mono ?_; rintro e w1 ⟨rfl, c1⟩; have HQ := Hid.mk (lks_start w HT.out c1 K S I O W); clear c1))
  clear sd
  generalize w1.heap.size = G at *
  generalize (w1.alloc (.cells #[.int .i64 K, .int .u64 S, .int .i64 I, .int .i64 O, .int .i64 W] 43)) = W1 at *
  obtain ⟨c0, c1, c2, c3, c4⟩ := HQ.out.2.1.five
  go_upto_region 5 with (first | (go_at_call 45; refine (fo _ HQ.out.2.2.2).mono ?_; rintro e w2 ⟨rfl, b2⟩; replace HQ := Hid.mk (HQ.out.call b2); clear b2))
  clear c0 c1 c2 c3 c4
  obtain ⟨c0, c1, c2, c3, c4⟩ := HQ.out.2.1.five
  obtain ⟨d0, d1, d2, d3, d4⟩ := HQ.out.1.five
  have f0 := HQ.out.1.frozen 0
  have f1 := HQ.out.1.frozen 1
  have f2 := HQ.out.1.frozen 2
  have f3 := HQ.out.1.frozen 3
  have f4 := HQ.out.1.frozen 4
  go_wp2_with fail
  go_region
  have hr := tb_whole HQ.out.1 HQ.out.2.2.1 (Nat.le_refl _) K S I O W
  have HR := Hid.mk (And.intro hr.1.drew hr.2.drew)
  clear hr c0 c1 c2 c3 c4 d0 d1 d2 d3 d4 f0 f1 f2 f3 f4 HQ
  generalize (((((w2.setCell ⟨w.heap.size, 0, none⟩ (.int .i64 K)).setCell ⟨w.heap.size, 1, none⟩ (.int .u64 S)).setCell ⟨w.heap.size, 2, none⟩ (.int .i64 I)).setCell ⟨w.heap.size, 3, none⟩ (.int .i64 O)).setCell ⟨w.heap.size, 4, none⟩ (.int .i64 W)).drew = V at *
  go_wp2_with fail
  exact bodyPost_ret (tb_result3 rfl rfl HR.out.1) rfl ⟨rfl, HR.out.2⟩
end Go.Proofs.YtbhggcleijjofaaDoor.Pg
