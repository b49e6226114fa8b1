/-
  super.Of.
-/
import Derived.Test.YtnhondkdkjehaaaGreatHPut
import Derived.Test.YtnhondkdkjehaaaGreatOpenS
namespace Go.Proofs.YtnhondkdkjehaaaGreat
open Go.RowKit

set_option linter.unusedVariables false
set_option linter.unusedSimpArgs false
theorem stSmall_len (m : Int) (q : Lay.St) : (Lay.stSmall m q).1.length ≤ q.1.length := by
  have := Lay.stNum_len q
  unfold Lay.stSmall
  split
  · split
    · exact Nat.zero_le _
    · exact this
  · exact this
theorem rq1_len (b : List UInt8) : (rq1 b).1.length ≤ b.length := Lay.stNum_len (rq0 b)
theorem rq2_len (b : List UInt8) : (rq2 b).1.length ≤ b.length := Nat.le_trans (stSmall_len _ _) (rq1_len b)
theorem rq3_len (b : List UInt8) : (rq3 b).1.length ≤ b.length := Nat.le_trans (Lay.stNum_len _) (rq2_len b)
theorem rq4_len (b : List UInt8) : (rq4 b).1.length ≤ b.length := Nat.le_trans (stSmall_len _ _) (rq3_len b)
/-- What Of hands on. -/
def OfSays (w : World) (l : List UInt8) (blocks : Int) (e : Ending) (w' : World) : Prop :=
  (headOf l blocks = none → e = .returned (.tuple #[.agg (hv Hd.zero), .bool false])) ∧ (∀ h, headOf l blocks = some h → e = .returned (.tuple #[.agg (hv h), .bool true])) ∧ Below w.heap.size w w'
set_option maxRecDepth 100000 in
set_option maxHeartbeats 16000000 in
theorem of_says (w : World) (A : Option Addr) (c : Nat) (l : List UInt8) (hl : Lies w (fun _ => True) A 256 c (bc l)) (blocks : Int) (hbk : -9223372036854775808 ≤ blocks ∧ blocks ≤ 9223372036854775807) :
    Calls Tryz.prog 97 #[.slice A 256 c, .int .i64 blocks] w (OfSays w l blocks) := by
  have hll : l.length = 256 := by rw [← bc_length]; exact hl.len
  obtain ⟨w1, hw1⟩ : ∃ x, w.alloc (.cells #[.int .u64 0, .int .u64 0, .int .i64 0, .int .u64 0, .int .i64 0] 78) = x := ⟨_, rfl⟩
  have HB1 := Lib.hid (show Below w.heap.size w w1 by rw [← hw1]; exact (Below.refl _ w).alloc (Nat.le_refl _) _)
  have HZ1 := Lib.hid (show Box w1 w.heap.size 78 (hv Hd.zero) by rw [← hw1]; exact Box.made w _ _)
  have HL1 := Lib.hid ((hl.weak (N' := fun b => b < w.heap.size) (fun b h _ => h)).below HB1.out)
  have HBK := Lib.hid hbk
  clear hl hbk
  go_enter Tryz.func97, Tryz.ntmps97
  go_wp2_with fail
  refine (open_says w1 A c l (HL1.out.weak (fun _ _ _ => trivial))).mono ?_
  rintro r wa ⟨hno, hyes, hba⟩
  have hhead : headOf l blocks = match opens l with
    | some (m, b) => if (m.kind = 9 ∧ m.epoch = m.seq) ∧ Lay.stEnd (rq4 b) = 0 ∧ (headFrom m.epoch m.he b).rightB blocks = true then some (headFrom m.epoch m.he b) else none
    | none => none := rfl
  cases hop : opens l with
  | none =>
    obtain rfl := hno hop
    rw [hop] at hhead
    have HN := Lib.hid hhead
    obtain ⟨wb, hwb⟩ : ∃ x, wa.alloc (.cells #[.int .u8 0, .int .u64 0, .int .u64 0] 126) = x := ⟨_, rfl⟩
    have hbwb : Below wa.heap.size wa wb := by rw [← hwb]; exact (Below.refl _ wa).alloc (Nat.le_refl _) _
    have hmwb : Box wb wa.heap.size 126 (mv Mk.zero) := by rw [← hwb]; exact Box.made wa _ _
    obtain ⟨wd, hwd⟩ : ∃ x, wb.setRow wa.heap.size (mv Mk.zero) = x := ⟨_, rfl⟩
    have hmwd : Box wd wa.heap.size 126 (mv Mk.zero) := by rw [← hwd]; exact setRow_heap _ _ _ _ _ _ hmwb
    have hbwd : Below wa.heap.size wa wd := hbwb.trans (by rw [← hwd]; exact (Below.refl _ wb).grown (grown_row (grown_refl _ (some wa.heap.size)) _) hbwb.size (fun k e => by injection e with e; omega))
    have HMwb := Lib.hid hmwb
    have HWwd := Lib.hid hwd
    have HBd := Lib.hid (HB1.out.trans ((hba.trans (hbwd.mono hba.size)).mono HB1.out.size))
    have hbad := hba.trans (hbwd.mono hba.size)
    have HZd := Lib.hid (Box.below HZ1.out hbad HZ1.out.lt)
    clear hno hyes hba hop hhead hbwb hmwb hwd hmwd hbwd hbad hll
    go_upto_region 2 with (refine wpList_store_row rfl 126 _ _ rfl wa.heap.size (mv Mk.zero) rfl rfl 126 _ HMwb.out (by rw [mv_size]; exact mkInfo) rfl (mv_one _) ?_; rw [HWwd.out])
    try simp only [Act.put]
    go_cut [25] (fun v wx => Hid (v = .bool true ∧ Below wd.heap.size wd wx))
    case first =>
      refine wp_region_grows (by kernel_rfl) (by kernel_rfl) ?_
      iterate 3 (first
          | quiet_step (fail))
      iterate 5 (with_reducible refine wpQuiet_no ?_ ?_; (· first | (go_simp; done) | (go_simp; simp [undef]; done)); simp only [Act.put, List.setIfInBounds_toArray, List.set_cons_zero, List.set_cons_succ])
      iterate 1 (first
          | quiet_step (fail))
      refine wpQuiet_nil ?_
      rintro wx ⟨⟨_, hwx⟩, rfl⟩
      go_wp2
      go_meet
      exact Lib.hid ⟨rfl, hwx⟩
    case rest =>
      obtain ⟨rfl, hbx⟩ := hcut.out
      have HBx := Lib.hid (HBd.out.trans (hbx.mono HBd.out.size))
      have HZx := Lib.hid (Box.below HZd.out hbx HZd.out.lt)
      clear hbx hcut HBd HZd
      obtain ⟨w9, hw9⟩ : ∃ x, wc.setRow w.heap.size (hv Hd.zero) = x := ⟨_, rfl⟩
      have hm9 : Box w9 w.heap.size 78 (hv Hd.zero) := by rw [← hw9]; exact setRow_heap _ _ _ _ _ _ HZx.out
      have HB9 := Lib.hid (show Below w.heap.size w w9 from HBx.out.trans (by rw [← hw9]; exact (Below.refl _ wc).grown (grown_row (grown_refl _ (some w.heap.size)) _) HBx.out.size (fun k e => by injection e with e; omega)))
      have e0 : w9.cell? ⟨w.heap.size, 0, none⟩ = some (.int .u64 (Hd.zero.gen : Int)) := (Box.cell hm9 0).trans rfl
      have e1 : w9.cell? ⟨w.heap.size, 1, none⟩ = some (.int .u64 (Hd.zero.epoch : Int)) := (Box.cell hm9 1).trans rfl
      have e2 : w9.cell? ⟨w.heap.size, 2, none⟩ = some (.int .i64 Hd.zero.pos) := (Box.cell hm9 2).trans rfl
      have e3 : w9.cell? ⟨w.heap.size, 3, none⟩ = some (.int .u64 (Hd.zero.seq : Int)) := (Box.cell hm9 3).trans rfl
      have e4 : w9.cell? ⟨w.heap.size, 4, none⟩ = some (.int .i64 Hd.zero.log) := (Box.cell hm9 4).trans rfl
      have HW9 := Lib.hid hw9
      clear hm9 hw9
      go_wp2_with (refine wpList_store_row rfl 78 _ _ rfl w.heap.size (hv Hd.zero) rfl rfl 78 _ HZx.out (by rw [hv_size]; exact hdInfo) rfl (hv_one _) ?_; rw [HW9.out])
      exact bodyPost_ret (v := .tuple #[.agg (hv Hd.zero), .bool false]) (by simp [results, Tryz.results97, go_sem, e0, e1, e2, e3, e4, hv]) rfl ⟨fun _ => rfl, fun h hh => (by rw [HN.out] at hh; cases hh), HB9.out⟩
  | some mb =>
    obtain ⟨m, b⟩ := mb
    obtain ⟨gs, rfl, hgs, hxs⟩ := hyes m b hop
    obtain ⟨_, hbl, _⟩ := opens_some hll hop
    rw [hop] at hhead
    simp only at hhead
    obtain ⟨wb, hwb⟩ : ∃ x, wa.alloc (.cells #[.int .u8 0, .int .u64 0, .int .u64 0] 126) = x := ⟨_, rfl⟩
    have hbwb : Below wa.heap.size wa wb := by rw [← hwb]; exact (Below.refl _ wa).alloc (Nat.le_refl _) _
    have hmwb : Box wb wa.heap.size 126 (mv Mk.zero) := by rw [← hwb]; exact Box.made wa _ _
    obtain ⟨wd, hwd⟩ : ∃ x, wb.setRow wa.heap.size (mv m) = x := ⟨_, rfl⟩
    have hmwd : Box wd wa.heap.size 126 (mv m) := by rw [← hwd]; exact setRow_heap _ _ _ _ _ _ hmwb
    have hbwd : Below wa.heap.size wa wd := hbwb.trans (by rw [← hwd]; exact (Below.refl _ wb).grown (grown_row (grown_refl _ (some wa.heap.size)) _) hbwb.size (fun k e => by injection e with e; omega))
    have HMwb := Lib.hid hmwb
    have HWwd := Lib.hid hwd
    have HBd := Lib.hid (HB1.out.trans ((hba.trans (hbwd.mono hba.size)).mono HB1.out.size))
    have hbad := hba.trans (hbwd.mono hba.size)
    have HZd := Lib.hid (Box.below HZ1.out hbad HZ1.out.lt)
    have HMd := Lib.hid hmwd
    have HXd := Lib.hid (Box.below hxs hbwd hxs.lt)
    have HRM := Lib.hid (range_grows (mk_range hmwd) hmwd.lt)
    have hcE := cell_grows (p := ⟨wa.heap.size, 1, none⟩) (v := .int .u64 (m.epoch : Int)) hmwd.lt ((Box.cell hmwd 1).trans rfl)
    have HMO := Lib.hid (show ∀ p : Grows wd, Calls Tryz.prog 114 #[.int .u64 (m.epoch : Int)] p.val fun e w'' => e = .returned (.agg (mv (mk9 m.epoch m.he))) ∧ ∃ p' : Grows wd, w'' = p'.val from fun p => Calls.grows (smarkOf_says p.val m.epoch m.he))
    have HHD := Lib.hid hhead
    clear hno hyes hba hop hhead hbwb hmwb hwd hmwd hbwd hbad hll hgs hxs
    go_upto_region 2 with (refine wpList_store_row rfl 126 _ _ rfl wa.heap.size (mv m) rfl rfl 126 _ HMwb.out (by rw [mv_size]; exact mkInfo) rfl (mv_one _) ?_; rw [HWwd.out])
    try simp only [Act.put]
    go_cut [25] (fun v wx => Hid (v = .bool (!decide (m = mk9 m.epoch m.he)) ∧ Below wd.heap.size wd wx))
    case first =>
      refine wp_region_grows (by kernel_rfl) (by kernel_rfl) ?_
      iterate 9 (first
          | (refine wpQuiet_load_yes (by go_simp; done) 126 (.tmp 6) rfl wa.heap.size 0 rfl (mvl m) _ HRM.out Tryz.underlying126 rfl (by kernel_rfl) ?_; simp only [Act.put, List.setIfInBounds_toArray, List.set_cons_zero, List.set_cons_succ])
          | (refine wpQuiet_neq_mk (by go_simp; done) (.tmp 20) (.tmp 23) rfl m (mk9 m.epoch m.he) (!decide (m = mk9 m.epoch m.he)) rfl rfl rfl ?_; simp only [Act.put, List.setIfInBounds_toArray, List.set_cons_zero, List.set_cons_succ])
          | quiet_step (first | (go_at_call 114; exact HMO.out _)))
      refine wpQuiet_nil ?_
      rintro wx ⟨⟨_, hwx⟩, rfl⟩
      go_wp2
      go_meet
      exact Lib.hid ⟨by simp, hwx⟩
    case rest =>
      obtain ⟨rfl, hbx⟩ := hcut.out
      have HBx := Lib.hid (HBd.out.trans (hbx.mono HBd.out.size))
      have HZx := Lib.hid (Box.below HZd.out hbx HZd.out.lt)
      have HMx := Lib.hid (Box.below HMd.out hbx HMd.out.lt)
      have HXx := Lib.hid (Box.below HXd.out hbx HXd.out.lt)
      clear hbx hcut HBd HZd HMd HXd HRM hcE HMO
      by_cases hmk : m = mk9 m.epoch m.he
      · have HMK := Lib.hid (show m.kind = 9 ∧ m.epoch = m.seq from ⟨by rw [hmk]; rfl, by rw [hmk]; rfl⟩)
        have d1 : (!decide (m = mk9 m.epoch m.he)) = false := by rw [decide_eq_true hmk]; rfl
        rw [d1]
        clear hmk d1
        have cg : wc.cell? ⟨wa.heap.size, 1, none⟩ = some (.int .u64 (m.epoch : Int)) := (Box.cell HMx.out 1).trans rfl
        obtain ⟨g, hg⟩ : ∃ g, m.epoch = g := ⟨_, rfl⟩
        have hgl : g < 18446744073709551616 := by rw [← hg]; exact m.he
        have HHD2 := Lib.hid (show headOf l blocks = if Lay.stEnd (rq4 b) = 0 ∧ (headFrom g hgl b).rightB blocks = true then some (headFrom g hgl b) else none by
          subst hg
          rw [HHD.out]
          by_cases hc : Lay.stEnd (rq4 b) = 0 ∧ (headFrom m.epoch m.he b).rightB blocks = true
          · rw [if_pos ⟨HMK.out, hc⟩, if_pos hc]
          · rw [if_neg (fun e => hc e.2), if_neg hc])
        rw [hg] at cg
        clear hg HHD
        obtain ⟨P, hP⟩ : ∃ x, (⟨b.toArray⟩ : ByteArray) = x := ⟨_, rfl⟩
        obtain ⟨e1', he1'⟩ : ∃ x, Lay.stNumV (rq0 b) = x := ⟨_, rfl⟩
        obtain ⟨p2', hp2'⟩ : ∃ x, Lay.stSmallV 9223372036854775807 (rq1 b) = x := ⟨_, rfl⟩
        obtain ⟨s3', hs3'⟩ : ∃ x, Lay.stNumV (rq2 b) = x := ⟨_, rfl⟩
        obtain ⟨l4', hl4'⟩ : ∃ x, Lay.stSmallV 9223372036854775807 (rq3 b) = x := ⟨_, rfl⟩
        obtain ⟨we, hwe⟩ : ∃ x, wc.alloc (.cells #[.int .u64 0, .int .u64 0, .int .i64 0, .int .u64 0, .int .i64 0] 78) = x := ⟨_, rfl⟩
        have hbwe : Below wc.heap.size wc we := by rw [← hwe]; exact (Below.refl _ wc).alloc (Nat.le_refl _) _
        have hmwe : Box we wc.heap.size 78 (hv Hd.zero) := by rw [← hwe]; exact Box.made wc _ _
        obtain ⟨wf, hwf⟩ : ∃ x, we.setRow wc.heap.size (hv ⟨g, 0, 0, 0, 0, hgl, by omega, by omega, by omega, by omega⟩) = x := ⟨_, rfl⟩
        have hmwf : Box wf wc.heap.size 78 (hv ⟨g, 0, 0, 0, 0, hgl, by omega, by omega, by omega, by omega⟩) := by rw [← hwf]; exact setRow_heap _ _ _ _ _ _ hmwe
        have hbwf : Below wc.heap.size wc wf := hbwe.trans (by rw [← hwf]; exact (Below.refl _ we).grown (grown_row (grown_refl _ (some wc.heap.size)) _) hbwe.size (fun k e => by injection e with e; omega))
        have HMwe := Lib.hid hmwe
        have HWwf := Lib.hid hwf
        have hwcl : w.heap.size < wc.heap.size := HZx.out.lt
        have HBf := Lib.hid (HBx.out.trans (hbwf.mono HBx.out.size))
        have HZf := Lib.hid (Box.below HZx.out hbwf HZx.out.lt)
        have HHf := Lib.hid hmwf
        have hcv := conv_lies (lies_box (N := fun _ => True) (Box.below HXx.out hbwf HXx.out.lt) trivial (n := b.length) rfl)
        rw [hP] at hcv
        have HP := Lib.hid hP
        have hgf : wc.heap.size < wf.heap.size := hmwf.lt
        clear hbwf hmwf hwf hmwe hbwe hP HBx HZx HMx HXx
        go_upto_region 5 with (refine wpList_store_row rfl 78 _ _ rfl wc.heap.size (hv ⟨g, 0, 0, 0, 0, hgl, by omega, by omega, by omega, by omega⟩) rfl rfl 78 _ HMwe.out (by rw [hv_size]; exact hdInfo) rfl (hv_one _) ?_; rw [HWwf.out])
        obtain ⟨gh, hgh⟩ : ∃ x, wc.heap.size = x := ⟨_, rfl⟩
        rw [hgh] at hwcl HHf hgf ⊢
        clear hgh cg hwe HMwe HWwf
        obtain ⟨wg, hwg⟩ : ∃ x, wf.alloc (.cells #[.bool true, .string P, .int .i64 0] 197) = x := ⟨_, rfl⟩
        have hbwg : Below wf.heap.size wf wg := by rw [← hwg]; exact (Below.refl _ wf).alloc (Nat.le_refl _) _
        have hr0 : Lay.Rds wg wf.heap.size (rq0 b) := by rw [← hwg]; show Box _ _ _ #[.bool true, .string ⟨b.toArray⟩, .int .i64 0]; rw [HP.out]; exact Box.made wf _ _
        have HBg := Lib.hid (HBf.out.trans (hbwg.mono HBf.out.size))
        have HZg := Lib.hid (Box.below HZf.out hbwg HZf.out.lt)
        have HHg := Lib.hid (Box.below HHf.out hbwg HHf.out.lt)
        have hRA := Lay.read_any P wf
        rw [hwg] at hRA
        go_wp2_with fail
        refine hRA.mono ?_
        rintro r6 w6 ⟨rfl, hw6⟩
        obtain rfl : wg = w6 := hw6
        obtain ⟨gi, hgi⟩ : ∃ x, wf.heap.size = x := ⟨_, rfl⟩
        rw [hgi] at hr0 hgf ⊢
        have HR0 := Lib.hid hr0
        clear hRA hwg hbwg hr0 hgi HBf HZf HHf hcv HP
        have hbml : b.length ≤ maxLen := by unfold maxLen; omega

        -- the first two numbers
        go_wp2_with fail
        refine (Lay.number_rds HR0.out hbml).mono ?_
        rw [he1']
        rintro r7 w7 ⟨rfl, hr7, hg7⟩
        have hr7 : Lay.Rds w7 gi (rq1 b) := hr7
        have HR7 := Lib.hid hr7
        have HB7 := Lib.hid (below_grown HBg.out hg7 (by omega) HBg.out.size)
        have HZ7 := Lib.hid (Box.grown HZg.out hg7 (by simp; omega))
        have HH7 := Lib.hid (Box.grown HHg.out hg7 (by simp; omega))
        clear hr7 hg7 HR0 HBg HZg HHg
        go_wp2_with fail
        refine (Lay.small_rds HR7.out (Nat.le_trans (rq1_len b) hbml) 9223372036854775807 (by omega)).mono ?_
        rw [hp2']
        rintro r8 w8 ⟨rfl, hr8, hg8⟩
        have hr8 : Lay.Rds w8 gi (rq2 b) := hr8
        have hH8 := Box.grown HH7.out hg8 (by simp; omega)
        have hB8 := below_grown HB7.out hg8 (by omega) HB7.out.size
        have hZ8 := Box.grown HZ7.out hg8 (by simp; omega)
        have k1 : w8.cell? ⟨gh, 1, none⟩ = some (.int .u64 0) := (Box.cell hH8 1).trans rfl
        have f1 := Box.frozen hH8 1
        obtain ⟨wA, hwA⟩ : ∃ x, w8.setCell ⟨gh, 1, none⟩ (.int .u64 (e1' : Int)) = x := ⟨_, rfl⟩
        have hHA : Box wA gh 78 #[.int .u64 (g : Int), .int .u64 (e1' : Int), .int .i64 0, .int .u64 0, .int .i64 0] := by
          rw [← hwA]
          have := Box.put hH8 1 (.int .u64 (e1' : Int))
          simpa [hv] using this
        have gA : w8.grownBy wA (some gh) := by rw [← hwA]; exact grown_set (grown_refl _ _) _ _
        have k2 : wA.cell? ⟨gh, 2, none⟩ = some (.int .i64 0) := (Box.cell hHA 2).trans rfl
        have f2 := Box.frozen hHA 2
        obtain ⟨wB, hwB⟩ : ∃ x, wA.setCell ⟨gh, 2, none⟩ (.int .i64 (p2' : Int)) = x := ⟨_, rfl⟩
        have hHB : Box wB gh 78 #[.int .u64 (g : Int), .int .u64 (e1' : Int), .int .i64 (p2' : Int), .int .u64 0, .int .i64 0] := by
          rw [← hwB]
          have := Box.put hHA 2 (.int .i64 (p2' : Int))
          simpa using this
        have gB : w8.grownBy wB (some gh) := by rw [← hwB]; exact grown_set gA _ _
        have HRB := Lib.hid (show Lay.Rds wB gi (rq2 b) from Box.grown hr8 gB (by simp; omega))
        have HBB := Lib.hid (below_grown hB8 gB (by omega) hB8.size)
        have HZB := Lib.hid (Box.grown hZ8 gB (by simp; omega))
        have HHB := Lib.hid hHB
        clear hr8 hg8 hH8 hB8 hZ8 hHA gA hHB gB HR7 HB7 HZ7 HH7
        go_wp2_with fail
        clear k1 f1 k2 f2 hwA hwB
        refine (Lay.number_rds HRB.out (Nat.le_trans (rq2_len b) hbml)).mono ?_
        rw [hs3']
        rintro r7 w7 ⟨rfl, hr7, hg7⟩
        have hr7 : Lay.Rds w7 gi (rq3 b) := hr7
        have HR7 := Lib.hid hr7
        have HB7 := Lib.hid (below_grown HBB.out hg7 (by omega) HBB.out.size)
        have HZ7 := Lib.hid (Box.grown HZB.out hg7 (by simp; omega))
        have HH7 := Lib.hid (Box.grown HHB.out hg7 (by simp; omega))
        clear hr7 hg7 HRB HBB HZB HHB
        go_wp2_with fail
        refine (Lay.small_rds HR7.out (Nat.le_trans (rq3_len b) hbml) 9223372036854775807 (by omega)).mono ?_
        rw [hl4']
        rintro r8 w8 ⟨rfl, hr8, hg8⟩
        have hr8 : Lay.Rds w8 gi (rq4 b) := hr8
        have hH8 := Box.grown HH7.out hg8 (by simp; omega)
        have hB8 := below_grown HB7.out hg8 (by omega) HB7.out.size
        have hZ8 := Box.grown HZ7.out hg8 (by simp; omega)
        have k1 : w8.cell? ⟨gh, 3, none⟩ = some (.int .u64 0) := (Box.cell hH8 3).trans rfl
        have f1 := Box.frozen hH8 3
        obtain ⟨wC, hwC⟩ : ∃ x, w8.setCell ⟨gh, 3, none⟩ (.int .u64 (s3' : Int)) = x := ⟨_, rfl⟩
        have hHA : Box wC gh 78 #[.int .u64 (g : Int), .int .u64 (e1' : Int), .int .i64 (p2' : Int), .int .u64 (s3' : Int), .int .i64 0] := by
          rw [← hwC]
          have := Box.put hH8 3 (.int .u64 (s3' : Int))
          simpa using this
        have gA : w8.grownBy wC (some gh) := by rw [← hwC]; exact grown_set (grown_refl _ _) _ _
        have k2 : wC.cell? ⟨gh, 4, none⟩ = some (.int .i64 0) := (Box.cell hHA 4).trans rfl
        have f2 := Box.frozen hHA 4
        obtain ⟨wD, hwD⟩ : ∃ x, wC.setCell ⟨gh, 4, none⟩ (.int .i64 (l4' : Int)) = x := ⟨_, rfl⟩
        have hHB : Box wD gh 78 #[.int .u64 (g : Int), .int .u64 (e1' : Int), .int .i64 (p2' : Int), .int .u64 (s3' : Int), .int .i64 (l4' : Int)] := by
          rw [← hwD]
          have := Box.put hHA 4 (.int .i64 (l4' : Int))
          simpa using this
        have gB : w8.grownBy wD (some gh) := by rw [← hwD]; exact grown_set gA _ _
        obtain ⟨hd, hhd⟩ : ∃ x, headFrom g hgl b = x := ⟨_, rfl⟩
        have hvd : hv hd = #[.int .u64 (g : Int), .int .u64 (e1' : Int), .int .i64 (p2' : Int), .int .u64 (s3' : Int), .int .i64 (l4' : Int)] := by
          rw [← hhd, ← he1', ← hp2', ← hs3', ← hl4']
          rfl
        rw [← hvd] at hHB
        have HRD := Lib.hid (show Lay.Rds wD gi (rq4 b) from Box.grown hr8 gB (by simp; omega))
        have HBD := Lib.hid (below_grown hB8 gB (by omega) hB8.size)
        have HZD := Lib.hid (Box.grown hZ8 gB (by simp; omega))
        have HHD := Lib.hid hHB
        rw [hhd] at HHD2
        clear hr8 hg8 hH8 hB8 hZ8 hHA gA hHB gB HR7 HB7 HZ7 HH7 hvd hhd he1' hp2' hs3' hl4'
        go_wp2_with fail
        clear k1 f1 k2 f2 hwC hwD
        refine (Lay.end_rds HRD.out).mono ?_
        rintro r9 wE ⟨rfl, hwE⟩
        obtain rfl : wD = wE := hwE
        obtain ⟨en, hen⟩ : ∃ x, Lay.stEnd (rq4 b) = x := ⟨_, rfl⟩
        rw [hen] at HHD2 ⊢
        clear hen HRD
        by_cases h0 : en = 0
        · subst h0
          have HRI := Lib.hid (right_says wD hd blocks HBK.out)
          have q0 : wD.cell? ⟨gh, 0, none⟩ = some (.int .u64 (hd.gen : Int)) := (Box.cell HHD.out 0).trans rfl
          have q1 : wD.cell? ⟨gh, 1, none⟩ = some (.int .u64 (hd.epoch : Int)) := (Box.cell HHD.out 1).trans rfl
          have q2 : wD.cell? ⟨gh, 2, none⟩ = some (.int .i64 hd.pos) := (Box.cell HHD.out 2).trans rfl
          have q3 : wD.cell? ⟨gh, 3, none⟩ = some (.int .u64 (hd.seq : Int)) := (Box.cell HHD.out 3).trans rfl
          have q4 : wD.cell? ⟨gh, 4, none⟩ = some (.int .i64 hd.log) := (Box.cell HHD.out 4).trans rfl
          go_wp2_with fail
          clear q0 q1 q2 q3 q4
          refine HRI.out.mono ?_
          rintro r10 wF ⟨rfl, hbF⟩
          have HBF := Lib.hid (HBD.out.trans (hbF.mono HBD.out.size))
          have HZF := Lib.hid (Box.below HZD.out hbF HZD.out.lt)
          have HHF := Lib.hid (Box.below HHD.out hbF HHD.out.lt)
          clear hbF HBD HZD HHD
          cases hri : hd.rightB blocks with
          | true =>
            have HY := Lib.hid (show headOf l blocks = some hd by rw [HHD2.out, if_pos (by simp [hri])])
            clear hri
            obtain ⟨w9, hw9⟩ : ∃ x, wF.setRow w.heap.size (hv hd) = x := ⟨_, rfl⟩
            have hm9 : Box w9 w.heap.size 78 (hv hd) := by rw [← hw9]; exact setRow_heap _ _ _ _ _ _ HZF.out
            have HB9 := Lib.hid (show Below w.heap.size w w9 from HBF.out.trans (by rw [← hw9]; exact (Below.refl _ wF).grown (grown_row (grown_refl _ (some w.heap.size)) _) HBF.out.size (fun k e => by injection e with e; omega)))
            have e0 : w9.cell? ⟨w.heap.size, 0, none⟩ = some (.int .u64 (hd.gen : Int)) := (Box.cell hm9 0).trans rfl
            have e1 : w9.cell? ⟨w.heap.size, 1, none⟩ = some (.int .u64 (hd.epoch : Int)) := (Box.cell hm9 1).trans rfl
            have e2 : w9.cell? ⟨w.heap.size, 2, none⟩ = some (.int .i64 hd.pos) := (Box.cell hm9 2).trans rfl
            have e3 : w9.cell? ⟨w.heap.size, 3, none⟩ = some (.int .u64 (hd.seq : Int)) := (Box.cell hm9 3).trans rfl
            have e4 : w9.cell? ⟨w.heap.size, 4, none⟩ = some (.int .i64 hd.log) := (Box.cell hm9 4).trans rfl
            have HW9 := Lib.hid hw9
            clear hm9 hw9
            go_wp2_with (first
              | (refine wpList_load_row rfl 78 _ rfl gh rfl 78 _ (0, 0) _ HHF.out Tryz.underlying78 rfl (by rw [hv_size]; exact hdInfo) ?_)
              | (refine wpList_store_row rfl 78 _ _ rfl w.heap.size (hv hd) rfl rfl 78 _ HZF.out (by rw [hv_size]; exact hdInfo) rfl (hv_one _) ?_; rw [HW9.out]))
            exact bodyPost_ret (v := .tuple #[.agg (hv hd), .bool true]) (by simp [results, Tryz.results97, go_sem, e0, e1, e2, e3, e4, hv]) rfl ⟨fun hh => (by rw [HY.out] at hh; cases hh), fun h hh => (by rw [HY.out] at hh; injection hh with hh; rw [hh]), HB9.out⟩
          | false =>
            have HN := Lib.hid (show headOf l blocks = none by rw [HHD2.out, if_neg (by simp [hri])])
            clear hri
            obtain ⟨w9, hw9⟩ : ∃ x, wF.setRow w.heap.size (hv Hd.zero) = x := ⟨_, rfl⟩
            have hm9 : Box w9 w.heap.size 78 (hv Hd.zero) := by rw [← hw9]; exact setRow_heap _ _ _ _ _ _ HZF.out
            have HB9 := Lib.hid (show Below w.heap.size w w9 from HBF.out.trans (by rw [← hw9]; exact (Below.refl _ wF).grown (grown_row (grown_refl _ (some w.heap.size)) _) HBF.out.size (fun k e => by injection e with e; omega)))
            have e0 : w9.cell? ⟨w.heap.size, 0, none⟩ = some (.int .u64 (Hd.zero.gen : Int)) := (Box.cell hm9 0).trans rfl
            have e1 : w9.cell? ⟨w.heap.size, 1, none⟩ = some (.int .u64 (Hd.zero.epoch : Int)) := (Box.cell hm9 1).trans rfl
            have e2 : w9.cell? ⟨w.heap.size, 2, none⟩ = some (.int .i64 Hd.zero.pos) := (Box.cell hm9 2).trans rfl
            have e3 : w9.cell? ⟨w.heap.size, 3, none⟩ = some (.int .u64 (Hd.zero.seq : Int)) := (Box.cell hm9 3).trans rfl
            have e4 : w9.cell? ⟨w.heap.size, 4, none⟩ = some (.int .i64 Hd.zero.log) := (Box.cell hm9 4).trans rfl
            have HW9 := Lib.hid hw9
            clear hm9 hw9
            go_wp2_with (refine wpList_store_row rfl 78 _ _ rfl w.heap.size (hv Hd.zero) rfl rfl 78 _ HZF.out (by rw [hv_size]; exact hdInfo) rfl (hv_one _) ?_; rw [HW9.out])
            exact bodyPost_ret (v := .tuple #[.agg (hv Hd.zero), .bool false]) (by simp [results, Tryz.results97, go_sem, e0, e1, e2, e3, e4, hv]) rfl ⟨fun _ => rfl, fun h hh => (by rw [HN.out] at hh; cases hh), HB9.out⟩
        · have d0 : (en != 0) = true := by rw [bne_iff_ne]; exact h0
          have HN := Lib.hid (show headOf l blocks = none by rw [HHD2.out, if_neg (fun e => h0 e.1)])
          clear h0
          obtain ⟨w9, hw9⟩ : ∃ x, wD.setRow w.heap.size (hv Hd.zero) = x := ⟨_, rfl⟩
          have hm9 : Box w9 w.heap.size 78 (hv Hd.zero) := by rw [← hw9]; exact setRow_heap _ _ _ _ _ _ HZD.out
          have HB9 := Lib.hid (show Below w.heap.size w w9 from HBD.out.trans (by rw [← hw9]; exact (Below.refl _ wD).grown (grown_row (grown_refl _ (some w.heap.size)) _) HBD.out.size (fun k e => by injection e with e; omega)))
          have e0 : w9.cell? ⟨w.heap.size, 0, none⟩ = some (.int .u64 (Hd.zero.gen : Int)) := (Box.cell hm9 0).trans rfl
          have e1 : w9.cell? ⟨w.heap.size, 1, none⟩ = some (.int .u64 (Hd.zero.epoch : Int)) := (Box.cell hm9 1).trans rfl
          have e2 : w9.cell? ⟨w.heap.size, 2, none⟩ = some (.int .i64 Hd.zero.pos) := (Box.cell hm9 2).trans rfl
          have e3 : w9.cell? ⟨w.heap.size, 3, none⟩ = some (.int .u64 (Hd.zero.seq : Int)) := (Box.cell hm9 3).trans rfl
          have e4 : w9.cell? ⟨w.heap.size, 4, none⟩ = some (.int .i64 Hd.zero.log) := (Box.cell hm9 4).trans rfl
          have HW9 := Lib.hid hw9
          clear hm9 hw9
          go_wp2_with (refine wpList_store_row rfl 78 _ _ rfl w.heap.size (hv Hd.zero) rfl rfl 78 _ HZD.out (by rw [hv_size]; exact hdInfo) rfl (hv_one _) ?_; rw [HW9.out])
          exact bodyPost_ret (v := .tuple #[.agg (hv Hd.zero), .bool false]) (by simp [results, Tryz.results97, go_sem, e0, e1, e2, e3, e4, hv]) rfl ⟨fun _ => rfl, fun h hh => (by rw [HN.out] at hh; cases hh), HB9.out⟩
      · have HN := Lib.hid (show headOf l blocks = none by
          rw [HHD.out, if_neg]
          rintro ⟨⟨hk, hs⟩, _⟩
          exact hmk (Mk.ext' hk rfl hs.symm))
        have d1 : (!decide (m = mk9 m.epoch m.he)) = true := by rw [decide_eq_false hmk]; rfl
        rw [d1]
        clear hmk d1
        obtain ⟨w9, hw9⟩ : ∃ x, wc.setRow w.heap.size (hv Hd.zero) = x := ⟨_, rfl⟩
        have hm9 : Box w9 w.heap.size 78 (hv Hd.zero) := by rw [← hw9]; exact setRow_heap _ _ _ _ _ _ HZx.out
        have HB9 := Lib.hid (show Below w.heap.size w w9 from HBx.out.trans (by rw [← hw9]; exact (Below.refl _ wc).grown (grown_row (grown_refl _ (some w.heap.size)) _) HBx.out.size (fun k e => by injection e with e; omega)))
        have e0 : w9.cell? ⟨w.heap.size, 0, none⟩ = some (.int .u64 (Hd.zero.gen : Int)) := (Box.cell hm9 0).trans rfl
        have e1 : w9.cell? ⟨w.heap.size, 1, none⟩ = some (.int .u64 (Hd.zero.epoch : Int)) := (Box.cell hm9 1).trans rfl
        have e2 : w9.cell? ⟨w.heap.size, 2, none⟩ = some (.int .i64 Hd.zero.pos) := (Box.cell hm9 2).trans rfl
        have e3 : w9.cell? ⟨w.heap.size, 3, none⟩ = some (.int .u64 (Hd.zero.seq : Int)) := (Box.cell hm9 3).trans rfl
        have e4 : w9.cell? ⟨w.heap.size, 4, none⟩ = some (.int .i64 Hd.zero.log) := (Box.cell hm9 4).trans rfl
        have HW9 := Lib.hid hw9
        clear hm9 hw9
        go_wp2_with (refine wpList_store_row rfl 78 _ _ rfl w.heap.size (hv Hd.zero) rfl rfl 78 _ HZx.out (by rw [hv_size]; exact hdInfo) rfl (hv_one _) ?_; rw [HW9.out])
        exact bodyPost_ret (v := .tuple #[.agg (hv Hd.zero), .bool false]) (by simp [results, Tryz.results97, go_sem, e0, e1, e2, e3, e4, hv]) rfl ⟨fun _ => rfl, fun h hh => (by rw [HN.out] at hh; cases hh), HB9.out⟩
end Go.Proofs.YtnhondkdkjehaaaGreat
