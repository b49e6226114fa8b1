/-
  SuperLoads, in parts: from the reference's look on.
-/
import Derived.Test.YthpfdenpgegheaaLoads24
import Derived.BigQuiet
import Derived.Deep.DeepCutAuto
import Derived.Deep.CutBlock
namespace Go.Proofs.Ythpfdenpgegheaa
open Go.RowKit

set_option linter.unusedVariables false
set_option linter.unusedSimpArgs false
set_option maxRecDepth 100000 in
set_option maxHeartbeats 16000000 in
theorem loads17_says (w wc : World) (p b5 gx : Nat) (h : Hd) (D : Dv) (s0 s1 : ByteArray) (HI : Hid (LI w p b5 gx h D s0 s1 wc)) {v0 v1 v2 v3 v4 v5 v6 v8 v10 v11 v12 v13 v14 v15 v16 v17 v18 v19 v20 v21 v22 v23 v24 v25 v26 v27 v28 v29 v30 v31 v32 v33 v34 v35 v36 v37 v38 v39 v40 v41 v42 v43 v44 v45 v46 v47 v48 v49 v50 v51 v52 v53 v54 v55 v56 v57 v58 v59 v60 v61 v62 v63 v64 v65 v66 v67 v68 v69 v70 v71 v72 v73 v74 v75 v76 v77 v78 v79 v80 v81 v82 v83 v84 v85 v86 v87 v88 v89 v90 v91 v92 v93 v94 v95 v96 v97 v98 v99 v100 v101 v102 v103 v104 v105 v106 v107 v108 v109 v110 v111 v112 v113 v114 v115 v116 v117 v118 v119 v120 v121 v122 v123 v124 v125 v126 v127 v128 v129 v130 v131 v132 v133 : Value} :
    Code.wp Try.prog loads17 (bodyPost Try.prog Try.f5 fun e w' => e = .returned (.bool true) ∧ Below w.heap.size w w') ⟨#[v0, v1, v2, v3, v4, v5, v6, (.pointer (some ⟨p, 0, none⟩)), v8, (.pointer (some ⟨gx, 0, none⟩)), v10, v11, v12, v13, v14, v15, v16, v17, v18, v19, v20, v21, v22, v23, v24, v25, v26, v27, v28, v29, v30, v31, v32, v33, v34, v35, v36, v37, v38, v39, v40, v41, v42, v43, v44, v45, v46, v47, v48, v49, v50, v51, v52, v53, v54, v55, v56, v57, v58, v59, v60, v61, v62, v63, v64, v65, v66, v67, v68, v69, v70, v71, v72, v73, v74, v75, v76, v77, v78, v79, v80, v81, v82, v83, v84, v85, v86, v87, v88, v89, v90, v91, v92, v93, v94, v95, v96, v97, v98, v99, v100, v101, v102, v103, v104, v105, v106, v107, v108, v109, v110, v111, v112, v113, v114, v115, v116, v117, v118, v119, v120, v121, v122, v123, v124, v125, v126, v127, v128, v129, v130, v131, v132, v133], []⟩ wc := by
  conv => arg 2; whnf
  obtain ⟨w2, hw2⟩ : ∃ x, wc.alloc (.cells #[.int .u64 0, .int .u64 0, .int .i64 0, .int .u64 0, .int .i64 0] 50) = x := ⟨_, rfl⟩
  have hbw2 : Below wc.heap.size wc w2 := by rw [← hw2]; exact (Below.refl _ wc).alloc (Nat.le_refl _) _
  have hmw2 : Box w2 wc.heap.size 50 (hv Hd.zero) := by rw [← hw2]; exact Box.made wc _ _
  obtain ⟨w3, hw3⟩ : ∃ x, w2.setRow wc.heap.size (hv Hd.zero) = x := ⟨_, rfl⟩
  have hmw3 : Box w3 wc.heap.size 50 (hv Hd.zero) := by rw [← hw3]; exact setRow_heap _ _ _ _ _ _ hmw2
  have hbw3 : Below wc.heap.size wc w3 := hbw2.trans (by rw [← hw3]; exact (Below.refl _ w2).grown (grown_row (grown_refl _ (some wc.heap.size)) _) hbw2.size (fun k e => by injection e with e; omega))
  have HMw2 := Lib.hid hmw2
  have HWw3 := Lib.hid hw3
  have h12 : w.heap.size ≤ wc.heap.size := HI.out.below.size
  have hg1 := HI.out.tab.lt
  have hg2 := HI.out.box.lt
  have HI0 := Lib.hid (show LI w p b5 gx h D s0 s1 w3 ∧ Dev w3 (fun k => ((w.heap.size ≤ k ∧ k ≠ b5) ∧ k ≠ gx) ∧ k ≠ wc.heap.size) p D ∧ Box w3 wc.heap.size 50 (hv (lastN D 0)) from ⟨HI.out.on hbw3, HI.out.dev.aside hbw3 wc.heap.size (Nat.le_refl _), hmw3⟩)
  clear hmw2 hbw2 hmw3 hbw3 hw3 HI
  go_upto_region 18 with (refine wpList_store_row rfl 50 _ _ rfl wc.heap.size (hv Hd.zero) rfl rfl 50 _ HMw2.out (by rw [hv_size]; exact rhdInfo) rfl (hv_one _) ?_; rw [HWw3.out])
  obtain ⟨g12, hg12⟩ : ∃ x, wc.heap.size = x := ⟨_, rfl⟩
  rw [hg12] at HI0 h12 hg1 hg2 ⊢
  clear hg12 hw2 HMw2 HWw3
  go_wp2_with fail
  go_loopw [13] (fun v wr => ∃ k : Nat, v = .int .i64 (k : Int) ∧ k ≤ 2 ∧ Hid (LI w p b5 gx h D s0 s1 wr ∧ Dev wr (fun k => ((w.heap.size ≤ k ∧ k ≠ b5) ∧ k ≠ gx) ∧ k ≠ g12) p D ∧ Box wr g12 50 (hv (lastN D k)))) (fun v _ => 2 - (intOf v).toNat)
  case atStart => exact ⟨0, rfl, by omega, HI0⟩
  case round =>
    clear HI0
    obtain ⟨k, rfl, hk, H⟩ := hrel
    by_cases hlt : k < 2
    · have hlt' : (k : Int) < 2 := by omega
      have hsk : ∃ sk : ByteArray, wr.cell? ⟨gx, k, none⟩ = some (.string sk) ∧ (⟨(D.blk k).1.toArray⟩ : ByteArray) = sk := by
        obtain rfl | rfl : k = 0 ∨ k = 1 := by omega
        · exact ⟨s0, (Box.cell H.out.1.tab 0).trans rfl, H.out.1.e0⟩
        · exact ⟨s1, (Box.cell H.out.1.tab 1).trans rfl, H.out.1.e1⟩
      obtain ⟨sk, csk, hsk⟩ := hsk
      have hlen : (D.bs.length : Int) = 12 := by rw [H.out.1.len]; rfl
      have hro := rof_says wr (D.blk k).1 (D.blk k).2
      rw [hsk] at hro
      have HRO := Lib.hid hro
      have HLN := Lib.hid hlen
      have wk : IntKind.u64.wrap (k : Int) = (k : Int) := by rw [IntKind.wrap_u64]; omega
      clear hro hsk hlen
      go_wp2_with fail
      clear csk
      refine HRO.out.mono ?_
      rintro e wa ⟨hno, hyes, hba⟩
      have HA := Lib.hid (show LI w p b5 gx h D s0 s1 wa ∧ Dev wa (fun k => ((w.heap.size ≤ k ∧ k ≠ b5) ∧ k ≠ gx) ∧ k ≠ g12) p D ∧ Box wa g12 50 (hv (lastN D k)) from ⟨H.out.1.on hba, H.out.2.1.below hba, Box.below H.out.2.2 hba H.out.2.2.lt⟩)
      clear hba H HRO
      cases hop : headOf (D.blk k).1 12 with
      | none =>
        obtain rfl := hno hop
        have hln : lastN D (k + 1) = lastN D k := by show pickH _ _ _ = _; rw [HLN.out, hop]; rfl
        obtain ⟨wb, hwb⟩ : ∃ x, wa.alloc (.cells #[.int .u64 0, .int .u64 0, .int .i64 0, .int .u64 0, .int .i64 0] 50) = x := ⟨_, rfl⟩
        have hbwb : Below wa.heap.size wa wb := by rw [← hwb]; exact (Below.refl _ wa).alloc (Nat.le_refl _) _
        have hmwb : Box wb wa.heap.size 50 (hv Hd.zero) := by rw [← hwb]; exact Box.made wa _ _
        obtain ⟨wd, hwd⟩ : ∃ x, wb.setRow wa.heap.size (hv Hd.zero) = x := ⟨_, rfl⟩
        have hmwd : Box wd wa.heap.size 50 (hv Hd.zero) := by rw [← hwd]; exact setRow_heap _ _ _ _ _ _ hmwb
        have hbwd : Below wa.heap.size wa wd := hbwb.trans (by rw [← hwd]; exact (Below.refl _ wb).grown (grown_row (grown_refl _ (some wa.heap.size)) _) hbwb.size (fun k e => by injection e with e; omega))
        have HMwb := Lib.hid hmwb
        have HWwd := Lib.hid hwd
        have HN := Lib.hid (show LI w p b5 gx h D s0 s1 wd ∧ Dev wd (fun k => ((w.heap.size ≤ k ∧ k ≠ b5) ∧ k ≠ gx) ∧ k ≠ g12) p D ∧ Box wd g12 50 (hv (lastN D (k + 1))) from ⟨HA.out.1.on hbwd, HA.out.2.1.below hbwd, by rw [hln]; exact Box.below HA.out.2.2 hbwd HA.out.2.2.lt⟩)
        clear hno hyes hop hmwb hbwb hmwd hbwd hwd hln HA HLN
        go_wp2_with (refine wpList_store_row rfl 50 _ _ rfl wa.heap.size (hv Hd.zero) rfl rfl 50 _ HMwb.out (by rw [hv_size]; exact rhdInfo) rfl (hv_one _) ?_; rw [HWwd.out])
        go_roundw
        case rel => exact ⟨k + 1, by go_num, by omega, HN⟩
        case measure => simp [intOf]; omega
      | some y =>
        obtain rfl := hyes y hop
        have HOP := Lib.hid (show lastN D (k + 1) = pickH (lastN D k) k (some y) by show pickH _ _ _ = _; rw [HLN.out, hop])
        obtain ⟨wb, hwb⟩ : ∃ x, wa.alloc (.cells #[.int .u64 0, .int .u64 0, .int .i64 0, .int .u64 0, .int .i64 0] 50) = x := ⟨_, rfl⟩
        have hbwb : Below wa.heap.size wa wb := by rw [← hwb]; exact (Below.refl _ wa).alloc (Nat.le_refl _) _
        have hmwb : Box wb wa.heap.size 50 (hv Hd.zero) := by rw [← hwb]; exact Box.made wa _ _
        obtain ⟨wd, hwd⟩ : ∃ x, wb.setRow wa.heap.size (hv y) = x := ⟨_, rfl⟩
        have hmwd : Box wd wa.heap.size 50 (hv y) := by rw [← hwd]; exact setRow_heap _ _ _ _ _ _ hmwb
        have hbwd : Below wa.heap.size wa wd := hbwb.trans (by rw [← hwd]; exact (Below.refl _ wb).grown (grown_row (grown_refl _ (some wa.heap.size)) _) hbwb.size (fun k e => by injection e with e; omega))
        have HMwb := Lib.hid hmwb
        have HWwd := Lib.hid hwd
        have hA1 := HA.out.1.on hbwd
        have hA2 := HA.out.2.1.below hbwd
        have hA3 := Box.below HA.out.2.2 hbwd HA.out.2.2.lt
        have r0 : wd.cell? ⟨wa.heap.size, 0, none⟩ = some (.int .u64 (y.gen : Int)) := (Box.cell hmwd 0).trans rfl
        have u0 : wd.cell? ⟨g12, 0, none⟩ = some (.int .u64 ((lastN D k).gen : Int)) := (Box.cell hA3 0).trans rfl
        have HY := Lib.hid hmwd
        clear hno hyes hop hmwb hbwb hmwd hbwd hwd HA HLN
        by_cases hs : y.gen % 2 = k
        · have d1 : ((y.gen : Int) % 2 == (k : Int)) = true := by rw [beq_iff_eq]; omega
          by_cases hg : (lastN D k).gen < y.gen
          · have g1 : ((lastN D k).gen : Int) < (y.gen : Int) := by omega
            have hln : lastN D (k + 1) = y := by rw [HOP.out]; exact if_pos ⟨hs, hg⟩
            obtain ⟨wf, hwf⟩ : ∃ x, wd.setRow g12 (hv y) = x := ⟨_, rfl⟩
            have hgf : wd.grownBy wf (some g12) := by rw [← hwf]; exact grown_row (grown_refl _ _) _
            have hmf : Box wf g12 50 (hv y) := by rw [← hwf]; exact setRow_heap _ _ _ _ _ _ hA3
            have htf := Touch.of_grown (K := fun b => b = g12) hgf (fun b e => by injection e with e; exact e.symm)
            have hdf := htf.dev hA2 (fun b q e => q.2 e)
            have HN := Lib.hid (show LI w p b5 gx h D s0 s1 wf ∧ Dev wf (fun k => ((w.heap.size ≤ k ∧ k ≠ b5) ∧ k ≠ gx) ∧ k ≠ g12) p D ∧ Box wf g12 50 (hv (lastN D (k + 1))) from ⟨⟨below_grown hA1.below hgf h12 hA1.below.size, hdf.weak (fun _ q => q.1), Box.grown hA1.box hgf (by intro e; injection e with e; omega), Box.grown hA1.tab hgf (by intro e; injection e with e; omega), hA1.e0, hA1.e1, hA1.len, hA1.up, hA1.left, hA1.ops, hA1.b5w, hA1.gxw, hA1.ne⟩, hdf, by rw [hln]; exact hmf⟩)
            have HA3 := Lib.hid hA3
            have HWF := Lib.hid hwf
            clear hs hg hln hgf hmf htf hdf hA1 hA2 hA3 hwf HOP
            go_wp2_with (first
              | (refine wpList_store_row rfl 50 _ _ rfl wa.heap.size (hv y) rfl rfl 50 _ HMwb.out (by rw [hv_size]; exact rhdInfo) rfl (hv_one _) ?_; rw [HWwd.out])
              | (refine wpList_load_row rfl 50 _ rfl wa.heap.size rfl 50 _ (0, 0) _ HY.out Try.underlying50 rfl (by rw [hv_size]; exact rhdInfo) ?_)
              | (refine wpList_store_row rfl 50 _ _ rfl g12 (hv y) rfl rfl 50 _ HA3.out (by rw [hv_size]; exact rhdInfo) rfl (hv_one _) ?_; rw [HWF.out]))
            go_roundw
            case rel => exact ⟨k + 1, by go_num, by omega, HN⟩
            case measure => simp [intOf]; omega
          · have g1 : ¬ ((lastN D k).gen : Int) < (y.gen : Int) := by omega
            have hln : lastN D (k + 1) = lastN D k := by rw [HOP.out]; exact if_neg (fun q => hg q.2)
            have HN := Lib.hid (show LI w p b5 gx h D s0 s1 wd ∧ Dev wd (fun k => ((w.heap.size ≤ k ∧ k ≠ b5) ∧ k ≠ gx) ∧ k ≠ g12) p D ∧ Box wd g12 50 (hv (lastN D (k + 1))) from ⟨hA1, hA2, by rw [hln]; exact hA3⟩)
            clear hs hg hln hA1 hA2 hA3 HOP
            go_wp2_with (refine wpList_store_row rfl 50 _ _ rfl wa.heap.size (hv y) rfl rfl 50 _ HMwb.out (by rw [hv_size]; exact rhdInfo) rfl (hv_one _) ?_; rw [HWwd.out])
            go_roundw
            case rel => exact ⟨k + 1, by go_num, by omega, HN⟩
            case measure => simp [intOf]; omega
        · have d1 : ((y.gen : Int) % 2 == (k : Int)) = false := by rw [beq_eq_false_iff_ne]; omega
          have hln : lastN D (k + 1) = lastN D k := by rw [HOP.out]; exact if_neg (fun q => hs q.1)
          have HN := Lib.hid (show LI w p b5 gx h D s0 s1 wd ∧ Dev wd (fun k => ((w.heap.size ≤ k ∧ k ≠ b5) ∧ k ≠ gx) ∧ k ≠ g12) p D ∧ Box wd g12 50 (hv (lastN D (k + 1))) from ⟨hA1, hA2, by rw [hln]; exact hA3⟩)
          clear hs hln hA1 hA2 hA3 HOP
          go_wp2_with (refine wpList_store_row rfl 50 _ _ rfl wa.heap.size (hv y) rfl rfl 50 _ HMwb.out (by rw [hv_size]; exact rhdInfo) rfl (hv_one _) ?_; rw [HWwd.out])
          go_roundw
          case rel => exact ⟨k + 1, by go_num, by omega, HN⟩
          case measure => simp [intOf]; omega
    · obtain rfl : k = 2 := by omega
      have HIz := Lib.hid H.out.1
      have HDz := Lib.hid H.out.2.1
      have HLz := Lib.hid H.out.2.2
      clear H hlt hk
      rename_i KX kx
      have KK := Lib.hid kx
      clear kx
      go_wp2
      exact KK.out _ _ (loads24_says w wr p b5 gx g12 h D s0 s1 HIz HLz h12 HDz)
end Go.Proofs.Ythpfdenpgegheaa
