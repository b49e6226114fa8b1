/-
  MarkOpens, in parts: where it was none that was covered.
-/
import Derived.Test.YthpfdenpgegheaaOpens13n
import Derived.BigQuiet
import Derived.Deep.DeepCutAuto
import Derived.Deep.CutBlock
namespace Go.Proofs.Ythpfdenpgegheaa
open Go.RowKit

set_option linter.unusedVariables false
set_option linter.unusedSimpArgs false
set_option maxRecDepth 100000 in
set_option maxHeartbeats 16000000 in
theorem opens11n_says (w wc : World) (A : Option Addr) (c : Nat) (l : List UInt8) (z y0 : UInt8) (HY0 : Hid (l.headD 0 = y0)) (gc : Nat) (HL : Hid (Lies w (fun b => b < w.heap.size) A 256 c (bc l))) (HB : Hid (Below w.heap.size w wc)) (HXC : Hid (Box wc gc 5 (bc (3 :: l.drop 1)).toArray)) (HK : Hid (¬ l.headD 0 = 3)) {v2 v3 v4 v5 v6 v7 v8 v9 v10 v16 v17 v18 v19 v20 v21 v22 v23 v24 v25 v26 v27 v28 v29 v30 v31 v32 v33 v34 v35 v36 v37 v38 v39 v40 v41 v42 v43 v44 v45 v46 v47 v48 v49 v50 v51 v52 v53 v54 v55 v56 v57 v58 v59 v60 v61 v62 v63 v64 v65 v66 v67 v68 v69 v70 v71 v72 v73 v74 v75 v76 v77 v78 v79 v80 v81 v82 v83 v84 v85 v86 v87 v88 v89 v90 v91 v92 v93 v94 v95 v96 v97 v98 v99 v100 v101 v102 v103 v104 v105 v106 v107 v108 v109 v110 v111 v112 v113 v114 v115 v116 v117 v118 v119 v120 v121 v122 v123 v124 v125 v126 v127 v128 v129 v130 v131 v132 v133 v134 v135 v136 v137 v138 v139 v140 v141 v142 v143 v144 v145 v146 v147 v148 v149 v150 v151 v152 : Value} :
    Code.wp Try.prog opens11 (bodyPost Try.prog Try.f3 fun e w' => e = .returned (.bool true) ∧ Below w.heap.size w w') ⟨#[(.slice A 256 c), (.int .u8 (z.toNat : Int)), v2, v3, v4, v5, v6, v7, v8, v9, v10, (.slice (some ⟨gc, 0, none⟩) 256 256), (.int .u8 (y0.toNat : Int)), (.int .i64 0), (.slice none 0 0), (.int .i64 11), v16, v17, v18, v19, v20, v21, v22, v23, v24, v25, v26, v27, v28, v29, v30, v31, v32, v33, v34, v35, v36, v37, v38, v39, v40, v41, v42, v43, v44, v45, v46, v47, v48, v49, v50, v51, v52, v53, v54, v55, v56, v57, v58, v59, v60, v61, v62, v63, v64, v65, v66, v67, v68, v69, v70, v71, v72, v73, v74, v75, v76, v77, v78, v79, v80, v81, v82, v83, v84, v85, v86, v87, v88, v89, v90, v91, v92, v93, v94, v95, v96, v97, v98, v99, v100, v101, v102, v103, v104, v105, v106, v107, v108, v109, v110, v111, v112, v113, v114, v115, v116, v117, v118, v119, v120, v121, v122, v123, v124, v125, v126, v127, v128, v129, v130, v131, v132, v133, v134, v135, v136, v137, v138, v139, v140, v141, v142, v143, v144, v145, v146, v147, v148, v149, v150, v151, v152], []⟩ wc := by
  conv => arg 2; whnf
  have hl0 := HL.out.below HB.out
  have hll : l.length = 256 := by rw [← bc_length]; exact hl0.len
  have hcc := hl0.le
  obtain ⟨b, o, rfl, hbn, _, hcell⟩ := hl0.at (j := 0) (u := .int .u8 ((l.headD 0).toNat : Int)) (by match l, hll with | k :: r, _ => rfl)
  rw [Nat.add_zero] at hcell
  have hbl : b < wc.heap.size := Nat.lt_of_lt_of_le hbn HB.out.size
  have sB : ∀ W, (Instr.sliceAt 22 (.slice (some ⟨b, o, none⟩) 256 c) (some (.int .i64 1)) none none).run Try.prog W = .ok (.slice (some ⟨b, o + 1, none⟩) 255 (c - 1)) W := fun W => by have := cut_from b o 256 c 1 (by omega) (by omega) W; simpa using this
  have lB : Lies wc (fun _ => True) (some ⟨b, o + 1, none⟩) 255 (c - 1) (bc (l.drop 1)) := by
    have := (hl0.weak (N' := fun _ => True) (fun _ _ _ => trivial)).from 1 (by omega)
    rw [cutA, if_neg (by omega), bc_drop] at this
    simpa [Addr.add_mid] using this
  obtain ⟨PR, hPR⟩ : ∃ x, (⟨(l.drop 1).toArray⟩ : ByteArray) = x := ⟨_, rfl⟩
  obtain ⟨PC, hPC⟩ : ∃ x, (⟨(3 :: l.drop 1).toArray⟩ : ByteArray) = x := ⟨_, rfl⟩
  have hcR := conv_grows lB
  rw [hPR] at hcR
  have hcC := conv_grows (lies_box (N := fun _ => True) (n := 256) HXC.out trivial (by rw [List.length_cons, List.length_drop, hll]))
  rw [hPC] at hcC
  have HCR := Lib.hid hcR
  have HCC := Lib.hid hcC
  have hadd : (⟨#[3]⟩ : ByteArray) ++ PR = PC := by rw [← hPR, ← hPC]; exact str_append [3] (l.drop 1)
  have hpr : PR.size = 255 := by rw [← hPR, str_size, List.length_drop, hll]
  have hsz : ¬ 9223372036854775807 < (⟨#[3]⟩ : ByteArray).size + PR.size := by rw [hpr]; decide
  have hsz2 : ¬ 9223372036854775807 < 1 + PR.size := by rw [hpr]; decide
  clear hpr
  have hHD := cell_grows (p := ⟨b, o, none⟩) hbl hcell
  have hk3 : (((l.headD 0).toNat : Int) == 3) = false := by
    rw [beq_eq_false_iff_ne]
    intro e
    exact HK.out (UInt8.toNat_inj.1 (show (l.headD 0).toNat = 3 by omega))
  rw [HY0.out] at hk3 hcell hHD
  clear hcR hcC lB hPR hPC hcell hl0 hbn hbl HK
  refine wp_seq ?_
  refine wp_seq ?_
  refine wp_region_grows (by kernel_rfl) (by kernel_rfl) ?_
  iterate 40 (first
      | (refine wpQuiet_conv (by go_simp; done) 22 9 (.tmp 106) rfl (.slice (some ⟨gc, 0, none⟩) 256 256) rfl (.string PC) HCC.out ?_; simp only [Act.put, List.setIfInBounds_toArray, List.set_cons_zero, List.set_cons_succ])
      | (refine wpQuiet_conv (by go_simp; done) 22 9 (.tmp 109) rfl (.slice (some ⟨b, o + 1, none⟩) 255 (c - 1)) rfl (.string PR) HCR.out ?_; simp only [Act.put, List.setIfInBounds_toArray, List.set_cons_zero, List.set_cons_succ])
      | quiet_step (fail))
  refine wpQuiet_nil ?_
  rintro wx ⟨⟨_, hwx⟩, rfl⟩
  dsimp only [Exit.then]
  refine wp_cond_false rfl (wp_skip ?_)
  exact opens13n_says w wx z (Lib.hid (HB.out.trans (hwx.mono HB.out.size)))
end Go.Proofs.Ythpfdenpgegheaa
