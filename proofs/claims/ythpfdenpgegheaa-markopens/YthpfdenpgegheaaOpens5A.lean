/-
  MarkOpens, in parts: nothing is opened, for its length.
-/
import Derived.Test.YthpfdenpgegheaaOpens7a
import Derived.BigQuiet
import Derived.Deep.DeepCutAuto
import Derived.Deep.CutBlock
namespace Go.Proofs.Ythpfdenpgegheaa
open Go.RowKit

set_option linter.unusedVariables false
set_option linter.unusedSimpArgs false
set_option maxRecDepth 100000 in
set_option maxHeartbeats 16000000 in
theorem opens5A_says (w wc : World) (A : Option Addr) (n c : Nat) (l : List UInt8) (z : UInt8) (gm gr gs : Nat) (M : Mk) (s : List UInt8) (HL : Hid (Lies w (fun b => b < w.heap.size) A n c (bc l))) (HB : Hid (Below w.heap.size w wc)) (HM : Hid (Box wc gm 25 (mv M))) (HR : Hid (Box wc gr 29 (mv M))) (hn : n ≠ 256) {v2 v3 v4 v11 v12 v13 v14 v15 v16 v17 v18 v19 v20 v21 v22 v23 v24 v25 v26 v27 v28 v29 v30 v31 v32 v33 v34 v35 v36 v37 v38 v39 v40 v41 v42 v43 v44 v45 v46 v47 v48 v49 v50 v51 v52 v53 v54 v55 v56 v57 v58 v59 v60 v61 v62 v63 v64 v65 v66 v67 v68 v69 v70 v71 v72 v73 v74 v75 v76 v77 v78 v79 v80 v81 v82 v83 v84 v85 v86 v87 v88 v89 v90 v91 v92 v93 v94 v95 v96 v97 v98 v99 v100 v101 v102 v103 v104 v105 v106 v107 v108 v109 v110 v111 v112 v113 v114 v115 v116 v117 v118 v119 v120 v121 v122 v123 v124 v125 v126 v127 v128 v129 v130 v131 v132 v133 v134 v135 v136 v137 v138 v139 v140 v141 v142 v143 v144 v145 v146 v147 v148 v149 v150 v151 v152 : Value} :
    Code.wp Try.prog opens5 (bodyPost Try.prog Try.f3 fun e w' => e = .returned (.bool true) ∧ Below w.heap.size w w') ⟨#[(.slice A n c), (.int .u8 (z.toNat : Int)), v2, v3, v4, (.pointer (some ⟨gm, 0, none⟩)), (.slice none 0 0), (.int .i64 2), (.pointer (some ⟨gr, 0, none⟩)), (.string ⟨#[]⟩), (.bool false), v11, v12, v13, v14, v15, v16, v17, v18, v19, v20, v21, v22, v23, v24, v25, v26, v27, v28, v29, v30, v31, v32, v33, v34, v35, v36, v37, v38, v39, v40, v41, v42, v43, v44, v45, v46, v47, v48, v49, v50, v51, v52, v53, v54, v55, v56, v57, v58, v59, v60, v61, v62, v63, v64, v65, v66, v67, v68, v69, v70, v71, v72, v73, v74, v75, v76, v77, v78, v79, v80, v81, v82, v83, v84, v85, v86, v87, v88, v89, v90, v91, v92, v93, v94, v95, v96, v97, v98, v99, v100, v101, v102, v103, v104, v105, v106, v107, v108, v109, v110, v111, v112, v113, v114, v115, v116, v117, v118, v119, v120, v121, v122, v123, v124, v125, v126, v127, v128, v129, v130, v131, v132, v133, v134, v135, v136, v137, v138, v139, v140, v141, v142, v143, v144, v145, v146, v147, v148, v149, v150, v151, v152], []⟩ wc := by
  conv => arg 2; whnf
  have HCS := Lib.hid (conv_grows (l := ([] : List UInt8)) (Lies.nil wc (fun _ => True)))
  have l1 : ((n : Int) != 256) = true := by rw [bne_iff_ne]; omega
  have HRM := Lib.hid (range_grows (mk_range HM.out) HM.out.lt)
  have HRR := Lib.hid (range_grows (mk_range HR.out) HR.out.lt)
  have HOW := Lib.hid (show ∀ p : Grows wc, Calls Try.prog 9 #[.agg (mv M)] p.val fun e w'' => e = .returned (.agg (mv M)) ∧ ∃ p' : Grows wc, w'' = p'.val from fun p => Calls.grows (own_says p.val M))
  refine wp_seq ?_
  refine wp_seq ?_
  refine wp_region_grows (by kernel_rfl) (by kernel_rfl) ?_
  iterate 28 (first
      | (refine wpQuiet_load_yes (by go_simp; done) 25 (.tmp 5) rfl gm 0 rfl (mvl M) _ HRM.out Try.underlying25 rfl (by kernel_rfl) ?_; simp only [Act.put, List.setIfInBounds_toArray, List.set_cons_zero, List.set_cons_succ])
      | (refine wpQuiet_load_yes (by go_simp; done) 29 (.tmp 8) rfl gr 0 rfl (mvl M) _ HRR.out Try.underlying29 rfl (by kernel_rfl) ?_; simp only [Act.put, List.setIfInBounds_toArray, List.set_cons_zero, List.set_cons_succ])
      | (refine wpQuiet_neq_rk (by go_simp; done) (.tmp 38) (.tmp 39) rfl M M false (by simp) rfl rfl ?_; simp only [Act.put, List.setIfInBounds_toArray, List.set_cons_zero, List.set_cons_succ])
      | (refine wpQuiet_conv (by go_simp; done) 22 9 (.tmp 43) rfl (.slice none 0 0) rfl (.string ⟨#[]⟩) HCS.out ?_; simp only [Act.put, List.setIfInBounds_toArray, List.set_cons_zero, List.set_cons_succ])
      | quiet_step (first | (go_at_call 9; exact HOW.out _)))
  refine wpQuiet_nil ?_
  rintro wx ⟨⟨_, hwx⟩, rfl⟩
  dsimp only [Exit.then]
  refine wp_cond_false rfl (wp_skip ?_)
  exact opens7a_says w wx A n c l z hn (Lib.hid (HB.out.trans (hwx.mono HB.out.size)))
end Go.Proofs.Ythpfdenpgegheaa
