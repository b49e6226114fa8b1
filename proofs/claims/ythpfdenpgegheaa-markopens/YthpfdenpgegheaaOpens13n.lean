/-
  MarkOpens, in parts: its end, where it was none that was covered.
-/
import Derived.Test.YthpfdenpgegheaaOpensC
import Derived.BigQuiet
import Derived.Deep.DeepCutAuto
import Derived.Deep.CutBlock
namespace Go.Proofs.Ythpfdenpgegheaa
open Go.RowKit

set_option linter.unusedVariables false
set_option linter.unusedSimpArgs false
set_option maxRecDepth 100000 in
set_option maxHeartbeats 16000000 in
theorem opens13n_says (w wc : World) (z : UInt8) (HB : Hid (Below w.heap.size w wc)) {v0 v2 v3 v4 v5 v6 v7 v8 v9 v10 v11 v12 v13 v14 v16 v17 v18 v19 v20 v21 v22 v23 v24 v25 v26 v27 v28 v29 v30 v31 v32 v33 v34 v35 v36 v37 v38 v39 v40 v41 v42 v43 v44 v45 v46 v47 v48 v49 v50 v51 v52 v53 v54 v55 v56 v57 v58 v59 v60 v61 v62 v63 v64 v65 v66 v67 v68 v69 v70 v71 v72 v73 v74 v75 v76 v77 v78 v79 v80 v81 v82 v83 v84 v85 v86 v87 v88 v89 v90 v91 v92 v93 v94 v95 v96 v97 v98 v99 v100 v101 v102 v103 v104 v105 v106 v107 v108 v109 v110 v111 v112 v113 v114 v115 v116 v117 v118 v119 v120 v121 v122 v123 v124 v125 v126 v127 v128 v129 v130 v131 v132 v133 v134 v135 v136 v137 v138 v139 v140 v141 v142 v143 v144 v145 v146 v147 v148 v149 v150 v151 v152 : Value} :
    Code.wp Try.prog opens13 (bodyPost Try.prog Try.f3 fun e w' => e = .returned (.bool true) ∧ Below w.heap.size w w') ⟨#[v0, (.int .u8 (z.toNat : Int)), v2, v3, v4, v5, v6, v7, v8, v9, v10, v11, v12, v13, v14, (.int .i64 11), v16, v17, v18, v19, v20, v21, v22, v23, v24, v25, v26, v27, v28, v29, v30, v31, v32, v33, v34, v35, v36, v37, v38, v39, v40, v41, v42, v43, v44, v45, v46, v47, v48, v49, v50, v51, v52, v53, v54, v55, v56, v57, v58, v59, v60, v61, v62, v63, v64, v65, v66, v67, v68, v69, v70, v71, v72, v73, v74, v75, v76, v77, v78, v79, v80, v81, v82, v83, v84, v85, v86, v87, v88, v89, v90, v91, v92, v93, v94, v95, v96, v97, v98, v99, v100, v101, v102, v103, v104, v105, v106, v107, v108, v109, v110, v111, v112, v113, v114, v115, v116, v117, v118, v119, v120, v121, v122, v123, v124, v125, v126, v127, v128, v129, v130, v131, v132, v133, v134, v135, v136, v137, v138, v139, v140, v141, v142, v143, v144, v145, v146, v147, v148, v149, v150, v151, v152], []⟩ wc := by
  conv => arg 2; whnf
  have HON := Lib.hid (show ∀ p : Grows wc, Calls Try.prog 12 #[] p.val fun e w'' => e = .returned (.bool true) ∧ ∃ p' : Grows wc, w'' = p'.val from fun p => Calls.grows (one_says p.val))
  refine wp_seq ?_
  refine wp_region_grows (by kernel_rfl) (by kernel_rfl) ?_
  iterate 3 (first
      | quiet_step (first | (go_at_call 12; exact HON.out _)))
  iterate 10 (with_reducible refine wpQuiet_no ?_ ?_; (· first | (go_simp; done) | (go_simp; simp [undef]; done)); simp only [Act.put, List.setIfInBounds_toArray, List.set_cons_zero, List.set_cons_succ])
  iterate 5 (first
      | quiet_step (first | (go_at_call 12; exact HON.out _)))
  refine wpQuiet_nil ?_
  rintro wx ⟨⟨_, hwx⟩, rfl⟩
  have HZ := Lib.hid (HB.out.trans (hwx.mono HB.out.size))
  clear hwx
  dsimp only [Exit.then]
  go_wp2
  go_ret
  exact ⟨rfl, HZ.out⟩
end Go.Proofs.Ythpfdenpgegheaa
