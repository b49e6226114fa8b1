/-
  MarkTorn, one region: nothing is opened.
-/
import Derived.Test.YthpfdenpgegheaaTornR
import Derived.BigQuiet
import Derived.Deep.DeepCutAuto
namespace Go.Proofs.Ythpfdenpgegheaa
open Go.RowKit

set_option linter.unusedVariables false
set_option linter.unusedSimpArgs false
set_option maxRecDepth 100000 in
set_option maxHeartbeats 16000000 in
theorem torn_none (w wc : World) (m' z : Mk) (s : List UInt8) (n gp gx gy b17 gs : Nat) (PT PX PY PS : ByteArray)
    (HCX : Hid (∀ u, (∃ p : Grows wc, u = p.val) → (convert 22 9 (.slice (some ⟨gx, 0, none⟩) 256 256)).run Try.prog u = .ok (.string PX) u)) (hne : (PT.toList == PX.toList) = false)
    (v0 v1 v2 v4 v5 v6 v8 v10 v11 v13 v15 v20 v21 v22 v23 v24 v25 v26 v27 v28 v29 v30 v31 v32 v33 v34 v35 v36 v37 v38 v39 v40 v41 v42 v43 v44 v45 v46 v47 v48 v49 v50 v51 v52 v53 v54 v55 v56 v57 v58 v59 v60 v61 v62 v63 v64 v65 v66 v67 v68 v69 v70 v71 v72 v73 v74 v75 v76 v77 v78 v79 v80 v81 v82 v83 v84 v85 v86 v87 v88 v89 v90 v91 v92 v93 v94 v95 v96 v97 v98 v99 v100 v101 v102 v103 v104 v105 v106 v107 v108 v109 v110 v111 v112 v113 v114 v115 v116 v117 v118 v119 v120 v121 v122 v123 v124 v125 v126 v127 v128 v129 v130 v131 v132 v133 v134 v135 v136 v137 v138 v139 v140 v141 v142 v143 v144 v145 v146 v147 v148 v149 v150 v151 v152 v153 v154 v155 v156 v157 v158 v159 v160 v161 v162 v163 v164 v165 v166 v167 v168 v169 v170 v171 v172 v173 v174 v175 v176 v177 v178 v179 v180 v181 v182 v183 v184 v185 v186 v187 : Value) (E : Exit → Act → World → Prop) (J K' : Act → World → Prop)
    (a1 : ∀ (a' : Act) (w' : World), (∃ u112 u113 u114 u115 u116 u117 u118 u119 u120 u121 u122 u123 u124 u125 u126 u127 u128 u129 u130 u131 u132 u133 u134 u135 u136 u137 u138 u139 u140 u141 u142 u143 u144 u145 u146 u147 u148 u149 : Value, Hid (u149 = .bool false ∧ Below wc.heap.size wc w') ∧ a' = (⟨#[v0, v1, v2, (.pointer (some ⟨w.heap.size, 0, none⟩)), v4, v5, v6, (.slice (some ⟨gp, 0, none⟩) 220 220), v8, (.int .i64 (n : Int)), v10, v11, (.slice (some ⟨gx, 0, none⟩) 256 256), v13, (.slice (some ⟨gy, 0, none⟩) 256 256), v15, (.string PT), (.pointer (some ⟨b17, 0, none⟩)), (.slice none 0 0), (.int .i64 11), v20, v21, v22, v23, v24, v25, v26, v27, v28, v29, v30, v31, v32, v33, v34, v35, v36, v37, v38, v39, v40, v41, v42, v43, v44, v45, v46, v47, v48, v49, v50, v51, v52, v53, v54, v55, v56, v57, v58, v59, v60, v61, v62, v63, v64, v65, v66, v67, v68, v69, v70, v71, v72, v73, v74, v75, v76, v77, v78, v79, v80, v81, v82, v83, v84, v85, v86, v87, v88, v89, v90, v91, v92, v93, v94, v95, v96, v97, v98, v99, v100, v101, v102, v103, v104, v105, v106, v107, v108, v109, v110, v111, u112, u113, u114, u115, u116, u117, u118, u119, u120, u121, u122, u123, u124, u125, u126, u127, u128, u129, u130, u131, u132, u133, u134, u135, u136, u137, u138, u139, u140, u141, u142, u143, u144, u145, u146, u147, u148, u149, v150, v151, v152, v153, v154, v155, v156, v157, v158, v159, v160, v161, v162, v163, v164, v165, v166, v167, v168, v169, v170, v171, v172, v173, v174, v175, v176, v177, v178, v179, v180, v181, v182, v183, v184, v185, v186, v187], []⟩ : Act)) → J a' w')
    (a2 : ∀ (a' : Act) (w' : World), Met J a' w' → K' a' w') :
    Code.wp Try.prog tornR (Exit.then K' E) ⟨#[v0, v1, v2, (.pointer (some ⟨w.heap.size, 0, none⟩)), v4, v5, v6, (.slice (some ⟨gp, 0, none⟩) 220 220), v8, (.int .i64 (n : Int)), v10, v11, (.slice (some ⟨gx, 0, none⟩) 256 256), v13, (.slice (some ⟨gy, 0, none⟩) 256 256), v15, (.string PT), (.pointer (some ⟨b17, 0, none⟩)), (.slice none 0 0), (.int .i64 11), v20, v21, v22, v23, v24, v25, v26, v27, v28, v29, v30, v31, v32, v33, v34, v35, v36, v37, v38, v39, v40, v41, v42, v43, v44, v45, v46, v47, v48, v49, v50, v51, v52, v53, v54, v55, v56, v57, v58, v59, v60, v61, v62, v63, v64, v65, v66, v67, v68, v69, v70, v71, v72, v73, v74, v75, v76, v77, v78, v79, v80, v81, v82, v83, v84, v85, v86, v87, v88, v89, v90, v91, v92, v93, v94, v95, v96, v97, v98, v99, v100, v101, v102, v103, v104, v105, v106, v107, v108, v109, v110, v111, v112, v113, v114, v115, v116, v117, v118, v119, v120, v121, v122, v123, v124, v125, v126, v127, v128, v129, v130, v131, v132, v133, v134, v135, v136, v137, v138, v139, v140, v141, v142, v143, v144, v145, v146, v147, v148, v149, v150, v151, v152, v153, v154, v155, v156, v157, v158, v159, v160, v161, v162, v163, v164, v165, v166, v167, v168, v169, v170, v171, v172, v173, v174, v175, v176, v177, v178, v179, v180, v181, v182, v183, v184, v185, v186, v187], []⟩ wc := by
  conv => arg 2; whnf
  refine wp_region_grows (by kernel_rfl) (by kernel_rfl) ?_
  iterate 3 (first
      | (refine wpQuiet_conv (by go_simp; done) 22 9 (.tmp 128) rfl (.slice (some ⟨gx, 0, none⟩) 256 256) rfl (.string PX) HCX.out ?_; simp only [Act.put, List.setIfInBounds_toArray, List.set_cons_zero, List.set_cons_succ])
      | quiet_step (fail))
  iterate 4 (with_reducible refine wpQuiet_no ?_ ?_; (· first | (go_simp; done) | (go_simp; simp [undef]; done)); simp only [Act.put, List.setIfInBounds_toArray, List.set_cons_zero, List.set_cons_succ])
  iterate 2 (first
      | (refine wpQuiet_conv (by go_simp; done) 22 9 (.tmp 128) rfl (.slice (some ⟨gx, 0, none⟩) 256 256) rfl (.string PX) HCX.out ?_; simp only [Act.put, List.setIfInBounds_toArray, List.set_cons_zero, List.set_cons_succ])
      | quiet_step (fail))
  iterate 4 (with_reducible refine wpQuiet_no ?_ ?_; (· first | (go_simp; done) | (go_simp; simp [undef]; done)); simp only [Act.put, List.setIfInBounds_toArray, List.set_cons_zero, List.set_cons_succ])
  iterate 7 (first
      | (refine wpQuiet_conv (by go_simp; done) 22 9 (.tmp 128) rfl (.slice (some ⟨gx, 0, none⟩) 256 256) rfl (.string PX) HCX.out ?_; simp only [Act.put, List.setIfInBounds_toArray, List.set_cons_zero, List.set_cons_succ])
      | quiet_step (fail))
  iterate 16 (with_reducible refine wpQuiet_no ?_ ?_; (· first | (go_simp; done) | (go_simp; simp [undef]; done)); simp only [Act.put, List.setIfInBounds_toArray, List.set_cons_zero, List.set_cons_succ])
  iterate 2 (first
      | (refine wpQuiet_conv (by go_simp; done) 22 9 (.tmp 128) rfl (.slice (some ⟨gx, 0, none⟩) 256 256) rfl (.string PX) HCX.out ?_; simp only [Act.put, List.setIfInBounds_toArray, List.set_cons_zero, List.set_cons_succ])
      | quiet_step (fail))
  refine wpQuiet_nil ?_
  rintro wx ⟨⟨_, hwx⟩, rfl⟩
  have HR := Lib.hid hwx
  clear hwx
  go_wp2
  go_meet
  exact Lib.hid ⟨rfl, HR.out⟩
end Go.Proofs.Ythpfdenpgegheaa
