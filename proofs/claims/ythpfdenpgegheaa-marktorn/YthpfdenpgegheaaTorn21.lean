/-
  MarkTorn, in parts: from Cover on.
-/
import Derived.Test.YthpfdenpgegheaaTornC
import Derived.BigQuiet
import Derived.Deep.DeepCutAuto
import Derived.Deep.CutBlock
namespace Go.Proofs.Ythpfdenpgegheaa
open Go.RowKit

set_option linter.unusedVariables false
set_option linter.unusedSimpArgs false
set_option maxRecDepth 100000 in
set_option maxHeartbeats 16000000 in
theorem torn21_says (w wc : World) (m' o : Mk) (a0 a1 a2 : Int) (y : List UInt8) (gy : Nat) (HMY : Hid (m'.may = true)) (HWAS : Hid (Was m' y)) (HTc : Hid (Tn w wc m' o a0 a1 a2)) (HYc : Hid (Box wc gy 5 (bc y).toArray)) {v0 v1 v2 v3 v4 v5 v6 v7 v8 v9 v10 v11 v12 v13 v15 v16 v17 v18 v19 v20 v21 v22 v23 v24 v25 v26 v27 v28 v29 v30 v31 v32 v33 v34 v35 v36 v37 v38 v39 v40 v41 v42 v43 v44 v45 v46 v47 v48 v49 v50 v51 v52 v53 v54 v55 v56 v57 v58 v59 v60 v61 v62 v63 v64 v65 v66 v67 v68 v69 v70 v71 v72 v73 v74 v75 v76 v77 v78 v79 v80 v81 v82 v83 v84 v85 v86 v87 v88 v89 v90 v91 v92 v93 v94 v95 v96 v97 v98 v99 v100 v101 v102 v103 v104 v105 v106 v107 v108 v109 v110 v111 v112 v113 v114 v115 v116 v117 v118 v119 v120 v121 v122 v123 v124 v125 v126 v127 v128 v129 v130 v131 v132 v133 v134 v135 v136 v137 v138 v139 v140 v141 v142 v143 v144 v145 v146 v147 v148 v149 v150 v151 v152 v153 v154 v155 v156 v157 v158 v159 v160 v161 v162 v163 v164 v165 v166 v167 v168 v169 v170 v171 v172 v173 v174 v175 v176 v177 v178 v179 v180 v181 v182 v183 v184 v185 v186 v187 : Value} :
    Code.wp Try.prog torn21 (bodyPost Try.prog Try.f4 fun e w' => e = .returned (.bool true) ∧ Below w.heap.size w w') ⟨#[v0, v1, v2, v3, v4, v5, v6, v7, v8, v9, v10, v11, v12, v13, (.slice (some ⟨gy, 0, none⟩) 256 256), v15, v16, v17, v18, v19, v20, v21, v22, v23, v24, v25, v26, v27, v28, v29, v30, v31, v32, v33, v34, v35, v36, v37, v38, v39, v40, v41, v42, v43, v44, v45, v46, v47, v48, v49, v50, v51, v52, v53, v54, v55, v56, v57, v58, v59, v60, v61, v62, v63, v64, v65, v66, v67, v68, v69, v70, v71, v72, v73, v74, v75, v76, v77, v78, v79, v80, v81, v82, v83, v84, v85, v86, v87, v88, v89, v90, v91, v92, v93, v94, v95, v96, v97, v98, v99, v100, v101, v102, v103, v104, v105, v106, v107, v108, v109, v110, v111, v112, v113, v114, v115, v116, v117, v118, v119, v120, v121, v122, v123, v124, v125, v126, v127, v128, v129, v130, v131, v132, v133, v134, v135, v136, v137, v138, v139, v140, v141, v142, v143, v144, v145, v146, v147, v148, v149, v150, v151, v152, v153, v154, v155, v156, v157, v158, v159, v160, v161, v162, v163, v164, v165, v166, v167, v168, v169, v170, v171, v172, v173, v174, v175, v176, v177, v178, v179, v180, v181, v182, v183, v184, v185, v186, v187], []⟩ wc := by
  conv => arg 2; whnf
  obtain ⟨y0, hy0⟩ : ∃ z, y.headD 0 = z := ⟨_, rfl⟩
  have hcov := cover_yes wc (some ⟨gy, 0, none⟩) 256 y (lies_box HYc.out trivial HWAS.out.1)
  have hunc := uncovered y HWAS.out.1
  rw [hy0] at hcov hunc
  have HCV := Lib.hid hcov
  have HUN := Lib.hid hunc
  clear hcov hunc hy0
  go_upto_region 22 with ((go_at_call 10); refine HCV.out.mono ?_; rintro e wr1 ⟨gc, rfl, hgc, hxc, hbc⟩; have HC := Lib.hid (And.intro hbc hxc); clear hgc hbc hxc)
  have HLC := Lib.hid (lies_box (N := fun _ => True) HC.out.2 trivial (show (3 :: y.drop 1).length = 256 by rw [List.length_cons, List.length_drop, HWAS.out.1]))
  go_wp2_with fail
  refine (open_says wr1 _ 256 _ HLC.out).mono ?_
  rintro e wa ⟨hno, _, hba⟩
  obtain rfl := hno (opens_covered y)
  obtain ⟨wb, hwb⟩ : ∃ x, wa.alloc (.cells #[.int .u8 0, .int .u64 0, .int .u64 0] 25) = x := ⟨_, rfl⟩
  have hbwb : Below wa.heap.size wa wb := by rw [← hwb]; exact (Below.refl _ wa).alloc (Nat.le_refl _) _
  have hmwb : Box wb wa.heap.size 25 (mv Mk.zero) := by rw [← hwb]; exact Box.made wa _ _
  obtain ⟨wd, hwd⟩ : ∃ x, wb.setRow wa.heap.size (mv Mk.zero) = x := ⟨_, rfl⟩
  have hmwd : Box wd wa.heap.size 25 (mv Mk.zero) := by rw [← hwd]; exact setRow_heap _ _ _ _ _ _ hmwb
  have hbwd : Below wa.heap.size wa wd := hbwb.trans (by rw [← hwd]; exact (Below.refl _ wb).grown (grown_row (grown_refl _ (some wa.heap.size)) _) hbwb.size (fun k e => by injection e with e; omega))
  have HMwb := Lib.hid hmwb
  have HWwd := Lib.hid hwd
  have hbz := hba.trans (hbwd.mono hba.size)
  have HLD := Lib.hid (HLC.out.below hbz)
  have HYd := Lib.hid (Box.below (Box.below HYc.out HC.out.1 HYc.out.lt) hbz (Box.below HYc.out HC.out.1 HYc.out.lt).lt)
  have HTd := Lib.hid ((HTc.out.below HC.out.1).below hbz)
  clear hno hba hbwb hmwb hwd hmwd hbwd hbz HLC HC
  go_upto_region 23 with (refine wpList_store_row rfl 25 _ _ rfl wa.heap.size (mv Mk.zero) rfl rfl 25 _ HMwb.out (by rw [mv_size]; exact mkInfo) rfl (mv_one _) ?_; rw [HWwd.out])
  go_wp2_with fail
  refine (bare_yes wd _ 256 _ HLD.out rfl y0).mono ?_
  rw [HUN.out]
  rintro e wf ⟨rfl, hxf, hbf⟩
  obtain ⟨PY, hPY⟩ : ∃ z, (⟨y.toArray⟩ : ByteArray) = z := ⟨_, rfl⟩
  have e1 := conv_lies (lies_box (N := fun _ => True) hxf trivial HWAS.out.1)
  have e2 := conv_lies (lies_box (N := fun _ => True) (Box.below HYd.out hbf HYd.out.lt) trivial HWAS.out.1)
  rw [hPY] at e1 e2
  have HB := Lib.hid (HTd.out.bel.trans (hbf.mono HTd.out.bel.size))
  clear hxf hbf hPY HLD HYd HTd
  go_wp2_with fail
  refine (one_says wf).mono ?_
  rintro e wz ⟨rfl, hbz⟩
  have HZ := Lib.hid (HB.out.trans (hbz.mono HB.out.size))
  clear hbz
  go_wp2
  go_ret
  exact ⟨rfl, HZ.out⟩
end Go.Proofs.Ythpfdenpgegheaa
