/-
  MarkTorn, in parts: from the comparison on.
-/
import Derived.Test.YthpfdenpgegheaaTornNone
import Derived.Test.YthpfdenpgegheaaTornX
import Derived.Test.YthpfdenpgegheaaTornY
import Derived.Test.YthpfdenpgegheaaTorn21
import Derived.BigQuiet
import Derived.Deep.DeepCutAuto
import Derived.Deep.CutBlock
namespace Go.Proofs.Ythpfdenpgegheaa
open Go.RowKit

set_option linter.unusedVariables false
set_option linter.unusedSimpArgs false
set_option maxRecDepth 100000 in
set_option maxHeartbeats 16000000 in
theorem torn19_says (w wc : World) (m' o : Mk) (a0 a1 a2 : Int) (pay pb xx y : List UInt8) (n t gp gx gy : Nat) (PT : ByteArray) (v17 v18 v19 : Value) (hn : n ≤ 220) (ht : t ≤ 255) (hpbl : pb.length ≤ 220) (HXX : Hid (sealed m' pb = xx)) (HXL : Hid (xx.length = 256)) (HPT : Hid ((⟨(torn xx y t).toArray⟩ : ByteArray) = PT)) (HPB : Hid (pay.take n = pb)) (HMY : Hid (m'.may = true)) (HWAS : Hid (Was m' y)) (HTb : Hid (Tn w wc m' o a0 a1 a2)) (HPb : Hid (pay.length = 220 ∧ Box wc gp 5 (bc pay).toArray)) (HXb : Hid (Box wc gx 5 (bc xx).toArray)) (HYb : Hid (Box wc gy 5 (bc y).toArray)) (HOP : Hid (Opd (torn xx y t) v17 v18 v19 wc)) {v0 v1 v2 v4 v5 v6 v8 v10 v11 v13 v15 v20 v21 v22 v23 v24 v25 v26 v27 v28 v29 v30 v31 v32 v33 v34 v35 v36 v37 v38 v39 v40 v41 v42 v43 v44 v45 v46 v47 v48 v49 v50 v51 v52 v53 v54 v55 v56 v57 v58 v59 v60 v61 v62 v63 v64 v65 v66 v67 v68 v69 v70 v71 v72 v73 v74 v75 v76 v77 v78 v79 v80 v81 v82 v83 v84 v85 v86 v87 v88 v89 v90 v91 v92 v93 v94 v95 v96 v97 v98 v99 v100 v101 v102 v103 v104 v105 v106 v107 v108 v109 v110 v111 v112 v113 v114 v115 v116 v117 v118 v119 v120 v121 v122 v123 v124 v125 v126 v127 v128 v129 v130 v131 v132 v133 v134 v135 v136 v137 v138 v139 v140 v141 v142 v143 v144 v145 v146 v147 v148 v149 v150 v151 v152 v153 v154 v155 v156 v157 v158 v159 v160 v161 v162 v163 v164 v165 v166 v167 v168 v169 v170 v171 v172 v173 v174 v175 v176 v177 v178 v179 v180 v181 v182 v183 v184 v185 v186 v187 : Value} :
    Code.wp Try.prog torn19 (bodyPost Try.prog Try.f4 fun e w' => e = .returned (.bool true) ∧ Below w.heap.size w w') ⟨#[v0, v1, v2, (.pointer (some ⟨w.heap.size, 0, none⟩)), v4, v5, v6, (.slice (some ⟨gp, 0, none⟩) 220 220), v8, (.int .i64 (n : Int)), v10, v11, (.slice (some ⟨gx, 0, none⟩) 256 256), v13, (.slice (some ⟨gy, 0, none⟩) 256 256), v15, (.string PT), v17, v18, v19, v20, v21, v22, v23, v24, v25, v26, v27, v28, v29, v30, v31, v32, v33, v34, v35, v36, v37, v38, v39, v40, v41, v42, v43, v44, v45, v46, v47, v48, v49, v50, v51, v52, v53, v54, v55, v56, v57, v58, v59, v60, v61, v62, v63, v64, v65, v66, v67, v68, v69, v70, v71, v72, v73, v74, v75, v76, v77, v78, v79, v80, v81, v82, v83, v84, v85, v86, v87, v88, v89, v90, v91, v92, v93, v94, v95, v96, v97, v98, v99, v100, v101, v102, v103, v104, v105, v106, v107, v108, v109, v110, v111, v112, v113, v114, v115, v116, v117, v118, v119, v120, v121, v122, v123, v124, v125, v126, v127, v128, v129, v130, v131, v132, v133, v134, v135, v136, v137, v138, v139, v140, v141, v142, v143, v144, v145, v146, v147, v148, v149, v150, v151, v152, v153, v154, v155, v156, v157, v158, v159, v160, v161, v162, v163, v164, v165, v166, v167, v168, v169, v170, v171, v172, v173, v174, v175, v176, v177, v178, v179, v180, v181, v182, v183, v184, v185, v186, v187], []⟩ wc := by
  conv => arg 2; whnf
  refine wp_seq ?_
  refine wp_seq ?_
  obtain ⟨b17, rfl, hopd⟩ := HOP.out
  obtain ⟨PX, hPX⟩ : ∃ z, (⟨xx.toArray⟩ : ByteArray) = z := ⟨_, rfl⟩
  obtain ⟨PY, hPY⟩ : ∃ z, (⟨y.toArray⟩ : ByteArray) = z := ⟨_, rfl⟩
  have HCX := Lib.hid (conv_grows (lies_box (N := fun _ => True) HXb.out trivial HXL.out))
  have HCY := Lib.hid (conv_grows (lies_box (N := fun _ => True) HYb.out trivial HWAS.out.1))
  rw [hPX] at HCX
  rw [hPY] at HCY
  have hopx : opens xx = some (m', pb) := by rw [← HXX.out]; exact opens_sealed m' pb hpbl HMY.out
  rcases hopd with ⟨hop, rfl, rfl⟩ | ⟨z, s, gs, hop, rfl, rfl, hgs, hgz⟩
  · have hne : (PT.toList == PX.toList) = false := by
      rw [beq_eq_false_iff_ne]
      intro h
      have h2 : torn xx y t = xx := by
        rw [← HPT.out, ← hPX] at h
        simpa [ByteArray.toList_eq] using h
      rw [h2, hopx] at hop
      cases hop
    clear hopx hop hPX hPY
    exact torn_none w wc m' m' [] n gp gx gy b17 0 PT PX PX PX HCX hne _ _ _ _ _ _ _ _ _ _ _ _ _ _ _ _ _ _ _ _ _ _ _ _ _ _ _ _ _ _ _ _ _ _ _ _ _ _ _ _ _ _ _ _ _ _ _ _ _ _ _ _ _ _ _ _ _ _ _ _ _ _ _ _ _ _ _ _ _ _ _ _ _ _ _ _ _ _ _ _ _ _ _ _ _ _ _ _ _ _ _ _ _ _ _ _ _ _ _ _ _ _ _ _ _ _ _ _ _ _ _ _ _ _ _ _ _ _ _ _ _ _ _ _ _ _ _ _ _ _ _ _ _ _ _ _ _ _ _ _ _ _ _ _ _ _ _ _ _ _ _ _ _ _ _ _ _ _ _ _ _ _ _ _ _ _ _ _ _ _ _ _ _ _ _ _ _ _ _ (E := _) (J := _) (K' := _) (fun _ _ h => h) (fun a' w' h => by
      obtain ⟨u112, u113, u114, u115, u116, u117, u118, u119, u120, u121, u122, u123, u124, u125, u126, u127, u128, u129, u130, u131, u132, u133, u134, u135, u136, u137, u138, u139, u140, u141, u142, u143, u144, u145, u146, u147, u148, u149, hrel, rfl⟩ := h
      obtain ⟨rfl, hwc⟩ := hrel.out
      refine wp_cond_false rfl (wp_skip ?_)
      exact torn21_says w w' m' o a0 a1 a2 y gy HMY HWAS (Lib.hid (HTb.out.below hwc)) (Lib.hid (Box.below HYb.out hwc HYb.out.lt)))
  · have HRZ := Lib.hid (range_grows (mk_range hgz) hgz.lt)
    have HRM := Lib.hid (range_grows (mk_range HTb.out.one) HTb.out.one.lt)
    have HCS0 := conv_grows (lies_box (N := fun _ => True) hgs trivial (n := s.length) rfl)
    have hp1 := (lies_box (N := fun _ => True) HPb.out.2 trivial HPb.out.1).first hn
    rw [bc_take, HPB.out] at hp1
    have HCP0 := conv_grows hp1
    clear hp1
    by_cases htx : torn xx y t = xx
    · have hzm : z = m' ∧ s = pb := by rw [htx, hopx] at hop; injection hop with hop; injection hop with h1 h2; exact ⟨h1.symm, h2.symm⟩
      have HZM := Lib.hid hzm.1
      obtain ⟨PS, hPS⟩ : ∃ z, (⟨s.toArray⟩ : ByteArray) = z := ⟨_, rfl⟩
      rw [hPS] at HCS0
      rw [← hzm.2, hPS] at HCP0
      have HCS := Lib.hid HCS0
      have HCP := Lib.hid HCP0
      have hne : (PT.toList == PY.toList) = false := by
        rw [beq_eq_false_iff_ne]
        intro h
        have h2 : torn xx y t = y := by
          rw [← HPT.out, ← hPY] at h
          simpa [ByteArray.toList_eq] using h
        rw [htx, ← HXX.out] at h2
        exact was_ne HMY.out hpbl HWAS.out h2
      obtain rfl : PT = PX := by rw [← HPT.out, ← hPX, htx]
      clear hopx hop hPX hPY hzm htx hgs hgz HCS0 HCP0 hPS
      exact torn_x w wc m' z s n gp gx gy b17 gs PT PT PY PS HCX HCY HCS HCP HRZ HRM HZM hne hn _ _ _ _ _ _ _ _ _ _ _ _ _ _ _ _ _ _ _ _ _ _ _ _ _ _ _ _ _ _ _ _ _ _ _ _ _ _ _ _ _ _ _ _ _ _ _ _ _ _ _ _ _ _ _ _ _ _ _ _ _ _ _ _ _ _ _ _ _ _ _ _ _ _ _ _ _ _ _ _ _ _ _ _ _ _ _ _ _ _ _ _ _ _ _ _ _ _ _ _ _ _ _ _ _ _ _ _ _ _ _ _ _ _ _ _ _ _ _ _ _ _ _ _ _ _ _ _ _ _ _ _ _ _ _ _ _ _ _ _ _ _ _ _ _ _ _ _ _ _ _ _ _ _ _ _ _ _ _ _ _ _ _ _ _ _ _ _ _ _ _ _ _ _ _ _ _ _ _ (E := _) (J := _) (K' := _) (fun _ _ h => h) (fun a' w' h => by
        obtain ⟨u112, u113, u114, u115, u116, u117, u118, u119, u120, u121, u122, u123, u124, u125, u126, u127, u128, u129, u130, u131, u132, u133, u134, u135, u136, u137, u138, u139, u140, u141, u142, u143, u144, u145, u146, u147, u148, u149, hrel, rfl⟩ := h
        obtain ⟨rfl, hwc⟩ := hrel.out
        refine wp_cond_false rfl (wp_skip ?_)
        exact torn21_says w w' m' o a0 a1 a2 y gy HMY HWAS (Lib.hid (HTb.out.below hwc)) (Lib.hid (Box.below HYb.out hwc HYb.out.lt)))
    · have hty : torn xx y t = y := by
        have := torn_opens hpbl (y := y) HWAS.out.1 HWAS.out.2 t (by omega) (by rw [HXX.out]; exact hop)
        rw [HXX.out] at this
        exact this.resolve_left htx
      have hne : (PT.toList == PX.toList) = false := by
        rw [beq_eq_false_iff_ne]
        intro h
        apply htx
        rw [← HPT.out, ← hPX] at h
        simpa [ByteArray.toList_eq] using h
      obtain rfl : PT = PY := by rw [← HPT.out, ← hPY, hty]
      clear hopx hop hPX hPY htx hty hgs hgz HCS0 HCP0
      exact torn_y w wc m' z s n gp gx gy b17 gs PT PX PT PT HCX HCY hne _ _ _ _ _ _ _ _ _ _ _ _ _ _ _ _ _ _ _ _ _ _ _ _ _ _ _ _ _ _ _ _ _ _ _ _ _ _ _ _ _ _ _ _ _ _ _ _ _ _ _ _ _ _ _ _ _ _ _ _ _ _ _ _ _ _ _ _ _ _ _ _ _ _ _ _ _ _ _ _ _ _ _ _ _ _ _ _ _ _ _ _ _ _ _ _ _ _ _ _ _ _ _ _ _ _ _ _ _ _ _ _ _ _ _ _ _ _ _ _ _ _ _ _ _ _ _ _ _ _ _ _ _ _ _ _ _ _ _ _ _ _ _ _ _ _ _ _ _ _ _ _ _ _ _ _ _ _ _ _ _ _ _ _ _ _ _ _ _ _ _ _ _ _ _ _ _ _ _ (E := _) (J := _) (K' := _) (fun _ _ h => h) (fun a' w' h => by
        obtain ⟨u112, u113, u114, u115, u116, u117, u118, u119, u120, u121, u122, u123, u124, u125, u126, u127, u128, u129, u130, u131, u132, u133, u134, u135, u136, u137, u138, u139, u140, u141, u142, u143, u144, u145, u146, u147, u148, u149, hrel, rfl⟩ := h
        obtain ⟨rfl, hwc⟩ := hrel.out
        refine wp_cond_false rfl (wp_skip ?_)
        exact torn21_says w w' m' o a0 a1 a2 y gy HMY HWAS (Lib.hid (HTb.out.below hwc)) (Lib.hid (Box.below HYb.out hwc HYb.out.lt)))
end Go.Proofs.Ythpfdenpgegheaa
