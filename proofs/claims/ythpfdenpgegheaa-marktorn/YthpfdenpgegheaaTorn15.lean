/-
  MarkTorn, in parts: from the torn text on.
-/
import Derived.Test.YthpfdenpgegheaaTorn19
import Derived.BigQuiet
import Derived.Deep.DeepCutAuto
import Derived.Deep.CutBlock
namespace Go.Proofs.Ythpfdenpgegheaa
open Go.RowKit

set_option linter.unusedVariables false
set_option linter.unusedSimpArgs false
set_option maxRecDepth 100000 in
set_option maxHeartbeats 16000000 in
theorem torn15_says (w wc : World) (m' o : Mk) (a0 a1 a2 : Int) (pay pb y : List UInt8) (n t gp gx gy : Nat) (hn : n ≤ 220) (ht : t ≤ 255) (hpbl : pb.length ≤ 220) (HPB : Hid (pay.take n = pb)) (HMY : Hid (m'.may = true)) (HWAS : Hid (Was m' y)) (HTa : Hid (Tn w wc m' o a0 a1 a2)) (HPa : Hid (pay.length = 220 ∧ Box wc gp 5 (bc pay).toArray)) (HXa : Hid (Box wc gx 5 (bc (sealed m' pb)).toArray)) (HYa : Hid (Box wc gy 5 (bc y).toArray)) {v0 v1 v2 v5 v6 v8 v10 v13 v15 v16 v17 v18 v19 v20 v21 v22 v23 v24 v25 v26 v27 v28 v29 v30 v31 v32 v33 v34 v35 v36 v37 v38 v39 v40 v41 v42 v43 v44 v45 v46 v47 v48 v49 v50 v51 v52 v53 v54 v55 v56 v57 v58 v59 v60 v61 v62 v63 v64 v65 v66 v67 v68 v69 v70 v71 v72 v73 v74 v75 v76 v77 v78 v79 v80 v81 v82 v83 v84 v85 v86 v87 v88 v89 v90 v91 v92 v93 v94 v95 v96 v97 v98 v99 v100 v101 v102 v103 v104 v105 v106 v107 v108 v109 v110 v111 v112 v113 v114 v115 v116 v117 v118 v119 v120 v121 v122 v123 v124 v125 v126 v127 v128 v129 v130 v131 v132 v133 v134 v135 v136 v137 v138 v139 v140 v141 v142 v143 v144 v145 v146 v147 v148 v149 v150 v151 v152 v153 v154 v155 v156 v157 v158 v159 v160 v161 v162 v163 v164 v165 v166 v167 v168 v169 v170 v171 v172 v173 v174 v175 v176 v177 v178 v179 v180 v181 v182 v183 v184 v185 v186 v187 : Value} :
    Code.wp Try.prog torn15 (bodyPost Try.prog Try.f4 fun e w' => e = .returned (.bool true) ∧ Below w.heap.size w w') ⟨#[v0, v1, v2, (.pointer (some ⟨w.heap.size, 0, none⟩)), (.pointer (some ⟨w.heap.size + 1, 0, none⟩)), v5, v6, (.slice (some ⟨gp, 0, none⟩) 220 220), v8, (.int .i64 (n : Int)), v10, (.int .i64 (t : Int)), (.slice (some ⟨gx, 0, none⟩) 256 256), v13, (.slice (some ⟨gy, 0, none⟩) 256 256), v15, v16, v17, v18, v19, v20, v21, v22, v23, v24, v25, v26, v27, v28, v29, v30, v31, v32, v33, v34, v35, v36, v37, v38, v39, v40, v41, v42, v43, v44, v45, v46, v47, v48, v49, v50, v51, v52, v53, v54, v55, v56, v57, v58, v59, v60, v61, v62, v63, v64, v65, v66, v67, v68, v69, v70, v71, v72, v73, v74, v75, v76, v77, v78, v79, v80, v81, v82, v83, v84, v85, v86, v87, v88, v89, v90, v91, v92, v93, v94, v95, v96, v97, v98, v99, v100, v101, v102, v103, v104, v105, v106, v107, v108, v109, v110, v111, v112, v113, v114, v115, v116, v117, v118, v119, v120, v121, v122, v123, v124, v125, v126, v127, v128, v129, v130, v131, v132, v133, v134, v135, v136, v137, v138, v139, v140, v141, v142, v143, v144, v145, v146, v147, v148, v149, v150, v151, v152, v153, v154, v155, v156, v157, v158, v159, v160, v161, v162, v163, v164, v165, v166, v167, v168, v169, v170, v171, v172, v173, v174, v175, v176, v177, v178, v179, v180, v181, v182, v183, v184, v185, v186, v187], []⟩ wc := by
  conv => arg 2; whnf
  go_upto_region 17 with fail
  obtain ⟨xx, hxx⟩ : ∃ z, sealed m' pb = z := ⟨_, rfl⟩
  have HXX := Lib.hid hxx
  have hxl : xx.length = 256 := by rw [← hxx]; exact sealed_length m' pb hpbl
  obtain ⟨PA, hPA⟩ : ∃ z, (⟨(xx.take t).toArray⟩ : ByteArray) = z := ⟨_, rfl⟩
  obtain ⟨PB, hPB⟩ : ∃ z, (⟨(y.drop t).toArray⟩ : ByteArray) = z := ⟨_, rfl⟩
  obtain ⟨PT, hPT⟩ : ∃ z, (⟨(torn xx y t).toArray⟩ : ByteArray) = z := ⟨_, rfl⟩
  have hadd : PA ++ PB = PT := by rw [← hPA, ← hPB, ← hPT, str_append, torn]
  have hyl := HWAS.out.1
  have hsz : ¬ 9223372036854775807 < PA.size + PB.size := by rw [← hPA, ← hPB, str_size, str_size, List.length_take, List.length_drop]; omega
  have sA : ∀ W, (Instr.sliceAt 22 (.slice (some ⟨gx, 0, none⟩) 256 256) none (some (.int .i64 (t : Int))) none).run Try.prog W = .ok (.slice (some ⟨gx, 0, none⟩) t 256) W := fun W => sliceAt_to Try.underlying22 infoByte .i64 (some ⟨gx, 0, none⟩) 256 256 t (by omega) W
  have sB : ∀ W, (Instr.sliceAt 22 (.slice (some ⟨gy, 0, none⟩) 256 256) (some (.int .i64 (t : Int))) none none).run Try.prog W = .ok (.slice (some ⟨gy, t, none⟩) (256 - t) (256 - t)) W := fun W => by have := cut_from gy 0 256 256 t (by omega) (by omega) W; simpa using this
  have lA : Lies wc (fun _ => True) (some ⟨gx, 0, none⟩) t 256 (bc (xx.take t)) := by
    have := (lies_box (N := fun _ => True) (n := 256) HXa.out trivial (by rw [hxx]; exact hxl)).first (m := t) (by omega)
    rw [hxx, bc_take] at this
    exact this
  have lB : Lies wc (fun _ => True) (some ⟨gy, t, none⟩) (256 - t) (256 - t) (bc (y.drop t)) := by
    have := (lies_box (N := fun _ => True) HYa.out trivial hyl).from t (by omega)
    rw [cutA, if_neg (by omega), bc_drop] at this
    simpa [Addr.add_mid] using this
  have cA : ∀ q, (convert 22 9 (.slice (some ⟨gx, 0, none⟩) t 256)).run Try.prog (wc.drewN q) = .ok (.string PA) (wc.drewN q) := fun q => by rw [← hPA]; exact conv_lies (lA.drewN q)
  have cB : ∀ q, (convert 22 9 (.slice (some ⟨gy, t, none⟩) (256 - t) (256 - t))).run Try.prog (wc.drewN q) = .ok (.string PB) (wc.drewN q) := fun q => by rw [← hPB]; exact conv_lies (lB.drewN q)
  have HPT := Lib.hid hPT
  have HXL := Lib.hid hxl
  clear hxx lA lB hPA hPB hPT hyl hxl
  go_quiet (fail)
  clear cA cB sA sB hadd hsz
  go_upto_region 18 with fail
  try simp only [Act.put]
  go_cut [17, 18, 19] (fun v17 v18 v19 wx => Hid (Below wc.heap.size wc wx ∧ Opd (torn xx y t) v17 v18 v19 wx))
  case first =>
    obtain ⟨c18, w18, hcv, hb18, hl18⟩ := bytes_of_str (wc.drewN nq) (torn xx y t)
    have htl : (torn xx y t).length = 256 := torn_length HXL.out HWAS.out.1 t (by omega)
    rw [HPT.out, htl] at hcv
    rw [htl] at hl18
    have HL18 := Lib.hid hl18
    have HB18 := Lib.hid (⟨hb18.os, hb18.tape, hb18.output, hb18.size, hb18.block⟩ : Below wc.heap.size wc w18)
    clear hl18 hb18 htl
    go_wp2_with fail
    refine (open_says w18 _ c18 _ HL18.out).mono ?_
    rintro e wa ⟨hno, hyes, hba⟩
    cases hop : opens (torn xx y t) with
    | none =>
      obtain rfl := hno hop
      obtain ⟨wb, hwb⟩ : ∃ x, wa.alloc (.cells #[.int .u8 0, .int .u64 0, .int .u64 0] 25) = x := ⟨_, rfl⟩
      have hbwb : Below wa.heap.size wa wb := by rw [← hwb]; exact (Below.refl _ wa).alloc (Nat.le_refl _) _
      have hmwb : Box wb wa.heap.size 25 (mv Mk.zero) := by rw [← hwb]; exact Box.made wa _ _
      obtain ⟨wd, hwd⟩ : ∃ x, wb.setRow wa.heap.size (mv Mk.zero) = x := ⟨_, rfl⟩
      have hmwd : Box wd wa.heap.size 25 (mv Mk.zero) := by rw [← hwd]; exact setRow_heap _ _ _ _ _ _ hmwb
      have hbwd : Below wa.heap.size wa wd := hbwb.trans (by rw [← hwd]; exact (Below.refl _ wb).grown (grown_row (grown_refl _ (some wa.heap.size)) _) hbwb.size (fun k e => by injection e with e; omega))
      have HMwb := Lib.hid hmwb
      have HWwd := Lib.hid hwd
      have HR := Lib.hid (And.intro (HB18.out.trans ((hba.trans (hbwd.mono hba.size)).mono HB18.out.size)) (show Opd (torn xx y t) (.pointer (some ⟨wa.heap.size, 0, none⟩)) (.slice none 0 0) (.int .i64 11) wd from ⟨_, rfl, .inl ⟨hop, rfl, rfl⟩⟩))
      clear hno hyes hba hop hbwb hmwb hwd hmwd hbwd hcv
      go_wp2_with (refine wpList_store_row rfl 25 _ _ rfl wa.heap.size (mv Mk.zero) rfl rfl 25 _ HMwb.out (by rw [mv_size]; exact mkInfo) rfl (mv_one _) ?_; rw [HWwd.out])
      go_meet
      exact HR
    | some zs =>
      obtain ⟨z, s⟩ := zs
      obtain ⟨gs, rfl, hgs, hxs⟩ := hyes z s hop
      obtain ⟨wb, hwb⟩ : ∃ x, wa.alloc (.cells #[.int .u8 0, .int .u64 0, .int .u64 0] 25) = x := ⟨_, rfl⟩
      have hbwb : Below wa.heap.size wa wb := by rw [← hwb]; exact (Below.refl _ wa).alloc (Nat.le_refl _) _
      have hmwb : Box wb wa.heap.size 25 (mv Mk.zero) := by rw [← hwb]; exact Box.made wa _ _
      obtain ⟨wd, hwd⟩ : ∃ x, wb.setRow wa.heap.size (mv z) = x := ⟨_, rfl⟩
      have hmwd : Box wd wa.heap.size 25 (mv z) := by rw [← hwd]; exact setRow_heap _ _ _ _ _ _ hmwb
      have hbwd : Below wa.heap.size wa wd := hbwb.trans (by rw [← hwd]; exact (Below.refl _ wb).grown (grown_row (grown_refl _ (some wa.heap.size)) _) hbwb.size (fun k e => by injection e with e; omega))
      have HMwb := Lib.hid hmwb
      have HWwd := Lib.hid hwd
      have HR := Lib.hid (And.intro (HB18.out.trans ((hba.trans (hbwd.mono hba.size)).mono HB18.out.size)) (show Opd (torn xx y t) (.pointer (some ⟨wa.heap.size, 0, none⟩)) (.slice (some ⟨gs, 0, none⟩) s.length s.length) (.int .i64 0) wd from ⟨_, rfl, .inr ⟨z, s, gs, hop, rfl, rfl, Box.below hxs hbwd hxs.lt, hmwd⟩⟩))
      clear hno hyes hba hop hbwb hmwb hwd hmwd hbwd hgs hxs hcv
      go_wp2_with (refine wpList_store_row rfl 25 _ _ rfl wa.heap.size (mv z) rfl rfl 25 _ HMwb.out (by rw [mv_size]; exact mkInfo) rfl (mv_one _) ?_; rw [HWwd.out])
      go_meet
      exact HR
  case rest =>
    have HTb := Lib.hid (HTa.out.below hcut.out.1)
    have HPb := Lib.hid (And.intro HPa.out.1 (Box.below HPa.out.2 hcut.out.1 HPa.out.2.lt))
    have HXb := Lib.hid (show Box wc gx 5 (bc xx).toArray by have := Box.below HXa.out hcut.out.1 HXa.out.lt; rw [HXX.out] at this; exact this)
    have HYb := Lib.hid (Box.below HYa.out hcut.out.1 HYa.out.lt)
    have HOP := Lib.hid hcut.out.2
    clear hcut HTa HPa HXa HYa
    rename_i KK kk
    exact kk _ _ (torn19_says w wc m' o a0 a1 a2 pay pb xx y n t gp gx gy PT _ _ _ hn ht hpbl HXX HXL HPT HPB HMY HWAS HTb HPb HXb HYb HOP)
end Go.Proofs.Ythpfdenpgegheaa
