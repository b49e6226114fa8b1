/-
  MarkTorn, in parts: from the first Seal on.
-/
import Derived.Test.YthpfdenpgegheaaTorn11
import Derived.BigQuiet
import Derived.Deep.DeepCutAuto
import Derived.Deep.CutBlock
namespace Go.Proofs.Ythpfdenpgegheaa
open Go.RowKit

set_option linter.unusedVariables false
set_option linter.unusedSimpArgs false
set_option maxRecDepth 100000 in
set_option maxHeartbeats 16000000 in
theorem torn9_says (w wc : World) (m' o : Mk) (a0 a1 a2 : Int) (pay : List UInt8) (n k t gp : Nat) (hn : n ≤ 220) (hk : k ≤ 220) (ht : t ≤ 255) (HMY : Hid (m'.may = true)) (HT7 : Hid (Tn w wc m' o a0 a1 a2)) (HP7 : Hid (pay.length = 220 ∧ Box wc gp 5 (bc pay).toArray)) {v0 v1 v2 v5 v6 v8 v12 v13 v14 v15 v16 v17 v18 v19 v20 v21 v22 v23 v24 v25 v26 v27 v28 v29 v30 v31 v32 v33 v34 v35 v36 v37 v38 v39 v40 v41 v42 v43 v44 v45 v46 v47 v48 v49 v50 v51 v52 v53 v54 v55 v56 v57 v58 v59 v60 v61 v62 v63 v64 v65 v66 v67 v68 v69 v70 v71 v72 v73 v74 v75 v76 v77 v78 v79 v80 v81 v82 v83 v84 v85 v86 v87 v88 v89 v90 v91 v92 v93 v94 v95 v96 v97 v98 v99 v100 v101 v102 v103 v104 v105 v106 v107 v108 v109 v110 v111 v112 v113 v114 v115 v116 v117 v118 v119 v120 v121 v122 v123 v124 v125 v126 v127 v128 v129 v130 v131 v132 v133 v134 v135 v136 v137 v138 v139 v140 v141 v142 v143 v144 v145 v146 v147 v148 v149 v150 v151 v152 v153 v154 v155 v156 v157 v158 v159 v160 v161 v162 v163 v164 v165 v166 v167 v168 v169 v170 v171 v172 v173 v174 v175 v176 v177 v178 v179 v180 v181 v182 v183 v184 v185 v186 v187 : Value} :
    Code.wp Try.prog torn9 (bodyPost Try.prog Try.f4 fun e w' => e = .returned (.bool true) ∧ Below w.heap.size w w') ⟨#[v0, v1, v2, (.pointer (some ⟨w.heap.size, 0, none⟩)), (.pointer (some ⟨w.heap.size + 1, 0, none⟩)), v5, v6, (.slice (some ⟨gp, 0, none⟩) 220 220), v8, (.int .i64 (n : Int)), (.int .i64 (k : Int)), (.int .i64 (t : Int)), v12, v13, v14, v15, v16, v17, v18, v19, v20, v21, v22, v23, v24, v25, v26, v27, v28, v29, v30, v31, v32, v33, v34, v35, v36, v37, v38, v39, v40, v41, v42, v43, v44, v45, v46, v47, v48, v49, v50, v51, v52, v53, v54, v55, v56, v57, v58, v59, v60, v61, v62, v63, v64, v65, v66, v67, v68, v69, v70, v71, v72, v73, v74, v75, v76, v77, v78, v79, v80, v81, v82, v83, v84, v85, v86, v87, v88, v89, v90, v91, v92, v93, v94, v95, v96, v97, v98, v99, v100, v101, v102, v103, v104, v105, v106, v107, v108, v109, v110, v111, v112, v113, v114, v115, v116, v117, v118, v119, v120, v121, v122, v123, v124, v125, v126, v127, v128, v129, v130, v131, v132, v133, v134, v135, v136, v137, v138, v139, v140, v141, v142, v143, v144, v145, v146, v147, v148, v149, v150, v151, v152, v153, v154, v155, v156, v157, v158, v159, v160, v161, v162, v163, v164, v165, v166, v167, v168, v169, v170, v171, v172, v173, v174, v175, v176, v177, v178, v179, v180, v181, v182, v183, v184, v185, v186, v187], []⟩ wc := by
  conv => arg 2; whnf
  go_upto_region 9 with fail
  have s9 : ∀ W, (Instr.sliceAt 22 (.slice (some ⟨gp, 0, none⟩) 220 220) none (some (.int .i64 (n : Int))) none).run Try.prog W = .ok (.slice (some ⟨gp, 0, none⟩) n 220) W := fun W => sliceAt_to Try.underlying22 infoByte .i64 (some ⟨gp, 0, none⟩) 220 220 n (by omega) W
  have hpl := HP7.out.1
  have hlp : Lies wc (fun _ => True) (some ⟨gp, 0, none⟩) 220 220 (bc pay) := lies_box HP7.out.2 trivial hpl
  have HLP := Lib.hid hlp
  have HR9 := mk_range (show Box wc.drew w.heap.size 25 (mv m') from HT7.out.one)
  refine wp_region_held_drew (S := fun w' => w'.rangeAt w.heap.size 0 (mvl m')) (by kernel_rfl) HR9 (fun hHeld => ?_)
  clear hlp HR9
  refine take_load 0 62 25 (.tmp 3) w.heap.size 0 (mvl m') _ rfl rfl rfl (by kernel_rfl) (by kernel_rfl) (by kernel_rfl) (fun _ _ _ h => h) (by rfl) rfl (fun _ h => h) Try.underlying25 rfl (by kernel_rfl) (by assumption) ?_
  try simp only [Act.put, List.setIfInBounds_toArray, List.set_cons_zero, List.set_cons_succ]
  refine take_run 1 63 (v := ?_) rfl rfl (by kernel_rfl) (by kernel_rfl) (by kernel_rfl) (fun _ _ _ h => h) (by rfl) ?_ (by assumption) ?_
  rotate_left
  · (intro wq hSw; have hS1 := hSw; go_simp; first | done | with_reducible rfl)
  simp only [Act.put, List.setIfInBounds_toArray, List.set_cons_zero, List.set_cons_succ]
  refine take_run 2 64 (v := ?_) rfl rfl (by kernel_rfl) (by kernel_rfl) (by kernel_rfl) (fun _ _ _ h => h) (by rfl) ?_ (by assumption) ?_
  rotate_left
  · (intro wq hSw; have hS1 := hSw; go_simp; first | done | with_reducible rfl)
  simp only [Act.put, List.setIfInBounds_toArray, List.set_cons_zero, List.set_cons_succ]
  refine take_run 3 65 (v := ?_) rfl rfl (by kernel_rfl) (by kernel_rfl) (by kernel_rfl) (fun _ _ _ h => h) (by rfl) ?_ (by assumption) ?_
  rotate_left
  · (intro wq hSw; have hS1 := hSw; go_simp; first | done | with_reducible rfl)
  simp only [Act.put, List.setIfInBounds_toArray, List.set_cons_zero, List.set_cons_succ]
  refine wpAnyH_ready (rs := [4]) (by kernel_rfl) (by simp) ?_
  refine AllReadyH.cons rfl (fun K hK => ?_) AllReadyH.nil
  go_simp
  refine (seal_yes wc.drew m' HMY.out (some ⟨gp, 0, none⟩) n 220 (pay.take n) (by rw [← bc_take]; exact HLP.out.first hn) hn).mono ?_
  rintro e w8 ⟨gx, rfl, hgx, hx8, hb8⟩
  have hb8 : Below wc.heap.size wc w8 := ⟨hb8.os, hb8.tape, hb8.output, hb8.size, hb8.block⟩
  refine hK.out _ _ (mk_range (Box.below HT7.out.one hb8 HT7.out.one.lt)) (fun hHeld => ?_)
  clear hK K
  try simp only [Act.put, List.setIfInBounds_toArray, List.set_cons_zero, List.set_cons_succ]
  refine take_run 5 61 (v := ?_) rfl rfl (by kernel_rfl) (by kernel_rfl) (by kernel_rfl) (fun _ _ _ h => h) (by rfl) ?_ (by assumption) ?_
  rotate_left
  · (intro wq hSw; have hS1 := hSw; go_simp; first | done | with_reducible rfl)
  simp only [Act.put, List.setIfInBounds_toArray, List.set_cons_zero, List.set_cons_succ]
  refine take_run 6 67 (v := ?_) rfl rfl (by kernel_rfl) (by kernel_rfl) (by kernel_rfl) (fun _ _ _ h => h) (by rfl) ?_ (by assumption) ?_
  rotate_left
  · (intro wq hSw; have hS1 := hSw; go_simp; first | done | with_reducible rfl)
  simp only [Act.put, List.setIfInBounds_toArray, List.set_cons_zero, List.set_cons_succ]
  refine take_run 7 68 (v := ?_) rfl rfl (by kernel_rfl) (by kernel_rfl) (by kernel_rfl) (fun _ _ _ h => h) (by rfl) ?_ (by assumption) ?_
  rotate_left
  · (intro wq hSw; have hS1 := hSw; go_simp; first | done | with_reducible rfl)
  simp only [Act.put, List.setIfInBounds_toArray, List.set_cons_zero, List.set_cons_succ]
  refine take_run 8 12 (v := ?_) rfl rfl (by kernel_rfl) (by kernel_rfl) (by kernel_rfl) (fun _ _ _ h => h) (by rfl) ?_ (by assumption) ?_
  rotate_left
  · (intro wq hSw; have hS1 := hSw; go_simp; first | done | with_reducible rfl)
  simp only [Act.put, List.setIfInBounds_toArray, List.set_cons_zero, List.set_cons_succ]
  refine take_run 9 13 (v := ?_) rfl rfl (by kernel_rfl) (by kernel_rfl) (by kernel_rfl) (fun _ _ _ h => h) (by rfl) ?_ (by assumption) ?_
  rotate_left
  · (intro wq hSw; have hS1 := hSw; go_simp; first | done | with_reducible rfl)
  simp only [Act.put, List.setIfInBounds_toArray, List.set_cons_zero, List.set_cons_succ]
  refine wpAnyH_done (by kernel_rfl) ?_ _
  clear hHeld
  obtain ⟨pb, hpb⟩ : ∃ x, pay.take n = x := ⟨_, rfl⟩
  have hpbl : pb.length ≤ 220 := by rw [← hpb, List.length_take]; omega
  have HPB := Lib.hid hpb
  rw [hpb] at hx8
  have HT8 := Lib.hid (HT7.out.below hb8)
  have HP8 := Lib.hid (And.intro HP7.out.1 (Box.below HP7.out.2 hb8 HP7.out.2.lt))
  have HX8 := Lib.hid hx8
  clear hgx hx8 hb8 HT7 HP7 HLP s9 hpb hpl
  go_upto_region 10 with fail
  try simp only [Act.put]
  go_cut [14, 15] (fun v14 v15 wx => Hid (Below w8.heap.size w8 wx ∧ Two o v14 v15 wx))
  case first =>
    have hpl := HP8.out.1
    have s10 : ∀ W, (Instr.sliceAt 22 (.slice (some ⟨gp, 0, none⟩) 220 220) (some (.int .i64 (220 - (k : Int)))) none none).run Try.prog W = .ok (.slice (cutA (some ⟨gp, 0, none⟩) 220 (220 - k)) k k) W := fun W => by
      have := sliceAt_from Try.underlying22 infoByte .i64 (some ⟨gp, 0, none⟩) 220 220 (220 - k) (by omega) W
      rw [show ((220 - k : Nat) : Int) = 220 - (k : Int) by omega, show 220 - (220 - k) = k by omega] at this
      exact this
    have hl10 : Lies w8 (fun _ => True) (cutA (some ⟨gp, 0, none⟩) 220 (220 - k)) k k (bc (pay.drop (220 - k))) := by
      have := (lies_box (N := fun _ => True) HP8.out.2 trivial hpl).from (220 - k) (by omega)
      rw [show 220 - (220 - k) = k by omega, bc_drop] at this
      exact this
    have HL10 := Lib.hid hl10
    have hw73 : IntKind.i64.wrap (220 - (k : Int)) = 220 - (k : Int) := IntWalk.i64_in _ (by omega)
    have HR10 := mk_range (show Box w8.drew (w.heap.size + 1) 25 (mv o) from HT8.out.two)
    generalize cutA (some ⟨gp, 0, none⟩) 220 (220 - k) = A10 at *
    clear hl10 hpl
    refine wp_region_held_drew (S := fun w' => w'.rangeAt (w.heap.size + 1) 0 (mvl o)) (by kernel_rfl) HR10 (fun hHeld => ?_)
    clear HR10
    refine take_load 0 70 25 (.tmp 4) (w.heap.size + 1) 0 (mvl o) _ rfl rfl rfl (by kernel_rfl) (by kernel_rfl) (by kernel_rfl) (fun _ _ _ h => h) (by rfl) rfl (fun _ h => h) Try.underlying25 rfl (by kernel_rfl) (by assumption) ?_
    try simp only [Act.put, List.setIfInBounds_toArray, List.set_cons_zero, List.set_cons_succ]
    refine take_run 1 71 (v := ?_) rfl rfl (by kernel_rfl) (by kernel_rfl) (by kernel_rfl) (fun _ _ _ h => h) (by rfl) ?_ (by assumption) ?_
    rotate_left
    · (intro wq hSw; have hS1 := hSw; go_simp; first | done | with_reducible rfl)
    simp only [Act.put, List.setIfInBounds_toArray, List.set_cons_zero, List.set_cons_succ]
    refine take_run 2 72 (v := ?_) rfl rfl (by kernel_rfl) (by kernel_rfl) (by kernel_rfl) (fun _ _ _ h => h) (by rfl) ?_ (by assumption) ?_
    rotate_left
    · (intro wq hSw; have hS1 := hSw; go_simp; first | done | with_reducible rfl)
    simp only [Act.put, List.setIfInBounds_toArray, List.set_cons_zero, List.set_cons_succ]
    refine take_run 3 73 (v := ?_) rfl rfl (by kernel_rfl) (by kernel_rfl) (by kernel_rfl) (fun _ _ _ h => h) (by rfl) ?_ (by assumption) ?_
    rotate_left
    · (intro wq hSw; have hS1 := hSw; go_simp; first | done | with_reducible rfl)
    simp only [Act.put, List.setIfInBounds_toArray, List.set_cons_zero, List.set_cons_succ]
    refine take_run 4 74 (v := ?_) rfl rfl (by kernel_rfl) (by kernel_rfl) (by kernel_rfl) (fun _ _ _ h => h) (by rfl) ?_ (by assumption) ?_
    rotate_left
    · (intro wq hSw; have hS1 := hSw; go_simp; first | done | with_reducible rfl)
    simp only [Act.put, List.setIfInBounds_toArray, List.set_cons_zero, List.set_cons_succ]
    refine wpAnyH_ready (rs := [5]) (by kernel_rfl) (by simp) ?_
    refine AllReadyH.cons rfl (fun K hK => ?_) AllReadyH.nil
    go_simp
    cases hom : o.may with
    | false =>
      refine (seal_kind w8.drew o hom A10 k k).mono ?_
      rintro e w9 ⟨rfl, hb9⟩
      have hb9 : Below w8.heap.size w8 w9 := ⟨hb9.os, hb9.tape, hb9.output, hb9.size, hb9.block⟩
      refine hK.out _ _ (mk_range (Box.below HT8.out.two hb9 HT8.out.two.lt)) (fun hHeld => ?_)
      clear hK K
      try simp only [Act.put, List.setIfInBounds_toArray, List.set_cons_zero, List.set_cons_succ]
      refine take_run 6 69 (v := ?_) rfl rfl (by kernel_rfl) (by kernel_rfl) (by kernel_rfl) (fun _ _ _ h => h) (by rfl) ?_ (by assumption) ?_
      rotate_left
      · (intro wq hSw; have hS1 := hSw; go_simp; first | done | with_reducible rfl)
      simp only [Act.put, List.setIfInBounds_toArray, List.set_cons_zero, List.set_cons_succ]
      refine take_run 7 76 (v := ?_) rfl rfl (by kernel_rfl) (by kernel_rfl) (by kernel_rfl) (fun _ _ _ h => h) (by rfl) ?_ (by assumption) ?_
      rotate_left
      · (intro wq hSw; have hS1 := hSw; go_simp; first | done | with_reducible rfl)
      simp only [Act.put, List.setIfInBounds_toArray, List.set_cons_zero, List.set_cons_succ]
      refine take_run 8 77 (v := ?_) rfl rfl (by kernel_rfl) (by kernel_rfl) (by kernel_rfl) (fun _ _ _ h => h) (by rfl) ?_ (by assumption) ?_
      rotate_left
      · (intro wq hSw; have hS1 := hSw; go_simp; first | done | with_reducible rfl)
      simp only [Act.put, List.setIfInBounds_toArray, List.set_cons_zero, List.set_cons_succ]
      refine take_run 9 14 (v := ?_) rfl rfl (by kernel_rfl) (by kernel_rfl) (by kernel_rfl) (fun _ _ _ h => h) (by rfl) ?_ (by assumption) ?_
      rotate_left
      · (intro wq hSw; have hS1 := hSw; go_simp; first | done | with_reducible rfl)
      simp only [Act.put, List.setIfInBounds_toArray, List.set_cons_zero, List.set_cons_succ]
      refine take_run 10 15 (v := ?_) rfl rfl (by kernel_rfl) (by kernel_rfl) (by kernel_rfl) (fun _ _ _ h => h) (by rfl) ?_ (by assumption) ?_
      rotate_left
      · (intro wq hSw; have hS1 := hSw; go_simp; first | done | with_reducible rfl)
      simp only [Act.put, List.setIfInBounds_toArray, List.set_cons_zero, List.set_cons_succ]
      refine wpAnyH_done (by kernel_rfl) ?_ _
      clear hHeld
      have HR := Lib.hid (And.intro hb9 (show Two o (.slice none 0 0) (.int .i64 2) w9 from .inl ⟨hom, rfl, rfl⟩))
      clear hb9 hom
      go_wp2
      go_meet
      exact HR
    | true =>
      refine (seal_yes w8.drew o hom A10 k k _ HL10.out hk).mono ?_
      rintro e w9 ⟨g9, rfl, hg9, hx9, hb9⟩
      have hb9 : Below w8.heap.size w8 w9 := ⟨hb9.os, hb9.tape, hb9.output, hb9.size, hb9.block⟩
      refine hK.out _ _ (mk_range (Box.below HT8.out.two hb9 HT8.out.two.lt)) (fun hHeld => ?_)
      clear hK K
      try simp only [Act.put, List.setIfInBounds_toArray, List.set_cons_zero, List.set_cons_succ]
      refine take_run 6 69 (v := ?_) rfl rfl (by kernel_rfl) (by kernel_rfl) (by kernel_rfl) (fun _ _ _ h => h) (by rfl) ?_ (by assumption) ?_
      rotate_left
      · (intro wq hSw; have hS1 := hSw; go_simp; first | done | with_reducible rfl)
      simp only [Act.put, List.setIfInBounds_toArray, List.set_cons_zero, List.set_cons_succ]
      refine take_run 7 76 (v := ?_) rfl rfl (by kernel_rfl) (by kernel_rfl) (by kernel_rfl) (fun _ _ _ h => h) (by rfl) ?_ (by assumption) ?_
      rotate_left
      · (intro wq hSw; have hS1 := hSw; go_simp; first | done | with_reducible rfl)
      simp only [Act.put, List.setIfInBounds_toArray, List.set_cons_zero, List.set_cons_succ]
      refine take_run 8 77 (v := ?_) rfl rfl (by kernel_rfl) (by kernel_rfl) (by kernel_rfl) (fun _ _ _ h => h) (by rfl) ?_ (by assumption) ?_
      rotate_left
      · (intro wq hSw; have hS1 := hSw; go_simp; first | done | with_reducible rfl)
      simp only [Act.put, List.setIfInBounds_toArray, List.set_cons_zero, List.set_cons_succ]
      refine take_run 9 14 (v := ?_) rfl rfl (by kernel_rfl) (by kernel_rfl) (by kernel_rfl) (fun _ _ _ h => h) (by rfl) ?_ (by assumption) ?_
      rotate_left
      · (intro wq hSw; have hS1 := hSw; go_simp; first | done | with_reducible rfl)
      simp only [Act.put, List.setIfInBounds_toArray, List.set_cons_zero, List.set_cons_succ]
      refine take_run 10 15 (v := ?_) rfl rfl (by kernel_rfl) (by kernel_rfl) (by kernel_rfl) (fun _ _ _ h => h) (by rfl) ?_ (by assumption) ?_
      rotate_left
      · (intro wq hSw; have hS1 := hSw; go_simp; first | done | with_reducible rfl)
      simp only [Act.put, List.setIfInBounds_toArray, List.set_cons_zero, List.set_cons_succ]
      refine wpAnyH_done (by kernel_rfl) ?_ _
      clear hHeld
      have HR := Lib.hid (And.intro hb9 (show Two o (.slice (some ⟨g9, 0, none⟩) 256 256) (.int .i64 0) w9 from .inr ⟨hom, g9, _, rfl, rfl, by have := HL10.out.len; rw [bc_length] at this; omega, hx9⟩))
      clear hb9 hom hx9 hg9
      go_wp2
      go_meet
      exact HR
  case rest =>
    have HT9 := Lib.hid (HT8.out.below hcut.out.1)
    have HP9 := Lib.hid (And.intro HP8.out.1 (Box.below HP8.out.2 hcut.out.1 HP8.out.2.lt))
    have HX9 := Lib.hid (Box.below HX8.out hcut.out.1 HX8.out.lt)
    have H2 := Lib.hid hcut.out.2
    clear hcut HT8 HP8 HX8
    rename_i KK kk
    exact kk _ _ (torn11_says w wc m' o a0 a1 a2 pay pb n t gp gx _ _ hn ht hpbl HPB HMY HT9 HP9 HX9 H2)
end Go.Proofs.Ythpfdenpgegheaa
