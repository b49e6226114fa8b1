/-
  MarkOpens, in parts: its end.
-/
import Derived.Test.YthpfdenpgegheaaOpensC
import Derived.BigQuiet
import Derived.Deep.DeepCutAuto
import Derived.Deep.CutBlock
namespace Go.Proofs.Ythpfdenpgegheaa
open Go.RowKit

set_option linter.unusedVariables false
set_option linter.unusedSimpArgs false
set_option maxRecDepth 100000 in
set_option maxHeartbeats 16000000 in
theorem opens13y_says (w wc : World) (b o c : Nat) (l : List UInt8) (z : UInt8) (gd : Nat) (hll : l.length = 256) (hcc : 256 ≤ c) (HLB : Hid (Lies wc (fun _ => True) (some ⟨b, o + 1, none⟩) 255 (c - 1) (bc (l.drop 1)))) (HB : Hid (Below w.heap.size w wc)) (HXD : Hid (Box wc gd 5 (bc (z :: l.drop 1)).toArray)) {v2 v3 v4 v5 v6 v7 v8 v9 v10 v11 v12 v13 v16 v17 v18 v19 v20 v21 v22 v23 v24 v25 v26 v27 v28 v29 v30 v31 v32 v33 v34 v35 v36 v37 v38 v39 v40 v41 v42 v43 v44 v45 v46 v47 v48 v49 v50 v51 v52 v53 v54 v55 v56 v57 v58 v59 v60 v61 v62 v63 v64 v65 v66 v67 v68 v69 v70 v71 v72 v73 v74 v75 v76 v77 v78 v79 v80 v81 v82 v83 v84 v85 v86 v87 v88 v89 v90 v91 v92 v93 v94 v95 v96 v97 v98 v99 v100 v101 v102 v103 v104 v105 v106 v107 v108 v109 v110 v111 v112 v113 v114 v115 v116 v117 v118 v119 v120 v121 v122 v123 v124 v125 v126 v127 v128 v129 v130 v131 v132 v133 v134 v135 v136 v137 v138 v139 v140 v141 v142 v143 v144 v145 v146 v147 v148 v149 v150 v151 v152 : Value} :
    Code.wp Try.prog opens13 (bodyPost Try.prog Try.f3 fun e w' => e = .returned (.bool true) ∧ Below w.heap.size w w') ⟨#[(.slice (some ⟨b, o, none⟩) 256 c), (.int .u8 (z.toNat : Int)), v2, v3, v4, v5, v6, v7, v8, v9, v10, v11, v12, v13, (.slice (some ⟨gd, 0, none⟩) 256 256), (.int .i64 0), v16, v17, v18, v19, v20, v21, v22, v23, v24, v25, v26, v27, v28, v29, v30, v31, v32, v33, v34, v35, v36, v37, v38, v39, v40, v41, v42, v43, v44, v45, v46, v47, v48, v49, v50, v51, v52, v53, v54, v55, v56, v57, v58, v59, v60, v61, v62, v63, v64, v65, v66, v67, v68, v69, v70, v71, v72, v73, v74, v75, v76, v77, v78, v79, v80, v81, v82, v83, v84, v85, v86, v87, v88, v89, v90, v91, v92, v93, v94, v95, v96, v97, v98, v99, v100, v101, v102, v103, v104, v105, v106, v107, v108, v109, v110, v111, v112, v113, v114, v115, v116, v117, v118, v119, v120, v121, v122, v123, v124, v125, v126, v127, v128, v129, v130, v131, v132, v133, v134, v135, v136, v137, v138, v139, v140, v141, v142, v143, v144, v145, v146, v147, v148, v149, v150, v151, v152], []⟩ wc := by
  conv => arg 2; whnf
  obtain ⟨PR, hPR⟩ : ∃ x, (⟨(l.drop 1).toArray⟩ : ByteArray) = x := ⟨_, rfl⟩
  obtain ⟨PD, hPD⟩ : ∃ x, (⟨(z :: l.drop 1).toArray⟩ : ByteArray) = x := ⟨_, rfl⟩
  obtain ⟨P1, hP1⟩ : ∃ x, (⟨[z].toArray⟩ : ByteArray) = x := ⟨_, rfl⟩
  have sB : ∀ W, (Instr.sliceAt 22 (.slice (some ⟨b, o, none⟩) 256 c) (some (.int .i64 1)) none none).run Try.prog W = .ok (.slice (some ⟨b, o + 1, none⟩) 255 (c - 1)) W := fun W => by have := cut_from b o 256 c 1 (by omega) (by omega) W; simpa using this
  have hcR := conv_grows HLB.out
  rw [hPR] at hcR
  have hcD := conv_grows (lies_box (N := fun _ => True) (n := 256) HXD.out trivial (by rw [List.length_cons, List.length_drop, hll]))
  rw [hPD] at hcD
  have HCR := Lib.hid hcR
  have HCD := Lib.hid hcD
  have HP1 := Lib.hid hP1
  have hadd : P1 ++ PR = PD := by rw [← hP1, ← hPR, ← hPD]; exact str_append [z] (l.drop 1)
  have hpr : PR.size = 255 := by rw [← hPR, str_size, List.length_drop, hll]
  have hp1 : P1.size = 1 := by rw [← hP1]; rfl
  have hsz : ¬ 9223372036854775807 < P1.size + PR.size := by rw [hpr, hp1]; decide
  clear hpr hp1
  clear hcR hcD hPR hPD hP1 hll hcc
  refine wp_seq ?_
  refine wp_region_held_drew (S := fun u => ∃ p : Grows wc, u = p.val) (by kernel_rfl) ⟨⟨wc.drew, (Below.refl _ wc).drew⟩, rfl⟩ (fun hHeld => ?_)
  refine take_run 0 136 (v := ?_) rfl rfl (by kernel_rfl) (by kernel_rfl) (by kernel_rfl) (fun _ _ _ h => h) (by rfl) ?_ (by assumption) ?_
  rotate_left
  · (intro wq hSw; have hS1 := True.intro; go_simp; first | done | with_reducible rfl)
  simp only [Act.put, List.setIfInBounds_toArray, List.set_cons_zero, List.set_cons_succ]
  refine take_run 1 137 (v := ?_) rfl rfl (by kernel_rfl) (by kernel_rfl) (by kernel_rfl) (fun _ _ _ h => h) (by rfl) ?_ (by assumption) ?_
  rotate_left
  · (intro wq hSw; have hS1 := True.intro; go_simp; first | done | with_reducible rfl)
  simp only [Act.put, List.setIfInBounds_toArray, List.set_cons_zero, List.set_cons_succ]
  refine take_run 2 138 (v := ?_) rfl rfl (by kernel_rfl) (by kernel_rfl) (by kernel_rfl) (fun _ _ _ h => h) (by rfl) ?_ (by assumption) ?_
  rotate_left
  · (intro wq hSw; have hS1 := True.intro; go_simp; first | done | with_reducible rfl)
  simp only [Act.put, List.setIfInBounds_toArray, List.set_cons_zero, List.set_cons_succ]
  refine take_run 3 139 (v := ?_) rfl rfl (by kernel_rfl) (by kernel_rfl) (by kernel_rfl) (fun _ _ _ h => h) (by rfl) ?_ (by assumption) ?_
  rotate_left
  · (intro wq hSw; have hS1 := True.intro; go_simp; first | done | with_reducible rfl)
  simp only [Act.put, List.setIfInBounds_toArray, List.set_cons_zero, List.set_cons_succ]
  refine take_run 4 140 (v := ?_) rfl rfl (by kernel_rfl) (by kernel_rfl) (by kernel_rfl) (fun _ _ _ h => h) (by rfl) ?_ (by assumption) ?_
  rotate_left
  · (intro wq hSw; have hS1 := HCD.out wq hSw; go_simp; first | done | with_reducible rfl)
  simp only [Act.put, List.setIfInBounds_toArray, List.set_cons_zero, List.set_cons_succ]
  refine take_run 5 141 (v := ?_) rfl rfl (by kernel_rfl) (by kernel_rfl) (by kernel_rfl) (fun _ _ _ h => h) (by rfl) ?_ (by assumption) ?_
  rotate_left
  · (intro wq hSw; have hS1 := True.intro; go_simp; first | done | with_reducible rfl)
  simp only [Act.put, List.setIfInBounds_toArray, List.set_cons_zero, List.set_cons_succ]
  refine take_run 8 144 (v := ?_) rfl rfl (by kernel_rfl) (by kernel_rfl) (by kernel_rfl) (fun _ _ _ h => h) (by rfl) ?_ (by assumption) ?_
  rotate_left
  · (intro wq hSw; have hS1 := True.intro; go_simp; first | done | with_reducible rfl)
  simp only [Act.put, List.setIfInBounds_toArray, List.set_cons_zero, List.set_cons_succ]
  refine take_run 9 145 (v := ?_) rfl rfl (by kernel_rfl) (by kernel_rfl) (by kernel_rfl) (fun _ _ _ h => h) (by rfl) ?_ (by assumption) ?_
  rotate_left
  · (intro wq hSw; have hS1 := sB wq; go_simp; first | done | with_reducible rfl)
  simp only [Act.put, List.setIfInBounds_toArray, List.set_cons_zero, List.set_cons_succ]
  refine take_run 10 146 (v := ?_) rfl rfl (by kernel_rfl) (by kernel_rfl) (by kernel_rfl) (fun _ _ _ h => h) (by rfl) ?_ (by assumption) ?_
  rotate_left
  · (intro wq hSw; have hS1 := HCR.out wq hSw; go_simp; first | done | with_reducible rfl)
  simp only [Act.put, List.setIfInBounds_toArray, List.set_cons_zero, List.set_cons_succ]
  refine wpAnyH_ready (rs := [6]) (by kernel_rfl) (by simp) ?_
  refine AllReadyH.cons rfl (fun K hK => ?_) AllReadyH.nil
  obtain ⟨w3, hw3⟩ : ∃ x, wc.drew.alloc (.cells #[.int .u8 (z.toNat : Int)] 5) = x := ⟨_, rfl⟩
  have hb3 : Below wc.heap.size wc w3 := by rw [← hw3]; exact (Below.refl _ wc).drew.alloc (Nat.le_refl _) _
  have hx3 : Box w3 wc.heap.size 5 (bc [z]).toArray := by rw [← hw3]; exact Box.made wc.drew _ _
  refine step_run_yes (w' := w3) 142 (.slice (some ⟨wc.heap.size, 0, none⟩) 1 1) rfl (by rfl) (by rw [← hw3]; go_simp; first | done | rfl) ?_
  refine hK.out _ _ ⟨⟨w3, hb3⟩, rfl⟩ (fun hHeld => ?_)
  clear hK K hHeld
  try simp only [Act.put, List.setIfInBounds_toArray, List.set_cons_zero, List.set_cons_succ]
  refine wpAnyH_weakS (S' := fun u => (∃ p : Grows wc, u = p.val) ∧ Box u wc.heap.size 5 (bc [z]).toArray) (fun u hu => hu.1) ?_
  have hHeld : (∃ p : Grows wc, w3 = p.val) ∧ Box w3 wc.heap.size 5 (bc [z]).toArray := ⟨⟨⟨w3, hb3⟩, rfl⟩, hx3⟩
  refine take_run 7 143 (v := .string P1) rfl rfl (by kernel_rfl) (by kernel_rfl) (by kernel_rfl) (fun _ _ _ h => h) (by rfl) (fun wq hSw => by have hcv := conv_lies (lies_box (N := fun _ => True) hSw.2 trivial (n := 1) rfl); rw [HP1.out] at hcv; go_simp; first | done | rfl) (by assumption) ?_
  simp only [Act.put, List.setIfInBounds_toArray, List.set_cons_zero, List.set_cons_succ]
  refine take_run 11 147 (v := ?_) rfl rfl (by kernel_rfl) (by kernel_rfl) (by kernel_rfl) (fun _ _ _ h => h) (by rfl) ?_ (by assumption) ?_
  rotate_left
  · (intro wq hSw; have hS1 := True.intro; go_simp; first | done | with_reducible rfl)
  simp only [Act.put, List.setIfInBounds_toArray, List.set_cons_zero, List.set_cons_succ]
  refine take_run 12 148 (v := ?_) rfl rfl (by kernel_rfl) (by kernel_rfl) (by kernel_rfl) (fun _ _ _ h => h) (by rfl) ?_ (by assumption) ?_
  rotate_left
  · (intro wq hSw; have hS1 := True.intro; go_simp; first | done | with_reducible rfl)
  simp only [Act.put, List.setIfInBounds_toArray, List.set_cons_zero, List.set_cons_succ]
  refine take_run 13 149 (v := ?_) rfl rfl (by kernel_rfl) (by kernel_rfl) (by kernel_rfl) (fun _ _ _ h => h) (by rfl) ?_ (by assumption) ?_
  rotate_left
  · (intro wq hSw; have hS1 := True.intro; go_simp; first | done | with_reducible rfl)
  simp only [Act.put, List.setIfInBounds_toArray, List.set_cons_zero, List.set_cons_succ]
  refine take_run 14 150 (v := ?_) rfl rfl (by kernel_rfl) (by kernel_rfl) (by kernel_rfl) (fun _ _ _ h => h) (by rfl) ?_ (by assumption) ?_
  rotate_left
  · (intro wq hSw; have hS1 := True.intro; go_simp; first | done | with_reducible rfl)
  simp only [Act.put, List.setIfInBounds_toArray, List.set_cons_zero, List.set_cons_succ]
  refine wpAnyH_ready (rs := [15]) (by kernel_rfl) (by simp) ?_
  refine AllReadyH.cons rfl (fun K hK => ?_) AllReadyH.nil
  go_simp
  refine (one_says w3).mono ?_
  rintro e wz ⟨rfl, hbz⟩
  have hbz3 := hb3.trans (hbz.mono hb3.size)
  refine hK.out _ _ ⟨⟨⟨wz, hbz3⟩, rfl⟩, Box.below hx3 hbz hx3.lt⟩ (fun hHeld => ?_)
  clear hK K
  try simp only [Act.put, List.setIfInBounds_toArray, List.set_cons_zero, List.set_cons_succ]
  refine take_run 16 152 (v := ?_) rfl rfl (by kernel_rfl) (by kernel_rfl) (by kernel_rfl) (fun _ _ _ h => h) (by rfl) ?_ (by assumption) ?_
  rotate_left
  · (intro wq hSw; have hS1 := True.intro; go_simp; first | done | with_reducible rfl)
  simp only [Act.put, List.setIfInBounds_toArray, List.set_cons_zero, List.set_cons_succ]
  refine take_run 17 4 (v := ?_) rfl rfl (by kernel_rfl) (by kernel_rfl) (by kernel_rfl) (fun _ _ _ h => h) (by rfl) ?_ (by assumption) ?_
  rotate_left
  · (intro wq hSw; have hS1 := True.intro; go_simp; first | done | with_reducible rfl)
  simp only [Act.put, List.setIfInBounds_toArray, List.set_cons_zero, List.set_cons_succ]
  refine wpAnyH_done (by kernel_rfl) ?_ _
  have HZ := Lib.hid (HB.out.trans (hbz3.mono HB.out.size))
  clear hHeld hbz3 hbz hx3 hb3
  dsimp only [Exit.then]
  go_wp2
  go_ret
  exact ⟨rfl, HZ.out⟩
end Go.Proofs.Ythpfdenpgegheaa
