/-
  SuperLoads, in parts: from the reference's block on.
-/
import Derived.Test.YthpfdenpgegheaaLoads17
import Derived.Test.YthpfdenpgegheaaSaveNo
import Derived.BigQuiet
import Derived.Deep.DeepCutAuto
import Derived.Deep.CutBlock
namespace Go.Proofs.Ythpfdenpgegheaa
open Go.RowKit

set_option linter.unusedVariables false
set_option linter.unusedSimpArgs false
set_option maxRecDepth 100000 in
set_option maxHeartbeats 16000000 in
theorem loads15n_says (w wc : World) (p b5 gx : Nat) (h : Hd) (D : Dv) (s0 s1 : ByteArray) (HI : Hid (LI w p b5 gx h D s0 s1 wc)) {v0 v1 v2 v3 v4 v5 v6 v8 v11 v12 v13 v14 v15 v16 v17 v18 v19 v20 v21 v22 v23 v24 v25 v26 v27 v28 v29 v30 v31 v32 v33 v34 v35 v36 v37 v38 v39 v40 v41 v42 v43 v44 v45 v46 v47 v48 v49 v50 v51 v52 v53 v54 v55 v56 v57 v58 v59 v60 v61 v62 v63 v64 v65 v66 v67 v68 v69 v70 v71 v72 v73 v74 v75 v76 v77 v78 v79 v80 v81 v82 v83 v84 v85 v86 v87 v88 v89 v90 v91 v92 v93 v94 v95 v96 v97 v98 v99 v100 v101 v102 v103 v104 v105 v106 v107 v108 v109 v110 v111 v112 v113 v114 v115 v116 v117 v118 v119 v120 v121 v122 v123 v124 v125 v126 v127 v128 v129 v130 v131 v132 v133 : Value} :
    Code.wp Try.prog loads15 (bodyPost Try.prog Try.f5 fun e w' => e = .returned (.bool true) ∧ Below w.heap.size w w') ⟨#[v0, v1, v2, v3, v4, v5, v6, (.pointer (some ⟨p, 0, none⟩)), v8, (.pointer (some ⟨gx, 0, none⟩)), (.int .i64 2), v11, v12, v13, v14, v15, v16, v17, v18, v19, v20, v21, v22, v23, v24, v25, v26, v27, v28, v29, v30, v31, v32, v33, v34, v35, v36, v37, v38, v39, v40, v41, v42, v43, v44, v45, v46, v47, v48, v49, v50, v51, v52, v53, v54, v55, v56, v57, v58, v59, v60, v61, v62, v63, v64, v65, v66, v67, v68, v69, v70, v71, v72, v73, v74, v75, v76, v77, v78, v79, v80, v81, v82, v83, v84, v85, v86, v87, v88, v89, v90, v91, v92, v93, v94, v95, v96, v97, v98, v99, v100, v101, v102, v103, v104, v105, v106, v107, v108, v109, v110, v111, v112, v113, v114, v115, v116, v117, v118, v119, v120, v121, v122, v123, v124, v125, v126, v127, v128, v129, v130, v131, v132, v133], []⟩ wc := by
  conv => arg 2; whnf
  go_upto_region 15 with fail
  rename_i K2 kk2 K1 kk1
  have KK := Lib.hid kk2
  clear kk2
  go_wp2
  exact KK.out _ _ (loads17_says w wc p b5 gx h D s0 s1 HI)
set_option maxRecDepth 100000 in
set_option maxHeartbeats 16000000 in
theorem loads15y_says (w wc : World) (p b5 gx b11 : Nat) (h : Hd) (D : Dv) (s0 s1 : ByteArray) (hr : h.rightB 12 = true) (hB : Below w.heap.size w wc) (hD : Dev wc (fun k => (w.heap.size ≤ k ∧ k ≠ b5) ∧ k ≠ gx) p D) (hX : Box wc b5 43 (hv h)) (hT : Box wc gx 47 #[.string s0, .string s1]) (h11 : Box wc b11 50 (hv h)) (hlen : D.bs.length = 12) (hup : D.down = false) (hlf : D.left = -1) (hop : D.ops ≤ 10) (b5w : w.heap.size ≤ b5) (gxw : w.heap.size ≤ gx) (hne : b5 ≠ gx) (h11x : gx ≠ b11) (hbk : D.blk (h.gen % 2) = h.blk) (ho0 : h.gen % 2 = 1 → (⟨(D.blk 0).1.toArray⟩ : ByteArray) = s0) (ho1 : h.gen % 2 = 0 → (⟨(D.blk 1).1.toArray⟩ : ByteArray) = s1) {v0 v1 v2 v3 v4 v6 v8 v12 v13 v14 v15 v16 v17 v18 v19 v20 v21 v22 v23 v24 v25 v26 v27 v28 v29 v30 v31 v32 v33 v34 v35 v36 v37 v38 v39 v40 v41 v42 v43 v44 v45 v46 v47 v48 v49 v50 v51 v52 v53 v54 v55 v56 v57 v58 v59 v60 v61 v62 v63 v64 v65 v66 v67 v68 v69 v70 v71 v72 v73 v74 v75 v76 v77 v78 v79 v80 v81 v82 v83 v84 v85 v86 v87 v88 v89 v90 v91 v92 v93 v94 v95 v96 v97 v98 v99 v100 v101 v102 v103 v104 v105 v106 v107 v108 v109 v110 v111 v112 v113 v114 v115 v116 v117 v118 v119 v120 v121 v122 v123 v124 v125 v126 v127 v128 v129 v130 v131 v132 v133 : Value} :
    Code.wp Try.prog loads15 (bodyPost Try.prog Try.f5 fun e w' => e = .returned (.bool true) ∧ Below w.heap.size w w') ⟨#[v0, v1, v2, v3, v4, (.pointer (some ⟨b5, 0, none⟩)), v6, (.pointer (some ⟨p, 0, none⟩)), v8, (.pointer (some ⟨gx, 0, none⟩)), (.int .i64 0), (.pointer (some ⟨b11, 0, none⟩)), v12, v13, v14, v15, v16, v17, v18, v19, v20, v21, v22, v23, v24, v25, v26, v27, v28, v29, v30, v31, v32, v33, v34, v35, v36, v37, v38, v39, v40, v41, v42, v43, v44, v45, v46, v47, v48, v49, v50, v51, v52, v53, v54, v55, v56, v57, v58, v59, v60, v61, v62, v63, v64, v65, v66, v67, v68, v69, v70, v71, v72, v73, v74, v75, v76, v77, v78, v79, v80, v81, v82, v83, v84, v85, v86, v87, v88, v89, v90, v91, v92, v93, v94, v95, v96, v97, v98, v99, v100, v101, v102, v103, v104, v105, v106, v107, v108, v109, v110, v111, v112, v113, v114, v115, v116, v117, v118, v119, v120, v121, v122, v123, v124, v125, v126, v127, v128, v129, v130, v131, v132, v133], []⟩ wc := by
  conv => arg 2; whnf
  obtain ⟨PP, hPP⟩ : ∃ x, (⟨h.block.toArray⟩ : ByteArray) = x := ⟨_, rfl⟩
  have hpu := fun W => rput_says W h hr
  rw [hPP] at hpu
  have HPU := Lib.hid hpu
  have HPP := Lib.hid (show (⟨h.blk.1.toArray⟩ : ByteArray) = PP from hPP)
  clear hpu hPP
  rcases Nat.mod_two_eq_zero_or_one h.gen with hm2 | hm2
  · have hm : (h.gen : Int).tmod 2 = 0 := by rw [Int.tmod_eq_emod_of_nonneg (by omega)]; omega
    have HM2 := Lib.hid hm2
    go_upto_region 16 with fail
    rename_i KX kx
    have KK := Lib.hid kx
    clear kx hm2
    refine wp_region_held_drew (S := fun u => u.cell? ⟨b5, 0, none⟩ = some (.int .u64 (h.gen : Int)) ∧ u.rangeAt b11 0 (hvl h)) (by kernel_rfl) ⟨(Box.cell (show Box wc.drew b5 _ _ from hX) 0).trans rfl, hd_range (show Box wc.drew b11 _ _ from h11)⟩ (fun hHeld => ?_)
    refine take_run 0 71 (v := ?_) rfl rfl (by kernel_rfl) (by kernel_rfl) (by kernel_rfl) (fun _ _ _ h => h) (by rfl) ?_ (by assumption) ?_
    rotate_left
    · (intro wq hSw; obtain ⟨hS1, hS2⟩ := hSw; go_simp; first | done | with_reducible rfl)
    simp only [Act.put, List.setIfInBounds_toArray, List.set_cons_zero, List.set_cons_succ]
    refine take_run 1 72 (v := ?_) rfl rfl (by kernel_rfl) (by kernel_rfl) (by kernel_rfl) (fun _ _ _ h => h) (by rfl) ?_ (by assumption) ?_
    rotate_left
    · (intro wq hSw; obtain ⟨hS1, hS2⟩ := hSw; go_simp; first | done | with_reducible rfl)
    simp only [Act.put, List.setIfInBounds_toArray, List.set_cons_zero, List.set_cons_succ]
    refine take_run 2 73 (v := ?_) rfl rfl (by kernel_rfl) (by kernel_rfl) (by kernel_rfl) (fun _ _ _ h => h) (by rfl) ?_ (by assumption) ?_
    rotate_left
    · (intro wq hSw; obtain ⟨hS1, hS2⟩ := hSw; go_simp; first | done | with_reducible rfl)
    simp only [Act.put, List.setIfInBounds_toArray, List.set_cons_zero, List.set_cons_succ]
    refine take_load 3 74 50 (.tmp 11) b11 0 (hvl h) _ rfl rfl rfl (by kernel_rfl) (by kernel_rfl) (by kernel_rfl) (fun _ _ _ h => h) (by rfl) rfl (fun u hu => hu.2) Try.underlying50 rfl (by kernel_rfl) (by assumption) ?_
    try simp only [Act.put, List.setIfInBounds_toArray, List.set_cons_zero, List.set_cons_succ]
    refine wpAnyH_ready (rs := [4]) (by kernel_rfl) (by simp) ?_
    refine AllReadyH.cons rfl (fun K hK => ?_) AllReadyH.nil
    go_simp
    refine (HPU.out wc.drew).mono ?_
    rintro e wn ⟨rfl, hbn⟩
    have hbn : Below wc.heap.size wc wn := ⟨hbn.os, hbn.tape, hbn.output, hbn.size, hbn.block⟩
    have hXn := Box.below hX hbn hX.lt
    have h11n := Box.below h11 hbn h11.lt
    have hTn := Box.below hT hbn hT.lt
    refine hK.out _ _ ⟨(Box.cell hXn 0).trans rfl, hd_range h11n⟩ (fun hHeld => ?_)
    clear hK K
    try simp only [Act.put, List.setIfInBounds_toArray, List.set_cons_zero, List.set_cons_succ]
    refine take_run 5 76 (v := ?_) rfl rfl (by kernel_rfl) (by kernel_rfl) (by kernel_rfl) (fun _ _ _ h => h) (by rfl) ?_ (by assumption) ?_
    rotate_left
    · (intro wq hSw; obtain ⟨hS1, hS2⟩ := hSw; go_simp; first | done | with_reducible rfl)
    simp only [Act.put, List.setIfInBounds_toArray, List.set_cons_zero, List.set_cons_succ]
    clear hHeld
    refine wpAnyH_ready (rs := [6]) (by kernel_rfl) (by simp) ?_
    refine AllReadyH.cons rfl (fun K hK => ?_) AllReadyH.nil
    obtain ⟨wz, hwz⟩ : ∃ x, wn.setCell ⟨gx, 0, none⟩ (.string PP) = x := ⟨_, rfl⟩
    have hgz : wn.grownBy wz (some gx) := by rw [← hwz]; exact grown_set (grown_refl _ _) _ _
    have hTz : Box wz gx 47 #[.string PP, .string s1] := by
      rw [← hwz]
      have := Box.put hTn 0 (.string PP)
      simpa using this
    have hXz := Box.grown hXn hgz (by intro e; injection e with e; omega)
    have h11z := Box.grown h11n hgz (by intro e; injection e with e; omega)
    have hDz := (Touch.of_grown (K := fun b => b = gx) hgz (fun b e => by injection e with e; exact e.symm)).dev (hD.below hbn) (fun b q e => q.2 e)
    have hBz := below_grown (hB.trans (hbn.mono hB.size)) hgz gxw (hB.trans (hbn.mono hB.size)).size
    refine step_store_one 9 _ _ rfl rfl rfl gx 0 (.string PP) _ rfl rfl rfl rfl ((Box.cell hTn 0).trans rfl) (Box.frozen hTn 0) (by kernel_rfl) ?_
    rw [hwz]
    refine hK.out _ _ ⟨(Box.cell hXz 0).trans rfl, hd_range h11z⟩ (fun hHeld => ?_)
    clear hK K hHeld
    try simp only [Act.put, List.setIfInBounds_toArray, List.set_cons_zero, List.set_cons_succ]
    refine wpAnyH_done (by kernel_rfl) ?_ _
    have hm2 := HM2.out
    exact KK.out _ _ (loads17_says w wz p b5 gx h D PP s1 (Lib.hid ⟨hBz, hDz, hXz, hTz, (by rw [show D.blk 0 = h.blk by rw [← hbk, hm2]]; exact HPP.out), (ho1 hm2), hlen, hup, hlf, hop, b5w, gxw, hne⟩))
  · have hm : (h.gen : Int).tmod 2 = 1 := by rw [Int.tmod_eq_emod_of_nonneg (by omega)]; omega
    have HM2 := Lib.hid hm2
    go_upto_region 16 with fail
    rename_i KX kx
    have KK := Lib.hid kx
    clear kx hm2
    refine wp_region_held_drew (S := fun u => u.cell? ⟨b5, 0, none⟩ = some (.int .u64 (h.gen : Int)) ∧ u.rangeAt b11 0 (hvl h)) (by kernel_rfl) ⟨(Box.cell (show Box wc.drew b5 _ _ from hX) 0).trans rfl, hd_range (show Box wc.drew b11 _ _ from h11)⟩ (fun hHeld => ?_)
    refine take_run 0 71 (v := ?_) rfl rfl (by kernel_rfl) (by kernel_rfl) (by kernel_rfl) (fun _ _ _ h => h) (by rfl) ?_ (by assumption) ?_
    rotate_left
    · (intro wq hSw; obtain ⟨hS1, hS2⟩ := hSw; go_simp; first | done | with_reducible rfl)
    simp only [Act.put, List.setIfInBounds_toArray, List.set_cons_zero, List.set_cons_succ]
    refine take_run 1 72 (v := ?_) rfl rfl (by kernel_rfl) (by kernel_rfl) (by kernel_rfl) (fun _ _ _ h => h) (by rfl) ?_ (by assumption) ?_
    rotate_left
    · (intro wq hSw; obtain ⟨hS1, hS2⟩ := hSw; go_simp; first | done | with_reducible rfl)
    simp only [Act.put, List.setIfInBounds_toArray, List.set_cons_zero, List.set_cons_succ]
    refine take_run 2 73 (v := ?_) rfl rfl (by kernel_rfl) (by kernel_rfl) (by kernel_rfl) (fun _ _ _ h => h) (by rfl) ?_ (by assumption) ?_
    rotate_left
    · (intro wq hSw; obtain ⟨hS1, hS2⟩ := hSw; go_simp; first | done | with_reducible rfl)
    simp only [Act.put, List.setIfInBounds_toArray, List.set_cons_zero, List.set_cons_succ]
    refine take_load 3 74 50 (.tmp 11) b11 0 (hvl h) _ rfl rfl rfl (by kernel_rfl) (by kernel_rfl) (by kernel_rfl) (fun _ _ _ h => h) (by rfl) rfl (fun u hu => hu.2) Try.underlying50 rfl (by kernel_rfl) (by assumption) ?_
    try simp only [Act.put, List.setIfInBounds_toArray, List.set_cons_zero, List.set_cons_succ]
    refine wpAnyH_ready (rs := [4]) (by kernel_rfl) (by simp) ?_
    refine AllReadyH.cons rfl (fun K hK => ?_) AllReadyH.nil
    go_simp
    refine (HPU.out wc.drew).mono ?_
    rintro e wn ⟨rfl, hbn⟩
    have hbn : Below wc.heap.size wc wn := ⟨hbn.os, hbn.tape, hbn.output, hbn.size, hbn.block⟩
    have hXn := Box.below hX hbn hX.lt
    have h11n := Box.below h11 hbn h11.lt
    have hTn := Box.below hT hbn hT.lt
    refine hK.out _ _ ⟨(Box.cell hXn 0).trans rfl, hd_range h11n⟩ (fun hHeld => ?_)
    clear hK K
    try simp only [Act.put, List.setIfInBounds_toArray, List.set_cons_zero, List.set_cons_succ]
    refine take_run 5 76 (v := ?_) rfl rfl (by kernel_rfl) (by kernel_rfl) (by kernel_rfl) (fun _ _ _ h => h) (by rfl) ?_ (by assumption) ?_
    rotate_left
    · (intro wq hSw; obtain ⟨hS1, hS2⟩ := hSw; go_simp; first | done | with_reducible rfl)
    simp only [Act.put, List.setIfInBounds_toArray, List.set_cons_zero, List.set_cons_succ]
    clear hHeld
    refine wpAnyH_ready (rs := [6]) (by kernel_rfl) (by simp) ?_
    refine AllReadyH.cons rfl (fun K hK => ?_) AllReadyH.nil
    obtain ⟨wz, hwz⟩ : ∃ x, wn.setCell ⟨gx, 1, none⟩ (.string PP) = x := ⟨_, rfl⟩
    have hgz : wn.grownBy wz (some gx) := by rw [← hwz]; exact grown_set (grown_refl _ _) _ _
    have hTz : Box wz gx 47 #[.string s0, .string PP] := by
      rw [← hwz]
      have := Box.put hTn 1 (.string PP)
      simpa using this
    have hXz := Box.grown hXn hgz (by intro e; injection e with e; omega)
    have h11z := Box.grown h11n hgz (by intro e; injection e with e; omega)
    have hDz := (Touch.of_grown (K := fun b => b = gx) hgz (fun b e => by injection e with e; exact e.symm)).dev (hD.below hbn) (fun b q e => q.2 e)
    have hBz := below_grown (hB.trans (hbn.mono hB.size)) hgz gxw (hB.trans (hbn.mono hB.size)).size
    refine step_store_one 9 _ _ rfl rfl rfl gx 1 (.string PP) _ rfl rfl rfl rfl ((Box.cell hTn 1).trans rfl) (Box.frozen hTn 1) (by kernel_rfl) ?_
    rw [hwz]
    refine hK.out _ _ ⟨(Box.cell hXz 0).trans rfl, hd_range h11z⟩ (fun hHeld => ?_)
    clear hK K hHeld
    try simp only [Act.put, List.setIfInBounds_toArray, List.set_cons_zero, List.set_cons_succ]
    refine wpAnyH_done (by kernel_rfl) ?_ _
    have hm2 := HM2.out
    exact KK.out _ _ (loads17_says w wz p b5 gx h D s0 PP (Lib.hid ⟨hBz, hDz, hXz, hTz, (ho0 hm2), (by rw [show D.blk 1 = h.blk by rw [← hbk, hm2]]; exact HPP.out), hlen, hup, hlf, hop, b5w, gxw, hne⟩))
end Go.Proofs.Ythpfdenpgegheaa
