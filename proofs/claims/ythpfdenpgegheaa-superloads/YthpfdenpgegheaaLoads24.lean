/-
  SuperLoads, in parts: from Load on.
-/
import Derived.Test.YthpfdenpgegheaaLoadsC
import Derived.BigQuiet
import Derived.Deep.DeepCutAuto
import Derived.Deep.CutBlock
namespace Go.Proofs.Ythpfdenpgegheaa
open Go.RowKit

set_option linter.unusedVariables false
set_option linter.unusedSimpArgs false
set_option maxRecDepth 100000 in
set_option maxHeartbeats 16000000 in
theorem loads24_says (w wc : World) (p b5 gx g12 : Nat) (h : Hd) (D : Dv) (s0 s1 : ByteArray) (HI : Hid (LI w p b5 gx h D s0 s1 wc)) (H12 : Hid (Box wc g12 50 (hv (lastN D 2)))) (h12w : w.heap.size ≤ g12) (HD : Hid (Dev wc (fun k => ((w.heap.size ≤ k ∧ k ≠ b5) ∧ k ≠ gx) ∧ k ≠ g12) p D)) {v0 v1 v2 v3 v4 v5 v6 v8 v9 v10 v11 v13 v14 v15 v16 v17 v18 v19 v20 v21 v22 v23 v24 v25 v26 v27 v28 v29 v30 v31 v32 v33 v34 v35 v36 v37 v38 v39 v40 v41 v42 v43 v44 v45 v46 v47 v48 v49 v50 v51 v52 v53 v54 v55 v56 v57 v58 v59 v60 v61 v62 v63 v64 v65 v66 v67 v68 v69 v70 v71 v72 v73 v74 v75 v76 v77 v78 v79 v80 v81 v82 v83 v84 v85 v86 v87 v88 v89 v90 v91 v92 v93 v94 v95 v96 v97 v98 v99 v100 v101 v102 v103 v104 v105 v106 v107 v108 v109 v110 v111 v112 v113 v114 v115 v116 v117 v118 v119 v120 v121 v122 v123 v124 v125 v126 v127 v128 v129 v130 v131 v132 v133 : Value} :
    Code.wp Try.prog loads24 (bodyPost Try.prog Try.f5 fun e w' => e = .returned (.bool true) ∧ Below w.heap.size w w') ⟨#[v0, v1, v2, v3, v4, v5, v6, (.pointer (some ⟨p, 0, none⟩)), v8, v9, v10, v11, (.pointer (some ⟨g12, 0, none⟩)), v13, v14, v15, v16, v17, v18, v19, v20, v21, v22, v23, v24, v25, v26, v27, v28, v29, v30, v31, v32, v33, v34, v35, v36, v37, v38, v39, v40, v41, v42, v43, v44, v45, v46, v47, v48, v49, v50, v51, v52, v53, v54, v55, v56, v57, v58, v59, v60, v61, v62, v63, v64, v65, v66, v67, v68, v69, v70, v71, v72, v73, v74, v75, v76, v77, v78, v79, v80, v81, v82, v83, v84, v85, v86, v87, v88, v89, v90, v91, v92, v93, v94, v95, v96, v97, v98, v99, v100, v101, v102, v103, v104, v105, v106, v107, v108, v109, v110, v111, v112, v113, v114, v115, v116, v117, v118, v119, v120, v121, v122, v123, v124, v125, v126, v127, v128, v129, v130, v131, v132, v133], []⟩ wc := by
  conv => arg 2; whnf
  have hI := HI.out
  have HLO := Lib.hid (load_says HD.out (fun k hk => ⟨⟨⟨by have := hI.below.size; omega, by have := hI.box.lt; omega⟩, by have := hI.tab.lt; omega⟩, by have := H12.out.lt; omega⟩) (by have := hI.ops; omega) (by rw [hI.len]; omega) hI.up hI.left)
  obtain ⟨hd, hhd⟩ : ∃ x, lastN D 2 = x := ⟨_, rfl⟩
  have hzz := lastN_zero D 2
  rw [hhd] at hzz
  have HHD := Lib.hid hhd
  clear hI hhd
  go_wp2_with fail
  refine HLO.out.mono ?_
  rintro e w5 ⟨rfl, hd5, ht5⟩
  have hm5 := ht5.box H12.out (fun q => q.2 rfl)
  rw [HHD.out] at hm5
  rw [HHD.out]
  have hb5 := HI.out.below.trans (ht5.below (fun k q => q.1.1.1) HI.out.below.size)
  obtain ⟨w6, hw6⟩ : ∃ x, w5.alloc (.cells #[.int .u64 0, .int .u64 0, .int .i64 0, .int .u64 0, .int .i64 0] 43) = x := ⟨_, rfl⟩
  have hbw6 : Below w5.heap.size w5 w6 := by rw [← hw6]; exact (Below.refl _ w5).alloc (Nat.le_refl _) _
  have hmw6 : Box w6 w5.heap.size 43 (hv Hd.zero) := by rw [← hw6]; exact Box.made w5 _ _
  obtain ⟨w7, hw7⟩ : ∃ x, w6.setRow w5.heap.size (hv hd) = x := ⟨_, rfl⟩
  have hmw7 : Box w7 w5.heap.size 43 (hv hd) := by rw [← hw7]; exact setRow_heap _ _ _ _ _ _ hmw6
  have hbw7 : Below w5.heap.size w5 w7 := hbw6.trans (by rw [← hw7]; exact (Below.refl _ w6).grown (grown_row (grown_refl _ (some w5.heap.size)) _) hbw6.size (fun k e => by injection e with e; omega))
  have HMw6 := Lib.hid hmw6
  have HWw7 := Lib.hid hw7
  have hm7 := Box.below hm5 hbw7 hm5.lt
  have HB7 := Lib.hid (hb5.trans (hbw7.mono hb5.size))
  have HR12 := Lib.hid (range_grows (hd_range hm7) hm7.lt)
  have HR16 := Lib.hid (range_grows (hd_range hmw7) hmw7.lt)
  have cg := cell_grows (p := ⟨g12, 0, none⟩) (v := .int .u64 (hd.gen : Int)) hm7.lt ((Box.cell hm7 0).trans rfl)
  have HOW := Lib.hid (show ∀ q : Grows w7, Calls Try.prog 17 #[.agg (hv hd)] q.val fun e w'' => e = .returned (.agg (hv hd)) ∧ ∃ p' : Grows w7, w'' = p'.val from fun q => Calls.grows (own9_says q.val hd))
  have HON := Lib.hid (show ∀ q : Grows w7, Calls Try.prog 22 #[] q.val fun e w'' => e = .returned (.bool true) ∧ ∃ p' : Grows w7, w'' = p'.val from fun q => Calls.grows (one9_says q.val))
  clear hd5 ht5 hm5 hb5 hmw6 hbw6 hmw7 hbw7 hw7 hm7 HLO HI H12 HD
  rcases hzz with hz | hz
  · have hif : (if hd = Hd.zero then (13 : Int) else 0) = 13 := if_pos hz
    rw [hif]
    clear hif
    have g0 : (hd.gen : Int) = 0 := by rw [hz]; rfl
    clear hz
    go_upto_region 25 with (refine wpList_store_row rfl 43 _ _ rfl w5.heap.size (hv hd) rfl rfl 43 _ HMw6.out (by rw [hv_size]; exact hdInfo) rfl (hv_one _) ?_; rw [HWw7.out])
    refine wp_region_grows (by kernel_rfl) (by kernel_rfl) ?_
    iterate 24 (first
        | (refine wpQuiet_load_yes (by go_simp; done) 43 (.tmp 16) rfl w5.heap.size 0 rfl (hvl hd) _ HR16.out Try.underlying43 rfl (by kernel_rfl) ?_; simp only [Act.put, List.setIfInBounds_toArray, List.set_cons_zero, List.set_cons_succ])
        | (refine wpQuiet_load_yes (by go_simp; done) 50 (.tmp 12) rfl g12 0 rfl (hvl hd) _ HR12.out Try.underlying50 rfl (by kernel_rfl) ?_; simp only [Act.put, List.setIfInBounds_toArray, List.set_cons_zero, List.set_cons_succ])
        | (refine wpQuiet_eql_rh (by go_simp; done) (.tmp 112) (.tmp 113) rfl hd hd true (by simp) rfl rfl ?_; simp only [Act.put, List.setIfInBounds_toArray, List.set_cons_zero, List.set_cons_succ])
        | quiet_step (first | (go_at_call 17; exact HOW.out _) | (go_at_call 22; exact HON.out _)))
    refine wpQuiet_nil ?_
    rintro wx ⟨⟨_, hwx⟩, rfl⟩
    have HZ := Lib.hid (HB7.out.trans (hwx.mono HB7.out.size))
    clear hwx
    go_wp2
    go_ret
    exact ⟨rfl, HZ.out⟩
  · have hif : (if hd = Hd.zero then (13 : Int) else 0) = 0 := if_neg (fun e => by rw [e] at hz; exact absurd hz (by show ¬ 1 ≤ 0; omega))
    rw [hif]
    clear hif
    have g0 : 0 < (hd.gen : Int) := by omega
    have g1 : 0 < hd.gen := hz
    have g2 : decide (0 < hd.gen) = true := decide_eq_true hz
    clear hz
    go_upto_region 25 with (refine wpList_store_row rfl 43 _ _ rfl w5.heap.size (hv hd) rfl rfl 43 _ HMw6.out (by rw [hv_size]; exact hdInfo) rfl (hv_one _) ?_; rw [HWw7.out])
    refine wp_region_grows (by kernel_rfl) (by kernel_rfl) ?_
    iterate 16 (first
        | (refine wpQuiet_load_yes (by go_simp; done) 43 (.tmp 16) rfl w5.heap.size 0 rfl (hvl hd) _ HR16.out Try.underlying43 rfl (by kernel_rfl) ?_; simp only [Act.put, List.setIfInBounds_toArray, List.set_cons_zero, List.set_cons_succ])
        | (refine wpQuiet_load_yes (by go_simp; done) 50 (.tmp 12) rfl g12 0 rfl (hvl hd) _ HR12.out Try.underlying50 rfl (by kernel_rfl) ?_; simp only [Act.put, List.setIfInBounds_toArray, List.set_cons_zero, List.set_cons_succ])
        | (refine wpQuiet_eql_rh (by go_simp; done) (.tmp 112) (.tmp 113) rfl hd hd true (by simp) rfl rfl ?_; simp only [Act.put, List.setIfInBounds_toArray, List.set_cons_zero, List.set_cons_succ])
        | quiet_step (first | (go_at_call 17; exact HOW.out _) | (go_at_call 22; exact HON.out _)))
    iterate 2 (with_reducible refine wpQuiet_no ?_ ?_; (· first | (go_simp; done) | (go_simp; simp [undef]; done)); simp only [Act.put, List.setIfInBounds_toArray, List.set_cons_zero, List.set_cons_succ])
    iterate 6 (first
        | (refine wpQuiet_load_yes (by go_simp; done) 43 (.tmp 16) rfl w5.heap.size 0 rfl (hvl hd) _ HR16.out Try.underlying43 rfl (by kernel_rfl) ?_; simp only [Act.put, List.setIfInBounds_toArray, List.set_cons_zero, List.set_cons_succ])
        | (refine wpQuiet_load_yes (by go_simp; done) 50 (.tmp 12) rfl g12 0 rfl (hvl hd) _ HR12.out Try.underlying50 rfl (by kernel_rfl) ?_; simp only [Act.put, List.setIfInBounds_toArray, List.set_cons_zero, List.set_cons_succ])
        | (refine wpQuiet_eql_rh (by go_simp; done) (.tmp 112) (.tmp 113) rfl hd hd true (by simp) rfl rfl ?_; simp only [Act.put, List.setIfInBounds_toArray, List.set_cons_zero, List.set_cons_succ])
        | quiet_step (first | (go_at_call 17; exact HOW.out _) | (go_at_call 22; exact HON.out _)))
    refine wpQuiet_nil ?_
    rintro wx ⟨⟨_, hwx⟩, rfl⟩
    have HZ := Lib.hid (HB7.out.trans (hwx.mono HB7.out.size))
    clear hwx
    go_wp2
    go_ret
    exact ⟨rfl, HZ.out⟩
end Go.Proofs.Ythpfdenpgegheaa
