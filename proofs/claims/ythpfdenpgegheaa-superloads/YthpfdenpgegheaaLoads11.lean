/-
  SuperLoads, in parts: from Save on.
-/
import Derived.Test.YthpfdenpgegheaaLoads15
import Derived.BigQuiet
import Derived.Deep.DeepCutAuto
import Derived.Deep.CutBlock
namespace Go.Proofs.Ythpfdenpgegheaa
open Go.RowKit

set_option linter.unusedVariables false
set_option linter.unusedSimpArgs false
set_option maxRecDepth 100000 in
set_option maxHeartbeats 16000000 in
theorem loads11_says (w wc : World) (p b5 gx : Nat) (h : Hd) (D : Dv) (s0 s1 : ByteArray) (HI : Hid (LI w p b5 gx h D s0 s1 wc)) (hop : D.ops ≤ 5) {v0 v1 v2 v3 v4 v6 v8 v10 v11 v12 v13 v14 v15 v16 v17 v18 v19 v20 v21 v22 v23 v24 v25 v26 v27 v28 v29 v30 v31 v32 v33 v34 v35 v36 v37 v38 v39 v40 v41 v42 v43 v44 v45 v46 v47 v48 v49 v50 v51 v52 v53 v54 v55 v56 v57 v58 v59 v60 v61 v62 v63 v64 v65 v66 v67 v68 v69 v70 v71 v72 v73 v74 v75 v76 v77 v78 v79 v80 v81 v82 v83 v84 v85 v86 v87 v88 v89 v90 v91 v92 v93 v94 v95 v96 v97 v98 v99 v100 v101 v102 v103 v104 v105 v106 v107 v108 v109 v110 v111 v112 v113 v114 v115 v116 v117 v118 v119 v120 v121 v122 v123 v124 v125 v126 v127 v128 v129 v130 v131 v132 v133 : Value} :
    Code.wp Try.prog loads11 (bodyPost Try.prog Try.f5 fun e w' => e = .returned (.bool true) ∧ Below w.heap.size w w') ⟨#[v0, v1, v2, v3, v4, (.pointer (some ⟨b5, 0, none⟩)), v6, (.pointer (some ⟨p, 0, none⟩)), v8, (.pointer (some ⟨gx, 0, none⟩)), v10, v11, v12, v13, v14, v15, v16, v17, v18, v19, v20, v21, v22, v23, v24, v25, v26, v27, v28, v29, v30, v31, v32, v33, v34, v35, v36, v37, v38, v39, v40, v41, v42, v43, v44, v45, v46, v47, v48, v49, v50, v51, v52, v53, v54, v55, v56, v57, v58, v59, v60, v61, v62, v63, v64, v65, v66, v67, v68, v69, v70, v71, v72, v73, v74, v75, v76, v77, v78, v79, v80, v81, v82, v83, v84, v85, v86, v87, v88, v89, v90, v91, v92, v93, v94, v95, v96, v97, v98, v99, v100, v101, v102, v103, v104, v105, v106, v107, v108, v109, v110, v111, v112, v113, v114, v115, v116, v117, v118, v119, v120, v121, v122, v123, v124, v125, v126, v127, v128, v129, v130, v131, v132, v133], []⟩ wc := by
  conv => arg 2; whnf
  have hI := HI.out
  have hlen : (D.bs.length : Int) = 12 := by rw [hI.len]; rfl
  have HXo := Lib.hid hI.box
  cases hr : h.rightB 12 with
  | false =>
    have HSA := Lib.hid (save_arg hI.dev h (by rw [hlen]; exact hr))
    have HR0 := Lib.hid hr
    clear hI hlen hr
    go_wp2_with (refine wpList_load_row rfl 43 _ rfl b5 rfl 43 _ (0, 0) _ HXo.out Try.underlying43 rfl (by rw [hv_size]; exact hdInfo) ?_)
    refine HSA.out.mono ?_
    rintro e ws ⟨rfl, hbs⟩
    have hXs := Box.below HXo.out hbs HXo.out.lt
    have HS := Lib.hid hbs
    clear hbs HSA
    have HOW := Lib.hid (own9_says ws h)
    have HXc := Lib.hid hXs
    clear hXs
    go_wp2_with (refine wpList_load_row rfl 43 _ rfl b5 rfl 43 _ (0, 0) _ HXc.out Try.underlying43 rfl (by rw [hv_size]; exact hdInfo) ?_)
    refine HOW.out.mono ?_
    rintro e wo ⟨rfl, hbo⟩
    obtain ⟨wp1, hwp1⟩ : ∃ x, wo.alloc (.cells #[.int .u64 0, .int .u64 0, .int .i64 0, .int .u64 0, .int .i64 0] 50) = x := ⟨_, rfl⟩
    have hbwp1 : Below wo.heap.size wo wp1 := by rw [← hwp1]; exact (Below.refl _ wo).alloc (Nat.le_refl _) _
    have hmwp1 : Box wp1 wo.heap.size 50 (hv Hd.zero) := by rw [← hwp1]; exact Box.made wo _ _
    obtain ⟨wq, hwq⟩ : ∃ x, wp1.setRow wo.heap.size (hv h) = x := ⟨_, rfl⟩
    have hmwq : Box wq wo.heap.size 50 (hv h) := by rw [← hwq]; exact setRow_heap _ _ _ _ _ _ hmwp1
    have hbwq : Below wo.heap.size wo wq := hbwp1.trans (by rw [← hwq]; exact (Below.refl _ wp1).grown (grown_row (grown_refl _ (some wo.heap.size)) _) hbwp1.size (fun k e => by injection e with e; omega))
    have HMwp1 := Lib.hid hmwp1
    have HWwq := Lib.hid hwq
    have hbq := hbo.trans (hbwq.mono hbo.size)
    have HMQ := Lib.hid hmwq
    have HBQ := Lib.hid hbq
    have HRR := Lib.hid (rright_says wq h)
    rw [HR0.out] at HRR
    clear hbo hbq hmwp1 hbwp1 hmwq hbwq hwq HOW
    go_upto_region 13 with (refine wpList_store_row rfl 50 _ _ rfl wo.heap.size (hv h) rfl rfl 50 _ HMwp1.out (by rw [hv_size]; exact rhdInfo) rfl (hv_one _) ?_; rw [HWwq.out])
    rename_i K2 kk2 K1 kk1
    have KK := Lib.hid kk2
    clear kk2
    go_wp2_with (refine wpList_load_row rfl 50 _ rfl wo.heap.size rfl 50 _ (0, 0) _ HMQ.out Try.underlying50 rfl (by rw [hv_size]; exact rhdInfo) ?_)
    refine HRR.out.mono ?_
    rintro e wr2 ⟨rfl, hbr⟩
    have HBR := Lib.hid (HBQ.out.trans (hbr.mono HBQ.out.size))
    have HMR := Lib.hid (Box.below HMQ.out hbr HMQ.out.lt)
    have hgo : wo.heap.size < wr2.heap.size := HMR.out.lt
    clear hbr
    go_wp2
    exact KK.out _ _ (loads15n_says w wr2 p b5 gx h D s0 s1 (Lib.hid (HI.out.on (HS.out.trans (HBR.out.mono HS.out.size)))))
  | true =>
    have HSA := Lib.hid (save_says hI.dev (fun k hk => ⟨⟨by have := hI.below.size; omega, by have := hI.box.lt; omega⟩, by have := hI.tab.lt; omega⟩) (by omega) h (by rw [hlen]; exact hr))
    have HR0 := Lib.hid hr
    have hsv : saveTo D h = (0, (D.call.write (h.gen % 2) h.blk).call.flush) := save_up hI.up hI.left
    have HSV := Lib.hid hsv
    clear hI hlen hr hsv
    go_wp2_with (refine wpList_load_row rfl 43 _ rfl b5 rfl 43 _ (0, 0) _ HXo.out Try.underlying43 rfl (by rw [hv_size]; exact hdInfo) ?_)
    refine HSA.out.mono ?_
    rintro e ws ⟨rfl, hds, hts⟩
    rw [HSV.out] at hds
    have hXs := hts.box HXo.out (fun q => q.1.2 rfl)
    have hTs := hts.box HI.out.tab (fun q => q.2 rfl)
    have hBs := HI.out.below.trans (hts.below (fun k q => q.1.1) HI.out.below.size)
    have hsf : (saveTo D h).1 = 0 := by rw [HSV.out]
    rw [hsf]
    have HS := Lib.hid (And.intro hBs (And.intro hds (And.intro hXs hTs)))
    clear hds hts hTs hBs hsf HSA HXo
    have HOW := Lib.hid (own9_says ws h)
    have HXc := Lib.hid hXs
    clear hXs
    go_wp2_with (refine wpList_load_row rfl 43 _ rfl b5 rfl 43 _ (0, 0) _ HXc.out Try.underlying43 rfl (by rw [hv_size]; exact hdInfo) ?_)
    refine HOW.out.mono ?_
    rintro e wo ⟨rfl, hbo⟩
    obtain ⟨wp1, hwp1⟩ : ∃ x, wo.alloc (.cells #[.int .u64 0, .int .u64 0, .int .i64 0, .int .u64 0, .int .i64 0] 50) = x := ⟨_, rfl⟩
    have hbwp1 : Below wo.heap.size wo wp1 := by rw [← hwp1]; exact (Below.refl _ wo).alloc (Nat.le_refl _) _
    have hmwp1 : Box wp1 wo.heap.size 50 (hv Hd.zero) := by rw [← hwp1]; exact Box.made wo _ _
    obtain ⟨wq, hwq⟩ : ∃ x, wp1.setRow wo.heap.size (hv h) = x := ⟨_, rfl⟩
    have hmwq : Box wq wo.heap.size 50 (hv h) := by rw [← hwq]; exact setRow_heap _ _ _ _ _ _ hmwp1
    have hbwq : Below wo.heap.size wo wq := hbwp1.trans (by rw [← hwq]; exact (Below.refl _ wp1).grown (grown_row (grown_refl _ (some wo.heap.size)) _) hbwp1.size (fun k e => by injection e with e; omega))
    have HMwp1 := Lib.hid hmwp1
    have HWwq := Lib.hid hwq
    have HBX2 := Lib.hid (show gx < wo.heap.size by have := HS.out.2.2.2.lt; have := hbo.size; omega)
    have hbq := hbo.trans (hbwq.mono hbo.size)
    have HMQ := Lib.hid hmwq
    have HBQ := Lib.hid hbq
    have HRR := Lib.hid (rright_says wq h)
    rw [HR0.out] at HRR
    clear hbo hbq hmwp1 hbwp1 hmwq hbwq hwq HOW
    go_upto_region 13 with (refine wpList_store_row rfl 50 _ _ rfl wo.heap.size (hv h) rfl rfl 50 _ HMwp1.out (by rw [hv_size]; exact rhdInfo) rfl (hv_one _) ?_; rw [HWwq.out])
    rename_i K2 kk2 K1 kk1
    have KK := Lib.hid kk2
    clear kk2
    go_wp2_with (refine wpList_load_row rfl 50 _ rfl wo.heap.size rfl 50 _ (0, 0) _ HMQ.out Try.underlying50 rfl (by rw [hv_size]; exact rhdInfo) ?_)
    refine HRR.out.mono ?_
    rintro e wr2 ⟨rfl, hbr⟩
    have HBR := Lib.hid (HBQ.out.trans (hbr.mono HBQ.out.size))
    have HMR := Lib.hid (Box.below HMQ.out hbr HMQ.out.lt)
    have hgo : wo.heap.size < wr2.heap.size := HMR.out.lt
    clear hbr
    go_wp2
    obtain ⟨hBs, hds, hXs, hTs⟩ := HS.out
    have hlt : h.gen % 2 < D.bs.length := by rw [HI.out.len]; omega
    refine KK.out _ _ (loads15y_says w wr2 p b5 gx wo.heap.size h ((D.call.write (h.gen % 2) h.blk).call.flush) s0 s1 HR0.out (hBs.trans (HBR.out.mono hBs.size)) (hds.below HBR.out) (Box.below hXs HBR.out hXs.lt) (Box.below hTs HBR.out hTs.lt) HMR.out ?_ ?_ ?_ ?_ HI.out.b5w HI.out.gxw HI.out.ne ?_ ?_ ?_ ?_)
    · show (D.bs.set (h.gen % 2) h.blk).length = 12
      rw [List.length_set]
      exact HI.out.len
    · show (Dv.call (Dv.write (Dv.call D) _ _)).down = false
      simp [Dv.call, Dv.write, HI.out.up, HI.out.left]
    · show (Dv.call (Dv.write (Dv.call D) _ _)).left = -1
      simp [Dv.call, Dv.write, HI.out.left]
    · show D.ops + 1 + 1 ≤ 10
      omega
    · have := HBX2.out
      omega
    · show (D.bs.set (h.gen % 2) h.blk).getD (h.gen % 2) default = _
      rw [List.getD_eq_getElem?_getD, List.getElem?_set_self hlt]
      rfl
    · intro hm
      rw [← HI.out.e0]
      have : (D.call.write (h.gen % 2) h.blk).call.flush.blk 0 = D.blk 0 := by
        show (D.bs.set (h.gen % 2) h.blk).getD 0 default = D.bs.getD 0 default
        rw [List.getD_eq_getElem?_getD, List.getElem?_set_ne (by omega), ← List.getD_eq_getElem?_getD]
      rw [this]
    · intro hm
      rw [← HI.out.e1]
      have : (D.call.write (h.gen % 2) h.blk).call.flush.blk 1 = D.blk 1 := by
        show (D.bs.set (h.gen % 2) h.blk).getD 1 default = D.bs.getD 1 default
        rw [List.getD_eq_getElem?_getD, List.getElem?_set_ne (by omega), ← List.getD_eq_getElem?_getD]
      rw [this]
end Go.Proofs.Ythpfdenpgegheaa
