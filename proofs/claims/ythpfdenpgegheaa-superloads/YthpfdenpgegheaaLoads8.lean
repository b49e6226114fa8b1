/-
  SuperLoads, in parts: from the second block on.
-/
import Derived.Test.YthpfdenpgegheaaLoads11
import Derived.BigQuiet
import Derived.Deep.DeepCutAuto
import Derived.Deep.CutBlock
namespace Go.Proofs.Ythpfdenpgegheaa
open Go.RowKit

set_option linter.unusedVariables false
set_option linter.unusedSimpArgs false
set_option maxRecDepth 100000 in
set_option maxHeartbeats 16000000 in
theorem loads8_says (w wc : World) (p b5 gx : Nat) (h : Hd) (D : Dv) (s0 s1 : ByteArray) (A0 A1 : Option Addr) (n0 c0 n1 c1 : Nat) (l0 l1 : List UInt8) (HL0 : Hid (Lies w (fun b => b < w.heap.size) A0 n0 c0 (bc l0))) (HL1 : Hid (Lies w (fun b => b < w.heap.size) A1 n1 c1 (bc l1))) (HI : Hid (LI w p b5 gx h D s0 s1 wc)) (hop : D.ops ≤ 4) {v0 v2 v3 v4 v6 v8 v10 v11 v12 v13 v14 v15 v16 v17 v18 v19 v20 v21 v22 v23 v24 v25 v26 v27 v28 v29 v30 v31 v32 v33 v34 v35 v36 v37 v38 v39 v40 v41 v42 v43 v44 v45 v46 v47 v48 v49 v50 v51 v52 v53 v54 v55 v56 v57 v58 v59 v60 v61 v62 v63 v64 v65 v66 v67 v68 v69 v70 v71 v72 v73 v74 v75 v76 v77 v78 v79 v80 v81 v82 v83 v84 v85 v86 v87 v88 v89 v90 v91 v92 v93 v94 v95 v96 v97 v98 v99 v100 v101 v102 v103 v104 v105 v106 v107 v108 v109 v110 v111 v112 v113 v114 v115 v116 v117 v118 v119 v120 v121 v122 v123 v124 v125 v126 v127 v128 v129 v130 v131 v132 v133 : Value} :
    Code.wp Try.prog loads8 (bodyPost Try.prog Try.f5 fun e w' => e = .returned (.bool true) ∧ Below w.heap.size w w') ⟨#[v0, (.slice A1 n1 c1), v2, v3, v4, (.pointer (some ⟨b5, 0, none⟩)), v6, (.pointer (some ⟨p, 0, none⟩)), v8, (.pointer (some ⟨gx, 0, none⟩)), v10, v11, v12, v13, v14, v15, v16, v17, v18, v19, v20, v21, v22, v23, v24, v25, v26, v27, v28, v29, v30, v31, v32, v33, v34, v35, v36, v37, v38, v39, v40, v41, v42, v43, v44, v45, v46, v47, v48, v49, v50, v51, v52, v53, v54, v55, v56, v57, v58, v59, v60, v61, v62, v63, v64, v65, v66, v67, v68, v69, v70, v71, v72, v73, v74, v75, v76, v77, v78, v79, v80, v81, v82, v83, v84, v85, v86, v87, v88, v89, v90, v91, v92, v93, v94, v95, v96, v97, v98, v99, v100, v101, v102, v103, v104, v105, v106, v107, v108, v109, v110, v111, v112, v113, v114, v115, v116, v117, v118, v119, v120, v121, v122, v123, v124, v125, v126, v127, v128, v129, v130, v131, v132, v133], []⟩ wc := by
  conv => arg 2; whnf
  by_cases hn : n1 = 256
  · subst hn
    have hI := HI.out
    have hll : l1.length = 256 := by rw [← bc_length]; exact HL1.out.len
    have hup := callsN_up hI.up hI.left 0
    have HW := Lib.hid (write_up hI.dev (fun k hk => ⟨⟨by have := hI.below.size; omega, by have := hI.box.lt; omega⟩, by have := hI.tab.lt; omega⟩) (by have := hI.ops; omega) hup.2.2.2.2 1 (by rw [hI.len]; omega) (fun b => b < w.heap.size) A1 c1 ⟨l1, hll⟩ (HL1.out.below hI.below) (fun k q1 q2 => by have := q2.1.1; omega))
    obtain ⟨SN, hSN⟩ : ∃ x, (⟨l1.toArray⟩ : ByteArray) = x := ⟨_, rfl⟩
    have HSN := Lib.hid hSN
    clear hI hup hSN
    go_upto_region 8 with fail
    rename_i K2 kk2 K1 kk1
    have KK := Lib.hid kk2
    clear kk2
    go_wp2_with fail
    refine HW.out.mono ?_
    rintro e w2 ⟨rfl, hd2, ht2⟩
    have hB2 := HI.out.below.trans (ht2.below (fun k q => q.1.1) HI.out.below.size)
    have hX2 := ht2.box HI.out.box (fun q => q.1.2 rfl)
    have hT2 := ht2.box HI.out.tab (fun q => q.2 rfl)
    have hcv := conv_lies (HL1.out.below hB2)
    rw [HSN.out] at hcv
    obtain ⟨w3, hw3⟩ : ∃ x, w2.setCell ⟨gx, 1, none⟩ (.string SN) = x := ⟨_, rfl⟩
    have hg3 : w2.grownBy w3 (some gx) := by rw [← hw3]; exact grown_set (grown_refl _ _) _ _
    have hT3 : Box w3 gx 47 #[.string s0, .string SN] := by
      rw [← hw3]
      have := Box.put hT2 1 (.string SN)
      simpa using this
    have hX3 := Box.grown hX2 hg3 (by intro e; injection e with e; exact HI.out.ne e)
    have hD3 := (Touch.of_grown (K := fun b => b = gx) hg3 (fun b e => by injection e with e; exact e.symm)).dev hd2 (fun b q e => q.2 e)
    have hB3 := below_grown hB2 hg3 HI.out.gxw hB2.size
    have kT : w2.cell? ⟨gx, 1, none⟩ = some (.string s1) := (Box.cell hT2 1).trans rfl
    have fT := Box.frozen hT2 1
    have HI3 := Lib.hid (show LI w p b5 gx h (D.call.write 1 ⟨l1, hll⟩) s0 SN w3 from ⟨hB3, hD3, hX3, hT3, (by have : (D.call.write 1 ⟨l1, hll⟩).blk 0 = D.blk 0 := (by show (D.bs.set 1 _).getD 0 default = D.bs.getD 0 default; rw [List.getD_eq_getElem?_getD, List.getElem?_set_ne (by omega), ← List.getD_eq_getElem?_getD]); rw [this]; exact HI.out.e0), (by have : (D.call.write 1 ⟨l1, hll⟩).blk 1 = ⟨l1, hll⟩ := (by show (D.bs.set 1 _).getD 1 default = _; rw [List.getD_eq_getElem?_getD, List.getElem?_set_self (by rw [HI.out.len]; omega)]; rfl); rw [this]; exact HSN.out), by show (D.bs.set 1 _).length = 12; rw [List.length_set]; exact HI.out.len, (callsN_up HI.out.up HI.out.left 1).1, (callsN_up HI.out.up HI.out.left 1).2.1, by show D.ops + 1 ≤ 10; omega, HI.out.b5w, HI.out.gxw, HI.out.ne⟩)
    clear hB2 hX2 hT2 hT3 hX3 hD3 hB3 hg3 hd2 ht2 HW
    go_wp2
    exact KK.out _ _ (loads11_says w w3 p b5 gx h _ s0 SN HI3 (by show D.ops + 1 ≤ 5; omega))
  · have l1' : ((n1 : Int) == 256) = false := by rw [beq_eq_false_iff_ne]; omega
    go_upto_region 8 with fail
    rename_i K2 kk2 K1 kk1
    have KK := Lib.hid kk2
    clear kk2 hn
    go_wp2
    exact KK.out _ _ (loads11_says w wc p b5 gx h D s0 s1 HI (by omega))
end Go.Proofs.Ythpfdenpgegheaa
