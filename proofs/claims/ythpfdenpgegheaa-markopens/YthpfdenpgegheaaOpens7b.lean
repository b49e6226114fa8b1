/-
  MarkOpens, in parts: from Cover on.
-/
import Derived.Test.YthpfdenpgegheaaOpens11y
import Derived.Test.YthpfdenpgegheaaOpens11n
import Derived.BigQuiet
import Derived.Deep.DeepCutAuto
import Derived.Deep.CutBlock
namespace Go.Proofs.Ythpfdenpgegheaa
open Go.RowKit

set_option linter.unusedVariables false
set_option linter.unusedSimpArgs false
set_option maxRecDepth 100000 in
set_option maxHeartbeats 16000000 in
theorem opens7b_says (w wc : World) (A : Option Addr) (c : Nat) (l : List UInt8) (z : UInt8) (HL : Hid (Lies w (fun b => b < w.heap.size) A 256 c (bc l))) (HB : Hid (Below w.heap.size w wc)) {v2 v3 v4 v5 v6 v7 v8 v9 v10 v11 v12 v13 v14 v15 v16 v17 v18 v19 v20 v21 v22 v23 v24 v25 v26 v27 v28 v29 v30 v31 v32 v33 v34 v35 v36 v37 v38 v39 v40 v41 v42 v43 v44 v45 v46 v47 v48 v49 v50 v51 v52 v53 v54 v55 v56 v57 v58 v59 v60 v61 v62 v63 v64 v65 v66 v67 v68 v69 v70 v71 v72 v73 v74 v75 v76 v77 v78 v79 v80 v81 v82 v83 v84 v85 v86 v87 v88 v89 v90 v91 v92 v93 v94 v95 v96 v97 v98 v99 v100 v101 v102 v103 v104 v105 v106 v107 v108 v109 v110 v111 v112 v113 v114 v115 v116 v117 v118 v119 v120 v121 v122 v123 v124 v125 v126 v127 v128 v129 v130 v131 v132 v133 v134 v135 v136 v137 v138 v139 v140 v141 v142 v143 v144 v145 v146 v147 v148 v149 v150 v151 v152 : Value} :
    Code.wp Try.prog opens7 (bodyPost Try.prog Try.f3 fun e w' => e = .returned (.bool true) ∧ Below w.heap.size w w') ⟨#[(.slice A 256 c), (.int .u8 (z.toNat : Int)), v2, v3, v4, v5, v6, v7, v8, v9, v10, v11, v12, v13, v14, v15, v16, v17, v18, v19, v20, v21, v22, v23, v24, v25, v26, v27, v28, v29, v30, v31, v32, v33, v34, v35, v36, v37, v38, v39, v40, v41, v42, v43, v44, v45, v46, v47, v48, v49, v50, v51, v52, v53, v54, v55, v56, v57, v58, v59, v60, v61, v62, v63, v64, v65, v66, v67, v68, v69, v70, v71, v72, v73, v74, v75, v76, v77, v78, v79, v80, v81, v82, v83, v84, v85, v86, v87, v88, v89, v90, v91, v92, v93, v94, v95, v96, v97, v98, v99, v100, v101, v102, v103, v104, v105, v106, v107, v108, v109, v110, v111, v112, v113, v114, v115, v116, v117, v118, v119, v120, v121, v122, v123, v124, v125, v126, v127, v128, v129, v130, v131, v132, v133, v134, v135, v136, v137, v138, v139, v140, v141, v142, v143, v144, v145, v146, v147, v148, v149, v150, v151, v152], []⟩ wc := by
  conv => arg 2; whnf
  have HLC := Lib.hid ((HL.out.below HB.out).weak (N' := fun _ => True) (fun _ _ _ => trivial))
  go_wp2_with fail
  obtain ⟨y0, hy0⟩ : ∃ y, l.headD 0 = y := ⟨_, rfl⟩
  have hcy := cover_yes wc A c l HLC.out
  rw [hy0] at hcy
  have HY0 := Lib.hid hy0
  clear hy0
  refine hcy.mono ?_
  clear hcy
  rintro e w1 ⟨gc, rfl, hgc, hxc, hb1⟩
  have HB1 := Lib.hid (HB.out.trans (hb1.mono HB.out.size))
  have HL1 := Lib.hid (HLC.out.below hb1)
  have HXC := Lib.hid hxc
  clear hgc hxc hb1 HLC
  go_wp2_with fail
  by_cases hk : l.headD 0 = 3
  · refine (bare_yes w1 A c l HL1.out hk z).mono ?_
    rintro e w2 ⟨rfl, hxd, hb2⟩
    have HB2 := Lib.hid (HB1.out.trans (hb2.mono HB1.out.size))
    have HXD := Lib.hid hxd
    have HXC2 := Lib.hid (Box.below HXC.out hb2 HXC.out.lt)
    have HK := Lib.hid hk
    clear hk hxd hb2 HXC HB1 HL1 HB
    go_upto_region 9 with fail
    rename_i K2 kk2 K1 kk1
    have KK := Lib.hid kk2
    clear kk2
    go_wp2
    exact KK.out _ _ (opens11y_says w w2 A c l z y0 HY0 gc _ HL HB2 HXC2 HXD HK)
  · refine (bare_form w1 A c l HL1.out hk z).mono ?_
    rintro e w2 ⟨rfl, hw2⟩
    obtain rfl : w1 = w2 := hw2.symm
    have HK := Lib.hid hk
    clear hk hw2 HL1 HB
    go_upto_region 9 with fail
    rename_i K2 kk2 K1 kk1
    have KK := Lib.hid kk2
    clear kk2
    go_wp2
    exact KK.out _ _ (opens11n_says w w1 A c l z y0 HY0 gc HL HB1 HXC HK)
end Go.Proofs.Ythpfdenpgegheaa
