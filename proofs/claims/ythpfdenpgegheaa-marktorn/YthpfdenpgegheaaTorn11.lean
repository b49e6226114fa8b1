/-
  MarkTorn, in parts: from the second Seal on.
-/
import Derived.Test.YthpfdenpgegheaaTorn15
import Derived.BigQuiet
import Derived.Deep.DeepCutAuto
import Derived.Deep.CutBlock
namespace Go.Proofs.Ythpfdenpgegheaa
open Go.RowKit

set_option linter.unusedVariables false
set_option linter.unusedSimpArgs false
set_option maxRecDepth 100000 in
set_option maxHeartbeats 16000000 in
theorem torn11_says (w wc : World) (m' o : Mk) (a0 a1 a2 : Int) (pay pb : List UInt8) (n t gp gx : Nat) (u14 u15 : Value) (hn : n ≤ 220) (ht : t ≤ 255) (hpbl : pb.length ≤ 220) (HPB : Hid (pay.take n = pb)) (HMY : Hid (m'.may = true)) (HT9 : Hid (Tn w wc m' o a0 a1 a2)) (HP9 : Hid (pay.length = 220 ∧ Box wc gp 5 (bc pay).toArray)) (HX9 : Hid (Box wc gx 5 (bc (sealed m' pb)).toArray)) (H2 : Hid (Two o u14 u15 wc)) {v0 v1 v2 v5 v6 v8 v10 v16 v17 v18 v19 v20 v21 v22 v23 v24 v25 v26 v27 v28 v29 v30 v31 v32 v33 v34 v35 v36 v37 v38 v39 v40 v41 v42 v43 v44 v45 v46 v47 v48 v49 v50 v51 v52 v53 v54 v55 v56 v57 v58 v59 v60 v61 v62 v63 v64 v65 v66 v67 v68 v69 v70 v71 v72 v73 v74 v75 v76 v77 v78 v79 v80 v81 v82 v83 v84 v85 v86 v87 v88 v89 v90 v91 v92 v93 v94 v95 v96 v97 v98 v99 v100 v101 v102 v103 v104 v105 v106 v107 v108 v109 v110 v111 v112 v113 v114 v115 v116 v117 v118 v119 v120 v121 v122 v123 v124 v125 v126 v127 v128 v129 v130 v131 v132 v133 v134 v135 v136 v137 v138 v139 v140 v141 v142 v143 v144 v145 v146 v147 v148 v149 v150 v151 v152 v153 v154 v155 v156 v157 v158 v159 v160 v161 v162 v163 v164 v165 v166 v167 v168 v169 v170 v171 v172 v173 v174 v175 v176 v177 v178 v179 v180 v181 v182 v183 v184 v185 v186 v187 : Value} :
    Code.wp Try.prog torn11 (bodyPost Try.prog Try.f4 fun e w' => e = .returned (.bool true) ∧ Below w.heap.size w w') ⟨#[v0, v1, v2, (.pointer (some ⟨w.heap.size, 0, none⟩)), (.pointer (some ⟨w.heap.size + 1, 0, none⟩)), v5, v6, (.slice (some ⟨gp, 0, none⟩) 220 220), v8, (.int .i64 (n : Int)), v10, (.int .i64 (t : Int)), (.slice (some ⟨gx, 0, none⟩) 256 256), (.int .i64 0), u14, u15, v16, v17, v18, v19, v20, v21, v22, v23, v24, v25, v26, v27, v28, v29, v30, v31, v32, v33, v34, v35, v36, v37, v38, v39, v40, v41, v42, v43, v44, v45, v46, v47, v48, v49, v50, v51, v52, v53, v54, v55, v56, v57, v58, v59, v60, v61, v62, v63, v64, v65, v66, v67, v68, v69, v70, v71, v72, v73, v74, v75, v76, v77, v78, v79, v80, v81, v82, v83, v84, v85, v86, v87, v88, v89, v90, v91, v92, v93, v94, v95, v96, v97, v98, v99, v100, v101, v102, v103, v104, v105, v106, v107, v108, v109, v110, v111, v112, v113, v114, v115, v116, v117, v118, v119, v120, v121, v122, v123, v124, v125, v126, v127, v128, v129, v130, v131, v132, v133, v134, v135, v136, v137, v138, v139, v140, v141, v142, v143, v144, v145, v146, v147, v148, v149, v150, v151, v152, v153, v154, v155, v156, v157, v158, v159, v160, v161, v162, v163, v164, v165, v166, v167, v168, v169, v170, v171, v172, v173, v174, v175, v176, v177, v178, v179, v180, v181, v182, v183, v184, v185, v186, v187], []⟩ wc := by
  conv => arg 2; whnf
  obtain ⟨i0, hi, hz0, hz1, hz2⟩ := info_parts Try.byteInfo
  go_upto_region 13 with fail
  try simp only [Act.put]
  go_cut [91] (fun v wx => Hid (wx = wc ∧ ∃ tb : Bool, v = .bool tb ∧ (tb = false → ∃ g c, u14 = .slice (some ⟨g, 0, none⟩) 256 256 ∧ c.length ≤ 220 ∧ o ≠ m' ∧ Box wc g 5 (bc (sealed o c)).toArray)))
  case first =>
    rcases H2.out with ⟨hom, rfl, rfl⟩ | ⟨hom, g, cc, rfl, rfl, hc, hx⟩
    · clear hom
      go_wp2
      go_meet
      exact Lib.hid ⟨rfl, true, rfl, fun h => by cases h⟩
    · have HF := Lib.hid (And.intro hc hx)
      clear hom hc hx
      obtain ⟨ok, oe, os, ho1, ho2⟩ := o
      obtain ⟨mk, me, ms, hm1, hm2⟩ := m'
      have x0 : wc.cell? ⟨w.heap.size, 0, none⟩ = some (.int .u8 (mk.toNat : Int)) := (Box.cell HT9.out.one 0).trans rfl
      have x1 : wc.cell? ⟨w.heap.size, 1, none⟩ = some (.int .u64 (me : Int)) := (Box.cell HT9.out.one 1).trans rfl
      have x2 : wc.cell? ⟨w.heap.size, 2, none⟩ = some (.int .u64 (ms : Int)) := (Box.cell HT9.out.one 2).trans rfl
      have y0 : wc.cell? ⟨w.heap.size + 1, 0, none⟩ = some (.int .u8 (ok.toNat : Int)) := (Box.cell HT9.out.two 0).trans rfl
      have y1 : wc.cell? ⟨w.heap.size + 1, 1, none⟩ = some (.int .u64 (oe : Int)) := (Box.cell HT9.out.two 1).trans rfl
      have y2 : wc.cell? ⟨w.heap.size + 1, 2, none⟩ = some (.int .u64 (os : Int)) := (Box.cell HT9.out.two 2).trans rfl
      by_cases hk : ok = mk
      · subst hk
        by_cases he : oe = me
        · subst he
          by_cases hs : os = ms
          · subst hs
            go_wp2
            go_meet
            exact Lib.hid ⟨rfl, true, rfl, fun h => by cases h⟩
          · have d3 : ¬ (os : Int) = (ms : Int) := by omega
            have HD := Lib.hid hs
            clear hs
            go_wp2
            go_meet
            exact Lib.hid ⟨rfl, false, rfl, fun _ => ⟨g, cc, rfl, HF.out.1, fun e => HD.out (by injection e), HF.out.2⟩⟩
        · have d2 : ¬ (oe : Int) = (me : Int) := by omega
          have HD := Lib.hid he
          clear he
          go_wp2
          go_meet
          exact Lib.hid ⟨rfl, false, rfl, fun _ => ⟨g, cc, rfl, HF.out.1, fun e => HD.out (by injection e), HF.out.2⟩⟩
      · have d1 : ¬ (ok.toNat : Int) = (mk.toNat : Int) := fun e => hk (UInt8.toNat_inj.1 (by omega))
        have HD := Lib.hid hk
        clear hk
        go_wp2
        go_meet
        exact Lib.hid ⟨rfl, false, rfl, fun _ => ⟨g, cc, rfl, HF.out.1, fun e => HD.out (by injection e), HF.out.2⟩⟩
  case rest =>
    obtain ⟨hw13, tb, rfl, htb⟩ := hcut.out
    subst hw13
    have HTB := Lib.hid htb
    clear hcut H2 htb
    go_upto_if 91 with fail
    go_cut [14] (fun v wx => Hid (Below wc.heap.size wc wx ∧ ∃ g y, v = .slice (some ⟨g, 0, none⟩) 256 256 ∧ Was m' y ∧ Box wx g 5 (bc y).toArray))
    case first =>
      cases tb with
      | true =>
        go_wp2_with (at_make; refine wpList_make_full wc rfl _ _ 22 rfl wc.heap.size 5 i0 _ 1 Try.underlying22 hi hz0 hz1 _ _ _ _ 256 rfl rfl rfl rfl (by rw [hz2]; omega) (by unfold maxLen; omega) (Nat.le_refl _) ?_; intro wy howny hgy; rw [zero_made] at howny; have HWY := Lib.hid (And.intro (box_own howny) ((Below.refl wc.heap.size wc).grown hgy (Nat.le_refl _) (fun k hk => by cases hk))); clear howny hgy)
        go_meet
        exact Lib.hid ⟨HWY.out.2, _, _, rfl, ⟨replicate_length', .inl rfl⟩, HWY.out.1⟩
      | false =>
        obtain ⟨g, c, h14, hc, hom, hx⟩ := HTB.out rfl
        subst h14
        have HR := Lib.hid (And.intro (Below.refl wc.heap.size wc) (⟨g, _, rfl, ⟨sealed_length o c hc, .inr ⟨o, c, hc, hom, rfl⟩⟩, hx⟩ : ∃ g' y, Value.slice (some ⟨g, 0, none⟩) 256 256 = .slice (some ⟨g', 0, none⟩) 256 256 ∧ Was m' y ∧ Box wc g' 5 (bc y).toArray))
        clear hc hom hx
        go_wp2
        go_meet
        exact HR
    case rest =>
      obtain ⟨hb14, gy, y, rfl, hwas, hy14⟩ := hcut.out
      have HTa := Lib.hid (HT9.out.below hb14)
      have HPa := Lib.hid (And.intro HP9.out.1 (Box.below HP9.out.2 hb14 HP9.out.2.lt))
      have HXa := Lib.hid (Box.below HX9.out hb14 HX9.out.lt)
      have HYa := Lib.hid hy14
      have HWAS := Lib.hid hwas
      clear hcut HTB hb14 hwas hy14 HT9 HP9 HX9
      rename_i kk x0 x1 x2 x3 x4 x5 x6 x7 x8 x9 x10 x11 x12 x13 x14 x15 x16 x17 x18 x19 x20 x21 x22 x23 x24 x25 x26 x27 x28 x29 x30 x31 x32 x33 x34 x35 x36 x37 x38 x39 x40 x41 x42 x43 x44 x45 x46 x47 x48 x49 x50 x51 x52 x53 x54 x55 x56 x57 x58 x59 x60 x61 x62 x63 x64 x65 x66 x67 x68 x69 x70 x71 x72 x73 x74 x75 x76 x77 x78 x79 x80 x81 x82 x83 x84 x85 x86 x87 x88 x89 x90 x91 x92 x93 x94 x95 x96 x97 x98 x99 x100 x101 x102 x103 x104 x105 x106 x107 x108 x109 x110 x111 x112 x113 x114 x115 x116 x117 x118 x119 x120 x121 x122 x123 x124 x125 x126 x127 x128 x129 x130 x131 x132 x133 x134 x135 x136 x137 x138 x139 x140 x141 x142 x143 x144 x145 x146 x147 x148 x149 x150 x151 x152 x153 x154 x155 x156 x157 x158 x159 x160
      exact kk _ _ (torn15_says w wc m' o a0 a1 a2 pay pb y n t gp gx gy hn ht hpbl HPB HMY HWAS HTa HPa HXa HYa)
end Go.Proofs.Ythpfdenpgegheaa
