/-
  DevPlays, one step: a write.
-/
import Derived.Test.YtemgphpgfdnkeaaPlayB
namespace Go.Proofs.Ytemgphpgfdnkeaa
open Go.RowKit

set_option linter.unusedVariables false
set_option linter.unusedSimpArgs false
set_option maxRecDepth 100000 in
set_option maxHeartbeats 8000000 in
theorem wayWup (w wr w2 w6 : World) (n j p : Nat) (h1 : n ≤ 100) (hjb : j < 60) (N : Nat → Prop) (D : Dv) (R : Rv) (x : Ac) (isb : Bool) (hab : w2.heap.size < wr.heap.size) (HXM : Hid (Ac.Ok w x))
    (H6 : Hid (Jm w w6 p w2.heap.size (fun k => N k ∨ wr.heap.size ≤ k ∧ k < w6.heap.size) D R ∧ Sim D R ∧ D.bs.length = n ∧ D.ops ≤ j ∧ Box w6 wr.heap.size 36 (ac x).toArray))
    (hisb : isb = true ↔ (0 ≤ x.n ∧ x.n < (n : Int))) (hk1 : x.kind = 1) (hist : isb = true) (hdn : D.call.down = false)
    (v1 v2 v3 v4 v6 v8 v9 v12 v13 v14 v15 v16 v17 v18 v19 v20 v21 v22 v23 v24 v25 v26 v27 v28 v29 v30 v31 v32 v33 v34 v35 v36 v37 v38 v39 v40 v41 v42 v43 v44 v45 v46 v47 v48 v49 v50 v51 v52 v53 v54 v55 v56 v57 v58 v59 v60 v61 v62 v63 v64 v65 v66 v67 v68 v69 v71 v72 v73 v74 v75 v76 v77 v78 v79 v80 v81 v82 v83 v84 v85 v86 v87 v88 v89 v90 v91 v92 v93 v94 v95 v96 v97 v98 v99 v100 v101 v102 v103 v104 v105 v106 v107 v108 v109 v110 v111 v112 v113 v114 v115 v116 v117 v118 v119 v120 v121 v122 v123 v124 v125 v126 v127 v128 v129 v130 v131 v132 v133 v134 v135 v136 v137 v138 v139 v140 v141 v142 v143 v144 v145 v146 v147 v148 v149 v150 v151 v152 v153 v154 v155 v156 v157 v158 v159 v160 v161 v162 v163 v164 v165 v166 v167 v168 v169 v170 v171 v172 v173 v174 v175 v176 v177 v178 v179 v180 v181 v182 v183 v184 v185 v186 v187 v188 v189 v190 v191 v192 v193 v194 v195 v196 v197 v198 v199 v200 v201 v202 v203 v204 v205 v206 v207 v208 v209 v210 v211 v212 v213 v214 v215 v216 v217 v218 v219 v220 v221 v222 v223 v224 v225 v226 : Value)
    (E : Exit → Act → World → Prop) (hE : ∀ c (a : Act) (k : Nat) v w', E (.panic c) (a.put (some k) v) w' → E (.panic c) a w') (J K' : Act → World → Prop)
    (a1 : ∀ (a' : Act) (w' : World), (∃ u4 u11 u12 u13 u14 u15 u16 u46 u47 u48 u49 u50 u51 u52 u53 u54 u55 u56 u57 u58 u59 u60 u61 u62 u63 u64 u65 u66 u67 u68 u69 u70 u71 u72 u73 u74 u75 u76 u77 u78 u79 u80 u81 u82 u83 u84 u85 u86 u87 u88 u89 u90 u91 u92 u93 u94 u95 u96 u97 u98 u99 u100 u101 u102 u103 u104 u105 u106 u107 u108 u109 u110 u111 u112 u113 u114 u115 u116 u117 u118 u119 u120 u121 u122 u123 u124 u125 u126 u127 u128 u129 u130 u131 u132 u133 u134 u135 u136 u137 u138 u139 u140 u141 u142 u143 u144 u145 u146 u147 u148 u149 u150 u151 u152 u153 u154 u155 u156 u157 u158 u159 u160 u161 u162 u163 u164 u165 u166 u167 u168 u169 u170 u171 u172 u173 u174 u175 u176 u177 u178 u179 u180 u181 u182 u183 u184 u185 u186 u187 u188 u189 u190 u191 u192 u193 u194 u195 u196 u197 u198 u199 u200 u201 u202 u203 u204 u205 u206 u207 u208 u209 u210 u211 u212 u213 u214 u215 u216 u217 u218 u219 : Value, (∃ N' D' R', Hid (Jm w w' p w2.heap.size N' D' R' ∧ Sim D' R' ∧ D'.bs.length = n ∧ D'.ops ≤ j + 1)) ∧ a' = (⟨#[(.int .i64 (n : Int)), v1, v2, v3, u4, (.pointer (some ⟨p, 0, none⟩)), v6, (.pointer (some ⟨w2.heap.size, 0, none⟩)), v8, v9, (.pointer (some ⟨wr.heap.size, 0, none⟩)), u11, u12, u13, u14, u15, u16, v17, v18, v19, v20, v21, v22, v23, v24, v25, v26, v27, v28, v29, v30, v31, v32, v33, v34, v35, v36, v37, v38, v39, v40, v41, v42, v43, v44, v45, u46, u47, u48, u49, u50, u51, u52, u53, u54, u55, u56, u57, u58, u59, u60, u61, u62, u63, u64, u65, u66, u67, u68, u69, u70, u71, u72, u73, u74, u75, u76, u77, u78, u79, u80, u81, u82, u83, u84, u85, u86, u87, u88, u89, u90, u91, u92, u93, u94, u95, u96, u97, u98, u99, u100, u101, u102, u103, u104, u105, u106, u107, u108, u109, u110, u111, u112, u113, u114, u115, u116, u117, u118, u119, u120, u121, u122, u123, u124, u125, u126, u127, u128, u129, u130, u131, u132, u133, u134, u135, u136, u137, u138, u139, u140, u141, u142, u143, u144, u145, u146, u147, u148, u149, u150, u151, u152, u153, u154, u155, u156, u157, u158, u159, u160, u161, u162, u163, u164, u165, u166, u167, u168, u169, u170, u171, u172, u173, u174, u175, u176, u177, u178, u179, u180, u181, u182, u183, u184, u185, u186, u187, u188, u189, u190, u191, u192, u193, u194, u195, u196, u197, u198, u199, u200, u201, u202, u203, u204, u205, u206, u207, u208, u209, u210, u211, u212, u213, u214, u215, u216, u217, u218, u219, v220, v221, v222, v223, v224, v225, v226], []⟩ : Act)) → J a' w')
    (a2 : ∀ (a' : Act) (w' : World), Met J a' w' → K' a' w') :
    Code.wp Try.prog kindBlk (Exit.then K' E) ⟨#[(.int .i64 (n : Int)), v1, v2, v3, v4, (.pointer (some ⟨p, 0, none⟩)), v6, (.pointer (some ⟨w2.heap.size, 0, none⟩)), v8, v9, (.pointer (some ⟨wr.heap.size, 0, none⟩)), (.bool isb), v12, v13, v14, v15, v16, v17, v18, v19, v20, v21, v22, v23, v24, v25, v26, v27, v28, v29, v30, v31, v32, v33, v34, v35, v36, v37, v38, v39, v40, v41, v42, v43, v44, v45, v46, v47, v48, v49, v50, v51, v52, v53, v54, v55, v56, v57, v58, v59, v60, v61, v62, v63, v64, v65, v66, v67, v68, v69, (.int .i64 x.kind), v71, v72, v73, v74, v75, v76, v77, v78, v79, v80, v81, v82, v83, v84, v85, v86, v87, v88, v89, v90, v91, v92, v93, v94, v95, v96, v97, v98, v99, v100, v101, v102, v103, v104, v105, v106, v107, v108, v109, v110, v111, v112, v113, v114, v115, v116, v117, v118, v119, v120, v121, v122, v123, v124, v125, v126, v127, v128, v129, v130, v131, v132, v133, v134, v135, v136, v137, v138, v139, v140, v141, v142, v143, v144, v145, v146, v147, v148, v149, v150, v151, v152, v153, v154, v155, v156, v157, v158, v159, v160, v161, v162, v163, v164, v165, v166, v167, v168, v169, v170, v171, v172, v173, v174, v175, v176, v177, v178, v179, v180, v181, v182, v183, v184, v185, v186, v187, v188, v189, v190, v191, v192, v193, v194, v195, v196, v197, v198, v199, v200, v201, v202, v203, v204, v205, v206, v207, v208, v209, v210, v211, v212, v213, v214, v215, v216, v217, v218, v219, v220, v221, v222, v223, v224, v225, v226], []⟩ w6 := by
  have k0 : w6.cell? ⟨wr.heap.size, 0, none⟩ = some (.int .i64 x.kind) := (Box.cell H6.out.2.2.2.2 0).trans rfl
  have k1 : w6.cell? ⟨wr.heap.size, 1, none⟩ = some (.int .i64 x.n) := (Box.cell H6.out.2.2.2.2 1).trans rfl
  conv => arg 2; whnf
  have hk3 : ¬ x.kind = 3 := by omega
  have hk4 : ¬ x.kind = 4 := by omega
  have q3 : (x.kind == 3) = false := by simp [hk3]
  have q4 : (x.kind == 4) = false := by simp [hk4]
  subst hist
  have his : 0 ≤ x.n ∧ x.n < (n : Int) := hisb.1 rfl
  have hisD : 0 ≤ x.n ∧ x.n < (D.bs.length : Int) := by rw [H6.out.2.2.1]; exact his
  clear hisb
  rw [hk1] at k0
  obtain ⟨m, hm⟩ := Int.eq_ofNat_of_zero_le his.1
  rw [hm] at k1
  have hmn : m < n := by omega
  have k2 : w6.cell? ⟨wr.heap.size, 2, none⟩ = some (.int .u8 (x.c.toNat : Int)) := (Box.cell H6.out.2.2.2.2 2).trans rfl
  go_upto_region 21 with fail
  have d1 : w6.drew.cell? ⟨wr.heap.size, 1, none⟩ = some (.int .i64 (m : Int)) := k1
  have d2 : w6.drew.cell? ⟨wr.heap.size, 2, none⟩ = some (.int .u8 (x.c.toNat : Int)) := k2
  refine wp_region_held_drew (S := fun w' => w'.cell? ⟨wr.heap.size, 1, none⟩ = some (.int .i64 (m : Int)) ∧ w'.cell? ⟨wr.heap.size, 2, none⟩ = some (.int .u8 (x.c.toNat : Int))) (by kernel_rfl) ⟨d1, d2⟩ (fun hHeld => ?_)
  clear k0 k1 k2 d1 d2
  refine take_run 0 82 (v := ?_) rfl rfl (by kernel_rfl) (by kernel_rfl) (by kernel_rfl) (fun _ _ _ h => hE _ _ _ _ _ h) (by rfl) ?_ (by assumption) ?_
  rotate_left
  · (intro wq hSw; obtain ⟨hS1, hS2⟩ := hSw; go_simp; first | done | with_reducible rfl)
  simp only [Act.put, List.setIfInBounds_toArray, List.set_cons_zero, List.set_cons_succ]
  refine take_run 1 83 (v := ?_) rfl rfl (by kernel_rfl) (by kernel_rfl) (by kernel_rfl) (fun _ _ _ h => hE _ _ _ _ _ h) (by rfl) ?_ (by assumption) ?_
  rotate_left
  · (intro wq hSw; obtain ⟨hS1, hS2⟩ := hSw; go_simp; first | done | with_reducible rfl)
  simp only [Act.put, List.setIfInBounds_toArray, List.set_cons_zero, List.set_cons_succ]
  refine take_run 2 84 (v := ?_) rfl rfl (by kernel_rfl) (by kernel_rfl) (by kernel_rfl) (fun _ _ _ h => hE _ _ _ _ _ h) (by rfl) ?_ (by assumption) ?_
  rotate_left
  · (intro wq hSw; obtain ⟨hS1, hS2⟩ := hSw; go_simp; first | done | with_reducible rfl)
  simp only [Act.put, List.setIfInBounds_toArray, List.set_cons_zero, List.set_cons_succ]
  refine take_run 3 85 (v := ?_) rfl rfl (by kernel_rfl) (by kernel_rfl) (by kernel_rfl) (fun _ _ _ h => hE _ _ _ _ _ h) (by rfl) ?_ (by assumption) ?_
  rotate_left
  · (intro wq hSw; obtain ⟨hS1, hS2⟩ := hSw; go_simp; first | done | with_reducible rfl)
  simp only [Act.put, List.setIfInBounds_toArray, List.set_cons_zero, List.set_cons_succ]
  refine take_run 4 86 (v := ?_) rfl rfl (by kernel_rfl) (by kernel_rfl) (by kernel_rfl) (fun _ _ _ h => hE _ _ _ _ _ h) (by rfl) ?_ (by assumption) ?_
  rotate_left
  · (intro wq hSw; obtain ⟨hS1, hS2⟩ := hSw; go_simp; first | done | with_reducible rfl)
  simp only [Act.put, List.setIfInBounds_toArray, List.set_cons_zero, List.set_cons_succ]
  refine wpAnyH_ready (rs := [5]) (by kernel_rfl) (by simp) ?_
  refine AllReadyH.cons rfl (fun K hK => ?_) AllReadyH.nil
  go_simp
  refine (block_says w6.drew x.c).mono ?_
  rintro e wb ⟨rfl, hbx, hbb'⟩
  have hbb' : Below w6.heap.size w6 wb := ⟨hbb'.os, hbb'.tape, hbb'.output, hbb'.size, hbb'.block⟩
  have hbx : Box wb w6.heap.size 5 (be (blkOf x.c)).toArray := hbx
  have hJb := H6.out.1.hold hbb'
  have hxb := Box.below H6.out.2.2.2.2 hbb' H6.out.2.2.2.2.lt
  refine hK.out _ _ ⟨(Box.cell hxb 1).trans (by rw [← hm]; rfl), (Box.cell hxb 2).trans rfl⟩ (fun hHeld => ?_)
  clear hK K
  try simp only [Act.put, List.setIfInBounds_toArray, List.set_cons_zero, List.set_cons_succ]
  refine wpAnyH_ready (rs := [6]) (by kernel_rfl) (by simp) ?_
  refine AllReadyH.cons rfl (fun K hK => ?_) AllReadyH.nil
  go_simp
  refine (write_up hJb.dev hJb.fresh (by have := H6.out.2.2.2.1; omega) hdn m (by rw [H6.out.2.2.1]; exact hmn) (fun k => k = w6.heap.size) _ 256 (blkOf x.c) (lies_box (N := fun k => k = w6.heap.size) hbx rfl (blkOf x.c).2) (fun k h1 h2 => h2.2 (.inr (by rw [h1]; exact ⟨Nat.le_refl _, hbx.lt⟩)))).mono ?_
  rintro e w7 ⟨rfl, hd7, ht7⟩
  have hJ7 := hJb.turn hd7 ht7
  have hx7 := ht7.box hxb (fun h2 => h2.2 (.inl (.inr ⟨Nat.le_refl _, H6.out.2.2.2.2.lt⟩)))
  have HJ7 := Lib.hid (And.intro hJ7 hx7)
  have HJ6 := Lib.hid (And.intro H6.out.1 trivial)
  clear hd7 ht7 hJ7 hx7
  clear hJb hxb hbx hbb'
  refine hK.out _ _ ⟨(Box.cell HJ7.out.2 1).trans (by rw [← hm]; rfl), (Box.cell HJ7.out.2 2).trans rfl⟩ (fun hHeld => ?_)
  clear hK K
  try simp only [Act.put, List.setIfInBounds_toArray, List.set_cons_zero, List.set_cons_succ]
  refine take_run 7 13 (v := ?_) rfl rfl (by kernel_rfl) (by kernel_rfl) (by kernel_rfl) (fun _ _ _ h => hE _ _ _ _ _ h) (by rfl) ?_ (by assumption) ?_
  rotate_left
  · (intro wq hSw; obtain ⟨hS1, hS2⟩ := hSw; go_simp; first | done | with_reducible rfl)
  simp only [Act.put, List.setIfInBounds_toArray, List.set_cons_zero, List.set_cons_succ]
  refine wpAnyH_done (by kernel_rfl) ?_ _
  clear hHeld
  obtain ⟨cs7, hbx7, hr7⟩ := HJ7.out.1.box
  have hz7 := hr7.size
  have HX7 := Lib.hid hbx7
  have hC := rcall_says hr7 (by have := H6.out.2.1.ops; have := H6.out.2.2.2.1; omega) (by rw [H6.out.2.1.arm]; exact H6.out.1.dev.1.low) (by rw [H6.out.2.1.arm]; exact H6.out.1.dev.1.high)
  rw [(H6.out.2.1.call H6.out.1.dev.1.low).down, hdn] at hC
  clear hbx7 hr7
  go_wp2_with (refine wpList_load_row rfl 30 _ rfl w2.heap.size rfl 30 _ (0, 0) _ HX7.out Try.underlying30 rfl (by rw [hz7]; exact refZero) ?_)
  refine hC.mono ?_
  rintro e w8 ⟨cs8, rfl, hr8, hb8⟩
  have hz8 := hr8.size
  have ho8 := hr8.one
  obtain ⟨w9, hw9⟩ : ∃ y, w8.alloc (.cells #[.slice none 0 0, .slice none 0 0, .slice none 0 0, .int .i64 0, .bool false, .int .i64 0] 30) = y := ⟨_, rfl⟩
  have hy9 : Box w9 w8.heap.size 30 #[.slice none 0 0, .slice none 0 0, .slice none 0 0, .int .i64 0, .bool false, .int .i64 0] := by rw [← hw9]; exact Box.made w8 _ _
  obtain ⟨w10, hw10⟩ : ∃ y, w9.setRow w8.heap.size cs8 = y := ⟨_, rfl⟩
  have hy10 : Box w10 w8.heap.size 30 cs8 := by rw [← hw10]; exact setRow_heap _ _ _ _ _ _ hy9
  have hb9 : Below w8.heap.size w8 w9 := by rw [← hw9]; exact (Below.refl _ w8).alloc (Nat.le_refl _) _
  have hb10 : Below w8.heap.size w8 w10 := hb9.trans (by rw [← hw10]; exact (Below.refl _ w9).grown (grown_row (grown_refl _ (some w8.heap.size)) _) hb9.size (fun k e => by injection e with e; omega))
  have hbb : Below w7.heap.size w7 w10 := hb8.trans (hb10.mono hb8.size)
  have hx10 : Box w10 w2.heap.size 30 cs7 := Box.below HX7.out hbb HX7.out.lt
  obtain ⟨w11, hw11⟩ : ∃ y, w10.setRow w2.heap.size cs8 = y := ⟨_, rfl⟩
  have hJ11 := HJ7.out.1.called hb8 cs8 hr8 (.cells #[.slice none 0 0, .slice none 0 0, .slice none 0 0, .int .i64 0, .bool false, .int .i64 0] 30)
  rw [hw9, hw10, hw11] at hJ11
  have hne : wr.heap.size ≠ w2.heap.size := by omega
  have ha11 : Box w11 wr.heap.size 36 (ac x).toArray := by rw [← hw11]; exact Box.grown (Box.below HJ7.out.2 hbb HJ7.out.2.lt) (grown_row (grown_refl _ (some w2.heap.size)) _) (by simpa using hne)
  have n0 : w11.cell? ⟨wr.heap.size, 0, none⟩ = some (.int .i64 x.kind) := (Box.cell ha11 0).trans rfl
  have n1 : w11.cell? ⟨wr.heap.size, 1, none⟩ = some (.int .i64 x.n) := (Box.cell ha11 1).trans rfl
  have n2 : w11.cell? ⟨wr.heap.size, 2, none⟩ = some (.int .u8 (x.c.toNat : Int)) := (Box.cell ha11 2).trans rfl
  rw [hk1] at n0
  have HJ11 := Lib.hid (And.intro hJ11 ha11)
  have HY9 := Lib.hid hy9
  have HY10 := Lib.hid hy10
  have HX10 := Lib.hid hx10
  have HW10 := Lib.hid hw10
  have HW11 := Lib.hid hw11
  have HBB := Lib.hid hbb
  clear hr8 hb8 hy9 hy10 hb9 hb10 hbb hx10 hJ11 ha11 hw10 hw11 hC
  go_upto_region 34 with (first
    | (refine wpList_store_row rfl 30 _ _ rfl w8.heap.size cs8 rfl rfl 30 _ HY9.out (by rw [hz8]; exact refZero) (by rw [hz8]; rfl) ho8 ?_; rw [HW10.out])
    | (refine wpList_load_row rfl 30 _ rfl w8.heap.size rfl 30 _ (0, 0) _ HY10.out Try.underlying30 rfl (by rw [hz8]; exact refZero) ?_)
    | (refine wpList_store_row rfl 30 _ _ rfl w2.heap.size cs8 rfl rfl 30 _ HX10.out (by rw [hz8]; exact refZero) (by rw [hz8, hz7]) ho8 ?_; rw [HW11.out]))
  rw [hm] at n1
  go_quiet (fail)
  go_upto_region 37 with fail
  obtain ⟨cs11, hbx11, hr11⟩ := HJ11.out.1.box
  have hz11 := hr11.size
  obtain ⟨cl, hcl⟩ : ∃ y, cs11.toList = y := ⟨_, rfl⟩
  have HCL := Lib.hid hcl
  have HX11 := Lib.hid hbx11
  have HR11 := Lib.hid hr11
  have HRG := Lib.hid (show ∀ u, Box u w2.heap.size 30 cs11 → u.rangeAt w2.heap.size 0 cl from fun u hu i v hv => by rw [Box.cell hu, Nat.zero_add]; rw [← hcl] at hv; simpa using hv)
  have d1 : ((w11.drewN nq).drew).cell? ⟨wr.heap.size, 1, none⟩ = some (.int .i64 (m : Int)) := n1
  have d2 : ((w11.drewN nq).drew).cell? ⟨wr.heap.size, 2, none⟩ = some (.int .u8 (x.c.toNat : Int)) := n2
  clear hcl hbx11 hr11
  have hclA : cl.toArray = cs11 := by rw [← HCL.out]
  refine wp_region_held_drew (S := fun w' => w'.cell? ⟨wr.heap.size, 1, none⟩ = some (.int .i64 (m : Int)) ∧ w'.cell? ⟨wr.heap.size, 2, none⟩ = some (.int .u8 (x.c.toNat : Int))) (by kernel_rfl) ⟨d1, d2⟩ (fun hHeld => ?_)
  clear n0 n1 n2 d1 d2
  refine take_run 1 160 (v := ?_) rfl rfl (by kernel_rfl) (by kernel_rfl) (by kernel_rfl) (fun _ _ _ h => hE _ _ _ _ _ h) (by rfl) ?_ (by assumption) ?_
  rotate_left
  · (intro wq hSw; obtain ⟨hS1, hS2⟩ := hSw; go_simp; first | done | with_reducible rfl)
  simp only [Act.put, List.setIfInBounds_toArray, List.set_cons_zero, List.set_cons_succ]
  refine take_run 2 161 (v := ?_) rfl rfl (by kernel_rfl) (by kernel_rfl) (by kernel_rfl) (fun _ _ _ h => hE _ _ _ _ _ h) (by rfl) ?_ (by assumption) ?_
  rotate_left
  · (intro wq hSw; obtain ⟨hS1, hS2⟩ := hSw; go_simp; first | done | with_reducible rfl)
  simp only [Act.put, List.setIfInBounds_toArray, List.set_cons_zero, List.set_cons_succ]
  refine take_run 3 162 (v := ?_) rfl rfl (by kernel_rfl) (by kernel_rfl) (by kernel_rfl) (fun _ _ _ h => hE _ _ _ _ _ h) (by rfl) ?_ (by assumption) ?_
  rotate_left
  · (intro wq hSw; obtain ⟨hS1, hS2⟩ := hSw; go_simp; first | done | with_reducible rfl)
  simp only [Act.put, List.setIfInBounds_toArray, List.set_cons_zero, List.set_cons_succ]
  refine take_run 4 163 (v := ?_) rfl rfl (by kernel_rfl) (by kernel_rfl) (by kernel_rfl) (fun _ _ _ h => hE _ _ _ _ _ h) (by rfl) ?_ (by assumption) ?_
  rotate_left
  · (intro wq hSw; obtain ⟨hS1, hS2⟩ := hSw; go_simp; first | done | with_reducible rfl)
  simp only [Act.put, List.setIfInBounds_toArray, List.set_cons_zero, List.set_cons_succ]
  refine wpAnyH_ready (rs := [0, 5]) (by kernel_rfl) (by simp) ?_
  refine AllReadyH.cons rfl (fun K hK => ?_) (AllReadyH.cons rfl (fun K hK => ?_) AllReadyH.nil)
  · refine step_load_mid 30 (.tmp 7) rfl rfl w2.heap.size 0 rfl cl _ (HRG.out _ (show Box ((w11.drewN nq).drew) w2.heap.size 30 cs11 from HX11.out)) Try.underlying30 rfl (by rw [← HCL.out, Array.length_toList, hz11]; exact refZero) ?_
    refine hK.out _ _ (hHeld) (fun hHeld => ?_)
    clear hK K
    try simp only [Act.put, List.setIfInBounds_toArray, List.set_cons_zero, List.set_cons_succ]
    rw [hclA]
    refine wpAnyH_ready (rs := [5]) (by kernel_rfl) (by simp) ?_
    refine AllReadyH.cons rfl (fun K hK => ?_) AllReadyH.nil
    go_simp
    refine (block_says ((w11.drewN nq).drew) x.c).mono ?_
    rintro e wc ⟨rfl, hxc, hbc⟩
    have hbc : Below w11.heap.size w11 wc := ⟨hbc.os, hbc.tape, hbc.output, hbc.size, hbc.block⟩
    have hxc : Box wc w11.heap.size 5 (be (blkOf x.c)).toArray := hxc
    have hac := Box.below HJ11.out.2 hbc HJ11.out.2.lt
    have keep1 : wc.cell? ⟨wr.heap.size, 1, none⟩ = some (.int .i64 (m : Int)) := (Box.cell hac 1).trans (by rw [← hm]; rfl)
    have keep2 : wc.cell? ⟨wr.heap.size, 2, none⟩ = some (.int .u8 (x.c.toNat : Int)) := (Box.cell hac 2).trans rfl
    refine hK.out _ _ ⟨keep1, keep2⟩ (fun hHeld => ?_)
    clear hK K
    try simp only [Act.put, List.setIfInBounds_toArray, List.set_cons_zero, List.set_cons_succ]
    clear hHeld
    refine wpAnyH_weakS (S' := fun u => (u.cell? ⟨wr.heap.size, 1, none⟩ = some (.int .i64 (m : Int)) ∧ u.cell? ⟨wr.heap.size, 2, none⟩ = some (.int .u8 (x.c.toNat : Int))) ∧ Box u w11.heap.size 5 (be (blkOf x.c)).toArray) (fun u hu => hu.1) ?_
    have hHeld := And.intro (And.intro keep1 keep2) hxc
    refine take_run 6 165 (v := sc (blkOf x.c)) rfl rfl (by kernel_rfl) (by kernel_rfl) (by kernel_rfl) (fun _ _ _ h => hE _ _ _ _ _ h) (by rfl) (fun wq hSw => by have h := conv_lies (lies_box (N := fun _ => True) hSw.2 trivial (blkOf x.c).2); go_simp; first | done | rfl) (by assumption) ?_
    try simp only [Act.put, List.setIfInBounds_toArray, List.set_cons_zero, List.set_cons_succ]
    refine wpAnyH_ready (rs := [7]) (by kernel_rfl) (by simp) ?_
    refine AllReadyH.cons rfl (fun K hK => ?_) AllReadyH.nil
    go_simp
    refine (rwrite_says (HR11.out.below hbc) (fun b h => Nat.lt_of_lt_of_le (HJ11.out.1.new b h.1).2 hbc.size) m (blkOf x.c) (by show R.at'.length ≤ 1000; have := (H6.out.2.1.bounds H6.out.1.dev.1).2.1; have := H6.out.2.2.2.1; omega)).mono ?_
    rintro e wd ⟨cs12, rfl, hr12, hbd⟩
    have hz12 := hr12.size
    have ho12 := hr12.one
    have had := Box.below hac hbd hac.lt
    have hxd := Box.below hxc hbd hxc.lt
    have hrd := Box.below (Box.below HX11.out hbc HX11.out.lt) hbd (Box.below HX11.out hbc HX11.out.lt).lt
    refine hK.out _ _ ⟨⟨(Box.cell had 1).trans (by rw [← hm]; rfl), (Box.cell had 2).trans rfl⟩, hxd⟩ (fun hHeld => ?_)
    clear hK K hHeld
    try simp only [Act.put, List.setIfInBounds_toArray, List.set_cons_zero, List.set_cons_succ]
    refine wpAnyH_ready (rs := [8]) (by kernel_rfl) (by simp) ?_
    refine AllReadyH.cons rfl (fun K hK => ?_) AllReadyH.nil
    have hJe := HJ11.out.1.ref (hbc.trans (hbd.mono hbc.size)) cs12 (hr12.weak (fun b _ h => h.imp id (fun h => Nat.le_trans hbc.size h)))
    obtain ⟨we, hwe⟩ : ∃ y, wd.setRow w2.heap.size cs12 = y := ⟨_, rfl⟩
    rw [hwe] at hJe
    have hge : wd.grownBy we (some w2.heap.size) := by rw [← hwe]; exact grown_row (grown_refl _ _) _
    have hne2 : w11.heap.size ≠ w2.heap.size := by have := HX11.out.lt; omega
    have hae := Box.grown had hge (by simpa using hne)
    have hxe := Box.grown hxd hge (by simpa using hne2)
    refine step_store_row 30 (.tmp 7) (.tmp 166) rfl rfl w2.heap.size cs12 rfl rfl 30 _ hrd (by rw [hz12]; exact refZero) (by rw [hz12, hz11]) ho12 ?_
    rw [hwe]
    refine hK.out _ _ ⟨⟨(Box.cell hae 1).trans (by rw [← hm]; rfl), (Box.cell hae 2).trans rfl⟩, hxe⟩ (fun hHeld => ?_)
    clear hK K hHeld
    try simp only [Act.put, List.setIfInBounds_toArray, List.set_cons_zero, List.set_cons_succ]
    refine wpAnyH_done (by kernel_rfl) ?_ _
    have z0 : we.cell? ⟨wr.heap.size, 0, none⟩ = some (.int .i64 1) := (Box.cell hae 0).trans (by rw [← hk1]; rfl)
    have HJE := Lib.hid hJe
    clear hr12 hbd had hxd hrd hge hae hxe hJe hbc hxc hac keep1 keep2 hwe
    go_wp2_with fail
    go_meet
    exact ⟨_, _, _, Lib.hid ⟨HJE.out, (H6.out.2.1.call H6.out.1.dev.1.low).write (by rw [call_bs, H6.out.2.2.1]; exact hmn) _, (write_bs_length _ _ _).trans H6.out.2.2.1, by have := H6.out.2.2.2.1; show D.ops + 1 ≤ j + 1; omega⟩⟩
  · go_simp
    refine (block_says ((w11.drewN nq).drew) x.c).mono ?_
    rintro e wc ⟨rfl, hxc, hbc⟩
    have hbc : Below w11.heap.size w11 wc := ⟨hbc.os, hbc.tape, hbc.output, hbc.size, hbc.block⟩
    have hxc : Box wc w11.heap.size 5 (be (blkOf x.c)).toArray := hxc
    have hac := Box.below HJ11.out.2 hbc HJ11.out.2.lt
    have keep1 : wc.cell? ⟨wr.heap.size, 1, none⟩ = some (.int .i64 (m : Int)) := (Box.cell hac 1).trans (by rw [← hm]; rfl)
    have keep2 : wc.cell? ⟨wr.heap.size, 2, none⟩ = some (.int .u8 (x.c.toNat : Int)) := (Box.cell hac 2).trans rfl
    refine hK.out _ _ ⟨keep1, keep2⟩ (fun hHeld => ?_)
    clear hK K
    try simp only [Act.put, List.setIfInBounds_toArray, List.set_cons_zero, List.set_cons_succ]
    clear hHeld
    refine wpAnyH_weakS (S' := fun u => (u.cell? ⟨wr.heap.size, 1, none⟩ = some (.int .i64 (m : Int)) ∧ u.cell? ⟨wr.heap.size, 2, none⟩ = some (.int .u8 (x.c.toNat : Int))) ∧ Box u w11.heap.size 5 (be (blkOf x.c)).toArray) (fun u hu => hu.1) ?_
    have hHeld := And.intro (And.intro keep1 keep2) hxc
    refine take_run 6 165 (v := sc (blkOf x.c)) rfl rfl (by kernel_rfl) (by kernel_rfl) (by kernel_rfl) (fun _ _ _ h => hE _ _ _ _ _ h) (by rfl) (fun wq hSw => by have h := conv_lies (lies_box (N := fun _ => True) hSw.2 trivial (blkOf x.c).2); go_simp; first | done | rfl) (by assumption) ?_
    try simp only [Act.put, List.setIfInBounds_toArray, List.set_cons_zero, List.set_cons_succ]
    refine wpAnyH_ready (rs := [0]) (by kernel_rfl) (by simp) ?_
    refine AllReadyH.cons rfl (fun K hK => ?_) AllReadyH.nil
    refine step_load_mid 30 (.tmp 7) rfl rfl w2.heap.size 0 rfl cl _ (HRG.out _ (Box.below HX11.out hbc HX11.out.lt)) Try.underlying30 rfl (by rw [← HCL.out, Array.length_toList, hz11]; exact refZero) ?_
    refine hK.out _ _ (hHeld) (fun hHeld => ?_)
    clear hK K
    try simp only [Act.put, List.setIfInBounds_toArray, List.set_cons_zero, List.set_cons_succ]
    rw [hclA]
    refine wpAnyH_ready (rs := [7]) (by kernel_rfl) (by simp) ?_
    refine AllReadyH.cons rfl (fun K hK => ?_) AllReadyH.nil
    go_simp
    refine (rwrite_says (HR11.out.below hbc) (fun b h => Nat.lt_of_lt_of_le (HJ11.out.1.new b h.1).2 hbc.size) m (blkOf x.c) (by show R.at'.length ≤ 1000; have := (H6.out.2.1.bounds H6.out.1.dev.1).2.1; have := H6.out.2.2.2.1; omega)).mono ?_
    rintro e wd ⟨cs12, rfl, hr12, hbd⟩
    have hz12 := hr12.size
    have ho12 := hr12.one
    have had := Box.below hac hbd hac.lt
    have hxd := Box.below hxc hbd hxc.lt
    have hrd := Box.below (Box.below HX11.out hbc HX11.out.lt) hbd (Box.below HX11.out hbc HX11.out.lt).lt
    refine hK.out _ _ ⟨⟨(Box.cell had 1).trans (by rw [← hm]; rfl), (Box.cell had 2).trans rfl⟩, hxd⟩ (fun hHeld => ?_)
    clear hK K hHeld
    try simp only [Act.put, List.setIfInBounds_toArray, List.set_cons_zero, List.set_cons_succ]
    refine wpAnyH_ready (rs := [8]) (by kernel_rfl) (by simp) ?_
    refine AllReadyH.cons rfl (fun K hK => ?_) AllReadyH.nil
    have hJe := HJ11.out.1.ref (hbc.trans (hbd.mono hbc.size)) cs12 (hr12.weak (fun b _ h => h.imp id (fun h => Nat.le_trans hbc.size h)))
    obtain ⟨we, hwe⟩ : ∃ y, wd.setRow w2.heap.size cs12 = y := ⟨_, rfl⟩
    rw [hwe] at hJe
    have hge : wd.grownBy we (some w2.heap.size) := by rw [← hwe]; exact grown_row (grown_refl _ _) _
    have hne2 : w11.heap.size ≠ w2.heap.size := by have := HX11.out.lt; omega
    have hae := Box.grown had hge (by simpa using hne)
    have hxe := Box.grown hxd hge (by simpa using hne2)
    refine step_store_row 30 (.tmp 7) (.tmp 166) rfl rfl w2.heap.size cs12 rfl rfl 30 _ hrd (by rw [hz12]; exact refZero) (by rw [hz12, hz11]) ho12 ?_
    rw [hwe]
    refine hK.out _ _ ⟨⟨(Box.cell hae 1).trans (by rw [← hm]; rfl), (Box.cell hae 2).trans rfl⟩, hxe⟩ (fun hHeld => ?_)
    clear hK K hHeld
    try simp only [Act.put, List.setIfInBounds_toArray, List.set_cons_zero, List.set_cons_succ]
    refine wpAnyH_done (by kernel_rfl) ?_ _
    have z0 : we.cell? ⟨wr.heap.size, 0, none⟩ = some (.int .i64 1) := (Box.cell hae 0).trans (by rw [← hk1]; rfl)
    have HJE := Lib.hid hJe
    clear hr12 hbd had hxd hrd hge hae hxe hJe hbc hxc hac keep1 keep2 hwe
    go_wp2_with fail
    go_meet
    exact ⟨_, _, _, Lib.hid ⟨HJE.out, (H6.out.2.1.call H6.out.1.dev.1.low).write (by rw [call_bs, H6.out.2.2.1]; exact hmn) _, (write_bs_length _ _ _).trans H6.out.2.2.1, by have := H6.out.2.2.2.1; show D.ops + 1 ≤ j + 1; omega⟩⟩
end Go.Proofs.Ytemgphpgfdnkeaa
