/-
  SuperLoads: the region that makes the table of two texts.
-/
import Derived.Test.YthpfdenpgegheaaROf
import Derived.Test.YthpfdenpgegheaaOneSu
import Derived.Test.YthpfdenpgegheaaTornC
import Derived.Deep.DeepCutAuto
namespace Go.Proofs.Ythpfdenpgegheaa
open Go.RowKit

set_option linter.unusedVariables false
set_option linter.unusedSimpArgs false
theorem t47Info : (Try.prog.info? 47).map (·.size) = some 2 := by kernel_rfl
theorem step_maken {ops : Array Oper} {Q : Exit → Act → World → Prop} {o : Oper} {a : Act} {w : World} {K : Act → World → Prop} {E : Prop} (d : Nat) (n : Nat) (hn : n ≤ 1000) (hd : o.dst = some d) (hgd : o.guard = none) (l c : Operand) (hop : o.op = .makeSlice 22 l c) (hl : a.eval l = .int .i64 (n : Int)) (hc : a.eval c = .int .i64 (n : Int))
    (hK : ∀ w', Box w' w.heap.size 5 (bc (List.replicate n 0)).toArray → w.grownBy w' none → K (a.put (some d) (.slice (some ⟨w.heap.size, 0, none⟩) n n)) w') :
    if Region.wanted o (yielded ops a.tmps) = true then Oper.wp Try.prog o a w K Q else E := by
  obtain ⟨i0, hi, hz0, hz1, hz2⟩ := info_parts Try.byteInfo
  obtain ⟨w', hrun, r1, r2⟩ := run_make_full (P := Try.prog) w w.heap.size 22 5 i0 _ 1 Try.underlying22 hi hz0 hz1 .i64 .i64 n (by rw [hz2]; omega) (by unfold maxLen; omega) (Nat.le_refl _)
  rw [zero_made] at r1
  exact step_run (w' := w') d _ hd hgd (by simp [execOp, hop, hl, hc, hrun, Result.andThen]) (hK w' (box_own r1) r2)
theorem step_make256 {ops : Array Oper} {Q : Exit → Act → World → Prop} {o : Oper} {a : Act} {w : World} {K : Act → World → Prop} {E : Prop} (d : Nat) (hd : o.dst = some d) (hgd : o.guard = none) (l c : Operand) (hop : o.op = .makeSlice 22 l c) (hl : a.eval l = .int .i64 256) (hc : a.eval c = .int .i64 256)
    (hK : ∀ w', Box w' w.heap.size 5 (bc (List.replicate 256 0)).toArray → w.grownBy w' none → K (a.put (some d) (.slice (some ⟨w.heap.size, 0, none⟩) 256 256)) w') :
    if Region.wanted o (yielded ops a.tmps) = true then Oper.wp Try.prog o a w K Q else E :=
  step_maken d 256 (by omega) hd hgd l c hop hl hc hK
noncomputable def loadsR4 : Code := (Try.f5.body.bind (findReg 4)).getD .skip
set_option maxRecDepth 100000 in
set_option maxHeartbeats 16000000 in
theorem loads_r4 (wr : World) (PZ : ByteArray) (HPZ : Hid ((⟨(List.replicate 256 (0 : UInt8)).toArray⟩ : ByteArray) = PZ)) {v0 v1 v2 v3 v4 v5 v6 v7 v8 v9 v10 v11 v12 v13 v14 v15 v16 v17 v18 v19 v20 v21 v22 v23 v24 v25 v26 v27 v28 v29 v30 v31 v32 v33 v34 v35 v36 v37 v38 v39 v40 v41 v42 v43 v44 v45 v46 v47 v48 v49 v50 v51 v52 v53 v54 v55 v56 v57 v58 v59 v60 v61 v62 v63 v64 v65 v66 v67 v68 v69 v70 v71 v72 v73 v74 v75 v76 v77 v78 v79 v80 v81 v82 v83 v84 v85 v86 v87 v88 v89 v90 v91 v92 v93 v94 v95 v96 v97 v98 v99 v100 v101 v102 v103 v104 v105 v106 v107 v108 v109 v110 v111 v112 v113 v114 v115 v116 v117 v118 v119 v120 v121 v122 v123 v124 v125 v126 v127 v128 v129 v130 v131 v132 v133 : Value} (E : Exit → Act → World → Prop) (hE : ∀ ch k v (a : Act) w', E (.panic ch) (a.put (some k) v) w' → E (.panic ch) a w') (K' : Act → World → Prop)
    (hK' : ∀ (u28 u29 u30 u31 u32 : Value) (g : Nat) (w' : World), wr.heap.size ≤ g → Below wr.heap.size wr w' → Box w' g 47 #[.string PZ, .string PZ] → K' ⟨#[v0, v1, v2, v3, v4, v5, v6, v7, v8, (.pointer (some ⟨g, 0, none⟩)), v10, v11, v12, v13, v14, v15, v16, v17, v18, v19, v20, v21, v22, v23, v24, v25, v26, v27, u28, u29, u30, u31, u32, v33, v34, v35, v36, v37, v38, v39, v40, v41, v42, v43, v44, v45, v46, v47, v48, v49, v50, v51, v52, v53, v54, v55, v56, v57, v58, v59, v60, v61, v62, v63, v64, v65, v66, v67, v68, v69, v70, v71, v72, v73, v74, v75, v76, v77, v78, v79, v80, v81, v82, v83, v84, v85, v86, v87, v88, v89, v90, v91, v92, v93, v94, v95, v96, v97, v98, v99, v100, v101, v102, v103, v104, v105, v106, v107, v108, v109, v110, v111, v112, v113, v114, v115, v116, v117, v118, v119, v120, v121, v122, v123, v124, v125, v126, v127, v128, v129, v130, v131, v132, v133], []⟩ w') :
    Code.wp Try.prog loadsR4 (Exit.then K' E) ⟨#[v0, v1, v2, v3, v4, v5, v6, v7, v8, v9, v10, v11, v12, v13, v14, v15, v16, v17, v18, v19, v20, v21, v22, v23, v24, v25, v26, v27, v28, v29, v30, v31, v32, v33, v34, v35, v36, v37, v38, v39, v40, v41, v42, v43, v44, v45, v46, v47, v48, v49, v50, v51, v52, v53, v54, v55, v56, v57, v58, v59, v60, v61, v62, v63, v64, v65, v66, v67, v68, v69, v70, v71, v72, v73, v74, v75, v76, v77, v78, v79, v80, v81, v82, v83, v84, v85, v86, v87, v88, v89, v90, v91, v92, v93, v94, v95, v96, v97, v98, v99, v100, v101, v102, v103, v104, v105, v106, v107, v108, v109, v110, v111, v112, v113, v114, v115, v116, v117, v118, v119, v120, v121, v122, v123, v124, v125, v126, v127, v128, v129, v130, v131, v132, v133], []⟩ wr := by
  conv => arg 2; whnf
  obtain ⟨w0, hw0⟩ : ∃ x, wr.drew = x := ⟨_, rfl⟩
  have hPw0 : Below wr.heap.size wr w0 := by rw [← hw0]; exact (Below.refl _ wr).drew
  refine wp_region_held_drew (S := fun _ => True) (by kernel_rfl) trivial (fun hHeld => ?_)
  rw [hw0]
  clear hw0 hHeld
  have hHeld : True := trivial
  refine wpAnyH_ready (rs := [0, 2, 5]) (by kernel_rfl) (by simp) ?_
  refine AllReadyH.cons rfl (fun K hK => ?_) (AllReadyH.cons rfl (fun K hK => ?_) (AllReadyH.cons rfl (fun K hK => ?_) AllReadyH.nil))
  · refine step_make256 28 rfl rfl _ _ rfl rfl rfl (fun x1 hm hg => ?_)
    have hb : Below w0.heap.size w0 x1 := (Below.refl _ w0).grown hg (Nat.le_refl _) (fun k hk => by cases hk)
    have hPx1 : Below wr.heap.size wr x1 := hPw0.trans (hb.mono hPw0.size)
    refine hK.out _ _ True.intro (fun hHeld => ?_)
    clear hK K hHeld
    try simp only [Act.put, List.setIfInBounds_toArray, List.set_cons_zero, List.set_cons_succ]
    have hM0x1 := hm
    refine wpAnyH_weakS (S' := fun u => True ∧ Box u w0.heap.size 5 (bc (List.replicate 256 0)).toArray) (fun u hu => by first | exact hu.1 | exact ⟨hu.1, hu.2.1⟩) ?_
    have hHeld : (fun u => True ∧ Box u w0.heap.size 5 (bc (List.replicate 256 0)).toArray) x1 := ⟨True.intro, hM0x1⟩
    refine take_run 1 29 (v := .string PZ) rfl rfl (by kernel_rfl) (by kernel_rfl) (by kernel_rfl) (fun _ _ _ h => hE _ _ _ _ _ h) (by rfl) (fun wq hSw => by have hcv := conv_lies (lies_box (N := fun _ => True) (n := 256) (hSw.2) trivial List.length_replicate); rw [HPZ.out] at hcv; go_simp; first | done | with_reducible rfl) (by assumption) ?_
    simp only [Act.put, List.setIfInBounds_toArray, List.set_cons_zero, List.set_cons_succ]
    clear hm hg
    clear hb
    refine wpAnyH_ready (rs := [2, 5]) (by kernel_rfl) (by simp) ?_
    refine AllReadyH.cons rfl (fun K hK => ?_) (AllReadyH.cons rfl (fun K hK => ?_) AllReadyH.nil)
    · refine step_make256 30 rfl rfl _ _ rfl rfl rfl (fun x2 hm hg => ?_)
      have hb : Below x1.heap.size x1 x2 := (Below.refl _ x1).grown hg (Nat.le_refl _) (fun k hk => by cases hk)
      have hPx2 : Below wr.heap.size wr x2 := hPx1.trans (hb.mono hPx1.size)
      have hM0x2 := Box.below hM0x1 hb hM0x1.lt
      refine hK.out _ _ ⟨True.intro, hM0x2⟩ (fun hHeld => ?_)
      clear hK K hHeld
      try simp only [Act.put, List.setIfInBounds_toArray, List.set_cons_zero, List.set_cons_succ]
      have hM1x2 := hm
      refine wpAnyH_weakS (S' := fun u => True ∧ Box u w0.heap.size 5 (bc (List.replicate 256 0)).toArray ∧ Box u x1.heap.size 5 (bc (List.replicate 256 0)).toArray) (fun u hu => by first | exact hu.1 | exact ⟨hu.1, hu.2.1⟩) ?_
      have hHeld : (fun u => True ∧ Box u w0.heap.size 5 (bc (List.replicate 256 0)).toArray ∧ Box u x1.heap.size 5 (bc (List.replicate 256 0)).toArray) x2 := ⟨True.intro, hM0x2, hM1x2⟩
      refine take_run 3 31 (v := .string PZ) rfl rfl (by kernel_rfl) (by kernel_rfl) (by kernel_rfl) (fun _ _ _ h => hE _ _ _ _ _ h) (by rfl) (fun wq hSw => by have hcv := conv_lies (lies_box (N := fun _ => True) (n := 256) (hSw.2.2) trivial List.length_replicate); rw [HPZ.out] at hcv; go_simp; first | done | with_reducible rfl) (by assumption) ?_
      simp only [Act.put, List.setIfInBounds_toArray, List.set_cons_zero, List.set_cons_succ]
      clear hm hg
      clear hb
      refine take_run 4 32 (v := .agg #[.string PZ, .string PZ]) rfl rfl (by kernel_rfl) (by kernel_rfl) (by kernel_rfl) (fun _ _ _ h => hE _ _ _ _ _ h) (by rfl) (fun wq hSw => by go_simp; first | done | with_reducible rfl) (by assumption) ?_
      simp only [Act.put, List.setIfInBounds_toArray, List.set_cons_zero, List.set_cons_succ]
      refine wpAnyH_ready (rs := [5]) (by kernel_rfl) (by simp) ?_
      refine AllReadyH.cons rfl (fun K hK => ?_) AllReadyH.nil
      · obtain ⟨x3, hwx3⟩ : ∃ x, x2.alloc (.cells #[.string ⟨#[]⟩, .string ⟨#[]⟩] 47) = x := ⟨_, rfl⟩
        have hb : Below x2.heap.size x2 x3 := by rw [← hwx3]; exact (Below.refl _ x2).alloc (Nat.le_refl _) _
        have hXx3 : Box x3 x2.heap.size 47 #[.string ⟨#[]⟩, .string ⟨#[]⟩] := by rw [← hwx3]; exact Box.made x2 _ _
        have hbx : wr.heap.size ≤ x2.heap.size := hPx2.size
        refine step_run (w' := x3) 9 (.pointer (some ⟨x2.heap.size, 0, none⟩)) rfl rfl (by rw [← hwx3]; go_simp; first | done | rfl) ?_
        have hPx3 : Below wr.heap.size wr x3 := hPx2.trans (hb.mono hPx2.size)
        have hlx30 : w0.heap.size < x2.heap.size := hM0x2.lt
        have hlx31 : x1.heap.size < x2.heap.size := hM1x2.lt
        have hM0x3 := Box.below hM0x2 hb hM0x2.lt
        have hM1x3 := Box.below hM1x2 hb hM1x2.lt
        refine hK.out _ _ ⟨True.intro, hM0x3, hM1x3⟩ (fun hHeld => ?_)
        clear hK K hHeld
        try simp only [Act.put, List.setIfInBounds_toArray, List.set_cons_zero, List.set_cons_succ]
        have hHeld : (fun u => True ∧ Box u w0.heap.size 5 (bc (List.replicate 256 0)).toArray ∧ Box u x1.heap.size 5 (bc (List.replicate 256 0)).toArray) x3 := ⟨True.intro, hM0x3, hM1x3⟩
        clear hb
        refine wpAnyH_ready (rs := [6]) (by kernel_rfl) (by simp) ?_
        refine AllReadyH.cons rfl (fun K hK => ?_) AllReadyH.nil
        refine step_store_within 47 _ _ rfl rfl (x2.heap.size) 0 #[.string PZ, .string PZ] rfl rfl 47 #[.string ⟨#[]⟩, .string ⟨#[]⟩] hXx3 (by simp) t47Info (by simp [Value.oneCell']) ?_
        obtain ⟨z4, hwz⟩ : ∃ x, x3.setRow (x2.heap.size) #[.string PZ, .string PZ] = x := ⟨_, rfl⟩
        have hmz : Box z4 (x2.heap.size) 47 #[.string PZ, .string PZ] := by rw [← hwz]; exact setRow_heap _ _ _ _ _ _ hXx3
        have hgz : x3.grownBy z4 (some (x2.heap.size)) := by rw [← hwz]; exact grown_row (grown_refl _ _) _
        have hbz : Below wr.heap.size wr z4 := below_grown hPx3 hgz hbx hPx3.size
        have hM0z4 := Box.grown hM0x3 hgz (by simp only [Option.some.injEq, ne_eq]; omega)
        have hM1z4 := Box.grown hM1x3 hgz (by simp only [Option.some.injEq, ne_eq]; omega)
        have hrw : ((#[.string ⟨#[]⟩, .string ⟨#[]⟩] : Array Value).toList.take 0 ++ (#[.string PZ, .string PZ] : Array Value).toList ++ (#[.string ⟨#[]⟩, .string ⟨#[]⟩] : Array Value).toList.drop (0 + (#[.string PZ, .string PZ] : Array Value).size)).toArray = #[.string PZ, .string PZ] := rfl
        rw [hrw, hwz]
        refine hK.out _ _ ⟨True.intro, hM0z4, hM1z4⟩ (fun hHeld => ?_)
        clear hK K
        try simp only [Act.put, List.setIfInBounds_toArray, List.set_cons_zero, List.set_cons_succ]
        refine wpAnyH_done (by kernel_rfl) ?_ _
        exact hK' _ _ _ _ _ _ _ hbx hbz hmz
    · obtain ⟨x5, hwx5⟩ : ∃ x, x1.alloc (.cells #[.string ⟨#[]⟩, .string ⟨#[]⟩] 47) = x := ⟨_, rfl⟩
      have hb : Below x1.heap.size x1 x5 := by rw [← hwx5]; exact (Below.refl _ x1).alloc (Nat.le_refl _) _
      have hXx5 : Box x5 x1.heap.size 47 #[.string ⟨#[]⟩, .string ⟨#[]⟩] := by rw [← hwx5]; exact Box.made x1 _ _
      have hbx : wr.heap.size ≤ x1.heap.size := hPx1.size
      refine step_run (w' := x5) 9 (.pointer (some ⟨x1.heap.size, 0, none⟩)) rfl rfl (by rw [← hwx5]; go_simp; first | done | rfl) ?_
      have hPx5 : Below wr.heap.size wr x5 := hPx1.trans (hb.mono hPx1.size)
      have hlx50 : w0.heap.size < x1.heap.size := hM0x1.lt
      have hM0x5 := Box.below hM0x1 hb hM0x1.lt
      refine hK.out _ _ ⟨True.intro, hM0x5⟩ (fun hHeld => ?_)
      clear hK K hHeld
      try simp only [Act.put, List.setIfInBounds_toArray, List.set_cons_zero, List.set_cons_succ]
      have hHeld : (fun u => True ∧ Box u w0.heap.size 5 (bc (List.replicate 256 0)).toArray) x5 := ⟨True.intro, hM0x5⟩
      clear hb
      refine wpAnyH_ready (rs := [2]) (by kernel_rfl) (by simp) ?_
      refine AllReadyH.cons rfl (fun K hK => ?_) AllReadyH.nil
      · refine step_make256 30 rfl rfl _ _ rfl rfl rfl (fun x6 hm hg => ?_)
        have hb : Below x5.heap.size x5 x6 := (Below.refl _ x5).grown hg (Nat.le_refl _) (fun k hk => by cases hk)
        have hPx6 : Below wr.heap.size wr x6 := hPx5.trans (hb.mono hPx5.size)
        have hXx6 := Box.below hXx5 hb hXx5.lt
        have hlx6 : x1.heap.size < x5.heap.size := hXx5.lt
        have hM0x6 := Box.below hM0x5 hb hM0x5.lt
        refine hK.out _ _ ⟨True.intro, hM0x6⟩ (fun hHeld => ?_)
        clear hK K hHeld
        try simp only [Act.put, List.setIfInBounds_toArray, List.set_cons_zero, List.set_cons_succ]
        have hM1x6 := hm
        refine wpAnyH_weakS (S' := fun u => True ∧ Box u w0.heap.size 5 (bc (List.replicate 256 0)).toArray ∧ Box u x5.heap.size 5 (bc (List.replicate 256 0)).toArray) (fun u hu => by first | exact hu.1 | exact ⟨hu.1, hu.2.1⟩) ?_
        have hHeld : (fun u => True ∧ Box u w0.heap.size 5 (bc (List.replicate 256 0)).toArray ∧ Box u x5.heap.size 5 (bc (List.replicate 256 0)).toArray) x6 := ⟨True.intro, hM0x6, hM1x6⟩
        refine take_run 3 31 (v := .string PZ) rfl rfl (by kernel_rfl) (by kernel_rfl) (by kernel_rfl) (fun _ _ _ h => hE _ _ _ _ _ h) (by rfl) (fun wq hSw => by have hcv := conv_lies (lies_box (N := fun _ => True) (n := 256) (hSw.2.2) trivial List.length_replicate); rw [HPZ.out] at hcv; go_simp; first | done | with_reducible rfl) (by assumption) ?_
        simp only [Act.put, List.setIfInBounds_toArray, List.set_cons_zero, List.set_cons_succ]
        clear hm hg
        clear hb
        refine take_run 4 32 (v := .agg #[.string PZ, .string PZ]) rfl rfl (by kernel_rfl) (by kernel_rfl) (by kernel_rfl) (fun _ _ _ h => hE _ _ _ _ _ h) (by rfl) (fun wq hSw => by go_simp; first | done | with_reducible rfl) (by assumption) ?_
        simp only [Act.put, List.setIfInBounds_toArray, List.set_cons_zero, List.set_cons_succ]
        refine wpAnyH_ready (rs := [6]) (by kernel_rfl) (by simp) ?_
        refine AllReadyH.cons rfl (fun K hK => ?_) AllReadyH.nil
        refine step_store_within 47 _ _ rfl rfl (x1.heap.size) 0 #[.string PZ, .string PZ] rfl rfl 47 #[.string ⟨#[]⟩, .string ⟨#[]⟩] hXx6 (by simp) t47Info (by simp [Value.oneCell']) ?_
        obtain ⟨z7, hwz⟩ : ∃ x, x6.setRow (x1.heap.size) #[.string PZ, .string PZ] = x := ⟨_, rfl⟩
        have hmz : Box z7 (x1.heap.size) 47 #[.string PZ, .string PZ] := by rw [← hwz]; exact setRow_heap _ _ _ _ _ _ hXx6
        have hgz : x6.grownBy z7 (some (x1.heap.size)) := by rw [← hwz]; exact grown_row (grown_refl _ _) _
        have hbz : Below wr.heap.size wr z7 := below_grown hPx6 hgz hbx hPx6.size
        have hM0z7 := Box.grown hM0x6 hgz (by simp only [Option.some.injEq, ne_eq]; omega)
        have hM1z7 := Box.grown hM1x6 hgz (by simp only [Option.some.injEq, ne_eq]; omega)
        have hrw : ((#[.string ⟨#[]⟩, .string ⟨#[]⟩] : Array Value).toList.take 0 ++ (#[.string PZ, .string PZ] : Array Value).toList ++ (#[.string ⟨#[]⟩, .string ⟨#[]⟩] : Array Value).toList.drop (0 + (#[.string PZ, .string PZ] : Array Value).size)).toArray = #[.string PZ, .string PZ] := rfl
        rw [hrw, hwz]
        refine hK.out _ _ ⟨True.intro, hM0z7, hM1z7⟩ (fun hHeld => ?_)
        clear hK K
        try simp only [Act.put, List.setIfInBounds_toArray, List.set_cons_zero, List.set_cons_succ]
        refine wpAnyH_done (by kernel_rfl) ?_ _
        exact hK' _ _ _ _ _ _ _ hbx hbz hmz
  · refine step_make256 30 rfl rfl _ _ rfl rfl rfl (fun x8 hm hg => ?_)
    have hb : Below w0.heap.size w0 x8 := (Below.refl _ w0).grown hg (Nat.le_refl _) (fun k hk => by cases hk)
    have hPx8 : Below wr.heap.size wr x8 := hPw0.trans (hb.mono hPw0.size)
    refine hK.out _ _ True.intro (fun hHeld => ?_)
    clear hK K hHeld
    try simp only [Act.put, List.setIfInBounds_toArray, List.set_cons_zero, List.set_cons_succ]
    have hM0x8 := hm
    refine wpAnyH_weakS (S' := fun u => True ∧ Box u w0.heap.size 5 (bc (List.replicate 256 0)).toArray) (fun u hu => by first | exact hu.1 | exact ⟨hu.1, hu.2.1⟩) ?_
    have hHeld : (fun u => True ∧ Box u w0.heap.size 5 (bc (List.replicate 256 0)).toArray) x8 := ⟨True.intro, hM0x8⟩
    refine take_run 3 31 (v := .string PZ) rfl rfl (by kernel_rfl) (by kernel_rfl) (by kernel_rfl) (fun _ _ _ h => hE _ _ _ _ _ h) (by rfl) (fun wq hSw => by have hcv := conv_lies (lies_box (N := fun _ => True) (n := 256) (hSw.2) trivial List.length_replicate); rw [HPZ.out] at hcv; go_simp; first | done | with_reducible rfl) (by assumption) ?_
    simp only [Act.put, List.setIfInBounds_toArray, List.set_cons_zero, List.set_cons_succ]
    clear hm hg
    clear hb
    refine wpAnyH_ready (rs := [0, 5]) (by kernel_rfl) (by simp) ?_
    refine AllReadyH.cons rfl (fun K hK => ?_) (AllReadyH.cons rfl (fun K hK => ?_) AllReadyH.nil)
    · refine step_make256 28 rfl rfl _ _ rfl rfl rfl (fun x9 hm hg => ?_)
      have hb : Below x8.heap.size x8 x9 := (Below.refl _ x8).grown hg (Nat.le_refl _) (fun k hk => by cases hk)
      have hPx9 : Below wr.heap.size wr x9 := hPx8.trans (hb.mono hPx8.size)
      have hM0x9 := Box.below hM0x8 hb hM0x8.lt
      refine hK.out _ _ ⟨True.intro, hM0x9⟩ (fun hHeld => ?_)
      clear hK K hHeld
      try simp only [Act.put, List.setIfInBounds_toArray, List.set_cons_zero, List.set_cons_succ]
      have hM1x9 := hm
      refine wpAnyH_weakS (S' := fun u => True ∧ Box u w0.heap.size 5 (bc (List.replicate 256 0)).toArray ∧ Box u x8.heap.size 5 (bc (List.replicate 256 0)).toArray) (fun u hu => by first | exact hu.1 | exact ⟨hu.1, hu.2.1⟩) ?_
      have hHeld : (fun u => True ∧ Box u w0.heap.size 5 (bc (List.replicate 256 0)).toArray ∧ Box u x8.heap.size 5 (bc (List.replicate 256 0)).toArray) x9 := ⟨True.intro, hM0x9, hM1x9⟩
      refine take_run 1 29 (v := .string PZ) rfl rfl (by kernel_rfl) (by kernel_rfl) (by kernel_rfl) (fun _ _ _ h => hE _ _ _ _ _ h) (by rfl) (fun wq hSw => by have hcv := conv_lies (lies_box (N := fun _ => True) (n := 256) (hSw.2.2) trivial List.length_replicate); rw [HPZ.out] at hcv; go_simp; first | done | with_reducible rfl) (by assumption) ?_
      simp only [Act.put, List.setIfInBounds_toArray, List.set_cons_zero, List.set_cons_succ]
      clear hm hg
      clear hb
      refine take_run 4 32 (v := .agg #[.string PZ, .string PZ]) rfl rfl (by kernel_rfl) (by kernel_rfl) (by kernel_rfl) (fun _ _ _ h => hE _ _ _ _ _ h) (by rfl) (fun wq hSw => by go_simp; first | done | with_reducible rfl) (by assumption) ?_
      simp only [Act.put, List.setIfInBounds_toArray, List.set_cons_zero, List.set_cons_succ]
      refine wpAnyH_ready (rs := [5]) (by kernel_rfl) (by simp) ?_
      refine AllReadyH.cons rfl (fun K hK => ?_) AllReadyH.nil
      · obtain ⟨x10, hwx10⟩ : ∃ x, x9.alloc (.cells #[.string ⟨#[]⟩, .string ⟨#[]⟩] 47) = x := ⟨_, rfl⟩
        have hb : Below x9.heap.size x9 x10 := by rw [← hwx10]; exact (Below.refl _ x9).alloc (Nat.le_refl _) _
        have hXx10 : Box x10 x9.heap.size 47 #[.string ⟨#[]⟩, .string ⟨#[]⟩] := by rw [← hwx10]; exact Box.made x9 _ _
        have hbx : wr.heap.size ≤ x9.heap.size := hPx9.size
        refine step_run (w' := x10) 9 (.pointer (some ⟨x9.heap.size, 0, none⟩)) rfl rfl (by rw [← hwx10]; go_simp; first | done | rfl) ?_
        have hPx10 : Below wr.heap.size wr x10 := hPx9.trans (hb.mono hPx9.size)
        have hlx100 : w0.heap.size < x9.heap.size := hM0x9.lt
        have hlx101 : x8.heap.size < x9.heap.size := hM1x9.lt
        have hM0x10 := Box.below hM0x9 hb hM0x9.lt
        have hM1x10 := Box.below hM1x9 hb hM1x9.lt
        refine hK.out _ _ ⟨True.intro, hM0x10, hM1x10⟩ (fun hHeld => ?_)
        clear hK K hHeld
        try simp only [Act.put, List.setIfInBounds_toArray, List.set_cons_zero, List.set_cons_succ]
        have hHeld : (fun u => True ∧ Box u w0.heap.size 5 (bc (List.replicate 256 0)).toArray ∧ Box u x8.heap.size 5 (bc (List.replicate 256 0)).toArray) x10 := ⟨True.intro, hM0x10, hM1x10⟩
        clear hb
        refine wpAnyH_ready (rs := [6]) (by kernel_rfl) (by simp) ?_
        refine AllReadyH.cons rfl (fun K hK => ?_) AllReadyH.nil
        refine step_store_within 47 _ _ rfl rfl (x9.heap.size) 0 #[.string PZ, .string PZ] rfl rfl 47 #[.string ⟨#[]⟩, .string ⟨#[]⟩] hXx10 (by simp) t47Info (by simp [Value.oneCell']) ?_
        obtain ⟨z11, hwz⟩ : ∃ x, x10.setRow (x9.heap.size) #[.string PZ, .string PZ] = x := ⟨_, rfl⟩
        have hmz : Box z11 (x9.heap.size) 47 #[.string PZ, .string PZ] := by rw [← hwz]; exact setRow_heap _ _ _ _ _ _ hXx10
        have hgz : x10.grownBy z11 (some (x9.heap.size)) := by rw [← hwz]; exact grown_row (grown_refl _ _) _
        have hbz : Below wr.heap.size wr z11 := below_grown hPx10 hgz hbx hPx10.size
        have hM0z11 := Box.grown hM0x10 hgz (by simp only [Option.some.injEq, ne_eq]; omega)
        have hM1z11 := Box.grown hM1x10 hgz (by simp only [Option.some.injEq, ne_eq]; omega)
        have hrw : ((#[.string ⟨#[]⟩, .string ⟨#[]⟩] : Array Value).toList.take 0 ++ (#[.string PZ, .string PZ] : Array Value).toList ++ (#[.string ⟨#[]⟩, .string ⟨#[]⟩] : Array Value).toList.drop (0 + (#[.string PZ, .string PZ] : Array Value).size)).toArray = #[.string PZ, .string PZ] := rfl
        rw [hrw, hwz]
        refine hK.out _ _ ⟨True.intro, hM0z11, hM1z11⟩ (fun hHeld => ?_)
        clear hK K
        try simp only [Act.put, List.setIfInBounds_toArray, List.set_cons_zero, List.set_cons_succ]
        refine wpAnyH_done (by kernel_rfl) ?_ _
        exact hK' _ _ _ _ _ _ _ hbx hbz hmz
    · obtain ⟨x12, hwx12⟩ : ∃ x, x8.alloc (.cells #[.string ⟨#[]⟩, .string ⟨#[]⟩] 47) = x := ⟨_, rfl⟩
      have hb : Below x8.heap.size x8 x12 := by rw [← hwx12]; exact (Below.refl _ x8).alloc (Nat.le_refl _) _
      have hXx12 : Box x12 x8.heap.size 47 #[.string ⟨#[]⟩, .string ⟨#[]⟩] := by rw [← hwx12]; exact Box.made x8 _ _
      have hbx : wr.heap.size ≤ x8.heap.size := hPx8.size
      refine step_run (w' := x12) 9 (.pointer (some ⟨x8.heap.size, 0, none⟩)) rfl rfl (by rw [← hwx12]; go_simp; first | done | rfl) ?_
      have hPx12 : Below wr.heap.size wr x12 := hPx8.trans (hb.mono hPx8.size)
      have hlx120 : w0.heap.size < x8.heap.size := hM0x8.lt
      have hM0x12 := Box.below hM0x8 hb hM0x8.lt
      refine hK.out _ _ ⟨True.intro, hM0x12⟩ (fun hHeld => ?_)
      clear hK K hHeld
      try simp only [Act.put, List.setIfInBounds_toArray, List.set_cons_zero, List.set_cons_succ]
      have hHeld : (fun u => True ∧ Box u w0.heap.size 5 (bc (List.replicate 256 0)).toArray) x12 := ⟨True.intro, hM0x12⟩
      clear hb
      refine wpAnyH_ready (rs := [0]) (by kernel_rfl) (by simp) ?_
      refine AllReadyH.cons rfl (fun K hK => ?_) AllReadyH.nil
      · refine step_make256 28 rfl rfl _ _ rfl rfl rfl (fun x13 hm hg => ?_)
        have hb : Below x12.heap.size x12 x13 := (Below.refl _ x12).grown hg (Nat.le_refl _) (fun k hk => by cases hk)
        have hPx13 : Below wr.heap.size wr x13 := hPx12.trans (hb.mono hPx12.size)
        have hXx13 := Box.below hXx12 hb hXx12.lt
        have hlx13 : x8.heap.size < x12.heap.size := hXx12.lt
        have hM0x13 := Box.below hM0x12 hb hM0x12.lt
        refine hK.out _ _ ⟨True.intro, hM0x13⟩ (fun hHeld => ?_)
        clear hK K hHeld
        try simp only [Act.put, List.setIfInBounds_toArray, List.set_cons_zero, List.set_cons_succ]
        have hM1x13 := hm
        refine wpAnyH_weakS (S' := fun u => True ∧ Box u w0.heap.size 5 (bc (List.replicate 256 0)).toArray ∧ Box u x12.heap.size 5 (bc (List.replicate 256 0)).toArray) (fun u hu => by first | exact hu.1 | exact ⟨hu.1, hu.2.1⟩) ?_
        have hHeld : (fun u => True ∧ Box u w0.heap.size 5 (bc (List.replicate 256 0)).toArray ∧ Box u x12.heap.size 5 (bc (List.replicate 256 0)).toArray) x13 := ⟨True.intro, hM0x13, hM1x13⟩
        refine take_run 1 29 (v := .string PZ) rfl rfl (by kernel_rfl) (by kernel_rfl) (by kernel_rfl) (fun _ _ _ h => hE _ _ _ _ _ h) (by rfl) (fun wq hSw => by have hcv := conv_lies (lies_box (N := fun _ => True) (n := 256) (hSw.2.2) trivial List.length_replicate); rw [HPZ.out] at hcv; go_simp; first | done | with_reducible rfl) (by assumption) ?_
        simp only [Act.put, List.setIfInBounds_toArray, List.set_cons_zero, List.set_cons_succ]
        clear hm hg
        clear hb
        refine take_run 4 32 (v := .agg #[.string PZ, .string PZ]) rfl rfl (by kernel_rfl) (by kernel_rfl) (by kernel_rfl) (fun _ _ _ h => hE _ _ _ _ _ h) (by rfl) (fun wq hSw => by go_simp; first | done | with_reducible rfl) (by assumption) ?_
        simp only [Act.put, List.setIfInBounds_toArray, List.set_cons_zero, List.set_cons_succ]
        refine wpAnyH_ready (rs := [6]) (by kernel_rfl) (by simp) ?_
        refine AllReadyH.cons rfl (fun K hK => ?_) AllReadyH.nil
        refine step_store_within 47 _ _ rfl rfl (x8.heap.size) 0 #[.string PZ, .string PZ] rfl rfl 47 #[.string ⟨#[]⟩, .string ⟨#[]⟩] hXx13 (by simp) t47Info (by simp [Value.oneCell']) ?_
        obtain ⟨z14, hwz⟩ : ∃ x, x13.setRow (x8.heap.size) #[.string PZ, .string PZ] = x := ⟨_, rfl⟩
        have hmz : Box z14 (x8.heap.size) 47 #[.string PZ, .string PZ] := by rw [← hwz]; exact setRow_heap _ _ _ _ _ _ hXx13
        have hgz : x13.grownBy z14 (some (x8.heap.size)) := by rw [← hwz]; exact grown_row (grown_refl _ _) _
        have hbz : Below wr.heap.size wr z14 := below_grown hPx13 hgz hbx hPx13.size
        have hM0z14 := Box.grown hM0x13 hgz (by simp only [Option.some.injEq, ne_eq]; omega)
        have hM1z14 := Box.grown hM1x13 hgz (by simp only [Option.some.injEq, ne_eq]; omega)
        have hrw : ((#[.string ⟨#[]⟩, .string ⟨#[]⟩] : Array Value).toList.take 0 ++ (#[.string PZ, .string PZ] : Array Value).toList ++ (#[.string ⟨#[]⟩, .string ⟨#[]⟩] : Array Value).toList.drop (0 + (#[.string PZ, .string PZ] : Array Value).size)).toArray = #[.string PZ, .string PZ] := rfl
        rw [hrw, hwz]
        refine hK.out _ _ ⟨True.intro, hM0z14, hM1z14⟩ (fun hHeld => ?_)
        clear hK K
        try simp only [Act.put, List.setIfInBounds_toArray, List.set_cons_zero, List.set_cons_succ]
        refine wpAnyH_done (by kernel_rfl) ?_ _
        exact hK' _ _ _ _ _ _ _ hbx hbz hmz
  · obtain ⟨x15, hwx15⟩ : ∃ x, w0.alloc (.cells #[.string ⟨#[]⟩, .string ⟨#[]⟩] 47) = x := ⟨_, rfl⟩
    have hb : Below w0.heap.size w0 x15 := by rw [← hwx15]; exact (Below.refl _ w0).alloc (Nat.le_refl _) _
    have hXx15 : Box x15 w0.heap.size 47 #[.string ⟨#[]⟩, .string ⟨#[]⟩] := by rw [← hwx15]; exact Box.made w0 _ _
    have hbx : wr.heap.size ≤ w0.heap.size := hPw0.size
    refine step_run (w' := x15) 9 (.pointer (some ⟨w0.heap.size, 0, none⟩)) rfl rfl (by rw [← hwx15]; go_simp; first | done | rfl) ?_
    have hPx15 : Below wr.heap.size wr x15 := hPw0.trans (hb.mono hPw0.size)
    refine hK.out _ _ True.intro (fun hHeld => ?_)
    clear hK K hHeld
    try simp only [Act.put, List.setIfInBounds_toArray, List.set_cons_zero, List.set_cons_succ]
    have hHeld : (fun u => True) x15 := True.intro
    clear hb
    refine wpAnyH_ready (rs := [0, 2]) (by kernel_rfl) (by simp) ?_
    refine AllReadyH.cons rfl (fun K hK => ?_) (AllReadyH.cons rfl (fun K hK => ?_) AllReadyH.nil)
    · refine step_make256 28 rfl rfl _ _ rfl rfl rfl (fun x16 hm hg => ?_)
      have hb : Below x15.heap.size x15 x16 := (Below.refl _ x15).grown hg (Nat.le_refl _) (fun k hk => by cases hk)
      have hPx16 : Below wr.heap.size wr x16 := hPx15.trans (hb.mono hPx15.size)
      have hXx16 := Box.below hXx15 hb hXx15.lt
      have hlx16 : w0.heap.size < x15.heap.size := hXx15.lt
      refine hK.out _ _ True.intro (fun hHeld => ?_)
      clear hK K hHeld
      try simp only [Act.put, List.setIfInBounds_toArray, List.set_cons_zero, List.set_cons_succ]
      have hM0x16 := hm
      refine wpAnyH_weakS (S' := fun u => True ∧ Box u x15.heap.size 5 (bc (List.replicate 256 0)).toArray) (fun u hu => by first | exact hu.1 | exact ⟨hu.1, hu.2.1⟩) ?_
      have hHeld : (fun u => True ∧ Box u x15.heap.size 5 (bc (List.replicate 256 0)).toArray) x16 := ⟨True.intro, hM0x16⟩
      refine take_run 1 29 (v := .string PZ) rfl rfl (by kernel_rfl) (by kernel_rfl) (by kernel_rfl) (fun _ _ _ h => hE _ _ _ _ _ h) (by rfl) (fun wq hSw => by have hcv := conv_lies (lies_box (N := fun _ => True) (n := 256) (hSw.2) trivial List.length_replicate); rw [HPZ.out] at hcv; go_simp; first | done | with_reducible rfl) (by assumption) ?_
      simp only [Act.put, List.setIfInBounds_toArray, List.set_cons_zero, List.set_cons_succ]
      clear hm hg
      clear hb
      refine wpAnyH_ready (rs := [2]) (by kernel_rfl) (by simp) ?_
      refine AllReadyH.cons rfl (fun K hK => ?_) AllReadyH.nil
      · refine step_make256 30 rfl rfl _ _ rfl rfl rfl (fun x17 hm hg => ?_)
        have hb : Below x16.heap.size x16 x17 := (Below.refl _ x16).grown hg (Nat.le_refl _) (fun k hk => by cases hk)
        have hPx17 : Below wr.heap.size wr x17 := hPx16.trans (hb.mono hPx16.size)
        have hXx17 := Box.below hXx16 hb hXx16.lt
        have hlx17 : w0.heap.size < x16.heap.size := hXx16.lt
        have hM0x17 := Box.below hM0x16 hb hM0x16.lt
        refine hK.out _ _ ⟨True.intro, hM0x17⟩ (fun hHeld => ?_)
        clear hK K hHeld
        try simp only [Act.put, List.setIfInBounds_toArray, List.set_cons_zero, List.set_cons_succ]
        have hM1x17 := hm
        refine wpAnyH_weakS (S' := fun u => True ∧ Box u x15.heap.size 5 (bc (List.replicate 256 0)).toArray ∧ Box u x16.heap.size 5 (bc (List.replicate 256 0)).toArray) (fun u hu => by first | exact hu.1 | exact ⟨hu.1, hu.2.1⟩) ?_
        have hHeld : (fun u => True ∧ Box u x15.heap.size 5 (bc (List.replicate 256 0)).toArray ∧ Box u x16.heap.size 5 (bc (List.replicate 256 0)).toArray) x17 := ⟨True.intro, hM0x17, hM1x17⟩
        refine take_run 3 31 (v := .string PZ) rfl rfl (by kernel_rfl) (by kernel_rfl) (by kernel_rfl) (fun _ _ _ h => hE _ _ _ _ _ h) (by rfl) (fun wq hSw => by have hcv := conv_lies (lies_box (N := fun _ => True) (n := 256) (hSw.2.2) trivial List.length_replicate); rw [HPZ.out] at hcv; go_simp; first | done | with_reducible rfl) (by assumption) ?_
        simp only [Act.put, List.setIfInBounds_toArray, List.set_cons_zero, List.set_cons_succ]
        clear hm hg
        clear hb
        refine take_run 4 32 (v := .agg #[.string PZ, .string PZ]) rfl rfl (by kernel_rfl) (by kernel_rfl) (by kernel_rfl) (fun _ _ _ h => hE _ _ _ _ _ h) (by rfl) (fun wq hSw => by go_simp; first | done | with_reducible rfl) (by assumption) ?_
        simp only [Act.put, List.setIfInBounds_toArray, List.set_cons_zero, List.set_cons_succ]
        refine wpAnyH_ready (rs := [6]) (by kernel_rfl) (by simp) ?_
        refine AllReadyH.cons rfl (fun K hK => ?_) AllReadyH.nil
        refine step_store_within 47 _ _ rfl rfl (w0.heap.size) 0 #[.string PZ, .string PZ] rfl rfl 47 #[.string ⟨#[]⟩, .string ⟨#[]⟩] hXx17 (by simp) t47Info (by simp [Value.oneCell']) ?_
        obtain ⟨z18, hwz⟩ : ∃ x, x17.setRow (w0.heap.size) #[.string PZ, .string PZ] = x := ⟨_, rfl⟩
        have hmz : Box z18 (w0.heap.size) 47 #[.string PZ, .string PZ] := by rw [← hwz]; exact setRow_heap _ _ _ _ _ _ hXx17
        have hgz : x17.grownBy z18 (some (w0.heap.size)) := by rw [← hwz]; exact grown_row (grown_refl _ _) _
        have hbz : Below wr.heap.size wr z18 := below_grown hPx17 hgz hbx hPx17.size
        have hM0z18 := Box.grown hM0x17 hgz (by simp only [Option.some.injEq, ne_eq]; omega)
        have hM1z18 := Box.grown hM1x17 hgz (by simp only [Option.some.injEq, ne_eq]; omega)
        have hrw : ((#[.string ⟨#[]⟩, .string ⟨#[]⟩] : Array Value).toList.take 0 ++ (#[.string PZ, .string PZ] : Array Value).toList ++ (#[.string ⟨#[]⟩, .string ⟨#[]⟩] : Array Value).toList.drop (0 + (#[.string PZ, .string PZ] : Array Value).size)).toArray = #[.string PZ, .string PZ] := rfl
        rw [hrw, hwz]
        refine hK.out _ _ ⟨True.intro, hM0z18, hM1z18⟩ (fun hHeld => ?_)
        clear hK K
        try simp only [Act.put, List.setIfInBounds_toArray, List.set_cons_zero, List.set_cons_succ]
        refine wpAnyH_done (by kernel_rfl) ?_ _
        exact hK' _ _ _ _ _ _ _ hbx hbz hmz
    · refine step_make256 30 rfl rfl _ _ rfl rfl rfl (fun x19 hm hg => ?_)
      have hb : Below x15.heap.size x15 x19 := (Below.refl _ x15).grown hg (Nat.le_refl _) (fun k hk => by cases hk)
      have hPx19 : Below wr.heap.size wr x19 := hPx15.trans (hb.mono hPx15.size)
      have hXx19 := Box.below hXx15 hb hXx15.lt
      have hlx19 : w0.heap.size < x15.heap.size := hXx15.lt
      refine hK.out _ _ True.intro (fun hHeld => ?_)
      clear hK K hHeld
      try simp only [Act.put, List.setIfInBounds_toArray, List.set_cons_zero, List.set_cons_succ]
      have hM0x19 := hm
      refine wpAnyH_weakS (S' := fun u => True ∧ Box u x15.heap.size 5 (bc (List.replicate 256 0)).toArray) (fun u hu => by first | exact hu.1 | exact ⟨hu.1, hu.2.1⟩) ?_
      have hHeld : (fun u => True ∧ Box u x15.heap.size 5 (bc (List.replicate 256 0)).toArray) x19 := ⟨True.intro, hM0x19⟩
      refine take_run 3 31 (v := .string PZ) rfl rfl (by kernel_rfl) (by kernel_rfl) (by kernel_rfl) (fun _ _ _ h => hE _ _ _ _ _ h) (by rfl) (fun wq hSw => by have hcv := conv_lies (lies_box (N := fun _ => True) (n := 256) (hSw.2) trivial List.length_replicate); rw [HPZ.out] at hcv; go_simp; first | done | with_reducible rfl) (by assumption) ?_
      simp only [Act.put, List.setIfInBounds_toArray, List.set_cons_zero, List.set_cons_succ]
      clear hm hg
      clear hb
      refine wpAnyH_ready (rs := [0]) (by kernel_rfl) (by simp) ?_
      refine AllReadyH.cons rfl (fun K hK => ?_) AllReadyH.nil
      · refine step_make256 28 rfl rfl _ _ rfl rfl rfl (fun x20 hm hg => ?_)
        have hb : Below x19.heap.size x19 x20 := (Below.refl _ x19).grown hg (Nat.le_refl _) (fun k hk => by cases hk)
        have hPx20 : Below wr.heap.size wr x20 := hPx19.trans (hb.mono hPx19.size)
        have hXx20 := Box.below hXx19 hb hXx19.lt
        have hlx20 : w0.heap.size < x19.heap.size := hXx19.lt
        have hM0x20 := Box.below hM0x19 hb hM0x19.lt
        refine hK.out _ _ ⟨True.intro, hM0x20⟩ (fun hHeld => ?_)
        clear hK K hHeld
        try simp only [Act.put, List.setIfInBounds_toArray, List.set_cons_zero, List.set_cons_succ]
        have hM1x20 := hm
        refine wpAnyH_weakS (S' := fun u => True ∧ Box u x15.heap.size 5 (bc (List.replicate 256 0)).toArray ∧ Box u x19.heap.size 5 (bc (List.replicate 256 0)).toArray) (fun u hu => by first | exact hu.1 | exact ⟨hu.1, hu.2.1⟩) ?_
        have hHeld : (fun u => True ∧ Box u x15.heap.size 5 (bc (List.replicate 256 0)).toArray ∧ Box u x19.heap.size 5 (bc (List.replicate 256 0)).toArray) x20 := ⟨True.intro, hM0x20, hM1x20⟩
        refine take_run 1 29 (v := .string PZ) rfl rfl (by kernel_rfl) (by kernel_rfl) (by kernel_rfl) (fun _ _ _ h => hE _ _ _ _ _ h) (by rfl) (fun wq hSw => by have hcv := conv_lies (lies_box (N := fun _ => True) (n := 256) (hSw.2.2) trivial List.length_replicate); rw [HPZ.out] at hcv; go_simp; first | done | with_reducible rfl) (by assumption) ?_
        simp only [Act.put, List.setIfInBounds_toArray, List.set_cons_zero, List.set_cons_succ]
        clear hm hg
        clear hb
        refine take_run 4 32 (v := .agg #[.string PZ, .string PZ]) rfl rfl (by kernel_rfl) (by kernel_rfl) (by kernel_rfl) (fun _ _ _ h => hE _ _ _ _ _ h) (by rfl) (fun wq hSw => by go_simp; first | done | with_reducible rfl) (by assumption) ?_
        simp only [Act.put, List.setIfInBounds_toArray, List.set_cons_zero, List.set_cons_succ]
        refine wpAnyH_ready (rs := [6]) (by kernel_rfl) (by simp) ?_
        refine AllReadyH.cons rfl (fun K hK => ?_) AllReadyH.nil
        refine step_store_within 47 _ _ rfl rfl (w0.heap.size) 0 #[.string PZ, .string PZ] rfl rfl 47 #[.string ⟨#[]⟩, .string ⟨#[]⟩] hXx20 (by simp) t47Info (by simp [Value.oneCell']) ?_
        obtain ⟨z21, hwz⟩ : ∃ x, x20.setRow (w0.heap.size) #[.string PZ, .string PZ] = x := ⟨_, rfl⟩
        have hmz : Box z21 (w0.heap.size) 47 #[.string PZ, .string PZ] := by rw [← hwz]; exact setRow_heap _ _ _ _ _ _ hXx20
        have hgz : x20.grownBy z21 (some (w0.heap.size)) := by rw [← hwz]; exact grown_row (grown_refl _ _) _
        have hbz : Below wr.heap.size wr z21 := below_grown hPx20 hgz hbx hPx20.size
        have hM0z21 := Box.grown hM0x20 hgz (by simp only [Option.some.injEq, ne_eq]; omega)
        have hM1z21 := Box.grown hM1x20 hgz (by simp only [Option.some.injEq, ne_eq]; omega)
        have hrw : ((#[.string ⟨#[]⟩, .string ⟨#[]⟩] : Array Value).toList.take 0 ++ (#[.string PZ, .string PZ] : Array Value).toList ++ (#[.string ⟨#[]⟩, .string ⟨#[]⟩] : Array Value).toList.drop (0 + (#[.string PZ, .string PZ] : Array Value).size)).toArray = #[.string PZ, .string PZ] := rfl
        rw [hrw, hwz]
        refine hK.out _ _ ⟨True.intro, hM0z21, hM1z21⟩ (fun hHeld => ?_)
        clear hK K
        try simp only [Act.put, List.setIfInBounds_toArray, List.set_cons_zero, List.set_cons_succ]
        refine wpAnyH_done (by kernel_rfl) ?_ _
        exact hK' _ _ _ _ _ _ _ hbx hbz hmz
end Go.Proofs.Ythpfdenpgegheaa
