/-
  SuperTurns: the region that makes the next head.
-/
import Derived.Test.YthpfdenpgegheaaOneSu
import Derived.Test.YthpfdenpgegheaaOpenL
namespace Go.Proofs.Ythpfdenpgegheaa
open Go.RowKit

set_option linter.unusedVariables false
set_option linter.unusedSimpArgs false
theorem and_bits (n : Int) (m : Nat) (k : Nat) (hm : (BitVec.ofInt 64 (m : Int)).toNat = 2 ^ k - 1) (hk : k ≤ 62) : bits .and .i64 n (m : Int) = n % 2 ^ k := by
  have key : (BitVec.ofInt 64 n &&& BitVec.ofInt 64 (m : Int)).toNat = (n % ((2 ^ 64 : Nat) : Int)).toNat % 2 ^ k := by
    rw [BitVec.toNat_and, BitVec.toNat_ofInt, hm, Nat.and_two_pow_sub_one_eq_mod]
  show IntKind.i64.wrap ((BitVec.ofInt 64 n &&& BitVec.ofInt 64 (m : Int)).toNat : Nat) = n % 2 ^ k
  have h1 : (2 : Nat) ^ k ≤ 2 ^ 62 := Nat.pow_le_pow_right (by omega) hk
  have hd : ((2 ^ k : Nat) : Int) ∣ ((2 ^ 64 : Nat) : Int) := by
    rw [show (64 : Nat) = k + (64 - k) by omega, Nat.pow_add]
    exact Int.natCast_dvd_natCast.2 (Nat.dvd_mul_right _ _)
  have h2 : 0 < 2 ^ k := Nat.two_pow_pos k
  have h3 := Nat.mod_lt (n % ((2 ^ 64 : Nat) : Int)).toNat h2
  have h4 : (((n % ((2 ^ 64 : Nat) : Int)).toNat % 2 ^ k : Nat) : Int) = n % ((2 ^ k : Nat) : Int) := by
    rw [Int.natCast_emod, Int.toNat_of_nonneg (Int.emod_nonneg _ (by decide)), Int.emod_emod_of_dvd _ hd]
  rw [key, IntWalk.i64_in _ (by omega), h4]
  norm_cast
theorem and7 (n : Int) : bits .and .i64 n 7 = n % 8 := and_bits n 7 3 (by decide) (by omega)
theorem and31 (n : Int) : bits .and .i64 n 31 = n % 32 := and_bits n 31 5 (by decide) (by omega)
theorem and3 (n : Int) : bits .and .i64 n 3 = n % 4 := and_bits n 3 2 (by decide) (by omega)
/-- One region's code. -/
def findRegS (k : Nat) : Code → Option Code
  | .region i ops d => if i = k then some (.region i ops d) else none
  | .block _ c => findRegS k c
  | .loop c => findRegS k c
  | .scope c => findRegS k c
  | .seq a b => match findRegS k a with
    | some c => some c
    | none => findRegS k b
  | .cond _ a b => match findRegS k a with
    | some c => some c
    | none => findRegS k b
  | _ => none
noncomputable def turnsR10 : Code := (Try.f6.body.bind (findRegS 10)).getD .skip
/-- The next head. -/
def nextHd (g s : Nat) (z : Int) (hg : g ≤ 1000000) (hs : s ≤ 1000000) : Hd :=
  ⟨g + 1, 1 + (z % 8).toNat, ((z / 8 % 32).toNat % 20 : Nat), s + (z / 256 % 4).toNat, 20, by omega, by omega, by omega, by omega, by omega⟩
set_option maxRecDepth 100000 in
set_option maxHeartbeats 16000000 in
theorem turns_r10 (wr : World) (b7 b o n c i g s : Nat) (z : Int) (hg : g ≤ 1000000) (hs : s ≤ 1000000) (hi : i < n)
    (h0 : wr.cell? ⟨b7, 0, none⟩ = some (.int .u64 (g : Int))) (h3 : wr.cell? ⟨b7, 3, none⟩ = some (.int .u64 (s : Int))) (hz : wr.cell? ⟨b, o + i * 3 + 2, none⟩ = some (.int .i64 z)) (hb7 : b7 < wr.heap.size) (hb : b < wr.heap.size)
    {v1 v2 v3 v4 v5 v6 v9 v10 v11 v12 v13 v14 v15 v16 v17 v18 v19 v20 v21 v22 v23 v24 v25 v26 v27 v28 v29 v30 v31 v32 v33 v34 v35 v36 v37 v38 v39 v40 v41 v42 v43 v44 v45 v46 v47 v48 v49 v50 v51 v52 v53 v54 v55 v56 v57 v58 v59 v60 v61 v62 v63 v64 v65 v66 v67 v68 v69 v70 v71 v72 v73 v74 v75 v76 v77 v78 v79 v80 v81 v82 v83 v84 v85 v86 v87 v88 v89 v90 v91 v92 v93 v94 v95 v96 v97 v98 v99 v100 v101 v102 v103 v104 v105 v106 v107 v108 v109 v110 v111 v112 v113 v114 v115 v116 v117 v118 v119 v120 v121 v122 v123 v124 v125 v126 v127 : Value} (E : Exit → Act → World → Prop) (hE : ∀ ch k v (a : Act) w', E (.panic ch) (a.put (some k) v) w' → E (.panic ch) a w') (K' : Act → World → Prop)
    (hK' : ∀ (u41 u42 u43 u44 u45 u46 u47 u48 u49 u50 u51 u52 u53 u54 u55 u56 u57 u58 u59 u60 u61 u62 u63 u64 u65 u66 u67 u68 u69 u70 u71 : Value) (w' : World), Below wr.heap.size wr w' → Box w' wr.heap.size 43 (hv (nextHd g s z hg hs)) → K' ⟨#[(.slice (some ⟨b, o, none⟩) n c), v1, v2, v3, v4, v5, v6, (.pointer (some ⟨b7, 0, none⟩)), (.int .i64 (i : Int)), (.pointer (some ⟨wr.heap.size, 0, none⟩)), v10, v11, v12, v13, v14, v15, v16, v17, v18, v19, v20, v21, v22, v23, v24, v25, v26, v27, v28, v29, v30, v31, v32, v33, v34, v35, v36, v37, v38, v39, v40, u41, u42, u43, u44, u45, u46, u47, u48, u49, u50, u51, u52, u53, u54, u55, u56, u57, u58, u59, u60, u61, u62, u63, u64, u65, u66, u67, u68, u69, u70, u71, v72, v73, v74, v75, v76, v77, v78, v79, v80, v81, v82, v83, v84, v85, v86, v87, v88, v89, v90, v91, v92, v93, v94, v95, v96, v97, v98, v99, v100, v101, v102, v103, v104, v105, v106, v107, v108, v109, v110, v111, v112, v113, v114, v115, v116, v117, v118, v119, v120, v121, v122, v123, v124, v125, v126, v127], []⟩ w') :
    Code.wp Try.prog turnsR10 (Exit.then K' E) ⟨#[(.slice (some ⟨b, o, none⟩) n c), v1, v2, v3, v4, v5, v6, (.pointer (some ⟨b7, 0, none⟩)), (.int .i64 (i : Int)), v9, v10, v11, v12, v13, v14, v15, v16, v17, v18, v19, v20, v21, v22, v23, v24, v25, v26, v27, v28, v29, v30, v31, v32, v33, v34, v35, v36, v37, v38, v39, v40, v41, v42, v43, v44, v45, v46, v47, v48, v49, v50, v51, v52, v53, v54, v55, v56, v57, v58, v59, v60, v61, v62, v63, v64, v65, v66, v67, v68, v69, v70, v71, v72, v73, v74, v75, v76, v77, v78, v79, v80, v81, v82, v83, v84, v85, v86, v87, v88, v89, v90, v91, v92, v93, v94, v95, v96, v97, v98, v99, v100, v101, v102, v103, v104, v105, v106, v107, v108, v109, v110, v111, v112, v113, v114, v115, v116, v117, v118, v119, v120, v121, v122, v123, v124, v125, v126, v127], []⟩ wr := by
  conv => arg 2; whnf
  have c0 := cell_grows (p := ⟨b7, 0, none⟩) hb7 h0
  have c3 := cell_grows (p := ⟨b7, 3, none⟩) hb7 h3
  have cz := cell_grows (p := ⟨b, o + i * 3 + 2, none⟩) hb hz
  obtain ⟨e, he⟩ : ∃ e : Nat, (z % 8).toNat = e := ⟨_, rfl⟩
  obtain ⟨x3, hx3⟩ : ∃ x, z / 8 = x := ⟨_, rfl⟩
  obtain ⟨q, hq⟩ : ∃ e : Nat, (x3 % 32).toNat = e := ⟨_, rfl⟩
  obtain ⟨x8, hx8⟩ : ∃ x, z / 256 = x := ⟨_, rfl⟩
  obtain ⟨f, hf⟩ : ∃ e : Nat, (x8 % 4).toNat = e := ⟨_, rfl⟩
  have HN := Lib.hid (show hv (nextHd g s z hg hs) = #[.int .u64 ((g : Int) + 1), .int .u64 (1 + (e : Int)), .int .i64 ((q : Int) % 20), .int .u64 ((s : Int) + (f : Int)), .int .i64 20] by
    simp only [nextHd, hv, he, hx3, hq, hx8, hf]
    congr)
  have r1 : bits .and .i64 z 7 = (e : Int) := by rw [and7]; omega
  have r2 : bits .and .i64 x3 31 = (q : Int) := by rw [and31]; omega
  have r3 : bits .and .i64 x8 3 = (f : Int) := by rw [and3]; omega
  have b1 : e ≤ 7 := by omega
  have b2 : q ≤ 31 := by omega
  have b3 : f ≤ 3 := by omega
  have w1 : IntKind.u64.wrap ((g : Int) + 1) = (g : Int) + 1 := by rw [IntKind.wrap_u64]; omega
  have w2 : IntKind.u64.wrap (e : Int) = (e : Int) := by rw [IntKind.wrap_u64]; omega
  have w3 : IntKind.u64.wrap (1 + (e : Int)) = 1 + (e : Int) := by rw [IntKind.wrap_u64]; omega
  have w4 : IntKind.u64.wrap (f : Int) = (f : Int) := by rw [IntKind.wrap_u64]; omega
  have w5 : IntKind.u64.wrap ((s : Int) + (f : Int)) = (s : Int) + (f : Int) := by rw [IntKind.wrap_u64]; omega
  have q1 : (q : Int).tmod 20 = (q : Int) % 20 := Int.tmod_eq_emod_of_nonneg (by omega)
  have d3 : z.fdiv (2 ^ 3) = x3 := by rw [← hx3, Int.fdiv_eq_ediv_of_nonneg _ (by decide)]; rfl
  have d8 : z.fdiv (2 ^ 8) = x8 := by rw [← hx8, Int.fdiv_eq_ediv_of_nonneg _ (by decide)]; rfl
  have d3' : z / 2 ^ 3 = x3 := hx3
  have d8' : z / 2 ^ 8 = x8 := hx8
  have hi' : (i : Int) < (n : Int) := by omega
  clear he hq hf h0 h3 hz
  refine wp_region_held_drew (S := fun u => ∃ p : Grows wr, u = p.val) (by kernel_rfl) ⟨⟨wr.drew, (Below.refl _ wr).drew⟩, rfl⟩ (fun hHeld => ?_)
  refine take_run 0 41 (v := ?_) rfl rfl (by kernel_rfl) (by kernel_rfl) (by kernel_rfl) (fun _ _ _ h => hE _ _ _ _ _ h) (by rfl) ?_ (by assumption) ?_
  rotate_left
  · (intro wq hSw; obtain ⟨pq, rfl⟩ := hSw; go_simp; first | done | with_reducible rfl)
  simp only [Act.put, List.setIfInBounds_toArray, List.set_cons_zero, List.set_cons_succ]
  refine take_run 1 42 (v := ?_) rfl rfl (by kernel_rfl) (by kernel_rfl) (by kernel_rfl) (fun _ _ _ h => hE _ _ _ _ _ h) (by rfl) ?_ (by assumption) ?_
  rotate_left
  · (intro wq hSw; obtain ⟨pq, rfl⟩ := hSw; go_simp; first | done | with_reducible rfl)
  simp only [Act.put, List.setIfInBounds_toArray, List.set_cons_zero, List.set_cons_succ]
  refine take_run 2 43 (v := ?_) rfl rfl (by kernel_rfl) (by kernel_rfl) (by kernel_rfl) (fun _ _ _ h => hE _ _ _ _ _ h) (by rfl) ?_ (by assumption) ?_
  rotate_left
  · (intro wq hSw; obtain ⟨pq, rfl⟩ := hSw; go_simp; first | done | with_reducible rfl)
  simp only [Act.put, List.setIfInBounds_toArray, List.set_cons_zero, List.set_cons_succ]
  refine take_run 3 44 (v := ?_) rfl rfl (by kernel_rfl) (by kernel_rfl) (by kernel_rfl) (fun _ _ _ h => hE _ _ _ _ _ h) (by rfl) ?_ (by assumption) ?_
  rotate_left
  · (intro wq hSw; obtain ⟨pq, rfl⟩ := hSw; go_simp; first | done | with_reducible rfl)
  simp only [Act.put, List.setIfInBounds_toArray, List.set_cons_zero, List.set_cons_succ]
  refine take_run 4 45 (v := ?_) rfl rfl (by kernel_rfl) (by kernel_rfl) (by kernel_rfl) (fun _ _ _ h => hE _ _ _ _ _ h) (by rfl) ?_ (by assumption) ?_
  rotate_left
  · (intro wq hSw; obtain ⟨pq, rfl⟩ := hSw; go_simp; first | done | with_reducible rfl)
  simp only [Act.put, List.setIfInBounds_toArray, List.set_cons_zero, List.set_cons_succ]
  refine take_run 5 46 (v := ?_) rfl rfl (by kernel_rfl) (by kernel_rfl) (by kernel_rfl) (fun _ _ _ h => hE _ _ _ _ _ h) (by rfl) ?_ (by assumption) ?_
  rotate_left
  · (intro wq hSw; obtain ⟨pq, rfl⟩ := hSw; go_simp; first | done | with_reducible rfl)
  simp only [Act.put, List.setIfInBounds_toArray, List.set_cons_zero, List.set_cons_succ]
  refine take_run 6 47 (v := ?_) rfl rfl (by kernel_rfl) (by kernel_rfl) (by kernel_rfl) (fun _ _ _ h => hE _ _ _ _ _ h) (by rfl) ?_ (by assumption) ?_
  rotate_left
  · (intro wq hSw; obtain ⟨pq, rfl⟩ := hSw; go_simp; first | done | with_reducible rfl)
  simp only [Act.put, List.setIfInBounds_toArray, List.set_cons_zero, List.set_cons_succ]
  refine take_run 7 48 (v := ?_) rfl rfl (by kernel_rfl) (by kernel_rfl) (by kernel_rfl) (fun _ _ _ h => hE _ _ _ _ _ h) (by rfl) ?_ (by assumption) ?_
  rotate_left
  · (intro wq hSw; obtain ⟨pq, rfl⟩ := hSw; go_simp; first | done | with_reducible rfl)
  simp only [Act.put, List.setIfInBounds_toArray, List.set_cons_zero, List.set_cons_succ]
  refine take_run 8 49 (v := ?_) rfl rfl (by kernel_rfl) (by kernel_rfl) (by kernel_rfl) (fun _ _ _ h => hE _ _ _ _ _ h) (by rfl) ?_ (by assumption) ?_
  rotate_left
  · (intro wq hSw; obtain ⟨pq, rfl⟩ := hSw; go_simp; first | done | with_reducible rfl)
  simp only [Act.put, List.setIfInBounds_toArray, List.set_cons_zero, List.set_cons_succ]
  refine take_run 9 50 (v := ?_) rfl rfl (by kernel_rfl) (by kernel_rfl) (by kernel_rfl) (fun _ _ _ h => hE _ _ _ _ _ h) (by rfl) ?_ (by assumption) ?_
  rotate_left
  · (intro wq hSw; obtain ⟨pq, rfl⟩ := hSw; go_simp; first | done | with_reducible rfl)
  simp only [Act.put, List.setIfInBounds_toArray, List.set_cons_zero, List.set_cons_succ]
  refine take_run 10 51 (v := ?_) rfl rfl (by kernel_rfl) (by kernel_rfl) (by kernel_rfl) (fun _ _ _ h => hE _ _ _ _ _ h) (by rfl) ?_ (by assumption) ?_
  rotate_left
  · (intro wq hSw; obtain ⟨pq, rfl⟩ := hSw; go_simp; first | done | with_reducible rfl)
  simp only [Act.put, List.setIfInBounds_toArray, List.set_cons_zero, List.set_cons_succ]
  refine take_run 11 52 (v := ?_) rfl rfl (by kernel_rfl) (by kernel_rfl) (by kernel_rfl) (fun _ _ _ h => hE _ _ _ _ _ h) (by rfl) ?_ (by assumption) ?_
  rotate_left
  · (intro wq hSw; obtain ⟨pq, rfl⟩ := hSw; go_simp; first | done | with_reducible rfl)
  simp only [Act.put, List.setIfInBounds_toArray, List.set_cons_zero, List.set_cons_succ]
  refine take_run 12 53 (v := ?_) rfl rfl (by kernel_rfl) (by kernel_rfl) (by kernel_rfl) (fun _ _ _ h => hE _ _ _ _ _ h) (by rfl) ?_ (by assumption) ?_
  rotate_left
  · (intro wq hSw; obtain ⟨pq, rfl⟩ := hSw; go_simp; first | done | with_reducible rfl)
  simp only [Act.put, List.setIfInBounds_toArray, List.set_cons_zero, List.set_cons_succ]
  refine take_run 13 54 (v := ?_) rfl rfl (by kernel_rfl) (by kernel_rfl) (by kernel_rfl) (fun _ _ _ h => hE _ _ _ _ _ h) (by rfl) ?_ (by assumption) ?_
  rotate_left
  · (intro wq hSw; obtain ⟨pq, rfl⟩ := hSw; go_simp; first | done | with_reducible rfl)
  simp only [Act.put, List.setIfInBounds_toArray, List.set_cons_zero, List.set_cons_succ]
  refine take_run 14 55 (v := ?_) rfl rfl (by kernel_rfl) (by kernel_rfl) (by kernel_rfl) (fun _ _ _ h => hE _ _ _ _ _ h) (by rfl) ?_ (by assumption) ?_
  rotate_left
  · (intro wq hSw; obtain ⟨pq, rfl⟩ := hSw; go_simp; first | done | with_reducible rfl)
  simp only [Act.put, List.setIfInBounds_toArray, List.set_cons_zero, List.set_cons_succ]
  refine take_run 15 56 (v := ?_) rfl rfl (by kernel_rfl) (by kernel_rfl) (by kernel_rfl) (fun _ _ _ h => hE _ _ _ _ _ h) (by rfl) ?_ (by assumption) ?_
  rotate_left
  · (intro wq hSw; obtain ⟨pq, rfl⟩ := hSw; go_simp; first | done | with_reducible rfl)
  simp only [Act.put, List.setIfInBounds_toArray, List.set_cons_zero, List.set_cons_succ]
  refine take_run 16 57 (v := ?_) rfl rfl (by kernel_rfl) (by kernel_rfl) (by kernel_rfl) (fun _ _ _ h => hE _ _ _ _ _ h) (by rfl) ?_ (by assumption) ?_
  rotate_left
  · (intro wq hSw; obtain ⟨pq, rfl⟩ := hSw; go_simp; first | done | with_reducible rfl)
  simp only [Act.put, List.setIfInBounds_toArray, List.set_cons_zero, List.set_cons_succ]
  refine take_run 17 58 (v := ?_) rfl rfl (by kernel_rfl) (by kernel_rfl) (by kernel_rfl) (fun _ _ _ h => hE _ _ _ _ _ h) (by rfl) ?_ (by assumption) ?_
  rotate_left
  · (intro wq hSw; obtain ⟨pq, rfl⟩ := hSw; go_simp; first | done | with_reducible rfl)
  simp only [Act.put, List.setIfInBounds_toArray, List.set_cons_zero, List.set_cons_succ]
  refine take_run 18 59 (v := ?_) rfl rfl (by kernel_rfl) (by kernel_rfl) (by kernel_rfl) (fun _ _ _ h => hE _ _ _ _ _ h) (by rfl) ?_ (by assumption) ?_
  rotate_left
  · (intro wq hSw; obtain ⟨pq, rfl⟩ := hSw; go_simp; first | done | with_reducible rfl)
  simp only [Act.put, List.setIfInBounds_toArray, List.set_cons_zero, List.set_cons_succ]
  refine take_run 19 60 (v := ?_) rfl rfl (by kernel_rfl) (by kernel_rfl) (by kernel_rfl) (fun _ _ _ h => hE _ _ _ _ _ h) (by rfl) ?_ (by assumption) ?_
  rotate_left
  · (intro wq hSw; obtain ⟨pq, rfl⟩ := hSw; go_simp; first | done | with_reducible rfl)
  simp only [Act.put, List.setIfInBounds_toArray, List.set_cons_zero, List.set_cons_succ]
  refine take_run 20 61 (v := ?_) rfl rfl (by kernel_rfl) (by kernel_rfl) (by kernel_rfl) (fun _ _ _ h => hE _ _ _ _ _ h) (by rfl) ?_ (by assumption) ?_
  rotate_left
  · (intro wq hSw; obtain ⟨pq, rfl⟩ := hSw; go_simp; first | done | with_reducible rfl)
  simp only [Act.put, List.setIfInBounds_toArray, List.set_cons_zero, List.set_cons_succ]
  refine take_run 21 62 (v := ?_) rfl rfl (by kernel_rfl) (by kernel_rfl) (by kernel_rfl) (fun _ _ _ h => hE _ _ _ _ _ h) (by rfl) ?_ (by assumption) ?_
  rotate_left
  · (intro wq hSw; obtain ⟨pq, rfl⟩ := hSw; go_simp; first | done | with_reducible rfl)
  simp only [Act.put, List.setIfInBounds_toArray, List.set_cons_zero, List.set_cons_succ]
  refine take_run 22 63 (v := ?_) rfl rfl (by kernel_rfl) (by kernel_rfl) (by kernel_rfl) (fun _ _ _ h => hE _ _ _ _ _ h) (by rfl) ?_ (by assumption) ?_
  rotate_left
  · (intro wq hSw; obtain ⟨pq, rfl⟩ := hSw; go_simp; first | done | with_reducible rfl)
  simp only [Act.put, List.setIfInBounds_toArray, List.set_cons_zero, List.set_cons_succ]
  refine take_run 23 64 (v := ?_) rfl rfl (by kernel_rfl) (by kernel_rfl) (by kernel_rfl) (fun _ _ _ h => hE _ _ _ _ _ h) (by rfl) ?_ (by assumption) ?_
  rotate_left
  · (intro wq hSw; obtain ⟨pq, rfl⟩ := hSw; go_simp; first | done | with_reducible rfl)
  simp only [Act.put, List.setIfInBounds_toArray, List.set_cons_zero, List.set_cons_succ]
  refine take_run 24 65 (v := ?_) rfl rfl (by kernel_rfl) (by kernel_rfl) (by kernel_rfl) (fun _ _ _ h => hE _ _ _ _ _ h) (by rfl) ?_ (by assumption) ?_
  rotate_left
  · (intro wq hSw; obtain ⟨pq, rfl⟩ := hSw; go_simp; first | done | with_reducible rfl)
  simp only [Act.put, List.setIfInBounds_toArray, List.set_cons_zero, List.set_cons_succ]
  refine take_run 25 66 (v := ?_) rfl rfl (by kernel_rfl) (by kernel_rfl) (by kernel_rfl) (fun _ _ _ h => hE _ _ _ _ _ h) (by rfl) ?_ (by assumption) ?_
  rotate_left
  · (intro wq hSw; obtain ⟨pq, rfl⟩ := hSw; go_simp; first | done | with_reducible rfl)
  simp only [Act.put, List.setIfInBounds_toArray, List.set_cons_zero, List.set_cons_succ]
  refine take_run 26 67 (v := ?_) rfl rfl (by kernel_rfl) (by kernel_rfl) (by kernel_rfl) (fun _ _ _ h => hE _ _ _ _ _ h) (by rfl) ?_ (by assumption) ?_
  rotate_left
  · (intro wq hSw; obtain ⟨pq, rfl⟩ := hSw; go_simp; first | done | with_reducible rfl)
  simp only [Act.put, List.setIfInBounds_toArray, List.set_cons_zero, List.set_cons_succ]
  refine take_run 27 68 (v := ?_) rfl rfl (by kernel_rfl) (by kernel_rfl) (by kernel_rfl) (fun _ _ _ h => hE _ _ _ _ _ h) (by rfl) ?_ (by assumption) ?_
  rotate_left
  · (intro wq hSw; obtain ⟨pq, rfl⟩ := hSw; go_simp; first | done | with_reducible rfl)
  simp only [Act.put, List.setIfInBounds_toArray, List.set_cons_zero, List.set_cons_succ]
  refine take_run 28 69 (v := ?_) rfl rfl (by kernel_rfl) (by kernel_rfl) (by kernel_rfl) (fun _ _ _ h => hE _ _ _ _ _ h) (by rfl) ?_ (by assumption) ?_
  rotate_left
  · (intro wq hSw; obtain ⟨pq, rfl⟩ := hSw; go_simp; first | done | with_reducible rfl)
  simp only [Act.put, List.setIfInBounds_toArray, List.set_cons_zero, List.set_cons_succ]
  refine take_run 29 70 (v := ?_) rfl rfl (by kernel_rfl) (by kernel_rfl) (by kernel_rfl) (fun _ _ _ h => hE _ _ _ _ _ h) (by rfl) ?_ (by assumption) ?_
  rotate_left
  · (intro wq hSw; obtain ⟨pq, rfl⟩ := hSw; go_simp; first | done | with_reducible rfl)
  simp only [Act.put, List.setIfInBounds_toArray, List.set_cons_zero, List.set_cons_succ]
  refine take_run 30 71 (v := ?_) rfl rfl (by kernel_rfl) (by kernel_rfl) (by kernel_rfl) (fun _ _ _ h => hE _ _ _ _ _ h) (by rfl) ?_ (by assumption) ?_
  rotate_left
  · (intro wq hSw; obtain ⟨pq, rfl⟩ := hSw; go_simp; first | done | with_reducible rfl)
  simp only [Act.put, List.setIfInBounds_toArray, List.set_cons_zero, List.set_cons_succ]
  refine wpAnyH_ready (rs := [31]) (by kernel_rfl) (by simp) ?_
  refine AllReadyH.cons rfl (fun K hK => ?_) AllReadyH.nil
  obtain ⟨wa, hwa⟩ : ∃ x, wr.drew.alloc (.cells #[.int .u64 0, .int .u64 0, .int .i64 0, .int .u64 0, .int .i64 0] 43) = x := ⟨_, rfl⟩
  have hba : Below wr.heap.size wr wa := by rw [← hwa]; exact (Below.refl _ wr).drew.alloc (Nat.le_refl _) _
  have hma : Box wa wr.heap.size 43 (hv Hd.zero) := by rw [← hwa]; exact Box.made wr.drew _ _
  refine step_run (w' := wa) 9 (.pointer (some ⟨wr.heap.size, 0, none⟩)) rfl rfl (by rw [← hwa]; go_simp; first | done | rfl) ?_
  refine hK.out _ _ ⟨⟨wa, hba⟩, rfl⟩ (fun hHeld => ?_)
  clear hK K
  try simp only [Act.put, List.setIfInBounds_toArray, List.set_cons_zero, List.set_cons_succ]
  refine wpAnyH_ready (rs := [32]) (by kernel_rfl) (by simp) ?_
  refine AllReadyH.cons rfl (fun K hK => ?_) AllReadyH.nil
  refine step_store_within 43 _ _ rfl rfl wr.heap.size 0 (hv (nextHd g s z hg hs)) rfl (by rw [HN.out]; rfl) 43 (hv Hd.zero) hma (by rw [hv_size, hv_size]; omega) (by rw [hv_size]; exact hdInfo) (hv_one _) ?_
  have hrow : ((hv Hd.zero).toList.take 0 ++ (hv (nextHd g s z hg hs)).toList ++ (hv Hd.zero).toList.drop (0 + (hv (nextHd g s z hg hs)).size)).toArray = hv (nextHd g s z hg hs) := rfl
  rw [hrow]
  obtain ⟨wb, hwb⟩ : ∃ x, wa.setRow wr.heap.size (hv (nextHd g s z hg hs)) = x := ⟨_, rfl⟩
  have hmb : Box wb wr.heap.size 43 (hv (nextHd g s z hg hs)) := by rw [← hwb]; exact setRow_heap _ _ _ _ _ _ hma
  have hbb : Below wr.heap.size wr wb := hba.trans (by rw [← hwb]; exact (Below.refl _ wa).grown (grown_row (grown_refl _ (some wr.heap.size)) _) hba.size (fun k e => by injection e with e; omega))
  rw [hwb]
  refine hK.out _ _ ⟨⟨wb, hbb⟩, rfl⟩ (fun hHeld => ?_)
  clear hK K
  try simp only [Act.put, List.setIfInBounds_toArray, List.set_cons_zero, List.set_cons_succ]
  refine wpAnyH_done (by kernel_rfl) ?_ _
  exact hK' _ _ _ _ _ _ _ _ _ _ _ _ _ _ _ _ _ _ _ _ _ _ _ _ _ _ _ _ _ _ _ wb hbb hmb
end Go.Proofs.Ythpfdenpgegheaa
