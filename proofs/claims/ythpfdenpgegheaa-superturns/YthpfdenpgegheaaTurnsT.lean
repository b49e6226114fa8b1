/-
  SuperTurns: the rest of a round.
-/
import Derived.Test.YthpfdenpgegheaaTurnsR
import Derived.Deep.DeepCutAuto
namespace Go.Proofs.Ythpfdenpgegheaa
open Go.RowKit

set_option linter.unusedVariables false
set_option linter.unusedSimpArgs false
/-- The code from a region on, wherever it stands. -/
def tailIn (k : Nat) : Code → Option Code
  | .seq a b => if startsReg' k a then some (.seq a b) else match tailIn k a with
    | some c => some c
    | none => tailIn k b
  | .block _ c => tailIn k c
  | .loop c => tailIn k c
  | .scope c => tailIn k c
  | .cond _ a b => match tailIn k a with
    | some c => some c
    | none => tailIn k b
  | _ => none
where startsReg' (k : Nat) : Code → Bool
  | .region i _ _ => i == k
  | _ => false
noncomputable def turnsT11 : Code := (Try.f6.body.bind (tailIn 11)).getD .skip
/-- Behind i rounds. -/
structure TurnI (w : World) (p b7 i : Nat) (last : Hd) (D : Dv) (wr : World) : Prop where
  below : Below w.heap.size w wr
  dev : Dev wr (fun k => w.heap.size ≤ k ∧ k ≠ b7) p D
  box : Box wr b7 43 (hv last)
  turn : Turn D last
  gen : last.gen ≤ 65536 + i
  seq : last.seq ≤ 1 + 3 * i
  ops : D.ops ≤ 10 + 4 * i
theorem save_ops (D : Dv) (h : Hd) : (saveTo D h).2.ops ≤ D.ops + 2 := by
  unfold saveTo
  split
  · show D.ops + 1 ≤ _; omega
  · split
    · show D.ops + 1 + 1 ≤ _; omega
    · show D.ops + 1 + 1 ≤ _; omega
theorem save_waits (D : Dv) (h : Hd) (hw : D.ws = []) : (saveTo D h).2.ws.length ≤ 1 := by
  unfold saveTo
  split
  · show D.ws.length ≤ 1
    rw [hw]; simp
  · split
    · show (D.ws ++ [_]).length ≤ 1
      rw [hw]; simp
    · show ([] : List Wr).length ≤ 1
      simp
theorem next_right {g s : Nat} {z : Int} {hg hs} (h1 : 1 ≤ s) : (nextHd g s z hg hs).rightB 40 = true := by
  rw [Hd.right_iff]
  simp only [nextHd]
  omega
theorem ics_one (y : Int) : ics [y] = [.int .i64 y] := rfl
set_option maxRecDepth 100000 in
set_option maxHeartbeats 16000000 in
theorem turns_t11 (w wr : World) (p b7 b9 b o n c i : Nat) (x y : Int) (last h : Hd) (D : Dv) (hi : i < n) (hi20 : i < 20) (hb : b < w.heap.size)
    (hB : Below w.heap.size w wr) (hD : Dev wr (fun k => (w.heap.size ≤ k ∧ k ≠ b7) ∧ k ≠ b9) p D) (hm7 : Box wr b7 43 (hv last)) (hm9 : Box wr b9 43 (hv h)) (hT : Turn D last) (hgen : h.gen = last.gen + 1) (hr : h.rightB 40 = true)
    (hl1 : last.gen ≤ 65536 + i) (hl2 : last.seq ≤ 1 + 3 * i) (hl3 : h.seq ≤ 1 + 3 * (i + 1)) (ho : D.ops ≤ 10 + 4 * i) (h79 : b7 ≠ b9) (h7w : w.heap.size ≤ b7) (h9w : w.heap.size ≤ b9)
    (hx : w.cell? ⟨b, o + i * 3, none⟩ = some (.int .i64 x)) (hy : w.cell? ⟨b, o + i * 3 + 1, none⟩ = some (.int .i64 y))
    {v1 v2 v3 v4 v6 v10 v11 v12 v13 v14 v15 v16 v17 v18 v19 v20 v21 v22 v23 v24 v25 v26 v27 v28 v29 v30 v31 v32 v33 v34 v35 v36 v37 v38 v39 v40 v41 v42 v43 v44 v45 v46 v47 v48 v49 v50 v51 v52 v53 v54 v55 v56 v57 v58 v59 v60 v61 v62 v63 v64 v65 v66 v67 v68 v69 v70 v71 v72 v73 v74 v75 v76 v77 v78 v79 v80 v81 v82 v83 v84 v85 v86 v87 v88 v89 v90 v91 v92 v93 v94 v95 v96 v97 v98 v99 v100 v101 v102 v103 v104 v105 v106 v107 v108 v109 v110 v111 v112 v113 v114 v115 v116 v117 v118 v119 v120 v121 v122 v123 v124 v125 v126 v127 : Value} (Q : Exit → Act → World → Prop)
    (hK' : ∀ (u10 u11 u12 u72 u73 u74 u75 u76 u77 u78 u79 u80 u81 u82 u83 u84 u85 u86 u87 u88 u89 u90 u91 u92 u93 u94 u95 u96 u97 u98 u99 u100 u101 u102 u103 u104 u105 u106 u107 u108 u109 u110 u111 u112 u113 u114 u115 u116 u117 u118 u119 u120 u121 u122 u123 u124 u125 u126 : Value) (last' : Hd) (D' : Dv) (w' : World), TurnI w p b7 (i + 1) last' D' w' → Q .normal ⟨#[(.slice (some ⟨b, o, none⟩) n c), v1, v2, v3, v4, (.pointer (some ⟨p, 0, none⟩)), v6, (.pointer (some ⟨b7, 0, none⟩)), (.int .i64 (i : Int)), (.pointer (some ⟨b9, 0, none⟩)), u10, u11, u12, v13, v14, v15, v16, v17, v18, v19, v20, v21, v22, v23, v24, v25, v26, v27, v28, v29, v30, v31, v32, v33, v34, v35, v36, v37, v38, v39, v40, v41, v42, v43, v44, v45, v46, v47, v48, v49, v50, v51, v52, v53, v54, v55, v56, v57, v58, v59, v60, v61, v62, v63, v64, v65, v66, v67, v68, v69, v70, v71, u72, u73, u74, u75, u76, u77, u78, u79, u80, u81, u82, u83, u84, u85, u86, u87, u88, u89, u90, u91, u92, u93, u94, u95, u96, u97, u98, u99, u100, u101, u102, u103, u104, u105, u106, u107, u108, u109, u110, u111, u112, u113, u114, u115, u116, u117, u118, u119, u120, u121, u122, u123, u124, u125, u126, v127], []⟩ w') :
    Code.wp Try.prog turnsT11 Q ⟨#[(.slice (some ⟨b, o, none⟩) n c), v1, v2, v3, v4, (.pointer (some ⟨p, 0, none⟩)), v6, (.pointer (some ⟨b7, 0, none⟩)), (.int .i64 (i : Int)), (.pointer (some ⟨b9, 0, none⟩)), v10, v11, v12, v13, v14, v15, v16, v17, v18, v19, v20, v21, v22, v23, v24, v25, v26, v27, v28, v29, v30, v31, v32, v33, v34, v35, v36, v37, v38, v39, v40, v41, v42, v43, v44, v45, v46, v47, v48, v49, v50, v51, v52, v53, v54, v55, v56, v57, v58, v59, v60, v61, v62, v63, v64, v65, v66, v67, v68, v69, v70, v71, v72, v73, v74, v75, v76, v77, v78, v79, v80, v81, v82, v83, v84, v85, v86, v87, v88, v89, v90, v91, v92, v93, v94, v95, v96, v97, v98, v99, v100, v101, v102, v103, v104, v105, v106, v107, v108, v109, v110, v111, v112, v113, v114, v115, v116, v117, v118, v119, v120, v121, v122, v123, v124, v125, v126, v127], []⟩ wr := by
  conv => arg 2; whnf
  have hi' : (i : Int) < (n : Int) := by omega
  obtain ⟨i0, hi0, hz0, hz1, hz2⟩ := info_parts (show (Try.prog.info? 3).map (fun i => (i.zero, i.size, i.bytes)) = some (some (.int .i64 0), 1, 8) by kernel_rfl)
  obtain ⟨q, hq⟩ : ∃ q : Nat, (x % 4).toNat = q := ⟨_, rfl⟩
  have r1 : bits .and .i64 x 3 = (q : Int) := by rw [and3]; omega
  have hq3 : q ≤ 3 := by omega
  obtain ⟨cc, hcc⟩ : ∃ z : Int, (q : Int) - 1 = z := ⟨_, rfl⟩
  have hcb : -1 ≤ cc ∧ cc ≤ 2 := by omega
  have HXW := Lib.hid hx
  have HYW := Lib.hid hy
  have hx1 : wr.cell? ⟨b, o + i * 3, none⟩ = some (.int .i64 x) := (hB.cell (p := ⟨b, o + i * 3, none⟩) hb).trans hx
  have HAR := Lib.hid (arm_says hD cc (by omega))
  have HRD := Lib.hid (hT.round hgen hr cc hcb [y])
  have HT := Lib.hid hT
  have HB := Lib.hid hB
  have H7 := Lib.hid hm7
  have H9 := Lib.hid hm9
  have HGN := Lib.hid hgen
  have HR := Lib.hid hr
  have HK' := Lib.hid hK'
  clear hq hB hD hm7 hm9 hT hgen hr hK' hx hy
  -- Arm
  go_wp2_with fail
  clear hx1 r1

  clear hcc
  refine HAR.out.mono ?_
  rintro e w1 ⟨rfl, hd1, ht1⟩
  have HB1 := Lib.hid (HB.out.trans (ht1.below (fun k q => q.1.1) HB.out.size))
  have H71 := Lib.hid (ht1.box H7.out (fun q => q.1.2 rfl))
  have H91 := Lib.hid (ht1.box H9.out (fun q => q.2 rfl))
  have hlen : (D.arm cc).bs.length = 40 := HT.out.len
  have HSA := Lib.hid (save_says hd1 (fun k hk => ⟨⟨by have := HB1.out.size; omega, by have := H71.out.lt; omega⟩, by have := H91.out.lt; omega⟩) (by show D.ops ≤ 90000; omega) h (by rw [hlen]; exact HR.out))
  clear ht1 hd1 HAR HB H7 H9 hlen
  -- Save
  go_wp2_with (refine wpList_load_row rfl 43 _ rfl b9 rfl 43 _ (0, 0) _ H91.out Try.underlying43 rfl (by rw [hv_size]; exact hdInfo) ?_)
  refine HSA.out.mono ?_
  rintro e w2 ⟨rfl, hd2, ht2⟩
  have HB2 := Lib.hid (HB1.out.trans (ht2.below (fun k q => q.1.1) HB1.out.size))
  have H72 := Lib.hid (ht2.box H71.out (fun q => q.1.2 rfl))
  have H92 := Lib.hid (ht2.box H91.out (fun q => q.2 rfl))
  have hws := save_waits (D.arm cc) h HT.out.still
  have hop2 := save_ops (D.arm cc) h
  have hop2 : (saveTo (D.arm cc) h).2.ops ≤ D.ops + 2 := hop2
  obtain ⟨f, hf⟩ : ∃ z, (saveTo (D.arm cc) h).1 = z := ⟨_, rfl⟩
  obtain ⟨D2, hD2⟩ : ∃ z, (saveTo (D.arm cc) h).2 = z := ⟨_, rfl⟩
  rw [hD2] at hd2 hws hop2
  have hRD := HRD.out
  rw [hf, hD2] at hRD
  rw [hf]
  have HRD2 := Lib.hid hRD
  clear ht2 HSA HB1 H71 H91 HRD hRD hf hD2
  -- Fall
  have hy2 : w2.cell? ⟨b, o + i * 3 + 1, none⟩ = some (.int .i64 y) := (HB2.out.cell (p := ⟨b, o + i * 3 + 1, none⟩) hb).trans HYW.out
  obtain ⟨w3, hw3⟩ : ∃ z, w2.alloc (.cells #[.int .i64 y] 3) = z := ⟨_, rfl⟩
  have hb3 : Below w2.heap.size w2 w3 := by rw [← hw3]; exact (Below.refl _ w2).alloc (Nat.le_refl _) _
  have hx3 : Box w3 w2.heap.size 3 (ics [y]).toArray := by rw [← hw3, ics_one]; exact Box.made w2 _ _
  have hd3 := hd2.aside hb3 w2.heap.size (Nat.le_refl _)
  have HFA := Lib.hid (fall_says hd3 (by omega) (fun k => k = w2.heap.size) (some ⟨w2.heap.size, 0, none⟩) 1 1 [y] (hx3.toLies rfl (Nat.le_refl _)) (fun k q1 q2 => q2.2 q1))
  have HB3 := Lib.hid (HB2.out.trans (hb3.mono HB2.out.size))
  have H73 := Lib.hid (Box.below H72.out hb3 H72.out.lt)
  have H93 := Lib.hid (Box.below H92.out hb3 H92.out.lt)
  clear hb3 hx3 hd3 hd2 hws HB2 H72 H92
  go_wp2_with fail
  clear hy2
  refine HFA.out.mono ?_
  rintro e w4 ⟨rfl, hd4, ht4⟩
  have hd4 := hd4.weak (K' := fun k => (w.heap.size ≤ k ∧ k ≠ b7) ∧ k ≠ b9) (fun k q => q.1)
  have HB4 := Lib.hid (HB3.out.trans (ht4.below (fun k q => q.1.1.1) HB3.out.size))
  have H74 := Lib.hid (ht4.box H73.out (fun q => q.1.1.2 rfl))
  have H94 := Lib.hid (ht4.box H93.out (fun q => q.1.2 rfl))
  clear ht4 HFA HB3 H73 H93 hw3
  -- what is there
  have hxx : ∃ xx : Hd, Turn (D2.fall [y]) xx ∧ (f = 0 ∧ xx = h ∨ f = 17 ∧ xx = h ∨ f = 17 ∧ xx = last) := by
    rcases HRD2.out with ⟨q1, q2⟩ | ⟨q1, q2 | q2⟩
    · exact ⟨h, q2, .inl ⟨q1, rfl⟩⟩
    · exact ⟨h, q2, .inr (.inl ⟨q1, rfl⟩)⟩
    · exact ⟨last, q2, .inr (.inr ⟨q1, rfl⟩)⟩
  obtain ⟨xx, htx, hways⟩ := hxx
  have hops4 : (D2.fall [y]).ops = D2.ops := rfl
  obtain ⟨D3, hD3⟩ : ∃ z, D2.fall [y] = z := ⟨_, rfl⟩
  rw [hD3] at hd4 htx hops4
  have HTX := Lib.hid htx
  have HLO := Lib.hid (load_says hd4 (fun k hk => ⟨⟨by have := HB4.out.size; omega, by have := H74.out.lt; omega⟩, by have := H94.out.lt; omega⟩) (by omega) (by rw [htx.len]; omega) htx.up htx.left)
  clear hd4 htx hD3 HRD2
  go_wp2_with fail
  refine HLO.out.mono ?_
  rintro e w5 ⟨rfl, hd5, ht5⟩
  have hxg := HTX.out.gen
  have hxz : (if xx = Hd.zero then (13 : Int) else 0) = 0 := if_neg (fun e => by rw [e] at hxg; exact absurd hxg.1 (by show ¬ 1 ≤ 0; omega))
  rw [HTX.out.loads, hxz]
  have HT5 := Lib.hid (HTX.out.calls 2)
  have hops5 : (callsN D3 2).ops ≤ D3.ops + 2 := Nat.le_refl _
  have hm75 := ht5.box H74.out (fun q => q.1.2 rfl)
  have hm95 := ht5.box H94.out (fun q => q.2 rfl)
  have hb5 := HB4.out.trans (ht5.below (fun k q => q.1.1) HB4.out.size)
  obtain ⟨w6, hw6⟩ : ∃ x, w5.alloc (.cells #[.int .u64 0, .int .u64 0, .int .i64 0, .int .u64 0, .int .i64 0] 43) = x := ⟨_, rfl⟩
  have hbw6 : Below w5.heap.size w5 w6 := by rw [← hw6]; exact (Below.refl _ w5).alloc (Nat.le_refl _) _
  have hmw6 : Box w6 w5.heap.size 43 (hv Hd.zero) := by rw [← hw6]; exact Box.made w5 _ _
  obtain ⟨w7, hw7⟩ : ∃ x, w6.setRow w5.heap.size (hv xx) = x := ⟨_, rfl⟩
  have hmw7 : Box w7 w5.heap.size 43 (hv xx) := by rw [← hw7]; exact setRow_heap _ _ _ _ _ _ hmw6
  have hbw7 : Below w5.heap.size w5 w7 := hbw6.trans (by rw [← hw7]; exact (Below.refl _ w6).grown (grown_row (grown_refl _ (some w5.heap.size)) _) hbw6.size (fun k e => by injection e with e; omega))
  have HMw6 := Lib.hid hmw6
  have HWw7 := Lib.hid hw7
  have hm77 := Box.below hm75 hbw7 hm75.lt
  have hm97 := Box.below hm95 hbw7 hm95.lt
  have hb7 := hb5.trans (hbw7.mono hb5.size)
  have hd7 := (hd5.weak (K' := fun k => w.heap.size ≤ k ∧ k ≠ b7) (fun k q => q.1)).below hbw7
  obtain ⟨w8, hw8⟩ : ∃ z, w7.setRow b7 (hv xx) = z := ⟨_, rfl⟩
  have hg8 : w7.grownBy w8 (some b7) := by rw [← hw8]; exact grown_row (grown_refl _ _) _
  have hm8 : Box w8 b7 43 (hv xx) := by rw [← hw8]; exact setRow_heap _ _ _ _ _ _ hm77
  have hb8 : Below w.heap.size w w8 := below_grown hb7 hg8 h7w hb7.size
  have hd8 := (Touch.of_grown (K := fun b => b = b7) hg8 (fun b e => by injection e with e; exact e.symm)).dev hd7 (fun b q e => q.2 e)
  have HEND := Lib.hid (show TurnI w p b7 (i + 1) xx (callsN D3 2) w8 from ⟨hb8, hd8, hm8, HT5.out, by
      rcases hways with q | q | q
      · rw [q.2, HGN.out]; omega
      · rw [q.2, HGN.out]; omega
      · rw [q.2]; omega, by
      rcases hways with q | q | q
      · rw [q.2]; omega
      · rw [q.2]; omega
      · rw [q.2]; omega, by omega⟩)
  have HM77 := Lib.hid hm77
  have HM97 := Lib.hid hm97
  have HMX7 := Lib.hid hmw7
  have HW8 := Lib.hid hw8
  clear hm75 hm95 hb5 hm77 hm97 hb7 hd7 hg8 hm8 hb8 hd8 hd5 ht5 hmw6 hbw6 hmw7 hbw7 hw7 hw8 HLO hops5 hops4 hop2 hxz hxg HT5
  rcases hways with ⟨rfl, hq⟩ | ⟨rfl, hq⟩ | ⟨rfl, hq⟩
  · obtain rfl : h = xx := hq.symm
    have p0 : w7.cell? ⟨w5.heap.size, 0, none⟩ = some (.int .u64 (h.gen : Int)) := (Box.cell HMX7.out 0).trans rfl
    have p1 : w7.cell? ⟨w5.heap.size, 1, none⟩ = some (.int .u64 (h.epoch : Int)) := (Box.cell HMX7.out 1).trans rfl
    have p2 : w7.cell? ⟨w5.heap.size, 2, none⟩ = some (.int .i64 h.pos) := (Box.cell HMX7.out 2).trans rfl
    have p3 : w7.cell? ⟨w5.heap.size, 3, none⟩ = some (.int .u64 (h.seq : Int)) := (Box.cell HMX7.out 3).trans rfl
    have p4 : w7.cell? ⟨w5.heap.size, 4, none⟩ = some (.int .i64 h.log) := (Box.cell HMX7.out 4).trans rfl
    have q0 : w7.cell? ⟨b9, 0, none⟩ = some (.int .u64 (h.gen : Int)) := (Box.cell HM97.out 0).trans rfl
    have q1 : w7.cell? ⟨b9, 1, none⟩ = some (.int .u64 (h.epoch : Int)) := (Box.cell HM97.out 1).trans rfl
    have q2 : w7.cell? ⟨b9, 2, none⟩ = some (.int .i64 h.pos) := (Box.cell HM97.out 2).trans rfl
    have q3 : w7.cell? ⟨b9, 3, none⟩ = some (.int .u64 (h.seq : Int)) := (Box.cell HM97.out 3).trans rfl
    have q4 : w7.cell? ⟨b9, 4, none⟩ = some (.int .i64 h.log) := (Box.cell HM97.out 4).trans rfl
    have r0 : w7.cell? ⟨b7, 0, none⟩ = some (.int .u64 (last.gen : Int)) := (Box.cell HM77.out 0).trans rfl
    have r1 : w7.cell? ⟨b7, 1, none⟩ = some (.int .u64 (last.epoch : Int)) := (Box.cell HM77.out 1).trans rfl
    have r2 : w7.cell? ⟨b7, 2, none⟩ = some (.int .i64 last.pos) := (Box.cell HM77.out 2).trans rfl
    have r3 : w7.cell? ⟨b7, 3, none⟩ = some (.int .u64 (last.seq : Int)) := (Box.cell HM77.out 3).trans rfl
    have r4 : w7.cell? ⟨b7, 4, none⟩ = some (.int .i64 last.log) := (Box.cell HM77.out 4).trans rfl
    have d1 : ¬ (last.gen : Int) = (h.gen : Int) := by have := HGN.out; omega
    have d2 : ((last.gen : Int) == (h.gen : Int)) = false := by rw [beq_eq_false_iff_ne]; exact d1
    go_wp2_with (first
      | (refine wpList_store_row rfl 43 _ _ rfl w5.heap.size (hv h) rfl rfl 43 _ HMw6.out (by rw [hv_size]; exact hdInfo) rfl (hv_one _) ?_; rw [HWw7.out])
      | (refine wpList_load_row rfl 43 _ rfl w5.heap.size rfl 43 _ (0, 0) _ HMX7.out Try.underlying43 rfl (by rw [hv_size]; exact hdInfo) ?_)
      | (refine wpList_store_row rfl 43 _ _ rfl b7 (hv h) rfl rfl 43 _ HM77.out (by rw [hv_size]; exact hdInfo) rfl (hv_one _) ?_; rw [HW8.out]))
    exact HK'.out _ _ _ _ _ _ _ _ _ _ _ _ _ _ _ _ _ _ _ _ _ _ _ _ _ _ _ _ _ _ _ _ _ _ _ _ _ _ _ _ _ _ _ _ _ _ _ _ _ _ _ _ _ _ _ _ _ _ _ _ _ HEND.out
  · obtain rfl : h = xx := hq.symm
    have p0 : w7.cell? ⟨w5.heap.size, 0, none⟩ = some (.int .u64 (h.gen : Int)) := (Box.cell HMX7.out 0).trans rfl
    have p1 : w7.cell? ⟨w5.heap.size, 1, none⟩ = some (.int .u64 (h.epoch : Int)) := (Box.cell HMX7.out 1).trans rfl
    have p2 : w7.cell? ⟨w5.heap.size, 2, none⟩ = some (.int .i64 h.pos) := (Box.cell HMX7.out 2).trans rfl
    have p3 : w7.cell? ⟨w5.heap.size, 3, none⟩ = some (.int .u64 (h.seq : Int)) := (Box.cell HMX7.out 3).trans rfl
    have p4 : w7.cell? ⟨w5.heap.size, 4, none⟩ = some (.int .i64 h.log) := (Box.cell HMX7.out 4).trans rfl
    have q0 : w7.cell? ⟨b9, 0, none⟩ = some (.int .u64 (h.gen : Int)) := (Box.cell HM97.out 0).trans rfl
    have q1 : w7.cell? ⟨b9, 1, none⟩ = some (.int .u64 (h.epoch : Int)) := (Box.cell HM97.out 1).trans rfl
    have q2 : w7.cell? ⟨b9, 2, none⟩ = some (.int .i64 h.pos) := (Box.cell HM97.out 2).trans rfl
    have q3 : w7.cell? ⟨b9, 3, none⟩ = some (.int .u64 (h.seq : Int)) := (Box.cell HM97.out 3).trans rfl
    have q4 : w7.cell? ⟨b9, 4, none⟩ = some (.int .i64 h.log) := (Box.cell HM97.out 4).trans rfl
    have r0 : w7.cell? ⟨b7, 0, none⟩ = some (.int .u64 (last.gen : Int)) := (Box.cell HM77.out 0).trans rfl
    have r1 : w7.cell? ⟨b7, 1, none⟩ = some (.int .u64 (last.epoch : Int)) := (Box.cell HM77.out 1).trans rfl
    have r2 : w7.cell? ⟨b7, 2, none⟩ = some (.int .i64 last.pos) := (Box.cell HM77.out 2).trans rfl
    have r3 : w7.cell? ⟨b7, 3, none⟩ = some (.int .u64 (last.seq : Int)) := (Box.cell HM77.out 3).trans rfl
    have r4 : w7.cell? ⟨b7, 4, none⟩ = some (.int .i64 last.log) := (Box.cell HM77.out 4).trans rfl
    have d1 : ¬ (last.gen : Int) = (h.gen : Int) := by have := HGN.out; omega
    have d2 : ((last.gen : Int) == (h.gen : Int)) = false := by rw [beq_eq_false_iff_ne]; exact d1
    go_wp2_with (first
      | (refine wpList_store_row rfl 43 _ _ rfl w5.heap.size (hv h) rfl rfl 43 _ HMw6.out (by rw [hv_size]; exact hdInfo) rfl (hv_one _) ?_; rw [HWw7.out])
      | (refine wpList_load_row rfl 43 _ rfl w5.heap.size rfl 43 _ (0, 0) _ HMX7.out Try.underlying43 rfl (by rw [hv_size]; exact hdInfo) ?_)
      | (refine wpList_store_row rfl 43 _ _ rfl b7 (hv h) rfl rfl 43 _ HM77.out (by rw [hv_size]; exact hdInfo) rfl (hv_one _) ?_; rw [HW8.out]))
    exact HK'.out _ _ _ _ _ _ _ _ _ _ _ _ _ _ _ _ _ _ _ _ _ _ _ _ _ _ _ _ _ _ _ _ _ _ _ _ _ _ _ _ _ _ _ _ _ _ _ _ _ _ _ _ _ _ _ _ _ _ _ _ _ HEND.out
  · obtain rfl : last = xx := hq.symm
    have p0 : w7.cell? ⟨w5.heap.size, 0, none⟩ = some (.int .u64 (last.gen : Int)) := (Box.cell HMX7.out 0).trans rfl
    have p1 : w7.cell? ⟨w5.heap.size, 1, none⟩ = some (.int .u64 (last.epoch : Int)) := (Box.cell HMX7.out 1).trans rfl
    have p2 : w7.cell? ⟨w5.heap.size, 2, none⟩ = some (.int .i64 last.pos) := (Box.cell HMX7.out 2).trans rfl
    have p3 : w7.cell? ⟨w5.heap.size, 3, none⟩ = some (.int .u64 (last.seq : Int)) := (Box.cell HMX7.out 3).trans rfl
    have p4 : w7.cell? ⟨w5.heap.size, 4, none⟩ = some (.int .i64 last.log) := (Box.cell HMX7.out 4).trans rfl
    have q0 : w7.cell? ⟨b9, 0, none⟩ = some (.int .u64 (h.gen : Int)) := (Box.cell HM97.out 0).trans rfl
    have q1 : w7.cell? ⟨b9, 1, none⟩ = some (.int .u64 (h.epoch : Int)) := (Box.cell HM97.out 1).trans rfl
    have q2 : w7.cell? ⟨b9, 2, none⟩ = some (.int .i64 h.pos) := (Box.cell HM97.out 2).trans rfl
    have q3 : w7.cell? ⟨b9, 3, none⟩ = some (.int .u64 (h.seq : Int)) := (Box.cell HM97.out 3).trans rfl
    have q4 : w7.cell? ⟨b9, 4, none⟩ = some (.int .i64 h.log) := (Box.cell HM97.out 4).trans rfl
    have r0 : w7.cell? ⟨b7, 0, none⟩ = some (.int .u64 (last.gen : Int)) := (Box.cell HM77.out 0).trans rfl
    have r1 : w7.cell? ⟨b7, 1, none⟩ = some (.int .u64 (last.epoch : Int)) := (Box.cell HM77.out 1).trans rfl
    have r2 : w7.cell? ⟨b7, 2, none⟩ = some (.int .i64 last.pos) := (Box.cell HM77.out 2).trans rfl
    have r3 : w7.cell? ⟨b7, 3, none⟩ = some (.int .u64 (last.seq : Int)) := (Box.cell HM77.out 3).trans rfl
    have r4 : w7.cell? ⟨b7, 4, none⟩ = some (.int .i64 last.log) := (Box.cell HM77.out 4).trans rfl
    have d1 : ¬ (last.gen : Int) = (h.gen : Int) := by have := HGN.out; omega
    have d2 : ((last.gen : Int) == (h.gen : Int)) = false := by rw [beq_eq_false_iff_ne]; exact d1
    go_wp2_with (first
      | (refine wpList_store_row rfl 43 _ _ rfl w5.heap.size (hv last) rfl rfl 43 _ HMw6.out (by rw [hv_size]; exact hdInfo) rfl (hv_one _) ?_; rw [HWw7.out])
      | (refine wpList_load_row rfl 43 _ rfl w5.heap.size rfl 43 _ (0, 0) _ HMX7.out Try.underlying43 rfl (by rw [hv_size]; exact hdInfo) ?_)
      | (refine wpList_store_row rfl 43 _ _ rfl b7 (hv last) rfl rfl 43 _ HM77.out (by rw [hv_size]; exact hdInfo) rfl (hv_one _) ?_; rw [HW8.out]))
    exact HK'.out _ _ _ _ _ _ _ _ _ _ _ _ _ _ _ _ _ _ _ _ _ _ _ _ _ _ _ _ _ _ _ _ _ _ _ _ _ _ _ _ _ _ _ _ _ _ _ _ _ _ _ _ _ _ _ _ _ _ _ _ _ HEND.out
end Go.Proofs.Ythpfdenpgegheaa
