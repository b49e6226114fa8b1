/-
  blocks: those of the log, from the head's place on, are read; which end as sealed ones is noted.
-/
import Derived.Test.YtnhondkdkjehaaaGreatSlM
import Derived.Deep.DeepCutAuto
import Derived.Deep.CutBlock
namespace Go.Proofs.YtnhondkdkjehaaaGreat
open Go.RowKit

set_option linter.unusedVariables false
set_option linter.unusedSimpArgs false
/-- What the loop keeps to; the table lies where the world ended. -/
structure BLI (w : World) (K : Nat → Prop) (p dp ma : Nat) (u : Value) (J : Nat → Prop) (q : Nat) (al : Nat → Option Bk) (L : Lg) (D : Dv) (k : Nat) (vs : List (Nat × Nat)) (D' : Dv) (wr : World) : Prop where
  box : Box wr p 81 (lc dp (u, .map (some ma)) L)
  dev : Dev wr K dp D'
  same : blkTo L.h.log.toNat D = blkTo (L.h.log.toNat - k) D'
  calm : Calm D D' k
  tab : Box wr w.heap.size 49 (vs.map rwc ++ List.replicate (L.h.log.toNat - k) (Value.slice none 0 0)).toArray
  rws : RwsAt wr (fun b => w.heap.size < b) vs (logBks L D k)
  wet : WetAt wr ma (fun b => J b ∨ w.heap.size < b) (q + k) (mindTo L D al k)
  touch : Touch (fun b => K b ∨ b = ma) w wr
theorem tab_step (vs : List (Nat × Nat)) (g n k : Nat) (hv : vs.length = k) (hk : k < n) : (vs.map rwc ++ List.replicate (n - k) (Value.slice none 0 0)).toArray.setIfInBounds k (.slice (some ⟨g, 0, none⟩) 256 256) = ((vs ++ [(g, 256)]).map rwc ++ List.replicate (n - (k + 1)) (Value.slice none 0 0)).toArray := by
  rw [List.setIfInBounds_toArray]
  congr 1
  rw [List.set_append_right _ _ (by rw [List.length_map, hv]; exact Nat.le_refl _), List.length_map, hv, Nat.sub_self, show n - k = (n - (k + 1)) + 1 by omega, List.replicate_succ, List.set_cons_zero]
  simp [rwc]
section
variable {w : World} {K : Nat → Prop} {p dp ma q k : Nat} {u : Value} {J : Nat → Prop} {al : Nat → Option Bk} {L : Lg} {D D' D2 : Dv} {vs : List (Nat × Nat)} {wr w' : World}
theorem sliceInfo1 : (Tryz.prog.info? 49).map (fun i => (i.zero, i.size, i.bytes)) = some (some (.slice none 0 0), 1, 24) := by kernel_rfl
theorem BLI.touched (h : BLI w K p dp ma u J q al L D k vs D' wr) {D2 : Dv} (ht : Touch K wr w') (hd : Dev w' K dp D2) (hK : ∀ b, K b → b < w.heap.size) (hp : ¬ K p) (hm : ¬ K ma) (hJ : ∀ b, J b → ¬ K b) :
    Box w' p 81 (lc dp (u, .map (some ma)) L) ∧ Dev w' K dp D2 ∧ Box w' w.heap.size 49 (vs.map rwc ++ List.replicate (L.h.log.toNat - k) (Value.slice none 0 0)).toArray ∧ RwsAt w' (fun b => w.heap.size < b) vs (logBks L D k) ∧ WetAt w' ma (fun b => J b ∨ w.heap.size < b) (q + k) (mindTo L D al k) ∧ Touch (fun b => K b ∨ b = ma) w w' :=
  ⟨ht.box h.box hp, hd, ht.box h.tab (fun q => by have := hK _ q; omega), h.rws.keep ht (fun b hb _ q => by have := hK _ q; omega), h.wet.touch ht hm (fun b hb q => hb.elim (fun z => hJ b z q) (fun z => by have := hK _ q; omega)), h.touch.trans (ht.mono (fun _ q => .inl q))⟩
theorem BLI.below (h : BLI w K p dp ma u J q al L D k vs D' wr) (hb : Below wr.heap.size wr w') : BLI w K p dp ma u J q al L D k vs D' w' := by
  have ht : Touch (fun _ => False) wr w' := Touch.of_below hb
  exact ⟨h.box.below hb h.box.lt, h.dev.below hb, h.same, h.calm, h.tab.below hb h.tab.lt, h.rws.keep ht (fun _ _ _ q => q), h.wet.touch ht (fun q => q) (fun _ _ q => q), h.touch.trans (Touch.of_below hb)⟩
set_option maxRecDepth 100000 in
set_option maxHeartbeats 8000000 in
theorem jblocks_says (hb : Box w p 81 (lc dp (u, .map (some ma)) L)) (hL : L.Ok) (hpK : ¬ K p) (hmK : ¬ K ma) (hpm : p ≠ ma) (hd : Dev w K dp D) (hKw : ∀ b, K b → b < w.heap.size) (hroom : 2 + L.h.log.toNat ≤ D.bs.length) (ho : D.ops ≤ 80000)
    (hw : WetAt w ma J q al) (hJ : ∀ b, J b → ¬ K b ∧ b < w.heap.size) (hmJ : ¬ J ma) (hq : q ≤ 90000) :
    Calls Tryz.prog 67 #[.pointer (some ⟨p, 0, none⟩)] w fun e w' => Dev w' K dp (blkTo L.h.log.toNat D).2 ∧ Touch (fun b => K b ∨ b = ma) w w' ∧
      ((blkTo L.h.log.toNat D).1 = false → e = .returned (.tuple #[.slice none 0 0, .int .i64 17])) ∧
      ((blkTo L.h.log.toNat D).1 = true → ∃ vs, e = .returned (.tuple #[.slice (some ⟨w.heap.size, 0, none⟩) L.h.log.toNat L.h.log.toNat, .int .i64 0]) ∧ Box w' w.heap.size 49 (vs.map rwc).toArray ∧ RwsAt w' (fun b => w.heap.size < b) vs (logBks L D L.h.log.toNat) ∧
        WetAt w' ma (fun b => J b ∨ w.heap.size < b) (q + L.h.log.toNat) (mindTo L D al L.h.log.toNat)) := by
  obtain ⟨i0, hi0, hz0, hz1, hz2⟩ := info_parts sliceInfo1
  have hlog0 := hL.log0
  have hlog1 := hL.log1
  obtain ⟨n, hn⟩ : ∃ n, L.h.log.toNat = n := ⟨_, rfl⟩
  have hlog : L.h.log = (n : Int) := by omega
  have hmw := hw.lt
  have hmost := hd.1.most
  have hpw := hb.lt
  have c5 : w.cell? ⟨p, 5, none⟩ = some (.int .i64 L.h.log) := (Box.cell hb 5).trans rfl
  have HL := Lib.hid hL
  have HJ := Lib.hid (fun b hb => (hJ b hb).1)
  have HJ2 := Lib.hid (fun b hb => (hJ b hb).2)
  have HW := Lib.hid (And.intro hb (And.intro hd hw))
  obtain ⟨R, hR⟩ : ∃ R, blkTo L.h.log.toNat D = R := ⟨_, rfl⟩
  rw [hR]
  have HR := Lib.hid hR
  rw [hn] at hroom ⊢
  clear hb hL hd hw hJ hR
  go_enter Tryz.func67, Tryz.ntmps67
  go_upto_region 2 with (at_make; refine wpList_make_full _ rfl _ _ 129 rfl w.heap.size 49 i0 _ 1 Tryz.underlying129 hi0 hz0 hz1 _ _ _ _ n rfl rfl (by omega) (by omega) (by rw [hz2]; omega) (by unfold maxLen; omega) (Nat.le_refl _) ?_; intro w1 hown1 hg1)
  have hbx1 : Box w1 w.heap.size 49 (List.replicate n (.slice none 0 0)).toArray := by
    have := own_boxS hown1
    rwa [show (madeCells (Value.slice none 0 0).cells (n * 1)).toList = List.replicate n (.slice none 0 0) by rw [show (Value.slice none 0 0).cells = #[Value.slice none 0 0] from rfl, Nat.mul_one, toList_madeCells_one]] at this
  have hB1 : Below w.heap.size w w1 := (Below.refl w.heap.size w).grown hg1 (Nat.le_refl _) (fun k hk => by cases hk)
  have ht1 : Touch (fun _ => False) w w1 := Touch.of_below hB1
  have HI := Lib.hid (show BLI w K p dp ma u J q al L D 0 [] D w1 from
    ⟨HW.out.1.below hB1 HW.out.1.lt, HW.out.2.1.below hB1, rfl, Calm.refl D, by rw [hn]; exact hbx1, RwsAt.nil _ _, (HW.out.2.2.touch ht1 (fun q => q) (fun _ _ q => q)).weak (fun _ _ h => .inl h), Touch.of_below hB1⟩)
  clear hown1 hg1 hbx1 hB1 ht1 c5
  go_wp2_with fail
  go_loopw [16] (fun i wr => ∃ k vs D', k ≤ n ∧ i = .int .i64 (k : Int) ∧ Hid (BLI w K p dp ma u J q al L D k vs D' wr)) (fun i _ => n - (intOf i).toNat)
  case atStart => exact ⟨0, [], D, by omega, rfl, HI⟩
  case round =>
    clear HI
    obtain ⟨k, vs, D', hk, rfl, H⟩ := hrel
    by_cases hkn : (k : Int) < (n : Int)
    · obtain ⟨nn, hnn⟩ : ∃ m, L.place k = m := ⟨_, rfl⟩
      have hplt := place_lt HL.out k
      have hcalm := H.out.calm
      have HIN := Lib.hid (show (0 : Int) ≤ (nn : Int) ∧ (nn : Int) < (D'.bs.length : Int) by rw [hcalm.1, ← hnn]; omega)
      have HIN2 := Lib.hid (show nn < D'.bs.length by rw [hcalm.1, ← hnn]; omega)
      have HOP := Lib.hid (show D'.ops ≤ 100000 by have := hcalm.2.1; omega)
      have hd0 : wr.drew.cell? ⟨p, 0, none⟩ = some (.pointer (some ⟨dp, 0, none⟩)) := (Box.cell (show Box wr.drew p _ _ from H.out.box) 0).trans rfl
      clear hplt hcalm
      cases hdn : D'.call.down with
      | true =>
        go_upto_region 5 with fail
        rename_i KX kx
        have KK := Lib.hid kx
        clear kx
        refine wp_region_held_drew (S := fun x => x.cell? ⟨p, 0, none⟩ = some (.pointer (some ⟨dp, 0, none⟩))) (by kernel_rfl) hd0 (fun hHeld => ?_)
        refine take_run 0 20 (v := ?_) rfl rfl (by kernel_rfl) (by kernel_rfl) (by kernel_rfl) (fun _ _ _ h => h) (by rfl) ?_ (by assumption) ?_
        rotate_left
        · (intro wq hSw; obtain hS1 := hSw; go_simp; first | done | with_reducible rfl)
        simp only [Act.put, List.setIfInBounds_toArray, List.set_cons_zero, List.set_cons_succ]
        refine take_run 1 21 (v := ?_) rfl rfl (by kernel_rfl) (by kernel_rfl) (by kernel_rfl) (fun _ _ _ h => h) (by rfl) ?_ (by assumption) ?_
        rotate_left
        · (intro wq hSw; obtain hS1 := hSw; go_simp; first | done | with_reducible rfl)
        simp only [Act.put, List.setIfInBounds_toArray, List.set_cons_zero, List.set_cons_succ]
        refine take_run 2 22 (v := ?_) rfl rfl (by kernel_rfl) (by kernel_rfl) (by kernel_rfl) (fun _ _ _ h => h) (by rfl) ?_ (by assumption) ?_
        rotate_left
        · (intro wq hSw; obtain hS1 := hSw; go_simp; first | done | with_reducible rfl)
        simp only [Act.put, List.setIfInBounds_toArray, List.set_cons_zero, List.set_cons_succ]
        refine take_run 3 23 (v := ?_) rfl rfl (by kernel_rfl) (by kernel_rfl) (by kernel_rfl) (fun _ _ _ h => h) (by rfl) ?_ (by assumption) ?_
        rotate_left
        · (intro wq hSw; obtain hS1 := hSw; go_simp; first | done | with_reducible rfl)
        simp only [Act.put, List.setIfInBounds_toArray, List.set_cons_zero, List.set_cons_succ]
        refine take_run 4 24 (v := ?_) rfl rfl (by kernel_rfl) (by kernel_rfl) (by kernel_rfl) (fun _ _ _ h => h) (by rfl) ?_ (by assumption) ?_
        rotate_left
        · (intro wq hSw; obtain hS1 := hSw; go_simp; first | done | with_reducible rfl)
        simp only [Act.put, List.setIfInBounds_toArray, List.set_cons_zero, List.set_cons_succ]
        refine take_run 5 25 (v := ?_) rfl rfl (by kernel_rfl) (by kernel_rfl) (by kernel_rfl) (fun _ _ _ h => h) (by rfl) ?_ (by assumption) ?_
        rotate_left
        · (intro wq hSw; obtain hS1 := hSw; go_simp; first | done | with_reducible rfl)
        simp only [Act.put, List.setIfInBounds_toArray, List.set_cons_zero, List.set_cons_succ]
        refine wpAnyH_ready (rs := [6]) (by kernel_rfl) (by simp) ?_
        refine AllReadyH.cons rfl (fun K0 hK => ?_) AllReadyH.nil
        go_simp
        refine (jplace_says (w := wr.drew) (L := L) H.out.box HL.out k (by omega)).mono ?_
        rintro e w3 ⟨rfl, hb3⟩
        rw [hnn]
        have H3 := Lib.hid (H.out.below (show Below wr.heap.size wr w3 from ⟨hb3.os, hb3.tape, hb3.output, hb3.size, hb3.block⟩))
        clear hb3
        refine hK.out _ _ ((Box.cell H3.out.box 0).trans rfl) (fun hHeld => ?_)
        clear hK K0
        try simp only [Act.put, List.setIfInBounds_toArray, List.set_cons_zero, List.set_cons_succ]
        refine wpAnyH_ready (rs := [7]) (by kernel_rfl) (by simp) ?_
        refine AllReadyH.cons rfl (fun K0 hK => ?_) AllReadyH.nil
        go_simp
        refine (read_down H3.out.dev HOP.out hdn (nn : Int) HIN.out).mono ?_
        rintro e w4 ⟨rfl, hd4, ht4⟩
        have hx4 := ht4.box H3.out.box hpK
        have HZ := Lib.hid (And.intro hd4 (H3.out.touch.trans (ht4.mono (fun _ q => .inl q))))
        clear hd4 ht4
        refine hK.out _ _ ((Box.cell hx4 0).trans rfl) (fun hHeld => ?_)
        clear hK K0 hx4
        try simp only [Act.put, List.setIfInBounds_toArray, List.set_cons_zero, List.set_cons_succ]
        refine take_run 8 19 (v := ?_) rfl rfl (by kernel_rfl) (by kernel_rfl) (by kernel_rfl) (fun _ _ _ h => h) (by rfl) ?_ (by assumption) ?_
        rotate_left
        · (intro wq hSw; obtain hS1 := hSw; go_simp; first | done | with_reducible rfl)
        simp only [Act.put, List.setIfInBounds_toArray, List.set_cons_zero, List.set_cons_succ]
        refine take_run 9 28 (v := ?_) rfl rfl (by kernel_rfl) (by kernel_rfl) (by kernel_rfl) (fun _ _ _ h => h) (by rfl) ?_ (by assumption) ?_
        rotate_left
        · (intro wq hSw; obtain hS1 := hSw; go_simp; first | done | with_reducible rfl)
        simp only [Act.put, List.setIfInBounds_toArray, List.set_cons_zero, List.set_cons_succ]
        refine take_run 10 29 (v := ?_) rfl rfl (by kernel_rfl) (by kernel_rfl) (by kernel_rfl) (fun _ _ _ h => h) (by rfl) ?_ (by assumption) ?_
        rotate_left
        · (intro wq hSw; obtain hS1 := hSw; go_simp; first | done | with_reducible rfl)
        simp only [Act.put, List.setIfInBounds_toArray, List.set_cons_zero, List.set_cons_succ]
        refine take_run 11 6 (v := ?_) rfl rfl (by kernel_rfl) (by kernel_rfl) (by kernel_rfl) (fun _ _ _ h => h) (by rfl) ?_ (by assumption) ?_
        rotate_left
        · (intro wq hSw; obtain hS1 := hSw; go_simp; first | done | with_reducible rfl)
        simp only [Act.put, List.setIfInBounds_toArray, List.set_cons_zero, List.set_cons_succ]
        refine take_run 12 7 (v := ?_) rfl rfl (by kernel_rfl) (by kernel_rfl) (by kernel_rfl) (fun _ _ _ h => h) (by rfl) ?_ (by assumption) ?_
        rotate_left
        · (intro wq hSw; obtain hS1 := hSw; go_simp; first | done | with_reducible rfl)
        simp only [Act.put, List.setIfInBounds_toArray, List.set_cons_zero, List.set_cons_succ]
        refine wpAnyH_done (by kernel_rfl) ?_ _
        refine KK.out _ _ ?_
        clear KK KX
        have hrr : R = (false, D'.call) := by rw [← HR.out, H.out.same, hn, show n - k = (n - k - 1) + 1 by omega, blkTo, if_pos hdn]
        have HRR := Lib.hid hrr
        clear hrr hdn
        go_wp2_with fail
        go_ret2
        rw [HRR.out]
        exact ⟨HZ.out.1, HZ.out.2, (fun _ => rfl), (fun h => (by simp at h))⟩
      | false =>
        go_upto_region 5 with fail
        rename_i KX kx
        have KK := Lib.hid kx
        clear kx
        refine wp_region_held_drew (S := fun x => x.cell? ⟨p, 0, none⟩ = some (.pointer (some ⟨dp, 0, none⟩))) (by kernel_rfl) hd0 (fun hHeld => ?_)
        refine take_run 0 20 (v := ?_) rfl rfl (by kernel_rfl) (by kernel_rfl) (by kernel_rfl) (fun _ _ _ h => h) (by rfl) ?_ (by assumption) ?_
        rotate_left
        · (intro wq hSw; obtain hS1 := hSw; go_simp; first | done | with_reducible rfl)
        simp only [Act.put, List.setIfInBounds_toArray, List.set_cons_zero, List.set_cons_succ]
        refine take_run 1 21 (v := ?_) rfl rfl (by kernel_rfl) (by kernel_rfl) (by kernel_rfl) (fun _ _ _ h => h) (by rfl) ?_ (by assumption) ?_
        rotate_left
        · (intro wq hSw; obtain hS1 := hSw; go_simp; first | done | with_reducible rfl)
        simp only [Act.put, List.setIfInBounds_toArray, List.set_cons_zero, List.set_cons_succ]
        refine take_run 2 22 (v := ?_) rfl rfl (by kernel_rfl) (by kernel_rfl) (by kernel_rfl) (fun _ _ _ h => h) (by rfl) ?_ (by assumption) ?_
        rotate_left
        · (intro wq hSw; obtain hS1 := hSw; go_simp; first | done | with_reducible rfl)
        simp only [Act.put, List.setIfInBounds_toArray, List.set_cons_zero, List.set_cons_succ]
        refine take_run 3 23 (v := ?_) rfl rfl (by kernel_rfl) (by kernel_rfl) (by kernel_rfl) (fun _ _ _ h => h) (by rfl) ?_ (by assumption) ?_
        rotate_left
        · (intro wq hSw; obtain hS1 := hSw; go_simp; first | done | with_reducible rfl)
        simp only [Act.put, List.setIfInBounds_toArray, List.set_cons_zero, List.set_cons_succ]
        refine take_run 4 24 (v := ?_) rfl rfl (by kernel_rfl) (by kernel_rfl) (by kernel_rfl) (fun _ _ _ h => h) (by rfl) ?_ (by assumption) ?_
        rotate_left
        · (intro wq hSw; obtain hS1 := hSw; go_simp; first | done | with_reducible rfl)
        simp only [Act.put, List.setIfInBounds_toArray, List.set_cons_zero, List.set_cons_succ]
        refine take_run 5 25 (v := ?_) rfl rfl (by kernel_rfl) (by kernel_rfl) (by kernel_rfl) (fun _ _ _ h => h) (by rfl) ?_ (by assumption) ?_
        rotate_left
        · (intro wq hSw; obtain hS1 := hSw; go_simp; first | done | with_reducible rfl)
        simp only [Act.put, List.setIfInBounds_toArray, List.set_cons_zero, List.set_cons_succ]
        refine wpAnyH_ready (rs := [6]) (by kernel_rfl) (by simp) ?_
        refine AllReadyH.cons rfl (fun K0 hK => ?_) AllReadyH.nil
        go_simp
        refine (jplace_says (w := wr.drew) (L := L) H.out.box HL.out k (by omega)).mono ?_
        rintro e w3 ⟨rfl, hb3⟩
        rw [hnn]
        have H3 := Lib.hid (H.out.below (show Below wr.heap.size wr w3 from ⟨hb3.os, hb3.tape, hb3.output, hb3.size, hb3.block⟩))
        clear hb3
        refine hK.out _ _ ((Box.cell H3.out.box 0).trans rfl) (fun hHeld => ?_)
        clear hK K0
        try simp only [Act.put, List.setIfInBounds_toArray, List.set_cons_zero, List.set_cons_succ]
        refine wpAnyH_ready (rs := [7]) (by kernel_rfl) (by simp) ?_
        refine AllReadyH.cons rfl (fun K0 hK => ?_) AllReadyH.nil
        go_simp
        refine (read_up H3.out.dev HOP.out hdn nn HIN2.out).mono ?_
        rintro e w4 ⟨g4, rfl, hB4, hg4, hd4, ht4⟩
        have hx4 := ht4.box H3.out.box hpK
        have hlt3 := H3.out.tab.lt
        have H4 := Lib.hid (And.intro (H3.out.touched ht4 hd4 hKw hpK hmK HJ.out) (And.intro hB4 hg4))
        clear hd4 ht4 hB4 hg4
        refine hK.out _ _ ((Box.cell hx4 0).trans rfl) (fun hHeld => ?_)
        clear hK K0 hx4
        try simp only [Act.put, List.setIfInBounds_toArray, List.set_cons_zero, List.set_cons_succ]
        refine take_run 8 19 (v := ?_) rfl rfl (by kernel_rfl) (by kernel_rfl) (by kernel_rfl) (fun _ _ _ h => h) (by rfl) ?_ (by assumption) ?_
        rotate_left
        · (intro wq hSw; obtain hS1 := hSw; go_simp; first | done | with_reducible rfl)
        simp only [Act.put, List.setIfInBounds_toArray, List.set_cons_zero, List.set_cons_succ]
        refine take_run 9 28 (v := ?_) rfl rfl (by kernel_rfl) (by kernel_rfl) (by kernel_rfl) (fun _ _ _ h => h) (by rfl) ?_ (by assumption) ?_
        rotate_left
        · (intro wq hSw; obtain hS1 := hSw; go_simp; first | done | with_reducible rfl)
        simp only [Act.put, List.setIfInBounds_toArray, List.set_cons_zero, List.set_cons_succ]
        refine take_run 10 29 (v := ?_) rfl rfl (by kernel_rfl) (by kernel_rfl) (by kernel_rfl) (fun _ _ _ h => h) (by rfl) ?_ (by assumption) ?_
        rotate_left
        · (intro wq hSw; obtain hS1 := hSw; go_simp; first | done | with_reducible rfl)
        simp only [Act.put, List.setIfInBounds_toArray, List.set_cons_zero, List.set_cons_succ]
        refine take_run 11 6 (v := ?_) rfl rfl (by kernel_rfl) (by kernel_rfl) (by kernel_rfl) (fun _ _ _ h => h) (by rfl) ?_ (by assumption) ?_
        rotate_left
        · (intro wq hSw; obtain hS1 := hSw; go_simp; first | done | with_reducible rfl)
        simp only [Act.put, List.setIfInBounds_toArray, List.set_cons_zero, List.set_cons_succ]
        refine take_run 12 7 (v := ?_) rfl rfl (by kernel_rfl) (by kernel_rfl) (by kernel_rfl) (fun _ _ _ h => h) (by rfl) ?_ (by assumption) ?_
        rotate_left
        · (intro wq hSw; obtain hS1 := hSw; go_simp; first | done | with_reducible rfl)
        simp only [Act.put, List.setIfInBounds_toArray, List.set_cons_zero, List.set_cons_succ]
        refine wpAnyH_done (by kernel_rfl) ?_ _
        refine KK.out _ _ ?_
        clear KK KX
        have hstep : blkTo (n - k) D' = blkTo (n - (k + 1)) D'.call := by rw [show n - k = (n - (k + 1)) + 1 by omega, blkTo, if_neg (by rw [hdn]; simp)]
        have HST := Lib.hid hstep
        have hblk : D'.blk nn = D.blk nn := by unfold Dv.blk; rw [H.out.calm.1]
        have HBK := Lib.hid hblk
        have HHN := Lib.hid hnn
        have HKK := Lib.hid (And.intro H.out.same H.out.calm)
        clear hstep hblk hdn H3 H hd0
        go_upto_region 9 with (first
          | (go_at_call 85; refine (jplace_says (w := w4) (L := L) H4.out.1.1 HL.out k (by omega)).mono ?_; rintro e w5 ⟨rfl, hb5⟩; rw [HHN.out]; have H5 := Lib.hid hb5; clear hb5)
          | (go_at_call 86; refine (jmind_says (x := D'.blk nn) (J := fun b => J b ∨ w.heap.size < b) (q := q + k) (al := mindTo L D al k) (H4.out.1.1.below H5.out H4.out.1.1.lt) ((H4.out.1.2.2.2.2.1).touch (Touch.of_below (K := fun _ => False) H5.out) (fun q => q) (fun _ _ q => q)) (by omega) (fun z => z.elim hmJ (fun z => by omega)) (by have := HIN2.out; have := congrArg List.length (HKK.out.2).1; omega) ((Box.toLies (H4.out.2.1.below H5.out H4.out.2.1.lt) (be_length _) (Nat.le_refl _))) (by have := H4.out.2.2; omega) hpm).mono ?_; rintro e w6 ⟨rfl, hw6, ht6⟩; have H6 := Lib.hid (And.intro hw6 ht6); clear hw6 ht6))
        have hb45 : Touch (fun _ => False) w4 w5 := Touch.of_below H5.out
        obtain ⟨x1, x2, x3, x4, x5, x6⟩ := H4.out.1
        obtain ⟨y1, y2⟩ := H6.out
        have b5 := x1.below H5.out x1.lt
        have b6 := y2.box b5 hpm
        have d6 : Dev w6 K dp D'.call := y2.dev (x2.below H5.out) (fun b hb e => hmK (e ▸ hb))
        have t6 := y2.box (x3.below H5.out x3.lt) (by omega)
        have r6 := (x4.keep hb45 (fun _ _ _ q => q)).keep y2 (fun b hb _ e => by omega)
        have l6 := (H4.out.2.1.below H5.out H4.out.2.1.lt)
        have l6' := y2.box l6 (by have := H4.out.2.2; have := x3.lt; omega)
        have ht6 : Touch (fun b => K b ∨ b = ma) w w6 := (x6.trans (Touch.of_below H5.out)).trans (y2.mono (fun _ q => .inr q))
        have hvl : vs.length = k := by rw [x4.1, logBks_length]
        have hg4 := H4.out.2.2
        have hlt4 := x3.lt
        rw [hn] at t6
        have ct : w6.cell? ⟨w.heap.size, k, none⟩ = some (.slice none 0 0) := by
          rw [Box.cell t6, List.getElem?_toArray, List.getElem?_append_right (by rw [List.length_map, hvl]; exact Nat.le_refl _), List.length_map, hvl, Nat.sub_self, List.getElem?_replicate, if_pos (by omega)]
        have cf := Box.frozen t6 k
        have h7 : BLI w K p dp ma u J q al L D (k + 1) (vs ++ [(g4, 256)]) D'.call (w6.setCell ⟨w.heap.size, k, none⟩ (.slice (some ⟨g4, 0, none⟩) 256 256)) := by
          have ht7 : Touch (fun b => b = w.heap.size) w6 (w6.setCell ⟨w.heap.size, k, none⟩ (.slice (some ⟨g4, 0, none⟩) 256 256)) := Touch.set (K := fun b => b = w.heap.size) rfl (Touch.refl _ _) _
          refine ⟨ht7.box b6 (fun e => by omega), ht7.dev d6 (fun b hb e => by have := hKw b hb; omega), ?_, ?_, ?_, ?_, ?_, ?_⟩
          · rw [HKK.out.1, hn, HST.out]
          · exact HKK.out.2.call
          · have := Box.put t6 k (.slice (some ⟨g4, 0, none⟩) 256 256)
            rw [hn]
            rwa [tab_step vs g4 n k hvl (by omega)] at this
          · rw [logBks_succ, HHN.out, ← HBK.out]
            exact (r6.snoc (v := (g4, 256)) (by omega) (Box.toLies l6' (be_length _) (Nat.le_refl _))).keep ht7 (fun b hb _ e => by omega)
          · have hw6 := (y1.weak (J' := fun b => J b ∨ w.heap.size < b) (fun b _ h => h.elim (fun z => z) (fun z => .inr (by omega)))).touch ht7 (by omega) (fun b hb e => hb.elim (fun z => by have := HJ2.out b z; omega) (fun z => by omega))
            rw [mindTo, HHN.out, ← HBK.out]
            exact hw6
          · exact ht6.trans' ht7 (fun b e => .inr (by omega))
        have H7 := Lib.hid h7
        clear hb45 x1 x2 x3 x4 x5 x6 y1 y2 b5 b6 d6 t6 r6 l6 l6' ht6 hvl h7
        go_wp2_with fail
        go_roundw
        case rel => exact ⟨k + 1, vs ++ [(g4, 256)], D'.call, by omega, by go_num, H7⟩
        case measure => simp [intOf]; omega
    · obtain rfl : n = k := by omega
      have hrr : R = (true, D') := by rw [← HR.out, H.out.same, hn, Nat.sub_self]; rfl
      have HRR := Lib.hid hrr
      clear hrr
      go_wp2_with fail
      go_ret2
      rw [HRR.out]
      refine ⟨H.out.dev, H.out.touch, (fun h => (by simp at h)), fun _ => ⟨rfl, vs, ?_, H.out.rws, H.out.wet⟩⟩
      have := H.out.tab
      rwa [hn, Nat.sub_self, List.replicate_zero, List.append_nil] at this
end
end Go.Proofs.YtnhondkdkjehaaaGreat
