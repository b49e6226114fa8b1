/-
  Read: a block for use.
-/
import Derived.Test.YtnhondkdkjehaaaGreatJWet
import Derived.Test.YtnhondkdkjehaaaGreatJSm
namespace Go.Proofs.YtnhondkdkjehaaaGreat
open Go.RowKit

set_option linter.unusedVariables false
set_option linter.unusedSimpArgs false
theorem below_touch3 {K : Nat → Prop} {w w1 w2 : World} (hb : Below w.heap.size w w1) (ht : Touch K w1 w2) : Touch K w w2 := (Touch.of_below hb).trans ht
section
variable {av : Value}
variable {w : World} {K J : Nat → Prop} {p dp mb q : Nat} {L : Lg} {D : Dv} {wet : Nat → Option Bk}
set_option maxRecDepth 100000 in
set_option maxHeartbeats 4000000 in
/-- Of a block that is not laid. -/
theorem jread_wet (hb : Box w p 81 (lc dp (.map (some mb), av) L)) (hL : L.Ok) (hd : Dev w K dp D) (hdn : D.down = false) (hp : ¬ K p) (hpm : p ≠ mb) (hpJ : ¬ J p) (hw : WetAt w mb J q wet) (i : Nat) (x : Bk) (hx : wet i = some x) (hi : (i : Int) < homeOf D L) :
    Calls Tryz.prog 23 #[.pointer (some ⟨p, 0, none⟩), .int .i64 (i : Int)] w fun e w' => (∃ g cap, e = .returned (.tuple #[.slice (some ⟨g, 0, none⟩) 256 cap, .int .i64 0]) ∧ w.heap.size ≤ g ∧ Lies w' (fun k => k = g) (some ⟨g, 0, none⟩) 256 cap (bc x.1)) ∧ Box w' p 81 (lc dp (.map (some mb), av) L) ∧ Touch (fun k => k = p) w w' := by
  have hl : 0 ≤ L.h.log ∧ L.h.log ≤ 4096 := ⟨by have := hL.log0; omega, hL.log1⟩
  have HST := Lib.hid (jstate_says hb hL.up hd hdn)
  obtain ⟨w1, hw1⟩ : ∃ y, w.setCell ⟨p, 10, none⟩ (.bool false) = y := ⟨_, rfl⟩
  rw [hw1] at HST
  have hb1 : Box w1 p 81 (lc dp (.map (some mb), av) L) := by rw [← hw1]; exact box_up hb hL.up
  have ht1 : Touch (fun k => k = p) w w1 := by rw [← hw1]; exact Touch.set (K := fun k => k = p) rfl (Touch.refl _ _) _
  have hd1 : Dev w1 K dp D := ht1.dev hd (fun k h1 h2 => hp (h2 ▸ h1))
  have hw1' := hw.touch ht1 (fun e => hpm e.symm) (fun k h1 h2 => hpJ (h2 ▸ h1))
  obtain ⟨n, DW, hm1, hnq, hall⟩ := hw1'
  obtain ⟨hhas, g, c, hat, hJg, hli⟩ := (hall i).2 x hx
  have hmost := hd.1.most
  have hiu : i ≤ 1000000 := by unfold homeOf at hi; have := hL.log0; omega
  have HHA := Lib.hid (show Calls Tryz.prog 58 #[.pointer (some ⟨p, 0, none⟩), .int .i64 (i : Int)] w1 fun e w' => e = .returned (.bool true) ∧ w' = w1 from by
    have := jhas_says hb1 hl hd1 (i : Int)
    rwa [decide_eq_true (show 0 ≤ (i : Int) ∧ (i : Int) < homeOf D L from ⟨by omega, hi⟩)] at this)
  have c8 : w1.cell? ⟨p, 8, none⟩ = some (.map (some mb)) := (Box.cell hb1 8).trans rfl
  have HCL := Lib.hid (jclone_says w1 (some ⟨g, 0, none⟩) c x.1 (hli.weak (fun _ _ _ => trivial)))
  have HM1 := Lib.hid hm1
  have HAT := Lib.hid (And.intro hhas hat)
  have H1 := Lib.hid (And.intro hb1 ht1)
  clear hb hd hw hm1 hall hhas hat hli hb1 ht1 hd1 hw1 hx hi
  go_enter Tryz.func23, Tryz.ntmps23
  go_upto_region 6 with (first
    | (go_at_call 39; refine HST.out.mono ?_; rintro e wn ⟨rfl, hwn⟩; obtain rfl : w1 = wn := hwn.symm; clear hwn)
    | (go_at_call 58; refine HHA.out.mono ?_; rintro e wn ⟨rfl, hwn⟩; obtain rfl : w1 = wn := hwn.symm; clear hwn))
  go_wp2_with (at_lookup; refine wpList_lookup_own_ok _ rfl _ _ 79 rfl 3 49 intKey Tryz.underlying79 rowEl (zeroRow _) .nil [] rowEl_nil mb n DW rfl HM1.out (.int .i64 (i : Int)) (.int .i64 (i : Int)) rfl (keyInt i hiu) ?_; intro v ps hv; rw [HAT.out.1]; rw [HAT.out.2] at hv; obtain rfl := rowEl_inv hv; clear hv)
  refine HCL.out.mono ?_
  rintro e w2 ⟨g2, cap, rfl, hg2, hl2, hb2⟩
  have HZ := Lib.hid (And.intro (Nat.le_trans H1.out.2.size hg2) (And.intro hl2 (And.intro (Box.below H1.out.1 hb2 H1.out.1.lt) (H1.out.2.trans (Touch.of_below hb2)))))
  clear hg2 hl2 hb2
  go_wp2
  go_ret2
  exact ⟨⟨g2, cap, rfl, HZ.out.1, HZ.out.2.1⟩, HZ.out.2.2⟩
set_option maxRecDepth 100000 in
set_option maxHeartbeats 4000000 in
/-- Of a block that is laid. -/
theorem jread_dry (hb : Box w p 81 (lc dp (.map (some mb), av) L)) (hL : L.Ok) (hd : Dev w K dp D) (hdu : D.down = false) (hdn : D.call.down = false) (ho : D.ops ≤ 80000) (hp : ¬ K p) (hpm : p ≠ mb) (hpJ : ¬ J p) (hw : WetAt w mb J q wet) (i : Nat) (hx : wet i = none) (hi : (i : Int) < homeOf D L) :
    Calls Tryz.prog 23 #[.pointer (some ⟨p, 0, none⟩), .int .i64 (i : Int)] w fun e w' => (∃ g, e = .returned (.tuple #[.slice (some ⟨g, 0, none⟩) 256 256, .int .i64 0]) ∧ w.heap.size ≤ g ∧ Box w' g 5 (be (D.blk (2 + L.h.log.toNat + i))).toArray) ∧ Box w' p 81 (lc dp (.map (some mb), av) L) ∧ Dev w' K dp D.call ∧ Touch (fun k => K k ∨ k = p) w w' := by
  have hl : 0 ≤ L.h.log ∧ L.h.log ≤ 4096 := ⟨by have := hL.log0; omega, hL.log1⟩
  have HST := Lib.hid (jstate_says hb hL.up hd hdu)
  obtain ⟨w1, hw1⟩ : ∃ y, w.setCell ⟨p, 10, none⟩ (.bool false) = y := ⟨_, rfl⟩
  rw [hw1] at HST
  have hb1 : Box w1 p 81 (lc dp (.map (some mb), av) L) := by rw [← hw1]; exact box_up hb hL.up
  have ht1 : Touch (fun k => k = p) w w1 := by rw [← hw1]; exact Touch.set (K := fun k => k = p) rfl (Touch.refl _ _) _
  have hd1 : Dev w1 K dp D := ht1.dev hd (fun k h1 h2 => hp (h2 ▸ h1))
  have hw1' := hw.touch ht1 (fun e => hpm e.symm) (fun k h1 h2 => hpJ (h2 ▸ h1))
  obtain ⟨n, DW, hm1, hnq, hall⟩ := hw1'
  have hhas := (hall i).1 hx
  have hmost := hd.1.most
  have hiu : i ≤ 1000000 := by unfold homeOf at hi; have := hL.log0; omega
  have HHA := Lib.hid (show Calls Tryz.prog 58 #[.pointer (some ⟨p, 0, none⟩), .int .i64 (i : Int)] w1 fun e w' => e = .returned (.bool true) ∧ w' = w1 from by
    have := jhas_says hb1 hl hd1 (i : Int)
    rwa [decide_eq_true (show 0 ≤ (i : Int) ∧ (i : Int) < homeOf D L from ⟨by omega, hi⟩)] at this)
  have c8 : w1.cell? ⟨p, 8, none⟩ = some (.map (some mb)) := (Box.cell hb1 8).trans rfl
  have kd : w1.drew.cell? ⟨p, 0, none⟩ = some (.pointer (some ⟨dp, 0, none⟩)) := (Box.cell hb1 0).trans rfl
  obtain ⟨nn, hnn⟩ : ∃ m, 2 + L.h.log.toNat + i = m := ⟨_, rfl⟩
  have HPJ := Lib.hid (show Calls Tryz.prog 50 #[.pointer (some ⟨p, 0, none⟩), .int .i64 (i : Int)] w1.drew fun e w' => e = .returned (.int .i64 (nn : Int)) ∧ Below w1.drew.heap.size w1.drew w' from by
    have := jblock_says (w := w1.drew) (p := p) (dp := dp) (u := (.map (some mb), av)) (L := L) hb1 hl (i : Int) (by omega)
    rw [show 2 + L.h.log + (i : Int) = (nn : Int) by omega] at this
    exact this.mono (fun e w' h => ⟨h.1, by rw [h.2]; exact Below.refl _ _⟩))
  have hn6 : nn < D.bs.length := by unfold homeOf at hi; omega
  have HIN := Lib.hid hn6
  have HOPS := Lib.hid (show D.ops ≤ 80000 from ho)
  have HD1 := Lib.hid hd1
  rw [hnn]
  have HM1 := Lib.hid hm1
  have HAT := Lib.hid hhas
  have H1 := Lib.hid (And.intro hb1 ht1)
  have hup := hL.up
  clear hb hd hw hm1 hall hhas hb1 ht1 hd1 hw1 hx hi hnn
  go_enter Tryz.func23, Tryz.ntmps23
  go_upto_region 6 with (first
    | (go_at_call 39; refine HST.out.mono ?_; rintro e wn ⟨rfl, hwn⟩; obtain rfl : w1 = wn := hwn.symm; clear hwn)
    | (go_at_call 58; refine HHA.out.mono ?_; rintro e wn ⟨rfl, hwn⟩; obtain rfl : w1 = wn := hwn.symm; clear hwn))
  go_upto_region 9 with (at_lookup; refine wpList_lookup_own_ok _ rfl _ _ 79 rfl 3 49 intKey Tryz.underlying79 rowEl (zeroRow _) .nil [] rowEl_nil mb n DW rfl HM1.out (.int .i64 (i : Int)) (.int .i64 (i : Int)) rfl (keyInt i hiu) ?_; intro v ps hv; rw [HAT.out]; clear hv)
  go_upto_region 9 with fail
  rename_i KX kx
  have KK := Lib.hid kx
  clear kx
  refine wp_region_held_drew (S := fun u => u.cell? ⟨p, 0, none⟩ = some (.pointer (some ⟨dp, 0, none⟩))) (by kernel_rfl) ((Box.cell (show Box w1.drew p _ _ from H1.out.1) 0).trans rfl) (fun hHeld => ?_)
  refine take_run 0 33 (v := ?_) rfl rfl (by kernel_rfl) (by kernel_rfl) (by kernel_rfl) (fun _ _ _ h => h) (by rfl) ?_ (by assumption) ?_
  rotate_left
  · (intro wq hSw; have hS1 := hSw; go_simp; first | done | with_reducible rfl)
  simp only [Act.put, List.setIfInBounds_toArray, List.set_cons_zero, List.set_cons_succ]
  refine take_run 1 34 (v := ?_) rfl rfl (by kernel_rfl) (by kernel_rfl) (by kernel_rfl) (fun _ _ _ h => h) (by rfl) ?_ (by assumption) ?_
  rotate_left
  · (intro wq hSw; have hS1 := hSw; go_simp; first | done | with_reducible rfl)
  simp only [Act.put, List.setIfInBounds_toArray, List.set_cons_zero, List.set_cons_succ]
  refine take_run 2 35 (v := ?_) rfl rfl (by kernel_rfl) (by kernel_rfl) (by kernel_rfl) (fun _ _ _ h => h) (by rfl) ?_ (by assumption) ?_
  rotate_left
  · (intro wq hSw; have hS1 := hSw; go_simp; first | done | with_reducible rfl)
  simp only [Act.put, List.setIfInBounds_toArray, List.set_cons_zero, List.set_cons_succ]
  refine take_run 3 36 (v := ?_) rfl rfl (by kernel_rfl) (by kernel_rfl) (by kernel_rfl) (fun _ _ _ h => h) (by rfl) ?_ (by assumption) ?_
  rotate_left
  · (intro wq hSw; have hS1 := hSw; go_simp; first | done | with_reducible rfl)
  simp only [Act.put, List.setIfInBounds_toArray, List.set_cons_zero, List.set_cons_succ]
  refine take_run 4 37 (v := ?_) rfl rfl (by kernel_rfl) (by kernel_rfl) (by kernel_rfl) (fun _ _ _ h => h) (by rfl) ?_ (by assumption) ?_
  rotate_left
  · (intro wq hSw; have hS1 := hSw; go_simp; first | done | with_reducible rfl)
  simp only [Act.put, List.setIfInBounds_toArray, List.set_cons_zero, List.set_cons_succ]
  refine take_run 5 38 (v := ?_) rfl rfl (by kernel_rfl) (by kernel_rfl) (by kernel_rfl) (fun _ _ _ h => h) (by rfl) ?_ (by assumption) ?_
  rotate_left
  · (intro wq hSw; have hS1 := hSw; go_simp; first | done | with_reducible rfl)
  simp only [Act.put, List.setIfInBounds_toArray, List.set_cons_zero, List.set_cons_succ]
  refine wpAnyH_ready (rs := [6]) (by kernel_rfl) (by simp) ?_
  refine AllReadyH.cons rfl (fun KR hK => ?_) AllReadyH.nil
  go_simp
  refine (HPJ.out).mono ?_
  rintro e w2 ⟨rfl, hb2⟩
  have hb2 : Below w1.heap.size w1 w2 := ⟨hb2.os, hb2.tape, hb2.output, hb2.size, hb2.block⟩
  have hx2 := Box.below (H1.out.1) hb2 (H1.out.1).lt
  have hd2 : Dev w2 K dp D := (HD1.out).below hb2
  have H2 := Lib.hid (And.intro hb2 (And.intro hx2 hd2))
  clear hb2 hd2
  refine hK.out _ _ ((Box.cell hx2 0).trans rfl) (fun hHeld => ?_)
  clear hK KR
  try simp only [Act.put, List.setIfInBounds_toArray, List.set_cons_zero, List.set_cons_succ]
  clear hHeld hx2
  refine wpAnyH_ready (rs := [7]) (by kernel_rfl) (by simp) ?_
  refine AllReadyH.cons rfl (fun KR hK9 => ?_) AllReadyH.nil
  go_simp
  refine (read_up H2.out.2.2 (by have := HOPS.out; omega) hdn nn HIN.out).mono ?_
  rintro e w3 ⟨g3, rfl, hx3g, hg3, hd3, ht3⟩
  have hx3 := ht3.box H2.out.2.1 hp
  have H3 := Lib.hid (And.intro hd3 (And.intro (below_touch3 H2.out.1 ht3) (And.intro hx3g (Nat.le_trans H2.out.1.size hg3))))
  clear hx3g hg3
  clear hd3 ht3
  refine hK9.out _ _ ((Box.cell hx3 0).trans rfl) (fun hHeld => ?_)
  clear hK9 KR hx3
  try simp only [Act.put, List.setIfInBounds_toArray, List.set_cons_zero, List.set_cons_succ]
  refine take_run 8 32 (v := ?_) rfl rfl (by kernel_rfl) (by kernel_rfl) (by kernel_rfl) (fun _ _ _ h => h) (by rfl) ?_ (by assumption) ?_
  rotate_left
  · (intro wq hSw; have hS1 := hSw; go_simp; first | done | with_reducible rfl)
  simp only [Act.put, List.setIfInBounds_toArray, List.set_cons_zero, List.set_cons_succ]
  refine take_run 9 41 (v := ?_) rfl rfl (by kernel_rfl) (by kernel_rfl) (by kernel_rfl) (fun _ _ _ h => h) (by rfl) ?_ (by assumption) ?_
  rotate_left
  · (intro wq hSw; have hS1 := hSw; go_simp; first | done | with_reducible rfl)
  simp only [Act.put, List.setIfInBounds_toArray, List.set_cons_zero, List.set_cons_succ]
  refine take_run 10 42 (v := ?_) rfl rfl (by kernel_rfl) (by kernel_rfl) (by kernel_rfl) (fun _ _ _ h => h) (by rfl) ?_ (by assumption) ?_
  rotate_left
  · (intro wq hSw; have hS1 := hSw; go_simp; first | done | with_reducible rfl)
  simp only [Act.put, List.setIfInBounds_toArray, List.set_cons_zero, List.set_cons_succ]
  refine take_run 11 9 (v := ?_) rfl rfl (by kernel_rfl) (by kernel_rfl) (by kernel_rfl) (fun _ _ _ h => h) (by rfl) ?_ (by assumption) ?_
  rotate_left
  · (intro wq hSw; have hS1 := hSw; go_simp; first | done | with_reducible rfl)
  simp only [Act.put, List.setIfInBounds_toArray, List.set_cons_zero, List.set_cons_succ]
  refine take_run 12 10 (v := ?_) rfl rfl (by kernel_rfl) (by kernel_rfl) (by kernel_rfl) (fun _ _ _ h => h) (by rfl) ?_ (by assumption) ?_
  rotate_left
  · (intro wq hSw; have hS1 := hSw; go_simp; first | done | with_reducible rfl)
  simp only [Act.put, List.setIfInBounds_toArray, List.set_cons_zero, List.set_cons_succ]
  refine wpAnyH_done (by kernel_rfl) ?_ _
  refine KK.out _ _ ?_
  clear KK KX hHeld H2
  have HB3 := Lib.hid (H3.out.2.1.box H1.out.1 hp)
  have HNO := Lib.hid (jnoted_ok HB3.out hup)
  have hgp : g3 ≠ p := by have := H1.out.1.lt; have h1 := H3.out.2.2.2; omega
  have ht3 : Touch (fun k => k = p) w3 (w3.setCell ⟨p, 10, none⟩ (.bool false)) := Touch.set (K := fun k => k = p) rfl (Touch.refl _ _) _
  have HZ := Lib.hid (And.intro (show w.heap.size ≤ g3 from Nat.le_trans H1.out.2.size H3.out.2.2.2) (And.intro (ht3.box H3.out.2.2.1 hgp) (And.intro (box_up HB3.out hup) (And.intro (ht3.dev H3.out.1 (fun k h1 h2 => hp (h2 ▸ h1))) ((H1.out.2.mono (K' := fun k => K k ∨ k = p) (fun k h => .inr h)).trans ((H3.out.2.1.mono (fun k h => .inl h)).trans (ht3.mono (fun k h => .inr h))))))))
  clear ht3 hgp HD1 HB3 H3
  go_wp2_with (go_at_call 54; refine HNO.out.mono ?_; rintro e w4 ⟨rfl, rfl⟩)
  go_ret2
  exact ⟨⟨g3, rfl, HZ.out.1, HZ.out.2.1⟩, HZ.out.2.2⟩
end
end Go.Proofs.YtnhondkdkjehaaaGreat
