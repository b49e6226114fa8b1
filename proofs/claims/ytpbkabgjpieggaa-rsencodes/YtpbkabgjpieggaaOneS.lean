/-
  The laws' small play: shards that make data again.
-/
import Derived.Test.YtpbkabgjpieggaaDecIs
namespace Go.Proofs.Ytpbkabgjpieggaa
open Go.RowKit

theorem lit_lev : Lev 2 2 [[1, 2], [3, 4]] := ⟨rfl, fun r hr => by simp at hr; rcases hr with rfl | rfl <;> rfl⟩
set_option maxRecDepth 100000 in
set_option maxHeartbeats 4000000 in
theorem one_says (w : World) : Calls Try.prog 10 #[] w fun e w' => e = .returned (.bool true) ∧ Below w.heap.size w w' := by
  have HB := Lib.hid (Below.refl w.heap.size w)
  go_enter Try.func10, Try.ntmps10
  go_wp2_with (go_at_call 9; refine (rnew_yes w 2 2 (by omega) (by omega)).mono ?_; rintro e w1 ⟨p, rfl, hc1, hp1, hb1⟩; have HC1 := Lib.hid (And.intro hc1 hb1); clear hc1 hb1)
  have hw2 : Below w1.heap.size w1 (((w1.alloc (.cells #[.int .u8 1, .int .u8 2] 5)).alloc (.cells #[.int .u8 3, .int .u8 4] 5)).alloc (.cells #[.slice (some ⟨w1.heap.size, 0, none⟩) 2 2, .slice (some ⟨w1.heap.size + 1, 0, none⟩) 2 2] 31)) := (((Below.refl _ w1).alloc (Nat.le_refl _) _).alloc (by simp) _).alloc (by simp; omega) _
  have hs2 := Mtx.shd (lit_b w1 1 2 3 4) (by intro r hr; simp at hr; rcases hr with rfl | rfl <;> decide)
  have hE := encode_yes _ p 2 2 (HC1.out.1.below hw2) (by omega) (by omega) _ 2 2 _ hs2 2 ⟨rfl, by decide, by decide⟩ (by rw [bytesOf_some]; exact lit_lev) (by omega)
  rw [bytesOf_some] at hE
  refine hE.mono ?_
  rintro e w3 ⟨g3, B3, rfl, hF3⟩
  have HF3 := Lib.hid (hF3.since hw2)
  have HC3 := Lib.hid (HC1.out.1.below (hw2.trans (hF3.below.mono hw2.size)))
  clear hE hw2 hs2 hF3
  obtain ⟨E, hE⟩ : ∃ E, encL 2 2 [[1, 2], [3, 4]] = E := ⟨_, rfl⟩
  have HEL := Lib.hid (show Lev 4 2 E from by rw [← hE]; exact enc_lev lit_lev (by omega))
  rw [hE] at HF3
  have HE := Lib.hid hE
  clear hE
  obtain ⟨r2, hr2, _, hr2l⟩ := HEL.out.get (show 2 < 4 by omega)
  obtain ⟨r3, hr3, _, hr3l⟩ := HEL.out.get (show 3 < 4 by omega)
  have ht2 := (HF3.out.tab.at hr2).1
  have ht3 := (HF3.out.tab.at hr3).1
  rw [hr2l] at ht2
  rw [hr3l] at ht3
  have HL2 := Lib.hid (HF3.out.blk.blk 2 r2 hr2).lies
  have HL3 := Lib.hid (HF3.out.blk.blk 3 r3 hr3).lies
  rw [hr2l] at HL2
  rw [hr3l] at HL3
  obtain ⟨b2, hb2⟩ : ∃ b, B3 2 = b := ⟨_, rfl⟩
  obtain ⟨b3, hb3⟩ : ∃ b, B3 3 = b := ⟨_, rfl⟩
  rw [hb2] at ht2 HL2
  rw [hb3] at ht3 HL3
  have hg3 := HF3.out.tab.lt
  have HR2 := Lib.hid hr2
  have HR3 := Lib.hid hr3
  have HQ2 := Lib.hid hr2l
  have HQ3 := Lib.hid hr3l
  clear hb2 hb3 hr2 hr3 hr2l hr3l
  go_wp2_with fail
  refine wp_region_held_drew (S := fun w' => w'.cell? ⟨g3, 2, none⟩ = some (.slice (some ⟨b2, 0, none⟩) 2 2) ∧ w'.cell? ⟨g3, 3, none⟩ = some (.slice (some ⟨b3, 0, none⟩) 2 2)) (by kernel_rfl) ⟨ht2, ht3⟩ (fun hHeld => ?_)
  refine take_run 0 31 (v := ?_) rfl rfl (by kernel_rfl) (by kernel_rfl) (by kernel_rfl) (fun _ _ _ h => h) (by rfl) ?_ (by assumption) ?_
  rotate_left
  · (intro wq hSw; obtain ⟨hS1, hS2⟩ := hSw; go_simp; first | done | with_reducible rfl)
  simp only [Act.put, List.setIfInBounds_toArray, List.set_cons_zero, List.set_cons_succ]
  refine take_run 1 32 (v := ?_) rfl rfl (by kernel_rfl) (by kernel_rfl) (by kernel_rfl) (fun _ _ _ h => h) (by rfl) ?_ (by assumption) ?_
  rotate_left
  · (intro wq hSw; obtain ⟨hS1, hS2⟩ := hSw; go_simp; first | done | with_reducible rfl)
  simp only [Act.put, List.setIfInBounds_toArray, List.set_cons_zero, List.set_cons_succ]
  refine take_run 2 33 (v := ?_) rfl rfl (by kernel_rfl) (by kernel_rfl) (by kernel_rfl) (fun _ _ _ h => h) (by rfl) ?_ (by assumption) ?_
  rotate_left
  · (intro wq hSw; obtain ⟨hS1, hS2⟩ := hSw; go_simp; first | done | with_reducible rfl)
  simp only [Act.put, List.setIfInBounds_toArray, List.set_cons_zero, List.set_cons_succ]
  refine take_run 3 34 (v := ?_) rfl rfl (by kernel_rfl) (by kernel_rfl) (by kernel_rfl) (fun _ _ _ h => h) (by rfl) ?_ (by assumption) ?_
  rotate_left
  · (intro wq hSw; obtain ⟨hS1, hS2⟩ := hSw; go_simp; first | done | with_reducible rfl)
  simp only [Act.put, List.setIfInBounds_toArray, List.set_cons_zero, List.set_cons_succ]
  refine take_run 4 35 (v := ?_) rfl rfl (by kernel_rfl) (by kernel_rfl) (by kernel_rfl) (fun _ _ _ h => h) (by rfl) ?_ (by assumption) ?_
  rotate_left
  · (intro wq hSw; obtain ⟨hS1, hS2⟩ := hSw; go_simp; first | done | with_reducible rfl)
  simp only [Act.put, List.setIfInBounds_toArray, List.set_cons_zero, List.set_cons_succ]
  refine take_run 5 36 (v := ?_) rfl rfl (by kernel_rfl) (by kernel_rfl) (by kernel_rfl) (fun _ _ _ h => h) (by rfl) ?_ (by assumption) ?_
  rotate_left
  · (intro wq hSw; obtain ⟨hS1, hS2⟩ := hSw; go_simp; first | done | with_reducible rfl)
  simp only [Act.put, List.setIfInBounds_toArray, List.set_cons_zero, List.set_cons_succ]
  refine take_run 6 37 (v := ?_) rfl rfl (by kernel_rfl) (by kernel_rfl) (by kernel_rfl) (fun _ _ _ h => h) (by rfl) ?_ (by assumption) ?_
  rotate_left
  · (intro wq hSw; obtain ⟨hS1, hS2⟩ := hSw; go_simp; first | done | with_reducible rfl)
  simp only [Act.put, List.setIfInBounds_toArray, List.set_cons_zero, List.set_cons_succ]
  refine wpAnyH_ready (rs := [7]) (by kernel_rfl) (by simp) ?_
  refine AllReadyH.cons rfl (fun K hK => ?_) AllReadyH.nil
  go_simp
  have hal : Below w3.heap.size w3 (w3.drew.alloc (.cells #[.slice none 0 0, .slice none 0 0, .slice (some ⟨b2, 0, none⟩) 2 2, .slice (some ⟨b3, 0, none⟩) 2 2] 31)) := (Below.refl _ w3).drew.trans ((Below.refl _ w3.drew).alloc (Nat.le_refl _) _)
  have hbx := Box.made w3.drew 31 #[.slice none 0 0, .slice none 0 0, .slice (some ⟨b2, 0, none⟩) 2 2, .slice (some ⟨b3, 0, none⟩) 2 2]
  have hS4 : Shd (w3.drew.alloc (.cells #[.slice none 0 0, .slice none 0 0, .slice (some ⟨b2, 0, none⟩) 2 2, .slice (some ⟨b3, 0, none⟩) 2 2] 31)) (some ⟨w3.heap.size, 0, none⟩) 4 4 [none, none, some r2, some r3] := by
    refine ⟨rfl, Nat.le_refl _, fun _ => ⟨w3.heap.size, 0, rfl, hbx.lt, fun i s hs => ?_⟩⟩
    rw [Nat.zero_add]
    rcases i with _ | _ | _ | _ | i
    · cases hs; exact ⟨_, (hbx.cell 0).trans rfl, rfl⟩
    · cases hs; exact ⟨_, (hbx.cell 1).trans rfl, rfl⟩
    · cases hs; exact ⟨_, (hbx.cell 2).trans rfl, ⟨b2, 0, none⟩, 2, by rw [HQ2.out]; rfl, by rw [HQ2.out]; exact HL2.out.below hal⟩
    · cases hs; exact ⟨_, (hbx.cell 3).trans rfl, ⟨b3, 0, none⟩, 2, by rw [HQ3.out]; rfl, by rw [HQ3.out]; exact HL3.out.below hal⟩
    · simp at hs
  have hlev : Lev (thereL [none, none, some r2, some r3]).length 2 (thereL [none, none, some r2, some r3]) := ⟨rfl, fun r hr => by
    have hr' : r ∈ [r2, r3] := hr
    simp at hr'
    rcases hr' with rfl | rfl
    · exact HQ2.out
    · exact HQ3.out⟩
  have hD := decode_yes _ p 2 2 (HC3.out.below hal) (by omega) (by omega) 4 rfl _ 4 _ hS4 2 (by omega) hlev (Nat.le_refl 2)
  rw [dec_is lit_lev (by omega) (by omega) rfl (by
    rw [HE.out]
    intro i r hr
    rcases i with _ | _ | _ | _ | i
    · cases hr
    · cases hr
    · cases hr; exact HR2.out
    · cases hr; exact HR3.out
    · simp at hr) (by exact there_enough (m := 2) rfl (Nat.le_refl 2))] at hD
  have HD := Lib.hid hD
  have ht4 := (hal.cell (p := ⟨g3, 2, none⟩) hg3).trans ht2
  have ht5 := (hal.cell (p := ⟨g3, 3, none⟩) hg3).trans ht3
  have HAL := Lib.hid hal
  clear hD hlev hS4 hbx hal
  refine hK.out _ _ ⟨ht4, ht5⟩ (fun hHeld => ?_)
  clear hK K
  refine wpAnyH_ready (rs := [8]) (by kernel_rfl) (by simp) ?_
  refine AllReadyH.cons rfl (fun K hK => ?_) AllReadyH.nil
  go_simp
  refine (HD.out).mono ?_
  rintro e w5 ⟨g5, B5, rfl, hF5⟩
  have HF5 := Lib.hid (hF5.since HAL.out)
  have ht6 := (HF5.out.below.cell (p := ⟨g3, 2, none⟩) hg3).trans ht2
  have ht7 := (HF5.out.below.cell (p := ⟨g3, 3, none⟩) hg3).trans ht3
  clear hF5
  refine hK.out _ _ ⟨ht6, ht7⟩ (fun hHeld => ?_)
  clear hK K
  refine take_run 9 30 (v := ?_) rfl rfl (by kernel_rfl) (by kernel_rfl) (by kernel_rfl) (fun _ _ _ h => h) (by rfl) ?_ (by assumption) ?_
  rotate_left
  · (intro wq hSw; obtain ⟨hS1, hS2⟩ := hSw; go_simp; first | done | with_reducible rfl)
  simp only [Act.put, List.setIfInBounds_toArray, List.set_cons_zero, List.set_cons_succ]
  refine take_run 10 40 (v := ?_) rfl rfl (by kernel_rfl) (by kernel_rfl) (by kernel_rfl) (fun _ _ _ h => h) (by rfl) ?_ (by assumption) ?_
  rotate_left
  · (intro wq hSw; obtain ⟨hS1, hS2⟩ := hSw; go_simp; first | done | with_reducible rfl)
  simp only [Act.put, List.setIfInBounds_toArray, List.set_cons_zero, List.set_cons_succ]
  refine take_run 11 41 (v := ?_) rfl rfl (by kernel_rfl) (by kernel_rfl) (by kernel_rfl) (fun _ _ _ h => h) (by rfl) ?_ (by assumption) ?_
  rotate_left
  · (intro wq hSw; obtain ⟨hS1, hS2⟩ := hSw; go_simp; first | done | with_reducible rfl)
  simp only [Act.put, List.setIfInBounds_toArray, List.set_cons_zero, List.set_cons_succ]
  refine take_run 12 5 (v := ?_) rfl rfl (by kernel_rfl) (by kernel_rfl) (by kernel_rfl) (fun _ _ _ h => h) (by rfl) ?_ (by assumption) ?_
  rotate_left
  · (intro wq hSw; obtain ⟨hS1, hS2⟩ := hSw; go_simp; first | done | with_reducible rfl)
  simp only [Act.put, List.setIfInBounds_toArray, List.set_cons_zero, List.set_cons_succ]
  refine take_run 13 6 (v := ?_) rfl rfl (by kernel_rfl) (by kernel_rfl) (by kernel_rfl) (fun _ _ _ h => h) (by rfl) ?_ (by assumption) ?_
  rotate_left
  · (intro wq hSw; obtain ⟨hS1, hS2⟩ := hSw; go_simp; first | done | with_reducible rfl)
  simp only [Act.put, List.setIfInBounds_toArray, List.set_cons_zero, List.set_cons_succ]
  refine wpAnyH_done (by kernel_rfl) ?_ _
  have hw6 : Below w5.heap.size w5 (((w5.alloc (.cells #[.int .u8 1, .int .u8 2] 5)).alloc (.cells #[.int .u8 3, .int .u8 4] 5)).alloc (.cells #[.slice (some ⟨w5.heap.size, 0, none⟩) 2 2, .slice (some ⟨w5.heap.size + 1, 0, none⟩) 2 2] 31)) := (((Below.refl _ w5).alloc (Nat.le_refl _) _).alloc (by simp) _).alloc (by simp; omega) _
  have hs6 := rsameM_says _ (some ⟨g5, 0, none⟩) 2 2 _ ((HF5.out.mtx rfl).below hw6) _ 2 2 [[1, 2], [3, 4]] (lit_b w5 1 2 3 4) (by omega)
  rw [decide_eq_true rfl] at hs6
  have HS6 := Lib.hid hs6
  have HW6 := Lib.hid hw6
  clear hs6 hw6 ht2 ht3 ht4 ht5 ht6 ht7 hHeld
  go_wp2_with (first
    | (go_at_call 14; refine HS6.out.mono ?_; rintro e w7 ⟨rfl, hb7⟩; have HB7 := Lib.hid (show Below w3.heap.size w3 w7 from HF5.out.below.trans ((HW6.out.trans (hb7.mono HW6.out.size)).mono HF5.out.below.size)); clear hb7)
    | (go_at_call 15; refine (cright_says w7 p 2 2 4 (HC3.out.below HB7.out) (by omega) (by omega) rfl (some ⟨g3, 0, none⟩) 4 4 _ ((HF3.out.shd HEL.out.1).below HB7.out) (by omega) (by rw [bytesOf_some]; intro r hr; rw [HEL.out.2 r hr]; omega)).mono ?_; rw [← HE.out, right_enc lit_lev (by omega)]; rintro e w8 ⟨rfl, hb8⟩; have HB8 := Lib.hid (HB7.out.trans (hb8.mono HB7.out.size)); clear hb8))
  go_ret
  exact ⟨rfl, HC1.out.2.trans ((HF3.out.below.trans (HB8.out.mono HF3.out.below.size)).mono HC1.out.2.size)⟩
end Go.Proofs.Ytpbkabgjpieggaa
