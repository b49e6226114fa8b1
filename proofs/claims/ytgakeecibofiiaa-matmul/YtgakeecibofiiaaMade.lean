/-
  mat.made: a matrix is made place by place.
-/
import Derived.Test.YtgakeecibofiiaaRowsN
import Derived.Test.YtgakeecibofiiaaHeld
import Derived.Test.YtgakeecibofiiaaGfB
import Derived.BigQuiet
import Derived.Deep.RegionHeld3
import Derived.Deep.DeepCutAuto
import Derived.Deep.CutBlock
namespace Go.Proofs.Ytgakeecibofiiaa
open Go.RowKit

/-- A row, filled as far as j. -/
def fillTo (F : Nat → UInt8) (j i : Nat) : UInt8 := if i < j then F i else 0
theorem fill_zero (n : Nat) (F : Nat → UInt8) : byRule n (fillTo F 0) = List.replicate n 0 := by
  rw [← byRule_zero]
  rfl
theorem fill_step (n j : Nat) (F : Nat → UInt8) : (byRule n (fillTo F j)).set j (F j) = byRule n (fillTo F (j + 1)) := by
  have : F j = fillTo F (j + 1) j := by simp [fillTo]
  rw [this]
  refine byRule_set n _ _ j (fun i hi => ?_)
  unfold fillTo
  by_cases h : i < j
  · rw [if_pos h, if_pos (by omega)]
  · rw [if_neg h, if_neg (by omega)]
theorem fill_all (n : Nat) (F : Nat → UInt8) : byRule n (fillTo F n) = byRule n F := by
  unfold byRule
  refine List.map_congr_left (fun i hi => ?_)
  have := List.mem_range.1 hi
  simp [fillTo, this]

/-- Row k is being filled: as far as j. -/
structure FillAt (w wr : World) (rows cols k h : Nat) (F : Nat → Nat → UInt8) (j : Nat) : Prop where
  rows : RowsN wr w.heap.size rows (fun b => b ≠ w.heap.size ∧ b ≠ h) (matBy k cols F)
  spot : wr.cell? ⟨w.heap.size, k, none⟩ = some (.slice (some ⟨h, 0, none⟩) cols cols)
  box : Box wr h 5 (bc (byRule cols (fillTo (F k) j))).toArray
  bel : Below w.heap.size w wr

set_option maxRecDepth 100000 in
set_option maxHeartbeats 4000000 in
theorem made_says (rows cols : Nat) (hr : rows ≤ 300) (hc : cols ≤ 300) (g : Nat) (lb : Array Value) (F : Nat → Nat → UInt8) (eg : ∀ args w, (callFunc g args).run Try.prog w = .ok (.enter g args) w) (w : World)
    (hF : ∀ (W : World) (i j : Nat), i < rows → j < cols → Below w.heap.size w W → Calls Try.prog g (#[.int .i64 (i : Int), .int .i64 (j : Int)] ++ lb) W fun e w' => e = .returned (.int .u8 ((F i j).toNat : Int)) ∧ Below W.heap.size W w') :
    Calls Try.prog 43 #[.int .i64 (rows : Int), .int .i64 (cols : Int), .func (.func g) #[] lb] w (GivesM w (matBy rows cols F)) := by
  have HF := Lib.hid hF
  clear hF
  obtain ⟨i0, hi0, hz0, hz1, hz2⟩ := info_parts Try.byteInfo
  obtain ⟨j0, hj0, jz0, jz1, jz2⟩ := info_parts rowInfo
  go_enter Try.func43, Try.ntmps43
  go_upto_region 2 with (at_make; refine wpList_make_full _ rfl _ _ 26 rfl w.heap.size 31 j0 _ 1 Try.underlying26 hj0 jz0 jz1 _ _ _ _ rows rfl rfl rfl rfl (by rw [jz2]; omega) (by unfold maxLen; omega) (Nat.le_refl _) ?_; intro w1 hown1 hg1)
  have HB1 := Lib.hid (And.intro (rows_made (fun b => b ≠ w.heap.size) hown1) ((Below.refl w.heap.size w).grown hg1 (Nat.le_refl _) (fun k hk => by cases hk)))
  clear hown1 hg1
  go_wp2_with fail
  go_loopw [14] (fun i wr => ∃ (k : Nat), k ≤ rows ∧ i = .int .i64 (k : Int) ∧ Hid (RowsN wr w.heap.size rows (fun b => b ≠ w.heap.size) (matBy k cols F) ∧ Below w.heap.size w wr)) (fun i _ => rows - (intOf i).toNat)
  case atStart => exact ⟨0, by omega, rfl, HB1⟩
  case round =>
    obtain ⟨k, hk, rfl, H⟩ := hrel
    by_cases hlt : k < rows
    · have l1 : (k : Int) < (rows : Int) := by omega
      go_upto_region 6 with (at_make; refine wpList_make_full wr rfl _ _ 31 rfl wr.heap.size 5 i0 _ 1 Try.underlying31 hi0 hz0 hz1 _ _ _ _ cols rfl rfl rfl rfl (by rw [hz2]; omega) (by unfold maxLen; omega) (Nat.le_refl _) ?_; intro w2 hown2 hg2; rw [zero_made] at hown2; have hB2 := (Below.refl wr.heap.size wr).grown hg2 (Nat.le_refl _) (fun k hk => by cases hk); have hR2 := H.out.1.below hB2; obtain ⟨⟨v0, hv0⟩, hf0⟩ := hR2.place hlt; have HX := Lib.hid (And.intro (box_own hown2) (And.intro hB2 hR2)); clear hown2 hg2 hB2 hR2)
      have hgh : w.heap.size < wr.heap.size := H.out.1.lt
      generalize hw3 : w2.setCell (⟨w.heap.size, k, none⟩ : Addr) (Value.slice (some ⟨wr.heap.size, 0, none⟩) cols cols) = w3
      have H3 := Lib.hid (show FillAt w w3 rows cols k wr.heap.size F 0 from by
        subst hw3
        refine ⟨?_, World.cell?_setCell_same _ _ _ hv0, ?_, ?_⟩
        · exact ((H.out.1.weak (N' := fun b => b ≠ w.heap.size ∧ b ≠ wr.heap.size) (fun b hb hn => ⟨hn, by omega⟩)).below HX.out.2.1).beyond (fun h => h.1 rfl) (by rw [matBy_length]; exact Nat.le_refl _) _
        · rw [fill_zero]
          exact box_off HX.out.1 (by simp; omega) _
        · exact (H.out.2.trans (HX.out.2.1.mono H.out.2.size)).setCell (p := ⟨w.heap.size, k, none⟩) (Nat.le_refl _) _)
      have hc3 := H3.out.spot
      generalize hh : wr.heap.size = h at H3 hc3 hgh
      clear hw3 hv0 hf0 HX H
      go_wp2_with fail
      go_loopw [27] (fun j wr => ∃ (s : Nat), s ≤ cols ∧ j = .int .i64 (s : Int) ∧ Hid (FillAt w wr rows cols k h F s)) (fun j _ => cols - (intOf j).toNat)
      case atStart => exact ⟨0, by omega, rfl, H3⟩
      case round =>
        obtain ⟨s, hs, rfl, H⟩ := hrel
        clear hc3 hh
        by_cases hlt2 : s < cols
        · have l2 : (s : Int) < (cols : Int) := by omega
          have hc3 := H.out.spot
          go_wp2_with fail
          refine wp_region_held_drew (S := fun w' => w'.cell? ⟨w.heap.size, k, none⟩ = some (.slice (some ⟨h, 0, none⟩) cols cols)) (by kernel_rfl) hc3 (fun hHeld => ?_)
          refine take_run 0 30 (v := ?_) rfl rfl (by kernel_rfl) (by kernel_rfl) (by kernel_rfl) (fun _ _ _ h => h) (by rfl) ?_ (by assumption) ?_
          rotate_left
          · (intro wq hSw; (try dsimp only at hSw); go_simp; first | done | with_reducible rfl)
          simp only [Act.put, List.setIfInBounds_toArray, List.set_cons_zero, List.set_cons_succ]
          refine take_run 1 31 (v := ?_) rfl rfl (by kernel_rfl) (by kernel_rfl) (by kernel_rfl) (fun _ _ _ h => h) (by rfl) ?_ (by assumption) ?_
          rotate_left
          · (intro wq hSw; (try dsimp only at hSw); go_simp; first | done | with_reducible rfl)
          simp only [Act.put, List.setIfInBounds_toArray, List.set_cons_zero, List.set_cons_succ]
          refine take_run 2 32 (v := ?_) rfl rfl (by kernel_rfl) (by kernel_rfl) (by kernel_rfl) (fun _ _ _ h => h) (by rfl) ?_ (by assumption) ?_
          rotate_left
          · (intro wq hSw; (try dsimp only at hSw); go_simp; first | done | with_reducible rfl)
          simp only [Act.put, List.setIfInBounds_toArray, List.set_cons_zero, List.set_cons_succ]
          refine take_run 3 33 (v := ?_) rfl rfl (by kernel_rfl) (by kernel_rfl) (by kernel_rfl) (fun _ _ _ h => h) (by rfl) ?_ (by assumption) ?_
          rotate_left
          · (intro wq hSw; (try dsimp only at hSw); go_simp; first | done | with_reducible rfl)
          simp only [Act.put, List.setIfInBounds_toArray, List.set_cons_zero, List.set_cons_succ]
          refine take_run 4 34 (v := ?_) rfl rfl (by kernel_rfl) (by kernel_rfl) (by kernel_rfl) (fun _ _ _ h => h) (by rfl) ?_ (by assumption) ?_
          rotate_left
          · (intro wq hSw; (try dsimp only at hSw); go_simp; first | done | with_reducible rfl)
          simp only [Act.put, List.setIfInBounds_toArray, List.set_cons_zero, List.set_cons_succ]
          refine take_run 5 35 (v := ?_) rfl rfl (by kernel_rfl) (by kernel_rfl) (by kernel_rfl) (fun _ _ _ h => h) (by rfl) ?_ (by assumption) ?_
          rotate_left
          · (intro wq hSw; (try dsimp only at hSw); go_simp; first | done | with_reducible rfl)
          simp only [Act.put, List.setIfInBounds_toArray, List.set_cons_zero, List.set_cons_succ]
          refine take_run 6 36 (v := ?_) rfl rfl (by kernel_rfl) (by kernel_rfl) (by kernel_rfl) (fun _ _ _ h => h) (by rfl) ?_ (by assumption) ?_
          rotate_left
          · (intro wq hSw; (try dsimp only at hSw); go_simp; first | done | with_reducible rfl)
          simp only [Act.put, List.setIfInBounds_toArray, List.set_cons_zero, List.set_cons_succ]
          refine take_run 7 37 (v := ?_) rfl rfl (by kernel_rfl) (by kernel_rfl) (by kernel_rfl) (fun _ _ _ h => h) (by rfl) ?_ (by assumption) ?_
          rotate_left
          · (intro wq hSw; (try dsimp only at hSw); go_simp; first | done | with_reducible rfl)
          simp only [Act.put, List.setIfInBounds_toArray, List.set_cons_zero, List.set_cons_succ]
          refine wpAnyH_ready (rs := [8]) (by kernel_rfl) (by simp) ?_
          refine AllReadyH.cons rfl (fun K hK => ?_) AllReadyH.nil
          go_simp
          refine (HF.out wr.drew k s hlt hlt2 H.out.bel.drew).mono ?_
          rintro e wn ⟨rfl, hbn⟩
          have HBN := Lib.hid (show Below wr.heap.size wr wn from (Below.refl _ wr).drew.trans hbn)
          clear hbn
          refine hK.out _ _ ((HBN.out.cell (p := ⟨w.heap.size, k, none⟩) H.out.rows.lt).trans hc3) (fun hHeld => ?_)
          clear hK K
          refine take_run 9 39 (v := ?_) rfl rfl (by kernel_rfl) (by kernel_rfl) (by kernel_rfl) (fun _ _ _ h => h) (by rfl) ?_ (by assumption) ?_
          rotate_left
          · (intro wq hSw; (try dsimp only at hSw); go_simp; first | done | with_reducible rfl)
          simp only [Act.put, List.setIfInBounds_toArray, List.set_cons_zero, List.set_cons_succ]
          have hbx := H.out.box.below HBN.out (Box.lt H.out.box)
          have hca := box_at hbx (byRule_at cols (fillTo (F k) s) s hlt2)
          have hfa := Box.frozen hbx s
          have HBX := Lib.hid hbx
          clear hbx
          refine wpAnyH_ready (rs := [10]) (by kernel_rfl) (by simp) ?_
          refine AllReadyH.cons rfl (fun K hK => ?_) AllReadyH.nil
          go_simp
          refine hK.out _ _ ?_ (fun _ => ?_)
          · exact (World.cell?_setCell_other _ _ _ _ (fun e => by injection e with e; omega)).trans hHeld
          clear hK K
          refine wpAnyH_done (by kernel_rfl) ?_ _
          go_wp2
          go_roundw
          case rel =>
            refine ⟨s + 1, by omega, by go_num, Lib.hid ⟨?_, ?_, ?_, ?_⟩⟩
            · exact (H.out.rows.below HBN.out).off (p := ⟨h, s, none⟩) (fun hh => hh.2 rfl) (by simp; omega) _
            · exact (World.cell?_setCell_other _ _ _ _ (fun e => by injection e with e; omega)).trans hHeld
            · rw [← fill_step]
              exact box_set HBX.out s (F k s)
            · exact (H.out.bel.trans (HBN.out.mono H.out.bel.size)).setCell (p := ⟨h, s, none⟩) (by simp; omega) _
          case measure => simp [intOf]; omega
        · obtain rfl : s = cols := by omega
          have l2 : ¬ (s : Int) < (s : Int) := by omega
          have hc3 := H.out.spot
          go_wp2
          go_roundw
          case rel =>
            refine ⟨k + 1, by omega, by go_num, Lib.hid ⟨?_, H.out.bel⟩⟩
            rw [matBy_succ]
            have h1 := H.out.box
            rw [fill_all] at h1
            refine (H.out.rows.weak (fun b _ hn => hn.1)).more (by rw [matBy_length]; exact hlt) (m := s) (byRule_length _ _) (by rw [matBy_length]; exact hc3) (lies_box h1 (by omega) (byRule_length _ _))
          case measure => simp [intOf]; omega
    · obtain rfl : k = rows := by omega
      have l1 : ¬ (k : Int) < (k : Int) := by omega
      go_wp2
      go_ret
      exact ⟨_, _, _, rfl, H.out.1.mtx (matBy_length _ _ _) (Nat.le_refl _), H.out.2⟩
end Go.Proofs.Ytgakeecibofiiaa
