/-
  Scale of package gf, given what Mul tells.
-/
import Derived.Test.YtgakeecibofiiaaGfB
import Derived.Test.YtgakeecibofiiaaFill
import Derived.Deep.DeepCutAuto
import Derived.Deep.CutBlock
namespace Go.Proofs.Ytgakeecibofiiaa
open Go.RowKit

def scaleAt (a : List UInt8) (x : UInt8) (k i : Nat) : UInt8 := if i < k then Gf.mul (a.getD i 0) x else 0
theorem scale_step (a : List UInt8) (x : UInt8) (n k : Nat) (u : UInt8) (hu : a[k]? = some u) : (byRule n (scaleAt a x k)).set k (Gf.mul u x) = byRule n (scaleAt a x (k + 1)) := by
  have e : Gf.mul u x = scaleAt a x (k + 1) k := by simp [scaleAt, List.getD_eq_getElem?_getD, hu]
  rw [e]
  refine byRule_set n _ _ k (fun i hi => ?_)
  unfold scaleAt
  by_cases h : i < k
  · rw [if_pos h, if_pos (by omega)]
  · rw [if_neg h, if_neg (by omega)]
theorem scale_zero (a : List UInt8) (x : UInt8) (n : Nat) : byRule n (scaleAt a x 0) = List.replicate n 0 := by
  rw [← byRule_zero]
  congr 1
theorem scale_all (a : List UInt8) (x : UInt8) (n : Nat) (hn : a.length = n) : byRule n (scaleAt a x n) = a.map (fun y => Gf.mul y x) := by
  apply List.ext_getElem
  · simp [byRule_length, hn]
  · intro i h1 h2
    have h3 : i < n := by rw [byRule_length] at h1; exact h1
    simp [byRule, scaleAt, h3, List.getD_eq_getElem?_getD, List.getElem?_eq_getElem (show i < a.length by omega)]

set_option maxRecDepth 100000 in
set_option maxHeartbeats 2000000 in
theorem scale_of (C : GfB) (P : Option Addr) (A : Option Addr) (n c : Nat) (a : List UInt8) (x : UInt8) (w : World) (hp : Lies w (fun _ => True) A n c (bc a)) (hn : n ≤ 2000) : Calls Try.prog 36 #[.pointer P, .slice A n c, .int .u8 (x.toNat : Int)] w (GivesN w (a.map (fun y => Gf.mul y x))) := by
  have HP := Lib.hid hp
  have hl : a.length = n := by rw [← bc_length]; exact hp.len
  clear hp
  obtain ⟨i0, hi0, hz0, hz1, hz2⟩ := info_parts Try.byteInfo
  go_enter Try.func36, Try.ntmps36
  go_upto_region 2 with (at_make; refine wpList_make_full _ rfl _ _ 31 rfl w.heap.size 5 i0 _ 1 Try.underlying31 hi0 hz0 hz1 _ _ _ _ n rfl rfl rfl rfl (by rw [hz2]; omega) (by unfold maxLen; omega) (Nat.le_refl _) ?_; intro w1 hown1 hg1)
  rw [zero_made] at hown1
  have HB1 := Lib.hid (And.intro (box_own hown1) ((Below.refl w.heap.size w).grown hg1 (Nat.le_refl _) (fun k hk => by cases hk)))
  clear hown1 hg1
  go_wp2_with fail
  go_loopw [8, 9, 15] (fun _ _ i wr => ∃ (k : Nat), k ≤ n ∧ i = .int .i64 (k : Int) ∧ Hid (Box wr w.heap.size 5 (bc (byRule n (scaleAt a x k))).toArray ∧ Below w.heap.size w wr)) (fun _ _ i _ => n - (intOf i).toNat)
  case atStart => exact ⟨0, by omega, rfl, Lib.hid ⟨by rw [scale_zero]; exact HB1.out.1, HB1.out.2⟩⟩
  case round =>
    obtain ⟨k, hk, rfl, H⟩ := hrel
    by_cases hlt : k < n
    · have l1 : (k : Int) < (n : Int) := by omega
      obtain ⟨u, hu⟩ : ∃ u, a[k]? = some u := ⟨_, List.getElem?_eq_getElem (by omega)⟩
      obtain ⟨b, off, hA, _, hb, hc0⟩ := HP.out.at (j := k) (u := .int .u8 (u.toNat : Int)) (by simp [bc, hu])
      subst hA
      have hc : wr.cell? ⟨b, off + k, none⟩ = some (.int .u8 (u.toNat : Int)) := (H.out.2.cell (p := ⟨b, off + k, none⟩) hb).trans hc0
      have HST := Lib.hid (scale_step a x n k u hu)
      have HM := Lib.hid (C.mul P u x wr)
      obtain ⟨z, hz⟩ : ∃ z, Gf.mul u x = z := ⟨_, rfl⟩
      rw [hz] at HST HM
      clear hc0 hb hu hz
      go_wp2_with (go_at_call 55; refine HM.out.mono ?_; rintro e wn ⟨rfl, hbn⟩; have hbx := H.out.1.below hbn (Box.lt H.out.1); have hc2 := box_at hbx (byRule_at n (scaleAt a x k) k hlt); have hf2 := Box.frozen hbx k; have HBX := Lib.hid hbx; have HBN := Lib.hid hbn; clear hbx hbn)
      go_roundw
      case rel => exact ⟨k + 1, by omega, by go_num, Lib.hid ⟨by rw [← HST.out]; exact box_set HBX.out k z, (H.out.2.trans (HBN.out.mono H.out.2.size)).setCell (p := ⟨w.heap.size, k, none⟩) (Nat.le_refl _) _⟩⟩
      case measure => simp [intOf]; omega
    · obtain rfl : k = n := by omega
      have l1 : ¬ (k : Int) < (k : Int) := by omega
      go_wp2
      go_ret
      refine ⟨_, _, _, rfl, ?_, H.out.2⟩
      rw [← scale_all a x k hl]
      exact lies_box H.out.1 (Nat.le_refl _) (byRule_length _ _)
end Go.Proofs.Ytgakeecibofiiaa
