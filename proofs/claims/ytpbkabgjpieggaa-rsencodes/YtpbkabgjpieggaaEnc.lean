/-
  Encode: the shards more of those of data, and all of them in memory of their own.
-/
import Derived.Test.YtpbkabgjpieggaaFilled
namespace Go.Proofs.Ytpbkabgjpieggaa
open Go.RowKit

set_option maxRecDepth 100000 in
set_option maxHeartbeats 1000000 in
theorem matrix_says (w : World) (p k m : Nat) (h : Cod w p k m) (hk : 1 ≤ k) (hm : 1 ≤ m) (hs : k + m ≤ 255) : Calls Try.prog 39 #[.pointer (some ⟨p, 0, none⟩)] w (GivesM w (matBy m k (cauF k))) := by
  have hc := h.1
  have hd := h.2.1
  have hp := h.2.2
  go_enter Try.func39, Try.ntmps39
  go_wp2_with fail
  refine wp_region_held_drew (S := fun w' => w'.cell? ⟨p, 0, none⟩ = some (.int .i64 (k : Int)) ∧ w'.cell? ⟨p, 1, none⟩ = some (.int .i64 (m : Int))) (by kernel_rfl) ⟨hc, hd⟩ (fun hHeld => ?_)
  refine take_run 1 7 (v := ?_) rfl rfl (by kernel_rfl) (by kernel_rfl) (by kernel_rfl) (fun _ _ _ h => h) (by rfl) ?_ (by assumption) ?_
  rotate_left
  · (intro wq hSw; obtain ⟨hS1, hS2⟩ := hSw; go_simp; first | done | with_reducible rfl)
  simp only [Act.put, List.setIfInBounds_toArray, List.set_cons_zero, List.set_cons_succ]
  refine take_run 2 8 (v := ?_) rfl rfl (by kernel_rfl) (by kernel_rfl) (by kernel_rfl) (fun _ _ _ h => h) (by rfl) ?_ (by assumption) ?_
  rotate_left
  · (intro wq hSw; obtain ⟨hS1, hS2⟩ := hSw; go_simp; first | done | with_reducible rfl)
  simp only [Act.put, List.setIfInBounds_toArray, List.set_cons_zero, List.set_cons_succ]
  refine take_run 3 9 (v := ?_) rfl rfl (by kernel_rfl) (by kernel_rfl) (by kernel_rfl) (fun _ _ _ h => h) (by rfl) ?_ (by assumption) ?_
  rotate_left
  · (intro wq hSw; obtain ⟨hS1, hS2⟩ := hSw; go_simp; first | done | with_reducible rfl)
  simp only [Act.put, List.setIfInBounds_toArray, List.set_cons_zero, List.set_cons_succ]
  refine take_run 4 10 (v := ?_) rfl rfl (by kernel_rfl) (by kernel_rfl) (by kernel_rfl) (fun _ _ _ h => h) (by rfl) ?_ (by assumption) ?_
  rotate_left
  · (intro wq hSw; obtain ⟨hS1, hS2⟩ := hSw; go_simp; first | done | with_reducible rfl)
  simp only [Act.put, List.setIfInBounds_toArray, List.set_cons_zero, List.set_cons_succ]
  refine take_run 5 11 (v := ?_) rfl rfl (by kernel_rfl) (by kernel_rfl) (by kernel_rfl) (fun _ _ _ h => h) (by rfl) ?_ (by assumption) ?_
  rotate_left
  · (intro wq hSw; obtain ⟨hS1, hS2⟩ := hSw; go_simp; first | done | with_reducible rfl)
  simp only [Act.put, List.setIfInBounds_toArray, List.set_cons_zero, List.set_cons_succ]
  refine take_run 6 12 (v := ?_) rfl rfl (by kernel_rfl) (by kernel_rfl) (by kernel_rfl) (fun _ _ _ h => h) (by rfl) ?_ (by assumption) ?_
  rotate_left
  · (intro wq hSw; obtain ⟨hS1, hS2⟩ := hSw; go_simp; first | done | with_reducible rfl)
  simp only [Act.put, List.setIfInBounds_toArray, List.set_cons_zero, List.set_cons_succ]
  refine take_run 7 13 (v := ?_) rfl rfl (by kernel_rfl) (by kernel_rfl) (by kernel_rfl) (fun _ _ _ h => h) (by rfl) ?_ (by assumption) ?_
  rotate_left
  · (intro wq hSw; obtain ⟨hS1, hS2⟩ := hSw; go_simp; first | done | with_reducible rfl)
  simp only [Act.put, List.setIfInBounds_toArray, List.set_cons_zero, List.set_cons_succ]
  refine take_run 8 14 (v := ?_) rfl rfl (by kernel_rfl) (by kernel_rfl) (by kernel_rfl) (fun _ _ _ h => h) (by rfl) ?_ (by assumption) ?_
  rotate_left
  · (intro wq hSw; obtain ⟨hS1, hS2⟩ := hSw; go_simp; first | done | with_reducible rfl)
  simp only [Act.put, List.setIfInBounds_toArray, List.set_cons_zero, List.set_cons_succ]
  refine wpAnyH_ready (rs := [0]) (by kernel_rfl) (by simp) ?_
  refine AllReadyH.cons rfl (fun K hK => ?_) AllReadyH.nil
  go_simp
  refine (new_says w.drew).mono ?_
  rintro e w1 ⟨P, rfl, hb1⟩
  have HB1 : Below w.heap.size w w1 := (Below.refl _ w).drew.trans hb1
  have hc1 := (HB1.cell (p := ⟨p, 0, none⟩) hp).trans hc
  have hd1 := (HB1.cell (p := ⟨p, 1, none⟩) hp).trans hd
  refine hK.out _ _ ⟨hc1, hd1⟩ (fun hHeld => ?_)
  clear hK K
  refine wpAnyH_ready (rs := [9]) (by kernel_rfl) (by simp) ?_
  refine AllReadyH.cons rfl (fun K hK => ?_) AllReadyH.nil
  go_simp
  refine (cauchy_yes P m k ⟨by omega, by omega, by omega⟩ w1).mono ?_
  rintro e w2 ⟨A, n, c, rfl, hM, hb2⟩
  have HB2 := Lib.hid (And.intro hM (HB1.trans (hb2.mono HB1.size)))
  have hc2 := (HB2.out.2.cell (p := ⟨p, 0, none⟩) hp).trans hc
  have hd2 := (HB2.out.2.cell (p := ⟨p, 1, none⟩) hp).trans hd
  clear hM hb2
  refine hK.out _ _ ⟨hc2, hd2⟩ (fun hHeld => ?_)
  clear hK K
  refine take_run 10 5 (v := ?_) rfl rfl (by kernel_rfl) (by kernel_rfl) (by kernel_rfl) (fun _ _ _ h => h) (by rfl) ?_ (by assumption) ?_
  rotate_left
  · (intro wq hSw; obtain ⟨hS1, hS2⟩ := hSw; go_simp; first | done | with_reducible rfl)
  simp only [Act.put, List.setIfInBounds_toArray, List.set_cons_zero, List.set_cons_succ]
  refine take_run 11 16 (v := ?_) rfl rfl (by kernel_rfl) (by kernel_rfl) (by kernel_rfl) (fun _ _ _ h => h) (by rfl) ?_ (by assumption) ?_
  rotate_left
  · (intro wq hSw; obtain ⟨hS1, hS2⟩ := hSw; go_simp; first | done | with_reducible rfl)
  simp only [Act.put, List.setIfInBounds_toArray, List.set_cons_zero, List.set_cons_succ]
  refine take_run 12 17 (v := ?_) rfl rfl (by kernel_rfl) (by kernel_rfl) (by kernel_rfl) (fun _ _ _ h => h) (by rfl) ?_ (by assumption) ?_
  rotate_left
  · (intro wq hSw; obtain ⟨hS1, hS2⟩ := hSw; go_simp; first | done | with_reducible rfl)
  simp only [Act.put, List.setIfInBounds_toArray, List.set_cons_zero, List.set_cons_succ]
  refine take_run 13 3 (v := ?_) rfl rfl (by kernel_rfl) (by kernel_rfl) (by kernel_rfl) (fun _ _ _ h => h) (by rfl) ?_ (by assumption) ?_
  rotate_left
  · (intro wq hSw; obtain ⟨hS1, hS2⟩ := hSw; go_simp; first | done | with_reducible rfl)
  simp only [Act.put, List.setIfInBounds_toArray, List.set_cons_zero, List.set_cons_succ]
  refine take_run 14 4 (v := ?_) rfl rfl (by kernel_rfl) (by kernel_rfl) (by kernel_rfl) (fun _ _ _ h => h) (by rfl) ?_ (by assumption) ?_
  rotate_left
  · (intro wq hSw; obtain ⟨hS1, hS2⟩ := hSw; go_simp; first | done | with_reducible rfl)
  simp only [Act.put, List.setIfInBounds_toArray, List.set_cons_zero, List.set_cons_succ]
  refine wpAnyH_done (by kernel_rfl) ?_ _
  go_wp2
  go_ret
  exact ⟨_, _, _, rfl, HB2.out⟩
/-- What makes the shards more is right. -/
theorem cau_right (k m : Nat) (hk : 1 ≤ k ∧ k ≤ 255) (hm : 1 ≤ m ∧ m ≤ 255) : RightM (matBy m k (cauF k)) ∧ colsOf (matBy m k (cauF k)) = k := lev_right (matBy_lev m k _) hm hk
/-- The shards more. -/
def moreL (k m : Nat) (X : List (List UInt8)) : List (List UInt8) := if m = 0 then [] else appL (matBy m k (cauF k)) X
set_option maxRecDepth 100000 in
set_option maxHeartbeats 1000000 in
theorem behind_none (w : World) (p k : Nat) (h : Cod w p k 0) (v : Value) : Calls Try.prog 26 #[.pointer (some ⟨p, 0, none⟩), v] w fun e w' => e = .returned (.slice none 0 0) ∧ w' = w := by
  have hd := h.2.1
  go_enter Try.func26, Try.ntmps26
  go_wp2
  go_ret
  exact ⟨rfl, rfl⟩
set_option maxRecDepth 100000 in
set_option maxHeartbeats 1000000 in
theorem behind_some (w : World) (p k m : Nat) (h : Cod w p k m) (hk : 1 ≤ k) (hm : 1 ≤ m) (hs : k + m ≤ 255) (A : Option Addr) (c : Nat) (X : List (List UInt8)) (hX : Mtx w A k c X) (q : Nat) (hlev : Lev k q X) (hq : q ≤ 1000) : Calls Try.prog 26 #[.pointer (some ⟨p, 0, none⟩), .slice A k c] w (GivesM w (appL (matBy m k (cauF k)) X)) := by
  have hd := h.2.1
  have hz : ¬ (m : Int) = 0 := by omega
  have hr := cau_right k m (by omega) (by omega)
  have HC := Lib.hid h
  have HX := Lib.hid hX
  have HR := Lib.hid hr
  have HL := Lib.hid hlev
  clear h hX hr hlev
  go_enter Try.func26, Try.ntmps26
  go_wp2_with (first
    | (go_at_call 38; refine (new_says _).mono ?_; rintro e w1 ⟨P, rfl, hb1⟩; have HB1 := Lib.hid hb1; clear hb1)
    | (go_at_call 39; refine (matrix_says _ p k m (HC.out.below HB1.out) hk hm hs).mono ?_; rintro e w2 ⟨A2, n2, c2, rfl, hM2, hb2⟩; have HB2 := Lib.hid (And.intro hM2 (HB1.out.trans (hb2.mono HB1.out.size))); clear hM2 hb2)
    | (go_at_call 37; refine (apply_yes P _ A2 n2 c2 _ HB2.out.1 A k c X (HX.out.below HB2.out.2) HR.out.1 HR.out.2.symm q HL.out hq).mono ?_; rintro e w3 ⟨A3, n3, c3, rfl, hM3, hb3⟩; have HB3 := Lib.hid (And.intro hM3 (HB2.out.2.trans (hb3.mono HB2.out.2.size))); clear hM3 hb3))
  go_ret
  exact ⟨_, _, _, rfl, HB3.out⟩
set_option maxRecDepth 100000 in
set_option maxHeartbeats 2000000 in
theorem concat0_says (W : World) (b : Nat) (A1 : Option Addr) (n1 c1 : Nat) (x : List (List UInt8)) (h1 : W.cell? ⟨b, 0, none⟩ = some (.slice A1 n1 c1)) (h2 : W.cell? ⟨b, 1, none⟩ = some (.slice none 0 0)) (hb : b < W.heap.size) (hx : Mtx W A1 n1 c1 x) (hn1 : 1 ≤ n1 ∧ n1 ≤ 1000) :
    Calls Try.prog 25 #[.slice (some ⟨b, 0, none⟩) 2 2] W fun e w' => ∃ v, e = .returned v ∧ RowsO w' W.heap.size v x ∧ Below W.heap.size W w' := by
  have hlx := hx.len
  obtain ⟨j0, hj0, jz0, jz1, jz2⟩ := info_parts rowInfo
  obtain ⟨b1, o1, hA1, hb1, _⟩ := hx.2.2 (by omega)
  obtain ⟨xs, hxs, hxc⟩ := hx.old (Nat.le_refl _) hA1
  have HX := Lib.hid (And.intro hxs hxc)
  have HG := Lib.hid (fun V => growM_says V n1 (by omega) (by omega))
  subst hA1
  clear hx hxs hxc
  have s1 : IntKind.i64.wrap (n1 : Int) = (n1 : Int) := IntWalk.i64_in _ (by omega)
  have g0 : ¬ (n1 : Int) < 0 := by omega
  go_enter Try.func25, Try.ntmps25
  go_wp2_with fail
  go_loopw [3, 5, 11] (fun s _ i wr => ∃ k : Nat, k ≤ 2 ∧ i = .int .i64 (k : Int) ∧ s = .int .i64 (pick3 0 n1 n1 k : Int) ∧ Hid (wr = W)) (fun _ _ i _ => 2 - (intOf i).toNat)
  case atStart => exact ⟨0, by omega, rfl, rfl, Lib.hid rfl⟩
  case round =>
    obtain ⟨k, hk, rfl, rfl, H⟩ := hrel
    have hw' : W = wr := H.out.symm
    subst hw'
    clear H
    rcases k with _ | _ | _ | k
    · simp only [pick3]
      go_wp2
      go_roundw
      case rel => exact ⟨1, by omega, rfl, rfl, Lib.hid trivial⟩
      case measure => simp [intOf]
    · simp only [pick3]
      go_wp2
      go_roundw
      case rel => exact ⟨2, by omega, rfl, rfl, Lib.hid trivial⟩
      case measure => simp [intOf]
    · simp only [pick3]
      go_wp2_with (go_at_call 36; refine (HG.out _).mono ?_; rintro e w1 ⟨v1, rfl, ho1, hbb1⟩; have HO1 := Lib.hid (And.intro ho1 hbb1); clear ho1 hbb1)
      go_loopw [6, 8, 27] (fun v _ i wr => ∃ k : Nat, k ≤ 2 ∧ i = .int .i64 (k : Int) ∧ Hid (RowsO wr W.heap.size v (pick3 [] x x k) ∧ Below W.heap.size W wr)) (fun _ _ i _ => 2 - (intOf i).toNat)
      case atStart => exact ⟨0, by omega, rfl, HO1⟩
      case round =>
        obtain ⟨k, hk, rfl, H⟩ := hrel
        have hc1 := (H.out.2.cell (p := ⟨b, 0, none⟩) hb).trans h1
        have hc2 := (H.out.2.cell (p := ⟨b, 1, none⟩) hb).trans h2
        have HX2 := Lib.hid (show OldAt wr W.heap.size xs x ∧ ∀ (j : Nat) (u : Value), xs[j]? = some u → wr.cell? ((⟨b1, o1, none⟩ : Addr).add j) = some u from ⟨HX.out.1.keep H.out.2, fun j u hu => (H.out.2.cell (by rw [add_block]; exact hb1)).trans (HX.out.2 j u hu)⟩)
        rcases k with _ | _ | _ | k
        · simp only [pick3] at H
          go_wp2_with (at_builtin; refine wpList_append_oldR wr _ _ rfl rfl W.heap.size u6 [] x ⟨b1, o1, none⟩ n1 c1 xs rfl rfl H.out.1 HX2.out.1 hlx HX2.out.2 (by simp; omega) H.out.2.size ?_; intro v9 w9 ho9 hg9; have HO9 := Lib.hid (And.intro ho9 (H.out.2.trans hg9)); clear ho9 hg9)
          go_roundw
          case rel => exact ⟨1, by omega, rfl, HO9⟩
          case measure => simp [intOf]
        · simp only [pick3] at H
          obtain ⟨vs, hvs, hvo⟩ := H.out.1
          have HVS := Lib.hid hvs
          clear hvs hvo
          go_wp2_with (at_builtin; refine wpList_append_own_none (P := Try.prog) rfl _ _ 22 rfl W.heap.size 31 j0 1 Try.underlying22 hj0 u6 vs.length vs rfl HVS.out rfl ?_)
          go_roundw
          case rel => exact ⟨2, by omega, rfl, H⟩
          case measure => simp [intOf]
        · simp only [pick3] at H
          go_wp2
          go_ret
          exact ⟨_, rfl, H.out⟩
        · omega
    · omega
end Go.Proofs.Ytpbkabgjpieggaa
