/-
  slices.Concat of two slices: of bytes, and of rows.
-/
import Derived.Test.YtgakeecibofiiaaShelf
import Derived.Test.YtgakeecibofiiaaClone
namespace Go.Proofs.Ytgakeecibofiiaa
open Go.RowKit Go.Shelf

theorem size_made (n k : Nat) (z : Value) (hz : z.cells.size = 1) (h : n ≤ k) : ((#[] : Array Value) ++ Builtin.zeroCells z.cells n ++ Builtin.zeroCells z.cells (k - n)).size = k * 1 := by
  rw [Array.size_append, Array.size_append, size_zeroCells, size_zeroCells, hz]
  simp
  omega
set_option maxRecDepth 100000 in
theorem growB_says (W : World) (n : Nat) (h0 : 1 ≤ n) (hn : n ≤ 10000) : Calls Try.prog 60 #[.slice none 0 0, .int .i64 (n : Int)] W fun e w' => ∃ v, e = .returned v ∧ Own w' W.heap.size v [] ∧ Below W.heap.size W w' := by
  obtain ⟨i0, hi0, hz0, hz1, hz2⟩ := info_parts Try.byteInfo
  have h := Any8.slices_Grow_grow Try.growB i0 (.int .u8 0) hi0 hz0 (by rw [hz1]; decide) none 0 0 n [] W (by omega) (by omega) (by rw [hz2]; omega) (by omega) (by simp) (fun _ => rfl) (fun a ha => by cases ha)
  refine h.mono ?_
  rintro e w' ⟨rfl, rfl⟩
  have hge : 0 + n ≤ grownCap W (0 + n) 0 (Try.growB_ren.t 25) := grownCap_ge W (0 + n) 0 _
  have hle := grownCap_le_maxLen W (0 + n) 0 5 (by unfold maxLen; omega)
  refine ⟨_, rfl, World.ownsRow_made W.drew _ _ (Nat.le_refl _) hle (size_made (0 + n - 0) _ _ rfl (by omega)), (Below.refl _ W).drew.trans ((Below.refl _ W.drew).alloc (Nat.le_refl _) _)⟩
set_option maxRecDepth 100000 in
theorem growM_says (W : World) (n : Nat) (h0 : 1 ≤ n) (hn : n ≤ 10000) : Calls Try.prog 62 #[.slice none 0 0, .int .i64 (n : Int)] W fun e w' => ∃ v, e = .returned v ∧ RowsO w' W.heap.size v [] ∧ Below W.heap.size W w' := by
  obtain ⟨i0, hi0, hz0, hz1, hz2⟩ := info_parts rowInfo
  have h := Any8.slices_Grow_grow Try.growM i0 (.slice none 0 0) hi0 hz0 (by rw [hz1]; decide) none 0 0 n [] W (by omega) (by omega) (by rw [hz2]; omega) (by omega) (by simp) (fun _ => rfl) (fun a ha => by cases ha)
  refine h.mono ?_
  rintro e w' ⟨rfl, rfl⟩
  have hge : 0 + n ≤ grownCap W (0 + n) 0 (Try.growM_ren.t 25) := grownCap_ge W (0 + n) 0 _
  have hle := grownCap_le_maxLen W (0 + n) 0 31 (by unfold maxLen; omega)
  exact ⟨_, rfl, ⟨[], World.ownsRow_made W.drew _ _ (Nat.le_refl _) hle (size_made (0 + n - 0) _ _ rfl (by omega)), rfl, fun i l hl => by simp at hl⟩, (Below.refl _ W).drew.trans ((Below.refl _ W.drew).alloc (Nat.le_refl _) _)⟩

/-- One of three. -/
def pick3 {α : Type} (a b c : α) : Nat → α
  | 0 => a
  | 1 => b
  | _ => c
set_option maxRecDepth 100000 in
set_option maxHeartbeats 2000000 in
theorem concatB_says (W : World) (b : Nat) (A1 A2 : Option Addr) (n1 n2 c1 c2 : Nat) (x y : List UInt8) (h1 : W.cell? ⟨b, 0, none⟩ = some (.slice A1 n1 c1)) (h2 : W.cell? ⟨b, 1, none⟩ = some (.slice A2 n2 c2)) (hb : b < W.heap.size) (hx : Lies W (fun _ => True) A1 n1 c1 (bc x)) (hy : Lies W (fun _ => True) A2 n2 c2 (bc y)) (hn1 : 1 ≤ n1 ∧ n1 ≤ 1000) (hn2 : 1 ≤ n2 ∧ n2 ≤ 1000) :
    Calls Try.prog 48 #[.slice (some ⟨b, 0, none⟩) 2 2] W (GivesN W (x ++ y)) := by
  have hlx : x.length = n1 := by rw [← bc_length]; exact hx.len
  have hly : y.length = n2 := by rw [← bc_length]; exact hy.len
  have HX := Lib.hid hx
  have HY := Lib.hid hy
  obtain ⟨t, ht⟩ : ∃ t, n1 + n2 = t := ⟨_, rfl⟩
  have HG := Lib.hid (fun V => growB_says V t (by omega) (by omega))
  obtain ⟨a1, hA1, _⟩ := hx.2.2 (by omega)
  obtain ⟨a2, hA2, _⟩ := hy.2.2 (by omega)
  subst hA1 hA2
  clear hx hy
  have s1 : IntKind.i64.wrap (n1 : Int) = (n1 : Int) := IntWalk.i64_in _ (by omega)
  have s3 : (n1 : Int) + (n2 : Int) = (t : Int) := by omega
  have s2 : IntKind.i64.wrap (t : Int) = (t : Int) := IntWalk.i64_in _ (by omega)
  have g0 : ¬ (n1 : Int) < 0 := by omega
  have g1 : ¬ (t : Int) < 0 := by omega
  have HT := Lib.hid ht
  clear ht
  go_enter Try.func48, Try.ntmps48
  go_wp2_with fail
  go_loopw [3, 5, 11] (fun s _ i wr => ∃ k : Nat, k ≤ 2 ∧ i = .int .i64 (k : Int) ∧ s = .int .i64 (pick3 0 n1 t k : Int) ∧ Hid (wr = W)) (fun _ _ i _ => 2 - (intOf i).toNat)
  case atStart => exact ⟨0, by omega, rfl, rfl, Lib.hid rfl⟩
  case round =>
    obtain ⟨k, hk, rfl, rfl, H⟩ := hrel
    have hw' : W = wr := H.out.symm
    subst hw'
    clear H
    rcases k with _ | _ | _ | k
    · simp only [pick3]
      go_wp2
      go_roundw
      case rel => exact ⟨1, by omega, rfl, rfl, Lib.hid trivial⟩
      case measure => simp [intOf]
    · simp only [pick3]
      go_wp2
      go_roundw
      case rel => exact ⟨2, by omega, rfl, rfl, Lib.hid trivial⟩
      case measure => simp [intOf]
    · simp only [pick3]
      go_wp2_with (go_at_call 60; refine (HG.out _).mono ?_; rintro e w1 ⟨v1, rfl, ho1, hb1⟩; have HO1 := Lib.hid (And.intro ho1 hb1); clear ho1 hb1)
      go_loopw [6, 8, 27] (fun v _ i wr => ∃ k : Nat, k ≤ 2 ∧ i = .int .i64 (k : Int) ∧ Hid (Own wr W.heap.size v (pick3 [] x (x ++ y) k) ∧ Below W.heap.size W wr)) (fun _ _ i _ => 2 - (intOf i).toNat)
      case atStart => exact ⟨0, by omega, rfl, HO1⟩
      case round =>
        obtain ⟨k, hk, rfl, H⟩ := hrel
        have hc1 := (H.out.2.cell (p := ⟨b, 0, none⟩) hb).trans h1
        have hc2 := (H.out.2.cell (p := ⟨b, 1, none⟩) hb).trans h2
        have HX2 := Lib.hid (HX.out.below H.out.2)
        have HY2 := Lib.hid (HY.out.below H.out.2)
        rcases k with _ | _ | _ | k
        · simp only [pick3] at H
          go_wp2_with (at_builtin; refine wpList_bytes wr _ _ rfl rfl W.heap.size u6 [] (some a1) n1 c1 x rfl rfl H.out.1 HX2.out (by intro h; cases h) (by simp; omega) H.out.2.size ?_; intro v9 w9 ho9 hg9; have HO9 := Lib.hid (And.intro ho9 (H.out.2.trans (H.out.1.changed hg9 H.out.2.size))); clear ho9 hg9)
          go_roundw
          case rel => exact ⟨1, by omega, rfl, HO9⟩
          case measure => simp [intOf]
        · simp only [pick3] at H
          go_wp2_with (at_builtin; refine wpList_bytes wr _ _ rfl rfl W.heap.size u6 x (some a2) n2 c2 y rfl rfl H.out.1 HY2.out (by intro h; cases h) (by omega) H.out.2.size ?_; intro v9 w9 ho9 hg9; have HO9 := Lib.hid (And.intro ho9 (H.out.2.trans (H.out.1.changed hg9 H.out.2.size))); clear ho9 hg9)
          go_roundw
          case rel => exact ⟨2, by omega, rfl, HO9⟩
          case measure => simp [intOf]
        · simp only [pick3] at H
          obtain ⟨A9, c9, hv9, hl9⟩ := H.out.1.liesB
          subst hv9
          have HL9 := Lib.hid hl9
          clear hl9
          go_wp2
          go_ret
          exact ⟨_, _, _, rfl, HL9.out, H.out.2⟩
        · omega
    · omega

set_option maxRecDepth 100000 in
set_option maxHeartbeats 2000000 in
theorem concatM_says (W : World) (b : Nat) (A1 A2 : Option Addr) (n1 n2 c1 c2 : Nat) (x y : List (List UInt8)) (h1 : W.cell? ⟨b, 0, none⟩ = some (.slice A1 n1 c1)) (h2 : W.cell? ⟨b, 1, none⟩ = some (.slice A2 n2 c2)) (hb : b < W.heap.size) (hx : Mtx W A1 n1 c1 x) (hy : Mtx W A2 n2 c2 y) (hn1 : 1 ≤ n1 ∧ n1 ≤ 1000) (hn2 : 1 ≤ n2 ∧ n2 ≤ 1000) :
    Calls Try.prog 51 #[.slice (some ⟨b, 0, none⟩) 2 2] W fun e w' => ∃ v, e = .returned v ∧ RowsO w' W.heap.size v (x ++ y) ∧ Below W.heap.size W w' := by
  have hlx := hx.len
  have hly := hy.len
  obtain ⟨b1, o1, hA1, hb1, _⟩ := hx.2.2 (by omega)
  obtain ⟨b2, o2, hA2, hb2, _⟩ := hy.2.2 (by omega)
  obtain ⟨xs, hxs, hxc⟩ := hx.old (Nat.le_refl _) hA1
  obtain ⟨ys, hys, hyc⟩ := hy.old (Nat.le_refl _) hA2
  have HX := Lib.hid (And.intro hxs hxc)
  have HY := Lib.hid (And.intro hys hyc)
  obtain ⟨t, ht⟩ : ∃ t, n1 + n2 = t := ⟨_, rfl⟩
  have HG := Lib.hid (fun V => growM_says V t (by omega) (by omega))
  subst hA1 hA2
  clear hx hy hxs hxc hys hyc
  have s1 : IntKind.i64.wrap (n1 : Int) = (n1 : Int) := IntWalk.i64_in _ (by omega)
  have s3 : (n1 : Int) + (n2 : Int) = (t : Int) := by omega
  have s2 : IntKind.i64.wrap (t : Int) = (t : Int) := IntWalk.i64_in _ (by omega)
  have g0 : ¬ (n1 : Int) < 0 := by omega
  have g1 : ¬ (t : Int) < 0 := by omega
  have HT := Lib.hid ht
  clear ht
  go_enter Try.func51, Try.ntmps51
  go_wp2_with fail
  go_loopw [3, 5, 11] (fun s _ i wr => ∃ k : Nat, k ≤ 2 ∧ i = .int .i64 (k : Int) ∧ s = .int .i64 (pick3 0 n1 t k : Int) ∧ Hid (wr = W)) (fun _ _ i _ => 2 - (intOf i).toNat)
  case atStart => exact ⟨0, by omega, rfl, rfl, Lib.hid rfl⟩
  case round =>
    obtain ⟨k, hk, rfl, rfl, H⟩ := hrel
    have hw' : W = wr := H.out.symm
    subst hw'
    clear H
    rcases k with _ | _ | _ | k
    · simp only [pick3]
      go_wp2
      go_roundw
      case rel => exact ⟨1, by omega, rfl, rfl, Lib.hid trivial⟩
      case measure => simp [intOf]
    · simp only [pick3]
      go_wp2
      go_roundw
      case rel => exact ⟨2, by omega, rfl, rfl, Lib.hid trivial⟩
      case measure => simp [intOf]
    · simp only [pick3]
      go_wp2_with (go_at_call 62; refine (HG.out _).mono ?_; rintro e w1 ⟨v1, rfl, ho1, hbb1⟩; have HO1 := Lib.hid (And.intro ho1 hbb1); clear ho1 hbb1)
      go_loopw [6, 8, 27] (fun v _ i wr => ∃ k : Nat, k ≤ 2 ∧ i = .int .i64 (k : Int) ∧ Hid (RowsO wr W.heap.size v (pick3 [] x (x ++ y) k) ∧ Below W.heap.size W wr)) (fun _ _ i _ => 2 - (intOf i).toNat)
      case atStart => exact ⟨0, by omega, rfl, HO1⟩
      case round =>
        obtain ⟨k, hk, rfl, H⟩ := hrel
        have hc1 := (H.out.2.cell (p := ⟨b, 0, none⟩) hb).trans h1
        have hc2 := (H.out.2.cell (p := ⟨b, 1, none⟩) hb).trans h2
        have HX2 := Lib.hid (show OldAt wr W.heap.size xs x ∧ ∀ (j : Nat) (u : Value), xs[j]? = some u → wr.cell? ((⟨b1, o1, none⟩ : Addr).add j) = some u from ⟨HX.out.1.keep H.out.2, fun j u hu => (H.out.2.cell (by rw [add_block]; exact hb1)).trans (HX.out.2 j u hu)⟩)
        have HY2 := Lib.hid (show OldAt wr W.heap.size ys y ∧ ∀ (j : Nat) (u : Value), ys[j]? = some u → wr.cell? ((⟨b2, o2, none⟩ : Addr).add j) = some u from ⟨HY.out.1.keep H.out.2, fun j u hu => (H.out.2.cell (by rw [add_block]; exact hb2)).trans (HY.out.2 j u hu)⟩)
        rcases k with _ | _ | _ | k
        · simp only [pick3] at H
          go_wp2_with (at_builtin; refine wpList_append_old wr _ _ rfl rfl W.heap.size u6 [] x ⟨b1, o1, none⟩ n1 c1 xs rfl rfl H.out.1 HX2.out.1 hlx HX2.out.2 (by simp; omega) H.out.2.size ?_; intro v9 w9 ho9 hg9; have HO9 := Lib.hid (And.intro ho9 (H.out.2.trans hg9)); clear ho9 hg9)
          go_roundw
          case rel => exact ⟨1, by omega, rfl, HO9⟩
          case measure => simp [intOf]
        · simp only [pick3] at H
          go_wp2_with (at_builtin; refine wpList_append_old wr _ _ rfl rfl W.heap.size u6 x y ⟨b2, o2, none⟩ n2 c2 ys rfl rfl H.out.1 HY2.out.1 hly HY2.out.2 (by omega) H.out.2.size ?_; intro v9 w9 ho9 hg9; have HO9 := Lib.hid (And.intro ho9 (H.out.2.trans hg9)); clear ho9 hg9)
          go_roundw
          case rel => exact ⟨2, by omega, rfl, HO9⟩
          case measure => simp [intOf]
        · simp only [pick3] at H
          go_wp2
          go_ret
          exact ⟨_, rfl, H.out⟩
        · omega
    · omega
end Go.Proofs.Ytgakeecibofiiaa
