/-
  slices.Concat of two slices: of bytes, and of rows.
  Back of package mat.
  Back of package mat: where it is refused; what it tells.
  copied, Rows and Join of package mat.
  Join of package mat.
  MatRows: what its walks share.
  Any rows of the one that changes nothing, with those of a Cauchy matrix behind it, may be turned back.
-/
import Derived.Test.YtpbkabgjpieggaaShelf
import Derived.Test.YtpbkabgjpieggaaM7
import Derived.Test.YtpbkabgjpieggaaM8
import Derived.Test.YtpbkabgjpieggaaM6
import Derived.Test.YtpbkabgjpieggaaM3
import Derived.Test.YtpbkabgjpieggaaM2

namespace Go.Proofs.Ytpbkabgjpieggaa
open Go.RowKit Go.Shelf

theorem size_made (n k : Nat) (z : Value) (hz : z.cells.size = 1) (h : n ≤ k) : ((#[] : Array Value) ++ Builtin.zeroCells z.cells n ++ Builtin.zeroCells z.cells (k - n)).size = k * 1 := by
  rw [Array.size_append, Array.size_append, size_zeroCells, size_zeroCells, hz]
  simp
  omega
set_option maxRecDepth 100000 in
theorem growB_says (W : World) (n : Nat) (h0 : 1 ≤ n) (hn : n ≤ 10000) : Calls Try.prog 67 #[.slice none 0 0, .int .i64 (n : Int)] W fun e w' => ∃ v, e = .returned v ∧ Own w' W.heap.size v [] ∧ Below W.heap.size W w' := by
  obtain ⟨i0, hi0, hz0, hz1, hz2⟩ := info_parts Try.byteInfo
  have h := Any8.slices_Grow_grow Try.growB i0 (.int .u8 0) hi0 hz0 (by rw [hz1]; decide) none 0 0 n [] W (by omega) (by omega) (by rw [hz2]; omega) (by omega) (by simp) (fun _ => rfl) (fun a ha => by cases ha)
  refine h.mono ?_
  rintro e w' ⟨rfl, rfl⟩
  have hge : 0 + n ≤ grownCap W (0 + n) 0 (Try.growB_ren.t 25) := grownCap_ge W (0 + n) 0 _
  have hle := grownCap_le_maxLen W (0 + n) 0 5 (by unfold maxLen; omega)
  refine ⟨_, rfl, World.ownsRow_made W.drew _ _ (Nat.le_refl _) hle (size_made (0 + n - 0) _ _ rfl (by omega)), (Below.refl _ W).drew.trans ((Below.refl _ W.drew).alloc (Nat.le_refl _) _)⟩
set_option maxRecDepth 100000 in
theorem growM_says (W : World) (n : Nat) (h0 : 1 ≤ n) (hn : n ≤ 10000) : Calls Try.prog 36 #[.slice none 0 0, .int .i64 (n : Int)] W fun e w' => ∃ v, e = .returned v ∧ RowsO w' W.heap.size v [] ∧ Below W.heap.size W w' := by
  obtain ⟨i0, hi0, hz0, hz1, hz2⟩ := info_parts rowInfo
  have h := Any8.slices_Grow_grow Try.growM i0 (.slice none 0 0) hi0 hz0 (by rw [hz1]; decide) none 0 0 n [] W (by omega) (by omega) (by rw [hz2]; omega) (by omega) (by simp) (fun _ => rfl) (fun a ha => by cases ha)
  refine h.mono ?_
  rintro e w' ⟨rfl, rfl⟩
  have hge : 0 + n ≤ grownCap W (0 + n) 0 (Try.growM_ren.t 25) := grownCap_ge W (0 + n) 0 _
  have hle := grownCap_le_maxLen W (0 + n) 0 31 (by unfold maxLen; omega)
  exact ⟨_, rfl, ⟨[], World.ownsRow_made W.drew _ _ (Nat.le_refl _) hle (size_made (0 + n - 0) _ _ rfl (by omega)), rfl, fun i l hl => by simp at hl⟩, (Below.refl _ W).drew.trans ((Below.refl _ W.drew).alloc (Nat.le_refl _) _)⟩

/-- One of three. -/
def pick3 {α : Type} (a b c : α) : Nat → α
  | 0 => a
  | 1 => b
  | _ => c
set_option maxRecDepth 100000 in
set_option maxHeartbeats 2000000 in
theorem concatB_says (W : World) (b : Nat) (A1 A2 : Option Addr) (n1 n2 c1 c2 : Nat) (x y : List UInt8) (h1 : W.cell? ⟨b, 0, none⟩ = some (.slice A1 n1 c1)) (h2 : W.cell? ⟨b, 1, none⟩ = some (.slice A2 n2 c2)) (hb : b < W.heap.size) (hx : Lies W (fun _ => True) A1 n1 c1 (bc x)) (hy : Lies W (fun _ => True) A2 n2 c2 (bc y)) (hn1 : 1 ≤ n1 ∧ n1 ≤ 1000) (hn2 : 1 ≤ n2 ∧ n2 ≤ 1000) :
    Calls Try.prog 58 #[.slice (some ⟨b, 0, none⟩) 2 2] W (GivesN W (x ++ y)) := by
  have hlx : x.length = n1 := by rw [← bc_length]; exact hx.len
  have hly : y.length = n2 := by rw [← bc_length]; exact hy.len
  have HX := Lib.hid hx
  have HY := Lib.hid hy
  obtain ⟨t, ht⟩ : ∃ t, n1 + n2 = t := ⟨_, rfl⟩
  have HG := Lib.hid (fun V => growB_says V t (by omega) (by omega))
  obtain ⟨a1, hA1, _⟩ := hx.2.2 (by omega)
  obtain ⟨a2, hA2, _⟩ := hy.2.2 (by omega)
  subst hA1 hA2
  clear hx hy
  have s1 : IntKind.i64.wrap (n1 : Int) = (n1 : Int) := IntWalk.i64_in _ (by omega)
  have s3 : (n1 : Int) + (n2 : Int) = (t : Int) := by omega
  have s2 : IntKind.i64.wrap (t : Int) = (t : Int) := IntWalk.i64_in _ (by omega)
  have g0 : ¬ (n1 : Int) < 0 := by omega
  have g1 : ¬ (t : Int) < 0 := by omega
  have HT := Lib.hid ht
  clear ht
  go_enter Try.func58, Try.ntmps58
  go_wp2_with fail
  go_loopw [3, 5, 11] (fun s _ i wr => ∃ k : Nat, k ≤ 2 ∧ i = .int .i64 (k : Int) ∧ s = .int .i64 (pick3 0 n1 t k : Int) ∧ Hid (wr = W)) (fun _ _ i _ => 2 - (intOf i).toNat)
  case atStart => exact ⟨0, by omega, rfl, rfl, Lib.hid rfl⟩
  case round =>
    obtain ⟨k, hk, rfl, rfl, H⟩ := hrel
    have hw' : W = wr := H.out.symm
    subst hw'
    clear H
    rcases k with _ | _ | _ | k
    · simp only [pick3]
      go_wp2
      go_roundw
      case rel => exact ⟨1, by omega, rfl, rfl, Lib.hid trivial⟩
      case measure => simp [intOf]
    · simp only [pick3]
      go_wp2
      go_roundw
      case rel => exact ⟨2, by omega, rfl, rfl, Lib.hid trivial⟩
      case measure => simp [intOf]
    · simp only [pick3]
      go_wp2_with (go_at_call 67; refine (HG.out _).mono ?_; rintro e w1 ⟨v1, rfl, ho1, hb1⟩; have HO1 := Lib.hid (And.intro ho1 hb1); clear ho1 hb1)
      go_loopw [6, 8, 27] (fun v _ i wr => ∃ k : Nat, k ≤ 2 ∧ i = .int .i64 (k : Int) ∧ Hid (Own wr W.heap.size v (pick3 [] x (x ++ y) k) ∧ Below W.heap.size W wr)) (fun _ _ i _ => 2 - (intOf i).toNat)
      case atStart => exact ⟨0, by omega, rfl, HO1⟩
      case round =>
        obtain ⟨k, hk, rfl, H⟩ := hrel
        have hc1 := (H.out.2.cell (p := ⟨b, 0, none⟩) hb).trans h1
        have hc2 := (H.out.2.cell (p := ⟨b, 1, none⟩) hb).trans h2
        have HX2 := Lib.hid (HX.out.below H.out.2)
        have HY2 := Lib.hid (HY.out.below H.out.2)
        rcases k with _ | _ | _ | k
        · simp only [pick3] at H
          go_wp2_with (at_builtin; refine wpList_bytes wr _ _ rfl rfl W.heap.size u6 [] (some a1) n1 c1 x rfl rfl H.out.1 HX2.out (by intro h; cases h) (by simp; omega) H.out.2.size ?_; intro v9 w9 ho9 hg9; have HO9 := Lib.hid (And.intro ho9 (H.out.2.trans (H.out.1.changed hg9 H.out.2.size))); clear ho9 hg9)
          go_roundw
          case rel => exact ⟨1, by omega, rfl, HO9⟩
          case measure => simp [intOf]
        · simp only [pick3] at H
          go_wp2_with (at_builtin; refine wpList_bytes wr _ _ rfl rfl W.heap.size u6 x (some a2) n2 c2 y rfl rfl H.out.1 HY2.out (by intro h; cases h) (by omega) H.out.2.size ?_; intro v9 w9 ho9 hg9; have HO9 := Lib.hid (And.intro ho9 (H.out.2.trans (H.out.1.changed hg9 H.out.2.size))); clear ho9 hg9)
          go_roundw
          case rel => exact ⟨2, by omega, rfl, HO9⟩
          case measure => simp [intOf]
        · simp only [pick3] at H
          obtain ⟨A9, c9, hv9, hl9⟩ := H.out.1.liesB
          subst hv9
          have HL9 := Lib.hid hl9
          clear hl9
          go_wp2
          go_ret
          exact ⟨_, _, _, rfl, HL9.out, H.out.2⟩
        · omega
    · omega

set_option maxRecDepth 100000 in
set_option maxHeartbeats 2000000 in
theorem concatM_says (W : World) (b : Nat) (A1 A2 : Option Addr) (n1 n2 c1 c2 : Nat) (x y : List (List UInt8)) (h1 : W.cell? ⟨b, 0, none⟩ = some (.slice A1 n1 c1)) (h2 : W.cell? ⟨b, 1, none⟩ = some (.slice A2 n2 c2)) (hb : b < W.heap.size) (hx : Mtx W A1 n1 c1 x) (hy : Mtx W A2 n2 c2 y) (hn1 : 1 ≤ n1 ∧ n1 ≤ 1000) (hn2 : 1 ≤ n2 ∧ n2 ≤ 1000) :
    Calls Try.prog 25 #[.slice (some ⟨b, 0, none⟩) 2 2] W fun e w' => ∃ v, e = .returned v ∧ RowsO w' W.heap.size v (x ++ y) ∧ Below W.heap.size W w' := by
  have hlx := hx.len
  have hly := hy.len
  obtain ⟨b1, o1, hA1, hb1, _⟩ := hx.2.2 (by omega)
  obtain ⟨b2, o2, hA2, hb2, _⟩ := hy.2.2 (by omega)
  obtain ⟨xs, hxs, hxc⟩ := hx.old (Nat.le_refl _) hA1
  obtain ⟨ys, hys, hyc⟩ := hy.old (Nat.le_refl _) hA2
  have HX := Lib.hid (And.intro hxs hxc)
  have HY := Lib.hid (And.intro hys hyc)
  obtain ⟨t, ht⟩ : ∃ t, n1 + n2 = t := ⟨_, rfl⟩
  have HG := Lib.hid (fun V => growM_says V t (by omega) (by omega))
  subst hA1 hA2
  clear hx hy hxs hxc hys hyc
  have s1 : IntKind.i64.wrap (n1 : Int) = (n1 : Int) := IntWalk.i64_in _ (by omega)
  have s3 : (n1 : Int) + (n2 : Int) = (t : Int) := by omega
  have s2 : IntKind.i64.wrap (t : Int) = (t : Int) := IntWalk.i64_in _ (by omega)
  have g0 : ¬ (n1 : Int) < 0 := by omega
  have g1 : ¬ (t : Int) < 0 := by omega
  have HT := Lib.hid ht
  clear ht
  go_enter Try.func25, Try.ntmps25
  go_wp2_with fail
  go_loopw [3, 5, 11] (fun s _ i wr => ∃ k : Nat, k ≤ 2 ∧ i = .int .i64 (k : Int) ∧ s = .int .i64 (pick3 0 n1 t k : Int) ∧ Hid (wr = W)) (fun _ _ i _ => 2 - (intOf i).toNat)
  case atStart => exact ⟨0, by omega, rfl, rfl, Lib.hid rfl⟩
  case round =>
    obtain ⟨k, hk, rfl, rfl, H⟩ := hrel
    have hw' : W = wr := H.out.symm
    subst hw'
    clear H
    rcases k with _ | _ | _ | k
    · simp only [pick3]
      go_wp2
      go_roundw
      case rel => exact ⟨1, by omega, rfl, rfl, Lib.hid trivial⟩
      case measure => simp [intOf]
    · simp only [pick3]
      go_wp2
      go_roundw
      case rel => exact ⟨2, by omega, rfl, rfl, Lib.hid trivial⟩
      case measure => simp [intOf]
    · simp only [pick3]
      go_wp2_with (go_at_call 36; refine (HG.out _).mono ?_; rintro e w1 ⟨v1, rfl, ho1, hbb1⟩; have HO1 := Lib.hid (And.intro ho1 hbb1); clear ho1 hbb1)
      go_loopw [6, 8, 27] (fun v _ i wr => ∃ k : Nat, k ≤ 2 ∧ i = .int .i64 (k : Int) ∧ Hid (RowsO wr W.heap.size v (pick3 [] x (x ++ y) k) ∧ Below W.heap.size W wr)) (fun _ _ i _ => 2 - (intOf i).toNat)
      case atStart => exact ⟨0, by omega, rfl, HO1⟩
      case round =>
        obtain ⟨k, hk, rfl, H⟩ := hrel
        have hc1 := (H.out.2.cell (p := ⟨b, 0, none⟩) hb).trans h1
        have hc2 := (H.out.2.cell (p := ⟨b, 1, none⟩) hb).trans h2
        have HX2 := Lib.hid (show OldAt wr W.heap.size xs x ∧ ∀ (j : Nat) (u : Value), xs[j]? = some u → wr.cell? ((⟨b1, o1, none⟩ : Addr).add j) = some u from ⟨HX.out.1.keep H.out.2, fun j u hu => (H.out.2.cell (by rw [add_block]; exact hb1)).trans (HX.out.2 j u hu)⟩)
        have HY2 := Lib.hid (show OldAt wr W.heap.size ys y ∧ ∀ (j : Nat) (u : Value), ys[j]? = some u → wr.cell? ((⟨b2, o2, none⟩ : Addr).add j) = some u from ⟨HY.out.1.keep H.out.2, fun j u hu => (H.out.2.cell (by rw [add_block]; exact hb2)).trans (HY.out.2 j u hu)⟩)
        rcases k with _ | _ | _ | k
        · simp only [pick3] at H
          go_wp2_with (at_builtin; refine wpList_append_oldR wr _ _ rfl rfl W.heap.size u6 [] x ⟨b1, o1, none⟩ n1 c1 xs rfl rfl H.out.1 HX2.out.1 hlx HX2.out.2 (by simp; omega) H.out.2.size ?_; intro v9 w9 ho9 hg9; have HO9 := Lib.hid (And.intro ho9 (H.out.2.trans hg9)); clear ho9 hg9)
          go_roundw
          case rel => exact ⟨1, by omega, rfl, HO9⟩
          case measure => simp [intOf]
        · simp only [pick3] at H
          go_wp2_with (at_builtin; refine wpList_append_oldR wr _ _ rfl rfl W.heap.size u6 x y ⟨b2, o2, none⟩ n2 c2 ys rfl rfl H.out.1 HY2.out.1 hly HY2.out.2 (by omega) H.out.2.size ?_; intro v9 w9 ho9 hg9; have HO9 := Lib.hid (And.intro ho9 (H.out.2.trans hg9)); clear ho9 hg9)
          go_roundw
          case rel => exact ⟨2, by omega, rfl, HO9⟩
          case measure => simp [intOf]
        · simp only [pick3] at H
          go_wp2
          go_ret
          exact ⟨_, rfl, H.out⟩
        · omega
    · omega
end Go.Proofs.Ytpbkabgjpieggaa


namespace Go.Proofs.Ytpbkabgjpieggaa
open Go.RowKit Go.Shelf

/-- The matrix with the one that changes nothing beside it. -/
def besideL (M : List (List UInt8)) (n k : Nat) : List (List UInt8) := (List.range k).map (fun i => M.getD i [] ++ byRule n (oneF i))
theorem beside_length (M : List (List UInt8)) (n k : Nat) : (besideL M n k).length = k := by simp [besideL]
theorem beside_succ (M : List (List UInt8)) (n k : Nat) : besideL M n (k + 1) = besideL M n k ++ [M.getD k [] ++ byRule n (oneF k)] := by simp [besideL, List.range_succ]
theorem beside_lev {M : List (List UInt8)} {n : Nat} (h : Lev n n M) : Lev n (n + n) (besideL M n n) := ⟨beside_length _ _ _, fun r hr => by
  obtain ⟨i, hi, rfl⟩ := List.mem_map.1 hr
  obtain ⟨x, _, h2, h3⟩ := h.get (List.mem_range.1 hi)
  rw [h2, List.length_append, h3, byRule_length]⟩
/-- What turns it back, if all columns lead. -/
def backL (M : List (List UInt8)) (n : Nat) : List (List UInt8) := matBy n n (fun i j => at2 (sweepTo (besideL M n n) n).1 i (n + j))

set_option maxRecDepth 100000 in
set_option maxHeartbeats 1000000 in
theorem back1_says (W : World) (h10 h7 g n L c : Nat) (E : List (List UInt8)) (cap : Nat) (hc10 : W.cell? ⟨h10, 0, none⟩ = some (.slice (some ⟨g, 0, none⟩) n c)) (hc7 : W.cell? ⟨h7, 0, none⟩ = some (.int .i64 (n : Int))) (hl10 : h10 < W.heap.size) (hl7 : h7 < W.heap.size) (hR : RowsN W g cap (fun b => b ≠ g) E) (hE : Lev n L E) (hL : n + n ≤ L) (hL2 : L ≤ 1000) (i j : Nat) (hi : i < n) (hj : j < n) :
    Calls Try.prog 60 #[.int .i64 (i : Int), .int .i64 (j : Int), .pointer (some ⟨h10, 0, none⟩), .pointer (some ⟨h7, 0, none⟩)] W fun e w' => e = .returned (.int .u8 ((at2 E i (n + j)).toNat : Int)) ∧ Below W.heap.size W w' := by
  obtain ⟨r, hr, _, hrl⟩ := hE.get hi
  obtain ⟨u, hu⟩ : ∃ u, r[n + j]? = some u := ⟨_, List.getElem?_eq_getElem (by omega)⟩
  obtain ⟨Ai, ci, hci, hli⟩ := hR.row hr
  rw [hrl] at hci hli
  obtain ⟨b, off, hA, _, hb, hcu⟩ := hli.at (j := n + j) (u := .int .u8 (u.toNat : Int)) (by simp [bc, hu])
  subst hA
  rw [at2_of hr hu]
  have k1 := grows_cell hc10 hl10
  have k2 := grows_cell hc7 hl7
  have k3 := grows_cell hci hR.lt
  have k4 := grows_cell hcu hb
  have m1 : (0 : Int) ≤ (n : Int) + (j : Int) := by omega
  have m2 : (n : Int) + (j : Int) < (L : Int) := by omega
  have m3 : ((n : Int) + (j : Int)).toNat = n + j := by omega
  have m4 : IntKind.i64.wrap ((n : Int) + (j : Int)) = (n : Int) + (j : Int) := IntWalk.i64_in _ (by omega)
  have m5 : (i : Int) < (n : Int) := by omega
  clear hR hE hr hu hli hci hcu hc10 hc7 hrl
  go_enter Try.func60, Try.ntmps60
  go_wp2_with fail
  refine wp_region_grows (by kernel_rfl) (by kernel_rfl) ?_
  repeat (first | quiet_step (fail))
  refine wpQuiet_nil ?_
  rintro w2 ⟨⟨_, hw2⟩, rfl⟩
  have HW := Lib.hid hw2
  clear hw2 k1 k2 k3 k4
  go_wp2
  go_ret
  exact ⟨rfl, HW.out⟩

/-- Ahead of row k. -/
structure BackAt (w3 wr : World) (g h10 n k : Nat) (M : List (List UInt8)) : Prop where
  rows : RowsN wr g n (fun b => b ≠ g) (besideL M n k)
  box : wr.cell? ⟨h10, 0, none⟩ = some (.slice (some ⟨g, 0, none⟩) n n)
  lt : h10 < wr.heap.size ∧ h10 ≠ g
  bel : Below w3.heap.size w3 wr

set_option maxRecDepth 100000 in
set_option maxHeartbeats 4000000 in
theorem back_square (P : Option Addr) (w : World) (A : Option Addr) (n c : Nat) (M : List (List UInt8)) (hM : Mtx w A n c M) (hr : RightM M) (hsq : colsOf M = n) :
    Calls Try.prog 46 #[.pointer P, .slice A n c] w (if (sweepTo (besideL M n n) n).2 < n then GivesE w [] 18 else GivesE w (backL M n) 0) := by
  have hl := hM.len
  obtain ⟨d, hd⟩ : ∃ T, (sweepTo (besideL M n n) n).2 = T := ⟨_, rfl⟩
  rw [hd]
  have HD := Lib.hid hd
  clear hd
  have hn1 : 1 ≤ n := by have := hr.1; omega
  have hn2 : n ≤ 255 := by have := hr.2.1; omega
  have hlev : Lev n n M := by have := right_lev hr; rwa [hl, hsq] at this
  obtain ⟨j0, hj0, jz0, jz1, jz2⟩ := info_parts rowInfo
  have HS := Lib.hid (by have := size_says w A n c M hM (by omega); rwa [sizeL, if_pos hr, hl, hsq] at this)
  have HO := Lib.hid (fun W => one_yes n ⟨hn1, hn2⟩ W)
  obtain ⟨r0, hr0, _, hr0l⟩ := hlev.get (show 0 < n by omega)
  obtain ⟨bm, om, _, _, hA, hbm, _, _⟩ := hM.row hr0
  subst hA
  have HM := Lib.hid hM
  have HLV := Lib.hid hlev
  clear hM hr hsq hlev hr0 hr0l
  go_enter Try.func46, Try.ntmps46
  go_upto_region 6 with (first
    | (go_at_call 54; refine HS.out.mono ?_; rintro e w1 ⟨rfl, hb1⟩; have HB1 := Lib.hid hb1; clear hb1)
    | (go_at_call 57; refine (HO.out _).mono ?_; rintro e w3 ⟨A3, n3, c3, rfl, hm3, hb3⟩; have hc7 : w3.cell? ⟨w1.heap.size, 0, none⟩ = some (.int .i64 (n : Int)) := (hb3.cell (p := ⟨w1.heap.size, 0, none⟩) (by simp)).trans (cell_one_new w1 _ _ 0 _ rfl); have HM3 := Lib.hid hm3; have HB3 := Lib.hid (show Below w.heap.size w w3 ∧ w1.heap.size < w3.heap.size from ⟨HB1.out.trans ((((Below.refl _ w1).alloc (Nat.le_refl _) (.cells #[.int .i64 (n : Int)] 3)).trans (hb3.mono (by simp))).mono HB1.out.size), Nat.lt_of_lt_of_le (by simp) hb3.size⟩); clear hm3 hb3)
    | (at_make; refine wpList_make_full w3 rfl _ _ 22 rfl w3.heap.size 31 j0 _ 1 Try.underlying22 hj0 jz0 jz1 _ _ _ _ n rfl rfl rfl rfl (by rw [jz2]; omega) (by unfold maxLen; omega) (Nat.le_refl _) ?_; intro w4 hown4 hg4; have HX4 := Lib.hid (And.intro (rows_made (fun b => b ≠ w3.heap.size) hown4) ((Below.refl w3.heap.size w3).grown hg4 (Nat.le_refl _) (fun k hk => by cases hk))); clear hown4 hg4))
  generalize hw5 : w4.alloc (.cells #[.slice (some ⟨w3.heap.size, 0, none⟩) n n] 22) = w5
  have HI := Lib.hid (show BackAt w3 w5 w3.heap.size w4.heap.size n 0 M from by
    subst hw5
    have hb5 : Below w4.heap.size w4 (w4.alloc (.cells #[.slice (some ⟨w3.heap.size, 0, none⟩) n n] 22)) := (Below.refl _ w4).alloc (Nat.le_refl _) _
    exact ⟨HX4.out.1.below hb5, cell_one_new w4 _ _ 0 _ rfl, ⟨by simp, by have := HX4.out.1.lt; omega⟩, HX4.out.2.trans (hb5.mono HX4.out.2.size)⟩)
  obtain ⟨h7, hh7⟩ : ∃ x, w1.heap.size = x := ⟨_, rfl⟩
  obtain ⟨g, hg⟩ : ∃ x, w3.heap.size = x := ⟨_, rfl⟩
  obtain ⟨h10, hh10⟩ : ∃ x, w4.heap.size = x := ⟨_, rfl⟩
  rw [hh7] at hc7 HB3 ⊢
  rw [hg] at HI HB3 ⊢
  rw [hh10] at HI ⊢
  have HC7 := Lib.hid hc7
  have HG := Lib.hid hg
  have hcb := HI.out.box
  clear hw5 HX4 hc7 HB1 HS HO hh7 hh10 hg
  obtain ⟨q0, hq0, _, _⟩ := (show Lev n n (matBy n n oneF) from ⟨matBy_length _ _ _, fun r hr => by obtain ⟨i, _, rfl⟩ := List.mem_map.1 hr; exact byRule_length _ _⟩).get (show 0 < n by omega)
  obtain ⟨bo, oo, _, _, hA3, hbo, _, _⟩ := HM3.out.row hq0
  subst hA3
  have hn3 : n3 = n := by rw [← HM3.out.len, matBy_length]
  subst hn3
  clear hq0
  go_wp2_with fail
  clear hcb
  go_loopw [11, 33] (fun _ i wr => ∃ (k : Nat), k ≤ n3 ∧ i = .int .i64 (k : Int) ∧ Hid (BackAt w3 wr g h10 n3 k M)) (fun _ i _ => n3 - (intOf i).toNat)
  case atStart => exact ⟨0, by omega, rfl, HI⟩
  case round =>
    obtain ⟨k, hk, rfl, H⟩ := hrel
    by_cases hlt : k < n3
    · have l1 : (k : Int) < (n3 : Int) := by omega
      obtain ⟨r, hrk, hrk2, hrl⟩ := HLV.out.get hlt
      have hok : (matBy n3 n3 oneF)[k]? = some (byRule n3 (oneF k)) := matBy_at _ _ _ hlt
      obtain ⟨b', o', Am, cm, hA, _, hcm, hlm⟩ := HM.out.row hrk
      obtain ⟨rfl, rfl⟩ : bm = b' ∧ om = o' := by
        injection hA with hA
        injection hA with h1 h2
        exact ⟨h1, h2⟩
      obtain ⟨b'', o'', Ao, co, hA2, _, hco, hlo⟩ := HM3.out.row hok
      obtain ⟨rfl, rfl⟩ : bo = b'' ∧ oo = o'' := by
        injection hA2 with hA2
        injection hA2 with h1 h2
        exact ⟨h1, h2⟩
      rw [hrl] at hcm hlm
      rw [byRule_length] at hco hlo
      have hwb : Below w.heap.size w wr := HB3.out.1.trans (H.out.bel.mono HB3.out.1.size)
      have k1 := H.out.box
      have k2 : wr.cell? ⟨bm, om + k, none⟩ = some (.slice Am n3 cm) := (hwb.cell (p := ⟨bm, om + k, none⟩) hbm).trans hcm
      have k3 : wr.cell? ⟨bo, oo + k, none⟩ = some (.slice Ao n3 co) := (H.out.bel.cell (p := ⟨bo, oo + k, none⟩) hbo).trans hco
      have HLM := Lib.hid (hlm.below hwb)
      have HLO := Lib.hid (hlo.below H.out.bel)
      have HRK := Lib.hid (And.intro hrk2 hrl)
      have hgw : g < wr.heap.size := H.out.rows.lt
      have hbmw : bm < wr.heap.size := Nat.lt_of_lt_of_le hbm hwb.size
      have hbow : bo < wr.heap.size := Nat.lt_of_lt_of_le hbo H.out.bel.size
      have hbmg : bm ≠ g := by have := HB3.out.1.size; have := HG.out; omega
      have hbog : bo ≠ g := by have := HG.out; omega
      have h10l := H.out.lt
      clear hrk hrk2 hrl hok hA hA2 hcm hlm hco hlo hwb
      go_wp2_with fail
      refine wp_region_held_drew (S := fun w' => w'.cell? ⟨h10, 0, none⟩ = some (.slice (some ⟨g, 0, none⟩) n3 n3) ∧ w'.cell? ⟨bm, om + k, none⟩ = some (.slice Am n3 cm) ∧ w'.cell? ⟨bo, oo + k, none⟩ = some (.slice Ao n3 co)) (by kernel_rfl) ⟨k1, k2, k3⟩ (fun hHeld => ?_)
      refine take_run 0 36 (v := ?_) rfl rfl (by kernel_rfl) (by kernel_rfl) (by kernel_rfl) (fun _ _ _ h => h) (by rfl) ?_ (by assumption) ?_
      rotate_left
      · (intro wq hSw; obtain ⟨hS1, hS2, hS3⟩ := hSw; go_simp; first | done | with_reducible rfl)
      simp only [Act.put, List.setIfInBounds_toArray, List.set_cons_zero, List.set_cons_succ]
      refine take_run 1 37 (v := ?_) rfl rfl (by kernel_rfl) (by kernel_rfl) (by kernel_rfl) (fun _ _ _ h => h) (by rfl) ?_ (by assumption) ?_
      rotate_left
      · (intro wq hSw; obtain ⟨hS1, hS2, hS3⟩ := hSw; go_simp; first | done | with_reducible rfl)
      simp only [Act.put, List.setIfInBounds_toArray, List.set_cons_zero, List.set_cons_succ]
      refine take_run 2 38 (v := ?_) rfl rfl (by kernel_rfl) (by kernel_rfl) (by kernel_rfl) (fun _ _ _ h => h) (by rfl) ?_ (by assumption) ?_
      rotate_left
      · (intro wq hSw; obtain ⟨hS1, hS2, hS3⟩ := hSw; go_simp; first | done | with_reducible rfl)
      simp only [Act.put, List.setIfInBounds_toArray, List.set_cons_zero, List.set_cons_succ]
      refine take_run 3 39 (v := ?_) rfl rfl (by kernel_rfl) (by kernel_rfl) (by kernel_rfl) (fun _ _ _ h => h) (by rfl) ?_ (by assumption) ?_
      rotate_left
      · (intro wq hSw; obtain ⟨hS1, hS2, hS3⟩ := hSw; go_simp; first | done | with_reducible rfl)
      simp only [Act.put, List.setIfInBounds_toArray, List.set_cons_zero, List.set_cons_succ]
      refine take_run 4 40 (v := ?_) rfl rfl (by kernel_rfl) (by kernel_rfl) (by kernel_rfl) (fun _ _ _ h => h) (by rfl) ?_ (by assumption) ?_
      rotate_left
      · (intro wq hSw; obtain ⟨hS1, hS2, hS3⟩ := hSw; go_simp; first | done | with_reducible rfl)
      simp only [Act.put, List.setIfInBounds_toArray, List.set_cons_zero, List.set_cons_succ]
      refine take_run 5 41 (v := ?_) rfl rfl (by kernel_rfl) (by kernel_rfl) (by kernel_rfl) (fun _ _ _ h => h) (by rfl) ?_ (by assumption) ?_
      rotate_left
      · (intro wq hSw; obtain ⟨hS1, hS2, hS3⟩ := hSw; go_simp; first | done | with_reducible rfl)
      simp only [Act.put, List.setIfInBounds_toArray, List.set_cons_zero, List.set_cons_succ]
      refine take_run 6 42 (v := ?_) rfl rfl (by kernel_rfl) (by kernel_rfl) (by kernel_rfl) (fun _ _ _ h => h) (by rfl) ?_ (by assumption) ?_
      rotate_left
      · (intro wq hSw; obtain ⟨hS1, hS2, hS3⟩ := hSw; go_simp; first | done | with_reducible rfl)
      simp only [Act.put, List.setIfInBounds_toArray, List.set_cons_zero, List.set_cons_succ]
      refine take_run 7 43 (v := ?_) rfl rfl (by kernel_rfl) (by kernel_rfl) (by kernel_rfl) (fun _ _ _ h => h) (by rfl) ?_ (by assumption) ?_
      rotate_left
      · (intro wq hSw; obtain ⟨hS1, hS2, hS3⟩ := hSw; go_simp; first | done | with_reducible rfl)
      simp only [Act.put, List.setIfInBounds_toArray, List.set_cons_zero, List.set_cons_succ]
      refine take_run 8 44 (v := ?_) rfl rfl (by kernel_rfl) (by kernel_rfl) (by kernel_rfl) (fun _ _ _ h => h) (by rfl) ?_ (by assumption) ?_
      rotate_left
      · (intro wq hSw; obtain ⟨hS1, hS2, hS3⟩ := hSw; go_simp; first | done | with_reducible rfl)
      simp only [Act.put, List.setIfInBounds_toArray, List.set_cons_zero, List.set_cons_succ]
      refine take_run 9 45 (v := ?_) rfl rfl (by kernel_rfl) (by kernel_rfl) (by kernel_rfl) (fun _ _ _ h => h) (by rfl) ?_ (by assumption) ?_
      rotate_left
      · (intro wq hSw; obtain ⟨hS1, hS2, hS3⟩ := hSw; go_simp; first | done | with_reducible rfl)
      simp only [Act.put, List.setIfInBounds_toArray, List.set_cons_zero, List.set_cons_succ]
      refine wpAnyH_ready (rs := [10]) (by kernel_rfl) (by simp) ?_
      refine AllReadyH.cons rfl (fun K hK => ?_) AllReadyH.nil
      go_simp
      have hba : Below wr.heap.size wr (wr.drew.alloc (.cells #[.slice Am n3 cm, .slice Ao n3 co] 31)) := (Below.refl _ wr).drew.trans ((Below.refl _ wr.drew).alloc (Nat.le_refl _) _)
      refine hK.out _ _ ⟨(hba.cell (p := ⟨h10, 0, none⟩) h10l.1).trans k1, (hba.cell (p := ⟨bm, om + k, none⟩) hbmw).trans k2, (hba.cell (p := ⟨bo, oo + k, none⟩) hbow).trans k3⟩ (fun hHeld => ?_)
      clear hK K
      refine wpAnyH_ready (rs := [11]) (by kernel_rfl) (by simp) ?_
      refine AllReadyH.cons rfl (fun K hK => ?_) AllReadyH.nil
      go_simp
      have hbox := Box.made wr.drew 31 #[.slice Am n3 cm, .slice Ao n3 co]
      refine (concatB_says _ wr.heap.size Am Ao n3 n3 cm co r (byRule n3 (oneF k)) (by exact (hbox.cell 0).trans rfl) (by exact (hbox.cell 1).trans rfl) hbox.lt (HLM.out.below hba) (HLO.out.below hba) (by omega) (by omega)).mono ?_
      rintro e w6 ⟨B6, n6, c6, rfl, hl6, hb6⟩
      have hB6 : Below wr.heap.size wr w6 := hba.trans (hb6.mono hba.size)
      have hn6 : (r ++ byRule n3 (oneF k)).length = n6 := by rw [← bc_length]; exact hl6.len
      have HL6 := Lib.hid (show Lies w6 (fun b => b ≠ g) B6 n6 c6 (bc (r ++ byRule n3 (oneF k))) from hl6.weak (fun b _ hb => by have := hba.size; have hb' : (wr.drew.alloc (.cells #[.slice Am n3 cm, .slice Ao n3 co] 31)).heap.size ≤ b := hb; omega))
      have hR6 := H.out.rows.below hB6
      obtain ⟨⟨v6, hc6⟩, hf6⟩ := hR6.place hlt
      have HR6 := Lib.hid (And.intro hR6 (And.intro hB6 hn6))
      clear hl6 hb6 hR6 hn6 hbox hba
      refine hK.out _ _ ⟨(hB6.cell (p := ⟨h10, 0, none⟩) h10l.1).trans k1, (hB6.cell (p := ⟨bm, om + k, none⟩) hbmw).trans k2, (hB6.cell (p := ⟨bo, oo + k, none⟩) hbow).trans k3⟩ (fun hHeld => ?_)
      clear hK K hB6
      refine take_run 12 48 (v := ?_) rfl rfl (by kernel_rfl) (by kernel_rfl) (by kernel_rfl) (fun _ _ _ h => h) (by rfl) ?_ (by assumption) ?_
      rotate_left
      · (intro wq hSw; obtain ⟨hS1, hS2, hS3⟩ := hSw; go_simp; first | done | with_reducible rfl)
      simp only [Act.put, List.setIfInBounds_toArray, List.set_cons_zero, List.set_cons_succ]
      refine wpAnyH_ready (rs := [13]) (by kernel_rfl) (by simp) ?_
      refine AllReadyH.cons rfl (fun K hK => ?_) AllReadyH.nil
      go_simp
      refine hK.out _ _ ?_ (fun _ => ?_)
      · exact ⟨(World.cell?_setCell_other _ _ _ _ (fun e => by injection e with e; exact h10l.2 e.symm)).trans hHeld.1, (World.cell?_setCell_other _ _ _ _ (fun e => by injection e with e; exact hbmg e.symm)).trans hHeld.2.1, (World.cell?_setCell_other _ _ _ _ (fun e => by injection e with e; exact hbog e.symm)).trans hHeld.2.2⟩
      clear hK K
      refine wpAnyH_done (by kernel_rfl) ?_ _
      go_wp2
      go_roundw
      case rel =>
        refine ⟨k + 1, by omega, by go_num, Lib.hid ⟨?_, ?_, ⟨?_, h10l.2⟩, ?_⟩⟩
        · rw [beside_succ, HRK.out.1]
          have h1 := HR6.out.1.push (fun e => e rfl) (by rw [beside_length]; exact hlt) HR6.out.2.2 HL6.out
          rwa [beside_length] at h1
        · exact (World.cell?_setCell_other _ _ _ _ (fun e => by injection e with e; exact h10l.2 e.symm)).trans hHeld.1
        · simpa using Nat.lt_of_lt_of_le h10l.1 HR6.out.2.1.size
        · exact (H.out.bel.trans (HR6.out.2.1.mono H.out.bel.size)).setCell (p := ⟨g, k, none⟩) (by rw [HG.out]; exact Nat.le_refl _) _
      case measure => simp [intOf]; omega
    · obtain rfl : k = n3 := by omega
      have l1 : ¬ (k : Int) < (k : Int) := by omega
      have k1 := H.out.box
      have h7g : h7 < g := HB3.out.2
      have k2 : wr.cell? ⟨h7, 0, none⟩ = some (.int .i64 (k : Int)) := (H.out.bel.cell (p := ⟨h7, 0, none⟩) (by rw [HG.out]; exact h7g)).trans HC7.out
      have hgw : g < wr.heap.size := H.out.rows.lt
      have hwb : Below w.heap.size w wr := HB3.out.1.trans (H.out.bel.mono HB3.out.1.size)
      have hLB := beside_lev HLV.out
      have HSW := Lib.hid (fun (W : World) (hR : RowsN W g k (fun b => b ≠ g) (besideL M k k)) => sweep_says P W g k k (k + k) k k (besideL M k k) hR hLB (Nat.le_refl _) (by omega) (by omega) (by omega))
      have HWB := Lib.hid hwb
      have HLB := Lib.hid (sweep_lev hLB k)
      obtain ⟨T, hT⟩ : ∃ T, (sweepTo (besideL M k k) k).1 = T := ⟨_, rfl⟩
      have HBL := Lib.hid (show backL M k = matBy k k (fun i j => at2 T i (k + j)) from by rw [← hT]; rfl)
      rw [hT, HD.out] at HSW
      rw [hT] at HLB
      have h10l := H.out.lt
      clear hwb hLB hT
      go_wp2_with fail
      refine wp_region_held_drew (S := fun w' => w'.cell? ⟨h10, 0, none⟩ = some (.slice (some ⟨g, 0, none⟩) k k) ∧ w'.cell? ⟨h7, 0, none⟩ = some (.int .i64 (k : Int)) ∧ True) (by kernel_rfl) ⟨k1, k2, trivial⟩ (fun hHeld => ?_)
      refine take_run 0 50 (v := ?_) rfl rfl (by kernel_rfl) (by kernel_rfl) (by kernel_rfl) (fun _ _ _ h => h) (by rfl) ?_ (by assumption) ?_
      rotate_left
      · (intro wq hSw; obtain ⟨hS1, hS2, _⟩ := hSw; go_simp; first | done | with_reducible rfl)
      simp only [Act.put, List.setIfInBounds_toArray, List.set_cons_zero, List.set_cons_succ]
      refine take_run 1 51 (v := ?_) rfl rfl (by kernel_rfl) (by kernel_rfl) (by kernel_rfl) (fun _ _ _ h => h) (by rfl) ?_ (by assumption) ?_
      rotate_left
      · (intro wq hSw; obtain ⟨hS1, hS2, _⟩ := hSw; go_simp; first | done | with_reducible rfl)
      simp only [Act.put, List.setIfInBounds_toArray, List.set_cons_zero, List.set_cons_succ]
      refine take_run 2 52 (v := ?_) rfl rfl (by kernel_rfl) (by kernel_rfl) (by kernel_rfl) (fun _ _ _ h => h) (by rfl) ?_ (by assumption) ?_
      rotate_left
      · (intro wq hSw; obtain ⟨hS1, hS2, _⟩ := hSw; go_simp; first | done | with_reducible rfl)
      simp only [Act.put, List.setIfInBounds_toArray, List.set_cons_zero, List.set_cons_succ]
      refine take_run 4 54 (v := ?_) rfl rfl (by kernel_rfl) (by kernel_rfl) (by kernel_rfl) (fun _ _ _ h => h) (by rfl) ?_ (by assumption) ?_
      rotate_left
      · (intro wq hSw; obtain ⟨hS1, hS2, _⟩ := hSw; go_simp; first | done | with_reducible rfl)
      simp only [Act.put, List.setIfInBounds_toArray, List.set_cons_zero, List.set_cons_succ]
      refine wpAnyH_ready (rs := [3]) (by kernel_rfl) (by simp) ?_
      refine AllReadyH.cons rfl (fun K hK => ?_) AllReadyH.nil
      go_simp
      refine (HSW.out wr.drew H.out.rows).mono ?_
      rintro e w7 ⟨rfl, hR7, hg7⟩
      have hg7' : wr.grownBy w7 (some g) := ⟨hg7.os, hg7.tape, hg7.output, hg7.size, hg7.block⟩
      have j1 := cell_grown hg7' h10l.1 h10l.2 k1
      have j2 := cell_grown hg7' (Nat.lt_trans h7g hgw) (by omega) k2
      have HR7 := Lib.hid (show RowsN w7 g k (fun b => b ≠ g) T ∧ Below w.heap.size w w7 ∧ wr.heap.size ≤ w7.heap.size from ⟨hR7, HWB.out.trans ((Below.refl w.heap.size wr).grown hg7' HWB.out.size (fun k hk => by cases hk; have := HG.out; have := HB3.out.1.size; omega)), hg7'.size⟩)
      clear hR7 hg7 hg7'
      refine hK.out _ _ ⟨j1, j2, trivial⟩ (fun hHeld => ?_)
      clear hK K
      refine take_run 5 55 (v := ?_) rfl rfl (by kernel_rfl) (by kernel_rfl) (by kernel_rfl) (fun _ _ _ h => h) (by rfl) ?_ (by assumption) ?_
      rotate_left
      · (intro wq hSw; obtain ⟨hS1, hS2, _⟩ := hSw; go_simp; first | done | with_reducible rfl)
      simp only [Act.put, List.setIfInBounds_toArray, List.set_cons_zero, List.set_cons_succ]
      refine wpAnyH_done (by kernel_rfl) ?_ _
      clear k1 k2 hHeld
      by_cases hdk : d < k
      · have hdk' : (d : Int) < (k : Int) := by omega
        go_wp2
        go_ret2
        (try rw [if_pos hdk])
        exact ⟨_, _, _, rfl, Mtx.nil _ _ _, HR7.out.2.1⟩
      · have hdk' : ¬ (d : Int) < (k : Int) := by omega
        have HMD := Lib.hid (made_says k k (by omega) (by omega) 60 #[.pointer (some ⟨h10, 0, none⟩), .pointer (some ⟨h7, 0, none⟩)] (fun i j => at2 T i (k + j)) (enters_of Try.func60 (by kernel_rfl) rfl) w7
          (fun W i j hi hj hW => back1_says W h10 h7 g k (k + k) k T k ((hW.cell (p := ⟨h10, 0, none⟩) (Nat.lt_of_lt_of_le h10l.1 HR7.out.2.2)).trans j1) ((hW.cell (p := ⟨h7, 0, none⟩) (Nat.lt_of_lt_of_le (Nat.lt_trans h7g hgw) HR7.out.2.2)).trans j2) (Nat.lt_of_lt_of_le (Nat.lt_of_lt_of_le h10l.1 HR7.out.2.2) hW.size) (Nat.lt_of_lt_of_le (Nat.lt_of_lt_of_le (Nat.lt_trans h7g hgw) HR7.out.2.2) hW.size) (HR7.out.1.below hW) HLB.out (Nat.le_refl _) (by omega) i j hi hj))
        go_wp2_with (go_at_call 55; refine HMD.out.mono ?_; rintro e w8 ⟨A8, n8, c8, rfl, hm8, hb8⟩; have HR8 := Lib.hid (And.intro hm8 hb8); clear hm8 hb8)
        go_ret2
        (try rw [if_neg hdk])
        refine ⟨_, _, _, rfl, ?_, HR7.out.2.1.trans (HR8.out.2.mono HR7.out.2.1.size)⟩
        rw [HBL.out]
        exact HR8.out.1
end Go.Proofs.Ytpbkabgjpieggaa


namespace Go.Proofs.Ytpbkabgjpieggaa
open Go.RowKit Go.Shelf

set_option maxRecDepth 100000 in
set_option maxHeartbeats 1000000 in
theorem back_no (P : Option Addr) (w : World) (A : Option Addr) (n c : Nat) (M : List (List UInt8)) (hM : Mtx w A n c M) (hn : n ≤ 2000) (hno : ¬ (RightM M ∧ colsOf M = n)) : Calls Try.prog 46 #[.pointer P, .slice A n c] w (GivesE w [] 2) := by
  have hl := hM.len
  have hs := size_says w A n c M hM hn
  by_cases hr : RightM M
  · rw [sizeL, if_pos hr, hl] at hs
    have hne : ((n : Int) != (colsOf M : Int)) = true := by
      have : colsOf M ≠ n := fun e => hno ⟨hr, e⟩
      simp
      omega
    have HS := Lib.hid hs
    have HO := Lib.hid (fun W => one_yes n (by have := hr.1; have := hr.2.1; omega) W)
    generalize colsOf M = m at HS hne
    clear hM hs hr hno
    go_enter Try.func46, Try.ntmps46
    go_wp2_with (first
      | (go_at_call 54; refine HS.out.mono ?_; rintro e w1 ⟨rfl, hb1⟩; have HB1 := Lib.hid hb1; clear hb1)
      | (go_at_call 57; refine (HO.out _).mono ?_; rintro e w3 ⟨A3, n3, c3, rfl, hm3, hb3⟩; have hc7 : w3.cell? ⟨w1.heap.size, 0, none⟩ = some (.int .i64 (m : Int)) := (hb3.cell (p := ⟨w1.heap.size, 0, none⟩) (by simp)).trans (cell_one_new w1 _ _ 0 _ rfl); have HB3 := Lib.hid (show Below w.heap.size w w3 from HB1.out.trans ((((Below.refl _ w1).alloc (Nat.le_refl _) (.cells #[.int .i64 (m : Int)] 3)).trans (hb3.mono (by simp))).mono HB1.out.size)); clear hm3 hb3))
    go_ret2
    exact ⟨_, _, _, rfl, Mtx.nil _ _ _, HB3.out⟩
  · rw [sizeL, if_neg hr] at hs
    have HS := Lib.hid hs
    have HO := Lib.hid (fun W => one_no 0 (by omega) W)
    clear hM hs hr hno
    go_enter Try.func46, Try.ntmps46
    go_wp2_with (first
      | (go_at_call 54; refine HS.out.mono ?_; rintro e w1 ⟨rfl, hb1⟩; have HB1 := Lib.hid hb1; clear hb1)
      | (go_at_call 57; refine (HO.out _).mono ?_; rintro e w3 ⟨A3, n3, c3, rfl, hm3, hb3⟩; have HB3 := Lib.hid (show Below w.heap.size w w3 from HB1.out.trans ((((Below.refl _ w1).alloc (Nat.le_refl _) (.cells #[.int .i64 0] 3)).trans (hb3.mono (by simp))).mono HB1.out.size)); clear hm3 hb3))
    go_ret2
    exact ⟨_, _, _, rfl, Mtx.nil _ _ _, HB3.out⟩

section
open Gf (mul inv sum idm mm Eqm IsRank Inv)
theorem beside_at {M : List (List UInt8)} {n : Nat} (h : Lev n n M) {i j : Nat} (hi : i < n) : at2 (besideL M n n) i j = if j < n then at2 M i j else (byRule n (oneF i)).getD (j - n) 0 := by
  obtain ⟨r, _, h2, h3⟩ := h.get hi
  have h4 : (besideL M n n).getD i [] = r ++ byRule n (oneF i) := by
    rw [← h2]
    simp [besideL, List.getD_eq_getElem?_getD, hi]
  unfold at2
  rw [h4, h2]
  simp only [List.getD_eq_getElem?_getD]
  by_cases hj : j < n
  · rw [if_pos hj, List.getElem?_append_left (by omega)]
  · rw [if_neg hj, List.getElem?_append_right (by omega), h3]
theorem beside_one {M : List (List UInt8)} {n : Nat} (h : Lev n n M) {i m : Nat} (hi : i < n) (hm : m < n) : at2 (besideL M n n) i (n + m) = idm i m := by
  rw [beside_at h hi, if_neg (by omega), show n + m - n = m by omega, List.getD_eq_getElem?_getD, byRule_at n _ m hm]
  rfl
theorem beside_rank {M : List (List UInt8)} {n : Nat} (h : Lev n n M) : IsRank n n (at2 M) (sweepTo (besideL M n n) n).2 :=
  (sweep_rank (beside_lev h) n).congr (fun i hi j hj => by rw [beside_at h hi, if_pos hj])
theorem back_lev (M : List (List UInt8)) (n : Nat) : Lev n n (backL M n) := matBy_lev _ _ _
/-- What turns it back does. -/
theorem back_inv {M : List (List UInt8)} {n : Nat} (h : Lev n n M) (hd : (sweepTo (besideL M n n) n).2 = n) : Inv n (at2 (backL M n)) (at2 M) := by
  have hL := beside_lev h
  obtain ⟨c, hc⟩ := sweep_swept hL n
  rw [hd] at hc
  have hI := swept_full hc
  have hB := (sweep_both hL (n + n) n).1
  refine Inv.of (fun i hi j hj => ?_)
  obtain ⟨e, he⟩ := hB i hi
  have h1 : ∀ m, m < n → at2 (backL M n) i m = e m := fun m hm => by
    rw [backL, matBy_at2 hi hm, he (n + m) (by omega)]
    have h2 : sum n (fun k => mul (e k) (at2 (besideL M n n) k (n + m))) = sum n (fun k => mul (e k) (idm k m)) := Gf.sum_congr (fun k hk => by rw [beside_one h hk hm])
    rw [h2]
    exact Gf.mm_id n (fun _ => e) 0 m hm
  have h3 := he j (by omega)
  rw [hI i hi j hj] at h3
  rw [h3]
  exact Gf.sum_congr (fun k hk => by rw [h1 k hk, beside_at h hk, if_pos hj])
end
/-- What Back tells. -/
def backR (M : List (List UInt8)) : List (List UInt8) × Int :=
  if RightM M ∧ colsOf M = M.length then if rankL M < M.length then ([], 18) else (backL M M.length, 0) else ([], 2)
theorem square_lev {M : List (List UInt8)} (h : RightM M ∧ colsOf M = M.length) : Lev M.length M.length M := by
  have := right_lev h.1
  rwa [h.2] at this
theorem square_rank {M : List (List UInt8)} (h : RightM M ∧ colsOf M = M.length) : (sweepTo (besideL M M.length M.length) M.length).2 = rankL M := by
  have h1 := beside_rank (square_lev h)
  have h2 := rank_right h.1
  rw [h.2] at h2
  exact h1.unique h2
theorem back_says (P : Option Addr) (w : World) (A : Option Addr) (n c : Nat) (M : List (List UInt8)) (hM : Mtx w A n c M) (hn : n ≤ 2000) : Calls Try.prog 46 #[.pointer P, .slice A n c] w (GivesE w (backR M).1 (backR M).2) := by
  have hl := hM.len
  unfold backR
  by_cases h : RightM M ∧ colsOf M = M.length
  · rw [if_pos h]
    have h1 := back_square P w A n c M hM h.1 (by rw [h.2]; exact hl)
    rw [← hl, square_rank h] at h1
    rw [← hl]
    by_cases hd : rankL M < M.length
    · rw [if_pos hd] at h1 ⊢
      exact h1
    · rw [if_neg hd] at h1 ⊢
      exact h1
  · rw [if_neg h]
    exact back_no P w A n c M hM hn (fun h2 => h ⟨h2.1, by rw [h2.2, hl]⟩)
/-- A matrix of full rank, turned back: both ways round, and again. -/
theorem back_good {M : List (List UInt8)} (h : RightM M ∧ colsOf M = M.length) (hr : ¬ rankL M < M.length) :
    (RightM (backL M M.length) ∧ colsOf (backL M M.length) = M.length ∧ (backL M M.length).length = M.length) ∧ appL M (backL M M.length) = matBy M.length M.length oneF ∧ appL (backL M M.length) M = matBy M.length M.length oneF ∧ backR (backL M M.length) = (M, 0) := by
  have hlev := square_lev h
  have hle : rankL M ≤ M.length := by
    have := (rank_right h.1).le_rows
    exact this
  have hd : (sweepTo (besideL M M.length M.length) M.length).2 = M.length := by rw [square_rank h]; omega
  have hI := back_inv hlev hd
  have hdims := (right_dims h.1).1
  obtain ⟨n, hn⟩ : ∃ n, M.length = n := ⟨_, rfl⟩
  rw [hn] at hlev hI hdims hle hd ⊢
  have hXL := back_lev M n
  have hXR := lev_right hXL hdims hdims
  obtain ⟨X, hX⟩ : ∃ X, backL M n = X := ⟨_, rfl⟩
  rw [hX] at hI hXL hXR ⊢
  refine ⟨⟨hXR.1, hXR.2, hXL.1⟩, ?_, ?_, ?_⟩
  · refine mat_ext (app_lev hn hXL hdims.1) (matBy_lev _ _ _) (fun i hi j hj => ?_)
    rw [app_at (by omega), hXL.1, hI.2 i hi j hj, matBy_at2 hi hj]
    rfl
  · refine mat_ext (app_lev hXL.1 hlev hdims.1) (matBy_lev _ _ _) (fun i hi j hj => ?_)
    rw [app_at (by rw [hXL.1]; exact hi), hn, hI.1 i hi j hj, matBy_at2 hi hj]
    rfl
  · have hsqX : RightM X ∧ colsOf X = X.length := ⟨hXR.1, by rw [hXR.2, hXL.1]⟩
    have hrX : rankL X = n := by
      have h1 := rank_right hXR.1
      rw [hXR.2, hXL.1] at h1
      exact h1.unique (Gf.rank_of_inv hI)
    rw [backR, if_pos hsqX, if_neg (by rw [hXL.1]; omega), hXL.1]
    have hdX : (sweepTo (besideL X n n) n).2 = n := by
      have := square_rank hsqX
      rw [hXL.1] at this
      rw [this, hrX]
    have hI2 := back_inv hXL hdX
    have he : backL X n = M := mat_ext (back_lev X n) hlev (fun i hi j hj => hI2.symm.unique hI.1 i hi j hj)
    rw [he]
end Go.Proofs.Ytpbkabgjpieggaa


namespace Go.Proofs.Ytpbkabgjpieggaa
open Go.RowKit Go.Shelf

set_option maxRecDepth 100000 in
set_option maxHeartbeats 2000000 in
theorem copied_says (w : World) (A : Option Addr) (n c : Nat) (M : List (List UInt8)) (hM : Mtx w A n c M) (hn : n ≤ 2000) (hr : ∀ r ∈ M, 1 ≤ r.length ∧ r.length ≤ 2000) : Calls Try.prog 52 #[.slice A n c] w (GivesM w M) := by
  have hl := hM.len
  have HM := Lib.hid hM
  obtain ⟨j0, hj0, jz0, jz1, jz2⟩ := info_parts rowInfo
  clear hM
  go_enter Try.func52, Try.ntmps52
  go_upto_region 2 with (at_make; refine wpList_make_full _ rfl _ _ 64 rfl w.heap.size 31 j0 _ 1 Try.underlying64 hj0 jz0 jz1 _ _ _ _ n rfl rfl rfl rfl (by rw [jz2]; omega) (by unfold maxLen; omega) (Nat.le_refl _) ?_; intro w1 hown1 hg1)
  have HB1 := Lib.hid (And.intro (rows_made (fun b => b ≠ w.heap.size) hown1) ((Below.refl w.heap.size w).grown hg1 (Nat.le_refl _) (fun k hk => by cases hk)))
  clear hown1 hg1
  go_wp2_with fail
  go_loopw [4, 5, 11] (fun _ _ i wr => ∃ (k : Nat), k ≤ n ∧ i = .int .i64 (k : Int) ∧ Hid (RowsN wr w.heap.size n (fun b => b ≠ w.heap.size) (M.take k) ∧ Below w.heap.size w wr)) (fun _ _ i _ => n - (intOf i).toNat)
  case atStart => exact ⟨0, by omega, rfl, by simpa using HB1⟩
  case round =>
    obtain ⟨k, hk, rfl, H⟩ := hrel
    by_cases hlt : k < n
    · have l1 : (k : Int) < (n : Int) := by omega
      obtain ⟨r, hrk⟩ : ∃ r, M[k]? = some r := ⟨_, List.getElem?_eq_getElem (by omega)⟩
      obtain ⟨b, off, Ak, ck, hA, hb, hck, hlk⟩ := HM.out.row hrk
      subst hA
      have hrl := hr r (List.mem_of_getElem? hrk)
      have hc1 : wr.cell? ⟨b, off + k, none⟩ = some (.slice Ak r.length ck) := (H.out.2.cell (p := ⟨b, off + k, none⟩) hb).trans hck
      have HCL := Lib.hid (cloneB_says wr Ak ck r r.length rfl (hlk.below H.out.2) hrl.1 hrl.2)
      have HTK := Lib.hid (show M.take (k + 1) = M.take k ++ [r] from by rw [List.take_add_one, hrk]; rfl)
      have HTL := Lib.hid (show (M.take k).length = k from by rw [List.length_take]; omega)
      obtain ⟨lr, hlr⟩ : ∃ t, r.length = t := ⟨_, rfl⟩
      rw [hlr] at hc1 HCL
      have HLR := Lib.hid hlr
      have hgl := H.out.1.lt
      clear hck hlk hrk hrl hlr
      go_wp2_with (go_at_call 65; refine HCL.out.mono ?_; rintro e w2 ⟨B2, n2, c2, rfl, hl2, hb2⟩; have hn2 : n2 = lr := (by rw [← hl2.len, bc_length]; exact HLR.out); subst hn2; have hR2 := H.out.1.below hb2; obtain ⟨⟨v2, hv2⟩, hf2⟩ := hR2.place hlt; have HL2 := Lib.hid (show Lies w2 (fun b => b ≠ w.heap.size) B2 n2 c2 (bc r) from hl2.weak (fun b _ hb => by have hb' : wr.heap.size ≤ b := hb; omega)); have HR2 := Lib.hid (And.intro hR2 hb2); clear hl2 hb2 hR2)
      go_roundw
      case rel =>
        refine ⟨k + 1, by omega, by go_num, Lib.hid ⟨?_, ?_⟩⟩
        · have h1 := HR2.out.1.push (fun e => e rfl) (by rw [HTL.out]; exact hlt) HLR.out HL2.out
          rw [HTL.out] at h1
          rw [HTK.out]
          exact h1
        · exact (H.out.2.trans (HR2.out.2.mono H.out.2.size)).setCell (p := ⟨w.heap.size, k, none⟩) (Nat.le_refl _) _
      case measure => simp [intOf]; omega
    · obtain rfl : k = n := by omega
      have l1 : ¬ (k : Int) < (k : Int) := by omega
      have HE := Lib.hid (show M.take k = M from List.take_of_length_le (by omega))
      go_wp2
      go_ret
      refine ⟨_, _, _, rfl, ?_, H.out.2⟩
      have h1 := H.out.1.mtx (m := k) (c := k) (by rw [HE.out]; exact hl) (Nat.le_refl _)
      rwa [HE.out] at h1

/-- Numbers of rows that there are. -/
def okIdx (n : Nat) (l : List Int) : Prop := ∀ i ∈ l, 0 ≤ i ∧ i < (n : Int)
instance (n : Nat) (l : List Int) : Decidable (okIdx n l) := by unfold okIdx; exact inferInstance
/-- The rows of these numbers. -/
def pickL (M : List (List UInt8)) (l : List Int) : List (List UInt8) := l.map (fun i => M.getD i.toNat [])
/-- What Rows tells. -/
def rowsR (M : List (List UInt8)) (l : List Int) : List (List UInt8) × Int := if RightM M ∧ (1 ≤ l.length ∧ l.length ≤ 255) ∧ okIdx M.length l then (pickL M l, 0) else ([], 2)
theorem pick_succ {M : List (List UInt8)} {l : List Int} {k : Nat} {i : Int} (h : l[k]? = some i) : pickL M (l.take (k + 1)) = pickL M (l.take k) ++ [M.getD i.toNat []] := by
  rw [List.take_add_one, h]
  simp [pickL]

set_option maxRecDepth 100000 in
set_option maxHeartbeats 4000000 in
theorem rows_says (w : World) (A : Option Addr) (n c : Nat) (M : List (List UInt8)) (hM : Mtx w A n c M) (hn : n ≤ 2000) (B : Option Addr) (m d : Nat) (l : List Int) (hB : Lies w (fun _ => True) B m d (ics l)) (hm : m ≤ 2000) : Calls Try.prog 43 #[.slice A n c, .slice B m d] w (GivesE w (rowsR M l).1 (rowsR M l).2) := by
  have hl := hM.len
  have hlm : l.length = m := by rw [← ics_length]; exact hB.len
  have hri := right_says w A n c M hM hn
  unfold rowsR
  rw [hl, hlm]
  by_cases hr : RightM M
  · rw [decide_eq_true hr] at hri
    have HRI := Lib.hid hri
    by_cases hcnt : 1 ≤ m ∧ m ≤ 255
    · have HCN := Lib.hid (fun W => counts_yes m hcnt W)
      have HM := Lib.hid hM
      have HL := Lib.hid hB
      have HRR := Lib.hid hr
      obtain ⟨f, hf⟩ : ∃ f, (if RightM M ∧ (1 ≤ m ∧ m ≤ 255) ∧ okIdx n l then (pickL M l, (0 : Int)) else ([], 2)) = f := ⟨_, rfl⟩
      have HF1 := Lib.hid (show okIdx n l → f = (pickL M l, 0) from fun h => by rw [← hf, if_pos ⟨hr, hcnt, h⟩])
      have HF2 := Lib.hid (show ¬ okIdx n l → f = ([], 2) from fun h => by rw [← hf, if_neg (fun hh => h hh.2.2)])
      rw [hf]
      clear hM hB hri hr hf hcnt
      go_enter Try.func43, Try.ntmps43
      go_wp2_with (first
        | (go_at_call 47; refine HRI.out.mono ?_; rintro e w1 ⟨rfl, hb1⟩; have HB1 := Lib.hid hb1; clear hb1)
        | (go_at_call 51; refine (HCN.out _).mono ?_; rintro e wn ⟨rfl, hwn⟩; obtain rfl : w1 = wn := hwn.symm))
      go_loopw [6, 8, 20] (fun v _ i wr => ∃ (k : Nat), k ≤ m ∧ i = .int .i64 (k : Int) ∧ Hid (RowsO wr w1.heap.size v (pickL M (l.take k)) ∧ Below w1.heap.size w1 wr ∧ okIdx n (l.take k))) (fun _ _ i _ => m - (intOf i).toNat)
      case atStart => exact ⟨0, by omega, rfl, Lib.hid ⟨by simpa [pickL] using RowsO.nil _ _, Below.refl _ _, fun i hi => by simp at hi⟩⟩
      case round =>
        obtain ⟨k, hk, rfl, H⟩ := hrel
        have hwb : Below w.heap.size w wr := HB1.out.trans (H.out.2.1.mono HB1.out.size)
        by_cases hlt : k < m
        · have l1 : (k : Int) < (m : Int) := by omega
          obtain ⟨i, hi⟩ : ∃ i, l[k]? = some i := ⟨_, List.getElem?_eq_getElem (by omega)⟩
          obtain ⟨b, off, hBB, _, hb, hci⟩ := HL.out.at (ics_at hi)
          subst hBB
          have hc1 : wr.cell? ⟨b, off + k, none⟩ = some (.int .i64 i) := (hwb.cell (p := ⟨b, off + k, none⟩) hb).trans hci
          by_cases h0 : i < 0
          · have HN := Lib.hid (HF2.out (fun h => by have := (h i (List.mem_of_getElem? hi)).1; omega))
            rw [HN.out]
            clear hi hci
            go_wp2
            go_ret2
            exact ⟨_, _, _, rfl, Mtx.nil _ _ _, hwb⟩
          · by_cases h1 : (n : Int) ≤ i
            · have HN := Lib.hid (HF2.out (fun h => by have := (h i (List.mem_of_getElem? hi)).2; omega))
              rw [HN.out]
              clear hi hci
              go_wp2
              go_ret2
              exact ⟨_, _, _, rfl, Mtx.nil _ _ _, hwb⟩
            · obtain ⟨t, rfl⟩ : ∃ t : Nat, i = (t : Int) := ⟨i.toNat, by omega⟩
              have ht : t < n := by omega
              have ht' : (t : Int) < (n : Int) := by omega
              obtain ⟨r, hr⟩ : ∃ r, M[t]? = some r := ⟨_, List.getElem?_eq_getElem (by omega)⟩
              have hgr : M.getD t [] = r := by simp [List.getD_eq_getElem?_getD, hr]
              obtain ⟨ba, oa, At, ct, hA, hba, hct, hlt2⟩ := HM.out.row hr
              subst hA
              have hc2 : wr.cell? ⟨ba, oa + t, none⟩ = some (.slice At r.length ct) := (hwb.cell (p := ⟨ba, oa + t, none⟩) hba).trans hct
              have hal : Below wr.heap.size wr (wr.alloc (.cells #[.slice At r.length ct] 31)) := (Below.refl _ wr).alloc (Nat.le_refl _) _
              have hw1 : w1.heap.size ≤ wr.heap.size := H.out.2.1.size
              have HRO := Lib.hid (H.out.1.below hal hw1)
              have HON := Lib.hid (show OldAt (wr.alloc (.cells #[.slice At r.length ct] 31)) w1.heap.size [.slice At r.length ct] [r] from by
                refine ⟨rfl, fun j l' hl' => ?_⟩
                have hj : j = 0 := by
                  have := (List.getElem?_eq_some_iff.1 hl').1
                  simp at this
                  exact this
                subst hj
                simp at hl'
                subst hl'
                refine ⟨At, ct, rfl, ?_⟩
                have h5 := (hlt2.below hwb).below hal
                refine ⟨h5.1, h5.2.1, fun h0 => ?_⟩
                obtain ⟨ad, e1, _, e3, e4⟩ := hlt2.2.2 h0
                obtain ⟨ad', e1', _, e3', e4'⟩ := h5.2.2 h0
                rw [e1] at e1'
                cases e1'
                exact ⟨ad, e1, Nat.lt_of_lt_of_le e3 HB1.out.size, e3', e4'⟩)
              have HCE := Lib.hid (show ∀ (j : Nat) (u : Value), [Value.slice At r.length ct][j]? = some u → (wr.alloc (.cells #[.slice At r.length ct] 31)).cell? ((⟨wr.heap.size, 0, none⟩ : Addr).add j) = some u from fun j u hu => cell_one_new wr _ _ j u hu)
              have HTK := Lib.hid (show pickL M (l.take (k + 1)) = pickL M (l.take k) ++ [r] from by rw [pick_succ hi, Int.toNat_natCast, hgr])
              have HOK := Lib.hid (show okIdx n (l.take (k + 1)) from fun x hx => by
                rw [List.take_add_one, hi] at hx
                rcases List.mem_append.1 hx with h3 | h3
                · exact H.out.2.2 x h3
                · have : x = (t : Int) := by simpa using h3
                  rw [this]
                  omega)
              have HLN := Lib.hid (show (pickL M (l.take k)).length + [r].length ≤ 100000 from by simp [pickL]; omega)
              have HAL := Lib.hid (And.intro hal hw1)
              generalize r.length = L at hc2 HRO HON HCE HAL
              clear hi hci hr hgr hct hlt2 hal h0 h1
              go_wp2_with (at_builtin; refine wpList_append_old _ _ _ rfl rfl w1.heap.size u6 (pickL M (l.take k)) [r] ⟨wr.heap.size, 0, none⟩ 1 1 _ rfl rfl HRO.out HON.out rfl HCE.out HLN.out (Nat.le_trans HAL.out.2 HAL.out.1.size) ?_; intro v9 w9 ho9 hg9)
              have HO9 := Lib.hid (show RowsO w9 w1.heap.size v9 (pickL M (l.take k) ++ [r]) ∧ Below w1.heap.size w1 w9 from ⟨ho9, (H.out.2.1.trans (HAL.out.1.mono HAL.out.2)).trans hg9⟩)
              clear ho9 hg9
              go_wp2
              go_roundw
              case rel => exact ⟨k + 1, by omega, by go_num, Lib.hid ⟨by rw [HTK.out]; exact HO9.out.1, HO9.out.2, HOK.out⟩⟩
              case measure => simp [intOf]; omega
        · obtain rfl : k = m := by omega
          have l1 : ¬ (k : Int) < (k : Int) := by omega
          have hok := H.out.2.2
          have hro := H.out.1
          rw [List.take_of_length_le (by omega)] at hok hro
          have HF := Lib.hid (HF1.out hok)
          obtain ⟨Ac, cc, hvc, hmc⟩ := hro.mtx
          have hlc : (pickL M l).length = k := by simp [pickL]; exact hlm
          rw [hlc] at hvc hmc
          subst hvc
          have HCP := Lib.hid (copied_says wr Ac k cc _ hmc (by omega) (fun r hr => by
            obtain ⟨i, hi, rfl⟩ := List.mem_map.1 hr
            have h3 := hok i hi
            have hmem : M.getD i.toNat [] ∈ M := by
              rw [List.getD_eq_getElem?_getD, List.getElem?_eq_getElem (by omega)]
              exact List.getElem_mem _
            have h4 := (HRR.out.2.2 _ hmem).2
            omega))
          have HWB := Lib.hid hwb
          clear hok hro hmc hlc hwb H
          go_wp2_with (go_at_call 52; refine HCP.out.mono ?_; rintro e w3 ⟨A3, n3, c3, rfl, hm3, hb3⟩; have HR3 := Lib.hid (And.intro hm3 hb3); clear hm3 hb3)
          go_ret2
          rw [HF.out]
          exact ⟨_, _, _, rfl, HR3.out.1, HWB.out.trans (HR3.out.2.mono HWB.out.size)⟩
    · have HCN := Lib.hid (fun W => counts_no m hcnt W)
      rw [if_neg (fun h => hcnt h.2.1)]
      clear hM hB hri hr hcnt
      go_enter Try.func43, Try.ntmps43
      go_wp2_with (first
        | (go_at_call 47; refine HRI.out.mono ?_; rintro e w1 ⟨rfl, hb1⟩; have HB1 := Lib.hid hb1; clear hb1)
        | (go_at_call 51; refine (HCN.out _).mono ?_; rintro e wn ⟨rfl, hwn⟩; obtain rfl : w1 = wn := hwn.symm))
      go_ret2
      exact ⟨_, _, _, rfl, Mtx.nil _ _ _, HB1.out⟩
  · rw [decide_eq_false hr] at hri
    have HRI := Lib.hid hri
    rw [if_neg (fun h => hr h.1)]
    clear hM hB hri hr
    go_enter Try.func43, Try.ntmps43
    go_wp2_with (go_at_call 47; refine HRI.out.mono ?_; rintro e w1 ⟨rfl, hb1⟩; have HB1 := Lib.hid hb1; clear hb1)
    go_ret2
    exact ⟨_, _, _, rfl, Mtx.nil _ _ _, HB1.out⟩
end Go.Proofs.Ytpbkabgjpieggaa


namespace Go.Proofs.Ytpbkabgjpieggaa
open Go.RowKit Go.Shelf

/-- Two that may be joined. -/
def joinOk (M O : List (List UInt8)) : Prop := RightM M ∧ RightM O ∧ colsOf M = colsOf O ∧ M.length + O.length ≤ 255
instance (M O : List (List UInt8)) : Decidable (joinOk M O) := by unfold joinOk; exact inferInstance
/-- What Join tells. -/
def joinR (M O : List (List UInt8)) : List (List UInt8) × Int := if joinOk M O then (M ++ O, 0) else ([], 2)
theorem rightG (w : World) (A : Option Addr) (n c : Nat) (M : List (List UInt8)) (hM : Mtx w A n c M) (hn : n ≤ 2000) (bb : Bool) (h : decide (RightM M) = bb) (q : Grows w) : Calls Try.prog 47 #[.slice A n c] q.val fun e w'' => e = .returned (.bool bb) ∧ ∃ p' : Grows w, w'' = p'.val := by
  have h1 := right_says q.val A n c M (hM.below q.prop) hn
  rw [h] at h1
  exact h1.mono fun _ w'' hh => ⟨hh.1, ⟨w'', q.prop.trans (hh.2.mono q.prop.size)⟩, rfl⟩
theorem countsG (w : World) (n : Nat) (bb : Bool) (h : decide (1 ≤ (n : Int) ∧ (n : Int) ≤ 255) = bb) (q : Grows w) : Calls Try.prog 51 #[.int .i64 (n : Int)] q.val fun e w'' => e = .returned (.bool bb) ∧ ∃ p' : Grows w, w'' = p'.val := by
  have h1 := counts_int (n : Int) q.val
  rw [h] at h1
  exact h1.mono fun _ w'' hh => ⟨hh.1, q, hh.2⟩

end Go.Proofs.Ytpbkabgjpieggaa


namespace Go.Proofs.Ytpbkabgjpieggaa
open Go.RowKit Go.Shelf

theorem Mtx.first {w : World} {A : Option Addr} {n c : Nat} {M : List (List UInt8)} (h : Mtx w A n c M) {k : Nat} (hk : k ≤ n) : Mtx w A k c (M.take k) := by
  refine ⟨by rw [List.length_take, h.len]; omega, Nat.le_trans hk h.le, fun h0 => ?_⟩
  obtain ⟨b, off, h1, h2, h3⟩ := h.2.2 (by omega)
  refine ⟨b, off, h1, h2, fun i l hl => h3 i l ?_⟩
  have hi := (List.getElem?_eq_some_iff.1 hl).1
  rw [List.length_take] at hi
  rwa [List.getElem?_take_of_lt (by omega)] at hl
theorem Mtx.tail {w : World} {A : Option Addr} {n c : Nat} {M : List (List UInt8)} (h : Mtx w A n c M) {k : Nat} (hk : k ≤ n) : Mtx w (cutA A c k) (n - k) (c - k) (M.drop k) := by
  refine ⟨by rw [List.length_drop, h.len], by have := h.le; omega, fun h0 => ?_⟩
  obtain ⟨b, off, h1, h2, h3⟩ := h.2.2 (by omega)
  have hc := h.le
  refine ⟨b, off + k, by rw [cutA, if_neg (by omega), h1, Option.map_some, Addr.add_mid], h2, fun i l hl => ?_⟩
  rw [List.getElem?_drop] at hl
  obtain ⟨Ai, ci, h4, h5⟩ := h3 _ l hl
  exact ⟨Ai, ci, by rw [show off + k + i = off + (k + i) by omega]; exact h4, h5⟩
/-- All numbers are rows'. -/
def okB (n : Nat) (l : List Int) : Bool := l.all (fun x => decide (0 ≤ x) && decide (x < (n : Int)))
theorem okB_iff (n : Nat) (l : List Int) : okB n l = true ↔ okIdx n l := by
  unfold okB okIdx
  rw [List.all_eq_true]
  simp
theorem okB_succ {n : Nat} {l : List Int} {k : Nat} {x : Int} (h : l[k]? = some x) : okB n (l.take (k + 1)) = (okB n (l.take k) && (decide (0 ≤ x) && decide (x < (n : Int)))) := by
  rw [List.take_add_one, h]
  simp [okB]
theorem few20 {w : World} {A : Option Addr} {n c : Nat} {M : List (List UInt8)} (h : Mtx w A n c M) {k : Nat} (hf : fewB M k) : n ≤ k := by rw [← h.len]; exact hf.1
end Go.Proofs.Ytpbkabgjpieggaa


namespace Go.Proofs.Ytpbkabgjpieggaa
open Gf (mul inv sum lsum idm mm Eqm IsRank Inv)

theorem nodup_le : ∀ (l m : List Nat), l.Nodup → (∀ x ∈ l, x ∈ m) → l.length ≤ m.length
  | [], _, _, _ => Nat.zero_le _
  | x :: l, m, hn, h => by
    rw [List.nodup_cons] at hn
    have hx := h x (List.mem_cons_self ..)
    have h1 := nodup_le l (m.erase x) hn.2 (fun y hy => (List.mem_erase_of_ne (fun e => hn.1 (by rw [← (show y = x from e)]; exact hy))).2 (h y (List.mem_cons_of_mem _ hy)))
    rw [List.length_erase_of_mem hx] at h1
    have h2 : 0 < m.length := List.length_pos_of_mem hx
    rw [List.length_cons]
    omega
theorem filter_parts (q : Nat → Bool) : ∀ l : List Nat, (l.filter q).length + (l.filter (fun x => !q x)).length = l.length
  | [] => rfl
  | x :: l => by
    have ih := filter_parts q l
    by_cases h : q x = true
    · simp [h]
      omega
    · simp [h]
      omega
theorem lsum_filter (q : Nat → Bool) (f : Nat → UInt8) : ∀ l : List Nat, (∀ x ∈ l, q x = false → f x = 0) → lsum l f = lsum (l.filter q) f
  | [], _ => rfl
  | x :: l, h => by
    have ih := lsum_filter q f l (fun y hy => h y (List.mem_cons_of_mem _ hy))
    rw [Gf.lsum_cons, ih]
    by_cases hq : q x = true
    · rw [List.filter_cons_of_pos hq, Gf.lsum_cons]
    · rw [List.filter_cons_of_neg hq, h x (List.mem_cons_self ..) (by simpa using hq), Gf.zero_add]
/-- Row p of the two, one behind the other. -/
def rowP (cols p j : Nat) : UInt8 := if p < cols then oneF p j else inv (UInt8.ofNat p ^^^ UInt8.ofNat j)
theorem ofNat_inj {a b : Nat} (ha : a < 256) (hb : b < 256) (h : UInt8.ofNat a = UInt8.ofNat b) : a = b := by
  have := congrArg UInt8.toNat h
  rwa [Gf.ofNat_toNat' a ha, Gf.ofNat_toNat' b hb] at this
theorem map_nodup : ∀ {l : List Nat}, l.Nodup → (∀ x ∈ l, x < 256) → (l.map UInt8.ofNat).Nodup
  | [], _, _ => List.nodup_nil
  | x :: l, hn, h => by
    rw [List.nodup_cons] at hn
    rw [List.map_cons, List.nodup_cons]
    refine ⟨fun hm => ?_, map_nodup hn.2 (fun y hy => h y (List.mem_cons_of_mem _ hy))⟩
    obtain ⟨y, hy, he⟩ := List.mem_map.1 hm
    exact hn.1 ((ofNat_inj (h y (List.mem_cons_of_mem _ hy)) (h x (List.mem_cons_self ..)) he) ▸ hy)
theorem filter_nodup {l : List Nat} (h : l.Nodup) (q : Nat → Bool) : (l.filter q).Nodup := List.Pairwise.filter q h
/-- They lose nothing. -/
theorem picked_inj {cols N : Nat} {l : List Nat} (hnd : l.Nodup) (hlen : l.length = cols) (hlt : ∀ p ∈ l, p < N) (hN : N ≤ 256) (hc : cols ≤ N) (z : Nat → UInt8) (h : ∀ p ∈ l, sum cols (fun j => mul (rowP cols p j) (z j)) = 0) : ∀ j, j < cols → z j = 0 := by
  have hu : ∀ p, p ∈ l → p < cols → z p = 0 := fun p hp hpc => by
    have h1 := h p hp
    rw [Gf.sum_one hpc (fun k _ hk => by rw [rowP, if_pos hpc, oneF, if_neg (fun e => hk e.symm), Gf.zero_mul]), rowP, if_pos hpc, oneF, if_pos rfl, Gf.one_mul] at h1
    exact h1
  let js := (List.range cols).filter (fun j => !decide (j ∈ l))
  let ps := l.filter (fun p => !decide (p < cols))
  have hjs : ∀ j ∈ js, j < cols ∧ j ∉ l := fun j hj => by
    have := List.mem_filter.1 hj
    exact ⟨List.mem_range.1 this.1, by simpa using this.2⟩
  have hps : ∀ p ∈ ps, p ∈ l ∧ ¬ p < cols := fun p hp => by
    have := List.mem_filter.1 hp
    exact ⟨this.1, by simpa using this.2⟩
  have hl1 := filter_parts (fun j => decide (j ∈ l)) (List.range cols)
  have hl2 := filter_parts (fun p => decide (p < cols)) l
  rw [List.length_range] at hl1
  have e1 : ((List.range cols).filter (fun j => decide (j ∈ l))).length = (l.filter (fun p => decide (p < cols))).length := by
    refine Nat.le_antisymm (nodup_le _ _ (filter_nodup List.nodup_range _) (fun x hx => ?_)) (nodup_le _ _ (filter_nodup hnd _) (fun x hx => ?_))
    · have := List.mem_filter.1 hx
      exact List.mem_filter.2 ⟨by simpa using this.2, by simpa using this.1⟩
    · have := List.mem_filter.1 hx
      exact List.mem_filter.2 ⟨by simpa using this.2, by simpa using this.1⟩
  have hlen2 : ps.length = js.length := by
    show (l.filter (fun p => !decide (p < cols))).length = ((List.range cols).filter (fun j => !decide (j ∈ l))).length
    omega
  have hw := Gf.cauchy (js.map UInt8.ofNat) (ps.map UInt8.ofNat) (fun y => z y.toNat) (map_nodup (filter_nodup hnd _) (fun x hx => by have := hlt x (hps x hx).1; omega)) (map_nodup (filter_nodup List.nodup_range _) (fun x hx => by have := (hjs x hx).1; omega)) (by rw [List.length_map, List.length_map]; exact hlen2)
    (fun x hx y hy e => by
      obtain ⟨p, hp, rfl⟩ := List.mem_map.1 hx
      obtain ⟨j, hj, rfl⟩ := List.mem_map.1 hy
      have h1 := hps p hp
      have h2 := hjs j hj
      have h3 := hlt p h1.1
      have := ofNat_inj (by omega) (by omega) e
      omega)
    (fun x hx => by
      obtain ⟨p, hp, rfl⟩ := List.mem_map.1 hx
      have h1 := hps p hp
      have h2 := h p h1.1
      have h3 : sum cols (fun j => mul (rowP cols p j) (z j)) = lsum js (fun j => mul (rowP cols p j) (z j)) := lsum_filter _ _ _ (fun j hj hq => by
        have hjl : j ∈ l := by simpa using hq
        rw [hu j hjl (List.mem_range.1 hj), Gf.mul_zero])
      rw [h3] at h2
      rw [Gf.lsum_map, ← h2]
      refine Gf.lsum_congr (fun j hj => ?_)
      rw [Gf.ofNat_toNat' j (by have := (hjs j hj).1; omega), rowP, if_neg h1.2, Gf.mul_comm])
  intro j hj
  by_cases hjl : j ∈ l
  · exact hu j hjl hj
  · have hm : j ∈ js := List.mem_filter.2 ⟨List.mem_range.2 hj, by simpa using hjl⟩
    have h1 := hw (UInt8.ofNat j) (List.mem_map.2 ⟨j, hm, rfl⟩)
    have h2 : (UInt8.ofNat j).toNat = j := Gf.ofNat_toNat' j (by omega)
    simp only [h2] at h1
    exact h1
theorem getD_left {A B : List (List UInt8)} {p : Nat} (h : p < A.length) : (A ++ B).getD p [] = A.getD p [] := by simp [List.getD_eq_getElem?_getD, List.getElem?_append_left h]
theorem getD_right {A B : List (List UInt8)} {p : Nat} (h : A.length ≤ p) : (A ++ B).getD p [] = B.getD (p - A.length) [] := by simp [List.getD_eq_getElem?_getD, List.getElem?_append_right h]
/-- The two, one behind the other. -/
def allL (cols rows : Nat) : List (List UInt8) := matBy cols cols oneF ++ matBy rows cols (cauF cols)
theorem all_lev (cols rows : Nat) : Lev (cols + rows) cols (allL cols rows) := ⟨by rw [allL, List.length_append, matBy_length, matBy_length], fun r hr => by
  rcases List.mem_append.1 hr with h | h
  · exact (matBy_lev _ _ _).2 r h
  · exact (matBy_lev _ _ _).2 r h⟩
theorem all_at {cols rows p j : Nat} (hp : p < cols + rows) (hj : j < cols) : at2 (allL cols rows) p j = rowP cols p j := by
  unfold rowP
  by_cases h : p < cols
  · rw [if_pos h, ← matBy_at2 (n := cols) (L := cols) (F := oneF) h hj]
    unfold at2 allL
    rw [getD_left (by rw [matBy_length]; exact h)]
  · have h1 : at2 (allL cols rows) p j = at2 (matBy rows cols (cauF cols)) (p - cols) j := by
      unfold at2 allL
      rw [getD_right (by rw [matBy_length]; omega), matBy_length]
    rw [if_neg h, h1, matBy_at2 (by omega) hj, cauF, show p - cols + cols = p by omega]
/-- The rows that were picked. -/
def pickN (cols rows : Nat) (l : List Nat) : List (List UInt8) := pickL (allL cols rows) (l.map (fun (p : Nat) => (p : Int)))
theorem pick_at {cols rows : Nat} {l : List Nat} {i j : Nat} (hi : i < l.length) (hlt : ∀ p ∈ l, p < cols + rows) (hj : j < cols) : at2 (pickN cols rows l) i j = rowP cols (l.getD i 0) j := by
  have h1 : (pickN cols rows l).getD i [] = (allL cols rows).getD (l.getD i 0) [] := by
    simp [pickN, pickL, List.getD_eq_getElem?_getD, List.getElem?_eq_getElem hi]
  have h2 : l.getD i 0 < cols + rows := hlt _ (by rw [List.getD_eq_getElem?_getD, List.getElem?_eq_getElem hi]; exact List.getElem_mem hi)
  rw [← all_at h2 hj]
  unfold at2
  rw [h1]
theorem pick_lev {cols rows : Nat} {l : List Nat} (hlt : ∀ p ∈ l, p < cols + rows) : Lev l.length cols (pickN cols rows l) := ⟨by simp [pickN, pickL], fun r hr => by
  obtain ⟨x, hx, rfl⟩ := List.mem_map.1 hr
  obtain ⟨p, hp, rfl⟩ := List.mem_map.1 hx
  obtain ⟨s, _, h2, h3⟩ := (all_lev cols rows).get (hlt p hp)
  rw [Int.toNat_natCast, h2, h3]⟩
theorem pick_full {cols rows : Nat} {l : List Nat} (hnd : l.Nodup) (hlen : l.length = cols) (hlt : ∀ p ∈ l, p < cols + rows) (hc : 1 ≤ cols ∧ cols ≤ 8) (hr : rows ≤ 8) : (RightM (pickN cols rows l) ∧ colsOf (pickN cols rows l) = (pickN cols rows l).length) ∧ rankL (pickN cols rows l) = cols := by
  have hlev := pick_lev hlt
  rw [hlen] at hlev
  have hR := lev_right hlev (by omega) (by omega)
  refine ⟨⟨hR.1, by rw [hR.2, hlev.1]⟩, ?_⟩
  have h2 := rank_right hR.1
  rw [hR.2, hlev.1] at h2
  refine h2.unique (Gf.inv_of_inj (fun z hz => picked_inj hnd hlen hlt (by omega) (by omega) z (fun p hp => ?_))).1
  obtain ⟨i, hi⟩ := List.getElem?_of_mem hp
  have hil := (List.getElem?_eq_some_iff.1 hi).1
  have he : l.getD i 0 = p := by simp [List.getD_eq_getElem?_getD, hi]
  rw [← hz i (by omega)]
  exact Gf.sum_congr (fun j hj => by rw [pick_at hil hlt hj, he])
end Go.Proofs.Ytpbkabgjpieggaa

