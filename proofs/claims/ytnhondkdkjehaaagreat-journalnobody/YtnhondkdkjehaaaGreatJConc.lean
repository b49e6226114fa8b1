/-
  slices.Concat of three slices of rows.
-/
import Derived.Test.YtnhondkdkjehaaaGreatShelfG
import Derived.Test.YtnhondkdkjehaaaGreatSlM
namespace Go.Proofs.YtnhondkdkjehaaaGreat
open Go.RowKit Go.Shelf

set_option linter.unusedVariables false
set_option linter.unusedSimpArgs false
theorem sliceInfo2 : (Tryz.prog.info? 49).map (fun i => (i.zero, i.size, i.bytes)) = some (some (.slice none 0 0), 1, 24) := by kernel_rfl
theorem size_made (n k : Nat) (z : Value) (hz : z.cells.size = 1) (h : n ≤ k) : ((#[] : Array Value) ++ Builtin.zeroCells z.cells n ++ Builtin.zeroCells z.cells (k - n)).size = k * 1 := by
  rw [Array.size_append, Array.size_append, size_zeroCells, size_zeroCells, hz]
  simp
  omega
set_option maxRecDepth 100000 in
theorem growR_says (W : World) (n : Nat) (h0 : 1 ≤ n) (hn : n ≤ 10000) : Calls Tryz.prog 132 #[.slice none 0 0, .int .i64 (n : Int)] W fun e w' => ∃ v, e = .returned v ∧ w'.ownsRow W.heap.size 49 1 v 0 [] ∧ Below W.heap.size W w' := by
  obtain ⟨i0, hi0, hz0, hz1, hz2⟩ := info_parts sliceInfo2
  have h := Any8.slices_Grow_grow Tryz.growR i0 (.slice none 0 0) hi0 hz0 (by rw [hz1]; decide) none 0 0 n [] W (by omega) (by omega) (by rw [hz2]; omega) (by omega) (by simp) (fun _ => rfl) (fun a ha => by cases ha)
  refine h.mono ?_
  rintro e w' ⟨rfl, rfl⟩
  have hge : 0 + n ≤ grownCap W (0 + n) 0 (Tryz.growR_ren.t 25) := grownCap_ge W (0 + n) 0 _
  have hle := grownCap_le_maxLen W (0 + n) 0 49 (by unfold maxLen; omega)
  exact ⟨_, rfl, World.ownsRow_made W.drew _ _ (Nat.le_refl _) hle (size_made (0 + n - 0) _ _ rfl (by omega)), (Below.refl _ W).drew.trans ((Below.refl _ W.drew).alloc (Nat.le_refl _) _)⟩
/-- One of four. -/
def pick4 {α : Type} (a b c d : α) : Nat → α
  | 0 => a
  | 1 => b
  | 2 => c
  | _ => d
/-- A row that lies whole, in a block of its own. -/
def RowAt (w : World) (g n c : Nat) (xs : List Value) : Prop := xs.length = n ∧ g < w.heap.size ∧ (∀ v ∈ xs, v.oneCell' = true) ∧ ∀ j u, xs[j]? = some u → w.cell? ((⟨g, 0, none⟩ : Addr).add j) = some u
theorem RowAt.below {w w' : World} {g n c : Nat} {xs : List Value} (h : RowAt w g n c xs) (hb : Below w.heap.size w w') : RowAt w' g n c xs := ⟨h.1, Nat.lt_of_lt_of_le h.2.1 hb.size, h.2.2.1, fun j u hu => (hb.cell (by rw [add_block]; exact h.2.1)).trans (h.2.2.2 j u hu)⟩
theorem own_changed {w w' : World} {base n : Nat} {v : Value} {xs : List Value} (h : w.ownsRow base 49 1 v n xs) (hg : w.grownBy w' v.ownBlock) (hb : base ≤ w.heap.size) : Below base w w' :=
  (Below.refl base w).grown hg hb (fun k hk => (World.ownsRow.lt h k hk).1)
set_option maxRecDepth 100000 in
set_option maxHeartbeats 4000000 in
theorem concat3_says (W : World) (b g1 g2 g3 n1 n2 n3 c1 c2 c3 : Nat) (x y z : List Value) (h1 : W.cell? ⟨b, 0, none⟩ = some (.slice (some ⟨g1, 0, none⟩) n1 c1)) (h2 : W.cell? ⟨b, 1, none⟩ = some (.slice (some ⟨g2, 0, none⟩) n2 c2)) (h3 : W.cell? ⟨b, 2, none⟩ = some (.slice (some ⟨g3, 0, none⟩) n3 c3)) (hb : b < W.heap.size)
    (hx : RowAt W g1 n1 c1 x) (hy : RowAt W g2 n2 c2 y) (hz : RowAt W g3 n3 c3 z) (k1 : 1 ≤ n1 ∧ n1 ≤ 1000) (k2 : 1 ≤ n2 ∧ n2 ≤ 1000) (k3 : 1 ≤ n3 ∧ n3 ≤ 1000) :
    Calls Tryz.prog 109 #[.slice (some ⟨b, 0, none⟩) 3 3] W fun e w' => ∃ v, e = .returned v ∧ w'.ownsRow W.heap.size 49 1 v (n1 + n2 + n3) (x ++ y ++ z) ∧ Below W.heap.size W w' := by
  obtain ⟨i0, hi0, hz0, hz1, hz2⟩ := info_parts sliceInfo2
  obtain ⟨s, hs⟩ : ∃ s, n1 + n2 = s := ⟨_, rfl⟩
  obtain ⟨t, ht⟩ : ∃ t, s + n3 = t := ⟨_, rfl⟩
  have HG := Lib.hid (fun V => growR_says V t (by omega) (by omega))
  have HX := Lib.hid (And.intro hx (And.intro hy hz))
  have s1 : IntKind.i64.wrap (n1 : Int) = (n1 : Int) := IntWalk.i64_in _ (by omega)
  have s3 : (n1 : Int) + (n2 : Int) = (s : Int) := by omega
  have s2 : IntKind.i64.wrap (s : Int) = (s : Int) := IntWalk.i64_in _ (by omega)
  have s4 : (s : Int) + (n3 : Int) = (t : Int) := by omega
  have s5 : IntKind.i64.wrap (t : Int) = (t : Int) := IntWalk.i64_in _ (by omega)
  have g0 : ¬ (n1 : Int) < 0 := by omega
  have g1' : ¬ (s : Int) < 0 := by omega
  have g2' : ¬ (t : Int) < 0 := by omega
  have HT := Lib.hid (And.intro hs ht)
  rw [hs, ht]
  have ls : n1 + n2 = s := hs
  have lt : s + n3 = t := ht
  have HLS := Lib.hid (And.intro ls lt)
  clear hs ht hx hy hz ls lt
  go_enter Tryz.func109, Tryz.ntmps109
  go_wp2_with fail
  go_loopw [3, 5, 11] (fun s' _ i wr => ∃ k : Nat, k ≤ 3 ∧ i = .int .i64 (k : Int) ∧ s' = .int .i64 (pick4 0 n1 s t k : Int) ∧ Hid (wr = W)) (fun _ _ i _ => 3 - (intOf i).toNat)
  case atStart => exact ⟨0, by omega, rfl, rfl, Lib.hid rfl⟩
  case round =>
    obtain ⟨k, hk, rfl, rfl, H⟩ := hrel
    have hw' : W = wr := H.out.symm
    subst hw'
    clear H
    rcases k with _ | _ | _ | _ | k
    · simp only [pick4]
      go_wp2
      go_roundw
      case rel => exact ⟨1, by omega, rfl, rfl, Lib.hid trivial⟩
      case measure => simp [intOf]
    · simp only [pick4]
      go_wp2
      go_roundw
      case rel => exact ⟨2, by omega, rfl, rfl, Lib.hid trivial⟩
      case measure => simp [intOf]
    · simp only [pick4]
      go_wp2
      go_roundw
      case rel => exact ⟨3, by omega, rfl, rfl, Lib.hid trivial⟩
      case measure => simp [intOf]
    · simp only [pick4]
      go_wp2_with (go_at_call 132; refine (HG.out _).mono ?_; rintro e w1 ⟨v1, rfl, ho1, hbb1⟩; have HO1 := Lib.hid (And.intro ho1 hbb1); clear ho1 hbb1)
      go_loopw [6, 8, 27] (fun v _ i wr => ∃ k : Nat, k ≤ 3 ∧ i = .int .i64 (k : Int) ∧ Hid (wr.ownsRow W.heap.size 49 1 v (pick4 0 n1 s t k) (pick4 [] x (x ++ y) (x ++ y ++ z) k) ∧ Below W.heap.size W wr)) (fun _ _ i _ => 3 - (intOf i).toNat)
      case atStart => exact ⟨0, by omega, rfl, HO1⟩
      case round =>
        obtain ⟨k, hk, rfl, H⟩ := hrel
        have hc1 := (H.out.2.cell (p := ⟨b, 0, none⟩) hb).trans h1
        have hc2 := (H.out.2.cell (p := ⟨b, 1, none⟩) hb).trans h2
        have hc3 := (H.out.2.cell (p := ⟨b, 2, none⟩) hb).trans h3
        have HX2 := Lib.hid (And.intro (HX.out.1.below H.out.2) (And.intro (HX.out.2.1.below H.out.2) (HX.out.2.2.below H.out.2)))
        rcases k with _ | _ | _ | _ | k
        · simp only [pick4] at H
          go_wp2_with (at_builtin; refine wpList_append_own wr rfl _ _ 129 rfl W.heap.size 49 i0 _ 1 24 Tryz.underlying129 hi0 hz0 hz1 hz2 rfl (by decide) u6 0 [] rfl H.out.1 ⟨g1, 0, none⟩ n1 c1 x rfl (by rw [HX2.out.1.1, Nat.mul_one]) HX2.out.1.2.2.2 HX2.out.1.2.2.1 (by unfold maxLen; omega) (by omega) H.out.2.size ?_; intro v9 w9 ho9 hg9 _; have HO9 := Lib.hid (show w9.ownsRow W.heap.size 49 1 v9 n1 x ∧ Below W.heap.size W w9 from ⟨by rw [Nat.zero_add, List.nil_append] at ho9; exact ho9, H.out.2.trans (own_changed H.out.1 hg9 H.out.2.size)⟩); clear ho9 hg9)
          go_roundw
          case rel => exact ⟨1, by omega, rfl, HO9⟩
          case measure => simp [intOf]
        · simp only [pick4] at H
          go_wp2_with (at_builtin; refine wpList_append_own wr rfl _ _ 129 rfl W.heap.size 49 i0 _ 1 24 Tryz.underlying129 hi0 hz0 hz1 hz2 rfl (by decide) u6 n1 x rfl H.out.1 ⟨g2, 0, none⟩ n2 c2 y rfl (by rw [HX2.out.2.1.1, Nat.mul_one]) HX2.out.2.1.2.2.2 HX2.out.2.1.2.2.1 (by unfold maxLen; omega) (by omega) H.out.2.size ?_; intro v9 w9 ho9 hg9 _; have HO9 := Lib.hid (show w9.ownsRow W.heap.size 49 1 v9 s (x ++ y) ∧ Below W.heap.size W w9 from ⟨by rw [← HLS.out.1]; exact ho9, H.out.2.trans (own_changed H.out.1 hg9 H.out.2.size)⟩); clear ho9 hg9)
          go_roundw
          case rel => exact ⟨2, by omega, rfl, HO9⟩
          case measure => simp [intOf]
        · simp only [pick4] at H
          go_wp2_with (at_builtin; refine wpList_append_own wr rfl _ _ 129 rfl W.heap.size 49 i0 _ 1 24 Tryz.underlying129 hi0 hz0 hz1 hz2 rfl (by decide) u6 s (x ++ y) rfl H.out.1 ⟨g3, 0, none⟩ n3 c3 z rfl (by rw [HX2.out.2.2.1, Nat.mul_one]) HX2.out.2.2.2.2.2 HX2.out.2.2.2.2.1 (by unfold maxLen; have := HLS.out; omega) (by have := HLS.out; omega) H.out.2.size ?_; intro v9 w9 ho9 hg9 _; have HO9 := Lib.hid (show w9.ownsRow W.heap.size 49 1 v9 t (x ++ y ++ z) ∧ Below W.heap.size W w9 from ⟨by rw [← HLS.out.2]; exact ho9, H.out.2.trans (own_changed H.out.1 hg9 H.out.2.size)⟩); clear ho9 hg9)
          go_roundw
          case rel => exact ⟨3, by omega, rfl, HO9⟩
          case measure => simp [intOf]
        · simp only [pick4] at H
          go_wp2
          go_ret
          exact ⟨_, rfl, H.out⟩
        · omega
    · omega
end Go.Proofs.YtnhondkdkjehaaaGreat
