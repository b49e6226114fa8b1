/-
  The reference's below and root.
-/
import Derived.Test.YtjdepjanijambaaDoorShelf
import Derived.Test.YtjdepjanijambaaDoorWords
import Derived.WalkLawsBesides
import Derived.IntWalk
namespace Go.Proofs.YtjdepjanijambaaDoor
open Go.RowKit

/-- What below tells of x, p and k. -/
def belowB (x p : Nat) (k : Nat) : Bool :=
  if k = 2 then decide (x * x / 18446744073709551616 < p) || (x * x / 18446744073709551616 == p && x * x % 18446744073709551616 == 0)
  else decide (x * x % 18446744073709551616 * x / 18446744073709551616 + x * x / 18446744073709551616 * x % 18446744073709551616 < p * 4294967296) ||
    (x * x % 18446744073709551616 * x / 18446744073709551616 + x * x / 18446744073709551616 * x % 18446744073709551616 == p * 4294967296 && x * x % 18446744073709551616 * x % 18446744073709551616 == 0)

theorem below2_any (x p : Nat) (w : World) (hx : x < 274877906944) (hp : p < 1000) :
    Calls Tryd.prog 24 #[.int .u64 x, .int .u64 p, .int .i64 2] w fun e w' => e = .returned (.bool (belowB x p 2)) ∧ w = w' := by
  have HM := Lib.hid (Tryd.bits_Mul64 x x (by omega) (by omega) w)
  obtain ⟨hi, hhi⟩ : ∃ h, h = x * x / 18446744073709551616 := ⟨_, rfl⟩
  obtain ⟨lo, hlo⟩ : ∃ l, l = x * x % 18446744073709551616 := ⟨_, rfl⟩
  have e : belowB x p 2 = (decide (hi < p) || (hi == p && lo == 0)) := by rw [hhi, hlo]; rfl
  rw [e]
  rw [← hhi, ← hlo] at HM
  clear hhi hlo e
  by_cases h1 : hi < p
  · have d1 : decide ((hi : Int) < (p : Int)) = true := by simp; omega
    go_enter Tryd.func24, Tryd.ntmps24
    go_wp2_with (refine HM.out.mono ?_; rintro e w' ⟨rfl, rfl⟩)
    go_ret
    simp [h1]
  · by_cases h2 : hi = p
    · subst h2
      by_cases h3 : lo = 0
      · subst h3
        go_enter Tryd.func24, Tryd.ntmps24
        go_wp2_with (refine HM.out.mono ?_; rintro e w' ⟨rfl, rfl⟩)
        go_ret
        simp
      · have d3 : ((lo : Int) == 0) = false := by simp; omega
        go_enter Tryd.func24, Tryd.ntmps24
        go_wp2_with (refine HM.out.mono ?_; rintro e w' ⟨rfl, rfl⟩)
        go_ret
        simp [h3]
    · have d1 : decide ((hi : Int) < (p : Int)) = false := by simp; omega
      have d2 : ((hi : Int) == (p : Int)) = false := by simp; omega
      go_enter Tryd.func24, Tryd.ntmps24
      go_wp2_with (refine HM.out.mono ?_; rintro e w' ⟨rfl, rfl⟩)
      go_ret
      simp [h1, h2]
theorem below3_any (x p : Nat) (w : World) (hx : x < 274877906944) (hp : p < 1000) :
    Calls Tryd.prog 24 #[.int .u64 x, .int .u64 p, .int .i64 3] w fun e w' => e = .returned (.bool (belowB x p 3)) ∧ w = w' := by
  have hxx : x * x ≤ 274877906944 * 274877906944 := Nat.mul_le_mul (by omega) (by omega)
  have HM := Lib.hid (Tryd.bits_Mul64 x x (by omega) (by omega) w)
  obtain ⟨hi, hhi⟩ : ∃ h, h = x * x / 18446744073709551616 := ⟨_, rfl⟩
  obtain ⟨lo, hlo⟩ : ∃ l, l = x * x % 18446744073709551616 := ⟨_, rfl⟩
  have hlo1 : lo < 18446744073709551616 := by rw [hlo]; exact Nat.mod_lt _ (by decide)
  have hhi1 : hi ≤ 4096 := by rw [hhi]; omega
  have HM2 := Lib.hid (Tryd.bits_Mul64 lo x hlo1 (by omega) w)
  have HM3 := Lib.hid (Tryd.bits_Mul64 hi x (by omega) (by omega) w)
  have hlx : lo * x ≤ 18446744073709551616 * 274877906944 := Nat.mul_le_mul (by omega) (by omega)
  obtain ⟨a, ha⟩ : ∃ h, h = lo * x / 18446744073709551616 := ⟨_, rfl⟩
  obtain ⟨b, hb⟩ : ∃ h, h = lo * x % 18446744073709551616 := ⟨_, rfl⟩
  obtain ⟨c, hc⟩ : ∃ h, h = hi * x % 18446744073709551616 := ⟨_, rfl⟩
  obtain ⟨c', hc'⟩ : ∃ h, h = hi * x / 18446744073709551616 := ⟨_, rfl⟩
  have hhx : hi * x ≤ 4096 * 274877906944 := Nat.mul_le_mul hhi1 (by omega)
  have ha1 : a ≤ 274877906944 := by rw [ha]; omega
  have hc1 : c ≤ 1125899906842624 := by rw [hc]; omega
  have hb1 : b < 18446744073709551616 := by rw [hb]; exact Nat.mod_lt _ (by decide)
  obtain ⟨T, hT⟩ : ∃ h, h = a + c := ⟨_, rfl⟩
  obtain ⟨q, hq⟩ : ∃ h, h = p * 4294967296 := ⟨_, rfl⟩
  have e : belowB x p 3 = (decide (T < q) || (T == q && b == 0)) := by rw [hT, hq, ha, hb, hc, hhi, hlo]; rfl
  rw [e]
  rw [← hhi, ← hlo] at HM
  rw [← ha, ← hb] at HM2
  rw [← hc, ← hc'] at HM3
  have eT : (a : Int) + (c : Int) = (T : Int) := by omega
  have eq : (p : Int) * 4294967296 = (q : Int) := by omega
  clear hhi hlo e ha hb hc hc' hxx hlx hhx
  by_cases h1 : T < q
  · have d1 : decide ((T : Int) < (q : Int)) = true := by simp; omega
    clear hT hq
    go_enter Tryd.func24, Tryd.ntmps24
    go_wp2_with fail
    refine HM.out.mono ?_
    rintro e w' ⟨rfl, rfl⟩
    go_wp2_with fail
    refine HM2.out.mono ?_
    rintro e w' ⟨rfl, rfl⟩
    go_wp2_with fail
    refine HM3.out.mono ?_
    rintro e w' ⟨rfl, rfl⟩
    go_wp2_with fail
    go_ret
    simp [h1]
  · have d1 : decide ((T : Int) < (q : Int)) = false := by simp; omega
    by_cases h2 : T = q
    · have d2 : ((T : Int) == (q : Int)) = true := by simp; omega
      by_cases h3 : b = 0
      · have d3 : ((b : Int) == 0) = true := by simp; omega
        have H2 := Lib.hid h2
        have H3 := Lib.hid h3
        clear hT hq h2 h3
        go_enter Tryd.func24, Tryd.ntmps24
        go_wp2_with fail
        refine HM.out.mono ?_
        rintro e w' ⟨rfl, rfl⟩
        go_wp2_with fail
        refine HM2.out.mono ?_
        rintro e w' ⟨rfl, rfl⟩
        go_wp2_with fail
        refine HM3.out.mono ?_
        rintro e w' ⟨rfl, rfl⟩
        go_wp2_with fail
        go_ret
        simp [H2.out, H3.out]
      · have d3 : ((b : Int) == 0) = false := by simp; omega
        have H2 := Lib.hid h2
        clear hT hq h2
        go_enter Tryd.func24, Tryd.ntmps24
        go_wp2_with fail
        refine HM.out.mono ?_
        rintro e w' ⟨rfl, rfl⟩
        go_wp2_with fail
        refine HM2.out.mono ?_
        rintro e w' ⟨rfl, rfl⟩
        go_wp2_with fail
        refine HM3.out.mono ?_
        rintro e w' ⟨rfl, rfl⟩
        go_wp2_with fail
        go_ret
        simp [H2.out, h3]
    · have d2 : ((T : Int) == (q : Int)) = false := by simp; omega
      clear hT hq
      go_enter Tryd.func24, Tryd.ntmps24
      go_wp2_with fail
      refine HM.out.mono ?_
      rintro e w' ⟨rfl, rfl⟩
      go_wp2_with fail
      refine HM2.out.mono ?_
      rintro e w' ⟨rfl, rfl⟩
      go_wp2_with fail
      refine HM3.out.mono ?_
      rintro e w' ⟨rfl, rfl⟩
      go_wp2_with fail
      go_ret
      simp [h1, h2]

/-- x behind j steps of root. -/
def rootK (p k : Nat) : Nat → Nat
  | 0 => 0
  | j + 1 => if belowB (rootK p k j + 2 ^ (36 - j)) p k then rootK p k j + 2 ^ (36 - j) else rootK p k j
theorem rootK_le (p k : Nat) : ∀ j, j ≤ 37 → rootK p k j + 2 ^ (37 - j) ≤ 2 ^ 37
  | 0, _ => by simp [rootK]
  | j + 1, h => by
    have ih := rootK_le p k j (by omega)
    have e : 2 ^ (37 - j) = 2 ^ (36 - j) + 2 ^ (36 - j) := by rw [show 37 - j = (36 - j) + 1 by omega, Nat.pow_succ]; omega
    have e2 : 37 - (j + 1) = 36 - j := by omega
    rw [e] at ih
    rw [e2]
    simp only [rootK]
    generalize 2 ^ (36 - j) = t at ih ⊢
    split <;> omega
def rootV (p k : Nat) : Nat := rootK p k 37 % 4294967296
def RootRel (p k : Nat) (x b : Value) (w wr : World) : Prop := ∃ j X : Nat, j ≤ 37 ∧ b = .int .i64 (36 - (j : Int)) ∧ x = .int .u64 (X : Int) ∧ X = rootK p k j ∧ w = wr

theorem root_step (p k : Nat) (w : World) (below : ∀ x, x < 274877906944 → Calls Tryd.prog 24 #[.int .u64 (x : Nat), .int .u64 p, .int .i64 (k : Int)] w fun e w' => e = .returned (.bool (belowB x p k)) ∧ w = w') :
    Calls Tryd.prog 19 #[.int .u64 p, .int .i64 (k : Int)] w fun e w' => e = .returned (.int .u32 ((rootV p k : Nat) : Int)) ∧ w = w' := by
  have HBL := Lib.hid below
  clear below
  go_enter Tryd.func19, Tryd.ntmps19
  go_wp2
  go_loopw [5, 6] (fun x b wr => RootRel p k x b w wr) (fun _ b _ => (intOf b + 1).toNat)
  case atStart => exact ⟨0, 0, by omega, rfl, rfl, rfl, rfl⟩
  case round =>
    obtain ⟨j, X, hj, rfl, rfl, hX, rfl⟩ := hrel
    have hle := rootK_le p k j hj
    rw [← hX] at hle
    by_cases hlt : j < 37
    · obtain ⟨b, hb⟩ : ∃ b : Nat, b = 36 - j := ⟨_, rfl⟩
      have eb : (36 - (j : Int)) = (b : Int) := by omega
      obtain ⟨t, ht⟩ : ∃ t : Nat, t = 2 ^ b := ⟨_, rfl⟩
      obtain ⟨Y, hY⟩ : ∃ Y : Nat, Y = X + t := ⟨_, rfl⟩
      have ht1 : t + t = 2 ^ (37 - j) := by rw [ht, hb, show 37 - j = (36 - j) + 1 by omega, Nat.pow_succ]; omega
      have hYl : Y < 274877906944 := by omega
      have e1 : (1 : Int) * 2 ^ b = (t : Int) := by rw [ht]; simp
      have e1' : (2 : Int) ^ b = (t : Int) := by rw [ht]; simp
      have e2 : (X : Int) + (t : Int) = (Y : Int) := by omega
      have hb36 : b ≤ 36 := by omega
      have HX := Lib.hid hX
      have HY := Lib.hid hY
      have HT := Lib.hid ht
      have HBB := Lib.hid hb
      rw [eb]
      clear eb
      clear hX hY ht hb hle
      have hc := HBL.out Y hYl
      have hnx : rootK p k (j + 1) = if belowB Y p k then Y else X := by
        simp only [rootK]
        rw [← HX.out, ← HBB.out, ← HT.out, ← HY.out]
      cases hbv : belowB Y p k with
      | true =>
        rw [hbv] at hc hnx
        have HC := Lib.hid hc
        have HN := Lib.hid hnx
        clear hc hnx hbv
        go_wp2_with fail
        refine HC.out.mono ?_
        rintro e w' ⟨rfl, rfl⟩
        go_wp2_with fail
        go_roundw
        case rel => exact ⟨j + 1, Y, by omega, by rw [show (b : Int) = 36 - (j : Int) by have := HBB.out; omega]; congr 1; omega, rfl, HN.out.symm, rfl⟩
        case measure => simp [intOf]
      | false =>
        rw [hbv] at hc hnx
        have HC := Lib.hid hc
        have HN := Lib.hid hnx
        clear hc hnx hbv
        go_wp2_with fail
        refine HC.out.mono ?_
        rintro e w' ⟨rfl, rfl⟩
        go_wp2_with fail
        go_roundw
        case rel => exact ⟨j + 1, X, by omega, by rw [show (b : Int) = 36 - (j : Int) by have := HBB.out; omega]; congr 1; omega, rfl, HN.out.symm, rfl⟩
        case measure => simp [intOf]
    · obtain rfl : j = 37 := by omega
      have hX37 : X < 137438953473 := by omega
      have HX := Lib.hid hX
      clear hX hle
      go_wp2
      go_ret
      refine ⟨?_, rfl⟩
      show Ending.returned (Value.int .u32 ((X : Int) % 4294967296)) = _
      rw [HX.out]
      unfold rootV
      congr 2
theorem root2_any (p : Nat) (w : World) (hp : p < 1000) : Calls Tryd.prog 19 #[.int .u64 p, .int .i64 2] w fun e w' => e = .returned (.int .u32 ((rootV p 2 : Nat) : Int)) ∧ w = w' :=
  root_step p 2 w (fun x hx => below2_any x p w hx hp)
theorem root3_any (p : Nat) (w : World) (hp : p < 1000) : Calls Tryd.prog 19 #[.int .u64 p, .int .i64 3] w fun e w' => e = .returned (.int .u32 ((rootV p 3 : Nat) : Int)) ∧ w = w' :=
  root_step p 3 w (fun x hx => below3_any x p w hx hp)
end Go.Proofs.YtjdepjanijambaaDoor
