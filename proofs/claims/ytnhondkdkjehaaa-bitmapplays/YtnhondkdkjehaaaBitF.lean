/-
  The reference's Has and Run over bitmaps.
-/
import Derived.Test.YtnhondkdkjehaaaBitL
namespace Go.Proofs.Ytnhondkdkjehaaa
open Go.RowKit

set_option linter.unusedVariables false
set_option linter.unusedSimpArgs false
set_option maxRecDepth 100000 in
set_option maxHeartbeats 4000000 in
theorem rhas_says (w : World) (A : Option Addr) (m c : Nat) (l : List UInt8) (hl : Lies w (fun _ => True) A m c (bc l)) (hm : m ≤ 4096) (n : Int) (hn : 0 ≤ n ∧ n ≤ 4096) (k : Int) (hk : -9223372036854775808 ≤ k ∧ k ≤ 9223372036854775807) : Calls Try.prog 10 #[.slice A m c, .int .i64 n, .int .i64 k] w fun e w' => e = .returned (.bool (decide (0 ≤ k ∧ k < n) && hasB l k.toNat)) ∧ w' = w := by
  have hlen : l.length = m := by rw [← bc_length]; exact hl.1
  by_cases h0 : k < 0
  · rw [decide_eq_false (by omega)]
    clear hl
    go_enter Try.func10, Try.ntmps10
    go_wp2
    go_ret
    exact ⟨rfl, rfl⟩
  · by_cases h1 : n ≤ k
    · rw [decide_eq_false (by omega)]
      have h0' : 0 ≤ k := by omega
      clear hl
      go_enter Try.func10, Try.ntmps10
      go_wp2
      go_ret
      exact ⟨rfl, rfl⟩
    · obtain ⟨j, rfl⟩ : ∃ j : Nat, k = (j : Int) := ⟨k.toNat, by omega⟩
      have h0' : 0 ≤ (j : Int) := by omega
      have h1' : (j : Int) < n := by omega
      rw [decide_eq_true ⟨h0', h1'⟩, Bool.true_and, Int.toNat_natCast]
      by_cases h2 : m ≤ j / 8
      · rw [hasB_behind l j (by omega)]
        have h2' : (m : Int) ≤ (j : Int) / 8 := by omega
        clear hl
        go_enter Try.func10, Try.ntmps10
        go_wp2
        go_ret
        exact ⟨rfl, rfl⟩
      · have h2' : (j : Int) / 8 < (m : Int) := by omega
        obtain ⟨z, hz⟩ : ∃ z, l.getD (j / 8) 0 = z := ⟨_, rfl⟩
        have hzz : l[j / 8]? = some z := by rw [← hz]; simp [List.getD, List.getElem?_eq_getElem (show j / 8 < l.length by omega)]
        obtain ⟨g, off, hA, _, hb, hc⟩ := hl.at (j := j / 8) (u := .int .u8 (z.toNat : Int)) (by simp [bc, hzz])
        subst hA
        have hres : (((z.toNat : Int) / 2 ^ (j % 8)).tmod 2 == 1) = hasB l j := by
          unfold hasB
          rw [hz, ← BitVec.testBit_toNat, Nat.testBit_eq_decide_div_mod_eq]
          have e1 : (z.toNat : Int) / 2 ^ (j % 8) = ((z.toNat / 2 ^ (j % 8) : Nat) : Int) := by simp
          rw [e1, show z.toBitVec.toNat = z.toNat from rfl]
          generalize z.toNat / 2 ^ (j % 8) = q
          rw [Int.tmod_eq_emod_of_nonneg (by omega), show (((q : Nat) : Int) % 2 == 1) = decide (((q : Nat) : Int) % 2 = 1) from rfl]
          exact decide_eq_decide.2 (by omega)
        have e8 : IntKind.i64.wrap ((j : Int) / 8) = (j : Int) / 8 := IntWalk.i64_in _ (by omega)
        have i2 : ((j : Int) / 8).toNat = j / 8 := by omega
        have HR := Lib.hid hres
        clear hl hz hzz hres
        go_enter Try.func10, Try.ntmps10
        go_wp2
        go_ret
        rw [← HR.out]
        exact ⟨rfl, rfl⟩
/-- Bools as cells. -/
def bo (u : List Bool) : List Value := u.map Value.bool
theorem bo_length (u : List Bool) : (bo u).length = u.length := by simp [bo]
def atB (u : List Bool) (k : Nat) : Bool := u.getD k false
set_option maxRecDepth 100000 in
set_option maxHeartbeats 8000000 in
theorem rrun_says (w : World) (A : Option Addr) (n c : Nat) (u : List Bool) (hl : Lies w (fun _ => True) A n c (bo u)) (hn : n ≤ 4096) (many : Int) (hm : -9223372036854775808 ≤ many ∧ many ≤ 9223372036854775807) : Calls Try.prog 15 #[.slice A n c, .int .i64 many] w fun e w' => ∃ r : Int, e = .returned (.int .i64 r) ∧ IsRun (atB u) n many r ∧ w' = w := by
  have hlen : u.length = n := by rw [← bo_length]; exact hl.1
  have HL := Lib.hid hl
  clear hl
  by_cases h1 : many < 1
  · go_enter Try.func15, Try.ntmps15
    go_wp2
    go_ret
    exact ⟨_, rfl, .inr ⟨rfl, .inl h1⟩, rfl⟩
  · have hm1 : 1 ≤ many := by omega
    go_enter Try.func15, Try.ntmps15
    go_wp2_with fail
    go_loopw [5] (fun v wr => wr = w ∧ ∃ k : Nat, k ≤ n + 1 ∧ v = .int .i64 (k : Int) ∧ Hid (∀ i, i < k → ¬ freeAt (atB u) n many i)) (fun v _ => n + 1 - (intOf v).toNat)
    case atStart => exact ⟨rfl, 0, by omega, rfl, Lib.hid (fun i hi => absurd hi (Nat.not_lt_zero i))⟩
    case round =>
      obtain ⟨rfl, k, hk, rfl, H⟩ := hrel
      have q1 : IntKind.i64.wrap ((n : Int) - (k : Int)) = (n : Int) - (k : Int) := IntWalk.i64_in _ (by omega)
      by_cases hgo : many ≤ (n : Int) - (k : Int)
      · go_wp2_with fail
        go_loopw [6] (fun v wq => wq = wr ∧ ∃ j : Nat, v = .int .i64 (j : Int) ∧ (j : Int) ≤ many ∧ Hid (∀ i, k ≤ i → i < k + j → atB u i = false)) (fun v _ => n + 1 - (intOf v).toNat)
        case atStart => exact ⟨rfl, 0, rfl, by omega, Lib.hid (fun i h1 h2 => by omega)⟩
        case round =>
          obtain ⟨rfl, j, rfl, hjm, G⟩ := hrel
          by_cases hjl : (j : Int) < many
          · have hin : k + j < n := by omega
            have q2 : (k : Int) + (j : Int) < (n : Int) := by omega
            have q3 : IntKind.i64.wrap ((k : Int) + (j : Int)) = (k : Int) + (j : Int) := IntWalk.i64_in _ (by omega)
            have q4 : ((k : Int) + (j : Int)).toNat = k + j := by omega
            obtain ⟨z, hz⟩ : ∃ z, atB u (k + j) = z := ⟨_, rfl⟩
            obtain ⟨g, off, hA, _, hb, hc⟩ := HL.out.at (j := k + j) (u := .bool z) (by simp [bo, ← hz, atB, List.getD, List.getElem?_eq_getElem (show k + j < u.length by omega)])
            subst hA
            cases z
            · go_wp2_with fail
              go_roundw
              case rel => exact ⟨trivial, j + 1, by go_num, by omega, Lib.hid (fun i h1 h2 => by
                rcases Nat.lt_or_ge i (k + j) with q | q
                · exact G.out i h1 q
                · rw [show i = k + j by omega]
                  exact hz)⟩
              case measure => simp [intOf]; omega
            · have q5 : ¬ (j : Int) = many := by omega
              go_wp2_with fail
              go_roundw
              case rel => exact ⟨trivial, k + 1, by omega, by go_num, Lib.hid (fun i hi hf => by
                rcases Nat.lt_or_ge i k with q | q
                · exact H.out i q hf
                · have := hf.2 (k + j) (by omega) (by omega)
                  rw [hz] at this
                  exact absurd this (by decide))⟩
              case measure => simp [intOf]; omega
          · have hjl' : many ≤ (j : Int) := by omega
            obtain rfl : many = (j : Int) := by omega
            go_wp2_with fail
            go_ret
            exact ⟨_, rfl, .inl ⟨k, rfl, hm1, ⟨by omega, fun i h1 h2 => G.out i h1 (by omega)⟩, H.out⟩, rfl⟩
      · go_wp2_with fail
        go_ret
        exact ⟨_, rfl, .inr ⟨rfl, .inr fun i hf => H.out i (by have := hf.1; omega) hf⟩, rfl⟩
end Go.Proofs.Ytnhondkdkjehaaa
