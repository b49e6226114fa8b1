/-
  Rank of package mat.
-/
import Derived.Test.YtgakeecibofiiaaSweep
import Derived.Test.YtgakeecibofiiaaSweepR
import Derived.Test.YtgakeecibofiiaaClone
import Derived.Test.YtgakeecibofiiaaMakes
import Derived.Test.YtgakeecibofiiaaTurn
namespace Go.Proofs.Ytgakeecibofiiaa
open Go.RowKit Go.Shelf

theorem right_lev {M : List (List UInt8)} (h : RightM M) : Lev M.length (colsOf M) M := ⟨rfl, fun r hr => (h.2.2 r hr).1⟩
/-- What Rank tells. -/
def rankL (M : List (List UInt8)) : Nat := if RightM M then (sweepTo M (colsOf M)).2 else 0
theorem rank_right {M : List (List UInt8)} (h : RightM M) : Gf.IsRank M.length (colsOf M) (at2 M) (rankL M) := by
  rw [rankL, if_pos h]
  exact sweep_rank (right_lev h) _

set_option maxRecDepth 100000 in
theorem sweep_none (P : Option Addr) (v : Value) (w : World) : Calls Try.prog 37 #[.pointer P, v, .int .i64 0] w fun e w' => e = .returned (.int .i64 0) ∧ w' = w := by
  go_enter Try.func37, Try.ntmps37
  go_wp2_with fail
  go_loopw [7, 14] (fun dn i wr => i = .int .i64 0 ∧ dn = .int .i64 0 ∧ Hid (wr = w)) (fun _ _ _ => 0)
  case atStart => exact ⟨rfl, rfl, Lib.hid rfl⟩
  case round =>
    obtain ⟨rfl, rfl, H⟩ := hrel
    have hw' : w = wr := H.out.symm
    subst hw'
    go_wp2
    go_ret
    exact ⟨rfl, rfl⟩

set_option maxRecDepth 100000 in
set_option maxHeartbeats 1000000 in
theorem rank_says (P : Option Addr) (w : World) (A : Option Addr) (n c : Nat) (M : List (List UInt8)) (hM : Mtx w A n c M) (hn : n ≤ 2000) : Calls Try.prog 18 #[.pointer P, .slice A n c] w fun e w' => e = .returned (.int .i64 (rankL M : Int)) ∧ Below w.heap.size w w' := by
  have hl := hM.len
  have HS := Lib.hid (size_says w A n c M hM hn)
  have HC := Lib.hid (fun W (hW : Below w.heap.size w W) => cloneM_says W A n c M (hM.below hW) hn)
  clear hM
  unfold rankL
  by_cases hr : RightM M
  · rw [sizeL, if_pos hr, hl] at HS
    rw [if_pos hr]
    have hlev := right_lev hr
    rw [hl] at hlev
    have hcl := right_cols hr
    have hr1 := hr.1
    have HSW := Lib.hid (fun W g cap hR hnc => sweep_says P W g cap n (colsOf M) cap (colsOf M) M hR hlev hnc hn (by omega) (Nat.le_refl _))
    generalize colsOf M = m at HS HSW ⊢
    clear hlev hcl hr
    go_enter Try.func18, Try.ntmps18
    go_wp2_with (first
      | (go_at_call 17; refine HS.out.mono ?_; rintro e w1 ⟨rfl, hb1⟩; have HB1 := Lib.hid hb1; clear hb1)
      | (go_at_call 38; refine (HC.out _ HB1.out).mono ?_; rintro e w2 ⟨v, rfl, ho, hb2⟩; obtain ⟨g, cap, rfl, hbg, hnc, hRN⟩ := ho.rows (by omega); rw [hl] at hnc ⊢; have HR := Lib.hid (And.intro hRN (And.intro hnc (And.intro hbg hb2))); clear hRN hnc hbg hb2 ho)
      | (go_at_call 37; refine (HSW.out w2 g cap HR.out.1 HR.out.2.1).mono ?_; rintro e w3 ⟨rfl, _, hg3⟩; have HG3 := Lib.hid hg3; clear hg3))
    go_ret
    have hb12 := HB1.out.trans (HR.out.2.2.2.mono HB1.out.size)
    exact ⟨rfl, hb12.trans ((Below.refl w.heap.size w2).grown HG3.out hb12.size (fun k hk => by cases hk; exact Nat.le_trans HB1.out.size HR.out.2.2.1))⟩
  · rw [sizeL, if_neg hr] at HS
    rw [if_neg hr]
    clear hr
    go_enter Try.func18, Try.ntmps18
    go_wp2_with (first
      | (go_at_call 17; refine HS.out.mono ?_; rintro e w1 ⟨rfl, hb1⟩; have HB1 := Lib.hid hb1; clear hb1)
      | (go_at_call 38; refine (HC.out _ HB1.out).mono ?_; rintro e w2 ⟨v, rfl, ho, hb2⟩; have HR := Lib.hid hb2; clear ho hb2)
      | (go_at_call 37; refine (sweep_none P v w2).mono ?_; rintro e w3 ⟨rfl, rfl⟩))
    go_ret
    exact ⟨rfl, HB1.out.trans (HR.out.mono HB1.out.size)⟩
end Go.Proofs.Ytgakeecibofiiaa
