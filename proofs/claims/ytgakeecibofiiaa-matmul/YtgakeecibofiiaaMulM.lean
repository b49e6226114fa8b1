/-
  Apply where it is refused, and Mul, of package mat.
-/
import Derived.Test.YtgakeecibofiiaaApply
namespace Go.Proofs.Ytgakeecibofiiaa
open Go.RowKit Go.Shelf

/-- Shards that go with a matrix. -/
def fitA (M X : List (List UInt8)) : Prop := RightM M ∧ X.length = colsOf M ∧ levelB X = true
instance (M X : List (List UInt8)) : Decidable (fitA M X) := by unfold fitA; exact inferInstance
set_option maxRecDepth 100000 in
set_option maxHeartbeats 1000000 in
theorem apply_no (P : Option Addr) (w : World) (A : Option Addr) (n c : Nat) (M : List (List UInt8)) (hM : Mtx w A n c M) (B : Option Addr) (m d : Nat) (X : List (List UInt8)) (hX : Mtx w B m d X) (hno : ¬ fitA M X) (hn : n ≤ 2000) (hm : m ≤ 2000) :
    Calls Try.prog 16 #[.pointer P, .slice A n c, .slice B m d] w (GivesE w [] 2) := by
  have hl := hM.len
  have hlX := hX.len
  have hri := right_says w A n c M hM hn
  by_cases hr : RightM M
  · rw [decide_eq_true hr] at hri
    have HRI := Lib.hid hri
    have hn1 := hr.1
    obtain ⟨r0, hr0⟩ : ∃ r, M[0]? = some r := ⟨_, List.getElem?_eq_getElem (by omega)⟩
    obtain ⟨ba, oa, A0, c0, hA, hba, hc0, _⟩ := hM.row hr0
    rw [right_row hr hr0, Nat.add_zero] at hc0
    subst hA
    have hn0 : 0 < n := by omega
    have hnn : (0 : Int) < (n : Int) := by omega
    by_cases hmc : m = colsOf M
    · have hlb : levelB X = false := by
        cases h : levelB X with
        | false => rfl
        | true => exact absurd ⟨hr, by omega, h⟩ hno
      have HLE := Lib.hid (fun W (hW : Below w.heap.size w W) => (by have := level_says W B m d X (hX.below hW) hm; rwa [hlb] at this : Calls Try.prog 34 #[.slice B m d] W fun e w' => e = .returned (.bool false) ∧ Below W.heap.size W w'))
      rw [← hmc] at hc0
      clear hM hX hri hr hr0 hlb hno hmc
      go_enter Try.func16, Try.ntmps16
      go_wp2_with (first
        | (go_at_call 20; refine HRI.out.mono ?_; rintro e w1 ⟨rfl, hb1⟩; have hca := (hb1.cell (p := ⟨ba, oa, none⟩) hba).trans hc0; have HB1 := Lib.hid hb1; clear hb1)
        | (go_at_call 34; refine (HLE.out _ HB1.out).mono ?_; rintro e w2 ⟨rfl, hb2⟩; have HB2 := Lib.hid (HB1.out.trans (hb2.mono HB1.out.size)); clear hb2))
      go_ret2
      exact ⟨_, _, _, rfl, Mtx.nil _ _ _, HB2.out⟩
    · have hmc' : ((m : Int) != (colsOf M : Int)) = true := by simp; omega
      generalize colsOf M = k at hc0 hmc'
      clear hM hX hri hr hr0 hno hmc
      go_enter Try.func16, Try.ntmps16
      go_wp2_with (go_at_call 20; refine HRI.out.mono ?_; rintro e w1 ⟨rfl, hb1⟩; have hca := (hb1.cell (p := ⟨ba, oa, none⟩) hba).trans hc0; have HB1 := Lib.hid hb1; clear hb1)
      go_ret2
      exact ⟨_, _, _, rfl, Mtx.nil _ _ _, HB1.out⟩
  · rw [decide_eq_false hr] at hri
    have HRI := Lib.hid hri
    clear hM hX hri hr hno
    go_enter Try.func16, Try.ntmps16
    go_wp2_with (go_at_call 20; refine HRI.out.mono ?_; rintro e w1 ⟨rfl, hb1⟩; have HB1 := Lib.hid hb1; clear hb1)
    go_ret2
    exact ⟨_, _, _, rfl, Mtx.nil _ _ _, HB1.out⟩
theorem level_lev {X : List (List UInt8)} (h : levelB X = true) : Lev X.length (X.headD []).length X := ⟨rfl, fun r hr => by
  have := (List.all_eq_true.1 h) r hr
  simpa using this⟩
theorem right_level {X : List (List UInt8)} (h : RightM X) : levelB X = true := List.all_eq_true.2 (fun r hr => by
  have := (h.2.2 r hr).1
  simpa using this)
/-- What Apply tells. -/
def appR (M X : List (List UInt8)) : List (List UInt8) × Int := if fitA M X then (appL M X, 0) else ([], 2)
theorem apply_says (P : Option Addr) (w : World) (A : Option Addr) (n c : Nat) (M : List (List UInt8)) (hM : Mtx w A n c M) (B : Option Addr) (m d : Nat) (X : List (List UInt8)) (hX : Mtx w B m d X) (hn : n ≤ 2000) (hm : m ≤ 2000) (hq : ∀ r ∈ X, r.length ≤ 1000) :
    Calls Try.prog 16 #[.pointer P, .slice A n c, .slice B m d] w (GivesE w (appR M X).1 (appR M X).2) := by
  unfold appR
  by_cases h : fitA M X
  · rw [if_pos h]
    refine apply_yes P w A n c M hM B m d X hX h.1 (by rw [← hX.len]; exact h.2.1) (X.headD []).length (by rw [← hX.len]; exact level_lev h.2.2) ?_
    cases X with
    | nil => simp
    | cons a t => exact hq a (List.mem_cons_self ..)
  · rw [if_neg h]
    exact apply_no P w A n c M hM B m d X hX h hn hm
/-- What Mul tells. -/
def mulR (M X : List (List UInt8)) : List (List UInt8) × Int := if RightM X then appR M X else ([], 2)
set_option maxRecDepth 100000 in
set_option maxHeartbeats 1000000 in
theorem mulM_says (P : Option Addr) (w : World) (A : Option Addr) (n c : Nat) (M : List (List UInt8)) (hM : Mtx w A n c M) (B : Option Addr) (m d : Nat) (X : List (List UInt8)) (hX : Mtx w B m d X) (hn : n ≤ 2000) (hm : m ≤ 2000) :
    Calls Try.prog 12 #[.pointer P, .slice A n c, .slice B m d] w (GivesE w (mulR M X).1 (mulR M X).2) := by
  have hri := right_says w B m d X hX hm
  by_cases hr : RightM X
  · rw [decide_eq_true hr] at hri
    have HA := Lib.hid (fun W (hW : Below w.heap.size w W) => apply_says P W A n c M (hM.below hW) B m d X (hX.below hW) hn hm (fun r hr' => by have := (hr.2.2 r hr').2.2; omega))
    rw [mulR, if_pos hr]
    have HRI := Lib.hid hri
    clear hM hX hri hr
    generalize (appR M X).1 = R at HA ⊢
    generalize (appR M X).2 = f at HA ⊢
    go_enter Try.func12, Try.ntmps12
    go_wp2_with (first
      | (go_at_call 20; refine HRI.out.mono ?_; rintro e w1 ⟨rfl, hb1⟩; have HB1 := Lib.hid hb1; clear hb1)
      | (go_at_call 16; refine (HA.out _ HB1.out).mono ?_; rintro e w2 ⟨A2, n2, c2, rfl, hm2, hb2⟩; have HR := Lib.hid (And.intro hm2 (HB1.out.trans (hb2.mono HB1.out.size))); clear hm2 hb2))
    go_ret2
    exact ⟨_, _, _, rfl, HR.out⟩
  · rw [decide_eq_false hr] at hri
    rw [mulR, if_neg hr]
    have HRI := Lib.hid hri
    clear hM hX hri hr
    go_enter Try.func12, Try.ntmps12
    go_wp2_with (go_at_call 20; refine HRI.out.mono ?_; rintro e w1 ⟨rfl, hb1⟩; have HB1 := Lib.hid hb1; clear hb1)
    go_ret2
    exact ⟨_, _, _, rfl, Mtx.nil _ _ _, HB1.out⟩
end Go.Proofs.Ytgakeecibofiiaa
