/-
  What is asked of package gf; the law's small play.
-/
import Derived.Test.YtnkcpchdjgedoaaRefGf
namespace Go.Proofs.Ytnkcpchdjgedoaa
open Go.RowKit

/-- The sum of the products, as far as both go. -/
def dotL (a b : List UInt8) : UInt8 := Gf.lsum (a.zip b) (fun p => Gf.mul p.1 p.2)
/-- A list of bytes handed back. -/
def GivesB (w : World) (l : List UInt8) (e : Ending) (w' : World) : Prop := ∃ A n c, e = .returned (.slice A n c) ∧ Lies w' (fun _ => True) A n c (bc l) ∧ Below w.heap.size w w'
/-- What the field's calls tell, whatever the Field. -/
structure GfC : Prop where
  new : ∀ w, Calls Try.prog 8 #[] w fun e w' => ∃ P, e = .returned (.pointer P) ∧ Below w.heap.size w w'
  add : ∀ (P : Option Addr) (a b : UInt8) (w : World), Calls Try.prog 11 #[.pointer P, .int .u8 (a.toNat : Int), .int .u8 (b.toNat : Int)] w fun e w' => e = .returned (.int .u8 ((a ^^^ b).toNat : Int)) ∧ Below w.heap.size w w'
  mul : ∀ (P : Option Addr) (a b : UInt8) (w : World), Calls Try.prog 9 #[.pointer P, .int .u8 (a.toNat : Int), .int .u8 (b.toNat : Int)] w fun e w' => e = .returned (.int .u8 ((Gf.mul a b).toNat : Int)) ∧ Below w.heap.size w w'
  div : ∀ (P : Option Addr) (a b : UInt8) (w : World), Calls Try.prog 12 #[.pointer P, .int .u8 (a.toNat : Int), .int .u8 (b.toNat : Int)] w fun e w' => e = .returned (.int .u8 ((Gf.mul a (Gf.inv b)).toNat : Int)) ∧ Below w.heap.size w w'
  inv : ∀ (P : Option Addr) (a : UInt8) (w : World), Calls Try.prog 14 #[.pointer P, .int .u8 (a.toNat : Int)] w fun e w' => e = .returned (.int .u8 ((Gf.inv a).toNat : Int)) ∧ Below w.heap.size w w'
  exp : ∀ (P : Option Addr) (n : Int), -9223372036854775808 ≤ n ∧ n ≤ 9223372036854775807 → ∀ w : World, Calls Try.prog 20 #[.pointer P, .int .i64 n] w fun e w' => e = .returned (.int .u8 ((powL 2 n).toNat : Int)) ∧ Below w.heap.size w w'
  log : ∀ (P : Option Addr) (a : UInt8) (w : World), Calls Try.prog 15 #[.pointer P, .int .u8 (a.toNat : Int)] w fun e w' => e = .returned (.int .i64 (logL a)) ∧ Below w.heap.size w w'
  power : ∀ (P : Option Addr) (a : UInt8) (n : Int), -9223372036854775808 ≤ n ∧ n ≤ 9223372036854775807 → ∀ w : World, Calls Try.prog 18 #[.pointer P, .int .u8 (a.toNat : Int), .int .i64 n] w fun e w' => e = .returned (.int .u8 ((powL a n).toNat : Int)) ∧ Below w.heap.size w w'
  eval : ∀ (P : Option Addr) (A : Option Addr) (n c : Nat) (p : List UInt8) (x : UInt8) (w : World), Lies w (fun _ => True) A n c (bc p) → n ≤ 2000 → Calls Try.prog 21 #[.pointer P, .slice A n c, .int .u8 (x.toNat : Int)] w fun e w' => e = .returned (.int .u8 ((Gf.ev p x).toNat : Int)) ∧ Below w.heap.size w w'
  dot : ∀ (P : Option Addr) (A : Option Addr) (n c : Nat) (a : List UInt8) (B : Option Addr) (m d : Nat) (b : List UInt8) (w : World), Lies w (fun _ => True) A n c (bc a) → Lies w (fun _ => True) B m d (bc b) → n ≤ 2000 → m ≤ 2000 → Calls Try.prog 25 #[.pointer P, .slice A n c, .slice B m d] w fun e w' => e = .returned (.int .u8 ((dotL a b).toNat : Int)) ∧ Below w.heap.size w w'
  sum : ∀ (P : Option Addr) (A : Option Addr) (n c : Nat) (a : List UInt8) (B : Option Addr) (m d : Nat) (b : List UInt8) (w : World), Lies w (fun _ => True) A n c (bc a) → Lies w (fun _ => True) B m d (bc b) → n ≤ 2000 → m ≤ 2000 → Calls Try.prog 23 #[.pointer P, .slice A n c, .slice B m d] w (GivesB w (Gf.padd a b))
  scale : ∀ (P : Option Addr) (A : Option Addr) (n c : Nat) (a : List UInt8) (x : UInt8) (w : World), Lies w (fun _ => True) A n c (bc a) → n ≤ 2000 → Calls Try.prog 24 #[.pointer P, .slice A n c, .int .u8 (x.toNat : Int)] w (GivesB w (a.map (fun y => Gf.mul y x)))

theorem Below.of_eq {w w' : World} (h : w' = w) : Below w.heap.size w w' := h ▸ Below.refl _ _
theorem mul_a : Gf.mul 128 2 = 29 := by decide +kernel
theorem mul_b : Gf.mul 3 7 = 9 := by decide +kernel
theorem inv_a : Gf.inv 2 = 142 := by decide +kernel
theorem log_a : logL 1 = 0 := by decide +kernel
theorem exp_a : powL 2 8 = 29 := by decide +kernel

set_option maxRecDepth 100000 in
set_option maxHeartbeats 1000000 in
theorem gone_says (C : GfC) (w : World) : Calls Try.prog 17 #[] w fun e w' => e = .returned (.bool true) ∧ Below w.heap.size w w' := by
  have m1 : ∀ P w, Calls Try.prog 9 #[.pointer P, .int .u8 128, .int .u8 2] w fun e w' => e = .returned (.int .u8 29) ∧ Below w.heap.size w w' := fun P w => by
    have h := C.mul P 128 2 w
    rw [mul_a] at h
    exact h
  have m2 : ∀ P w, Calls Try.prog 9 #[.pointer P, .int .u8 3, .int .u8 7] w fun e w' => e = .returned (.int .u8 9) ∧ Below w.heap.size w w' := fun P w => by
    have h := C.mul P 3 7 w
    rw [mul_b] at h
    exact h
  have i1 : ∀ P w, Calls Try.prog 14 #[.pointer P, .int .u8 2] w fun e w' => e = .returned (.int .u8 142) ∧ Below w.heap.size w w' := fun P w => by
    have h := C.inv P 2 w
    rw [inv_a] at h
    exact h
  have g1 : ∀ P w, Calls Try.prog 15 #[.pointer P, .int .u8 1] w fun e w' => e = .returned (.int .i64 0) ∧ Below w.heap.size w w' := fun P w => by
    have h := C.log P 1 w
    rw [log_a] at h
    exact h
  have e1 : ∀ P w, Calls Try.prog 20 #[.pointer P, .int .i64 8] w fun e w' => e = .returned (.int .u8 29) ∧ Below w.heap.size w w' := fun P w => by
    have h := C.exp P 8 (by omega) w
    rw [exp_a] at h
    exact h
  have HM1 := Lib.hid m1
  have HM2 := Lib.hid m2
  have HI1 := Lib.hid i1
  have HG1 := Lib.hid g1
  have HE1 := Lib.hid e1
  clear m1 m2 i1 g1 e1
  have HB := Lib.hid (Below.refl w.heap.size w)
  go_enter Try.func17, Try.ntmps17
  go_wp2_with (first
    | (go_at_call 8; refine (C.new _).mono ?_; rintro e wn ⟨P, rfl, hbn⟩; replace HB := Lib.hid (HB.out.trans (hbn.mono HB.out.size)); clear hbn)
    | (go_at_call 9; with_reducible refine (HM1.out _ _).mono ?_; rintro e wn ⟨rfl, hbn⟩; replace HB := Lib.hid (HB.out.trans (hbn.mono HB.out.size)); clear hbn)
    | (go_at_call 9; with_reducible refine (HM2.out _ _).mono ?_; rintro e wn ⟨rfl, hbn⟩; replace HB := Lib.hid (HB.out.trans (hbn.mono HB.out.size)); clear hbn)
    | (go_at_call 14; refine (HI1.out _ _).mono ?_; rintro e wn ⟨rfl, hbn⟩; replace HB := Lib.hid (HB.out.trans (hbn.mono HB.out.size)); clear hbn)
    | (go_at_call 20; refine (HE1.out _ _).mono ?_; rintro e wn ⟨rfl, hbn⟩; replace HB := Lib.hid (HB.out.trans (hbn.mono HB.out.size)); clear hbn))
  replace HB := Lib.hid (HB.out.alloc HB.out.size (.cells #[] 41))
  refine (HG1.out _ _).mono ?_
  rintro e wn ⟨rfl, hbn⟩
  replace HB := Lib.hid (HB.out.trans (hbn.mono HB.out.size))
  clear hbn
  go_wp2_with (go_at_call 20; refine (HE1.out _ _).mono ?_; rintro e wn ⟨rfl, hbn⟩; replace HB := Lib.hid (HB.out.trans (hbn.mono HB.out.size)); clear hbn)
  go_ret
  exact ⟨rfl, HB.out⟩

set_option maxRecDepth 100000 in
set_option maxHeartbeats 2000000 in
theorem gfMul_walk (C : GfC) (a b : UInt8) (w : World) : Calls Try.prog 3 #[.int .u8 (a.toNat : Int), .int .u8 (b.toNat : Int)] w fun e w' => e = .returned (.bool true) ∧ Below w.heap.size w w' := by
  have hx8 := bits_x8 a b
  have HB := Lib.hid (Below.refl w.heap.size w)
  go_enter Try.func3, Try.ntmps3
  go_wp2_with (first
    | (go_at_call 8; refine (C.new _).mono ?_; rintro e wn ⟨P, rfl, hbn⟩; replace HB := Lib.hid (HB.out.trans (hbn.mono HB.out.size)); clear hbn)
    | (go_at_call 9; with_reducible refine (C.mul P a b _).mono ?_; rintro e wn ⟨rfl, hbn⟩; replace HB := Lib.hid (HB.out.trans (hbn.mono HB.out.size)); clear hbn)
    | (go_at_call 11; with_reducible refine (C.add P a b _).mono ?_; rintro e wn ⟨rfl, hbn⟩; replace HB := Lib.hid (HB.out.trans (hbn.mono HB.out.size)); clear hbn)
    | (go_at_call 12; with_reducible refine (C.div P a b _).mono ?_; rintro e wn ⟨rfl, hbn⟩; replace HB := Lib.hid (HB.out.trans (hbn.mono HB.out.size)); clear hbn)
    | (go_at_call 14; with_reducible refine (C.inv P a _).mono ?_; rintro e wn ⟨rfl, hbn⟩; replace HB := Lib.hid (HB.out.trans (hbn.mono HB.out.size)); clear hbn)
    | (go_at_call 15; with_reducible refine (C.log P a _).mono ?_; rintro e wn ⟨rfl, hbn⟩; replace HB := Lib.hid (HB.out.trans (hbn.mono HB.out.size)); clear hbn)
    | (go_at_call 10; with_reducible refine (rmul_says a b _).mono ?_; rintro e wn ⟨rfl, hwn⟩; replace HB := Lib.hid (HB.out.trans ((Below.of_eq hwn).mono HB.out.size)); clear hwn)
    | (go_at_call 10; with_reducible refine (rmul_says a (Gf.inv b) _).mono ?_; rintro e wn ⟨rfl, hwn⟩; replace HB := Lib.hid (HB.out.trans ((Below.of_eq hwn).mono HB.out.size)); clear hwn)
    | (go_at_call 13; with_reducible refine (rinv_says a _).mono ?_; rintro e wn ⟨rfl, hwn⟩; replace HB := Lib.hid (HB.out.trans ((Below.of_eq hwn).mono HB.out.size)); clear hwn)
    | (go_at_call 13; with_reducible refine (rinv_says b _).mono ?_; rintro e wn ⟨rfl, hwn⟩; replace HB := Lib.hid (HB.out.trans ((Below.of_eq hwn).mono HB.out.size)); clear hwn)
    | (go_at_call 16; with_reducible refine (rlog_says a _).mono ?_; rintro e wn ⟨rfl, hwn⟩; replace HB := Lib.hid (HB.out.trans ((Below.of_eq hwn).mono HB.out.size)); clear hwn)
    | (go_at_call 17; with_reducible refine (gone_says C _).mono ?_; rintro e wn ⟨rfl, hbn⟩; replace HB := Lib.hid (HB.out.trans (hbn.mono HB.out.size)); clear hbn))
  go_ret
  exact ⟨rfl, HB.out⟩
end Go.Proofs.Ytnkcpchdjgedoaa
