/-
  GfField, GfPower, GfPowers, walked, given what package gf tells.
-/
import Derived.Test.YtnkcpchdjgedoaaGfC
namespace Go.Proofs.Ytnkcpchdjgedoaa
open Go.RowKit

set_option maxRecDepth 100000 in
set_option maxHeartbeats 4000000 in
theorem gfField_walk (C : GfC) (a b c : UInt8) (w : World) : Calls Try.prog 6 #[.int .u8 (a.toNat : Int), .int .u8 (b.toNat : Int), .int .u8 (c.toNat : Int)] w fun e w' => e = .returned (.bool true) ∧ Below w.heap.size w w' := by
  obtain ⟨ab, hab⟩ : ∃ x, Gf.mul a b = x := ⟨_, rfl⟩
  obtain ⟨bc, hbc⟩ : ∃ x, Gf.mul b c = x := ⟨_, rfl⟩
  obtain ⟨ac, hac⟩ : ∃ x, Gf.mul a c = x := ⟨_, rfl⟩
  obtain ⟨t, ht⟩ : ∃ x, Gf.mul a bc = x := ⟨_, rfl⟩
  obtain ⟨s, hs⟩ : ∃ x, b ^^^ c = x := ⟨_, rfl⟩
  obtain ⟨r, hr⟩ : ∃ x, Gf.mul a s = x := ⟨_, rfl⟩
  have ht2 : Gf.mul ab c = t := by rw [← hab, ← ht, ← hbc, Gf.mul_assoc]
  have hr2 : ab ^^^ ac = r := by rw [← hab, ← hac, ← hr, ← hs, Gf.mul_add]
  have M1 : Hid (∀ (P : Option Addr) (w : World), Calls Try.prog 9 #[.pointer P, .int .u8 (a.toNat : Int), .int .u8 (b.toNat : Int)] w fun e w' => e = .returned (.int .u8 (ab.toNat : Int)) ∧ Below w.heap.size w w') := Lib.hid (fun P w => by have h := C.mul P a b w; rw [hab] at h; exact h)
  have M2 : Hid (∀ (P : Option Addr) (w : World), Calls Try.prog 9 #[.pointer P, .int .u8 (b.toNat : Int), .int .u8 (a.toNat : Int)] w fun e w' => e = .returned (.int .u8 (ab.toNat : Int)) ∧ Below w.heap.size w w') := Lib.hid (fun P w => by have h := C.mul P b a w; rw [Gf.mul_comm, hab] at h; exact h)
  have M3 : Hid (∀ (P : Option Addr) (w : World), Calls Try.prog 9 #[.pointer P, .int .u8 (b.toNat : Int), .int .u8 (c.toNat : Int)] w fun e w' => e = .returned (.int .u8 (bc.toNat : Int)) ∧ Below w.heap.size w w') := Lib.hid (fun P w => by have h := C.mul P b c w; rw [hbc] at h; exact h)
  have M4 : Hid (∀ (P : Option Addr) (w : World), Calls Try.prog 9 #[.pointer P, .int .u8 (a.toNat : Int), .int .u8 (bc.toNat : Int)] w fun e w' => e = .returned (.int .u8 (t.toNat : Int)) ∧ Below w.heap.size w w') := Lib.hid (fun P w => by have h := C.mul P a bc w; rw [ht] at h; exact h)
  have M5 : Hid (∀ (P : Option Addr) (w : World), Calls Try.prog 9 #[.pointer P, .int .u8 (ab.toNat : Int), .int .u8 (c.toNat : Int)] w fun e w' => e = .returned (.int .u8 (t.toNat : Int)) ∧ Below w.heap.size w w') := Lib.hid (fun P w => by have h := C.mul P ab c w; rw [ht2] at h; exact h)
  have A1 : Hid (∀ (P : Option Addr) (w : World), Calls Try.prog 11 #[.pointer P, .int .u8 (b.toNat : Int), .int .u8 (c.toNat : Int)] w fun e w' => e = .returned (.int .u8 (s.toNat : Int)) ∧ Below w.heap.size w w') := Lib.hid (fun P w => by have h := C.add P b c w; rw [hs] at h; exact h)
  have M6 : Hid (∀ (P : Option Addr) (w : World), Calls Try.prog 9 #[.pointer P, .int .u8 (a.toNat : Int), .int .u8 (s.toNat : Int)] w fun e w' => e = .returned (.int .u8 (r.toNat : Int)) ∧ Below w.heap.size w w') := Lib.hid (fun P w => by have h := C.mul P a s w; rw [hr] at h; exact h)
  have M7 : Hid (∀ (P : Option Addr) (w : World), Calls Try.prog 9 #[.pointer P, .int .u8 (a.toNat : Int), .int .u8 (c.toNat : Int)] w fun e w' => e = .returned (.int .u8 (ac.toNat : Int)) ∧ Below w.heap.size w w') := Lib.hid (fun P w => by have h := C.mul P a c w; rw [hac] at h; exact h)
  have A2 : Hid (∀ (P : Option Addr) (w : World), Calls Try.prog 11 #[.pointer P, .int .u8 (ab.toNat : Int), .int .u8 (ac.toNat : Int)] w fun e w' => e = .returned (.int .u8 (r.toNat : Int)) ∧ Below w.heap.size w w') := Lib.hid (fun P w => by have h := C.add P ab ac w; rw [hr2] at h; exact h)
  have M8 : Hid (∀ (P : Option Addr) (w : World), Calls Try.prog 9 #[.pointer P, .int .u8 (a.toNat : Int), .int .u8 1] w fun e w' => e = .returned (.int .u8 (a.toNat : Int)) ∧ Below w.heap.size w w') := Lib.hid (fun P w => by have h := C.mul P a 1 w; rw [Gf.mul_one] at h; exact h)
  have M9 : Hid (∀ (P : Option Addr) (w : World), Calls Try.prog 9 #[.pointer P, .int .u8 (a.toNat : Int), .int .u8 0] w fun e w' => e = .returned (.int .u8 0) ∧ Below w.heap.size w w') := Lib.hid (fun P w => by have h := C.mul P a 0 w; rw [Gf.mul_zero] at h; exact h)
  have HC := Lib.hid C
  have HB := Lib.hid (Below.refl w.heap.size w)
  by_cases ha : a = 0
  · have hnz : ((a.toNat : Int) != 0) = false := by simp [ha]
    have hez : ((a.toNat : Int) == 0) = true := by simp [ha]
    have L1 : Hid (∀ (P : Option Addr) (w : World), Calls Try.prog 15 #[.pointer P, .int .u8 (a.toNat : Int)] w fun e w' => e = .returned (.int .i64 (-1)) ∧ Below w.heap.size w w') := Lib.hid (fun P w => by have h := C.log P a w; rw [show logL a = -1 from by rw [logL, if_pos ha]] at h; exact h)
    clear hab hbc hac ht hs hr ht2 hr2 ha
    go_enter Try.func6, Try.ntmps6
    go_wp2_with (first
      | (go_at_call 8; refine (HC.out.new _).mono ?_; rintro e wn ⟨P, rfl, hbn⟩; replace HB := Lib.hid (HB.out.trans (hbn.mono HB.out.size)); clear hbn)
      | (go_at_call 9; with_reducible refine (M1.out _ _).mono ?_; rintro e wn ⟨rfl, hbn⟩; replace HB := Lib.hid (HB.out.trans (hbn.mono HB.out.size)); clear hbn)
      | (go_at_call 9; with_reducible refine (M2.out _ _).mono ?_; rintro e wn ⟨rfl, hbn⟩; replace HB := Lib.hid (HB.out.trans (hbn.mono HB.out.size)); clear hbn)
      | (go_at_call 9; with_reducible refine (M3.out _ _).mono ?_; rintro e wn ⟨rfl, hbn⟩; replace HB := Lib.hid (HB.out.trans (hbn.mono HB.out.size)); clear hbn)
      | (go_at_call 9; with_reducible refine (M4.out _ _).mono ?_; rintro e wn ⟨rfl, hbn⟩; replace HB := Lib.hid (HB.out.trans (hbn.mono HB.out.size)); clear hbn)
      | (go_at_call 9; with_reducible refine (M5.out _ _).mono ?_; rintro e wn ⟨rfl, hbn⟩; replace HB := Lib.hid (HB.out.trans (hbn.mono HB.out.size)); clear hbn)
      | (go_at_call 11; with_reducible refine (A1.out _ _).mono ?_; rintro e wn ⟨rfl, hbn⟩; replace HB := Lib.hid (HB.out.trans (hbn.mono HB.out.size)); clear hbn)
      | (go_at_call 9; with_reducible refine (M6.out _ _).mono ?_; rintro e wn ⟨rfl, hbn⟩; replace HB := Lib.hid (HB.out.trans (hbn.mono HB.out.size)); clear hbn)
      | (go_at_call 9; with_reducible refine (M7.out _ _).mono ?_; rintro e wn ⟨rfl, hbn⟩; replace HB := Lib.hid (HB.out.trans (hbn.mono HB.out.size)); clear hbn)
      | (go_at_call 11; with_reducible refine (A2.out _ _).mono ?_; rintro e wn ⟨rfl, hbn⟩; replace HB := Lib.hid (HB.out.trans (hbn.mono HB.out.size)); clear hbn)
      | (go_at_call 9; with_reducible refine (M8.out _ _).mono ?_; rintro e wn ⟨rfl, hbn⟩; replace HB := Lib.hid (HB.out.trans (hbn.mono HB.out.size)); clear hbn)
      | (go_at_call 9; with_reducible refine (M9.out _ _).mono ?_; rintro e wn ⟨rfl, hbn⟩; replace HB := Lib.hid (HB.out.trans (hbn.mono HB.out.size)); clear hbn)
      | (go_at_call 15; with_reducible refine (L1.out _ _).mono ?_; rintro e wn ⟨rfl, hbn⟩; replace HB := Lib.hid (HB.out.trans (hbn.mono HB.out.size)); clear hbn)
      | (go_at_call 17; with_reducible refine (gone_says HC.out _).mono ?_; rintro e wn ⟨rfl, hbn⟩; replace HB := Lib.hid (HB.out.trans (hbn.mono HB.out.size)); clear hbn))
    go_ret
    exact ⟨rfl, HB.out⟩
  · have hnz : ((a.toNat : Int) != 0) = true := by have := Gf.toNat_ne ha; simp; omega
    have hez : ((a.toNat : Int) == 0) = false := by have := Gf.toNat_ne ha; simp; omega
    obtain ⟨ia, hia⟩ : ∃ x, Gf.inv a = x := ⟨_, rfl⟩
    obtain ⟨lg, hlg⟩ : ∃ x, logL a = x := ⟨_, rfl⟩
    have hlr := log_neg a ha
    rw [hlg] at hlr
    have hl0 : decide (lg < 0) = false := by simp; omega
    have I1 : Hid (∀ (P : Option Addr) (w : World), Calls Try.prog 14 #[.pointer P, .int .u8 (a.toNat : Int)] w fun e w' => e = .returned (.int .u8 (ia.toNat : Int)) ∧ Below w.heap.size w w') := Lib.hid (fun P w => by have h := C.inv P a w; rw [hia] at h; exact h)
    have N1 : Hid (∀ (P : Option Addr) (w : World), Calls Try.prog 9 #[.pointer P, .int .u8 (a.toNat : Int), .int .u8 (ia.toNat : Int)] w fun e w' => e = .returned (.int .u8 1) ∧ Below w.heap.size w w') := Lib.hid (fun P w => by have h := C.mul P a ia w; rw [show Gf.mul a ia = 1 from by rw [← hia]; exact Gf.mul_inv ha] at h; exact h)
    have L1 : Hid (∀ (P : Option Addr) (w : World), Calls Try.prog 15 #[.pointer P, .int .u8 (a.toNat : Int)] w fun e w' => e = .returned (.int .i64 lg) ∧ Below w.heap.size w w') := Lib.hid (fun P w => by have h := C.log P a w; rw [hlg] at h; exact h)
    have E1 : Hid (∀ (P : Option Addr) (w : World), Calls Try.prog 20 #[.pointer P, .int .i64 lg] w fun e w' => e = .returned (.int .u8 (a.toNat : Int)) ∧ Below w.heap.size w w') := Lib.hid (fun P w => by have h := C.exp P lg (by omega) w; rw [show powL 2 lg = a from by rw [← hlg]; exact exp_log a ha] at h; exact h)
    have D1 : Hid (∀ (P : Option Addr) (w : World), Calls Try.prog 12 #[.pointer P, .int .u8 (ab.toNat : Int), .int .u8 (a.toNat : Int)] w fun e w' => e = .returned (.int .u8 (b.toNat : Int)) ∧ Below w.heap.size w w') := Lib.hid (fun P w => by have h := C.div P ab a w; rw [show Gf.mul ab (Gf.inv a) = b from by rw [← hab]; exact div_mul a b ha] at h; exact h)
    clear hab hbc hac ht hs hr ht2 hr2 ha hia hlg
    go_enter Try.func6, Try.ntmps6
    go_wp2_with (first
      | (go_at_call 8; refine (HC.out.new _).mono ?_; rintro e wn ⟨P, rfl, hbn⟩; replace HB := Lib.hid (HB.out.trans (hbn.mono HB.out.size)); clear hbn)
      | (go_at_call 9; with_reducible refine (M1.out _ _).mono ?_; rintro e wn ⟨rfl, hbn⟩; replace HB := Lib.hid (HB.out.trans (hbn.mono HB.out.size)); clear hbn)
      | (go_at_call 9; with_reducible refine (M2.out _ _).mono ?_; rintro e wn ⟨rfl, hbn⟩; replace HB := Lib.hid (HB.out.trans (hbn.mono HB.out.size)); clear hbn)
      | (go_at_call 9; with_reducible refine (M3.out _ _).mono ?_; rintro e wn ⟨rfl, hbn⟩; replace HB := Lib.hid (HB.out.trans (hbn.mono HB.out.size)); clear hbn)
      | (go_at_call 9; with_reducible refine (M4.out _ _).mono ?_; rintro e wn ⟨rfl, hbn⟩; replace HB := Lib.hid (HB.out.trans (hbn.mono HB.out.size)); clear hbn)
      | (go_at_call 9; with_reducible refine (M5.out _ _).mono ?_; rintro e wn ⟨rfl, hbn⟩; replace HB := Lib.hid (HB.out.trans (hbn.mono HB.out.size)); clear hbn)
      | (go_at_call 11; with_reducible refine (A1.out _ _).mono ?_; rintro e wn ⟨rfl, hbn⟩; replace HB := Lib.hid (HB.out.trans (hbn.mono HB.out.size)); clear hbn)
      | (go_at_call 9; with_reducible refine (M6.out _ _).mono ?_; rintro e wn ⟨rfl, hbn⟩; replace HB := Lib.hid (HB.out.trans (hbn.mono HB.out.size)); clear hbn)
      | (go_at_call 9; with_reducible refine (M7.out _ _).mono ?_; rintro e wn ⟨rfl, hbn⟩; replace HB := Lib.hid (HB.out.trans (hbn.mono HB.out.size)); clear hbn)
      | (go_at_call 11; with_reducible refine (A2.out _ _).mono ?_; rintro e wn ⟨rfl, hbn⟩; replace HB := Lib.hid (HB.out.trans (hbn.mono HB.out.size)); clear hbn)
      | (go_at_call 9; with_reducible refine (M8.out _ _).mono ?_; rintro e wn ⟨rfl, hbn⟩; replace HB := Lib.hid (HB.out.trans (hbn.mono HB.out.size)); clear hbn)
      | (go_at_call 9; with_reducible refine (M9.out _ _).mono ?_; rintro e wn ⟨rfl, hbn⟩; replace HB := Lib.hid (HB.out.trans (hbn.mono HB.out.size)); clear hbn)
      | (go_at_call 14; with_reducible refine (I1.out _ _).mono ?_; rintro e wn ⟨rfl, hbn⟩; replace HB := Lib.hid (HB.out.trans (hbn.mono HB.out.size)); clear hbn)
      | (go_at_call 9; with_reducible refine (N1.out _ _).mono ?_; rintro e wn ⟨rfl, hbn⟩; replace HB := Lib.hid (HB.out.trans (hbn.mono HB.out.size)); clear hbn)
      | (go_at_call 15; with_reducible refine (L1.out _ _).mono ?_; rintro e wn ⟨rfl, hbn⟩; replace HB := Lib.hid (HB.out.trans (hbn.mono HB.out.size)); clear hbn)
      | (go_at_call 20; with_reducible refine (E1.out _ _).mono ?_; rintro e wn ⟨rfl, hbn⟩; replace HB := Lib.hid (HB.out.trans (hbn.mono HB.out.size)); clear hbn)
      | (go_at_call 12; with_reducible refine (D1.out _ _).mono ?_; rintro e wn ⟨rfl, hbn⟩; replace HB := Lib.hid (HB.out.trans (hbn.mono HB.out.size)); clear hbn)
      | (go_at_call 17; with_reducible refine (gone_says HC.out _).mono ?_; rintro e wn ⟨rfl, hbn⟩; replace HB := Lib.hid (HB.out.trans (hbn.mono HB.out.size)); clear hbn))
    go_ret
    exact ⟨rfl, HB.out⟩

theorem and_lo (n : Int) : ∃ k : Nat, k < 65536 ∧ bits .and .i64 n 65535 = (k : Int) := by
  have h : bits .and .i64 n 65535 = IntKind.i64.wrap (((BitVec.ofInt 64 n &&& BitVec.ofInt 64 65535).toNat : Nat) : Int) := rfl
  have hl : (BitVec.ofInt 64 n &&& BitVec.ofInt 64 65535).toNat ≤ 65535 := by
    rw [BitVec.toNat_and]
    exact Nat.le_trans Nat.and_le_right (by decide)
  refine ⟨_, Nat.lt_of_le_of_lt hl (by omega), ?_⟩
  rw [h]
  exact IntWalk.i64_in _ (by omega)
theorem Try.info1 : (Try.prog.info? 5).map (·.size) = some 1 := by kernel_rfl
/-- 'x[:m]', at the operation. -/
theorem wpList_slice_to {P : Program} {ops : Array Oper} {rest : List Oper} {o : Oper} {a : Act} {w : World} {Q : Exit → Act → World → Prop} (hg : o.guard = none) (x y : Operand) {T : TypeId} (ho : o.op = .slice T x none (some y) none) (v : Value) (h : (Instr.sliceAt T (a.eval x) none (some (a.eval y)) none).run P w = .ok v w) (hk : wpList P ops Q rest (a.put o.dst v) w) : wpList P ops Q (o :: rest) a w := by
  refine wpList_plain hg fun K hK => ?_
  unfold Oper.wp execOp
  simp only [ho, Sem.run_bind, Option.map_some, Option.map_none, h, Result.andThen_ok, Sem.run_pure, Oper.upon_value]
  exact hK _ _ hk
set_option maxRecDepth 100000 in
set_option maxHeartbeats 4000000 in
theorem gfPower_walk (C : GfC) (a : UInt8) (n m : Int) (w : World) : Calls Try.prog 7 #[.int .u8 (a.toNat : Int), .int .i64 n, .int .i64 m] w fun e w' => e = .returned (.bool true) ∧ Below w.heap.size w w' := by
  obtain ⟨k, hk, hkn⟩ := and_lo n
  obtain ⟨l, hl, hlm⟩ := and_lo m
  have Z0 : Hid (∀ (P : Option Addr) (w : World), Calls Try.prog 18 #[.pointer P, .int .u8 (a.toNat : Int), .int .i64 0] w fun e w' => e = .returned (.int .u8 1) ∧ Below w.heap.size w w') := Lib.hid (fun P w => by have h := C.power P a 0 (by omega) w; rw [powL_at] at h; exact h)
  have Z1 : Hid (∀ (P : Option Addr) (w : World), Calls Try.prog 18 #[.pointer P, .int .u8 0, .int .i64 (1 + (k : Int))] w fun e w' => e = .returned (.int .u8 0) ∧ Below w.heap.size w w') := Lib.hid (fun P w => by have h := C.power P 0 (1 + (k : Int)) (by omega) w; rw [powL_zero _ (by omega)] at h; exact h)
  have Z2 : Hid (∀ (P : Option Addr) (w : World), Calls Try.prog 18 #[.pointer P, .int .u8 0, .int .i64 (-1 - (k : Int))] w fun e w' => e = .returned (.int .u8 0) ∧ Below w.heap.size w w') := Lib.hid (fun P w => by have h := C.power P 0 (-1 - (k : Int)) (by omega) w; rw [powL_zero _ (by omega)] at h; exact h)
  have HC := Lib.hid C
  have HB := Lib.hid (Below.refl w.heap.size w)
  by_cases ha : a = 0
  · have hnz : ((a.toNat : Int) != 0) = false := by simp [ha]
    clear ha
    go_enter Try.func7, Try.ntmps7
    go_wp2_with (first
      | (go_at_call 8; refine (HC.out.new _).mono ?_; rintro e wn ⟨P, rfl, hbn⟩; replace HB := Lib.hid (HB.out.trans (hbn.mono HB.out.size)); clear hbn)
      | (go_at_call 18; with_reducible refine (Z0.out _ _).mono ?_; rintro e wn ⟨rfl, hbn⟩; replace HB := Lib.hid (HB.out.trans (hbn.mono HB.out.size)); clear hbn)
      | (go_at_call 18; with_reducible refine (Z1.out _ _).mono ?_; rintro e wn ⟨rfl, hbn⟩; replace HB := Lib.hid (HB.out.trans (hbn.mono HB.out.size)); clear hbn)
      | (go_at_call 18; with_reducible refine (Z2.out _ _).mono ?_; rintro e wn ⟨rfl, hbn⟩; replace HB := Lib.hid (HB.out.trans (hbn.mono HB.out.size)); clear hbn)
      | (go_at_call 17; with_reducible refine (gone_says HC.out _).mono ?_; rintro e wn ⟨rfl, hbn⟩; replace HB := Lib.hid (HB.out.trans (hbn.mono HB.out.size)); clear hbn))
    go_ret
    exact ⟨rfl, HB.out⟩
  · have hnz : ((a.toNat : Int) != 0) = true := by have := Gf.toNat_ne ha; simp; omega
    obtain ⟨pk, hpk⟩ : ∃ x, Gf.pw a k = x := ⟨_, rfl⟩
    obtain ⟨pl, hpl⟩ : ∃ x, Gf.pw a l = x := ⟨_, rfl⟩
    obtain ⟨kl, hkl⟩ : ∃ x, Gf.mul pk pl = x := ⟨_, rfl⟩
    obtain ⟨ik, hik⟩ : ∃ x, Gf.inv pk = x := ⟨_, rfl⟩
    have hpk0 : pk ≠ 0 := by rw [← hpk]; exact Gf.pw_ne ha k
    have P1 : Hid (∀ (P : Option Addr) (w : World), Calls Try.prog 18 #[.pointer P, .int .u8 (a.toNat : Int), .int .i64 ((k : Int) + (l : Int))] w fun e w' => e = .returned (.int .u8 (kl.toNat : Int)) ∧ Below w.heap.size w w') := Lib.hid (fun P w => by have h := C.power P a ((k : Int) + (l : Int)) (by omega) w; rw [show powL a ((k : Int) + (l : Int)) = kl from by rw [← Int.natCast_add, powL_pw ha, Gf.pw_add, hpk, hpl, hkl]] at h; exact h)
    have P2 : Hid (∀ (P : Option Addr) (w : World), Calls Try.prog 18 #[.pointer P, .int .u8 (a.toNat : Int), .int .i64 (k : Int)] w fun e w' => e = .returned (.int .u8 (pk.toNat : Int)) ∧ Below w.heap.size w w') := Lib.hid (fun P w => by have h := C.power P a (k : Int) (by omega) w; rw [powL_pw ha, hpk] at h; exact h)
    have P3 : Hid (∀ (P : Option Addr) (w : World), Calls Try.prog 18 #[.pointer P, .int .u8 (a.toNat : Int), .int .i64 (l : Int)] w fun e w' => e = .returned (.int .u8 (pl.toNat : Int)) ∧ Below w.heap.size w w') := Lib.hid (fun P w => by have h := C.power P a (l : Int) (by omega) w; rw [powL_pw ha, hpl] at h; exact h)
    have P4 : Hid (∀ (P : Option Addr) (w : World), Calls Try.prog 18 #[.pointer P, .int .u8 (a.toNat : Int), .int .i64 ((k : Int) + 255)] w fun e w' => e = .returned (.int .u8 (pk.toNat : Int)) ∧ Below w.heap.size w w') := Lib.hid (fun P w => by have h := C.power P a ((k : Int) + 255) (by omega) w; rw [show powL a ((k : Int) + 255) = pk from by rw [show ((k : Int) + 255) = ((k + 255 : Nat) : Int) by omega, powL_pw ha, Gf.pw_add, Gf.pw_255 ha, Gf.mul_one, hpk]] at h; exact h)
    have P5 : Hid (∀ (P : Option Addr) (w : World), Calls Try.prog 18 #[.pointer P, .int .u8 (a.toNat : Int), .int .i64 (-(k : Int))] w fun e w' => e = .returned (.int .u8 (ik.toNat : Int)) ∧ Below w.heap.size w w') := Lib.hid (fun P w => by have h := C.power P a (-(k : Int)) (by omega) w; rw [powL_neg ha, hpk, hik] at h; exact h)
    have Q1 : Hid (∀ (P : Option Addr) (w : World), Calls Try.prog 9 #[.pointer P, .int .u8 (pk.toNat : Int), .int .u8 (pl.toNat : Int)] w fun e w' => e = .returned (.int .u8 (kl.toNat : Int)) ∧ Below w.heap.size w w') := Lib.hid (fun P w => by have h := C.mul P pk pl w; rw [hkl] at h; exact h)
    have Q2 : Hid (∀ (P : Option Addr) (w : World), Calls Try.prog 9 #[.pointer P, .int .u8 (pk.toNat : Int), .int .u8 (ik.toNat : Int)] w fun e w' => e = .returned (.int .u8 1) ∧ Below w.heap.size w w') := Lib.hid (fun P w => by have h := C.mul P pk ik w; rw [show Gf.mul pk ik = 1 from by rw [← hik]; exact Gf.mul_inv hpk0] at h; exact h)
    clear ha hpk hpl hkl hik hpk0
    go_enter Try.func7, Try.ntmps7
    go_wp2_with (first
      | (go_at_call 8; refine (HC.out.new _).mono ?_; rintro e wn ⟨P, rfl, hbn⟩; replace HB := Lib.hid (HB.out.trans (hbn.mono HB.out.size)); clear hbn)
      | (go_at_call 18; with_reducible refine (P1.out _ _).mono ?_; rintro e wn ⟨rfl, hbn⟩; replace HB := Lib.hid (HB.out.trans (hbn.mono HB.out.size)); clear hbn)
      | (go_at_call 18; with_reducible refine (P2.out _ _).mono ?_; rintro e wn ⟨rfl, hbn⟩; replace HB := Lib.hid (HB.out.trans (hbn.mono HB.out.size)); clear hbn)
      | (go_at_call 18; with_reducible refine (P3.out _ _).mono ?_; rintro e wn ⟨rfl, hbn⟩; replace HB := Lib.hid (HB.out.trans (hbn.mono HB.out.size)); clear hbn)
      | (go_at_call 18; with_reducible refine (P4.out _ _).mono ?_; rintro e wn ⟨rfl, hbn⟩; replace HB := Lib.hid (HB.out.trans (hbn.mono HB.out.size)); clear hbn)
      | (go_at_call 18; with_reducible refine (P5.out _ _).mono ?_; rintro e wn ⟨rfl, hbn⟩; replace HB := Lib.hid (HB.out.trans (hbn.mono HB.out.size)); clear hbn)
      | (go_at_call 9; with_reducible refine (Q1.out _ _).mono ?_; rintro e wn ⟨rfl, hbn⟩; replace HB := Lib.hid (HB.out.trans (hbn.mono HB.out.size)); clear hbn)
      | (go_at_call 9; with_reducible refine (Q2.out _ _).mono ?_; rintro e wn ⟨rfl, hbn⟩; replace HB := Lib.hid (HB.out.trans (hbn.mono HB.out.size)); clear hbn)
      | (go_at_call 18; with_reducible refine (Z0.out _ _).mono ?_; rintro e wn ⟨rfl, hbn⟩; replace HB := Lib.hid (HB.out.trans (hbn.mono HB.out.size)); clear hbn)
      | (go_at_call 18; with_reducible refine (Z1.out _ _).mono ?_; rintro e wn ⟨rfl, hbn⟩; replace HB := Lib.hid (HB.out.trans (hbn.mono HB.out.size)); clear hbn)
      | (go_at_call 18; with_reducible refine (Z2.out _ _).mono ?_; rintro e wn ⟨rfl, hbn⟩; replace HB := Lib.hid (HB.out.trans (hbn.mono HB.out.size)); clear hbn)
      | (go_at_call 17; with_reducible refine (gone_says HC.out _).mono ?_; rintro e wn ⟨rfl, hbn⟩; replace HB := Lib.hid (HB.out.trans (hbn.mono HB.out.size)); clear hbn))
    go_ret
    exact ⟨rfl, HB.out⟩

set_option maxRecDepth 100000 in
set_option maxHeartbeats 4000000 in
theorem gfPowers_core (C : GfC) (a : UInt8) (n : Int) (hn : -9223372036854775808 ≤ n ∧ n ≤ 9223372036854775807) (A : Option Addr) (m c : Nat) (p : List UInt8) (w : World) (hp : Lies w (fun _ => True) A m c (bc p)) :
    Calls Try.prog 4 #[.int .u8 (a.toNat : Int), .int .i64 n, .slice A m c] w fun e w' => e = .returned (.bool true) ∧ Below w.heap.size w w' := by
  obtain ⟨pn, hpn⟩ : ∃ x, powL a n = x := ⟨_, rfl⟩
  obtain ⟨en, hen⟩ : ∃ x, powL 2 n = x := ⟨_, rfl⟩
  have P1 : Hid (∀ (P : Option Addr) (w : World), Calls Try.prog 18 #[.pointer P, .int .u8 (a.toNat : Int), .int .i64 n] w fun e w' => e = .returned (.int .u8 (pn.toNat : Int)) ∧ Below w.heap.size w w') := Lib.hid (fun P w => by have h := C.power P a n hn w; rw [hpn] at h; exact h)
  have E1 : Hid (∀ (P : Option Addr) (w : World), Calls Try.prog 20 #[.pointer P, .int .i64 n] w fun e w' => e = .returned (.int .u8 (en.toNat : Int)) ∧ Below w.heap.size w w') := Lib.hid (fun P w => by have h := C.exp P n hn w; rw [hen] at h; exact h)
  have R1 : Hid (∀ (w : World), Calls Try.prog 19 #[.int .u8 (a.toNat : Int), .int .i64 n] w fun e w' => e = .returned (.int .u8 (pn.toNat : Int)) ∧ Below w.heap.size w w') := Lib.hid (fun w => by have h := rpower_says a n w; rw [hpn] at h; exact h.mono fun _ _ hh => ⟨hh.1, Below.of_eq hh.2⟩)
  have R2 : Hid (∀ (w : World), Calls Try.prog 19 #[.int .u8 2, .int .i64 n] w fun e w' => e = .returned (.int .u8 (en.toNat : Int)) ∧ Below w.heap.size w w') := Lib.hid (fun w => by have h := rpower_says 2 n w; rw [hen] at h; exact h.mono fun _ _ hh => ⟨hh.1, Below.of_eq hh.2⟩)
  clear hpn hen
  -- what is left of the list
  have key : ∀ (m : Nat) (p : List UInt8), m ≤ 200 → Lies w (fun _ => True) A m c (bc p) → ∃ v : UInt8, Hid (∀ (P : Option Addr) (w' : World), Below w.heap.size w w' → Calls Try.prog 21 #[.pointer P, .slice A m c, .int .u8 (a.toNat : Int)] w' fun e w'' => e = .returned (.int .u8 (v.toNat : Int)) ∧ Below w'.heap.size w' w'') ∧ Hid (∀ (w' : World), Below w.heap.size w w' → Calls Try.prog 22 #[.slice A m c, .int .u8 (a.toNat : Int)] w' fun e w'' => e = .returned (.int .u8 (v.toNat : Int)) ∧ Below w'.heap.size w' w'') := fun m p hm hp =>
    ⟨Gf.ev p a, Lib.hid (fun P w' hb => C.eval P A m c p a w' (hp.below hb) (by omega)), Lib.hid (fun w' hb => reval_says A m c p a w' (hp.below hb) (by omega))⟩
  have HC := Lib.hid C
  have HB := Lib.hid (Below.refl w.heap.size w)
  by_cases h200 : 200 < m
  · have h200' : (200 : Int) < (m : Int) := by omega
    obtain ⟨v, V1, V2⟩ := key 200 (p.take 200) (by omega) (by rw [← bc_take]; exact hp.first (by omega))
    have hsl := fun wq => sliceAt_to (P := Try.prog) Try.underlying29 Try.info1 .i64 A m c 200 (by have := hp.le; omega) wq
    have hle := hp.le
    clear hp key
    go_enter Try.func4, Try.ntmps4
    go_wp2_with (first
      | (refine wpList_slice_to rfl _ _ rfl (.slice A 200 c) (by exact hsl _) ?_)
      | (go_at_call 8; refine (HC.out.new _).mono ?_; rintro e wn ⟨P, rfl, hbn⟩; replace HB := Lib.hid (HB.out.trans (hbn.mono HB.out.size)); clear hbn)
      | (go_at_call 18; with_reducible refine (P1.out _ _).mono ?_; rintro e wn ⟨rfl, hbn⟩; replace HB := Lib.hid (HB.out.trans (hbn.mono HB.out.size)); clear hbn)
      | (go_at_call 20; with_reducible refine (E1.out _ _).mono ?_; rintro e wn ⟨rfl, hbn⟩; replace HB := Lib.hid (HB.out.trans (hbn.mono HB.out.size)); clear hbn)
      | (go_at_call 19; with_reducible refine (R1.out _).mono ?_; rintro e wn ⟨rfl, hbn⟩; replace HB := Lib.hid (HB.out.trans (hbn.mono HB.out.size)); clear hbn)
      | (go_at_call 19; with_reducible refine (R2.out _).mono ?_; rintro e wn ⟨rfl, hbn⟩; replace HB := Lib.hid (HB.out.trans (hbn.mono HB.out.size)); clear hbn)
      | (go_at_call 21; with_reducible refine (V1.out _ _ HB.out).mono ?_; rintro e wn ⟨rfl, hbn⟩; replace HB := Lib.hid (HB.out.trans (hbn.mono HB.out.size)); clear hbn)
      | (go_at_call 22; with_reducible refine (V2.out _ HB.out).mono ?_; rintro e wn ⟨rfl, hbn⟩; replace HB := Lib.hid (HB.out.trans (hbn.mono HB.out.size)); clear hbn)
      | (go_at_call 17; with_reducible refine (gone_says HC.out _).mono ?_; rintro e wn ⟨rfl, hbn⟩; replace HB := Lib.hid (HB.out.trans (hbn.mono HB.out.size)); clear hbn))
    go_ret
    exact ⟨rfl, HB.out⟩
  · have h200' : ¬ (200 : Int) < (m : Int) := by omega
    obtain ⟨v, V1, V2⟩ := key m p (by omega) hp
    clear hp key
    go_enter Try.func4, Try.ntmps4
    go_wp2_with (first
      | (go_at_call 8; refine (HC.out.new _).mono ?_; rintro e wn ⟨P, rfl, hbn⟩; replace HB := Lib.hid (HB.out.trans (hbn.mono HB.out.size)); clear hbn)
      | (go_at_call 18; with_reducible refine (P1.out _ _).mono ?_; rintro e wn ⟨rfl, hbn⟩; replace HB := Lib.hid (HB.out.trans (hbn.mono HB.out.size)); clear hbn)
      | (go_at_call 20; with_reducible refine (E1.out _ _).mono ?_; rintro e wn ⟨rfl, hbn⟩; replace HB := Lib.hid (HB.out.trans (hbn.mono HB.out.size)); clear hbn)
      | (go_at_call 19; with_reducible refine (R1.out _).mono ?_; rintro e wn ⟨rfl, hbn⟩; replace HB := Lib.hid (HB.out.trans (hbn.mono HB.out.size)); clear hbn)
      | (go_at_call 19; with_reducible refine (R2.out _).mono ?_; rintro e wn ⟨rfl, hbn⟩; replace HB := Lib.hid (HB.out.trans (hbn.mono HB.out.size)); clear hbn)
      | (go_at_call 21; with_reducible refine (V1.out _ _ HB.out).mono ?_; rintro e wn ⟨rfl, hbn⟩; replace HB := Lib.hid (HB.out.trans (hbn.mono HB.out.size)); clear hbn)
      | (go_at_call 22; with_reducible refine (V2.out _ HB.out).mono ?_; rintro e wn ⟨rfl, hbn⟩; replace HB := Lib.hid (HB.out.trans (hbn.mono HB.out.size)); clear hbn)
      | (go_at_call 17; with_reducible refine (gone_says HC.out _).mono ?_; rintro e wn ⟨rfl, hbn⟩; replace HB := Lib.hid (HB.out.trans (hbn.mono HB.out.size)); clear hbn))
    go_ret
    exact ⟨rfl, HB.out⟩
end Go.Proofs.Ytnkcpchdjgedoaa
