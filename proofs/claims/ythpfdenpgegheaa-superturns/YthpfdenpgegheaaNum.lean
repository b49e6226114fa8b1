/-
  mark's numbers: putNumber, number, empty.
-/
import Derived.Test.YthpfdenpgegheaaPure
import Derived.Test.YthpfdenpgegheaaFill
import Derived.Test.YthpfdenpgegheaaStr
import Derived.Test.YthpfdenpgegheaaCopyB
import Derived.Test.YthpfdenpgegheaaGrows
namespace Go.Proofs.Ythpfdenpgegheaa
open Go.RowKit

theorem beN_cons : ∀ t n, beN (t + 1) n = UInt8.ofNat (n / 256 ^ t % 256) :: beN t n
  | 0, n => by simp [beN]
  | t + 1, n => by
    rw [beN, beN_cons t (n / 256), List.cons_append, ← show beN (t + 1) n = beN t (n / 256) ++ [UInt8.ofNat (n % 256)] from rfl, Nat.div_div_eq_div_mul, Nat.pow_succ, Nat.mul_comm 256]
theorem or_step (a : Nat) (b : UInt8) (h : a * 256 + b.toNat < 18446744073709551616) :
    bits .or .u64 (IntKind.u64.wrap ((a : Int) * 256)) (IntKind.u64.wrap (b.toNat : Int)) = ((a * 256 + b.toNat : Nat) : Int) := by
  have hb := b.toNat_lt
  have q1 : a * 256 < 18446744073709551616 := Nat.lt_of_le_of_lt (Nat.le_add_right _ _) h
  have q2 : b.toNat < 18446744073709551616 := Nat.lt_of_le_of_lt (Nat.le_add_left _ _) h
  have e4 : a * 256 ||| b.toNat = a * 256 + b.toNat := nat_join 8 (a * 256) b.toNat (by omega) (by omega)
  have e1 : IntKind.u64.wrap ((a : Int) * 256) = ((a * 256 : Nat) : Int) := by clear e4; rw [IntKind.wrap_u64]; omega
  have e2 : IntKind.u64.wrap (b.toNat : Int) = (b.toNat : Int) := by clear e1 e4; rw [IntKind.wrap_u64]; omega
  have e3 : bits .or .u64 ((a * 256 : Nat) : Int) ((b.toNat : Nat) : Int) = ((a * 256 ||| b.toNat : Nat) : Int) := u64_or_nat (a * 256) b.toNat q1 q2
  rw [e1, e2, e3, e4]
/-- Behind t rounds. -/
def putTo (l : List UInt8) (o k n t : Nat) : List UInt8 := laid l (o + k - t) (beN t n)
theorem putTo_zero (l : List UInt8) (o k n : Nat) : putTo l o k n 0 = l := by simp [putTo, laid, beN]
theorem putTo_all (l : List UInt8) (o k n : Nat) : putTo l o k n k = laid l o (beN k n) := by rw [putTo, show o + k - k = o by omega]
theorem putTo_set (l : List UInt8) (o k n t : Nat) (ht : t < k) (hl : o + k ≤ l.length) : (putTo l o k n t).set (o + k - t - 1) (UInt8.ofNat (n / 256 ^ t % 256)) = putTo l o k n (t + 1) := by
  rw [putTo, putTo, laid, laid, beN_length, beN_length, beN_cons]
  obtain ⟨p, hp⟩ : ∃ p, o + k - t - 1 = p := ⟨_, rfl⟩
  rw [show o + k - t = p + 1 by omega, show o + k - (t + 1) = p by omega, show p + 1 + t = p + (t + 1) by omega, Nat.add_sub_cancel]
  have hpl : p < l.length := by omega
  rw [List.take_succ_eq_append_getElem hpl, List.append_assoc, List.append_assoc, List.set_append_right _ _ (by rw [List.length_take]; omega), List.length_take, Nat.min_eq_left (by omega), Nat.sub_self]
  simp
theorem byte_wrap8 (n : Nat) : IntKind.u8.wrap (n : Int) = (((UInt8.ofNat (n % 256)).toNat : Nat) : Int) := by
  rw [IntKind.wrap_u8, UInt8.toNat_ofNat']
  omega
set_option maxRecDepth 100000 in
set_option maxHeartbeats 4000000 in
theorem putNumber_says (w : World) (g o k c : Nat) (l : List UInt8) (hb : Box w g 5 (bc l).toArray) (hl : o + k ≤ l.length) (hl2 : l.length ≤ 1000) (n : Nat) :
    Calls Try.prog 32 #[.slice (some ⟨g, o, none⟩) k c, .int .u64 (n : Int)] w fun e w' => e = .returned (.tuple #[]) ∧ Box w' g 5 (bc (laid l o (beN k n))).toArray ∧ w.grownBy w' (some g) := by
  have HB := Lib.hid hb
  clear hb
  have ew : IntKind.i64.wrap ((k : Int) - 1) = (k : Int) - 1 := IntWalk.i64_in _ (by omega)
  go_enter Try.func32, Try.ntmps32
  go_wp2_with fail
  go_loopw [1, 4] (fun v i wr => ∃ t : Nat, t ≤ k ∧ v = .int .u64 ((n / 256 ^ t : Nat) : Int) ∧ i = .int .i64 ((k : Int) - 1 - t) ∧ Hid (Box wr g 5 (bc (putTo l o k n t)).toArray ∧ w.grownBy wr (some g))) (fun _ i _ => (intOf i + 1).toNat)
  case atStart => exact ⟨0, by omega, by simp, by simp, Lib.hid ⟨by rw [putTo_zero]; exact HB.out, grown_refl _ _⟩⟩
  case round =>
    obtain ⟨t, ht, rfl, rfl, H⟩ := hrel
    by_cases hk : t < k
    · have g1 : (0 : Int) ≤ (k : Int) - 1 - t := by omega
      have hpl : (putTo l o k n t).length = l.length := laid_length (by rw [beN_length]; omega)
      have c1 : ∃ u, wr.cell? ⟨g, o + (k - 1 - t), none⟩ = some u := by
        rw [Box.cell H.out.1]
        exact ⟨_, Array.getElem?_eq_getElem (by simp [bc_length, hpl]; omega)⟩
      obtain ⟨u, c1⟩ := c1
      have f1 := Box.frozen H.out.1 (o + (k - 1 - t))
      obtain ⟨v, hv⟩ : ∃ v, n / 256 ^ t = v := ⟨_, rfl⟩
      have hv8 : IntKind.u8.wrap (v : Int) = (((UInt8.ofNat (v % 256)).toNat : Nat) : Int) := byte_wrap8 v
      obtain ⟨wn, hwn⟩ : ∃ wn, wr.setCell ⟨g, o + (k - 1 - t), none⟩ (.int .u8 (((UInt8.ofNat (v % 256)).toNat : Nat) : Int)) = wn := ⟨_, rfl⟩
      have hb5 := box_set H.out.1 (o + (k - 1 - t)) (UInt8.ofNat (v % 256))
      rw [show o + (k - 1 - t) = o + k - t - 1 by omega, ← hv, putTo_set l o k n t hk hl] at hb5
      rw [hv, ← show o + (k - 1 - t) = o + k - t - 1 by omega, hwn] at hb5
      have hg5 := grown_set H.out.2 (o + (k - 1 - t)) (.int .u8 (((UInt8.ofNat (v % 256)).toNat : Nat) : Int))
      rw [hwn] at hg5
      have hv2 : n / 256 ^ (t + 1) = v / 256 := by rw [Nat.pow_succ, ← Nat.div_div_eq_div_mul, hv]
      have H5 := Lib.hid (And.intro hb5 hg5)
      have hvs : (((UInt8.ofNat (v % 256)).toNat : Nat) : Int) = (v : Int) % 256 := by rw [UInt8.toNat_ofNat']; omega
      rw [hvs] at hwn
      rw [hv]
      clear hb5 hg5 H hv8 hvs
      go_wp2
      go_roundw
      case rel => exact ⟨t + 1, by omega, by rw [hv2]; simp, by congr 1; omega, H5⟩
      case measure => simp [intOf]; omega
    · obtain rfl : t = k := by omega
      go_wp2
      go_end0
      exact ⟨rfl, by have := H.out.1; rwa [putTo_all] at this, H.out.2⟩
set_option maxRecDepth 100000 in
set_option maxHeartbeats 4000000 in
theorem number_says (w : World) (N : Nat → Prop) (A : Option Addr) (k c : Nat) (l : List UInt8) (h : Lies w N A k c (bc l)) (hk : k ≤ 8) :
    Calls Try.prog 27 #[.slice A k c] w fun e w' => e = .returned (.int .u64 (beVal l : Int)) ∧ w' = w := by
  have hl : l.length = k := by rw [← bc_length]; exact h.len
  have HL := Lib.hid h
  clear h
  go_enter Try.func27, Try.ntmps27
  go_wp2_with fail
  go_loopw [3, 5, 8] (fun v _ i wr => ∃ t : Nat, t ≤ k ∧ v = .int .u64 (beVal (l.take t) : Int) ∧ i = .int .i64 (t : Int) ∧ wr = w) (fun _ _ i _ => k - (intOf i).toNat)
  case atStart => exact ⟨0, by omega, rfl, rfl, rfl⟩
  case round =>
    obtain ⟨t, ht, rfl, rfl, rfl⟩ := hrel
    by_cases hk : t < k
    · obtain ⟨b, off, rfl, _, hbl, hc⟩ := HL.out.at (j := t) (u := .int .u8 ((l[t]'(by omega)).toNat : Int)) (by simp [bc, show t < l.length by omega])
      generalize hz : l[t]'(by omega) = z at hc
      have e1 : beVal (l.take (t + 1)) = beVal (l.take t) * 256 + z.toNat := by rw [List.take_succ_eq_append_getElem (by omega), hz, beVal_snoc]
      have e2 := or_step (beVal (l.take t)) z (by rw [← e1]; exact beVal_lt8 _ (by rw [List.length_take]; omega))
      rw [← e1] at e2
      go_wp2
      go_roundw
      case rel => exact ⟨t + 1, by omega, by rw [e1]; simp, by go_num, trivial⟩
      case measure => simp [intOf]; omega
    · obtain rfl : t = k := by omega
      have e0 : l.take t = l := List.take_of_length_le (by omega)
      rw [e0]
      go_wp2
      go_ret
      exact ⟨rfl, rfl⟩
set_option maxRecDepth 100000 in
set_option maxHeartbeats 4000000 in
theorem empty_says (w : World) (N : Nat → Prop) (A : Option Addr) (k c : Nat) (l : List UInt8) (h : Lies w N A k c (bc l)) (hk : k ≤ 1000) :
    Calls Try.prog 28 #[.slice A k c] w fun e w' => e = .returned (.bool (l.all (· == 0))) ∧ w' = w := by
  have hl : l.length = k := by rw [← bc_length]; exact h.len
  have HL := Lib.hid h
  clear h
  go_enter Try.func28, Try.ntmps28
  go_wp2_with fail
  go_loopw [4, 7] (fun _ i wr => ∃ t : Nat, t ≤ k ∧ (l.take t).all (· == 0) = true ∧ i = .int .i64 (t : Int) ∧ wr = w) (fun _ i _ => k - (intOf i).toNat)
  case atStart => exact ⟨0, by omega, rfl, rfl, rfl⟩
  case round =>
    obtain ⟨t, ht, hall, rfl, rfl⟩ := hrel
    by_cases hk : t < k
    · obtain ⟨b, off, rfl, _, hbl, hc⟩ := HL.out.at (j := t) (u := .int .u8 ((l[t]'(by omega)).toNat : Int)) (by simp [bc, show t < l.length by omega])
      generalize hz : l[t]'(by omega) = z at hc
      have HA := Lib.hid hall
      clear hall
      by_cases hz0 : z = 0
      · have e1 : (z.toNat : Int) = 0 := by rw [hz0]; rfl
        go_wp2
        go_roundw
        case rel => exact ⟨t + 1, by omega, by rw [List.take_succ_eq_append_getElem (by omega), hz, List.all_append, HA.out, hz0]; rfl, by go_num, trivial⟩
        case measure => simp [intOf]; omega
      · have e1 : ((z.toNat : Int) == 0) = false := by
          have : z.toNat ≠ 0 := fun e => hz0 (UInt8.toNat_inj.1 e)
          simp; omega
        have e2 : l.all (· == 0) = false := by
          rw [Bool.eq_false_iff]
          intro he
          rw [List.all_eq_true] at he
          have := he z (by rw [← hz]; exact List.getElem_mem _)
          exact hz0 (by simpa using this)
        go_wp2
        go_ret
        exact ⟨congrArg (fun b => Ending.returned (Value.bool b)) e2.symm, rfl⟩
    · obtain rfl : t = k := by omega
      have e0 : l.take t = l := List.take_of_length_le (by omega)
      rw [e0] at hall
      have HA := Lib.hid hall
      clear hall
      go_wp2
      go_ret
      exact ⟨congrArg (fun b => Ending.returned (Value.bool b)) HA.out.symm, rfl⟩
end Go.Proofs.Ythpfdenpgegheaa
