/-
  lay's reader: Number, at every state of the reader.
-/
import Derived.Test.YtnhondkdkjehaaaGreatLRead
namespace Go.Proofs.YtnhondkdkjehaaaGreat.Lay
open Go.RowKit

theorem or_step (a : Nat) (b : UInt8) (h : a * 256 + b.toNat < 18446744073709551616) :
    bits .or .u64 (IntKind.u64.wrap ((a : Int) * 256)) (IntKind.u64.wrap (b.toNat : Int)) = ((a * 256 + b.toNat : Nat) : Int) := by
  have hb := b.toNat_lt
  have q1 : a * 256 < 18446744073709551616 := Nat.lt_of_le_of_lt (Nat.le_add_right _ _) h
  have q2 : b.toNat < 18446744073709551616 := Nat.lt_of_le_of_lt (Nat.le_add_left _ _) h
  have e4 : a * 256 ||| b.toNat = a * 256 + b.toNat := nat_join 8 (a * 256) b.toNat (by omega) (by omega)
  have e1 : IntKind.u64.wrap ((a : Int) * 256) = ((a * 256 : Nat) : Int) := by clear e4; rw [IntKind.wrap_u64]; omega
  have e2 : IntKind.u64.wrap (b.toNat : Int) = (b.toNat : Int) := by clear e1 e4; rw [IntKind.wrap_u64]; omega
  have e3 : bits .or .u64 ((a * 256 : Nat) : Int) ((b.toNat : Nat) : Int) = ((a * 256 ||| b.toNat : Nat) : Int) := u64_or_nat (a * 256) b.toNat q1 q2
  rw [e1, e2, e3, e4]

theorem drop1_take (s : ByteArray) (k : Nat) (h : k + 1 < s.size) : (s.data.toList.drop 1).take (k + 1) = (s.data.toList.drop 1).take k ++ [s[k + 1]] := by
  obtain ⟨⟨l⟩⟩ := s
  have hl : k + 1 < l.length := h
  rw [List.take_succ_eq_append_getElem (by simp only [List.length_drop]; omega)]
  congr 2
  simp only [List.getElem_drop]
  show l[1 + k] = l[k + 1]
  congr 1
  omega

theorem value_step (s : ByteArray) (k : Nat) (hk : k < 8) (h : k + 1 < s.size) :
    bits .or .u64 (IntKind.u64.wrap (((beVal ((s.data.toList.drop 1).take k) : Nat) : Int) * 256)) (IntKind.u64.wrap ((s[k + 1]).toNat : Int)) = ((beVal ((s.data.toList.drop 1).take (k + 1)) : Nat) : Int) := by
  have hv := beVal_lt ((s.data.toList.drop 1).take k)
  have hl : ((s.data.toList.drop 1).take k).length ≤ 7 := by
    have := List.length_take_le k (s.data.toList.drop 1)
    omega
  have hp : 256 ^ ((s.data.toList.drop 1).take k).length ≤ 256 ^ 7 := Nat.pow_le_pow_right (by omega) hl
  have hb := (s[k + 1]).toNat_lt
  rw [or_step _ _ (by omega), drop1_take s k h, beVal_snoc]

theorem number_bad (b : Nat) (e : Int) (w : World) (h0 : w.cell? ⟨b, 0, none⟩ = some (.bool true)) (h2 : w.cell? ⟨b, 2, none⟩ = some (.int .i64 e)) (he : (e != 0) = true) :
    Calls Tryz.prog 116 #[.pointer (some ⟨b, 0, none⟩)] w fun r w' => r = .returned (.int .u64 0) ∧ w = w' := by
  go_enter Tryz.func116, Tryz.ntmps116
  go_wp2_with fail
  refine (bad_made b e w h0 h2).mono ?_
  rintro r w' ⟨rfl, rfl⟩
  go_wp2_with fail
  go_ret
  exact ⟨rfl, rfl⟩

theorem number_err (b : Nat) (s : ByteArray) (w : World) (hs : s.size ≤ maxLen) (h0 : w.cell? ⟨b, 0, none⟩ = some (.bool true)) (h1 : w.cell? ⟨b, 1, none⟩ = some (.string s)) (h2 : w.cell? ⟨b, 2, none⟩ = some (.int .i64 0))
    (f1 : w.frozen? ⟨b, 1, none⟩ = false) (f2 : w.frozen? ⟨b, 2, none⟩ = false) (he : (numErr s.data.toList != 0) = true) :
    Calls Tryz.prog 116 #[.pointer (some ⟨b, 0, none⟩)] w fun r w' => r = .returned (.int .u64 0) ∧ failed w b (numErr s.data.toList) = w' := by
  go_enter Tryz.func116, Tryz.ntmps116
  go_wp2_with fail
  refine (bad_made b 0 w h0 h2).mono ?_
  rintro r w' ⟨rfl, rfl⟩
  go_wp2_with fail
  refine (width_any s w hs).mono ?_
  rintro r w' ⟨rfl, rfl⟩
  go_wp2_with fail
  refine (fail_any b _ w h1 h2 f1 f2).mono ?_
  rintro r w' ⟨rfl, rfl⟩
  go_wp2_with fail
  go_ret
  exact ⟨rfl, rfl⟩

theorem number_ok (b : Nat) (s : ByteArray) (w : World) (hs : s.size ≤ maxLen) (h0 : w.cell? ⟨b, 0, none⟩ = some (.bool true)) (h1 : w.cell? ⟨b, 1, none⟩ = some (.string s)) (h2 : w.cell? ⟨b, 2, none⟩ = some (.int .i64 0))
    (f1 : w.frozen? ⟨b, 1, none⟩ = false) (m : Nat) (hm8 : m ≤ 8) (hms : m < s.size) (hm : numMany s.data.toList = m) (he : numErr s.data.toList = 0) :
    Calls Tryz.prog 116 #[.pointer (some ⟨b, 0, none⟩)] w fun r w' => r = .returned (.int .u64 (beVal ((s.data.toList.drop 1).take m))) ∧ w.setCell ⟨b, 1, none⟩ (.string (s.extract (1 + m) s.size)) = w' := by
  unfold maxLen at hs
  have hw := width_any s w hs
  rw [hm, he] at hw
  have HW := Lib.hid hw
  clear hw hm he
  go_enter Tryz.func116, Tryz.ntmps116
  go_wp2_with fail
  refine (bad_made b 0 w h0 h2).mono ?_
  rintro r w' ⟨rfl, rfl⟩
  go_wp2_with fail
  refine HW.out.mono ?_
  rintro r w' ⟨rfl, rfl⟩
  clear HW
  go_wp2_with fail
  go_loop [5, 6] (fun v i => ∃ k : Nat, k ≤ m ∧ i = .int .i64 ((k : Int) + 1) ∧ v = .int .u64 (beVal ((s.data.toList.drop 1).take k))) (fun _ i => (m + 1) - (intOf i).toNat)
  case atStart => exact ⟨0, Nat.zero_le _, rfl, rfl⟩
  case round =>
    obtain ⟨k, hk, rfl, rfl⟩ := hrel
    by_cases hlt : k < m
    · have hv := value_step s k (by omega) (by omega)
      rw [List.drop_one] at hv
      have HV := Lib.hid hv
      clear hv
      go_wp2
      go_round
      case rel =>
        refine ⟨k + 1, by omega, by go_num, ?_⟩
        rw [List.drop_one, HV.out]
      case measure => simp [intOf]; omega
    · obtain rfl : k = m := by omega
      go_wp2
      go_ret
      exact ⟨rfl, rfl⟩
end Go.Proofs.YtnhondkdkjehaaaGreat.Lay
