/-
  The reference's Bytes.
-/
import Derived.Test.YthpfdenpgegheaaTornP
namespace Go.Proofs.Ythpfdenpgegheaa
open Go.RowKit

theorem beN_take (v : Nat) : ∀ j, j < 8 → (beN 8 v).take (j + 1) = (beN 8 v).take j ++ [UInt8.ofNat (v / 256 ^ (7 - j) % 256)]
  | 0, _ => by rw [beN_cons]; rfl
  | 1, _ => by rw [beN_cons, beN_cons]; rfl
  | 2, _ => by rw [beN_cons, beN_cons, beN_cons]; rfl
  | 3, _ => by rw [beN_cons, beN_cons, beN_cons, beN_cons]; rfl
  | 4, _ => by rw [beN_cons, beN_cons, beN_cons, beN_cons, beN_cons]; rfl
  | 5, _ => by rw [beN_cons, beN_cons, beN_cons, beN_cons, beN_cons, beN_cons]; rfl
  | 6, _ => by rw [beN_cons, beN_cons, beN_cons, beN_cons, beN_cons, beN_cons, beN_cons]; rfl
  | 7, _ => by rw [beN_cons, beN_cons, beN_cons, beN_cons, beN_cons, beN_cons, beN_cons, beN_cons]; rfl
theorem byte_at (v t : Nat) : (v : Int) / 2 ^ (8 * t) % 256 = ((UInt8.ofNat (v / 256 ^ t % 256)).toNat : Int) := by
  have h : (256 : Nat) ^ t = 2 ^ (8 * t) := by rw [Nat.pow_mul]
  have h2 : (2 : Int) ^ (8 * t) = ((2 ^ (8 * t) : Nat) : Int) := by norm_cast
  rw [h, UInt8.toNat_ofNat', h2]
  generalize 2 ^ (8 * t) = d
  omega
theorem refInfo : (Try.prog.info? 29).map (·.size) = some 3 := by kernel_rfl
/-- The numbers that Bytes lays, one behind the other. -/
def nums (m : Mk) (k : Nat) : List UInt8 := if k = 0 then [m.kind] else if k = 1 then m.kind :: beN 8 m.epoch else m.bytes
set_option maxRecDepth 100000 in
set_option maxHeartbeats 4000000 in
theorem rbytes_says (w : World) (m : Mk) : Calls Try.prog 50 #[.agg (mv m)] w fun e w' => e = .returned (.string ⟨m.bytes.toArray⟩) ∧ Below w.heap.size w w' := by
  obtain ⟨w1, hw1⟩ : ∃ w1, w.alloc (.cells #[.int .u8 (m.kind.toNat : Int), .int .u64 (m.epoch : Int), .int .u64 (m.seq : Int)] 29) = w1 := ⟨_, rfl⟩
  have hb1 : Below w.heap.size w w1 := by rw [← hw1]; exact (Below.refl _ w).alloc (Nat.le_refl _) _
  have hm1 : Box w1 w.heap.size 29 (mv m) := by rw [← hw1]; exact Box.made w _ _
  have c0 : w1.cell? ⟨w.heap.size, 0, none⟩ = some (.int .u8 (m.kind.toNat : Int)) := (Box.cell hm1 0).trans rfl
  have hcb := conv_byte w1 (m.kind.toNat : Int) m.kind rfl
  have H1 := Lib.hid (And.intro hb1 hm1)
  clear hb1 hm1
  go_enter Try.func50, Try.ntmps50
  simp only [mv]
  go_wp2_with fail
  have hb2 : Below w1.heap.size w1 (w1.alloc (.cells #[.int .u8 (m.kind.toNat : Int)] 5)) := (Below.refl _ w1).alloc (Nat.le_refl _) _
  have H2 := Lib.hid (And.intro (H1.out.1.trans (hb2.mono H1.out.1.size)) (Box.below H1.out.2 hb2 H1.out.2.lt))
  clear hb2 H1 hcb c0
  go_loopw [3, 4, 5, 6] (fun s k _ _ wr => ∃ q : Nat, k = .int .i64 (q : Int) ∧ q ≤ 2 ∧ s = .string ⟨(nums m q).toArray⟩ ∧ Hid (Below w.heap.size w wr ∧ Box wr w.heap.size 29 (mv m))) (fun _ k _ _ _ => 2 - (intOf k).toNat)
  case atStart => exact ⟨0, rfl, by omega, rfl, H2⟩
  case round =>
    clear H2 hw1
    obtain ⟨q, rfl, hq, rfl, H⟩ := hrel
    by_cases hlt : q < 2
    · have l1 : (q : Int) < 2 := by omega
      obtain ⟨v, hv⟩ : ∃ v : Nat, v = (if q = 0 then m.epoch else m.seq) := ⟨_, rfl⟩
      have hv2 : v < 18446744073709551616 := by rw [hv]; split; exact m.he; exact m.hs
      have hnx : nums m (q + 1) = nums m q ++ beN 8 v := by
        rw [hv]
        rcases Nat.lt_or_ge q 1 with h | h
        · obtain rfl : q = 0 := by omega
          rfl
        · obtain rfl : q = 1 := by omega
          rfl
      have c1 : wr.cell? ⟨w.heap.size, 1, none⟩ = some (.int .u64 (m.epoch : Int)) := (Box.cell H.out.2 1).trans rfl
      have c2 : wr.cell? ⟨w.heap.size, 2, none⟩ = some (.int .u64 (m.seq : Int)) := (Box.cell H.out.2 2).trans rfl
      obtain ⟨S0, hS0⟩ : ∃ y, nums m q = y := ⟨_, rfl⟩
      have hsl : S0.length ≤ 9 := by rw [← hS0]; unfold nums; split; simp; split; simp [beN_length]; omega
      have HNX := Lib.hid hnx
      have HS0 := Lib.hid hS0
      have HV := Lib.hid hv
      have HV2 := Lib.hid hv2
      rw [hS0]
      clear hnx hv2 hS0
      rcases Nat.lt_or_ge q 1 with hq0 | hq1
      · obtain rfl : q = 0 := by omega
        have hv' : m.epoch = v := by rw [hv]; rfl
        clear hv
        rw [hv'] at c1
        clear hv' HV
        have g2 : ((0 : Int) == 1) = false := by simp
        go_wp2_with fail
        go_loopw [3, 6] (fun s i wr' => ∃ j : Nat, i = .int .i64 (7 - (j : Int)) ∧ j ≤ 8 ∧ s = .string ⟨(S0 ++ (beN 8 v).take j).toArray⟩ ∧ Hid (Below wr.heap.size wr wr')) (fun _ i _ => (intOf i + 1).toNat)
        case atStart => exact ⟨0, rfl, by omega, by simp, Lib.hid (Below.refl _ _)⟩
        case round =>
          obtain ⟨j, rfl, hj, rfl, HB⟩ := hrel
          by_cases hj8 : j < 8
          · obtain ⟨t, ht⟩ : ∃ t : Nat, 7 - (j : Int) = (t : Int) := ⟨7 - j, by omega⟩
            rw [ht]
            have ht7 : t ≤ 7 := by omega
            have HTJ := Lib.hid (show t = 7 - j by omega)
            clear ht
            have hcb := conv_byte wr ((v : Int) / 2 ^ (8 * t) % 256) (UInt8.ofNat (v / 256 ^ t % 256)) (byte_at v t)
            have hstep := beN_take v j hj8
            rw [← HTJ.out] at hstep
            obtain ⟨PS, hPS⟩ : ∃ y, (⟨(S0 ++ (beN 8 v).take j).toArray⟩ : ByteArray) = y := ⟨_, rfl⟩
            obtain ⟨P1, hP1⟩ : ∃ y, (⟨[UInt8.ofNat (v / 256 ^ t % 256)].toArray⟩ : ByteArray) = y := ⟨_, rfl⟩
            obtain ⟨PN, hPN⟩ : ∃ y, (⟨(S0 ++ (beN 8 v).take (j + 1)).toArray⟩ : ByteArray) = y := ⟨_, rfl⟩
            have hadd : PS ++ P1 = PN := by rw [← hPS, ← hP1, ← hPN, str_append, hstep, List.append_assoc]
            have hsz : ¬ 9223372036854775807 < PS.size + P1.size := by rw [← hPS, ← hP1, str_size, str_size, List.length_append, List.length_take, beN_length]; simp; omega
            rw [hP1] at hcb
            rw [hPS]
            have HPN := Lib.hid hPN
            have HB' := Lib.hid (HB.out.trans (((Below.refl _ wr).alloc (Nat.le_refl _) (.cells #[.int .u8 ((v : Int) / 2 ^ (8 * t) % 256)] 5)).mono HB.out.size))
            clear hPS hP1 hPN hstep HB
            go_wp2
            go_roundw
            case rel => exact ⟨j + 1, by have := HTJ.out; congr 1 <;> omega, by omega, by rw [HPN.out], HB'⟩
            case measure => simp [intOf]
          · obtain rfl : j = 8 := by omega
            have e8 : S0 ++ (beN 8 v).take 8 = nums m (0 + 1) := by rw [HNX.out, HS0.out, List.take_of_length_le (by rw [beN_length]; omega)]
            rw [e8]
            have HX := Lib.hid (And.intro (H.out.1.trans (HB.out.mono H.out.1.size)) (Box.below H.out.2 HB.out H.out.2.lt))
            clear e8
            go_wp2
            go_roundw
            case rel => exact ⟨0 + 1, by go_num, by omega, rfl, HX⟩
            case measure => simp [intOf]
      · obtain rfl : q = 1 := by omega
        have hv' : m.seq = v := by rw [hv]; rfl
        clear hv
        rw [hv'] at c2
        clear hv' HV
        have g2 : ((1 : Int) == 1) = true := by simp
        go_wp2_with fail
        go_loopw [3, 6] (fun s i wr' => ∃ j : Nat, i = .int .i64 (7 - (j : Int)) ∧ j ≤ 8 ∧ s = .string ⟨(S0 ++ (beN 8 v).take j).toArray⟩ ∧ Hid (Below wr.heap.size wr wr')) (fun _ i _ => (intOf i + 1).toNat)
        case atStart => exact ⟨0, rfl, by omega, by simp, Lib.hid (Below.refl _ _)⟩
        case round =>
          obtain ⟨j, rfl, hj, rfl, HB⟩ := hrel
          by_cases hj8 : j < 8
          · obtain ⟨t, ht⟩ : ∃ t : Nat, 7 - (j : Int) = (t : Int) := ⟨7 - j, by omega⟩
            rw [ht]
            have ht7 : t ≤ 7 := by omega
            have HTJ := Lib.hid (show t = 7 - j by omega)
            clear ht
            have hcb := conv_byte wr ((v : Int) / 2 ^ (8 * t) % 256) (UInt8.ofNat (v / 256 ^ t % 256)) (byte_at v t)
            have hstep := beN_take v j hj8
            rw [← HTJ.out] at hstep
            obtain ⟨PS, hPS⟩ : ∃ y, (⟨(S0 ++ (beN 8 v).take j).toArray⟩ : ByteArray) = y := ⟨_, rfl⟩
            obtain ⟨P1, hP1⟩ : ∃ y, (⟨[UInt8.ofNat (v / 256 ^ t % 256)].toArray⟩ : ByteArray) = y := ⟨_, rfl⟩
            obtain ⟨PN, hPN⟩ : ∃ y, (⟨(S0 ++ (beN 8 v).take (j + 1)).toArray⟩ : ByteArray) = y := ⟨_, rfl⟩
            have hadd : PS ++ P1 = PN := by rw [← hPS, ← hP1, ← hPN, str_append, hstep, List.append_assoc]
            have hsz : ¬ 9223372036854775807 < PS.size + P1.size := by rw [← hPS, ← hP1, str_size, str_size, List.length_append, List.length_take, beN_length]; simp; omega
            rw [hP1] at hcb
            rw [hPS]
            have HPN := Lib.hid hPN
            have HB' := Lib.hid (HB.out.trans (((Below.refl _ wr).alloc (Nat.le_refl _) (.cells #[.int .u8 ((v : Int) / 2 ^ (8 * t) % 256)] 5)).mono HB.out.size))
            clear hPS hP1 hPN hstep HB
            go_wp2
            go_roundw
            case rel => exact ⟨j + 1, by have := HTJ.out; congr 1 <;> omega, by omega, by rw [HPN.out], HB'⟩
            case measure => simp [intOf]
          · obtain rfl : j = 8 := by omega
            have e8 : S0 ++ (beN 8 v).take 8 = nums m (1 + 1) := by rw [HNX.out, HS0.out, List.take_of_length_le (by rw [beN_length]; omega)]
            rw [e8]
            have HX := Lib.hid (And.intro (H.out.1.trans (HB.out.mono H.out.1.size)) (Box.below H.out.2 HB.out H.out.2.lt))
            clear e8
            go_wp2
            go_roundw
            case rel => exact ⟨1 + 1, by go_num, by omega, rfl, HX⟩
            case measure => simp [intOf]
    · obtain rfl : q = 2 := by omega
      go_wp2
      go_ret
      exact ⟨rfl, H.out.1⟩
end Go.Proofs.Ythpfdenpgegheaa
