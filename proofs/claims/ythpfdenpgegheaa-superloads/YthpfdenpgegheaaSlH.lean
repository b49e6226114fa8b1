/-
  The reference's Bytes.
  The reference's Seal.
  Slices of bytes as texts.
  The reference's PutNumber and PutText: a number, and a text, laid behind a text.
  The reference's heads: Right, Put; the laws' own.
  The reference's heads: Right.
-/
import Derived.Test.YthpfdenpgegheaaSlG
import Derived.Test.YthpfdenpgegheaaSlB
import Derived.Deep.DeepCutAuto
import Derived.Test.YthpfdenpgegheaaSlD
import Derived.Test.YthpfdenpgegheaaSlF
import Derived.Test.YthpfdenpgegheaaSSm
namespace Go.Proofs.Ythpfdenpgegheaa
open Go.RowKit

theorem beN_take (v : Nat) : ∀ j, j < 8 → (beN 8 v).take (j + 1) = (beN 8 v).take j ++ [UInt8.ofNat (v / 256 ^ (7 - j) % 256)]
  | 0, _ => by rw [beN_cons]; rfl
  | 1, _ => by rw [beN_cons, beN_cons]; rfl
  | 2, _ => by rw [beN_cons, beN_cons, beN_cons]; rfl
  | 3, _ => by rw [beN_cons, beN_cons, beN_cons, beN_cons]; rfl
  | 4, _ => by rw [beN_cons, beN_cons, beN_cons, beN_cons, beN_cons]; rfl
  | 5, _ => by rw [beN_cons, beN_cons, beN_cons, beN_cons, beN_cons, beN_cons]; rfl
  | 6, _ => by rw [beN_cons, beN_cons, beN_cons, beN_cons, beN_cons, beN_cons, beN_cons]; rfl
  | 7, _ => by rw [beN_cons, beN_cons, beN_cons, beN_cons, beN_cons, beN_cons, beN_cons, beN_cons]; rfl
theorem byte_at (v t : Nat) : (v : Int) / 2 ^ (8 * t) % 256 = ((UInt8.ofNat (v / 256 ^ t % 256)).toNat : Int) := by
  have h : (256 : Nat) ^ t = 2 ^ (8 * t) := by rw [Nat.pow_mul]
  have h2 : (2 : Int) ^ (8 * t) = ((2 ^ (8 * t) : Nat) : Int) := by norm_cast
  rw [h, UInt8.toNat_ofNat', h2]
  generalize 2 ^ (8 * t) = d
  omega
theorem refInfo : (Try.prog.info? 29).map (·.size) = some 3 := by kernel_rfl
/-- The numbers that Bytes lays, one behind the other. -/
def nums (m : Mk) (k : Nat) : List UInt8 := if k = 0 then [m.kind] else if k = 1 then m.kind :: beN 8 m.epoch else m.bytes
set_option maxRecDepth 100000 in
set_option maxHeartbeats 4000000 in
theorem rbytes_says (w : World) (m : Mk) : Calls Try.prog 50 #[.agg (mv m)] w fun e w' => e = .returned (.string ⟨m.bytes.toArray⟩) ∧ Below w.heap.size w w' := by
  obtain ⟨w1, hw1⟩ : ∃ w1, w.alloc (.cells #[.int .u8 (m.kind.toNat : Int), .int .u64 (m.epoch : Int), .int .u64 (m.seq : Int)] 29) = w1 := ⟨_, rfl⟩
  have hb1 : Below w.heap.size w w1 := by rw [← hw1]; exact (Below.refl _ w).alloc (Nat.le_refl _) _
  have hm1 : Box w1 w.heap.size 29 (mv m) := by rw [← hw1]; exact Box.made w _ _
  have c0 : w1.cell? ⟨w.heap.size, 0, none⟩ = some (.int .u8 (m.kind.toNat : Int)) := (Box.cell hm1 0).trans rfl
  have hcb := conv_byte w1 (m.kind.toNat : Int) m.kind rfl
  have H1 := Lib.hid (And.intro hb1 hm1)
  clear hb1 hm1
  go_enter Try.func50, Try.ntmps50
  simp only [mv]
  go_wp2_with fail
  have hb2 : Below w1.heap.size w1 (w1.alloc (.cells #[.int .u8 (m.kind.toNat : Int)] 5)) := (Below.refl _ w1).alloc (Nat.le_refl _) _
  have H2 := Lib.hid (And.intro (H1.out.1.trans (hb2.mono H1.out.1.size)) (Box.below H1.out.2 hb2 H1.out.2.lt))
  clear hb2 H1 hcb c0
  go_loopw [3, 4, 5, 6] (fun s k _ _ wr => ∃ q : Nat, k = .int .i64 (q : Int) ∧ q ≤ 2 ∧ s = .string ⟨(nums m q).toArray⟩ ∧ Hid (Below w.heap.size w wr ∧ Box wr w.heap.size 29 (mv m))) (fun _ k _ _ _ => 2 - (intOf k).toNat)
  case atStart => exact ⟨0, rfl, by omega, rfl, H2⟩
  case round =>
    clear H2 hw1
    obtain ⟨q, rfl, hq, rfl, H⟩ := hrel
    by_cases hlt : q < 2
    · have l1 : (q : Int) < 2 := by omega
      obtain ⟨v, hv⟩ : ∃ v : Nat, v = (if q = 0 then m.epoch else m.seq) := ⟨_, rfl⟩
      have hv2 : v < 18446744073709551616 := by rw [hv]; split; exact m.he; exact m.hs
      have hnx : nums m (q + 1) = nums m q ++ beN 8 v := by
        rw [hv]
        rcases Nat.lt_or_ge q 1 with h | h
        · obtain rfl : q = 0 := by omega
          rfl
        · obtain rfl : q = 1 := by omega
          rfl
      have c1 : wr.cell? ⟨w.heap.size, 1, none⟩ = some (.int .u64 (m.epoch : Int)) := (Box.cell H.out.2 1).trans rfl
      have c2 : wr.cell? ⟨w.heap.size, 2, none⟩ = some (.int .u64 (m.seq : Int)) := (Box.cell H.out.2 2).trans rfl
      obtain ⟨S0, hS0⟩ : ∃ y, nums m q = y := ⟨_, rfl⟩
      have hsl : S0.length ≤ 9 := by rw [← hS0]; unfold nums; split; simp; split; simp [beN_length]; omega
      have HNX := Lib.hid hnx
      have HS0 := Lib.hid hS0
      have HV := Lib.hid hv
      have HV2 := Lib.hid hv2
      rw [hS0]
      clear hnx hv2 hS0
      rcases Nat.lt_or_ge q 1 with hq0 | hq1
      · obtain rfl : q = 0 := by omega
        have hv' : m.epoch = v := by rw [hv]; rfl
        clear hv
        rw [hv'] at c1
        clear hv' HV
        have g2 : ((0 : Int) == 1) = false := by simp
        go_wp2_with fail
        go_loopw [3, 6] (fun s i wr' => ∃ j : Nat, i = .int .i64 (7 - (j : Int)) ∧ j ≤ 8 ∧ s = .string ⟨(S0 ++ (beN 8 v).take j).toArray⟩ ∧ Hid (Below wr.heap.size wr wr')) (fun _ i _ => (intOf i + 1).toNat)
        case atStart => exact ⟨0, rfl, by omega, by simp, Lib.hid (Below.refl _ _)⟩
        case round =>
          obtain ⟨j, rfl, hj, rfl, HB⟩ := hrel
          by_cases hj8 : j < 8
          · obtain ⟨t, ht⟩ : ∃ t : Nat, 7 - (j : Int) = (t : Int) := ⟨7 - j, by omega⟩
            rw [ht]
            have ht7 : t ≤ 7 := by omega
            have HTJ := Lib.hid (show t = 7 - j by omega)
            clear ht
            have hcb := conv_byte wr ((v : Int) / 2 ^ (8 * t) % 256) (UInt8.ofNat (v / 256 ^ t % 256)) (byte_at v t)
            have hstep := beN_take v j hj8
            rw [← HTJ.out] at hstep
            obtain ⟨PS, hPS⟩ : ∃ y, (⟨(S0 ++ (beN 8 v).take j).toArray⟩ : ByteArray) = y := ⟨_, rfl⟩
            obtain ⟨P1, hP1⟩ : ∃ y, (⟨[UInt8.ofNat (v / 256 ^ t % 256)].toArray⟩ : ByteArray) = y := ⟨_, rfl⟩
            obtain ⟨PN, hPN⟩ : ∃ y, (⟨(S0 ++ (beN 8 v).take (j + 1)).toArray⟩ : ByteArray) = y := ⟨_, rfl⟩
            have hadd : PS ++ P1 = PN := by rw [← hPS, ← hP1, ← hPN, str_append, hstep, List.append_assoc]
            have hsz : ¬ 9223372036854775807 < PS.size + P1.size := by rw [← hPS, ← hP1, str_size, str_size, List.length_append, List.length_take, beN_length]; simp; omega
            rw [hP1] at hcb
            rw [hPS]
            have HPN := Lib.hid hPN
            have HB' := Lib.hid (HB.out.trans (((Below.refl _ wr).alloc (Nat.le_refl _) (.cells #[.int .u8 ((v : Int) / 2 ^ (8 * t) % 256)] 5)).mono HB.out.size))
            clear hPS hP1 hPN hstep HB
            go_wp2
            go_roundw
            case rel => exact ⟨j + 1, by have := HTJ.out; congr 1 <;> omega, by omega, by rw [HPN.out], HB'⟩
            case measure => simp [intOf]
          · obtain rfl : j = 8 := by omega
            have e8 : S0 ++ (beN 8 v).take 8 = nums m (0 + 1) := by rw [HNX.out, HS0.out, List.take_of_length_le (by rw [beN_length]; omega)]
            rw [e8]
            have HX := Lib.hid (And.intro (H.out.1.trans (HB.out.mono H.out.1.size)) (Box.below H.out.2 HB.out H.out.2.lt))
            clear e8
            go_wp2
            go_roundw
            case rel => exact ⟨0 + 1, by go_num, by omega, rfl, HX⟩
            case measure => simp [intOf]
      · obtain rfl : q = 1 := by omega
        have hv' : m.seq = v := by rw [hv]; rfl
        clear hv
        rw [hv'] at c2
        clear hv' HV
        have g2 : ((1 : Int) == 1) = true := by simp
        go_wp2_with fail
        go_loopw [3, 6] (fun s i wr' => ∃ j : Nat, i = .int .i64 (7 - (j : Int)) ∧ j ≤ 8 ∧ s = .string ⟨(S0 ++ (beN 8 v).take j).toArray⟩ ∧ Hid (Below wr.heap.size wr wr')) (fun _ i _ => (intOf i + 1).toNat)
        case atStart => exact ⟨0, rfl, by omega, by simp, Lib.hid (Below.refl _ _)⟩
        case round =>
          obtain ⟨j, rfl, hj, rfl, HB⟩ := hrel
          by_cases hj8 : j < 8
          · obtain ⟨t, ht⟩ : ∃ t : Nat, 7 - (j : Int) = (t : Int) := ⟨7 - j, by omega⟩
            rw [ht]
            have ht7 : t ≤ 7 := by omega
            have HTJ := Lib.hid (show t = 7 - j by omega)
            clear ht
            have hcb := conv_byte wr ((v : Int) / 2 ^ (8 * t) % 256) (UInt8.ofNat (v / 256 ^ t % 256)) (byte_at v t)
            have hstep := beN_take v j hj8
            rw [← HTJ.out] at hstep
            obtain ⟨PS, hPS⟩ : ∃ y, (⟨(S0 ++ (beN 8 v).take j).toArray⟩ : ByteArray) = y := ⟨_, rfl⟩
            obtain ⟨P1, hP1⟩ : ∃ y, (⟨[UInt8.ofNat (v / 256 ^ t % 256)].toArray⟩ : ByteArray) = y := ⟨_, rfl⟩
            obtain ⟨PN, hPN⟩ : ∃ y, (⟨(S0 ++ (beN 8 v).take (j + 1)).toArray⟩ : ByteArray) = y := ⟨_, rfl⟩
            have hadd : PS ++ P1 = PN := by rw [← hPS, ← hP1, ← hPN, str_append, hstep, List.append_assoc]
            have hsz : ¬ 9223372036854775807 < PS.size + P1.size := by rw [← hPS, ← hP1, str_size, str_size, List.length_append, List.length_take, beN_length]; simp; omega
            rw [hP1] at hcb
            rw [hPS]
            have HPN := Lib.hid hPN
            have HB' := Lib.hid (HB.out.trans (((Below.refl _ wr).alloc (Nat.le_refl _) (.cells #[.int .u8 ((v : Int) / 2 ^ (8 * t) % 256)] 5)).mono HB.out.size))
            clear hPS hP1 hPN hstep HB
            go_wp2
            go_roundw
            case rel => exact ⟨j + 1, by have := HTJ.out; congr 1 <;> omega, by omega, by rw [HPN.out], HB'⟩
            case measure => simp [intOf]
          · obtain rfl : j = 8 := by omega
            have e8 : S0 ++ (beN 8 v).take 8 = nums m (1 + 1) := by rw [HNX.out, HS0.out, List.take_of_length_le (by rw [beN_length]; omega)]
            rw [e8]
            have HX := Lib.hid (And.intro (H.out.1.trans (HB.out.mono H.out.1.size)) (Box.below H.out.2 HB.out H.out.2.lt))
            clear e8
            go_wp2
            go_roundw
            case rel => exact ⟨1 + 1, by go_num, by omega, rfl, HX⟩
            case measure => simp [intOf]
    · obtain rfl : q = 2 := by omega
      go_wp2
      go_ret
      exact ⟨rfl, H.out.1⟩
end Go.Proofs.Ythpfdenpgegheaa
namespace Go.Proofs.Ythpfdenpgegheaa
open Go.RowKit

theorem two_cells (n : Nat) (h : n ≤ 220) : (#[.int .u8 0, .int .u8 (n : Int)] : Array Value) = (bc (beN 2 n)).toArray := by
  have e1 : ((UInt8.ofNat (n / 256 % 256)).toNat : Int) = 0 := by rw [UInt8.toNat_ofNat']; omega
  have e2 : ((UInt8.ofNat (n % 256)).toNat : Int) = (n : Int) := by rw [UInt8.toNat_ofNat']; omega
  have e : bc (beN 2 n) = [.int .u8 ((UInt8.ofNat (n / 256 % 256)).toNat : Int), .int .u8 ((UInt8.ofNat (n % 256)).toNat : Int)] := rfl
  rw [e, e1, e2]
theorem sealed_parts' (m : Mk) (l : List UInt8) : sealed m l = ((m.bytes ++ beN 2 l.length ++ l) ++ List.replicate (220 - l.length) 0) ++ m.bytes := by
  simp only [sealed, List.append_assoc]
set_option linter.unusedVariables false
set_option linter.unusedSimpArgs false
set_option maxRecDepth 100000 in
set_option maxHeartbeats 8000000 in
theorem rseal_says (w : World) (m : Mk) (l : List UInt8) (hl : l.length ≤ 220) :
    Calls Try.prog 29 #[.agg (mv m), .string ⟨l.toArray⟩] w fun e w' => e = .returned (.string ⟨(sealed m l).toArray⟩) ∧ Below w.heap.size w w' := by
  obtain ⟨n, hn⟩ : ∃ n, l.length = n := ⟨_, rfl⟩
  obtain ⟨PL, hPL⟩ : ∃ y, (⟨l.toArray⟩ : ByteArray) = y := ⟨_, rfl⟩
  have hn2 : n ≤ 220 := by omega
  have hps : PL.size = n := by rw [← hPL, str_size, hn]
  have HTW := Lib.hid (two_cells n hn2)
  obtain ⟨PM, hPM⟩ : ∃ y, (⟨m.bytes.toArray⟩ : ByteArray) = y := ⟨_, rfl⟩
  obtain ⟨P2, hP2⟩ : ∃ y, (⟨(beN 2 n).toArray⟩ : ByteArray) = y := ⟨_, rfl⟩
  obtain ⟨P3, hP3⟩ : ∃ y, (⟨(m.bytes ++ beN 2 n).toArray⟩ : ByteArray) = y := ⟨_, rfl⟩
  obtain ⟨P4, hP4⟩ : ∃ y, (⟨(m.bytes ++ beN 2 n ++ l).toArray⟩ : ByteArray) = y := ⟨_, rfl⟩
  have hml := m.bytes_length
  have hb2l := beN_length 2 n
  have ha1 : PM ++ P2 = P3 := by rw [← hPM, ← hP2, ← hP3, str_append]
  have ha2 : P3 ++ PL = P4 := by rw [← hP3, ← hPL, ← hP4, str_append]
  have hs1 : ¬ 9223372036854775807 < PM.size + P2.size := by rw [← hPM, ← hP2, str_size, str_size]; omega
  have hs2 : ¬ 9223372036854775807 < P3.size + PL.size := by rw [← hP3, ← hPL, str_size, str_size, List.length_append]; omega
  have hRB := fun W => rbytes_says W m
  rw [hPM] at hRB
  rw [hps] at hs2
  have HRB := Lib.hid hRB
  have HN := Lib.hid hn
  have HP2 := Lib.hid hP2
  have HP4 := Lib.hid hP4
  have HPM := Lib.hid hPM
  rw [hPL]
  clear hP2 hP3 hP4 hPM hPL hRB hml hb2l hl hn
  obtain ⟨w1, hw1⟩ : ∃ w1, w.alloc (.cells #[.int .u8 (m.kind.toNat : Int), .int .u64 (m.epoch : Int), .int .u64 (m.seq : Int)] 29) = w1 := ⟨_, rfl⟩
  have H1 := Lib.hid (show Below w.heap.size w w1 ∧ Box w1 w.heap.size 29 (mv m) by rw [← hw1]; exact ⟨(Below.refl _ w).alloc (Nat.le_refl _) _, Box.made w _ _⟩)
  go_enter Try.func29, Try.ntmps29
  simp only [mv]
  go_upto_region 1 with fail
  try simp only [Act.put]
  go_cut [5] (fun v wx => Hid (v = .string P4 ∧ Below w1.heap.size w1 wx))
  case first =>
    have wr8 : IntKind.u8.wrap (n : Int) = (n : Int) := by rw [IntKind.wrap_u8]; omega
    have HR1 := mk_range (show Box w1.drew w.heap.size 29 (mv m) from H1.out.2)
    refine wp_region_held_drew (S := fun w' => w'.rangeAt w.heap.size 0 (mvl m)) (by kernel_rfl) HR1 (fun hHeld => ?_)
    clear HR1
    refine take_load 0 6 29 (.tmp 2) w.heap.size 0 (mvl m) _ rfl rfl rfl (by kernel_rfl) (by kernel_rfl) (by kernel_rfl) (fun _ _ _ h => h) (by rfl) rfl (fun _ h => h) Try.underlying29 rfl (by kernel_rfl) (by assumption) ?_
    try simp only [Act.put, List.setIfInBounds_toArray, List.set_cons_zero, List.set_cons_succ]
    refine take_run 2 8 (v := ?_) rfl rfl (by kernel_rfl) (by kernel_rfl) (by kernel_rfl) (fun _ _ _ h => h) (by rfl) ?_ (by assumption) ?_
    rotate_left
    · (intro wq hSw; have hS1 := hSw; go_simp; first | done | with_reducible rfl)
    simp only [Act.put, List.setIfInBounds_toArray, List.set_cons_zero, List.set_cons_succ]
    refine take_run 3 9 (v := ?_) rfl rfl (by kernel_rfl) (by kernel_rfl) (by kernel_rfl) (fun _ _ _ h => h) (by rfl) ?_ (by assumption) ?_
    rotate_left
    · (intro wq hSw; have hS1 := hSw; go_simp; first | done | with_reducible rfl)
    simp only [Act.put, List.setIfInBounds_toArray, List.set_cons_zero, List.set_cons_succ]
    refine take_run 4 10 (v := ?_) rfl rfl (by kernel_rfl) (by kernel_rfl) (by kernel_rfl) (fun _ _ _ h => h) (by rfl) ?_ (by assumption) ?_
    rotate_left
    · (intro wq hSw; have hS1 := hSw; go_simp; first | done | with_reducible rfl)
    simp only [Act.put, List.setIfInBounds_toArray, List.set_cons_zero, List.set_cons_succ]
    refine take_run 8 14 (v := ?_) rfl rfl (by kernel_rfl) (by kernel_rfl) (by kernel_rfl) (fun _ _ _ h => h) (by rfl) ?_ (by assumption) ?_
    rotate_left
    · (intro wq hSw; have hS1 := hSw; go_simp; first | done | with_reducible rfl)
    simp only [Act.put, List.setIfInBounds_toArray, List.set_cons_zero, List.set_cons_succ]
    refine wpAnyH_ready (rs := [1, 5]) (by kernel_rfl) (by simp) ?_
    refine AllReadyH.cons rfl (fun K hK => ?_) (AllReadyH.cons rfl (fun K hK => ?_) AllReadyH.nil)
    · go_simp
      refine (HRB.out w1.drew).mono ?_
      rintro e w2 ⟨rfl, hb2⟩
      have hb2 : Below w1.heap.size w1 w2 := ⟨hb2.os, hb2.tape, hb2.output, hb2.size, hb2.block⟩
      refine hK.out _ _ (mk_range (Box.below H1.out.2 hb2 H1.out.2.lt)) (fun hHeld => ?_)
      clear hK K
      try simp only [Act.put, List.setIfInBounds_toArray, List.set_cons_zero, List.set_cons_succ]
      refine wpAnyH_ready (rs := [5]) (by kernel_rfl) (by simp) ?_
      refine AllReadyH.cons rfl (fun K hK => ?_) AllReadyH.nil
      obtain ⟨w3, hw3⟩ : ∃ x, w2.alloc (.cells #[.int .u8 0, .int .u8 (n : Int)] 5) = x := ⟨_, rfl⟩
      have hb3 : Below w2.heap.size w2 w3 := by rw [← hw3]; exact (Below.refl _ w2).alloc (Nat.le_refl _) _
      have hx3 : Box w3 w2.heap.size 5 (bc (beN 2 n)).toArray := by rw [← hw3, HTW.out]; exact Box.made w2 _ _
      refine step_run (w' := w3) 11 (.slice (some ⟨w2.heap.size, 0, none⟩) 2 2) rfl rfl (by rw [← hw3]; go_simp; first | done | rfl) ?_
      refine hK.out _ _ (mk_range (Box.below (Box.below H1.out.2 hb2 H1.out.2.lt) hb3 (Box.below H1.out.2 hb2 H1.out.2.lt).lt)) (fun hHeld => ?_)
      clear hK K
      try simp only [Act.put, List.setIfInBounds_toArray, List.set_cons_zero, List.set_cons_succ]
      refine wpAnyH_ready (rs := [6]) (by kernel_rfl) (by simp) ?_
      refine AllReadyH.cons rfl (fun K hK => ?_) AllReadyH.nil
      have hcv := conv_lies (lies_box (N := fun _ => True) hx3 trivial (n := 2) (beN_length 2 n))
      refine step_run (w' := w3) 12 (.string P2) rfl rfl (by rw [HP2.out] at hcv; go_simp; first | done | rfl) ?_
      refine hK.out _ _ hHeld (fun hHeld => ?_)
      clear hK K hcv
      try simp only [Act.put, List.setIfInBounds_toArray, List.set_cons_zero, List.set_cons_succ]
      refine take_run 7 13 (v := ?_) rfl rfl (by kernel_rfl) (by kernel_rfl) (by kernel_rfl) (fun _ _ _ h => h) (by rfl) ?_ (by assumption) ?_
      rotate_left
      · (intro wq hSw; have hS1 := hSw; go_simp; first | done | with_reducible rfl)
      simp only [Act.put, List.setIfInBounds_toArray, List.set_cons_zero, List.set_cons_succ]
      refine take_run 9 15 (v := ?_) rfl rfl (by kernel_rfl) (by kernel_rfl) (by kernel_rfl) (fun _ _ _ h => h) (by rfl) ?_ (by assumption) ?_
      rotate_left
      · (intro wq hSw; have hS1 := hSw; go_simp; first | done | with_reducible rfl)
      simp only [Act.put, List.setIfInBounds_toArray, List.set_cons_zero, List.set_cons_succ]
      refine take_run 10 5 (v := ?_) rfl rfl (by kernel_rfl) (by kernel_rfl) (by kernel_rfl) (fun _ _ _ h => h) (by rfl) ?_ (by assumption) ?_
      rotate_left
      · (intro wq hSw; have hS1 := hSw; go_simp; first | done | with_reducible rfl)
      simp only [Act.put, List.setIfInBounds_toArray, List.set_cons_zero, List.set_cons_succ]
      refine wpAnyH_done (by kernel_rfl) ?_ _
      have HR := Lib.hid (hb2.trans (hb3.mono hb2.size))
      clear hHeld
      go_wp2
      go_meet
      exact Lib.hid ⟨rfl, HR.out⟩
    · obtain ⟨w3, hw3⟩ : ∃ x, w1.drew.alloc (.cells #[.int .u8 0, .int .u8 (n : Int)] 5) = x := ⟨_, rfl⟩
      have hb3 : Below w1.heap.size w1 w3 := by rw [← hw3]; exact (Below.refl _ w1).drew.alloc (Nat.le_refl _) _
      have hx3 : Box w3 w1.heap.size 5 (bc (beN 2 n)).toArray := by rw [← hw3, HTW.out]; exact Box.made w1.drew _ _
      refine step_run (w' := w3) 11 (.slice (some ⟨w1.heap.size, 0, none⟩) 2 2) rfl rfl (by rw [← hw3]; go_simp; first | done | rfl) ?_
      have hrg := mk_range (Box.below H1.out.2 hb3 H1.out.2.lt)
      refine hK.out _ _ hrg (fun hHeld => ?_)
      clear hK K hHeld
      try simp only [Act.put, List.setIfInBounds_toArray, List.set_cons_zero, List.set_cons_succ]
      refine wpAnyH_weakS (S' := fun u => u.rangeAt w.heap.size 0 (mvl m) ∧ Box u w1.heap.size 5 (bc (beN 2 n)).toArray) (fun u hu => hu.1) ?_
      have hHeld := And.intro hrg hx3
      refine take_run 6 12 (v := .string P2) rfl rfl (by kernel_rfl) (by kernel_rfl) (by kernel_rfl) (fun _ _ _ h => h) (by rfl) (fun wq hSw => by have hcv := conv_lies (lies_box (N := fun _ => True) hSw.2 trivial (n := 2) (beN_length 2 n)); rw [HP2.out] at hcv; go_simp; first | done | rfl) (by assumption) ?_
      try simp only [Act.put, List.setIfInBounds_toArray, List.set_cons_zero, List.set_cons_succ]
      refine wpAnyH_ready (rs := [1]) (by kernel_rfl) (by simp) ?_
      refine AllReadyH.cons rfl (fun K hK => ?_) AllReadyH.nil
      go_simp
      refine (HRB.out w3).mono ?_
      rintro e w2 ⟨rfl, hb2⟩
      refine hK.out _ _ ⟨mk_range (Box.below (Box.below H1.out.2 hb3 H1.out.2.lt) hb2 (Box.below H1.out.2 hb3 H1.out.2.lt).lt), Box.below hx3 hb2 hx3.lt⟩ (fun hHeld => ?_)
      clear hK K
      try simp only [Act.put, List.setIfInBounds_toArray, List.set_cons_zero, List.set_cons_succ]
      refine take_run 7 13 (v := ?_) rfl rfl (by kernel_rfl) (by kernel_rfl) (by kernel_rfl) (fun _ _ _ h => h) (by rfl) ?_ (by assumption) ?_
      rotate_left
      · (intro wq hSw; have hS1 := hSw; go_simp; first | done | with_reducible rfl)
      simp only [Act.put, List.setIfInBounds_toArray, List.set_cons_zero, List.set_cons_succ]
      refine take_run 9 15 (v := ?_) rfl rfl (by kernel_rfl) (by kernel_rfl) (by kernel_rfl) (fun _ _ _ h => h) (by rfl) ?_ (by assumption) ?_
      rotate_left
      · (intro wq hSw; have hS1 := hSw; go_simp; first | done | with_reducible rfl)
      simp only [Act.put, List.setIfInBounds_toArray, List.set_cons_zero, List.set_cons_succ]
      refine take_run 10 5 (v := ?_) rfl rfl (by kernel_rfl) (by kernel_rfl) (by kernel_rfl) (fun _ _ _ h => h) (by rfl) ?_ (by assumption) ?_
      rotate_left
      · (intro wq hSw; have hS1 := hSw; go_simp; first | done | with_reducible rfl)
      simp only [Act.put, List.setIfInBounds_toArray, List.set_cons_zero, List.set_cons_succ]
      refine wpAnyH_done (by kernel_rfl) ?_ _
      have HR := Lib.hid (hb3.trans (hb2.mono hb3.size))
      clear hHeld
      go_wp2
      go_meet
      exact Lib.hid ⟨rfl, HR.out⟩
  case rest =>
    obtain ⟨rfl, hwc⟩ := hcut.out
    have HB1 := Lib.hid (H1.out.1.trans (hwc.mono H1.out.1.size))
    have HM1 := Lib.hid (Box.below H1.out.2 hwc H1.out.2.lt)
    clear hcut hwc H1 HP2 HTW ha1 ha2 hs1 hs2 hw1 hps
    go_wp2_with fail
    go_loopw [5] (fun s wx => ∃ q : Nat, s = .string ⟨(m.bytes ++ beN 2 n ++ l ++ List.replicate q 0).toArray⟩ ∧ q ≤ 220 - n ∧ wx = wc) (fun s _ => 240 - (match s with | .string b => b.size | _ => 0))
    case atStart => exact ⟨0, by rw [List.replicate_zero, List.append_nil, HP4.out], by omega, rfl⟩
    case round =>
      obtain ⟨q, rfl, hq, hwx⟩ := hrel
      subst hwx
      have hlen : (m.bytes ++ beN 2 n ++ l ++ List.replicate q 0).length = 19 + n + q := by
        have h1 := m.bytes_length
        have h2 := beN_length 2 n
        have h3 := HN.out
        simp only [List.length_append, List.length_replicate]
        omega
      have hstep : m.bytes ++ beN 2 n ++ l ++ List.replicate (q + 1) 0 = m.bytes ++ beN 2 n ++ l ++ List.replicate q 0 ++ [0] := by rw [List.replicate_succ', List.append_assoc _ _ [0]]
      by_cases hlt : q < 220 - n
      · obtain ⟨PS, hPS⟩ : ∃ y, (⟨(m.bytes ++ beN 2 n ++ l ++ List.replicate q 0).toArray⟩ : ByteArray) = y := ⟨_, rfl⟩
        obtain ⟨PN, hPN⟩ : ∃ y, (⟨(m.bytes ++ beN 2 n ++ l ++ List.replicate (q + 1) 0).toArray⟩ : ByteArray) = y := ⟨_, rfl⟩
        have hadd : PS ++ { data := #[0] } = PN := by rw [← hPS, ← hPN, hstep]; exact str_append _ [0]
        have hsz : PS.size = 19 + n + q := by rw [← hPS, str_size]; exact hlen
        have hsn : PN.size = 19 + n + q + 1 := by rw [← hPN, str_size, hstep, List.length_append, hlen]; rfl
        have l1 : (19 : Int) + (n : Int) + (q : Int) < 239 := by omega
        have l2 : ((19 + n + q : Nat) : Int) < 239 := by omega
        have l3 : ¬ 9223372036854775807 < 19 + n + q + 1 := by omega
        have HPN := Lib.hid hPN
        rw [hPS]
        clear hlen hstep hPS hPN
        go_wp2
        go_roundw
        case rel => exact ⟨q + 1, by rw [HPN.out], by omega, trivial⟩
        case measure => simp [hsz, hsn]; omega
      · obtain ⟨PS, hPS⟩ : ∃ y, (⟨(m.bytes ++ beN 2 n ++ l ++ List.replicate q 0).toArray⟩ : ByteArray) = y := ⟨_, rfl⟩
        obtain ⟨PN, hPN⟩ : ∃ y, (⟨(sealed m l).toArray⟩ : ByteArray) = y := ⟨_, rfl⟩
        obtain rfl : q = 220 - n := by omega
        have hadd : PS ++ PM = PN := by rw [← hPS, ← hPN, ← HPM.out, str_append, sealed_parts', HN.out]
        have hsz : PS.size = 239 := by rw [← hPS, str_size, hlen]; omega
        have hpm : PM.size = 17 := by rw [← HPM.out, str_size, m.bytes_length]
        rw [hPS]
        clear hlen hstep hPS hlt hq
        go_wp2_with (refine wpList_load_row rfl 29 _ rfl w.heap.size rfl 29 _ (0, 0) _ HM1.out Try.underlying29 rfl (by rw [mv_size]; exact refInfo) ?_)
        refine (HRB.out wr).mono ?_
        rintro e wy ⟨rfl, hby⟩
        have HZ := Lib.hid (HB1.out.trans (hby.mono HB1.out.size))
        have HPN := Lib.hid hPN
        clear hby hPN
        go_wp2
        go_ret
        exact ⟨by rw [HPN.out]; rfl, HZ.out⟩
end Go.Proofs.Ythpfdenpgegheaa
namespace Go.Proofs.Ythpfdenpgegheaa.Lay
open Go.RowKit

theorem strOf_bytes (l : List UInt8) : strOfNums (l.map fun b => (b.toNat : Int)) = ⟨l.toArray⟩ := by
  unfold strOfNums
  congr 1
  rw [List.map_map]
  congr 1
  conv => rhs; rw [← List.map_id l]
  apply List.map_congr_left
  intro b _
  simp

/-- A slice of bytes, as a text. -/
theorem conv_sl {w : World} {B : Nat} {V : Value} {l : List UInt8} (h : Sl w B V (bc l)) : (convert 22 9 V).run Try.prog w = .ok (.string ⟨l.toArray⟩) w := by
  rcases h with ⟨rfl, hl⟩ | ⟨ad, c, rfl, hc⟩
  · have : l = [] := by
      cases l with
      | nil => rfl
      | cons => simp [bc] at hl
    subst this
    exact run_convert_bytes_nil w 22 5 Try.underlying22 Try.underlying5 0 0 9 Try.underlying9
  · have hm : bc l = (l.map fun b => (b.toNat : Int)).map (Value.int .u8) := by simp [bc]
    have hld : (loadCells ad (bc l).length).run Try.prog w = .ok ((l.map fun b => (b.toNat : Int)).map (Value.int .u8)).toArray w := by
      rw [← hm]
      exact run_loadCells_list (P := Try.prog) w ad (bc l) (fun j u hu => (hc j u hu).2)
    rw [run_convert_bytes_string w 22 9 5 _ _ c Try.underlying22 Try.underlying5 Try.underlying9, run_bytesToString w _ _ c _ hld, foldl_push_bytes, ← strOf_bytes l]
    simp [strOfNums, ByteArray.empty, ByteArray.emptyWithCapacity]
    rfl

theorem sl_new (w : World) (x : Value) (t : TypeId) : Sl (w.alloc (.cells #[x] t)) (w.alloc (.cells #[x] t)).heap.size (.slice (some ⟨w.heap.size, 0, none⟩) 1 1) [x] :=
  .inr ⟨⟨w.heap.size, 0, none⟩, 1, rfl, fun j u hu => ⟨by simp, cell_one_new w x t j u hu⟩⟩

end Go.Proofs.Ythpfdenpgegheaa.Lay
namespace Go.Proofs.Ythpfdenpgegheaa.Lay
open Go.RowKit

theorem many_of_div (x j : Nat) (hx : x < 18446744073709551616) (hj : j ≤ many x) (h : x / 256 ^ j = 0) : j = many x := by
  have hp : 0 < 256 ^ j := Nat.pow_pos (by omega)
  have hlt : x < 256 ^ j := by
    rcases Nat.lt_or_ge x (256 ^ j) with h1 | h1
    · exact h1
    · have := Nat.div_pos h1 hp
      omega
  rcases Nat.eq_zero_or_pos x with h0 | h0
  · subst h0
    rw [many_zero] at hj ⊢
    omega
  · obtain ⟨h1, h2⟩ := many_pos x hx h0
    have h3 : ¬ j < many x := fun hh => by
      have : 256 ^ j ≤ 256 ^ (many x - 1) := Nat.pow_le_pow_right (by omega) (by omega)
      omega
    omega
theorem lt_many_of_div (x j : Nat) (hx : x < 18446744073709551616) (h : 0 < x / 256 ^ j) : j < many x := by
  have h1 := lt_many x hx
  rcases Nat.lt_or_ge j (many x) with h2 | h2
  · exact h2
  · have h3 : 256 ^ many x ≤ 256 ^ j := Nat.pow_le_pow_right (by omega) h2
    have h4 : x / 256 ^ j = 0 := Nat.div_eq_of_lt (Nat.lt_of_lt_of_le h1 h3)
    omega

theorem str_append (l m : List UInt8) : (⟨l.toArray⟩ : ByteArray) ++ (⟨m.toArray⟩ : ByteArray) = ⟨(l ++ m).toArray⟩ := by
  rw [← string_eq (_ ++ _)]
  congr 1

/-- A slice of one new byte, as a text. -/
theorem conv_byte (w : World) (c : Int) (b : UInt8) (h : c = (b.toNat : Int)) : (convert 22 9 (.slice (some ⟨w.heap.size, 0, none⟩) 1 1)).run Try.prog (w.alloc (.cells #[.int .u8 c] 5)) = .ok (.string ⟨[b].toArray⟩) (w.alloc (.cells #[.int .u8 c] 5)) := by
  subst h
  exact conv_sl (l := [b]) (sl_new w _ _)

def StrPost (l : List UInt8) (w : World) (r : Ending) (w' : World) : Prop := r = .returned (.string ⟨l.toArray⟩) ∧ Below w.heap.size w w'

theorem refNumber_any (b : List UInt8) (x : Nat) (w : World) (hx : x < 18446744073709551616) (hb : b.length ≤ 1073741824) :
    Calls Try.prog 42 #[.string ⟨b.toArray⟩, .int .u64 x] w (StrPost (b ++ encNum x) w) := by
  have hm8 := many_le x hx
  generalize hB : (⟨b.toArray⟩ : ByteArray) = B
  have HB := Lib.hid hB
  clear hB
  go_enter Try.func42, Try.ntmps42
  go_wp2_with fail
  go_loopw [1, 5] (fun v s wr => ∃ (j y : Nat) (S : ByteArray), j ≤ many x ∧ Hid (y = x / 256 ^ j) ∧ y < 18446744073709551616 ∧ v = .int .u64 (y : Int) ∧ Hid (S = ⟨(encTail j x).toArray⟩) ∧ s = .string S ∧ S.size ≤ 8 ∧ Below w.heap.size w wr) (fun v _ _ => (intOf v).toNat)
  case atStart => exact ⟨0, x, ByteArray.empty, Nat.zero_le _, by simp [Hid], hx, rfl, rfl, rfl, by decide, Below.refl _ _⟩
  case round =>
    obtain ⟨j, y, S, hj, hy, hy64, rfl, hS, rfl, hS8, hbel⟩ := hrel
    by_cases hpos : 0 < (y : Int)
    · have hlt : j < many x := lt_many_of_div x j hx (by rw [← hy.out]; omega)
      have hd : decide (0 < y) = true := by simp; omega
      have hcv := conv_byte wr ((y : Int) % 256) (UInt8.ofNat (y % 256)) (by rw [ofNat_toNat]; omega)
      have hS1 : S.size = j := by rw [hS.out]; simp [ByteArray.size, encTail_length]
      have hst : (⟨[UInt8.ofNat (y % 256)].toArray⟩ : ByteArray) ++ S = ⟨(encTail (j + 1) x).toArray⟩ := by
        rw [hS.out, str_append, encTail, hy.out]
        rfl
      have hsz2 : ((⟨[UInt8.ofNat (y % 256)].toArray⟩ : ByteArray) ++ S).size ≤ 8 := by
        rw [ByteArray.size_append]
        have : (⟨[UInt8.ofNat (y % 256)].toArray⟩ : ByteArray).size = 1 := rfl
        omega
      have hy2 : y / 256 = x / 256 ^ (j + 1) := by rw [hy.out, Nat.div_div_eq_div_mul, Nat.pow_succ]
      have HST := Lib.hid hst
      have HY2 := Lib.hid hy2
      have HSZ := Lib.hid hsz2
      have HBEL := Lib.hid (hbel.alloc hbel.size (.cells #[.int .u8 ((y : Int) % 256)] 5))
      clear hS1 hst hy2 hsz2 hbel hS hy
      go_wp2_with fail
      go_roundw
      case rel =>
        refine ⟨j + 1, y / 256, _, by omega, HY2.out, by omega, by go_num, HST.out, rfl, HSZ.out, HBEL.out⟩
      case measure => simp [intOf]; omega
    · have hz : y = 0 := by omega
      subst hz
      have hjm := many_of_div x j hx hj hy.out.symm
      have hS1 : S.size = many x := by rw [hS.out, ← hjm]; simp [ByteArray.size, encTail_length]
      have hcv := conv_byte wr (S.size : Int) (UInt8.ofNat (many x)) (by rw [ofNat_toNat, hS1]; omega)
      have hst : B ++ (⟨[UInt8.ofNat (many x)].toArray⟩ : ByteArray) ++ S = ⟨(b ++ encNum x).toArray⟩ := by
        rw [hS.out, ← HB.out, str_append, str_append, hjm, encNum, List.append_assoc]
        rfl
      have hBs : B.size = b.length := by rw [← HB.out]; simp [ByteArray.size]
      have hBs2 : B.size ≤ 1073741824 := by omega
      have HST := Lib.hid hst
      have HBEL := Lib.hid (hbel.alloc hbel.size (.cells #[.int .u8 (S.size : Int)] 5))
      clear hst hbel hS hy hS1 hBs hjm
      go_wp2_with fail
      go_ret
      exact ⟨by rw [HST.out]; rfl, HBEL.out⟩

end Go.Proofs.Ythpfdenpgegheaa.Lay
namespace Go.Proofs.Ythpfdenpgegheaa
open Go.RowKit

set_option linter.unusedVariables false
set_option linter.unusedSimpArgs false
theorem rhdInfo : (Try.prog.info? 50).map (·.size) = some 5 := by kernel_rfl
set_option maxRecDepth 100000 in
set_option maxHeartbeats 4000000 in
theorem own9_says (w : World) (h : Hd) : Calls Try.prog 17 #[.agg (hv h)] w fun e w' => e = .returned (.agg (hv h)) ∧ Below w.heap.size w w' := by
  obtain ⟨w1, hw1⟩ : ∃ x, w.alloc (.cells #[.int .u64 (h.gen : Int), .int .u64 (h.epoch : Int), .int .i64 h.pos, .int .u64 (h.seq : Int), .int .i64 h.log] 43) = x := ⟨_, rfl⟩
  have hb1 : Below w.heap.size w w1 := by rw [← hw1]; exact (Below.refl _ w).alloc (Nat.le_refl _) _
  have hm : Box w1 w.heap.size 43 (hv h) := by rw [← hw1]; exact Box.made w _ _
  obtain ⟨w2, hw2⟩ : ∃ x, w1.alloc (.cells #[.int .u64 0, .int .u64 0, .int .i64 0, .int .u64 0, .int .i64 0] 50) = x := ⟨_, rfl⟩
  have hb2 : Below w1.heap.size w1 w2 := by rw [← hw2]; exact (Below.refl _ w1).alloc (Nat.le_refl _) _
  have hz2 : Box w2 w1.heap.size 50 (hv Hd.zero) := by rw [← hw2]; exact Box.made w1 _ _
  have hm2 := Box.below hm hb2 hm.lt
  obtain ⟨w3, hw3⟩ : ∃ x, w2.setRow w1.heap.size (hv h) = x := ⟨_, rfl⟩
  have hr3 : Box w3 w1.heap.size 50 (hv h) := by rw [← hw3]; exact setRow_heap _ _ _ _ _ _ hz2
  have hb3 : Below w.heap.size w w3 := (hb1.trans (hb2.mono hb1.size)).trans (by rw [← hw3]; exact (Below.refl _ w2).grown (grown_row (grown_refl _ (some w1.heap.size)) _) (hb1.trans (hb2.mono hb1.size)).size (fun k e => by injection e with e; have := hb1.size; omega))
  have c0 : w2.cell? ⟨w.heap.size, 0, none⟩ = some (.int .u64 (h.gen : Int)) := (Box.cell hm2 0).trans rfl
  have c1 : w2.cell? ⟨w.heap.size, 1, none⟩ = some (.int .u64 (h.epoch : Int)) := (Box.cell hm2 1).trans rfl
  have c2 : w2.cell? ⟨w.heap.size, 2, none⟩ = some (.int .i64 h.pos) := (Box.cell hm2 2).trans rfl
  have c3 : w2.cell? ⟨w.heap.size, 3, none⟩ = some (.int .u64 (h.seq : Int)) := (Box.cell hm2 3).trans rfl
  have c4 : w2.cell? ⟨w.heap.size, 4, none⟩ = some (.int .i64 h.log) := (Box.cell hm2 4).trans rfl
  have e0 : w3.cell? ⟨w1.heap.size, 0, none⟩ = some (.int .u64 (h.gen : Int)) := (Box.cell hr3 0).trans rfl
  have e1 : w3.cell? ⟨w1.heap.size, 1, none⟩ = some (.int .u64 (h.epoch : Int)) := (Box.cell hr3 1).trans rfl
  have e2 : w3.cell? ⟨w1.heap.size, 2, none⟩ = some (.int .i64 h.pos) := (Box.cell hr3 2).trans rfl
  have e3 : w3.cell? ⟨w1.heap.size, 3, none⟩ = some (.int .u64 (h.seq : Int)) := (Box.cell hr3 3).trans rfl
  have e4 : w3.cell? ⟨w1.heap.size, 4, none⟩ = some (.int .i64 h.log) := (Box.cell hr3 4).trans rfl
  have HZ2 := Lib.hid hz2
  have HW3 := Lib.hid hw3
  have HB3 := Lib.hid hb3
  clear hb1 hb2 hb3 hz2 hm hm2 hr3 hw3
  go_enter Try.func17, Try.ntmps17
  simp only [hv]
  go_wp2_with (refine wpList_store_row rfl 50 _ _ rfl w1.heap.size (hv h) rfl rfl 50 _ HZ2.out (by rw [hv_size]; exact rhdInfo) rfl (hv_one _) ?_; rw [HW3.out])
  exact bodyPost_ret (v := .agg (hv h)) (by simp [results, Try.results17, go_sem, e0, e1, e2, e3, e4, hv]) rfl ⟨rfl, HB3.out⟩
set_option maxRecDepth 100000 in
set_option maxHeartbeats 8000000 in
theorem rput_says (w : World) (h : Hd) (hr : h.rightB 12 = true) : Calls Try.prog 19 #[.agg (hv h)] w fun e w' => e = .returned (.string ⟨h.block.toArray⟩) ∧ Below w.heap.size w w' := by
  have hq := Hd.right_iff.1 hr
  have hp0 : 0 ≤ h.pos := hq.2.2.2.2.2.1
  have hl0 : 0 ≤ h.log := by have := hq.2.2.2.1; omega
  clear hq hr
  obtain ⟨w1, hw1⟩ : ∃ x, w.alloc (.cells #[.int .u64 (h.gen : Int), .int .u64 (h.epoch : Int), .int .i64 h.pos, .int .u64 (h.seq : Int), .int .i64 h.log] 50) = x := ⟨_, rfl⟩
  have HB := Lib.hid (show Below w.heap.size w w1 by rw [← hw1]; exact (Below.refl _ w).alloc (Nat.le_refl _) _)
  have hm : Box w1 w.heap.size 50 (hv h) := by rw [← hw1]; exact Box.made w _ _
  have H1 := Lib.hid hm
  have HBL := Lib.hid (h.bytes_length)
  obtain ⟨PZ, hPZ⟩ : ∃ x, (⟨h.block.toArray⟩ : ByteArray) = x := ⟨_, rfl⟩
  rw [hPZ]
  have HSE := Lib.hid (fun W => by have := rseal_says W (mk9 h.gen h.hg) h.bytes (by have := HBL.out; omega); rw [show sealed (mk9 h.gen h.hg) h.bytes = h.block from rfl, hPZ] at this; exact this : ∀ W, Calls Try.prog 29 #[.agg (mv (mk9 h.gen h.hg)), .string ⟨h.bytes.toArray⟩] W fun e w' => e = .returned (.string PZ) ∧ Below W.heap.size W w')
  clear hm hPZ HBL
  obtain ⟨g, e, pos, s, log, hg, he, hs, hp, hl⟩ := h
  obtain ⟨p, rfl⟩ : ∃ p : Nat, pos = (p : Int) := ⟨pos.toNat, by simp only at hp0; omega⟩
  obtain ⟨lg, rfl⟩ : ∃ p : Nat, log = (p : Int) := ⟨log.toNat, by simp only at hl0; omega⟩
  have le1 := encNum_le9 e he
  have le2 := encNum_le9 p (by omega)
  have le3 := encNum_le9 s hs
  obtain ⟨P1, hP1⟩ : ∃ x, (⟨(Lay.encNum e).toArray⟩ : ByteArray) = x := ⟨_, rfl⟩
  obtain ⟨P2, hP2⟩ : ∃ x, (⟨(Lay.encNum e ++ Lay.encNum p).toArray⟩ : ByteArray) = x := ⟨_, rfl⟩
  obtain ⟨P3, hP3⟩ : ∃ x, (⟨(Lay.encNum e ++ Lay.encNum p ++ Lay.encNum s).toArray⟩ : ByteArray) = x := ⟨_, rfl⟩
  obtain ⟨P4, hP4⟩ : ∃ x, (⟨(Lay.encNum e ++ Lay.encNum p ++ Lay.encNum s ++ Lay.encNum lg).toArray⟩ : ByteArray) = x := ⟨_, rfl⟩
  have hbytes : (⟨(Hd.bytes ⟨g, e, (p : Int), s, (lg : Int), hg, he, hs, hp, hl⟩).toArray⟩ : ByteArray) = P4 := by rw [← hP4]; simp [Hd.bytes]
  rw [hbytes] at HSE
  have n1 := fun (W : World) (q : Grows W) => Calls.grows (p := q) (show Calls Try.prog 42 #[.string ⟨#[]⟩, .int .u64 (e : Int)] q.val fun r w' => r = .returned (.string P1) ∧ Below q.val.heap.size q.val w' by have := Lay.refNumber_any [] e q.val he (by simp); rw [List.nil_append] at this; unfold Lay.StrPost at this; rw [hP1] at this; exact this)
  have n2 := fun (W : World) (q : Grows W) => Calls.grows (p := q) (show Calls Try.prog 42 #[.string P1, .int .u64 (p : Int)] q.val fun r w' => r = .returned (.string P2) ∧ Below q.val.heap.size q.val w' by have := Lay.refNumber_any (Lay.encNum e) p q.val (by omega) (by omega); unfold Lay.StrPost at this; rw [hP1, hP2] at this; exact this)
  have n3 := fun (W : World) (q : Grows W) => Calls.grows (p := q) (show Calls Try.prog 42 #[.string P2, .int .u64 (s : Int)] q.val fun r w' => r = .returned (.string P3) ∧ Below q.val.heap.size q.val w' by have := Lay.refNumber_any (Lay.encNum e ++ Lay.encNum p) s q.val hs (by rw [List.length_append]; omega); unfold Lay.StrPost at this; rw [hP2, hP3] at this; exact this)
  have n4 := fun (W : World) (q : Grows W) => Calls.grows (p := q) (show Calls Try.prog 42 #[.string P3, .int .u64 (lg : Int)] q.val fun r w' => r = .returned (.string P4) ∧ Below q.val.heap.size q.val w' by have := Lay.refNumber_any (Lay.encNum e ++ Lay.encNum p ++ Lay.encNum s) lg q.val (by omega) (by rw [List.length_append, List.length_append]; omega); unfold Lay.StrPost at this; rw [hP3, hP4] at this; exact this)
  have N1 := Lib.hid n1
  have N2 := Lib.hid n2
  have N3 := Lib.hid n3
  have N4 := Lib.hid n4
  have wr1 : IntKind.u64.wrap (p : Int) = (p : Int) := by rw [IntKind.wrap_u64]; omega
  have wr2 : IntKind.u64.wrap (lg : Int) = (lg : Int) := by rw [IntKind.wrap_u64]; omega
  clear n1 n2 n3 n4 hP1 hP2 hP3 hP4 hbytes le1 le2 le3 hp0 hl0
  have c0 := cell_grows (p := ⟨w.heap.size, 0, none⟩) (v := .int .u64 (g : Int)) H1.out.lt ((Box.cell H1.out 0).trans rfl)
  have c1 := cell_grows (p := ⟨w.heap.size, 1, none⟩) (v := .int .u64 (e : Int)) H1.out.lt ((Box.cell H1.out 1).trans rfl)
  have c2 := cell_grows (p := ⟨w.heap.size, 2, none⟩) (v := .int .i64 (p : Int)) H1.out.lt ((Box.cell H1.out 2).trans rfl)
  go_enter Try.func19, Try.ntmps19
  simp only [hv]
  go_upto_region 1 with fail
  try simp only [Act.put]
  go_cut [3] (fun v wx => Hid (v = .string P2 ∧ Below w1.heap.size w1 wx))
  case first =>
    refine wp_region_grows (by kernel_rfl) (by kernel_rfl) ?_
    iterate 3 (first
        | quiet_step (first | (go_at_call 42; exact N1.out _ _)))
    iterate 5 (first
        | quiet_step (first | (go_at_call 42; exact N2.out _ _)))
    refine wpQuiet_nil ?_
    rintro wx ⟨⟨_, hwx⟩, rfl⟩
    go_wp2
    go_meet
    exact Lib.hid ⟨rfl, hwx⟩
  case rest =>
    obtain ⟨rfl, hbc⟩ := hcut.out
    have HBc := Lib.hid (HB.out.trans (hbc.mono HB.out.size))
    have Hc := Lib.hid (Box.below H1.out hbc H1.out.lt)
    clear hbc hcut c0 c1 c2 H1 HB hw1
    have c3 := cell_grows (p := ⟨w.heap.size, 3, none⟩) (v := .int .u64 (s : Int)) Hc.out.lt ((Box.cell Hc.out 3).trans rfl)
    have c4 := cell_grows (p := ⟨w.heap.size, 4, none⟩) (v := .int .i64 (lg : Int)) Hc.out.lt ((Box.cell Hc.out 4).trans rfl)
    go_upto_region 2 with fail
    try simp only [Act.put]
    go_cut [3] (fun v wx => Hid (v = .string P4 ∧ Below wc.heap.size wc wx))
    case first =>
      refine wp_region_grows (by kernel_rfl) (by kernel_rfl) ?_
      iterate 4 (first
          | quiet_step (first | (go_at_call 42; exact N3.out _ _)))
      iterate 5 (first
          | quiet_step (first | (go_at_call 42; exact N4.out _ _)))
      refine wpQuiet_nil ?_
      rintro wx ⟨⟨_, hwx⟩, rfl⟩
      go_wp2
      go_meet
      exact Lib.hid ⟨rfl, hwx⟩
    case rest =>
      obtain ⟨rfl, hbd⟩ := hcut.out
      have HBd := Lib.hid (HBc.out.trans (hbd.mono HBc.out.size))
      have c0 : wc.cell? ⟨w.heap.size, 0, none⟩ = some (.int .u64 (g : Int)) := (Box.cell (Box.below Hc.out hbd Hc.out.lt) 0).trans rfl
      clear hbd hcut c3 c4 Hc HBc
      go_wp2_with fail
      refine (HSE.out _).mono ?_
      rintro r wz ⟨rfl, hbz⟩
      have HZ := Lib.hid (HBd.out.trans (hbz.mono HBd.out.size))
      clear hbz
      go_wp2
      go_ret
      exact ⟨rfl, HZ.out⟩
end Go.Proofs.Ythpfdenpgegheaa
namespace Go.Proofs.Ythpfdenpgegheaa
open Go.RowKit

set_option linter.unusedVariables false
set_option linter.unusedSimpArgs false
set_option maxRecDepth 100000 in
set_option maxHeartbeats 8000000 in
theorem rright_says (w : World) (h : Hd) : Calls Try.prog 18 #[.agg (hv h), .int .i64 12] w fun e w' => e = .returned (.bool (h.rightB 12)) ∧ Below w.heap.size w w' := by
  obtain ⟨w1, hw1⟩ : ∃ x, w.alloc (.cells #[.int .u64 (h.gen : Int), .int .u64 (h.epoch : Int), .int .i64 h.pos, .int .u64 (h.seq : Int), .int .i64 h.log] 50) = x := ⟨_, rfl⟩
  have HB := Lib.hid (show Below w.heap.size w w1 by rw [← hw1]; exact (Below.refl _ w).alloc (Nat.le_refl _) _)
  have hm : Box w1 w.heap.size 50 (hv h) := by rw [← hw1]; exact Box.made w _ _
  have c0 : w1.cell? ⟨w.heap.size, 0, none⟩ = some (.int .u64 (h.gen : Int)) := (Box.cell hm 0).trans rfl
  have c1 : w1.cell? ⟨w.heap.size, 1, none⟩ = some (.int .u64 (h.epoch : Int)) := (Box.cell hm 1).trans rfl
  have c2 : w1.cell? ⟨w.heap.size, 2, none⟩ = some (.int .i64 h.pos) := (Box.cell hm 2).trans rfl
  have c3 : w1.cell? ⟨w.heap.size, 3, none⟩ = some (.int .u64 (h.seq : Int)) := (Box.cell hm 3).trans rfl
  have c4 : w1.cell? ⟨w.heap.size, 4, none⟩ = some (.int .i64 h.log) := (Box.cell hm 4).trans rfl
  have hiff := @Hd.right_iff h 12
  have hpp := h.hp
  have hll := h.hl
  clear hm
  by_cases g0 : 1 ≤ (h.gen : Int)
  · by_cases g1 : (h.gen : Int) ≤ 4611686018427387904
    · by_cases g2 : 1 ≤ (h.epoch : Int)
      · by_cases g3 : (h.epoch : Int) ≤ 4611686018427387904
        · by_cases g4 : 1 ≤ (h.seq : Int)
          · by_cases g5 : (h.seq : Int) ≤ 4611686018427387904
            · by_cases g6 : 3 ≤ h.log
              · by_cases g7 : h.log ≤ 9
                · by_cases g8 : 0 ≤ h.pos
                  · by_cases g9 : h.pos < h.log
                    · have hr : h.rightB 12 = true := hiff.2 (by omega)
                      rw [hr]
                      have d4 : decide (h.pos < h.log) = true := decide_eq_true g9
                      clear hr hiff
                      go_enter Try.func18, Try.ntmps18
                      simp only [hv]
                      go_wp2
                      go_ret
                      exact ⟨rfl, HB.out⟩
                    · have hr : h.rightB 12 = false := by
                        rw [Bool.eq_false_iff]
                        intro e
                        have := hiff.1 e
                        omega
                      rw [hr]
                      have d4 : decide (h.pos < h.log) = false := decide_eq_false g9
                      clear hr hiff
                      go_enter Try.func18, Try.ntmps18
                      simp only [hv]
                      go_wp2
                      go_ret
                      exact ⟨rfl, HB.out⟩
                  · have hr : h.rightB 12 = false := by
                      rw [Bool.eq_false_iff]
                      intro e
                      have := hiff.1 e
                      omega
                    rw [hr]
                    clear hr hiff
                    go_enter Try.func18, Try.ntmps18
                    simp only [hv]
                    go_wp2
                    go_ret
                    exact ⟨rfl, HB.out⟩
                · have hr : h.rightB 12 = false := by
                    rw [Bool.eq_false_iff]
                    intro e
                    have := hiff.1 e
                    omega
                  rw [hr]
                  clear hr hiff
                  go_enter Try.func18, Try.ntmps18
                  simp only [hv]
                  go_wp2
                  go_ret
                  exact ⟨rfl, HB.out⟩
              · have hr : h.rightB 12 = false := by
                  rw [Bool.eq_false_iff]
                  intro e
                  have := hiff.1 e
                  omega
                rw [hr]
                clear hr hiff
                go_enter Try.func18, Try.ntmps18
                simp only [hv]
                go_wp2
                go_ret
                exact ⟨rfl, HB.out⟩
            · have hr : h.rightB 12 = false := by
                rw [Bool.eq_false_iff]
                intro e
                have := hiff.1 e
                omega
              rw [hr]
              clear hr hiff
              go_enter Try.func18, Try.ntmps18
              simp only [hv]
              go_wp2
              go_ret
              exact ⟨rfl, HB.out⟩
          · have hr : h.rightB 12 = false := by
              rw [Bool.eq_false_iff]
              intro e
              have := hiff.1 e
              omega
            rw [hr]
            clear hr hiff
            go_enter Try.func18, Try.ntmps18
            simp only [hv]
            go_wp2
            go_ret
            exact ⟨rfl, HB.out⟩
        · have hr : h.rightB 12 = false := by
            rw [Bool.eq_false_iff]
            intro e
            have := hiff.1 e
            omega
          rw [hr]
          clear hr hiff
          go_enter Try.func18, Try.ntmps18
          simp only [hv]
          go_wp2
          go_ret
          exact ⟨rfl, HB.out⟩
      · have hr : h.rightB 12 = false := by
          rw [Bool.eq_false_iff]
          intro e
          have := hiff.1 e
          omega
        rw [hr]
        clear hr hiff
        go_enter Try.func18, Try.ntmps18
        simp only [hv]
        go_wp2
        go_ret
        exact ⟨rfl, HB.out⟩
    · have hr : h.rightB 12 = false := by
        rw [Bool.eq_false_iff]
        intro e
        have := hiff.1 e
        omega
      rw [hr]
      clear hr hiff
      go_enter Try.func18, Try.ntmps18
      simp only [hv]
      go_wp2
      go_ret
      exact ⟨rfl, HB.out⟩
  · have hr : h.rightB 12 = false := by
      rw [Bool.eq_false_iff]
      intro e
      have := hiff.1 e
      omega
    rw [hr]
    clear hr hiff
    go_enter Try.func18, Try.ntmps18
    simp only [hv]
    go_wp2
    go_ret
    exact ⟨rfl, HB.out⟩
end Go.Proofs.Ythpfdenpgegheaa
