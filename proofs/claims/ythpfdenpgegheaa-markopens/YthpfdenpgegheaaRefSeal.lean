/-
  The reference's Seal.
-/
import Derived.Test.YthpfdenpgegheaaRefB
import Derived.Test.YthpfdenpgegheaaSteps
import Derived.Deep.DeepCutAuto
namespace Go.Proofs.Ythpfdenpgegheaa
open Go.RowKit

theorem two_cells (n : Nat) (h : n ≤ 220) : (#[.int .u8 0, .int .u8 (n : Int)] : Array Value) = (bc (beN 2 n)).toArray := by
  have e1 : ((UInt8.ofNat (n / 256 % 256)).toNat : Int) = 0 := by rw [UInt8.toNat_ofNat']; omega
  have e2 : ((UInt8.ofNat (n % 256)).toNat : Int) = (n : Int) := by rw [UInt8.toNat_ofNat']; omega
  have e : bc (beN 2 n) = [.int .u8 ((UInt8.ofNat (n / 256 % 256)).toNat : Int), .int .u8 ((UInt8.ofNat (n % 256)).toNat : Int)] := rfl
  rw [e, e1, e2]
theorem sealed_parts' (m : Mk) (l : List UInt8) : sealed m l = ((m.bytes ++ beN 2 l.length ++ l) ++ List.replicate (220 - l.length) 0) ++ m.bytes := by
  simp only [sealed, List.append_assoc]
set_option linter.unusedVariables false
set_option linter.unusedSimpArgs false
set_option maxRecDepth 100000 in
set_option maxHeartbeats 8000000 in
theorem rseal_says (w : World) (m : Mk) (l : List UInt8) (hl : l.length ≤ 220) :
    Calls Try.prog 29 #[.agg (mv m), .string ⟨l.toArray⟩] w fun e w' => e = .returned (.string ⟨(sealed m l).toArray⟩) ∧ Below w.heap.size w w' := by
  obtain ⟨n, hn⟩ : ∃ n, l.length = n := ⟨_, rfl⟩
  obtain ⟨PL, hPL⟩ : ∃ y, (⟨l.toArray⟩ : ByteArray) = y := ⟨_, rfl⟩
  have hn2 : n ≤ 220 := by omega
  have hps : PL.size = n := by rw [← hPL, str_size, hn]
  have HTW := Lib.hid (two_cells n hn2)
  obtain ⟨PM, hPM⟩ : ∃ y, (⟨m.bytes.toArray⟩ : ByteArray) = y := ⟨_, rfl⟩
  obtain ⟨P2, hP2⟩ : ∃ y, (⟨(beN 2 n).toArray⟩ : ByteArray) = y := ⟨_, rfl⟩
  obtain ⟨P3, hP3⟩ : ∃ y, (⟨(m.bytes ++ beN 2 n).toArray⟩ : ByteArray) = y := ⟨_, rfl⟩
  obtain ⟨P4, hP4⟩ : ∃ y, (⟨(m.bytes ++ beN 2 n ++ l).toArray⟩ : ByteArray) = y := ⟨_, rfl⟩
  have hml := m.bytes_length
  have hb2l := beN_length 2 n
  have ha1 : PM ++ P2 = P3 := by rw [← hPM, ← hP2, ← hP3, str_append]
  have ha2 : P3 ++ PL = P4 := by rw [← hP3, ← hPL, ← hP4, str_append]
  have hs1 : ¬ 9223372036854775807 < PM.size + P2.size := by rw [← hPM, ← hP2, str_size, str_size]; omega
  have hs2 : ¬ 9223372036854775807 < P3.size + PL.size := by rw [← hP3, ← hPL, str_size, str_size, List.length_append]; omega
  have hRB := fun W => rbytes_says W m
  rw [hPM] at hRB
  rw [hps] at hs2
  have HRB := Lib.hid hRB
  have HN := Lib.hid hn
  have HP2 := Lib.hid hP2
  have HP4 := Lib.hid hP4
  have HPM := Lib.hid hPM
  rw [hPL]
  clear hP2 hP3 hP4 hPM hPL hRB hml hb2l hl hn
  obtain ⟨w1, hw1⟩ : ∃ w1, w.alloc (.cells #[.int .u8 (m.kind.toNat : Int), .int .u64 (m.epoch : Int), .int .u64 (m.seq : Int)] 29) = w1 := ⟨_, rfl⟩
  have H1 := Lib.hid (show Below w.heap.size w w1 ∧ Box w1 w.heap.size 29 (mv m) by rw [← hw1]; exact ⟨(Below.refl _ w).alloc (Nat.le_refl _) _, Box.made w _ _⟩)
  go_enter Try.func29, Try.ntmps29
  simp only [mv]
  go_upto_region 1 with fail
  try simp only [Act.put]
  go_cut [5] (fun v wx => Hid (v = .string P4 ∧ Below w1.heap.size w1 wx))
  case first =>
    have wr8 : IntKind.u8.wrap (n : Int) = (n : Int) := by rw [IntKind.wrap_u8]; omega
    have HR1 := mk_range (show Box w1.drew w.heap.size 29 (mv m) from H1.out.2)
    refine wp_region_held_drew (S := fun w' => w'.rangeAt w.heap.size 0 (mvl m)) (by kernel_rfl) HR1 (fun hHeld => ?_)
    clear HR1
    refine take_load 0 6 29 (.tmp 2) w.heap.size 0 (mvl m) _ rfl rfl rfl (by kernel_rfl) (by kernel_rfl) (by kernel_rfl) (fun _ _ _ h => h) (by rfl) rfl (fun _ h => h) Try.underlying29 rfl (by kernel_rfl) (by assumption) ?_
    try simp only [Act.put, List.setIfInBounds_toArray, List.set_cons_zero, List.set_cons_succ]
    refine take_run 2 8 (v := ?_) rfl rfl (by kernel_rfl) (by kernel_rfl) (by kernel_rfl) (fun _ _ _ h => h) (by rfl) ?_ (by assumption) ?_
    rotate_left
    · (intro wq hSw; have hS1 := hSw; go_simp; first | done | with_reducible rfl)
    simp only [Act.put, List.setIfInBounds_toArray, List.set_cons_zero, List.set_cons_succ]
    refine take_run 3 9 (v := ?_) rfl rfl (by kernel_rfl) (by kernel_rfl) (by kernel_rfl) (fun _ _ _ h => h) (by rfl) ?_ (by assumption) ?_
    rotate_left
    · (intro wq hSw; have hS1 := hSw; go_simp; first | done | with_reducible rfl)
    simp only [Act.put, List.setIfInBounds_toArray, List.set_cons_zero, List.set_cons_succ]
    refine take_run 4 10 (v := ?_) rfl rfl (by kernel_rfl) (by kernel_rfl) (by kernel_rfl) (fun _ _ _ h => h) (by rfl) ?_ (by assumption) ?_
    rotate_left
    · (intro wq hSw; have hS1 := hSw; go_simp; first | done | with_reducible rfl)
    simp only [Act.put, List.setIfInBounds_toArray, List.set_cons_zero, List.set_cons_succ]
    refine take_run 8 14 (v := ?_) rfl rfl (by kernel_rfl) (by kernel_rfl) (by kernel_rfl) (fun _ _ _ h => h) (by rfl) ?_ (by assumption) ?_
    rotate_left
    · (intro wq hSw; have hS1 := hSw; go_simp; first | done | with_reducible rfl)
    simp only [Act.put, List.setIfInBounds_toArray, List.set_cons_zero, List.set_cons_succ]
    refine wpAnyH_ready (rs := [1, 5]) (by kernel_rfl) (by simp) ?_
    refine AllReadyH.cons rfl (fun K hK => ?_) (AllReadyH.cons rfl (fun K hK => ?_) AllReadyH.nil)
    · go_simp
      refine (HRB.out w1.drew).mono ?_
      rintro e w2 ⟨rfl, hb2⟩
      have hb2 : Below w1.heap.size w1 w2 := ⟨hb2.os, hb2.tape, hb2.output, hb2.size, hb2.block⟩
      refine hK.out _ _ (mk_range (Box.below H1.out.2 hb2 H1.out.2.lt)) (fun hHeld => ?_)
      clear hK K
      try simp only [Act.put, List.setIfInBounds_toArray, List.set_cons_zero, List.set_cons_succ]
      refine wpAnyH_ready (rs := [5]) (by kernel_rfl) (by simp) ?_
      refine AllReadyH.cons rfl (fun K hK => ?_) AllReadyH.nil
      obtain ⟨w3, hw3⟩ : ∃ x, w2.alloc (.cells #[.int .u8 0, .int .u8 (n : Int)] 5) = x := ⟨_, rfl⟩
      have hb3 : Below w2.heap.size w2 w3 := by rw [← hw3]; exact (Below.refl _ w2).alloc (Nat.le_refl _) _
      have hx3 : Box w3 w2.heap.size 5 (bc (beN 2 n)).toArray := by rw [← hw3, HTW.out]; exact Box.made w2 _ _
      refine step_run (w' := w3) 11 (.slice (some ⟨w2.heap.size, 0, none⟩) 2 2) rfl rfl (by rw [← hw3]; go_simp; first | done | rfl) ?_
      refine hK.out _ _ (mk_range (Box.below (Box.below H1.out.2 hb2 H1.out.2.lt) hb3 (Box.below H1.out.2 hb2 H1.out.2.lt).lt)) (fun hHeld => ?_)
      clear hK K
      try simp only [Act.put, List.setIfInBounds_toArray, List.set_cons_zero, List.set_cons_succ]
      refine wpAnyH_ready (rs := [6]) (by kernel_rfl) (by simp) ?_
      refine AllReadyH.cons rfl (fun K hK => ?_) AllReadyH.nil
      have hcv := conv_lies (lies_box (N := fun _ => True) hx3 trivial (n := 2) (beN_length 2 n))
      refine step_run (w' := w3) 12 (.string P2) rfl rfl (by rw [HP2.out] at hcv; go_simp; first | done | rfl) ?_
      refine hK.out _ _ hHeld (fun hHeld => ?_)
      clear hK K hcv
      try simp only [Act.put, List.setIfInBounds_toArray, List.set_cons_zero, List.set_cons_succ]
      refine take_run 7 13 (v := ?_) rfl rfl (by kernel_rfl) (by kernel_rfl) (by kernel_rfl) (fun _ _ _ h => h) (by rfl) ?_ (by assumption) ?_
      rotate_left
      · (intro wq hSw; have hS1 := hSw; go_simp; first | done | with_reducible rfl)
      simp only [Act.put, List.setIfInBounds_toArray, List.set_cons_zero, List.set_cons_succ]
      refine take_run 9 15 (v := ?_) rfl rfl (by kernel_rfl) (by kernel_rfl) (by kernel_rfl) (fun _ _ _ h => h) (by rfl) ?_ (by assumption) ?_
      rotate_left
      · (intro wq hSw; have hS1 := hSw; go_simp; first | done | with_reducible rfl)
      simp only [Act.put, List.setIfInBounds_toArray, List.set_cons_zero, List.set_cons_succ]
      refine take_run 10 5 (v := ?_) rfl rfl (by kernel_rfl) (by kernel_rfl) (by kernel_rfl) (fun _ _ _ h => h) (by rfl) ?_ (by assumption) ?_
      rotate_left
      · (intro wq hSw; have hS1 := hSw; go_simp; first | done | with_reducible rfl)
      simp only [Act.put, List.setIfInBounds_toArray, List.set_cons_zero, List.set_cons_succ]
      refine wpAnyH_done (by kernel_rfl) ?_ _
      have HR := Lib.hid (hb2.trans (hb3.mono hb2.size))
      clear hHeld
      go_wp2
      go_meet
      exact Lib.hid ⟨rfl, HR.out⟩
    · obtain ⟨w3, hw3⟩ : ∃ x, w1.drew.alloc (.cells #[.int .u8 0, .int .u8 (n : Int)] 5) = x := ⟨_, rfl⟩
      have hb3 : Below w1.heap.size w1 w3 := by rw [← hw3]; exact (Below.refl _ w1).drew.alloc (Nat.le_refl _) _
      have hx3 : Box w3 w1.heap.size 5 (bc (beN 2 n)).toArray := by rw [← hw3, HTW.out]; exact Box.made w1.drew _ _
      refine step_run (w' := w3) 11 (.slice (some ⟨w1.heap.size, 0, none⟩) 2 2) rfl rfl (by rw [← hw3]; go_simp; first | done | rfl) ?_
      have hrg := mk_range (Box.below H1.out.2 hb3 H1.out.2.lt)
      refine hK.out _ _ hrg (fun hHeld => ?_)
      clear hK K hHeld
      try simp only [Act.put, List.setIfInBounds_toArray, List.set_cons_zero, List.set_cons_succ]
      refine wpAnyH_weakS (S' := fun u => u.rangeAt w.heap.size 0 (mvl m) ∧ Box u w1.heap.size 5 (bc (beN 2 n)).toArray) (fun u hu => hu.1) ?_
      have hHeld := And.intro hrg hx3
      refine take_run 6 12 (v := .string P2) rfl rfl (by kernel_rfl) (by kernel_rfl) (by kernel_rfl) (fun _ _ _ h => h) (by rfl) (fun wq hSw => by have hcv := conv_lies (lies_box (N := fun _ => True) hSw.2 trivial (n := 2) (beN_length 2 n)); rw [HP2.out] at hcv; go_simp; first | done | rfl) (by assumption) ?_
      try simp only [Act.put, List.setIfInBounds_toArray, List.set_cons_zero, List.set_cons_succ]
      refine wpAnyH_ready (rs := [1]) (by kernel_rfl) (by simp) ?_
      refine AllReadyH.cons rfl (fun K hK => ?_) AllReadyH.nil
      go_simp
      refine (HRB.out w3).mono ?_
      rintro e w2 ⟨rfl, hb2⟩
      refine hK.out _ _ ⟨mk_range (Box.below (Box.below H1.out.2 hb3 H1.out.2.lt) hb2 (Box.below H1.out.2 hb3 H1.out.2.lt).lt), Box.below hx3 hb2 hx3.lt⟩ (fun hHeld => ?_)
      clear hK K
      try simp only [Act.put, List.setIfInBounds_toArray, List.set_cons_zero, List.set_cons_succ]
      refine take_run 7 13 (v := ?_) rfl rfl (by kernel_rfl) (by kernel_rfl) (by kernel_rfl) (fun _ _ _ h => h) (by rfl) ?_ (by assumption) ?_
      rotate_left
      · (intro wq hSw; have hS1 := hSw; go_simp; first | done | with_reducible rfl)
      simp only [Act.put, List.setIfInBounds_toArray, List.set_cons_zero, List.set_cons_succ]
      refine take_run 9 15 (v := ?_) rfl rfl (by kernel_rfl) (by kernel_rfl) (by kernel_rfl) (fun _ _ _ h => h) (by rfl) ?_ (by assumption) ?_
      rotate_left
      · (intro wq hSw; have hS1 := hSw; go_simp; first | done | with_reducible rfl)
      simp only [Act.put, List.setIfInBounds_toArray, List.set_cons_zero, List.set_cons_succ]
      refine take_run 10 5 (v := ?_) rfl rfl (by kernel_rfl) (by kernel_rfl) (by kernel_rfl) (fun _ _ _ h => h) (by rfl) ?_ (by assumption) ?_
      rotate_left
      · (intro wq hSw; have hS1 := hSw; go_simp; first | done | with_reducible rfl)
      simp only [Act.put, List.setIfInBounds_toArray, List.set_cons_zero, List.set_cons_succ]
      refine wpAnyH_done (by kernel_rfl) ?_ _
      have HR := Lib.hid (hb3.trans (hb2.mono hb3.size))
      clear hHeld
      go_wp2
      go_meet
      exact Lib.hid ⟨rfl, HR.out⟩
  case rest =>
    obtain ⟨rfl, hwc⟩ := hcut.out
    have HB1 := Lib.hid (H1.out.1.trans (hwc.mono H1.out.1.size))
    have HM1 := Lib.hid (Box.below H1.out.2 hwc H1.out.2.lt)
    clear hcut hwc H1 HP2 HTW ha1 ha2 hs1 hs2 hw1 hps
    go_wp2_with fail
    go_loopw [5] (fun s wx => ∃ q : Nat, s = .string ⟨(m.bytes ++ beN 2 n ++ l ++ List.replicate q 0).toArray⟩ ∧ q ≤ 220 - n ∧ wx = wc) (fun s _ => 240 - (match s with | .string b => b.size | _ => 0))
    case atStart => exact ⟨0, by rw [List.replicate_zero, List.append_nil, HP4.out], by omega, rfl⟩
    case round =>
      obtain ⟨q, rfl, hq, hwx⟩ := hrel
      subst hwx
      have hlen : (m.bytes ++ beN 2 n ++ l ++ List.replicate q 0).length = 19 + n + q := by
        have h1 := m.bytes_length
        have h2 := beN_length 2 n
        have h3 := HN.out
        simp only [List.length_append, List.length_replicate]
        omega
      have hstep : m.bytes ++ beN 2 n ++ l ++ List.replicate (q + 1) 0 = m.bytes ++ beN 2 n ++ l ++ List.replicate q 0 ++ [0] := by rw [List.replicate_succ', List.append_assoc _ _ [0]]
      by_cases hlt : q < 220 - n
      · obtain ⟨PS, hPS⟩ : ∃ y, (⟨(m.bytes ++ beN 2 n ++ l ++ List.replicate q 0).toArray⟩ : ByteArray) = y := ⟨_, rfl⟩
        obtain ⟨PN, hPN⟩ : ∃ y, (⟨(m.bytes ++ beN 2 n ++ l ++ List.replicate (q + 1) 0).toArray⟩ : ByteArray) = y := ⟨_, rfl⟩
        have hadd : PS ++ { data := #[0] } = PN := by rw [← hPS, ← hPN, hstep]; exact str_append _ [0]
        have hsz : PS.size = 19 + n + q := by rw [← hPS, str_size]; exact hlen
        have hsn : PN.size = 19 + n + q + 1 := by rw [← hPN, str_size, hstep, List.length_append, hlen]; rfl
        have l1 : (19 : Int) + (n : Int) + (q : Int) < 239 := by omega
        have l2 : ((19 + n + q : Nat) : Int) < 239 := by omega
        have l3 : ¬ 9223372036854775807 < 19 + n + q + 1 := by omega
        have HPN := Lib.hid hPN
        rw [hPS]
        clear hlen hstep hPS hPN
        go_wp2
        go_roundw
        case rel => exact ⟨q + 1, by rw [HPN.out], by omega, trivial⟩
        case measure => simp [hsz, hsn]; omega
      · obtain ⟨PS, hPS⟩ : ∃ y, (⟨(m.bytes ++ beN 2 n ++ l ++ List.replicate q 0).toArray⟩ : ByteArray) = y := ⟨_, rfl⟩
        obtain ⟨PN, hPN⟩ : ∃ y, (⟨(sealed m l).toArray⟩ : ByteArray) = y := ⟨_, rfl⟩
        obtain rfl : q = 220 - n := by omega
        have hadd : PS ++ PM = PN := by rw [← hPS, ← hPN, ← HPM.out, str_append, sealed_parts', HN.out]
        have hsz : PS.size = 239 := by rw [← hPS, str_size, hlen]; omega
        have hpm : PM.size = 17 := by rw [← HPM.out, str_size, m.bytes_length]
        rw [hPS]
        clear hlen hstep hPS hlt hq
        go_wp2_with (refine wpList_load_row rfl 29 _ rfl w.heap.size rfl 29 _ (0, 0) _ HM1.out Try.underlying29 rfl (by rw [mv_size]; exact refInfo) ?_)
        refine (HRB.out wr).mono ?_
        rintro e wy ⟨rfl, hby⟩
        have HZ := Lib.hid (HB1.out.trans (hby.mono HB1.out.size))
        have HPN := Lib.hid hPN
        clear hby hPN
        go_wp2
        go_ret
        exact ⟨by rw [HPN.out]; rfl, HZ.out⟩
end Go.Proofs.Ythpfdenpgegheaa
