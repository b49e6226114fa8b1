/-
  MatRows walked: too many numbers.
-/
import Derived.Test.YtgakeecibofiiaaRowsBase
namespace Go.Proofs.Ytgakeecibofiiaa
open Go.RowKit Go.Shelf

set_option maxRecDepth 100000 in
set_option maxHeartbeats 6000000 in
theorem matRows_B (A : Option Addr) (n c : Nat) (M : List (List UInt8)) (B : Option Addr) (m d : Nat) (O : List (List UInt8)) (C : Option Addr) (k e : Nat) (l : List Int) (w : World) (hM : Mtx w A n c M) (hO : Mtx w B m d O) (hC : Lies w (fun _ => True) C k e (ics l)) (f1 : fewB M 20) (f2 : fewB O 20) (f3 : ¬ 300 < k) (hcase : decide (RightM M) = true) (hk1 : (1 : Int) ≤ (k : Int)) (hk2 : ¬ (k : Int) ≤ 255) : Calls Try.prog 7 #[.slice A n c, .slice B m d, .slice C k e] w fun e w' => e = .returned (.bool true) ∧ Below w.heap.size w w' := by
  have HB := Lib.hid (Below.refl w.heap.size w)
  have HA := Lib.hid hM
  have HO := Lib.hid hO
  have HL := Lib.hid hC
  have hlM := hM.len
  have hlO := hO.len
  have hlk : l.length = k := by rw [← ics_length]; exact hC.len
  have fewA : ∀ W, Mtx W A n c M → Calls Try.prog 10 #[.slice A n c, .int .i64 20] W fun e w' => e = .returned (.int .i64 1) ∧ w' = W := fun W h => by have h1 := few_says W A n c M h 20 (by omega); rwa [if_pos f1] at h1
  have fewO : ∀ W, Mtx W B m d O → Calls Try.prog 10 #[.slice B m d, .int .i64 20] W fun e w' => e = .returned (.int .i64 1) ∧ w' = W := fun W h => by have h1 := few_says W B m d O h 20 (by omega); rwa [if_pos f2] at h1
  have f3' : ¬ (300 : Int) < (k : Int) := by omega
  have hn := few20 hM f1
  have hm := few20 hO f2
  obtain ⟨rb, hrb⟩ : ∃ b, decide (RightM M) = b := ⟨_, rfl⟩
  have hrbv : true = rb := by rw [← hrb]; exact hcase.symm
  have rrA : ∀ W, Mtx W A n c M → Calls Try.prog 13 #[.slice A n c] W fun e w' => e = .returned (.bool rb) ∧ Below W.heap.size W w' := fun W h => by have h1 := rright_says W A n c M h; rwa [hrb] at h1
  obtain ⟨m0, hm0⟩ : ∃ b, (rb && (decide ((1 : Int) ≤ (k : Int)) && decide ((k : Int) ≤ 255))) = b := ⟨_, rfl⟩
  have FR := Lib.hid (show rowsR M l = if (m0 && okB n l) = true then (pickL M l, 0) else ([], 2) from by
    unfold rowsR
    have e1 : (RightM M ∧ (1 ≤ l.length ∧ l.length ≤ 255) ∧ okIdx M.length l) ↔ (m0 && okB n l) = true := by
      rw [← hm0, ← hrb, hlM, hlk, Bool.and_eq_true, okB_iff]
      simp only [Bool.and_eq_true, decide_eq_true_eq]
      constructor
      · rintro ⟨g1, g2, g3⟩
        exact ⟨⟨g1, by omega, by omega⟩, g3⟩
      · rintro ⟨⟨g1, g2, g3⟩, g4⟩
        exact ⟨g1, ⟨by omega, by omega⟩, g4⟩
    by_cases g : RightM M ∧ (1 ≤ l.length ∧ l.length ≤ 255) ∧ okIdx M.length l
    · rw [if_pos g, if_pos (e1.1 g)]
    · rw [if_neg g, if_neg (fun h => g (e1.2 h))])
  have HM0 := Lib.hid hm0
  have HRV := Lib.hid hrbv
  clear hM hO hC f1 f2 hrb hm0 f3 hrbv hcase
  obtain ⟨RX, hRX⟩ : ∃ x, (rowsR M l).1 = x := ⟨_, rfl⟩
  obtain ⟨RE, hRE⟩ : ∃ x, (rowsR M l).2 = x := ⟨_, rfl⟩
  go_enter Try.func7, Try.ntmps7
  go_wp2_with (first
    | (go_at_call 10; (with_reducible refine (fewA _ HA.out).mono ?_); rintro e wn ⟨rfl, hwn⟩; replace hwn := hwn.symm; subst hwn; skip)
    | (go_at_call 10; (with_reducible refine (fewO _ HO.out).mono ?_); rintro e wn ⟨rfl, hwn⟩; replace hwn := hwn.symm; subst hwn; skip)
    | (go_at_call 29; (with_reducible refine (rows_says _ A n c M HA.out (by omega) C k e l HL.out (by omega)).mono ?_); rintro e wn ⟨Ax, nx, cx, rfl, hmx, hbn⟩; replace HB := Lib.hid (HB.out.trans (hbn.mono HB.out.size)); (try replace HA := Lib.hid (HA.out.below hbn)); (try replace HO := Lib.hid (HO.out.below hbn)); (try replace HL := Lib.hid (HL.out.below hbn)); (try replace HX := Lib.hid (HX.out.below hbn)); (try replace HY := Lib.hid (HY.out.below hbn)); rw [hRX] at hmx; rw [hRE]; have HX := Lib.hid hmx; clear hmx; clear hbn))
  have HRX := Lib.hid (And.intro hRX hRE)
  clear hRX hRE
  have hrbv := HRV.out
  subst hrbv
  obtain rfl : false = m0 := by rw [← HM0.out, decide_eq_true (show (1 : Int) ≤ (k : Int) by omega), decide_eq_false (show ¬ (k : Int) ≤ 255 by omega)]; rfl
  go_wp2_with (first
    | (go_at_call 13; (with_reducible refine (rrA _ HA.out).mono ?_); rintro e wn ⟨rfl, hbn⟩; replace HB := Lib.hid (HB.out.trans (hbn.mono HB.out.size)); (try replace HA := Lib.hid (HA.out.below hbn)); (try replace HO := Lib.hid (HO.out.below hbn)); (try replace HL := Lib.hid (HL.out.below hbn)); (try replace HX := Lib.hid (HX.out.below hbn)); (try replace HY := Lib.hid (HY.out.below hbn));  clear hbn))
  obtain ⟨ws, hws⟩ : ∃ x, x = wn := ⟨_, rfl⟩
  subst hws
  have F2 := Lib.hid FR.out
  rw [Bool.false_and, if_neg (by decide)] at F2
  obtain rfl : [] = RX := by rw [← HRX.out.1, F2.out]
  obtain rfl : (2 : Int) = RE := by rw [← HRX.out.2, F2.out]
  obtain rfl : 0 = nx := HX.out.len
  go_loopw [9, 10] (fun mb i wr => ∃ j : Nat, j ≤ k ∧ i = .int .i64 (j : Int) ∧ mb = .bool false ∧ Hid (wr = ws)) (fun _ i _ => k - (intOf i).toNat)
  case atStart => exact ⟨0, by omega, rfl, by first | rfl | (rw [decide_eq_false (show ¬ (k : Int) ≤ 255 by omega)]), Lib.hid rfl⟩
  case round =>
    obtain ⟨j, hj, rfl, rfl, H⟩ := hrel
    obtain rfl : ws = wr := H.out.symm
    clear H
    by_cases hlt : j < k
    · have l1 : (j : Int) < (k : Int) := by omega
      go_wp2
      go_roundw
      case rel => exact ⟨j + 1, by omega, by go_num, rfl, Lib.hid trivial⟩
      case measure => simp [intOf]; omega
    · obtain rfl : j = k := by omega
      have l1 : ¬ (j : Int) < (j : Int) := by omega
      go_wp2_with fail
      go_loopw [11] (fun i wr => i = .int .i64 0 ∧ Hid (wr = ws)) (fun _ _ => 0)
      case atStart => exact ⟨rfl, Lib.hid rfl⟩
      case round =>
        obtain ⟨rfl, H⟩ := hrel
        obtain rfl : ws = wr := H.out.symm
        clear H
        go_wp2_with (first
          | (go_at_call 28; (with_reducible refine (join_says _ A n c M HA.out (by omega) B m d O HO.out (by omega)).mono ?_); rintro e wn ⟨Ay, ny, cy, rfl, hmy, hbn⟩; replace HB := Lib.hid (HB.out.trans (hbn.mono HB.out.size)); (try replace HA := Lib.hid (HA.out.below hbn)); (try replace HO := Lib.hid (HO.out.below hbn)); (try replace HL := Lib.hid (HL.out.below hbn)); (try replace HX := Lib.hid (HX.out.below hbn)); (try replace HY := Lib.hid (HY.out.below hbn)); have HY := Lib.hid hmy; clear hmy; clear hbn))
        by_cases h1 : RightM M
        · have k1 : ∀ q : Grows wn, _ := fun q => rrightG wn A n c M HA.out true (decide_eq_true h1) q
          by_cases h2 : RightM O
          · have k2 : ∀ q : Grows wn, _ := fun q => rrightG wn B m d O HO.out true (decide_eq_true h2) q
            obtain ⟨r0, hr0⟩ : ∃ r, M[0]? = some r := ⟨_, List.getElem?_eq_getElem (by have := h1.1; omega)⟩
            obtain ⟨q0, hq0⟩ : ∃ r, O[0]? = some r := ⟨_, List.getElem?_eq_getElem (by have := h2.1; omega)⟩
            obtain ⟨ba, oa, A0, c0, hA0, hba, hca, _⟩ := HA.out.row hr0
            obtain ⟨bb, ob, B0, d0, hB0, hbb, hcb, _⟩ := HO.out.row hq0
            subst hA0 hB0
            rw [right_row h1 hr0, Nat.add_zero] at hca
            rw [right_row h2 hq0, Nat.add_zero] at hcb
            have k3 := grows_cell hca hba
            have k4 := grows_cell hcb hbb
            have hn0 : 0 < n := by have := h1.1; omega
            have hm0 : 0 < m := by have := h2.1; omega
            by_cases h3 : colsOf M = colsOf O
            · have FJ := Lib.hid (show joinR M O = (M ++ O, 0) from by rw [joinR, if_pos ⟨h1, h2, h3, by omega⟩])
              rw [FJ.out] at HY ⊢
              rw [← h3] at k4
              obtain ⟨t, ht⟩ : ∃ t, n + m = t := ⟨_, rfl⟩
              obtain rfl : t = ny := by have := HY.out.len; rw [List.length_append] at this; omega
              have hnt : n ≤ t := by omega
              have s3 : (n : Int) + (m : Int) = (t : Int) := by omega
              have s2 : IntKind.i64.wrap (t : Int) = (t : Int) := IntWalk.i64_in _ (by omega)
              have hle := HY.out.le
              have FT1 := Lib.hid (show (M ++ O).take n = M from by rw [← hlM, List.take_left'] ; rfl)
              have FT2 := Lib.hid (show (M ++ O).drop n = O from by rw [← hlM, List.drop_left'] ; rfl)
              have hs1 := fun w => sliceAt_to (P := Try.prog) Try.underlying26 rowInfo1 .i64 Ay t cy n (by omega) w
              have hs2 := fun w => sliceAt_from (P := Try.prog) Try.underlying26 rowInfo1 .i64 Ay t cy n hnt w
              generalize colsOf M = cl at k3 k4
              clear h1 h2 h3 hr0 hq0 hca hcb
              go_wp2_with fail
              refine wp_region_grows (by kernel_rfl) (by kernel_rfl) ?_
              repeat (first
                | quiet_step (first | (go_at_call 13; with_reducible exact k1 _) | (go_at_call 13; with_reducible exact k2 _)))
              refine wpQuiet_nil ?_
              rintro wz ⟨⟨_, hbn⟩, rfl⟩
              replace HB := Lib.hid (HB.out.trans (hbn.mono HB.out.size))
              replace HA := Lib.hid (HA.out.below hbn)
              replace HO := Lib.hid (HO.out.below hbn)
              replace HY := Lib.hid (HY.out.below hbn)
              clear hbn k1 k2 k3 k4
              go_wp2_with (first
                | (go_at_call 14; (with_reducible refine (rsameM_says _ Ay n cy _ (HY.out.first hnt) _ n c M HA.out (by omega)).mono ?_); rintro e wn ⟨rfl, hbn⟩; replace HB := Lib.hid (HB.out.trans (hbn.mono HB.out.size)); (try replace HA := Lib.hid (HA.out.below hbn)); (try replace HO := Lib.hid (HO.out.below hbn)); (try replace HL := Lib.hid (HL.out.below hbn)); (try replace HX := Lib.hid (HX.out.below hbn)); (try replace HY := Lib.hid (HY.out.below hbn)); rw [decide_eq_true FT1.out]; clear hbn)
                | (go_at_call 14; (with_reducible refine (rsameM_says _ (cutA Ay cy n) (t - n) (cy - n) _ (HY.out.tail hnt) _ m d O HO.out (by omega)).mono ?_); rintro e wn ⟨rfl, hbn⟩; replace HB := Lib.hid (HB.out.trans (hbn.mono HB.out.size)); (try replace HA := Lib.hid (HA.out.below hbn)); (try replace HO := Lib.hid (HO.out.below hbn)); (try replace HL := Lib.hid (HL.out.below hbn)); (try replace HX := Lib.hid (HX.out.below hbn)); (try replace HY := Lib.hid (HY.out.below hbn)); rw [decide_eq_true FT2.out]; clear hbn)
                | (go_at_call 22; (with_reducible refine (lone_says _).mono ?_); rintro e wn ⟨rfl, hbn⟩; replace HB := Lib.hid (HB.out.trans (hbn.mono HB.out.size)); (try replace HA := Lib.hid (HA.out.below hbn)); (try replace HO := Lib.hid (HO.out.below hbn)); (try replace HL := Lib.hid (HL.out.below hbn)); (try replace HX := Lib.hid (HX.out.below hbn)); (try replace HY := Lib.hid (HY.out.below hbn));  clear hbn))
              go_ret
              exact ⟨rfl, HB.out⟩
            · have FJ := Lib.hid (show joinR M O = ([], 2) from by rw [joinR, if_neg (fun h => h3 h.2.2.1)])
              rw [FJ.out] at HY ⊢
              have hne : ((colsOf M : Int) == (colsOf O : Int)) = false := by simp; omega
              generalize colsOf M = cl at k3 hne
              generalize colsOf O = co at k4 hne
              clear h1 h2 h3 hr0 hq0 hca hcb
              go_wp2_with fail
              refine wp_region_grows (by kernel_rfl) (by kernel_rfl) ?_
              repeat (first
                | quiet_step (first | (go_at_call 13; with_reducible exact k1 _) | (go_at_call 13; with_reducible exact k2 _)))
              refine wpQuiet_nil ?_
              rintro wz ⟨⟨_, hbn⟩, rfl⟩
              replace HB := Lib.hid (HB.out.trans (hbn.mono HB.out.size))
              clear hbn k1 k2 k3 k4
              go_wp2_with (first
                | (go_at_call 22; (with_reducible refine (lone_says _).mono ?_); rintro e wn ⟨rfl, hbn⟩; replace HB := Lib.hid (HB.out.trans (hbn.mono HB.out.size)); (try replace HA := Lib.hid (HA.out.below hbn)); (try replace HO := Lib.hid (HO.out.below hbn)); (try replace HL := Lib.hid (HL.out.below hbn)); (try replace HX := Lib.hid (HX.out.below hbn)); (try replace HY := Lib.hid (HY.out.below hbn));  clear hbn))
              go_ret
              exact ⟨rfl, HB.out⟩
          · have k2 : ∀ q : Grows wn, _ := fun q => rrightG wn B m d O HO.out false (decide_eq_false h2) q
            have FJ := Lib.hid (show joinR M O = ([], 2) from by rw [joinR, if_neg (fun h => h2 h.2.1)])
            rw [FJ.out] at HY ⊢
            clear h1 h2
            go_wp2_with fail
            refine wp_region_grows (by kernel_rfl) (by kernel_rfl) ?_
            repeat (first
              | (with_reducible refine wpQuiet_no ?_ ?_; (· first | (go_simp; done) | (go_simp; simp [undef]; done)); simp only [Act.put, List.setIfInBounds_toArray, List.set_cons_zero, List.set_cons_succ])
              | quiet_step (first | (go_at_call 13; with_reducible exact k1 _) | (go_at_call 13; with_reducible exact k2 _)))
            refine wpQuiet_nil ?_
            rintro wz ⟨⟨_, hbn⟩, rfl⟩
            replace HB := Lib.hid (HB.out.trans (hbn.mono HB.out.size))
            clear hbn k1 k2
            go_wp2_with (first
              | (go_at_call 22; (with_reducible refine (lone_says _).mono ?_); rintro e wn ⟨rfl, hbn⟩; replace HB := Lib.hid (HB.out.trans (hbn.mono HB.out.size)); (try replace HA := Lib.hid (HA.out.below hbn)); (try replace HO := Lib.hid (HO.out.below hbn)); (try replace HL := Lib.hid (HL.out.below hbn)); (try replace HX := Lib.hid (HX.out.below hbn)); (try replace HY := Lib.hid (HY.out.below hbn));  clear hbn))
            go_ret
            exact ⟨rfl, HB.out⟩
        · have k1 : ∀ q : Grows wn, _ := fun q => rrightG wn A n c M HA.out false (decide_eq_false h1) q
          have FJ := Lib.hid (show joinR M O = ([], 2) from by rw [joinR, if_neg (fun h => h1 h.1)])
          rw [FJ.out] at HY ⊢
          clear h1
          go_wp2_with fail
          refine wp_region_grows (by kernel_rfl) (by kernel_rfl) ?_
          repeat (first
            | (with_reducible refine wpQuiet_no ?_ ?_; (· first | (go_simp; done) | (go_simp; simp [undef]; done)); simp only [Act.put, List.setIfInBounds_toArray, List.set_cons_zero, List.set_cons_succ])
            | quiet_step (first | (go_at_call 13; with_reducible exact k1 _)))
          refine wpQuiet_nil ?_
          rintro wz ⟨⟨_, hbn⟩, rfl⟩
          replace HB := Lib.hid (HB.out.trans (hbn.mono HB.out.size))
          clear hbn k1
          go_wp2_with (first
            | (go_at_call 22; (with_reducible refine (lone_says _).mono ?_); rintro e wn ⟨rfl, hbn⟩; replace HB := Lib.hid (HB.out.trans (hbn.mono HB.out.size)); (try replace HA := Lib.hid (HA.out.below hbn)); (try replace HO := Lib.hid (HO.out.below hbn)); (try replace HL := Lib.hid (HL.out.below hbn)); (try replace HX := Lib.hid (HX.out.below hbn)); (try replace HY := Lib.hid (HY.out.below hbn));  clear hbn))
          go_ret
          exact ⟨rfl, HB.out⟩
end Go.Proofs.Ytgakeecibofiiaa
