/-
  MatBack walked.
-/
import Derived.Test.YtgakeecibofiiaaLawOne
import Derived.Test.YtgakeecibofiiaaBackN
import Derived.Test.YtgakeecibofiiaaCaps
import Derived.Test.YtgakeecibofiiaaMakesWalk
import Derived.Test.YtgakeecibofiiaaTurnsWalk
namespace Go.Proofs.Ytgakeecibofiiaa
open Go.RowKit Go.Shelf

set_option maxRecDepth 100000 in
set_option maxHeartbeats 4000000 in
theorem matBack_walk (A : Option Addr) (n c : Nat) (M : List (List UInt8)) (w : World) (hM : Mtx w A n c M) (hcap : Caps w A n) : Calls Try.prog 5 #[.slice A n c] w fun e w' => e = .returned (.bool true) ∧ Below w.heap.size w w' := by
  have HB := Lib.hid (Below.refl w.heap.size w)
  have HA := Lib.hid hM
  have HM0 := Lib.hid hM
  have HCP := Lib.hid hcap
  have hlm := hM.len
  by_cases f1 : fewB M 10
  · have fewA : ∀ W, Mtx W A n c M → Calls Try.prog 10 #[.slice A n c, .int .i64 10] W fun e w' => e = .returned (.int .i64 1) ∧ w' = W := fun W h => by have h1 := few_says W A n c M h 10 (by omega); rwa [if_pos f1] at h1
    have hn := rows_few hM f1
    have HF1 := Lib.hid f1
    clear hM hcap f1
    go_enter Try.func5, Try.ntmps5
    go_wp2_with (first
      | (go_at_call 10; (with_reducible refine (fewA _ HA.out).mono ?_); rintro e wn ⟨rfl, hwn⟩; replace hwn := hwn.symm; subst hwn; skip)
      | (go_at_call 11; (with_reducible refine (new_says _).mono ?_); rintro e wn ⟨P, rfl, hbn⟩; replace HB := Lib.hid (HB.out.trans (hbn.mono HB.out.size)); (try replace HA := Lib.hid (HA.out.below hbn)); (try replace HW := Lib.hid (HW.out.below hbn)); (try replace HX := Lib.hid (HX.out.below hbn)); (try replace HY1 := Lib.hid (HY1.out.below hbn)); (try replace HY2 := Lib.hid (HY2.out.below hbn)); (try replace HY3 := Lib.hid (HY3.out.below hbn)); (try replace HO1 := Lib.hid (HO1.out.below hbn)); (try replace HO2 := Lib.hid (HO2.out.below hbn));  clear hbn))
    obtain ⟨wb, hwb⟩ : ∃ x, x = wn := ⟨_, rfl⟩
    subst hwb
    go_loopw [4, 5] (fun o i wr => ∃ k : Nat, k ≤ n ∧ i = .int .i64 (k : Int) ∧ Hid (Bld wr wb.heap.size o (M.take k) ∧ Below w.heap.size w wr ∧ wb.heap.size ≤ wr.heap.size)) (fun _ i _ => n - (intOf i).toNat)
    case atStart => exact ⟨0, by omega, rfl, Lib.hid ⟨by simpa using Bld.nil _ _, HB.out, Nat.le_refl _⟩⟩
    case round =>
      obtain ⟨k, hk, rfl, H⟩ := hrel
      by_cases hlt : k < n
      · have l1 : (k : Int) < (n : Int) := by omega
        obtain ⟨r, hr⟩ : ∃ r, M[k]? = some r := ⟨_, List.getElem?_eq_getElem (by omega)⟩
        obtain ⟨b, off, Ak, ck, hA, hb, hck, hlk⟩ := HM0.out.row hr
        subst hA
        have hnil := HCP.out b off k Ak r.length ck rfl hlt hck
        have hrl : r.length ≤ 10 := HF1.out.2 r (List.mem_of_getElem? hr)
        have hc1 : wr.cell? ⟨b, off + k, none⟩ = some (.slice Ak r.length ck) := (H.out.2.1.cell (p := ⟨b, off + k, none⟩) hb).trans hck
        have hal : Below wr.heap.size wr (wr.alloc (.cells #[] 5)) := (Below.refl _ wr).alloc (Nat.le_refl _) _
        replace hc1 : (wr.alloc (.cells #[] 5)).cell? ⟨b, off + k, none⟩ = some (.slice Ak r.length ck) := (hal.cell (p := ⟨b, off + k, none⟩) (Nat.lt_of_lt_of_le hb H.out.2.1.size)).trans hc1
        have HLK := Lib.hid ((hlk.below H.out.2.1).below hal)
        have HO8 := Lib.hid (Own.made wr (base := wr.heap.size) (Nat.le_refl _))
        have HAL := Lib.hid hal
        have HTK := Lib.hid (show M.take (k + 1) = M.take k ++ [r] from by rw [List.take_add_one, hr]; rfl)
        have HLM := Lib.hid (show (M.take k).length ≤ 100000 from by rw [List.length_take]; omega)
        obtain ⟨lr, hlr⟩ : ∃ t, r.length = t := ⟨_, rfl⟩
        rw [hlr] at hc1 HLK
        have HLR := Lib.hid hlr
        have HNIL := Lib.hid hnil
        clear hck hlk hal hr hlr hnil
        go_wp2_with (first
          | (at_builtin; refine wpList_bytes _ _ _ rfl rfl wr.heap.size _ [] Ak lr ck r rfl rfl HO8.out HLK.out HNIL.out (by simp; omega) (by simp) ?_; intro v8 w8 ho8 hg8; have hb8 := HAL.out.trans (HO8.out.changed hg8 (by simp)); obtain ⟨A8, c8, hv8, hl8⟩ := (show Own w8 wr.heap.size v8 r from ho8).liesN; subst hv8; have HL8 := Lib.hid hl8; have HBD := Lib.hid (H.out.1.below hb8); have HBW := Lib.hid (show Below w.heap.size w w8 ∧ wb.heap.size ≤ w8.heap.size from ⟨H.out.2.1.trans (hb8.mono H.out.2.1.size), Nat.le_trans H.out.2.2 hb8.size⟩); clear ho8 hg8 hb8 hl8)
          | (at_builtin; refine wpList_append_row w8 _ _ rfl rfl wb.heap.size u4 (M.take k) A8 c8 r rfl rfl HBD.out HL8.out HLM.out HBW.out.2 ?_; intro v9 w9 hb9 hg9))
        have HB9 := Lib.hid (show Bld w9 wb.heap.size v9 (M.take k ++ [r]) ∧ Below w.heap.size w w9 ∧ wb.heap.size ≤ w9.heap.size from ⟨hb9, HBW.out.1.trans (hg9.mono (Nat.le_trans HB.out.size (Nat.le_refl _))), Nat.le_trans HBW.out.2 hg9.size⟩)
        clear hb9 hg9
        go_wp2
        go_roundw
        case rel => exact ⟨k + 1, by omega, by go_num, by rw [HTK.out]; exact HB9⟩
        case measure => simp [intOf]; omega
      · obtain rfl : k = n := by omega
        have l1 : ¬ (k : Int) < (k : Int) := by omega
        have hbl := H.out.1
        rw [List.take_of_length_le (by omega)] at hbl
        obtain ⟨Aw, cw, hvw, hmw⟩ := hbl.mtx
        rw [hlm] at hvw hmw
        subst hvw
        have HW := Lib.hid hmw
        have HA := Lib.hid (HM0.out.below H.out.2.1)
        have HB := Lib.hid H.out.2.1
        clear hbl hmw H
        by_cases hsq : RightM M ∧ colsOf M = M.length
        · have rrA : ∀ W A, Mtx W A k c M → Calls Try.prog 13 #[.slice A k c] W fun e w' => e = .returned (.bool true) ∧ Below W.heap.size W w' := fun W A h => by have h1 := rright_says W A k c M h; rwa [decide_eq_true hsq.1] at h1
          obtain ⟨r0, hr0, _, hr0l⟩ := (square_lev hsq).get (show 0 < M.length by have := hsq.1.1; omega)
          rw [hlm] at hr0l
          have hk0 : 0 < k := by have := hsq.1.1; omega
          by_cases hrk : rankL M < M.length
          · have FB := Lib.hid (show backR M = ([], 18) from by rw [backR, if_pos hsq, if_pos hrk])
            have hrk' : (rankL M : Int) < (k : Int) := by omega
            clear hsq hrk
            go_wp2_with (first
              | (go_at_call 27; (with_reducible refine (back_says P _ A k c M HA.out (by omega)).mono ?_); rintro e wn ⟨Ax, nx, cx, rfl, hmx, hbn⟩; replace HB := Lib.hid (HB.out.trans (hbn.mono HB.out.size)); (try replace HA := Lib.hid (HA.out.below hbn)); (try replace HW := Lib.hid (HW.out.below hbn)); (try replace HX := Lib.hid (HX.out.below hbn)); (try replace HY1 := Lib.hid (HY1.out.below hbn)); (try replace HY2 := Lib.hid (HY2.out.below hbn)); (try replace HY3 := Lib.hid (HY3.out.below hbn)); (try replace HO1 := Lib.hid (HO1.out.below hbn)); (try replace HO2 := Lib.hid (HO2.out.below hbn)); rw [FB.out] at hmx ⊢; obtain rfl : nx = 0 := hmx.len.symm; have HX := Lib.hid hmx; clear hmx; clear hbn)
              | (go_at_call 14; (with_reducible refine (rsameM_says _ Aw k cw _ HW.out A k c M HA.out (by omega)).mono ?_); rintro e wn ⟨rfl, hbn⟩; replace HB := Lib.hid (HB.out.trans (hbn.mono HB.out.size)); (try replace HA := Lib.hid (HA.out.below hbn)); (try replace HW := Lib.hid (HW.out.below hbn)); (try replace HX := Lib.hid (HX.out.below hbn)); (try replace HY1 := Lib.hid (HY1.out.below hbn)); (try replace HY2 := Lib.hid (HY2.out.below hbn)); (try replace HY3 := Lib.hid (HY3.out.below hbn)); (try replace HO1 := Lib.hid (HO1.out.below hbn)); (try replace HO2 := Lib.hid (HO2.out.below hbn)); rw [decide_eq_true rfl]; clear hbn)
              | (go_at_call 13; (with_reducible refine (rrA _ _ HA.out).mono ?_); rintro e wn ⟨rfl, hbn⟩; replace HB := Lib.hid (HB.out.trans (hbn.mono HB.out.size)); (try replace HA := Lib.hid (HA.out.below hbn)); (try replace HW := Lib.hid (HW.out.below hbn)); (try replace HX := Lib.hid (HX.out.below hbn)); (try replace HY1 := Lib.hid (HY1.out.below hbn)); (try replace HY2 := Lib.hid (HY2.out.below hbn)); (try replace HY3 := Lib.hid (HY3.out.below hbn)); (try replace HO1 := Lib.hid (HO1.out.below hbn)); (try replace HO2 := Lib.hid (HO2.out.below hbn)); (try (obtain ⟨ba, oa, A0, c0, hA0, hba, hca, _⟩ := HA.out.row hr0; rw [hr0l, Nat.add_zero] at hca; subst hA0)); clear hbn)
              | (go_at_call 18; (with_reducible refine (rank_says P _ _ k c M HA.out (by omega)).mono ?_); rintro e wn ⟨rfl, hbn⟩; replace HB := Lib.hid (HB.out.trans (hbn.mono HB.out.size)); (try replace HA := Lib.hid (HA.out.below hbn)); (try replace HW := Lib.hid (HW.out.below hbn)); (try replace HX := Lib.hid (HX.out.below hbn)); (try replace HY1 := Lib.hid (HY1.out.below hbn)); (try replace HY2 := Lib.hid (HY2.out.below hbn)); (try replace HY3 := Lib.hid (HY3.out.below hbn)); (try replace HO1 := Lib.hid (HO1.out.below hbn)); (try replace HO2 := Lib.hid (HO2.out.below hbn));  clear hbn)
              | (go_at_call 22; (with_reducible refine (lone_says _).mono ?_); rintro e wn ⟨rfl, hbn⟩; replace HB := Lib.hid (HB.out.trans (hbn.mono HB.out.size)); (try replace HA := Lib.hid (HA.out.below hbn)); (try replace HW := Lib.hid (HW.out.below hbn)); (try replace HX := Lib.hid (HX.out.below hbn)); (try replace HY1 := Lib.hid (HY1.out.below hbn)); (try replace HY2 := Lib.hid (HY2.out.below hbn)); (try replace HY3 := Lib.hid (HY3.out.below hbn)); (try replace HO1 := Lib.hid (HO1.out.below hbn)); (try replace HO2 := Lib.hid (HO2.out.below hbn));  clear hbn))
            go_ret
            exact ⟨rfl, HB.out⟩
          · have FB := Lib.hid (show backR M = (backL M M.length, 0) from by rw [backR, if_pos hsq, if_neg hrk])
            obtain ⟨⟨g1, g2, g3⟩, g4, g5, g6⟩ := back_good hsq hrk
            have hrk' : ¬ (rankL M : Int) < (k : Int) := by omega
            rw [hlm] at FB g1 g2 g3 g4 g5 g6
            have F1 := Lib.hid (show mulR M (backL M k) = (matBy k k oneF, 0) from by
              rw [mulR, if_pos g1, appR, if_pos ⟨hsq.1, by rw [g3, hsq.2, hlm], right_level g1⟩, g4])
            have F2 := Lib.hid (show mulR (backL M k) M = (matBy k k oneF, 0) from by
              rw [mulR, if_pos hsq.1, appR, if_pos ⟨g1, by rw [g2, hlm], right_level hsq.1⟩, g5])
            have F3 := Lib.hid g6
            have hgl := g3
            generalize backL M k = X at FB F1 F2 F3 hgl
            clear hsq hrk g1 g2 g3 g4 g5 g6
            go_wp2_with (first
              | (go_at_call 27; (with_reducible refine (back_says P _ A k c M HA.out (by omega)).mono ?_); rintro e wn ⟨Ax, nx, cx, rfl, hmx, hbn⟩; replace HB := Lib.hid (HB.out.trans (hbn.mono HB.out.size)); (try replace HA := Lib.hid (HA.out.below hbn)); (try replace HW := Lib.hid (HW.out.below hbn)); (try replace HX := Lib.hid (HX.out.below hbn)); (try replace HY1 := Lib.hid (HY1.out.below hbn)); (try replace HY2 := Lib.hid (HY2.out.below hbn)); (try replace HY3 := Lib.hid (HY3.out.below hbn)); (try replace HO1 := Lib.hid (HO1.out.below hbn)); (try replace HO2 := Lib.hid (HO2.out.below hbn)); rw [FB.out] at hmx ⊢; obtain rfl : k = nx := (by rw [← hmx.len]; exact hgl.symm); have HX := Lib.hid hmx; clear hmx; clear hbn)
              | (go_at_call 14; (with_reducible refine (rsameM_says _ Aw k cw _ HW.out A k c M HA.out (by omega)).mono ?_); rintro e wn ⟨rfl, hbn⟩; replace HB := Lib.hid (HB.out.trans (hbn.mono HB.out.size)); (try replace HA := Lib.hid (HA.out.below hbn)); (try replace HW := Lib.hid (HW.out.below hbn)); (try replace HX := Lib.hid (HX.out.below hbn)); (try replace HY1 := Lib.hid (HY1.out.below hbn)); (try replace HY2 := Lib.hid (HY2.out.below hbn)); (try replace HY3 := Lib.hid (HY3.out.below hbn)); (try replace HO1 := Lib.hid (HO1.out.below hbn)); (try replace HO2 := Lib.hid (HO2.out.below hbn)); rw [decide_eq_true rfl]; clear hbn)
              | (go_at_call 13; (with_reducible refine (rrA _ _ HA.out).mono ?_); rintro e wn ⟨rfl, hbn⟩; replace HB := Lib.hid (HB.out.trans (hbn.mono HB.out.size)); (try replace HA := Lib.hid (HA.out.below hbn)); (try replace HW := Lib.hid (HW.out.below hbn)); (try replace HX := Lib.hid (HX.out.below hbn)); (try replace HY1 := Lib.hid (HY1.out.below hbn)); (try replace HY2 := Lib.hid (HY2.out.below hbn)); (try replace HY3 := Lib.hid (HY3.out.below hbn)); (try replace HO1 := Lib.hid (HO1.out.below hbn)); (try replace HO2 := Lib.hid (HO2.out.below hbn)); (try (obtain ⟨ba, oa, A0, c0, hA0, hba, hca, _⟩ := HA.out.row hr0; rw [hr0l, Nat.add_zero] at hca; subst hA0)); clear hbn)
              | (go_at_call 18; (with_reducible refine (rank_says P _ _ k c M HA.out (by omega)).mono ?_); rintro e wn ⟨rfl, hbn⟩; replace HB := Lib.hid (HB.out.trans (hbn.mono HB.out.size)); (try replace HA := Lib.hid (HA.out.below hbn)); (try replace HW := Lib.hid (HW.out.below hbn)); (try replace HX := Lib.hid (HX.out.below hbn)); (try replace HY1 := Lib.hid (HY1.out.below hbn)); (try replace HY2 := Lib.hid (HY2.out.below hbn)); (try replace HY3 := Lib.hid (HY3.out.below hbn)); (try replace HO1 := Lib.hid (HO1.out.below hbn)); (try replace HO2 := Lib.hid (HO2.out.below hbn));  clear hbn)
              | (go_at_call 12; (with_reducible refine (mulM_says P _ _ k c M HA.out Ax _ cx _ HX.out (by omega) (by omega)).mono ?_); rintro e wn ⟨A1, n1, c1, rfl, hm1, hbn⟩; replace HB := Lib.hid (HB.out.trans (hbn.mono HB.out.size)); (try replace HA := Lib.hid (HA.out.below hbn)); (try replace HW := Lib.hid (HW.out.below hbn)); (try replace HX := Lib.hid (HX.out.below hbn)); (try replace HY1 := Lib.hid (HY1.out.below hbn)); (try replace HY2 := Lib.hid (HY2.out.below hbn)); (try replace HY3 := Lib.hid (HY3.out.below hbn)); (try replace HO1 := Lib.hid (HO1.out.below hbn)); (try replace HO2 := Lib.hid (HO2.out.below hbn)); rw [F1.out] at hm1 ⊢; have HY1 := Lib.hid hm1; clear hm1; clear hbn)
              | (go_at_call 12; (with_reducible refine (mulM_says P _ Ax _ cx _ HX.out _ k c M HA.out (by omega) (by omega)).mono ?_); rintro e wn ⟨A2, n2, c2, rfl, hm2, hbn⟩; replace HB := Lib.hid (HB.out.trans (hbn.mono HB.out.size)); (try replace HA := Lib.hid (HA.out.below hbn)); (try replace HW := Lib.hid (HW.out.below hbn)); (try replace HX := Lib.hid (HX.out.below hbn)); (try replace HY1 := Lib.hid (HY1.out.below hbn)); (try replace HY2 := Lib.hid (HY2.out.below hbn)); (try replace HY3 := Lib.hid (HY3.out.below hbn)); (try replace HO1 := Lib.hid (HO1.out.below hbn)); (try replace HO2 := Lib.hid (HO2.out.below hbn)); rw [F2.out] at hm2 ⊢; have HY2 := Lib.hid hm2; clear hm2; clear hbn)
              | (go_at_call 27; (with_reducible refine (back_says P _ Ax _ cx _ HX.out (by omega)).mono ?_); rintro e wn ⟨A3, n3, c3, rfl, hm3, hbn⟩; replace HB := Lib.hid (HB.out.trans (hbn.mono HB.out.size)); (try replace HA := Lib.hid (HA.out.below hbn)); (try replace HW := Lib.hid (HW.out.below hbn)); (try replace HX := Lib.hid (HX.out.below hbn)); (try replace HY1 := Lib.hid (HY1.out.below hbn)); (try replace HY2 := Lib.hid (HY2.out.below hbn)); (try replace HY3 := Lib.hid (HY3.out.below hbn)); (try replace HO1 := Lib.hid (HO1.out.below hbn)); (try replace HO2 := Lib.hid (HO2.out.below hbn)); rw [F3.out] at hm3 ⊢; have HY3 := Lib.hid hm3; clear hm3; clear hbn)
              | (go_at_call 25; (with_reducible refine (roneM_says _ k (by omega)).mono ?_); rintro e wn ⟨v4, rfl, hm4, hbn⟩; replace HB := Lib.hid (HB.out.trans (hbn.mono HB.out.size)); (try replace HA := Lib.hid (HA.out.below hbn)); (try replace HW := Lib.hid (HW.out.below hbn)); (try replace HX := Lib.hid (HX.out.below hbn)); (try replace HY1 := Lib.hid (HY1.out.below hbn)); (try replace HY2 := Lib.hid (HY2.out.below hbn)); (try replace HY3 := Lib.hid (HY3.out.below hbn)); (try replace HO1 := Lib.hid (HO1.out.below hbn)); (try replace HO2 := Lib.hid (HO2.out.below hbn)); obtain ⟨A4, c4, rfl, hx4⟩ := hm4.mtx; have HO1 := Lib.hid hx4; clear hx4 hm4; clear hbn)
              | (go_at_call 14; (with_reducible refine (rsameM_says _ A1 n1 c1 _ HY1.out A4 _ c4 _ HO1.out (by rw [← HY1.out.len, matBy_length]; omega)).mono ?_); rintro e wn ⟨rfl, hbn⟩; replace HB := Lib.hid (HB.out.trans (hbn.mono HB.out.size)); (try replace HA := Lib.hid (HA.out.below hbn)); (try replace HW := Lib.hid (HW.out.below hbn)); (try replace HX := Lib.hid (HX.out.below hbn)); (try replace HY1 := Lib.hid (HY1.out.below hbn)); (try replace HY2 := Lib.hid (HY2.out.below hbn)); (try replace HY3 := Lib.hid (HY3.out.below hbn)); (try replace HO1 := Lib.hid (HO1.out.below hbn)); (try replace HO2 := Lib.hid (HO2.out.below hbn)); rw [decide_eq_true (one_alike k)]; clear HO1; clear hbn)
              | (go_at_call 14; (with_reducible refine (rsameM_says _ A2 n2 c2 _ HY2.out A4 _ c4 _ HO1.out (by rw [← HY2.out.len, matBy_length]; omega)).mono ?_); rintro e wn ⟨rfl, hbn⟩; replace HB := Lib.hid (HB.out.trans (hbn.mono HB.out.size)); (try replace HA := Lib.hid (HA.out.below hbn)); (try replace HW := Lib.hid (HW.out.below hbn)); (try replace HX := Lib.hid (HX.out.below hbn)); (try replace HY1 := Lib.hid (HY1.out.below hbn)); (try replace HY2 := Lib.hid (HY2.out.below hbn)); (try replace HY3 := Lib.hid (HY3.out.below hbn)); (try replace HO1 := Lib.hid (HO1.out.below hbn)); (try replace HO2 := Lib.hid (HO2.out.below hbn)); rw [decide_eq_true (one_alike k)]; clear HO1; clear hbn)
              | (go_at_call 14; (with_reducible refine (rsameM_says _ A3 n3 c3 _ HY3.out _ k c M HA.out (by rw [← HY3.out.len]; omega)).mono ?_); rintro e wn ⟨rfl, hbn⟩; replace HB := Lib.hid (HB.out.trans (hbn.mono HB.out.size)); (try replace HA := Lib.hid (HA.out.below hbn)); (try replace HW := Lib.hid (HW.out.below hbn)); (try replace HX := Lib.hid (HX.out.below hbn)); (try replace HY1 := Lib.hid (HY1.out.below hbn)); (try replace HY2 := Lib.hid (HY2.out.below hbn)); (try replace HY3 := Lib.hid (HY3.out.below hbn)); (try replace HO1 := Lib.hid (HO1.out.below hbn)); (try replace HO2 := Lib.hid (HO2.out.below hbn)); rw [decide_eq_true rfl]; clear hbn)
              | (go_at_call 22; (with_reducible refine (lone_says _).mono ?_); rintro e wn ⟨rfl, hbn⟩; replace HB := Lib.hid (HB.out.trans (hbn.mono HB.out.size)); (try replace HA := Lib.hid (HA.out.below hbn)); (try replace HW := Lib.hid (HW.out.below hbn)); (try replace HX := Lib.hid (HX.out.below hbn)); (try replace HY1 := Lib.hid (HY1.out.below hbn)); (try replace HY2 := Lib.hid (HY2.out.below hbn)); (try replace HY3 := Lib.hid (HY3.out.below hbn)); (try replace HO1 := Lib.hid (HO1.out.below hbn)); (try replace HO2 := Lib.hid (HO2.out.below hbn));  clear hbn))
            go_ret
            exact ⟨rfl, HB.out⟩
        · have FB := Lib.hid (show backR M = ([], 2) from by rw [backR, if_neg hsq])
          by_cases hr : RightM M
          · have rrA : ∀ W A, Mtx W A k c M → Calls Try.prog 13 #[.slice A k c] W fun e w' => e = .returned (.bool true) ∧ Below W.heap.size W w' := fun W A h => by have h1 := rright_says W A k c M h; rwa [decide_eq_true hr] at h1
            have hk0 : 0 < k := by have := hr.1; omega
            obtain ⟨r0, hr0⟩ : ∃ r, M[0]? = some r := ⟨_, List.getElem?_eq_getElem (by omega)⟩
            have hr0l := right_row hr hr0
            have hne : ((k : Int) != (colsOf M : Int)) = true := by
              have : colsOf M ≠ M.length := fun e => hsq ⟨hr, e⟩
              simp
              omega
            generalize colsOf M = q at hr0l hne
            clear hsq hr
            go_wp2_with (first
              | (go_at_call 27; (with_reducible refine (back_says P _ A k c M HA.out (by omega)).mono ?_); rintro e wn ⟨Ax, nx, cx, rfl, hmx, hbn⟩; replace HB := Lib.hid (HB.out.trans (hbn.mono HB.out.size)); (try replace HA := Lib.hid (HA.out.below hbn)); (try replace HW := Lib.hid (HW.out.below hbn)); (try replace HX := Lib.hid (HX.out.below hbn)); (try replace HY1 := Lib.hid (HY1.out.below hbn)); (try replace HY2 := Lib.hid (HY2.out.below hbn)); (try replace HY3 := Lib.hid (HY3.out.below hbn)); (try replace HO1 := Lib.hid (HO1.out.below hbn)); (try replace HO2 := Lib.hid (HO2.out.below hbn)); rw [FB.out] at hmx ⊢; obtain rfl : nx = 0 := hmx.len.symm; have HX := Lib.hid hmx; clear hmx; clear hbn)
              | (go_at_call 14; (with_reducible refine (rsameM_says _ Aw k cw _ HW.out A k c M HA.out (by omega)).mono ?_); rintro e wn ⟨rfl, hbn⟩; replace HB := Lib.hid (HB.out.trans (hbn.mono HB.out.size)); (try replace HA := Lib.hid (HA.out.below hbn)); (try replace HW := Lib.hid (HW.out.below hbn)); (try replace HX := Lib.hid (HX.out.below hbn)); (try replace HY1 := Lib.hid (HY1.out.below hbn)); (try replace HY2 := Lib.hid (HY2.out.below hbn)); (try replace HY3 := Lib.hid (HY3.out.below hbn)); (try replace HO1 := Lib.hid (HO1.out.below hbn)); (try replace HO2 := Lib.hid (HO2.out.below hbn)); rw [decide_eq_true rfl]; clear hbn)
              | (go_at_call 13; (with_reducible refine (rrA _ _ HA.out).mono ?_); rintro e wn ⟨rfl, hbn⟩; replace HB := Lib.hid (HB.out.trans (hbn.mono HB.out.size)); (try replace HA := Lib.hid (HA.out.below hbn)); (try replace HW := Lib.hid (HW.out.below hbn)); (try replace HX := Lib.hid (HX.out.below hbn)); (try replace HY1 := Lib.hid (HY1.out.below hbn)); (try replace HY2 := Lib.hid (HY2.out.below hbn)); (try replace HY3 := Lib.hid (HY3.out.below hbn)); (try replace HO1 := Lib.hid (HO1.out.below hbn)); (try replace HO2 := Lib.hid (HO2.out.below hbn)); (try (obtain ⟨ba, oa, A0, c0, hA0, hba, hca, _⟩ := HA.out.row hr0; rw [hr0l, Nat.add_zero] at hca; subst hA0)); clear hbn)
              | (go_at_call 22; (with_reducible refine (lone_says _).mono ?_); rintro e wn ⟨rfl, hbn⟩; replace HB := Lib.hid (HB.out.trans (hbn.mono HB.out.size)); (try replace HA := Lib.hid (HA.out.below hbn)); (try replace HW := Lib.hid (HW.out.below hbn)); (try replace HX := Lib.hid (HX.out.below hbn)); (try replace HY1 := Lib.hid (HY1.out.below hbn)); (try replace HY2 := Lib.hid (HY2.out.below hbn)); (try replace HY3 := Lib.hid (HY3.out.below hbn)); (try replace HO1 := Lib.hid (HO1.out.below hbn)); (try replace HO2 := Lib.hid (HO2.out.below hbn));  clear hbn))
            go_ret
            exact ⟨rfl, HB.out⟩
          · have rrA : ∀ W A, Mtx W A k c M → Calls Try.prog 13 #[.slice A k c] W fun e w' => e = .returned (.bool false) ∧ Below W.heap.size W w' := fun W A h => by have h1 := rright_says W A k c M h; rwa [decide_eq_false hr] at h1
            clear hsq hr
            go_wp2_with (first
              | (go_at_call 27; (with_reducible refine (back_says P _ A k c M HA.out (by omega)).mono ?_); rintro e wn ⟨Ax, nx, cx, rfl, hmx, hbn⟩; replace HB := Lib.hid (HB.out.trans (hbn.mono HB.out.size)); (try replace HA := Lib.hid (HA.out.below hbn)); (try replace HW := Lib.hid (HW.out.below hbn)); (try replace HX := Lib.hid (HX.out.below hbn)); (try replace HY1 := Lib.hid (HY1.out.below hbn)); (try replace HY2 := Lib.hid (HY2.out.below hbn)); (try replace HY3 := Lib.hid (HY3.out.below hbn)); (try replace HO1 := Lib.hid (HO1.out.below hbn)); (try replace HO2 := Lib.hid (HO2.out.below hbn)); rw [FB.out] at hmx ⊢; obtain rfl : nx = 0 := hmx.len.symm; have HX := Lib.hid hmx; clear hmx; clear hbn)
              | (go_at_call 14; (with_reducible refine (rsameM_says _ Aw k cw _ HW.out A k c M HA.out (by omega)).mono ?_); rintro e wn ⟨rfl, hbn⟩; replace HB := Lib.hid (HB.out.trans (hbn.mono HB.out.size)); (try replace HA := Lib.hid (HA.out.below hbn)); (try replace HW := Lib.hid (HW.out.below hbn)); (try replace HX := Lib.hid (HX.out.below hbn)); (try replace HY1 := Lib.hid (HY1.out.below hbn)); (try replace HY2 := Lib.hid (HY2.out.below hbn)); (try replace HY3 := Lib.hid (HY3.out.below hbn)); (try replace HO1 := Lib.hid (HO1.out.below hbn)); (try replace HO2 := Lib.hid (HO2.out.below hbn)); rw [decide_eq_true rfl]; clear hbn)
              | (go_at_call 13; (with_reducible refine (rrA _ _ HA.out).mono ?_); rintro e wn ⟨rfl, hbn⟩; replace HB := Lib.hid (HB.out.trans (hbn.mono HB.out.size)); (try replace HA := Lib.hid (HA.out.below hbn)); (try replace HW := Lib.hid (HW.out.below hbn)); (try replace HX := Lib.hid (HX.out.below hbn)); (try replace HY1 := Lib.hid (HY1.out.below hbn)); (try replace HY2 := Lib.hid (HY2.out.below hbn)); (try replace HY3 := Lib.hid (HY3.out.below hbn)); (try replace HO1 := Lib.hid (HO1.out.below hbn)); (try replace HO2 := Lib.hid (HO2.out.below hbn));  clear hbn)
              | (go_at_call 22; (with_reducible refine (lone_says _).mono ?_); rintro e wn ⟨rfl, hbn⟩; replace HB := Lib.hid (HB.out.trans (hbn.mono HB.out.size)); (try replace HA := Lib.hid (HA.out.below hbn)); (try replace HW := Lib.hid (HW.out.below hbn)); (try replace HX := Lib.hid (HX.out.below hbn)); (try replace HY1 := Lib.hid (HY1.out.below hbn)); (try replace HY2 := Lib.hid (HY2.out.below hbn)); (try replace HY3 := Lib.hid (HY3.out.below hbn)); (try replace HO1 := Lib.hid (HO1.out.below hbn)); (try replace HO2 := Lib.hid (HO2.out.below hbn));  clear hbn))
            go_ret
            exact ⟨rfl, HB.out⟩
  · have fewA : ∀ W, Mtx W A n c M → Calls Try.prog 10 #[.slice A n c, .int .i64 10] W fun e w' => e = .returned (.int .i64 0) ∧ w' = W := fun W h => by have h1 := few_says W A n c M h 10 (by omega); rwa [if_neg f1] at h1
    go_enter Try.func5, Try.ntmps5
    go_wp2_with (first
      | (go_at_call 10; (with_reducible refine (fewA _ HA.out).mono ?_); rintro e wn ⟨rfl, hwn⟩; replace hwn := hwn.symm; subst hwn; skip))
    go_ret
    exact ⟨rfl, HB.out⟩
end Go.Proofs.Ytgakeecibofiiaa
