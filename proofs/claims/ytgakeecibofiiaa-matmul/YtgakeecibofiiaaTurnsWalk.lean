/-
  MatTurns walked.
-/
import Derived.Test.YtgakeecibofiiaaLawOne
import Derived.Test.YtgakeecibofiiaaMatL
namespace Go.Proofs.Ytgakeecibofiiaa
open Go.RowKit Go.Shelf

theorem rows_few {w : World} {A : Option Addr} {n c : Nat} {M : List (List UInt8)} (h : Mtx w A n c M) {k : Nat} (hf : fewB M k) : n ≤ k := by rw [← h.len]; exact hf.1
set_option maxRecDepth 100000 in
set_option maxHeartbeats 4000000 in
theorem matTurns_walk (A : Option Addr) (n c : Nat) (a : List (List UInt8)) (B : Option Addr) (m d : Nat) (b : List (List UInt8)) (w : World) (ha : Mtx w A n c a) (hb : Mtx w B m d b) : Calls Try.prog 8 #[.slice A n c, .slice B m d] w fun e w' => e = .returned (.bool true) ∧ Below w.heap.size w w' := by
  have HB := Lib.hid (Below.refl w.heap.size w)
  have HA := Lib.hid ha
  have HO := Lib.hid hb
  by_cases f1 : fewB a 10
  · have fewA : ∀ W, Mtx W A n c a → Calls Try.prog 10 #[.slice A n c, .int .i64 10] W fun e w' => e = .returned (.int .i64 1) ∧ w' = W := fun W h => by have h1 := few_says W A n c a h 10 (by omega); rwa [if_pos f1] at h1
    by_cases f2 : fewB b 10
    · have fewB' : ∀ W, Mtx W B m d b → Calls Try.prog 10 #[.slice B m d, .int .i64 10] W fun e w' => e = .returned (.int .i64 1) ∧ w' = W := fun W h => by have h1 := few_says W B m d b h 10 (by omega); rwa [if_pos f2] at h1
      have hn := rows_few ha f1
      have hm := rows_few hb f2
      have hla := ha.len
      by_cases hr : RightM a
      · have rrA : ∀ W, Mtx W A n c a → Calls Try.prog 13 #[.slice A n c] W fun e w' => e = .returned (.bool true) ∧ Below W.heap.size W w' := fun W h => by have h1 := rright_says W A n c a h; rwa [decide_eq_true hr] at h1
        have FTT := Lib.hid (turn_twice hr)
        have FRT := Lib.hid (rank_turn hr)
        have hcols := right_cols hr
        have hlt := (turn_lev hr).1
        have hr1 := hr.1
        obtain ⟨r0, hr0⟩ : ∃ r, a[0]? = some r := ⟨_, List.getElem?_eq_getElem (by omega)⟩
        have hr0l : r0.length = colsOf a := right_row hr hr0
        obtain ⟨s0, hs0, _, hs0l⟩ := (turn_lev hr).get (show 0 < colsOf a by omega)
        rw [hla] at hs0l
        have hcl10 : colsOf a ≤ 10 := by rw [← hr0l]; exact f1.2 r0 (List.mem_of_getElem? hr0)
        by_cases hf : RightM b ∧ fitA a b
        · have e1 : mulR a b = (appL a b, 0) := by rw [mulR, if_pos hf.1, appR, if_pos hf.2]
          have hru := turn_is hf.1
          have e2 : mulR (turnL b) (turnL a) = (appL (turnL b) (turnL a), 0) := by rw [mulR, if_pos (turn_is hr).1, appR, if_pos (turn_fit hf.2 hf.1)]
          have FPQ := Lib.hid (turn_app hf.2 hf.1)
          obtain ⟨_, hcp, hlp⟩ := fit_dims hf.2 hf.1
          have hlv := (turn_lev hf.1).1
          have hlw := (turn_lev (fit_dims hf.2 hf.1).1).1
          have hcb := right_cols hf.1
          rw [hcp] at hlw
          have HE1 := Lib.hid e1
          have HE2 := Lib.hid e2
          have HL := Lib.hid (And.intro hlt (And.intro hlv (And.intro hlp.1 hlw)))
          clear e1 e2 hf hr ha hb f1 f2 hru hcp hlp hlv hlw hlt
          go_enter Try.func8, Try.ntmps8
          go_wp2_with (first
            | (go_at_call 10; (with_reducible refine (fewA _ HA.out).mono ?_); rintro e wn ⟨rfl, rfl⟩; skip)
            | (go_at_call 10; (with_reducible refine (fewB' _ HO.out).mono ?_); rintro e wn ⟨rfl, rfl⟩; skip)
            | (go_at_call 11; (with_reducible refine (new_says _).mono ?_); rintro e wn ⟨P, rfl, hbn⟩; replace HB := Lib.hid (HB.out.trans (hbn.mono HB.out.size)); (try replace HA := Lib.hid (HA.out.below hbn)); (try replace HO := Lib.hid (HO.out.below hbn)); (try replace HT := Lib.hid (HT.out.below hbn)); (try replace HTT := Lib.hid (HTT.out.below hbn)); (try replace HP := Lib.hid (HP.out.below hbn)); (try replace HU := Lib.hid (HU.out.below hbn)); (try replace HQ := Lib.hid (HQ.out.below hbn)); (try replace HPT := Lib.hid (HPT.out.below hbn));  clear hbn)
            | (go_at_call 30; (with_reducible refine (turn_says _ A n c a HA.out (by omega)).mono ?_); rintro e wn ⟨At, nt, ct, rfl, hmt, hbn⟩; replace HB := Lib.hid (HB.out.trans (hbn.mono HB.out.size)); (try replace HA := Lib.hid (HA.out.below hbn)); (try replace HO := Lib.hid (HO.out.below hbn)); (try replace HT := Lib.hid (HT.out.below hbn)); (try replace HTT := Lib.hid (HTT.out.below hbn)); (try replace HP := Lib.hid (HP.out.below hbn)); (try replace HU := Lib.hid (HU.out.below hbn)); (try replace HQ := Lib.hid (HQ.out.below hbn)); (try replace HPT := Lib.hid (HPT.out.below hbn)); have hnt : nt = colsOf a := (by rw [← hmt.len]; exact HL.out.1); subst hnt; have hnt : colsOf a ≤ 2000 := (by omega); have HT := Lib.hid hmt; clear hmt; clear hbn)
            | (go_at_call 13; (with_reducible refine (rrA _ HA.out).mono ?_); rintro e wn ⟨rfl, hbn⟩; replace HB := Lib.hid (HB.out.trans (hbn.mono HB.out.size)); (try replace HA := Lib.hid (HA.out.below hbn)); (try replace HO := Lib.hid (HO.out.below hbn)); (try replace HT := Lib.hid (HT.out.below hbn)); (try replace HTT := Lib.hid (HTT.out.below hbn)); (try replace HP := Lib.hid (HP.out.below hbn)); (try replace HU := Lib.hid (HU.out.below hbn)); (try replace HQ := Lib.hid (HQ.out.below hbn)); (try replace HPT := Lib.hid (HPT.out.below hbn));  clear hbn)
            | (go_at_call 30; (with_reducible refine (turn_says _ At (colsOf a) ct _ HT.out hnt).mono ?_); rintro e wn ⟨Au, nu, cu, rfl, hmt, hbn⟩; replace HB := Lib.hid (HB.out.trans (hbn.mono HB.out.size)); (try replace HA := Lib.hid (HA.out.below hbn)); (try replace HO := Lib.hid (HO.out.below hbn)); (try replace HT := Lib.hid (HT.out.below hbn)); (try replace HTT := Lib.hid (HTT.out.below hbn)); (try replace HP := Lib.hid (HP.out.below hbn)); (try replace HU := Lib.hid (HU.out.below hbn)); (try replace HQ := Lib.hid (HQ.out.below hbn)); (try replace HPT := Lib.hid (HPT.out.below hbn)); have HTT := Lib.hid hmt; clear hmt; clear hbn)
            | (go_at_call 14; (with_reducible refine (rsameM_says _ Au nu cu _ HTT.out A n c a HA.out (by rw [← HTT.out.len, FTT.out]; omega)).mono ?_); rintro e wn ⟨rfl, hbn⟩; replace HB := Lib.hid (HB.out.trans (hbn.mono HB.out.size)); (try replace HA := Lib.hid (HA.out.below hbn)); (try replace HO := Lib.hid (HO.out.below hbn)); (try replace HT := Lib.hid (HT.out.below hbn)); (try replace HTT := Lib.hid (HTT.out.below hbn)); (try replace HP := Lib.hid (HP.out.below hbn)); (try replace HU := Lib.hid (HU.out.below hbn)); (try replace HQ := Lib.hid (HQ.out.below hbn)); (try replace HPT := Lib.hid (HPT.out.below hbn)); rw [decide_eq_true FTT.out]; clear hbn)
            | (go_at_call 18; (with_reducible refine (rank_says P _ At (colsOf a) ct _ HT.out hnt).mono ?_); rintro e wn ⟨rfl, hbn⟩; replace HB := Lib.hid (HB.out.trans (hbn.mono HB.out.size)); (try replace HA := Lib.hid (HA.out.below hbn)); (try replace HO := Lib.hid (HO.out.below hbn)); (try replace HT := Lib.hid (HT.out.below hbn)); (try replace HTT := Lib.hid (HTT.out.below hbn)); (try replace HP := Lib.hid (HP.out.below hbn)); (try replace HU := Lib.hid (HU.out.below hbn)); (try replace HQ := Lib.hid (HQ.out.below hbn)); (try replace HPT := Lib.hid (HPT.out.below hbn)); rw [FRT.out]; clear hbn)
            | (go_at_call 18; (with_reducible refine (rank_says P _ A n c a HA.out (by omega)).mono ?_); rintro e wn ⟨rfl, hbn⟩; replace HB := Lib.hid (HB.out.trans (hbn.mono HB.out.size)); (try replace HA := Lib.hid (HA.out.below hbn)); (try replace HO := Lib.hid (HO.out.below hbn)); (try replace HT := Lib.hid (HT.out.below hbn)); (try replace HTT := Lib.hid (HTT.out.below hbn)); (try replace HP := Lib.hid (HP.out.below hbn)); (try replace HU := Lib.hid (HU.out.below hbn)); (try replace HQ := Lib.hid (HQ.out.below hbn)); (try replace HPT := Lib.hid (HPT.out.below hbn)); obtain ⟨ba, oa, A0, c0, hA0, hba, hca, _⟩ := HA.out.row hr0; rw [hr0l, Nat.add_zero] at hca; subst hA0; obtain ⟨bt, ot, T0, d0, hT0, hbt, hct, _⟩ := HT.out.row hs0; rw [hs0l, Nat.add_zero] at hct; subst hT0; clear hbn)
            | (go_at_call 12; (with_reducible refine (mulM_says P _ _ n c a HA.out B m d b HO.out (by omega) (by omega)).mono ?_); rintro e wn ⟨Ap, np, cp, rfl, hmp, hbn⟩; replace HB := Lib.hid (HB.out.trans (hbn.mono HB.out.size)); (try replace HA := Lib.hid (HA.out.below hbn)); (try replace HO := Lib.hid (HO.out.below hbn)); (try replace HT := Lib.hid (HT.out.below hbn)); (try replace HTT := Lib.hid (HTT.out.below hbn)); (try replace HP := Lib.hid (HP.out.below hbn)); (try replace HU := Lib.hid (HU.out.below hbn)); (try replace HQ := Lib.hid (HQ.out.below hbn)); (try replace HPT := Lib.hid (HPT.out.below hbn)); (try clear hca hct); rw [HE1.out] at hmp ⊢; have hnp : np ≤ 2000 := (by rw [← hmp.len, HL.out.2.2.1]; omega); have HP := Lib.hid hmp; clear hmp; clear hbn)
            | (go_at_call 30; (with_reducible refine (turn_says _ B m d b HO.out (by omega)).mono ?_); rintro e wn ⟨Av, nv, cv, rfl, hmt, hbn⟩; replace HB := Lib.hid (HB.out.trans (hbn.mono HB.out.size)); (try replace HA := Lib.hid (HA.out.below hbn)); (try replace HO := Lib.hid (HO.out.below hbn)); (try replace HT := Lib.hid (HT.out.below hbn)); (try replace HTT := Lib.hid (HTT.out.below hbn)); (try replace HP := Lib.hid (HP.out.below hbn)); (try replace HU := Lib.hid (HU.out.below hbn)); (try replace HQ := Lib.hid (HQ.out.below hbn)); (try replace HPT := Lib.hid (HPT.out.below hbn)); have hnv : nv ≤ 2000 := (by rw [← hmt.len, HL.out.2.1]; omega); have HU := Lib.hid hmt; clear hmt; clear hbn)
            | (go_at_call 12; (with_reducible refine (mulM_says P _ Av nv cv _ HU.out _ (colsOf a) ct _ HT.out hnv hnt).mono ?_); rintro e wn ⟨Aq, nq, cq, rfl, hmp, hbn⟩; replace HB := Lib.hid (HB.out.trans (hbn.mono HB.out.size)); (try replace HA := Lib.hid (HA.out.below hbn)); (try replace HO := Lib.hid (HO.out.below hbn)); (try replace HT := Lib.hid (HT.out.below hbn)); (try replace HTT := Lib.hid (HTT.out.below hbn)); (try replace HP := Lib.hid (HP.out.below hbn)); (try replace HU := Lib.hid (HU.out.below hbn)); (try replace HQ := Lib.hid (HQ.out.below hbn)); (try replace HPT := Lib.hid (HPT.out.below hbn)); rw [HE2.out] at hmp ⊢; have HQ := Lib.hid hmp; clear hmp; clear hbn)
            | (go_at_call 30; (with_reducible refine (turn_says _ Ap np cp _ HP.out hnp).mono ?_); rintro e wn ⟨Aw, nw, cw, rfl, hmt, hbn⟩; replace HB := Lib.hid (HB.out.trans (hbn.mono HB.out.size)); (try replace HA := Lib.hid (HA.out.below hbn)); (try replace HO := Lib.hid (HO.out.below hbn)); (try replace HT := Lib.hid (HT.out.below hbn)); (try replace HTT := Lib.hid (HTT.out.below hbn)); (try replace HP := Lib.hid (HP.out.below hbn)); (try replace HU := Lib.hid (HU.out.below hbn)); (try replace HQ := Lib.hid (HQ.out.below hbn)); (try replace HPT := Lib.hid (HPT.out.below hbn)); have hnw : nw ≤ 100000 := (by rw [← hmt.len, HL.out.2.2.2]; omega); have HPT := Lib.hid hmt; clear hmt; clear hbn)
            | (go_at_call 14; (with_reducible refine (rsameM_says _ Aw nw cw _ HPT.out Aq nq cq _ HQ.out hnw).mono ?_); rintro e wn ⟨rfl, hbn⟩; replace HB := Lib.hid (HB.out.trans (hbn.mono HB.out.size)); (try replace HA := Lib.hid (HA.out.below hbn)); (try replace HO := Lib.hid (HO.out.below hbn)); (try replace HT := Lib.hid (HT.out.below hbn)); (try replace HTT := Lib.hid (HTT.out.below hbn)); (try replace HP := Lib.hid (HP.out.below hbn)); (try replace HU := Lib.hid (HU.out.below hbn)); (try replace HQ := Lib.hid (HQ.out.below hbn)); (try replace HPT := Lib.hid (HPT.out.below hbn)); rw [decide_eq_true FPQ.out]; clear hbn)
            | (go_at_call 22; (with_reducible refine (lone_says _).mono ?_); rintro e wn ⟨rfl, hbn⟩; replace HB := Lib.hid (HB.out.trans (hbn.mono HB.out.size)); (try replace HA := Lib.hid (HA.out.below hbn)); (try replace HO := Lib.hid (HO.out.below hbn)); (try replace HT := Lib.hid (HT.out.below hbn)); (try replace HTT := Lib.hid (HTT.out.below hbn)); (try replace HP := Lib.hid (HP.out.below hbn)); (try replace HU := Lib.hid (HU.out.below hbn)); (try replace HQ := Lib.hid (HQ.out.below hbn)); (try replace HPT := Lib.hid (HPT.out.below hbn));  clear hbn))
          go_ret
          exact ⟨rfl, HB.out⟩
        · have e1 : mulR a b = ([], 2) := by
            unfold mulR
            by_cases h1 : RightM b
            · rw [if_pos h1, appR, if_neg (fun h2 => hf ⟨h1, h2⟩)]
            · rw [if_neg h1]
          have HE1 := Lib.hid e1
          have HL := Lib.hid (And.intro hlt trivial)
          clear e1 hf hr ha hb f1 f2 hlt
          go_enter Try.func8, Try.ntmps8
          go_wp2_with (first
            | (go_at_call 10; (with_reducible refine (fewA _ HA.out).mono ?_); rintro e wn ⟨rfl, rfl⟩; skip)
            | (go_at_call 10; (with_reducible refine (fewB' _ HO.out).mono ?_); rintro e wn ⟨rfl, rfl⟩; skip)
            | (go_at_call 11; (with_reducible refine (new_says _).mono ?_); rintro e wn ⟨P, rfl, hbn⟩; replace HB := Lib.hid (HB.out.trans (hbn.mono HB.out.size)); (try replace HA := Lib.hid (HA.out.below hbn)); (try replace HO := Lib.hid (HO.out.below hbn)); (try replace HT := Lib.hid (HT.out.below hbn)); (try replace HTT := Lib.hid (HTT.out.below hbn)); (try replace HP := Lib.hid (HP.out.below hbn)); (try replace HU := Lib.hid (HU.out.below hbn)); (try replace HQ := Lib.hid (HQ.out.below hbn)); (try replace HPT := Lib.hid (HPT.out.below hbn));  clear hbn)
            | (go_at_call 30; (with_reducible refine (turn_says _ A n c a HA.out (by omega)).mono ?_); rintro e wn ⟨At, nt, ct, rfl, hmt, hbn⟩; replace HB := Lib.hid (HB.out.trans (hbn.mono HB.out.size)); (try replace HA := Lib.hid (HA.out.below hbn)); (try replace HO := Lib.hid (HO.out.below hbn)); (try replace HT := Lib.hid (HT.out.below hbn)); (try replace HTT := Lib.hid (HTT.out.below hbn)); (try replace HP := Lib.hid (HP.out.below hbn)); (try replace HU := Lib.hid (HU.out.below hbn)); (try replace HQ := Lib.hid (HQ.out.below hbn)); (try replace HPT := Lib.hid (HPT.out.below hbn)); have hnt : nt = colsOf a := (by rw [← hmt.len]; exact HL.out.1); subst hnt; have hnt : colsOf a ≤ 2000 := (by omega); have HT := Lib.hid hmt; clear hmt; clear hbn)
            | (go_at_call 13; (with_reducible refine (rrA _ HA.out).mono ?_); rintro e wn ⟨rfl, hbn⟩; replace HB := Lib.hid (HB.out.trans (hbn.mono HB.out.size)); (try replace HA := Lib.hid (HA.out.below hbn)); (try replace HO := Lib.hid (HO.out.below hbn)); (try replace HT := Lib.hid (HT.out.below hbn)); (try replace HTT := Lib.hid (HTT.out.below hbn)); (try replace HP := Lib.hid (HP.out.below hbn)); (try replace HU := Lib.hid (HU.out.below hbn)); (try replace HQ := Lib.hid (HQ.out.below hbn)); (try replace HPT := Lib.hid (HPT.out.below hbn));  clear hbn)
            | (go_at_call 30; (with_reducible refine (turn_says _ At (colsOf a) ct _ HT.out hnt).mono ?_); rintro e wn ⟨Au, nu, cu, rfl, hmt, hbn⟩; replace HB := Lib.hid (HB.out.trans (hbn.mono HB.out.size)); (try replace HA := Lib.hid (HA.out.below hbn)); (try replace HO := Lib.hid (HO.out.below hbn)); (try replace HT := Lib.hid (HT.out.below hbn)); (try replace HTT := Lib.hid (HTT.out.below hbn)); (try replace HP := Lib.hid (HP.out.below hbn)); (try replace HU := Lib.hid (HU.out.below hbn)); (try replace HQ := Lib.hid (HQ.out.below hbn)); (try replace HPT := Lib.hid (HPT.out.below hbn)); have HTT := Lib.hid hmt; clear hmt; clear hbn)
            | (go_at_call 14; (with_reducible refine (rsameM_says _ Au nu cu _ HTT.out A n c a HA.out (by rw [← HTT.out.len, FTT.out]; omega)).mono ?_); rintro e wn ⟨rfl, hbn⟩; replace HB := Lib.hid (HB.out.trans (hbn.mono HB.out.size)); (try replace HA := Lib.hid (HA.out.below hbn)); (try replace HO := Lib.hid (HO.out.below hbn)); (try replace HT := Lib.hid (HT.out.below hbn)); (try replace HTT := Lib.hid (HTT.out.below hbn)); (try replace HP := Lib.hid (HP.out.below hbn)); (try replace HU := Lib.hid (HU.out.below hbn)); (try replace HQ := Lib.hid (HQ.out.below hbn)); (try replace HPT := Lib.hid (HPT.out.below hbn)); rw [decide_eq_true FTT.out]; clear hbn)
            | (go_at_call 18; (with_reducible refine (rank_says P _ At (colsOf a) ct _ HT.out hnt).mono ?_); rintro e wn ⟨rfl, hbn⟩; replace HB := Lib.hid (HB.out.trans (hbn.mono HB.out.size)); (try replace HA := Lib.hid (HA.out.below hbn)); (try replace HO := Lib.hid (HO.out.below hbn)); (try replace HT := Lib.hid (HT.out.below hbn)); (try replace HTT := Lib.hid (HTT.out.below hbn)); (try replace HP := Lib.hid (HP.out.below hbn)); (try replace HU := Lib.hid (HU.out.below hbn)); (try replace HQ := Lib.hid (HQ.out.below hbn)); (try replace HPT := Lib.hid (HPT.out.below hbn)); rw [FRT.out]; clear hbn)
            | (go_at_call 18; (with_reducible refine (rank_says P _ A n c a HA.out (by omega)).mono ?_); rintro e wn ⟨rfl, hbn⟩; replace HB := Lib.hid (HB.out.trans (hbn.mono HB.out.size)); (try replace HA := Lib.hid (HA.out.below hbn)); (try replace HO := Lib.hid (HO.out.below hbn)); (try replace HT := Lib.hid (HT.out.below hbn)); (try replace HTT := Lib.hid (HTT.out.below hbn)); (try replace HP := Lib.hid (HP.out.below hbn)); (try replace HU := Lib.hid (HU.out.below hbn)); (try replace HQ := Lib.hid (HQ.out.below hbn)); (try replace HPT := Lib.hid (HPT.out.below hbn)); obtain ⟨ba, oa, A0, c0, hA0, hba, hca, _⟩ := HA.out.row hr0; rw [hr0l, Nat.add_zero] at hca; subst hA0; obtain ⟨bt, ot, T0, d0, hT0, hbt, hct, _⟩ := HT.out.row hs0; rw [hs0l, Nat.add_zero] at hct; subst hT0; clear hbn)
            | (go_at_call 12; (with_reducible refine (mulM_says P _ _ n c a HA.out B m d b HO.out (by omega) (by omega)).mono ?_); rintro e wn ⟨Ap, np, cp, rfl, hmp, hbn⟩; replace HB := Lib.hid (HB.out.trans (hbn.mono HB.out.size)); (try replace HA := Lib.hid (HA.out.below hbn)); (try replace HO := Lib.hid (HO.out.below hbn)); (try replace HT := Lib.hid (HT.out.below hbn)); (try replace HTT := Lib.hid (HTT.out.below hbn)); (try replace HP := Lib.hid (HP.out.below hbn)); (try replace HU := Lib.hid (HU.out.below hbn)); (try replace HQ := Lib.hid (HQ.out.below hbn)); (try replace HPT := Lib.hid (HPT.out.below hbn)); (try clear hca hct); rw [HE1.out] at hmp ⊢; have HP := Lib.hid hmp; clear hmp; clear hbn)
            | (go_at_call 22; (with_reducible refine (lone_says _).mono ?_); rintro e wn ⟨rfl, hbn⟩; replace HB := Lib.hid (HB.out.trans (hbn.mono HB.out.size)); (try replace HA := Lib.hid (HA.out.below hbn)); (try replace HO := Lib.hid (HO.out.below hbn)); (try replace HT := Lib.hid (HT.out.below hbn)); (try replace HTT := Lib.hid (HTT.out.below hbn)); (try replace HP := Lib.hid (HP.out.below hbn)); (try replace HU := Lib.hid (HU.out.below hbn)); (try replace HQ := Lib.hid (HQ.out.below hbn)); (try replace HPT := Lib.hid (HPT.out.below hbn));  clear hbn))
          go_ret
          exact ⟨rfl, HB.out⟩
      · have rrA : ∀ W, Mtx W A n c a → Calls Try.prog 13 #[.slice A n c] W fun e w' => e = .returned (.bool false) ∧ Below W.heap.size W w' := fun W h => by have h1 := rright_says W A n c a h; rwa [decide_eq_false hr] at h1
        have HT0 := Lib.hid (show turnL a = [] from by rw [turnL, if_neg hr])
        clear hr ha hb f1 f2
        go_enter Try.func8, Try.ntmps8
        go_wp2_with (first
          | (go_at_call 10; (with_reducible refine (fewA _ HA.out).mono ?_); rintro e wn ⟨rfl, rfl⟩; skip)
          | (go_at_call 10; (with_reducible refine (fewB' _ HO.out).mono ?_); rintro e wn ⟨rfl, rfl⟩; skip)
          | (go_at_call 11; (with_reducible refine (new_says _).mono ?_); rintro e wn ⟨P, rfl, hbn⟩; replace HB := Lib.hid (HB.out.trans (hbn.mono HB.out.size)); (try replace HA := Lib.hid (HA.out.below hbn)); (try replace HO := Lib.hid (HO.out.below hbn)); (try replace HT := Lib.hid (HT.out.below hbn)); (try replace HTT := Lib.hid (HTT.out.below hbn)); (try replace HP := Lib.hid (HP.out.below hbn)); (try replace HU := Lib.hid (HU.out.below hbn)); (try replace HQ := Lib.hid (HQ.out.below hbn)); (try replace HPT := Lib.hid (HPT.out.below hbn));  clear hbn)
          | (go_at_call 30; (with_reducible refine (turn_says _ A n c a HA.out (by omega)).mono ?_); rintro e wn ⟨At, nt, ct, rfl, hmt, hbn⟩; replace HB := Lib.hid (HB.out.trans (hbn.mono HB.out.size)); (try replace HA := Lib.hid (HA.out.below hbn)); (try replace HO := Lib.hid (HO.out.below hbn)); (try replace HT := Lib.hid (HT.out.below hbn)); (try replace HTT := Lib.hid (HTT.out.below hbn)); (try replace HP := Lib.hid (HP.out.below hbn)); (try replace HU := Lib.hid (HU.out.below hbn)); (try replace HQ := Lib.hid (HQ.out.below hbn)); (try replace HPT := Lib.hid (HPT.out.below hbn)); rw [HT0.out] at hmt; obtain rfl : nt = 0 := hmt.len.symm; have HT := Lib.hid hmt; clear hmt; clear hbn)
          | (go_at_call 13; (with_reducible refine (rrA _ HA.out).mono ?_); rintro e wn ⟨rfl, hbn⟩; replace HB := Lib.hid (HB.out.trans (hbn.mono HB.out.size)); (try replace HA := Lib.hid (HA.out.below hbn)); (try replace HO := Lib.hid (HO.out.below hbn)); (try replace HT := Lib.hid (HT.out.below hbn)); (try replace HTT := Lib.hid (HTT.out.below hbn)); (try replace HP := Lib.hid (HP.out.below hbn)); (try replace HU := Lib.hid (HU.out.below hbn)); (try replace HQ := Lib.hid (HQ.out.below hbn)); (try replace HPT := Lib.hid (HPT.out.below hbn));  clear hbn)
          | (go_at_call 22; (with_reducible refine (lone_says _).mono ?_); rintro e wn ⟨rfl, hbn⟩; replace HB := Lib.hid (HB.out.trans (hbn.mono HB.out.size)); (try replace HA := Lib.hid (HA.out.below hbn)); (try replace HO := Lib.hid (HO.out.below hbn)); (try replace HT := Lib.hid (HT.out.below hbn)); (try replace HTT := Lib.hid (HTT.out.below hbn)); (try replace HP := Lib.hid (HP.out.below hbn)); (try replace HU := Lib.hid (HU.out.below hbn)); (try replace HQ := Lib.hid (HQ.out.below hbn)); (try replace HPT := Lib.hid (HPT.out.below hbn));  clear hbn))
        go_ret
        exact ⟨rfl, HB.out⟩
    · have fewB' : ∀ W, Mtx W B m d b → Calls Try.prog 10 #[.slice B m d, .int .i64 10] W fun e w' => e = .returned (.int .i64 0) ∧ w' = W := fun W h => by have h1 := few_says W B m d b h 10 (by omega); rwa [if_neg f2] at h1
      go_enter Try.func8, Try.ntmps8
      go_wp2_with (first
        | (go_at_call 10; (with_reducible refine (fewA _ HA.out).mono ?_); rintro e wn ⟨rfl, rfl⟩; skip)
        | (go_at_call 10; (with_reducible refine (fewB' _ HO.out).mono ?_); rintro e wn ⟨rfl, rfl⟩; skip))
      go_ret
      exact ⟨rfl, HB.out⟩
  · have fewA : ∀ W, Mtx W A n c a → Calls Try.prog 10 #[.slice A n c, .int .i64 10] W fun e w' => e = .returned (.int .i64 0) ∧ w' = W := fun W h => by have h1 := few_says W A n c a h 10 (by omega); rwa [if_neg f1] at h1
    go_enter Try.func8, Try.ntmps8
    go_wp2_with (first
      | (go_at_call 10; (with_reducible refine (fewA _ HA.out).mono ?_); rintro e wn ⟨rfl, rfl⟩; skip))
    go_ret
    exact ⟨rfl, HB.out⟩
end Go.Proofs.Ytgakeecibofiiaa
