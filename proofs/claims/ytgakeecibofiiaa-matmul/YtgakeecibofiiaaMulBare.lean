/-
  MatMul walked: a way where the two do not fit (Bare).
-/
import Derived.Test.YtgakeecibofiiaaMulBase
namespace Go.Proofs.Ytgakeecibofiiaa
open Go.RowKit Go.Shelf

set_option maxRecDepth 100000 in
set_option maxHeartbeats 4000000 in
theorem matMul_Bare (A : Option Addr) (n c : Nat) (a : List (List UInt8)) (B : Option Addr) (m d : Nat) (b : List (List UInt8)) (w : World) (ha : Mtx w A n c a) (hb : Mtx w B m d b) (f1 : fewB a 12) (f2 : fewB b 12) (hra : RightM a) (hrb : ¬ RightM b) (hco : colsOf a = m) (hlev : levelB b = true) : Calls Try.prog 3 #[.slice A n c, .slice B m d] w fun e w' => e = .returned (.bool true) ∧ Below w.heap.size w w' := by
  have HB := Lib.hid (Below.refl w.heap.size w)
  have fewA : ∀ W, Mtx W A n c a → Calls Try.prog 10 #[.slice A n c, .int .i64 12] W fun e w' => e = .returned (.int .i64 1) ∧ w' = W := fun W h => by have h1 := few_says W A n c a h 12 (by omega); rwa [if_pos f1] at h1
  have fewB' : ∀ W, Mtx W B m d b → Calls Try.prog 10 #[.slice B m d, .int .i64 12] W fun e w' => e = .returned (.int .i64 1) ∧ w' = W := fun W h => by have h1 := few_says W B m d b h 12 (by omega); rwa [if_pos f2] at h1
  have hn := rows_few ha f1
  have hm := rows_few hb f2
  have hla := ha.len
  have hlb := hb.len
  have HE1 := Lib.hid (show mulR a b = ([], 2) from by rw [mulR, if_neg hrb])
  have HE2 := Lib.hid (show appR a b = (appL a b, 0) from by rw [appR, if_pos ⟨hra, by rw [hlb, hco], hlev⟩])
  have HBQ := Lib.hid (show ∀ r ∈ b, r.length ≤ 1000 from fun r hr => by have := f2.2 r hr; omega)
  have HSZ := Lib.hid (show sizeL a = (n, colsOf a) from by rw [sizeL, if_pos hra, hla])
  have HRI := Lib.hid hra
  have HRD := Lib.hid (show decide (RightM a) = true from decide_eq_true hra)
  have HSM := Lib.hid (show (decide (RightM a) && (decide (RightM b) && decide (a = b))) = false from by rw [decide_eq_true hra, decide_eq_false hrb]; rfl)
  have rrA : ∀ W, Mtx W A n c a → Calls Try.prog 13 #[.slice A n c] W fun e w' => e = .returned (.bool true) ∧ Below W.heap.size W w' := fun W h => by have h1 := rright_says W A n c a h; rwa [decide_eq_true hra] at h1
  have rrB : ∀ W, Mtx W B m d b → Calls Try.prog 13 #[.slice B m d] W fun e w' => e = .returned (.bool false) ∧ Below W.heap.size W w' := fun W h => by have h1 := rright_says W B m d b h; rwa [decide_eq_false hrb] at h1
  have hca1 := right_cols hra
  have n0 : 0 < n := by have := hra.1; omega
  obtain ⟨r0, hr0, _, hr0l⟩ := (right_lev hra).get (show 0 < a.length from hra.1)
  obtain ⟨ba, oa, A0, c0, hA0, hba, hca, _⟩ := ha.row hr0
  rw [hr0l, Nat.add_zero] at hca
  subst hA0
  have HCA := Lib.hid (show CellAt w ba oa _ from ⟨hca, hba⟩)
  rw [hco] at HCA HSZ hca hca1
  have m0 : 0 < m := by omega
  obtain ⟨s0, hs0⟩ : ∃ s, b[0]? = some s := ⟨_, List.getElem?_eq_getElem (by omega)⟩
  have hhd : b.headD [] = s0 := by
    cases b with
    | nil => simp at hs0
    | cons x t => simpa using hs0
  obtain ⟨bb, ob, B0, d0, hB0, hbb, hcb, _⟩ := hb.row hs0
  rw [Nat.add_zero] at hcb
  subst hB0
  have HCB := Lib.hid (show CellAt w bb ob _ from ⟨hcb, hbb⟩)
  have hs00 : s0.length = 0 := by
    rcases Nat.eq_zero_or_pos s0.length with h | h
    · exact h
    · exfalso
      refine hrb ⟨by omega, by omega, fun r hr => ?_⟩
      have h1 := List.all_eq_true.1 hlev r hr
      rw [hhd] at h1 ⊢
      have h2 := f2.2 s0 (List.mem_of_getElem? hs0)
      have h3 : r.length = s0.length := by simpa using h1
      exact ⟨h3, by omega, by omega⟩
  have HLV := Lib.hid (show ∀ (k : Nat) (r : List UInt8), b[k]? = some r → r.length = 0 from fun k r hr => by
    have h1 := List.all_eq_true.1 hlev r (List.mem_of_getElem? hr)
    rw [hhd, hs00] at h1
    simpa using h1)
  rw [hs00] at hcb HCB
  clear hs00 hhd
  clear hs0 hco hlev
  clear hr0 hr0l hca1
  have HA := Lib.hid ha
  have HO := Lib.hid hb
  clear ha hb f1 f2 hra hrb
  go_enter Try.func3, Try.ntmps3
  go_wp2_with (first
    | (go_at_call 10; (with_reducible refine (fewA _ HA.out).mono ?_); rintro e wn ⟨rfl, hwn⟩; replace hwn := hwn.symm; subst hwn; skip)
    | (go_at_call 10; (with_reducible refine (fewB' _ HO.out).mono ?_); rintro e wn ⟨rfl, hwn⟩; replace hwn := hwn.symm; subst hwn; skip)
    | (go_at_call 11; (with_reducible refine (new_says _).mono ?_); rintro e wn ⟨P, rfl, hbn⟩; replace HB := Lib.hid (HB.out.trans (hbn.mono HB.out.size)); (try replace HA := Lib.hid (HA.out.below hbn)); (try replace HO := Lib.hid (HO.out.below hbn)); (try replace HS := Lib.hid (HS.out.below hbn)); (try replace HCA := Lib.hid (HCA.out.below hbn)); (try replace HCB := Lib.hid (HCB.out.below hbn));  replace hca := HCA.out.1; replace hcb := HCB.out.1; clear hbn)
    | (go_at_call 12; (with_reducible refine (mulM_says P _ _ n c a HA.out _ m d b HO.out (by omega) (by omega)).mono ?_); rintro e wn ⟨Ap, np, cp, rfl, hmp, hbn⟩; replace HB := Lib.hid (HB.out.trans (hbn.mono HB.out.size)); (try replace HA := Lib.hid (HA.out.below hbn)); (try replace HO := Lib.hid (HO.out.below hbn)); (try replace HS := Lib.hid (HS.out.below hbn)); (try replace HCA := Lib.hid (HCA.out.below hbn)); (try replace HCB := Lib.hid (HCB.out.below hbn)); rw [HE1.out] at hmp ⊢; obtain rfl : np = 0 := hmp.len.symm; clear hmp; replace hca := HCA.out.1; replace hcb := HCB.out.1; clear hbn)
    | (go_at_call 13; (with_reducible refine (rrA _ HA.out).mono ?_); rintro e wn ⟨rfl, hbn⟩; replace HB := Lib.hid (HB.out.trans (hbn.mono HB.out.size)); (try replace HA := Lib.hid (HA.out.below hbn)); (try replace HO := Lib.hid (HO.out.below hbn)); (try replace HS := Lib.hid (HS.out.below hbn)); (try replace HCA := Lib.hid (HCA.out.below hbn)); (try replace HCB := Lib.hid (HCB.out.below hbn));  replace hca := HCA.out.1; replace hcb := HCB.out.1; clear hbn)
    | (go_at_call 13; (with_reducible refine (rrB _ HO.out).mono ?_); rintro e wn ⟨rfl, hbn⟩; replace HB := Lib.hid (HB.out.trans (hbn.mono HB.out.size)); (try replace HA := Lib.hid (HA.out.below hbn)); (try replace HO := Lib.hid (HO.out.below hbn)); (try replace HS := Lib.hid (HS.out.below hbn)); (try replace HCA := Lib.hid (HCA.out.below hbn)); (try replace HCB := Lib.hid (HCB.out.below hbn));  replace hca := HCA.out.1; replace hcb := HCB.out.1; clear hbn)
    | (go_at_call 16; (with_reducible refine (apply_says P _ _ n c a HA.out _ m d b HO.out (by omega) (by omega) HBQ.out).mono ?_); rintro e wn ⟨As, ns, cs, rfl, hms, hbn⟩; replace HB := Lib.hid (HB.out.trans (hbn.mono HB.out.size)); (try replace HA := Lib.hid (HA.out.below hbn)); (try replace HO := Lib.hid (HO.out.below hbn)); (try replace HS := Lib.hid (HS.out.below hbn)); (try replace HCA := Lib.hid (HCA.out.below hbn)); (try replace HCB := Lib.hid (HCB.out.below hbn)); rw [HE2.out] at hms ⊢; clear hms; replace hca := HCA.out.1; replace hcb := HCB.out.1; clear hbn)
    | (go_at_call 17; (with_reducible refine (size_says _ _ n c a HA.out (by omega)).mono ?_); rintro e wn ⟨rfl, hbn⟩; replace HB := Lib.hid (HB.out.trans (hbn.mono HB.out.size)); (try replace HA := Lib.hid (HA.out.below hbn)); (try replace HO := Lib.hid (HO.out.below hbn)); (try replace HS := Lib.hid (HS.out.below hbn)); (try replace HCA := Lib.hid (HCA.out.below hbn)); (try replace HCB := Lib.hid (HCB.out.below hbn)); rw [HSZ.out]; replace hca := HCA.out.1; replace hcb := HCB.out.1; clear hbn)
    | (go_at_call 18; (with_reducible refine (rank_says P _ _ n c a HA.out (by omega)).mono ?_); rintro e wn ⟨rfl, hbn⟩; replace HB := Lib.hid (HB.out.trans (hbn.mono HB.out.size)); (try replace HA := Lib.hid (HA.out.below hbn)); (try replace HO := Lib.hid (HO.out.below hbn)); (try replace HS := Lib.hid (HS.out.below hbn)); (try replace HCA := Lib.hid (HCA.out.below hbn)); (try replace HCB := Lib.hid (HCB.out.below hbn));  replace hca := HCA.out.1; replace hcb := HCB.out.1; clear hbn)
    | (go_at_call 19; (with_reducible refine (rrank_says _ _ n c a HA.out HRI.out (by omega)).mono ?_); rintro e wn ⟨rfl, hbn⟩; replace HB := Lib.hid (HB.out.trans (hbn.mono HB.out.size)); (try replace HA := Lib.hid (HA.out.below hbn)); (try replace HO := Lib.hid (HO.out.below hbn)); (try replace HS := Lib.hid (HS.out.below hbn)); (try replace HCA := Lib.hid (HCA.out.below hbn)); (try replace HCB := Lib.hid (HCB.out.below hbn));  replace hca := HCA.out.1; replace hcb := HCB.out.1; clear hbn)
    | (go_at_call 20; (with_reducible refine (right_says _ _ n c a HA.out (by omega)).mono ?_); rintro e wn ⟨rfl, hbn⟩; replace HB := Lib.hid (HB.out.trans (hbn.mono HB.out.size)); (try replace HA := Lib.hid (HA.out.below hbn)); (try replace HO := Lib.hid (HO.out.below hbn)); (try replace HS := Lib.hid (HS.out.below hbn)); (try replace HCA := Lib.hid (HCA.out.below hbn)); (try replace HCB := Lib.hid (HCB.out.below hbn)); rw [HRD.out]; replace hca := HCA.out.1; replace hcb := HCB.out.1; clear hbn)
    | (go_at_call 21; (with_reducible refine (sameM_says _ _ n c a HA.out _ m d b HO.out (by omega) (by omega)).mono ?_); rintro e wn ⟨rfl, hbn⟩; replace HB := Lib.hid (HB.out.trans (hbn.mono HB.out.size)); (try replace HA := Lib.hid (HA.out.below hbn)); (try replace HO := Lib.hid (HO.out.below hbn)); (try replace HS := Lib.hid (HS.out.below hbn)); (try replace HCA := Lib.hid (HCA.out.below hbn)); (try replace HCB := Lib.hid (HCB.out.below hbn)); rw [HSM.out]; replace hca := HCA.out.1; replace hcb := HCB.out.1; clear hbn)
    | (go_at_call 14; (with_reducible refine (rsameM_says _ _ n c a HA.out _ m d b HO.out (by omega)).mono ?_); rintro e wn ⟨rfl, hbn⟩; replace HB := Lib.hid (HB.out.trans (hbn.mono HB.out.size)); (try replace HA := Lib.hid (HA.out.below hbn)); (try replace HO := Lib.hid (HO.out.below hbn)); (try replace HS := Lib.hid (HS.out.below hbn)); (try replace HCA := Lib.hid (HCA.out.below hbn)); (try replace HCB := Lib.hid (HCB.out.below hbn));  replace hca := HCA.out.1; replace hcb := HCB.out.1; clear hbn)
    | (go_at_call 22; (with_reducible refine (lone_says _).mono ?_); rintro e wn ⟨rfl, hbn⟩; replace HB := Lib.hid (HB.out.trans (hbn.mono HB.out.size)); (try replace HA := Lib.hid (HA.out.below hbn)); (try replace HO := Lib.hid (HO.out.below hbn)); (try replace HS := Lib.hid (HS.out.below hbn)); (try replace HCA := Lib.hid (HCA.out.below hbn)); (try replace HCB := Lib.hid (HCB.out.below hbn));  replace hca := HCA.out.1; replace hcb := HCB.out.1; clear hbn))
  obtain ⟨wl, hwl⟩ : ∃ x, x = wn := ⟨_, rfl⟩
  subst hwl
  clear hca
  clear hcb
  go_loopw [11, 12] (fun ev i wr => ∃ k : Nat, k ≤ m ∧ i = .int .i64 (k : Int) ∧ ev = .bool true ∧ Hid (Below wl.heap.size wl wr)) (fun _ i _ => m - (intOf i).toNat)
  case atStart => exact ⟨0, by omega, rfl, rfl, Lib.hid (Below.refl _ _)⟩
  case round =>
    obtain ⟨k, hk, rfl, rfl, H⟩ := hrel
    by_cases hlt : k < m
    · have l1 : (k : Int) < (m : Int) := by omega
      obtain ⟨r, hr⟩ : ∃ s, b[k]? = some s := ⟨_, List.getElem?_eq_getElem (by omega)⟩
      obtain ⟨b', o', Ak, ck, hBk, hb', hck, _⟩ := HO.out.row hr
      cases hBk
      rw [HLV.out k r hr] at hck
      have k1 := grows_cell ((H.out.cell (p := ⟨bb, ob + k, none⟩) hb').trans hck) (Nat.lt_of_lt_of_le hb' H.out.size)
      have k2 := grows_cell ((H.out.cell (p := ⟨bb, ob, none⟩) hb').trans HCB.out.1) (Nat.lt_of_lt_of_le hb' H.out.size)
      clear hr hck
      go_wp2_with fail
      refine wp_region_grows (by kernel_rfl) (by kernel_rfl) ?_
      repeat (first | quiet_step (fail))
      refine wpQuiet_nil ?_
      rintro w3 ⟨⟨_, hw3⟩, rfl⟩
      have HW3 := Lib.hid (H.out.trans (hw3.mono H.out.size))
      clear hw3 H
      go_wp2
      go_roundw
      case rel => exact ⟨k + 1, by omega, by go_num, by simp, HW3⟩
      case measure => simp [intOf]; omega
    · obtain rfl : m = k := by omega
      have l1 : ¬ (m : Int) < (m : Int) := by omega
      have hbn := H.out
      replace HB := Lib.hid (HB.out.trans (hbn.mono HB.out.size))
      replace HA := Lib.hid (HA.out.below hbn)
      replace HO := Lib.hid (HO.out.below hbn)
      replace HCA := Lib.hid (HCA.out.below hbn)
      have hca := HCA.out.1
      replace HCB := Lib.hid (HCB.out.below hbn)
      have hcb := HCB.out.1
      clear hbn H
      go_wp2_with (first
        | (go_at_call 10; (with_reducible refine (fewA _ HA.out).mono ?_); rintro e wn ⟨rfl, hwn⟩; replace hwn := hwn.symm; subst hwn; skip)
        | (go_at_call 10; (with_reducible refine (fewB' _ HO.out).mono ?_); rintro e wn ⟨rfl, hwn⟩; replace hwn := hwn.symm; subst hwn; skip)
        | (go_at_call 11; (with_reducible refine (new_says _).mono ?_); rintro e wn ⟨P, rfl, hbn⟩; replace HB := Lib.hid (HB.out.trans (hbn.mono HB.out.size)); (try replace HA := Lib.hid (HA.out.below hbn)); (try replace HO := Lib.hid (HO.out.below hbn)); (try replace HS := Lib.hid (HS.out.below hbn)); (try replace HCA := Lib.hid (HCA.out.below hbn)); (try replace HCB := Lib.hid (HCB.out.below hbn));  replace hca := HCA.out.1; replace hcb := HCB.out.1; clear hbn)
        | (go_at_call 12; (with_reducible refine (mulM_says P _ _ n c a HA.out _ m d b HO.out (by omega) (by omega)).mono ?_); rintro e wn ⟨Ap, np, cp, rfl, hmp, hbn⟩; replace HB := Lib.hid (HB.out.trans (hbn.mono HB.out.size)); (try replace HA := Lib.hid (HA.out.below hbn)); (try replace HO := Lib.hid (HO.out.below hbn)); (try replace HS := Lib.hid (HS.out.below hbn)); (try replace HCA := Lib.hid (HCA.out.below hbn)); (try replace HCB := Lib.hid (HCB.out.below hbn)); rw [HE1.out] at hmp ⊢; obtain rfl : np = 0 := hmp.len.symm; clear hmp; replace hca := HCA.out.1; replace hcb := HCB.out.1; clear hbn)
        | (go_at_call 13; (with_reducible refine (rrA _ HA.out).mono ?_); rintro e wn ⟨rfl, hbn⟩; replace HB := Lib.hid (HB.out.trans (hbn.mono HB.out.size)); (try replace HA := Lib.hid (HA.out.below hbn)); (try replace HO := Lib.hid (HO.out.below hbn)); (try replace HS := Lib.hid (HS.out.below hbn)); (try replace HCA := Lib.hid (HCA.out.below hbn)); (try replace HCB := Lib.hid (HCB.out.below hbn));  replace hca := HCA.out.1; replace hcb := HCB.out.1; clear hbn)
        | (go_at_call 13; (with_reducible refine (rrB _ HO.out).mono ?_); rintro e wn ⟨rfl, hbn⟩; replace HB := Lib.hid (HB.out.trans (hbn.mono HB.out.size)); (try replace HA := Lib.hid (HA.out.below hbn)); (try replace HO := Lib.hid (HO.out.below hbn)); (try replace HS := Lib.hid (HS.out.below hbn)); (try replace HCA := Lib.hid (HCA.out.below hbn)); (try replace HCB := Lib.hid (HCB.out.below hbn));  replace hca := HCA.out.1; replace hcb := HCB.out.1; clear hbn)
        | (go_at_call 16; (with_reducible refine (apply_says P _ _ n c a HA.out _ m d b HO.out (by omega) (by omega) HBQ.out).mono ?_); rintro e wn ⟨As, ns, cs, rfl, hms, hbn⟩; replace HB := Lib.hid (HB.out.trans (hbn.mono HB.out.size)); (try replace HA := Lib.hid (HA.out.below hbn)); (try replace HO := Lib.hid (HO.out.below hbn)); (try replace HS := Lib.hid (HS.out.below hbn)); (try replace HCA := Lib.hid (HCA.out.below hbn)); (try replace HCB := Lib.hid (HCB.out.below hbn)); rw [HE2.out] at hms ⊢; clear hms; replace hca := HCA.out.1; replace hcb := HCB.out.1; clear hbn)
        | (go_at_call 17; (with_reducible refine (size_says _ _ n c a HA.out (by omega)).mono ?_); rintro e wn ⟨rfl, hbn⟩; replace HB := Lib.hid (HB.out.trans (hbn.mono HB.out.size)); (try replace HA := Lib.hid (HA.out.below hbn)); (try replace HO := Lib.hid (HO.out.below hbn)); (try replace HS := Lib.hid (HS.out.below hbn)); (try replace HCA := Lib.hid (HCA.out.below hbn)); (try replace HCB := Lib.hid (HCB.out.below hbn)); rw [HSZ.out]; replace hca := HCA.out.1; replace hcb := HCB.out.1; clear hbn)
        | (go_at_call 18; (with_reducible refine (rank_says P _ _ n c a HA.out (by omega)).mono ?_); rintro e wn ⟨rfl, hbn⟩; replace HB := Lib.hid (HB.out.trans (hbn.mono HB.out.size)); (try replace HA := Lib.hid (HA.out.below hbn)); (try replace HO := Lib.hid (HO.out.below hbn)); (try replace HS := Lib.hid (HS.out.below hbn)); (try replace HCA := Lib.hid (HCA.out.below hbn)); (try replace HCB := Lib.hid (HCB.out.below hbn));  replace hca := HCA.out.1; replace hcb := HCB.out.1; clear hbn)
        | (go_at_call 19; (with_reducible refine (rrank_says _ _ n c a HA.out HRI.out (by omega)).mono ?_); rintro e wn ⟨rfl, hbn⟩; replace HB := Lib.hid (HB.out.trans (hbn.mono HB.out.size)); (try replace HA := Lib.hid (HA.out.below hbn)); (try replace HO := Lib.hid (HO.out.below hbn)); (try replace HS := Lib.hid (HS.out.below hbn)); (try replace HCA := Lib.hid (HCA.out.below hbn)); (try replace HCB := Lib.hid (HCB.out.below hbn));  replace hca := HCA.out.1; replace hcb := HCB.out.1; clear hbn)
        | (go_at_call 20; (with_reducible refine (right_says _ _ n c a HA.out (by omega)).mono ?_); rintro e wn ⟨rfl, hbn⟩; replace HB := Lib.hid (HB.out.trans (hbn.mono HB.out.size)); (try replace HA := Lib.hid (HA.out.below hbn)); (try replace HO := Lib.hid (HO.out.below hbn)); (try replace HS := Lib.hid (HS.out.below hbn)); (try replace HCA := Lib.hid (HCA.out.below hbn)); (try replace HCB := Lib.hid (HCB.out.below hbn)); rw [HRD.out]; replace hca := HCA.out.1; replace hcb := HCB.out.1; clear hbn)
        | (go_at_call 21; (with_reducible refine (sameM_says _ _ n c a HA.out _ m d b HO.out (by omega) (by omega)).mono ?_); rintro e wn ⟨rfl, hbn⟩; replace HB := Lib.hid (HB.out.trans (hbn.mono HB.out.size)); (try replace HA := Lib.hid (HA.out.below hbn)); (try replace HO := Lib.hid (HO.out.below hbn)); (try replace HS := Lib.hid (HS.out.below hbn)); (try replace HCA := Lib.hid (HCA.out.below hbn)); (try replace HCB := Lib.hid (HCB.out.below hbn)); rw [HSM.out]; replace hca := HCA.out.1; replace hcb := HCB.out.1; clear hbn)
        | (go_at_call 14; (with_reducible refine (rsameM_says _ _ n c a HA.out _ m d b HO.out (by omega)).mono ?_); rintro e wn ⟨rfl, hbn⟩; replace HB := Lib.hid (HB.out.trans (hbn.mono HB.out.size)); (try replace HA := Lib.hid (HA.out.below hbn)); (try replace HO := Lib.hid (HO.out.below hbn)); (try replace HS := Lib.hid (HS.out.below hbn)); (try replace HCA := Lib.hid (HCA.out.below hbn)); (try replace HCB := Lib.hid (HCB.out.below hbn));  replace hca := HCA.out.1; replace hcb := HCB.out.1; clear hbn)
        | (go_at_call 22; (with_reducible refine (lone_says _).mono ?_); rintro e wn ⟨rfl, hbn⟩; replace HB := Lib.hid (HB.out.trans (hbn.mono HB.out.size)); (try replace HA := Lib.hid (HA.out.below hbn)); (try replace HO := Lib.hid (HO.out.below hbn)); (try replace HS := Lib.hid (HS.out.below hbn)); (try replace HCA := Lib.hid (HCA.out.below hbn)); (try replace HCB := Lib.hid (HCB.out.below hbn));  replace hca := HCA.out.1; replace hcb := HCB.out.1; clear hbn))
      go_ret
      exact ⟨rfl, HB.out⟩
end Go.Proofs.Ytgakeecibofiiaa
