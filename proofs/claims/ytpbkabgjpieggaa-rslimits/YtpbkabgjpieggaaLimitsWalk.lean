/-
  RsLimits, walked.
-/
import Derived.Test.YtpbkabgjpieggaaOneS
namespace Go.Proofs.Ytpbkabgjpieggaa
open Go.RowKit

/-- The last row's length; -1 of none. -/
def longOf (T : List (List UInt8)) : Int := match T.getLast? with
  | none => -1
  | some r => (r.length : Int)
theorem longOf_nil : longOf [] = -1 := rfl
theorem longOf_snoc (T : List (List UInt8)) (r : List UInt8) : longOf (T ++ [r]) = (r.length : Int) := by simp [longOf]
theorem longOf_neg (T : List (List UInt8)) : longOf T < 0 ↔ T = [] := by
  unfold longOf
  cases h : T.getLast? with
  | none => simp at h; simp [h]
  | some r =>
    have : T ≠ [] := fun e => by rw [e] at h; simp at h
    simp [this]
theorem level_snoc (T : List (List UInt8)) (r : List UInt8) : levelB (T ++ [r]) = (levelB T && (decide (longOf T < 0) || ((r.length : Int) == longOf T))) := by
  cases T with
  | nil => simp [levelB, longOf]
  | cons a t =>
    have hne : ¬ longOf (a :: t) < 0 := by rw [longOf_neg]; simp
    rw [decide_eq_false hne, Bool.false_or]
    cases hL : levelB (a :: t) with
    | false =>
      rw [Bool.false_and]
      unfold levelB at hL ⊢
      rw [List.all_append]
      simp only [List.cons_append, List.headD_cons] at hL ⊢
      rw [hL]
      rfl
    | true =>
      rw [Bool.true_and]
      have hlast : longOf (a :: t) = (a.length : Int) := by
        unfold longOf
        rw [List.getLast?_eq_some_getLast (by simp)]
        have hm := List.getLast_mem (l := a :: t) (by simp)
        unfold levelB at hL
        rw [List.all_eq_true] at hL
        have := hL _ hm
        simp at this
        simp [this]
      rw [hlast]
      unfold levelB at hL ⊢
      rw [List.all_append]
      simp only [List.cons_append, List.headD_cons] at hL ⊢
      rw [hL]
      simp
      rw [Bool.eq_iff_iff]
      simp
      omega
theorem there_snoc {S : List (Option (List UInt8))} {j : Nat} {s : Option (List UInt8)} (h : S[j]? = some s) : thereL (S.take (j + 1)) = thereL (S.take j) ++ (match s with | none => [] | some r => [r]) := by
  have h1 : S.take (j + 1) = S.take j ++ [s] := by rw [List.take_add_one, h]; rfl
  rw [h1]
  unfold thereL
  rw [List.filterMap_append]
  cases s <;> rfl
set_option maxRecDepth 100000 in
set_option maxHeartbeats 8000000 in
theorem rsLimits_walk (w : World) (k m : Int) (hk : -9223372036854775808 ≤ k ∧ k ≤ 9223372036854775807) (hm : -9223372036854775808 ≤ m ∧ m ≤ 9223372036854775807) (A : Option Addr) (n c : Nat) (S : List (Option (List UInt8))) (hS : Shd w A n c S) :
    Calls Try.prog 6 #[.int .i64 k, .int .i64 m, .slice A n c] w fun e w' => e = .returned (.bool true) ∧ Below w.heap.size w w' := by
  have hl := hS.len
  have HS := Lib.hid hS
  have q22 := eqlNil
  clear hS
  by_cases hn : n ≤ 300
  case neg =>
    have hn' : (300 : Int) < (n : Int) := by omega
    go_enter Try.func6, Try.ntmps6
    go_wp2
    go_ret
    exact ⟨rfl, Below.refl _ _⟩
  have hn' : ¬ (300 : Int) < (n : Int) := by omega
  go_enter Try.func6, Try.ntmps6
  go_wp2_with fail
  go_loopw [7] (fun i wr => ∃ j : Nat, j ≤ n ∧ i = .int .i64 (j : Int) ∧ Hid ((∀ (i' : Nat) (s : Option (List UInt8)), i' < j → S[i']? = some s → (s.getD []).length ≤ 100) ∧ wr = w)) (fun i _ => n - (intOf i).toNat)
  case atStart => exact ⟨0, by omega, rfl, Lib.hid ⟨fun i' s h => by omega, rfl⟩⟩
  case round =>
    obtain ⟨j, hj, rfl, H⟩ := hrel
    obtain rfl : w = wr := H.out.2.symm
    have HA := Lib.hid H.out.1
    clear H
    by_cases hlt : j < n
    · have l1 : (j : Int) < (n : Int) := by omega
      obtain ⟨s, hs⟩ : ∃ s, S[j]? = some s := ⟨_, List.getElem?_eq_getElem (by omega)⟩
      obtain ⟨b, off, v, rfl, hb, hc, hr⟩ := HS.out.row hs
      obtain ⟨Ai, ci, rfl, _, hni, _⟩ := hr.lies
      obtain ⟨ni, hnn⟩ : ∃ t, (s.getD []).length = t := ⟨_, rfl⟩
      rw [hnn] at hc
      have HSJ := Lib.hid hs
      have HNN := Lib.hid hnn
      clear hr hni hs hnn
      by_cases h100 : ni ≤ 100
      · have l2 : ¬ (100 : Int) < (ni : Int) := by omega
        go_wp2
        go_roundw
        case rel =>
          refine ⟨j + 1, by omega, by go_num, Lib.hid ⟨fun i' s' hi hs' => ?_, trivial⟩⟩
          rcases Nat.lt_or_ge i' j with h2 | h2
          · exact HA.out i' s' h2 hs'
          · obtain rfl : i' = j := by omega
            rw [HSJ.out] at hs'
            cases hs'
            rw [HNN.out]
            exact h100
        case measure => simp [intOf]; omega
      · have l2 : (100 : Int) < (ni : Int) := by omega
        go_wp2
        go_ret
        exact ⟨rfl, Below.refl _ _⟩
    · obtain rfl : j = n := by omega
      have l1 : ¬ (j : Int) < (j : Int) := by omega
      have HROW := Lib.hid (show ∀ r ∈ thereL S, r.length ≤ 100 from fun r hr => by
        rw [thereL, List.mem_filterMap] at hr
        obtain ⟨s, hs, he⟩ := hr
        cases s with
        | none => cases he
        | some r' =>
          cases he
          obtain ⟨i, hi⟩ := List.getElem?_of_mem hs
          exact HA.out i _ (by have := (List.getElem?_eq_some_iff.1 hi).1; omega) hi)
      clear HA
      by_cases hok : newOk k m
      case neg =>
        have HN := Lib.hid (fun W => rnew_no W k m hk hm hok)
        by_cases c1 : k < 1
        case pos =>
          have c1' : ¬ (1 : Int) ≤ k := by omega
          clear hok
          go_wp2_with (first
            | (go_at_call 9; refine (HN.out _).mono ?_; rintro e wn ⟨rfl, hwn⟩; obtain rfl : w = wn := hwn.symm)
            | (go_at_call 10; refine (one_says _).mono ?_; rintro e w9 ⟨rfl, hb9⟩; have HB9 := Lib.hid hb9; clear hb9))
          go_ret
          exact ⟨rfl, HB9.out⟩
        by_cases c2 : 255 < k
        case pos =>
          have c2' : ¬ k ≤ 255 := by omega
          have d1 : (1 : Int) ≤ k := by omega
          clear hok
          go_wp2_with (first
            | (go_at_call 9; refine (HN.out _).mono ?_; rintro e wn ⟨rfl, hwn⟩; obtain rfl : w = wn := hwn.symm)
            | (go_at_call 10; refine (one_says _).mono ?_; rintro e w9 ⟨rfl, hb9⟩; have HB9 := Lib.hid hb9; clear hb9))
          go_ret
          exact ⟨rfl, HB9.out⟩
        by_cases c3 : m < 0
        case pos =>
          have c3' : ¬ (0 : Int) ≤ m := by omega
          have d1 : (1 : Int) ≤ k := by omega
          have d2 : k ≤ 255 := by omega
          clear hok
          go_wp2_with (first
            | (go_at_call 9; refine (HN.out _).mono ?_; rintro e wn ⟨rfl, hwn⟩; obtain rfl : w = wn := hwn.symm)
            | (go_at_call 10; refine (one_says _).mono ?_; rintro e w9 ⟨rfl, hb9⟩; have HB9 := Lib.hid hb9; clear hb9))
          go_ret
          exact ⟨rfl, HB9.out⟩
        by_cases c4 : 255 < m
        case pos =>
          have c4' : ¬ m ≤ 255 := by omega
          have d1 : (1 : Int) ≤ k := by omega
          have d2 : k ≤ 255 := by omega
          have d3 : (0 : Int) ≤ m := by omega
          clear hok
          go_wp2_with (first
            | (go_at_call 9; refine (HN.out _).mono ?_; rintro e wn ⟨rfl, hwn⟩; obtain rfl : w = wn := hwn.symm)
            | (go_at_call 10; refine (one_says _).mono ?_; rintro e w9 ⟨rfl, hb9⟩; have HB9 := Lib.hid hb9; clear hb9))
          go_ret
          exact ⟨rfl, HB9.out⟩
        obtain ⟨km, s1⟩ : ∃ x, k + m = x := ⟨_, rfl⟩
        have c5 : 255 < km := by unfold newOk at hok; omega
        have c5' : ¬ km ≤ 255 := by omega
        have c6 : decide (km ≤ 255) = false := decide_eq_false c5'
        have d1 : (1 : Int) ≤ k := by omega
        have d2 : k ≤ 255 := by omega
        have d3 : (0 : Int) ≤ m := by omega
        have d4 : m ≤ 255 := by omega
        have d5 : IntKind.i64.wrap km = km := IntWalk.i64_in _ (by omega)
        clear hok
        go_wp2_with (first
          | (go_at_call 9; refine (HN.out _).mono ?_; rintro e wn ⟨rfl, hwn⟩; obtain rfl : w = wn := hwn.symm)
          | (go_at_call 10; refine (one_says _).mono ?_; rintro e w9 ⟨rfl, hb9⟩; have HB9 := Lib.hid hb9; clear hb9))
        go_ret
        exact ⟨rfl, HB9.out⟩
      obtain ⟨K, rfl⟩ : ∃ K : Nat, k = (K : Int) := ⟨k.toNat, by unfold newOk at hok; omega⟩
      obtain ⟨M, rfl⟩ : ∃ M : Nat, m = (M : Int) := ⟨m.toNat, by unfold newOk at hok; omega⟩
      have h1 : 1 ≤ K := by unfold newOk at hok; omega
      have h2 : K + M ≤ 255 := by unfold newOk at hok; omega
      obtain ⟨KM, hKM⟩ : ∃ x, K + M = x := ⟨_, rfl⟩
      have g1 : (1 : Int) ≤ (K : Int) := by omega
      have g2 : (K : Int) ≤ 255 := by omega
      have g3 : (0 : Int) ≤ (M : Int) := by omega
      have g4 : (M : Int) ≤ 255 := by omega
      have s1 : (K : Int) + (M : Int) = (KM : Int) := by omega
      have s2 : IntKind.i64.wrap (KM : Int) = (KM : Int) := IntWalk.i64_in _ (by omega)
      have g5 : (KM : Int) ≤ 255 := by omega
      have HKM := Lib.hid hKM
      clear hok hk hm hKM
      go_wp2_with (go_at_call 9; refine (rnew_yes _ K M h1 h2).mono ?_; rintro e w1 ⟨p, rfl, hc1, hp1, hb1⟩; have HC1 := Lib.hid (And.intro hc1 hb1); clear hc1 hb1 hp1)
      have HS1 := Lib.hid (HS.out.below HC1.out.2)
      go_loopw [11, 12, 13, 14] (fun hv ev lo i wr => ∃ t : Nat, t ≤ j ∧ i = .int .i64 (t : Int) ∧ hv = .int .i64 ((thereL (S.take t)).length : Int) ∧ ev = .bool (levelB (thereL (S.take t))) ∧ lo = .int .i64 (longOf (thereL (S.take t))) ∧ Hid (wr = w1)) (fun _ _ _ i _ => j - (intOf i).toNat)
      case atStart => exact ⟨0, by omega, rfl, by simp [thereL], by simp [thereL, levelB], by simp [thereL, longOf], Lib.hid rfl⟩
      case round =>
        obtain ⟨t, ht, rfl, rfl, rfl, rfl, H⟩ := hrel
        obtain rfl : w1 = wr := H.out.symm
        clear H
        by_cases hlt2 : t < j
        · have l2 : (t : Int) < (j : Int) := by omega
          obtain ⟨s, hs⟩ : ∃ s, S[t]? = some s := ⟨_, List.getElem?_eq_getElem (by omega)⟩
          obtain ⟨b, off, v, rfl, hb, hc, hr⟩ := HS1.out.row hs
          have hsn := there_snoc hs
          obtain ⟨T, hT⟩ : ∃ T, thereL (S.take t) = T := ⟨_, rfl⟩
          have hTl : T.length ≤ t := by rw [← hT]; have := there_le (S.take t); rw [List.length_take] at this; omega
          rw [hT] at hsn ⊢
          cases s with
          | none =>
            have hv : v = .slice none 0 0 := hr
            subst hv
            have HSN := Lib.hid (show thereL (S.take (t + 1)) = T from by rw [hsn]; simp)
            obtain ⟨tl, htl⟩ : ∃ x, T.length = x := ⟨_, rfl⟩
            obtain ⟨lv, hlv⟩ : ∃ x, levelB T = x := ⟨_, rfl⟩
            obtain ⟨lo, hlo⟩ : ∃ x, longOf T = x := ⟨_, rfl⟩
            rw [htl, hlv, hlo]
            have HG := Lib.hid (And.intro htl (And.intro hlv hlo))
            clear htl hlv hlo
            clear hs hr hsn hT hTl
            go_wp2
            go_roundw
            case rel =>
              refine ⟨t + 1, by omega, by go_num, ?_, ?_, ?_, Lib.hid trivial⟩
              · rw [HSN.out, HG.out.1]
              · rw [HSN.out, HG.out.2.1]
              · rw [HSN.out, HG.out.2.2]
            case measure => simp [intOf]; omega
          | some r =>
            obtain ⟨ad, ci, rfl, _⟩ := hr
            have HSN := Lib.hid (show thereL (S.take (t + 1)) = T ++ [r] from by rw [hsn])
            have hrl : r.length ≤ 100 := HROW.out r (there_mem hs)
            obtain ⟨nr, hnr⟩ : ∃ x, r.length = x := ⟨_, rfl⟩
            have HLS := Lib.hid (level_snoc T r)
            have HLO := Lib.hid (longOf_snoc T r)
            rw [hnr] at hc HLS HLO
            obtain ⟨tl, htl⟩ : ∃ x, T.length = x := ⟨_, rfl⟩
            obtain ⟨lv, hlv⟩ : ∃ x, levelB T = x := ⟨_, rfl⟩
            obtain ⟨lo, hlo⟩ : ∃ x, longOf T = x := ⟨_, rfl⟩
            rw [htl, hlv, hlo]
            rw [hlv, hlo] at HLS
            rw [htl] at hTl
            have HG := Lib.hid (And.intro htl (And.intro hlv hlo))
            clear htl hlv hlo
            have s5 : IntKind.i64.wrap ((tl : Int) + 1) = (tl : Int) + 1 := IntWalk.i64_in _ (by omega)
            clear hs hsn hT hnr hrl
            cases lv with
            | false =>
              go_wp2
              go_roundw
              case rel =>
                refine ⟨t + 1, by omega, by go_num, ?_, ?_, ?_, Lib.hid trivial⟩
                · rw [HSN.out, List.length_append, HG.out.1]; simp
                · rw [HSN.out, HLS.out]; rfl
                · rw [HSN.out, HLO.out]
              case measure => simp [intOf]; omega
            | true =>
              by_cases c6 : lo < 0
              · go_wp2
                go_roundw
                case rel =>
                  refine ⟨t + 1, by omega, by go_num, ?_, ?_, ?_, Lib.hid trivial⟩
                  · rw [HSN.out, List.length_append, HG.out.1]; simp
                  · rw [HSN.out, HLS.out, decide_eq_true c6]; rfl
                  · rw [HSN.out, HLO.out]
                case measure => simp [intOf]; omega
              · go_wp2
                go_roundw
                case rel =>
                  refine ⟨t + 1, by omega, by go_num, ?_, ?_, ?_, Lib.hid trivial⟩
                  · rw [HSN.out, List.length_append, HG.out.1]; simp
                  · rw [HSN.out, HLS.out, decide_eq_false c6]; rfl
                  · rw [HSN.out, HLO.out]
                case measure => simp [intOf]; omega
        · obtain rfl : t = j := by omega
          have l2 : ¬ (t : Int) < (t : Int) := by omega
          have HTA := Lib.hid (show thereL (S.take t) = thereL S from by rw [List.take_of_length_le (by omega)])
          rw [HTA.out]
          have hTl := there_le S
          by_cases c7 : t = KM
          · subst c7
            cases c8 : levelB (thereL S) with
            | false =>
              have HD := Lib.hid (fun W (hb : Below w1.heap.size w1 W) => decode_level W p K M (HC1.out.1.below hb) h1 h2 t HKM.out.symm A c S (HS1.out.below hb) (by omega) c8)
              generalize (thereL S).length = tl
              generalize longOf (thereL S) = lo
              clear c8 hTl
              go_wp2_with (first
                | (go_at_call 19; refine (HD.out _ (Below.refl _ _)).mono ?_; rintro e w2 ⟨rfl, hb2⟩; have HB2 := Lib.hid (HC1.out.2.trans (hb2.mono HC1.out.2.size)); clear hb2)
                | (go_at_call 10; refine (one_says _).mono ?_; rintro e w9 ⟨rfl, hb9⟩; have HB9 := Lib.hid (HB2.out.trans (hb9.mono HB2.out.size)); clear hb9))
              go_ret
              exact ⟨rfl, HB9.out⟩
            | true =>
              by_cases c9 : (thereL S).length < K
              · have HD := Lib.hid (fun W (hb : Below w1.heap.size w1 W) => decode_few W p K M (HC1.out.1.below hb) h1 h2 t HKM.out.symm A c S (HS1.out.below hb) (by omega) c8 c9)
                generalize (thereL S).length = tl at c9
                generalize longOf (thereL S) = lo
                have c9' : (tl : Int) < (K : Int) := by omega
                clear c8 hTl
                go_wp2_with (first
                  | (go_at_call 19; refine (HD.out _ (Below.refl _ _)).mono ?_; rintro e w2 ⟨rfl, hb2⟩; have HB2 := Lib.hid (HC1.out.2.trans (hb2.mono HC1.out.2.size)); clear hb2)
                  | (go_at_call 10; refine (one_says _).mono ?_; rintro e w9 ⟨rfl, hb9⟩; have HB9 := Lib.hid (HB2.out.trans (hb9.mono HB2.out.size)); clear hb9))
                go_ret
                exact ⟨rfl, HB9.out⟩
              · obtain ⟨q, hq, hq2⟩ : ∃ q, Lev (thereL S).length q (thereL S) ∧ q ≤ 100 := by
                  refine ⟨colsOf (thereL S), level_head c8, ?_⟩
                  obtain ⟨r0, hr0, _, hr0l⟩ := (level_head c8).get (show 0 < (thereL S).length by omega)
                  rw [← hr0l]
                  exact HROW.out r0 (List.mem_of_getElem? hr0)
                have HD := Lib.hid (fun W (hb : Below w1.heap.size w1 W) => decode_yes W p K M (HC1.out.1.below hb) h1 h2 t HKM.out.symm A c S (HS1.out.below hb) q (by omega) hq (by omega))
                generalize (thereL S).length = tl at c9
                generalize longOf (thereL S) = lo
                have c9' : ¬ (tl : Int) < (K : Int) := by omega
                clear c8 hTl hq
                go_wp2_with (first
                  | (go_at_call 19; refine (HD.out _ (Below.refl _ _)).mono ?_; rintro e w2 ⟨g2, B2, rfl, hF2⟩; have HB2 := Lib.hid (HC1.out.2.trans (hF2.below.mono HC1.out.2.size)); clear hF2)
                  | (go_at_call 10; refine (one_says _).mono ?_; rintro e w9 ⟨rfl, hb9⟩; have HB9 := Lib.hid (HB2.out.trans (hb9.mono HB2.out.size)); clear hb9))
                go_ret
                exact ⟨rfl, HB9.out⟩
          · have c7' : ¬ (t : Int) = (KM : Int) := by omega
            have HD := Lib.hid (fun W (hb : Below w1.heap.size w1 W) => decode_count W p K M KM (HC1.out.1.below hb) h1 h2 HKM.out.symm A t c S (HS1.out.below hb) (by omega) c7)
            generalize (thereL S).length = tl
            generalize longOf (thereL S) = lo
            generalize levelB (thereL S) = lv
            clear hTl
            go_wp2_with (first
              | (go_at_call 19; refine (HD.out _ (Below.refl _ _)).mono ?_; rintro e w2 ⟨rfl, hb2⟩; have HB2 := Lib.hid (HC1.out.2.trans (hb2.mono HC1.out.2.size)); clear hb2)
              | (go_at_call 10; refine (one_says _).mono ?_; rintro e w9 ⟨rfl, hb9⟩; have HB9 := Lib.hid (HB2.out.trans (hb9.mono HB2.out.size)); clear hb9))
            go_ret
            exact ⟨rfl, HB9.out⟩
end Go.Proofs.Ytpbkabgjpieggaa
