/-
  RsBack, walked.
-/
import Derived.Test.YtpbkabgjpieggaaGone
namespace Go.Proofs.Ytpbkabgjpieggaa
open Go.RowKit Go.Shelf

theorem level_of_lev {k q : Nat} {X : List (List UInt8)} (h : Lev k q X) : levelB X = true := by
  unfold levelB
  rw [List.all_eq_true]
  intro r hr
  cases X with
  | nil => cases hr
  | cons a t => simp [h.2 r hr, h.2 a (List.mem_cons_self ..)]
theorem enc_ok {k q : Nat} {X : List (List UInt8)} (h : Lev k q X) : encOk k (X.map some) := by
  refine ⟨by rw [List.length_map]; exact h.1, by simp, ?_⟩
  rw [bytesOf_some]
  unfold levelB
  rw [List.all_eq_true]
  intro r hr
  cases X with
  | nil => cases hr
  | cons a t => simp [h.2 r hr, h.2 a (List.mem_cons_self ..)]
set_option maxRecDepth 100000 in
set_option maxHeartbeats 8000000 in
theorem rsBack_short (w : World) (A : Option Addr) (nb0 c : Nat) (b0 : List UInt8) (hb0 : Lies w (fun _ => True) A nb0 c (bc b0)) (hnb : nb0 ≤ 300) (x y : Int) (G : Option Addr) (ng cg : Nat) (gone : List Int) (hG : Lies w (fun _ => True) G ng cg (ics gone)) :
    Calls Try.prog 5 #[.slice A nb0 c, .agg #[.int .i64 x, .int .i64 y], .slice G ng cg] w fun e w' => e = .returned (.bool true) ∧ Below w.heap.size w w' := by
  have hb := hb0
  have c0 : ¬ (300 : Int) < (nb0 : Int) := by omega
  clear hb0
  obtain ⟨k0, hk0, hk0'⟩ := and_small x 7 8 (by decide) (by omega)
  obtain ⟨m, hm, hm'⟩ := and_small y 7 8 (by decide) (by omega)
  have e1 : bits .and .i64 x 7 = (k0 : Int) := hk0'
  have e2 : bits .and .i64 y 7 = (m : Int) := hm'
  obtain ⟨k, hk⟩ : ∃ k, 1 + k0 = k := ⟨_, rfl⟩
  have e3 : (1 : Int) + (k0 : Int) = (k : Int) := by omega
  have e4 : IntKind.i64.wrap (k : Int) = (k : Int) := IntWalk.i64_in _ (by omega)
  have hk1 : 1 ≤ k := by omega
  have hk8 : k ≤ 8 := by omega
  obtain ⟨n, hn⟩ : ∃ n, k + m = n := ⟨_, rfl⟩
  have e5 : (k : Int) + (m : Int) = (n : Int) := by omega
  have e6 : IntKind.i64.wrap (n : Int) = (n : Int) := IntWalk.i64_in _ (by omega)
  have hn1 : 1 ≤ n := by omega
  have hn15 : n ≤ 15 := by omega
  have hbl : b0.length = nb0 := by rw [← bc_length]; exact hb.len
  obtain ⟨s, hs⟩ : ∃ t, cutSize nb0 k = t := ⟨_, rfl⟩
  have hs1 : 1 ≤ s := by rw [← hs]; exact cut_size_pos _ _
  have hs3 : s ≤ 301 := by
    have h1 : nb0 / k ≤ nb0 := Nat.div_le_self _ _
    rw [← hs]
    unfold cutSize
    split <;> omega
  have hback := cut_back b0 k hk1
  rw [hbl, hs] at hback
  have hfl : (cutTo b0 s k).flatten.length ≤ 1000000 := by
    rw [cut_flat, joinTo_length]
    have := Nat.mul_le_mul hk8 hs3
    omega
  have hXL : Lev k s (cutTo b0 s k) := ⟨cutTo_length _ _ _, rows_le⟩
  obtain ⟨X, hX⟩ : ∃ X, cutTo b0 s k = X := ⟨_, rfl⟩
  have HC := Lib.hid (fun W (hW : Below w.heap.size w W) => cut_yes W A nb0 c b0 (hb.below hW) (by omega) k hk1 (by omega) s hs)
  rw [hX] at HC hback hfl hXL
  have HXL := Lib.hid hXL
  have HBK := Lib.hid hback
  have HFL := Lib.hid hfl
  have HBL := Lib.hid hbl
  have HLB := Lib.hid hb
  have HG := Lib.hid hG
  have HN := Lib.hid hn
  have hgl : gone.length = ng := by rw [← ics_length]; exact hG.len
  have HGL := Lib.hid hgl
  obtain ⟨E, hE⟩ : ∃ E, encL k m X = E := ⟨_, rfl⟩
  have HEL := Lib.hid (show Lev n s E from by rw [← hE, ← hn]; exact enc_lev hXL hk1)
  have HE := Lib.hid hE
  have q22 := neqNil
  clear hb hG hk0' hm' hk hback hfl hXL hX hs hbl hgl hE hn
  go_enter Try.func5, Try.ntmps5
  go_upto_region 3 with fail
  go_quiet (fail)
  have HW0 := Lib.hid (show Below w.heap.size w ((w.alloc (.cells #[.int .i64 x, .int .i64 y] 43)).drewN nq) from below_drewN' ((Below.refl _ w).alloc (Nat.le_refl _) _) nq)
  generalize (w.alloc (.cells #[.int .i64 x, .int .i64 y] 43)).drewN nq = w0 at HW0
  go_wp2_with (first
    | (go_at_call 9; refine (rnew_yes _ k m hk1 (by omega)).mono ?_; rintro e w1 ⟨p, rfl, hc1, hp1, hb1⟩; have HC1 := Lib.hid (And.intro hc1 (HW0.out.trans (hb1.mono HW0.out.size))); clear hc1 hb1 hp1)
    | (go_at_call 16; refine (HC.out _ HC1.out.2).mono ?_; rintro e w2 ⟨g2, B2, rfl, hF2⟩; have HC2 := Lib.hid (And.intro (HC1.out.1.below hF2.below) (HC1.out.2.trans (hF2.below.mono HC1.out.2.size))); have HF2 := Lib.hid hF2; clear hF2)
    | (go_at_call 12; have hen := encode_yes w2 p k m HC2.out.1 hk1 (by omega) (some ⟨g2, 0, none⟩) k k _ (HF2.out.shd HXL.out.1) s (enc_ok HXL.out) (by rw [bytesOf_some]; exact HXL.out) (by omega); rw [bytesOf_some, HE.out, HN.out] at hen; refine hen.mono ?_; rintro e w3 ⟨g3, B3, rfl, hF3⟩; have HF3 := Lib.hid hF3; clear hF3 hen))
  have HM2 := Lib.hid (HF2.out.mtx HXL.out.1)
  go_loopw [15, 16, 17] (fun lv i _ wr => ∃ (j l : Nat), j ≤ ng ∧ i = .int .i64 (j : Int) ∧ lv = .int .i64 (l : Int) ∧ Hid (∃ S, ShTab wr g3 n S ∧ (∀ (i : Nat) (r : List UInt8), S[i]? = some (some r) → E[i]? = some r) ∧ (thereL S).length = l ∧ Below w2.heap.size w2 wr)) (fun _ i _ _ => ng - (intOf i).toNat)
  case atStart => exact ⟨0, n, by omega, rfl, rfl, Lib.hid ⟨E.map some, HF3.out.shtab HEL.out.1, fun i r hr => by simpa using hr, by rw [there_all]; exact HEL.out.1, HF3.out.below⟩⟩
  case round =>
    obtain ⟨j, l, hj, rfl, rfl, H⟩ := hrel
    obtain ⟨S, hT, hS, hl, hB⟩ := H.out
    have hln : l ≤ n := by rw [← hl]; obtain ⟨_, _, _, h3, _⟩ := hT; rw [← h3]; exact there_le S
    by_cases hgo : j < ng ∧ j < 20
    · have l1 : (j : Int) < (ng : Int) := by omega
      have l2 : (j : Int) < 20 := by omega
      have l1' : j < ng := hgo.1
      obtain ⟨z, hz⟩ : ∃ z, gone[j]? = some z := ⟨_, List.getElem?_eq_getElem (by rw [HGL.out]; exact hgo.1)⟩
      obtain ⟨bg, og, rfl, _, hbg, hcg⟩ := HG.out.at (ics_at hz)
      have hcz : wr.cell? ⟨bg, og + j, none⟩ = some (.int .i64 z) := ((HC2.out.2.trans (hB.mono HC2.out.2.size)).cell (p := ⟨bg, og + j, none⟩) hbg).trans hcg
      obtain ⟨a, ha, ha'⟩ := and_small z 63 64 (by decide) (by omega)
      have f1 : bits .and .i64 z 63 = (a : Int) := ha'
      obtain ⟨t, ht⟩ : ∃ t, a % n = t := ⟨_, rfl⟩
      have htn : t < n := by rw [← ht]; exact Nat.mod_lt _ (by omega)
      have f2 : (a : Int).tmod (n : Int) = (t : Int) := by rw [Int.tmod_eq_emod_of_nonneg (by omega), ← ht]; rfl
      have f3 : ¬ (n : Int) = 0 := by omega
      have f4 : IntKind.i64.wrap (t : Int) = (t : Int) := IntWalk.i64_in _ (by omega)
      have f5 : (t : Int) < (n : Int) := by omega
      have hSl : S.length = n := by obtain ⟨_, _, _, h3, _⟩ := hT; exact h3
      obtain ⟨sv, hsv⟩ : ∃ v, S[t]? = some v := ⟨_, List.getElem?_eq_getElem (by omega)⟩
      obtain ⟨v, hv, hfz, hrw⟩ := hT.at hsv
      have HT := Lib.hid hT
      have HS := Lib.hid hS
      have HB := Lib.hid hB
      have HLL := Lib.hid hl
      have HSV := Lib.hid hsv
      have HG3 := Lib.hid HF3.out.glo
      clear hz hcg ha' ha ht hT hS hB hl hsv H hSl hgo
      cases sv with
      | none =>
        have hvn : v = .slice none 0 0 := hrw
        subst hvn
        clear hrw
        go_wp2
        go_roundw
        case rel => exact ⟨j + 1, l, by omega, by go_num, rfl, Lib.hid ⟨S, HT.out, HS.out, HLL.out, HB.out⟩⟩
        case measure => simp [intOf]; omega
      | some r =>
        obtain ⟨ad, ci, rfl, _⟩ := hrw
        have hpos : 1 ≤ l := by have h1 := there_set HSV.out; have h2 := HLL.out; omega
        have f6 : (l : Int) - 1 = ((l - 1 : Nat) : Int) := by omega
        have f7 : IntKind.i64.wrap ((l - 1 : Nat) : Int) = ((l - 1 : Nat) : Int) := IntWalk.i64_in _ (by omega)
        obtain ⟨l', hl'⟩ : ∃ q, l - 1 = q := ⟨_, rfl⟩
        rw [hl'] at f6 f7
        have HL' := Lib.hid hl'
        clear hl'
        generalize r.length = rl at hv
        go_wp2
        go_roundw
        case rel =>
          refine ⟨j + 1, l', by omega, by go_num, rfl, Lib.hid ⟨S.set t none, HT.out.clear t, fun i r' hr => ?_, ?_, HB.out.setCell (p := ⟨g3, t, none⟩) HG3.out _⟩⟩
          · by_cases hti : t = i
            · subst hti
              rw [List.getElem?_set_self (List.getElem?_eq_some_iff.1 HSV.out).1] at hr
              cases hr
            · rw [List.getElem?_set_ne hti] at hr
              exact HS.out i r' hr
          · have h1 := there_set HSV.out
            have h2 := HLL.out
            have h3 := HL'.out
            omega
        case measure => simp [intOf]; omega
    · have HLV := Lib.hid (there_lev HEL.out hS)
      have HSL := Lib.hid (show S.length = k + m from by obtain ⟨_, _, _, h3, _⟩ := hT; rw [h3]; exact HN.out.symm)
      have HSH := Lib.hid hT.shd
      have HWR := Lib.hid hB
      have HWW := Lib.hid (HC2.out.2.trans (hB.mono HC2.out.2.size))
      have HSE := Lib.hid (show ∀ (i : Nat) (r : List UInt8), S[i]? = some (some r) → (encL k m X)[i]? = some r from fun i r hr => by rw [HE.out]; exact hS i r hr)
      have HLL := Lib.hid hl
      by_cases cF : l < k
      · have cF' : (l : Int) < (k : Int) := by omega
        have HD := Lib.hid (decode_few wr p k m (HC2.out.1.below hB) hk1 (by omega) n HN.out.symm (some ⟨g3, 0, none⟩) n S hT.shd (by omega) (by have h1 := level_of_lev HLV.out; exact h1) (by omega))
        clear hT hS hB hl H
        by_cases cN : j < ng
        · have l1 : (j : Int) < (ng : Int) := by omega
          have l2 : ¬ (j : Int) < 20 := by omega
          have l1' : j < ng := cN
          go_wp2_with (first
            | (go_at_call 19; refine HD.out.mono ?_; rintro e w4 ⟨rfl, hb4⟩; have HB4 := Lib.hid (HWW.out.trans (hb4.mono HWW.out.size)); clear hb4)
            | (go_at_call 10; refine (one_says _).mono ?_; rintro e w9 ⟨rfl, hb9⟩; have HB9 := Lib.hid (HB4.out.trans (hb9.mono HB4.out.size)); clear hb9))
          go_ret
          exact ⟨rfl, HB9.out⟩
        · have l1 : ¬ (j : Int) < (ng : Int) := by omega
          go_wp2_with (first
            | (go_at_call 19; refine HD.out.mono ?_; rintro e w4 ⟨rfl, hb4⟩; have HB4 := Lib.hid (HWW.out.trans (hb4.mono HWW.out.size)); clear hb4)
            | (go_at_call 10; refine (one_says _).mono ?_; rintro e w9 ⟨rfl, hb9⟩; have HB9 := Lib.hid (HB4.out.trans (hb9.mono HB4.out.size)); clear hb9))
          go_ret
          exact ⟨rfl, HB9.out⟩
      · have cF' : ¬ (l : Int) < (k : Int) := by omega
        have HD := Lib.hid (decode_yes wr p k m (HC2.out.1.below hB) hk1 (by omega) n HN.out.symm (some ⟨g3, 0, none⟩) n S hT.shd s (by omega) HLV.out (by omega))
        rw [dec_is HXL.out hk1 (by omega) HSL.out HSE.out (there_enough HSL.out (by omega))] at HD
        clear hT hS hB hl H
        by_cases cN : j < ng
        · have l1 : (j : Int) < (ng : Int) := by omega
          have l2 : ¬ (j : Int) < 20 := by omega
          have l1' : j < ng := cN
          go_wp2_with (first
            | (go_at_call 19; refine HD.out.mono ?_; rintro e w4 ⟨g4, B4, rfl, hF4⟩; have HF4 := Lib.hid hF4; have HB4 := Lib.hid (HWW.out.trans (hF4.below.mono HWW.out.size)); clear hF4)
            | (go_at_call 18; have hjo := joins_full w4 (some ⟨g4, 0, none⟩) k k X (HF4.out.mtx HXL.out.1) (by omega) (fun r hr => by rw [HXL.out.2 r hr]; omega) HFL.out nb0 (by omega) HBK.out.1; simp only [HBK.out.2] at hjo; refine hjo.mono ?_; rintro e w5 ⟨Ay, cy, rfl, hLy, hb5⟩; have hB5 : Below w.heap.size w w5 := HB4.out.trans (hb5.mono HB4.out.size); have HB5 := Lib.hid hB5; have HX5 := Lib.hid (And.intro hLy hb5); clear hLy hb5 hB5 hjo)
            | (go_at_call 14; have hsame := rsameM_says w5 (some ⟨g4, 0, none⟩) k k X ((HF4.out.mtx HXL.out.1).below HX5.out.2) (some ⟨g2, 0, none⟩) k k X (HM2.out.below ((HWR.out.trans (HF4.out.below.mono HWR.out.size)).trans (HX5.out.2.mono (HWR.out.trans (HF4.out.below.mono HWR.out.size)).size))) (by omega); rw [decide_eq_true rfl] at hsame; refine hsame.mono ?_; rintro e w6 ⟨rfl, hb6⟩; have hcy := conv_lies (HX5.out.1.below hb6); have hB6 : Below w.heap.size w w6 := HB5.out.trans (hb6.mono HB5.out.size); have hcb := conv_lies (HLB.out.below hB6); have HB6 := Lib.hid hB6; clear hb6 hB6 hsame)
            | (go_at_call 10; refine (one_says _).mono ?_; rintro e w9 ⟨rfl, hb9⟩; have HB9 := Lib.hid (HB6.out.trans (hb9.mono HB6.out.size)); clear hb9))
          go_ret
          exact ⟨rfl, HB9.out⟩
        · have l1 : ¬ (j : Int) < (ng : Int) := by omega
          go_wp2_with (first
            | (go_at_call 19; refine HD.out.mono ?_; rintro e w4 ⟨g4, B4, rfl, hF4⟩; have HF4 := Lib.hid hF4; have HB4 := Lib.hid (HWW.out.trans (hF4.below.mono HWW.out.size)); clear hF4)
            | (go_at_call 18; have hjo := joins_full w4 (some ⟨g4, 0, none⟩) k k X (HF4.out.mtx HXL.out.1) (by omega) (fun r hr => by rw [HXL.out.2 r hr]; omega) HFL.out nb0 (by omega) HBK.out.1; simp only [HBK.out.2] at hjo; refine hjo.mono ?_; rintro e w5 ⟨Ay, cy, rfl, hLy, hb5⟩; have hB5 : Below w.heap.size w w5 := HB4.out.trans (hb5.mono HB4.out.size); have HB5 := Lib.hid hB5; have HX5 := Lib.hid (And.intro hLy hb5); clear hLy hb5 hB5 hjo)
            | (go_at_call 14; have hsame := rsameM_says w5 (some ⟨g4, 0, none⟩) k k X ((HF4.out.mtx HXL.out.1).below HX5.out.2) (some ⟨g2, 0, none⟩) k k X (HM2.out.below ((HWR.out.trans (HF4.out.below.mono HWR.out.size)).trans (HX5.out.2.mono (HWR.out.trans (HF4.out.below.mono HWR.out.size)).size))) (by omega); rw [decide_eq_true rfl] at hsame; refine hsame.mono ?_; rintro e w6 ⟨rfl, hb6⟩; have hcy := conv_lies (HX5.out.1.below hb6); have hB6 : Below w.heap.size w w6 := HB5.out.trans (hb6.mono HB5.out.size); have hcb := conv_lies (HLB.out.below hB6); have HB6 := Lib.hid hB6; clear hb6 hB6 hsame)
            | (go_at_call 10; refine (one_says _).mono ?_; rintro e w9 ⟨rfl, hb9⟩; have HB9 := Lib.hid (HB6.out.trans (hb9.mono HB6.out.size)); clear hb9))
          go_ret
          exact ⟨rfl, HB9.out⟩
set_option maxRecDepth 100000 in
set_option maxHeartbeats 8000000 in
theorem rsBack_long (w : World) (A : Option Addr) (nb0 c : Nat) (b0 : List UInt8) (hb0 : Lies w (fun _ => True) A nb0 c (bc b0)) (hnb : 300 < nb0) (x y : Int) (G : Option Addr) (ng cg : Nat) (gone : List Int) (hG : Lies w (fun _ => True) G ng cg (ics gone)) :
    Calls Try.prog 5 #[.slice A nb0 c, .agg #[.int .i64 x, .int .i64 y], .slice G ng cg] w fun e w' => e = .returned (.bool true) ∧ Below w.heap.size w w' := by
  have hb : Lies w (fun _ => True) A 300 c (bc (b0.take 300)) := by have h1 := hb0.first (show 300 ≤ nb0 by omega); rwa [bc_take] at h1
  have c0 : (300 : Int) < (nb0 : Int) := by omega
  have hle := hb0.le
  have hsl := fun W => sliceAt_to (P := Try.prog) Try.underlying31 byteInfo1 .i64 A nb0 c 300 (by omega) W
  clear hb0
  obtain ⟨k0, hk0, hk0'⟩ := and_small x 7 8 (by decide) (by omega)
  obtain ⟨m, hm, hm'⟩ := and_small y 7 8 (by decide) (by omega)
  have e1 : bits .and .i64 x 7 = (k0 : Int) := hk0'
  have e2 : bits .and .i64 y 7 = (m : Int) := hm'
  obtain ⟨k, hk⟩ : ∃ k, 1 + k0 = k := ⟨_, rfl⟩
  have e3 : (1 : Int) + (k0 : Int) = (k : Int) := by omega
  have e4 : IntKind.i64.wrap (k : Int) = (k : Int) := IntWalk.i64_in _ (by omega)
  have hk1 : 1 ≤ k := by omega
  have hk8 : k ≤ 8 := by omega
  obtain ⟨n, hn⟩ : ∃ n, k + m = n := ⟨_, rfl⟩
  have e5 : (k : Int) + (m : Int) = (n : Int) := by omega
  have e6 : IntKind.i64.wrap (n : Int) = (n : Int) := IntWalk.i64_in _ (by omega)
  have hn1 : 1 ≤ n := by omega
  have hn15 : n ≤ 15 := by omega
  have hbl : (b0.take 300).length = 300 := by rw [← bc_length]; exact hb.len
  obtain ⟨s, hs⟩ : ∃ t, cutSize 300 k = t := ⟨_, rfl⟩
  have hs1 : 1 ≤ s := by rw [← hs]; exact cut_size_pos _ _
  have hs3 : s ≤ 301 := by
    have h1 : 300 / k ≤ 300 := Nat.div_le_self _ _
    rw [← hs]
    unfold cutSize
    split <;> omega
  have hback := cut_back (b0.take 300) k hk1
  rw [hbl, hs] at hback
  have hfl : (cutTo (b0.take 300) s k).flatten.length ≤ 1000000 := by
    rw [cut_flat, joinTo_length]
    have := Nat.mul_le_mul hk8 hs3
    omega
  have hXL : Lev k s (cutTo (b0.take 300) s k) := ⟨cutTo_length _ _ _, rows_le⟩
  obtain ⟨X, hX⟩ : ∃ X, cutTo (b0.take 300) s k = X := ⟨_, rfl⟩
  have HC := Lib.hid (fun W (hW : Below w.heap.size w W) => cut_yes W A 300 c (b0.take 300) (hb.below hW) (by omega) k hk1 (by omega) s hs)
  rw [hX] at HC hback hfl hXL
  have HXL := Lib.hid hXL
  have HBK := Lib.hid hback
  have HFL := Lib.hid hfl
  have HBL := Lib.hid hbl
  have HLB := Lib.hid hb
  have HG := Lib.hid hG
  have HN := Lib.hid hn
  have hgl : gone.length = ng := by rw [← ics_length]; exact hG.len
  have HGL := Lib.hid hgl
  obtain ⟨E, hE⟩ : ∃ E, encL k m X = E := ⟨_, rfl⟩
  have HEL := Lib.hid (show Lev n s E from by rw [← hE, ← hn]; exact enc_lev hXL hk1)
  have HE := Lib.hid hE
  have q22 := neqNil
  clear hb hG hk0' hm' hk hback hfl hXL hX hs hbl hgl hE hn
  go_enter Try.func5, Try.ntmps5
  go_upto_region 3 with fail
  go_quiet (fail)
  have HW0 := Lib.hid (show Below w.heap.size w ((w.alloc (.cells #[.int .i64 x, .int .i64 y] 43)).drewN nq) from below_drewN' ((Below.refl _ w).alloc (Nat.le_refl _) _) nq)
  generalize (w.alloc (.cells #[.int .i64 x, .int .i64 y] 43)).drewN nq = w0 at HW0
  go_wp2_with (first
    | (go_at_call 9; refine (rnew_yes _ k m hk1 (by omega)).mono ?_; rintro e w1 ⟨p, rfl, hc1, hp1, hb1⟩; have HC1 := Lib.hid (And.intro hc1 (HW0.out.trans (hb1.mono HW0.out.size))); clear hc1 hb1 hp1)
    | (go_at_call 16; refine (HC.out _ HC1.out.2).mono ?_; rintro e w2 ⟨g2, B2, rfl, hF2⟩; have HC2 := Lib.hid (And.intro (HC1.out.1.below hF2.below) (HC1.out.2.trans (hF2.below.mono HC1.out.2.size))); have HF2 := Lib.hid hF2; clear hF2)
    | (go_at_call 12; have hen := encode_yes w2 p k m HC2.out.1 hk1 (by omega) (some ⟨g2, 0, none⟩) k k _ (HF2.out.shd HXL.out.1) s (enc_ok HXL.out) (by rw [bytesOf_some]; exact HXL.out) (by omega); rw [bytesOf_some, HE.out, HN.out] at hen; refine hen.mono ?_; rintro e w3 ⟨g3, B3, rfl, hF3⟩; have HF3 := Lib.hid hF3; clear hF3 hen))
  have HM2 := Lib.hid (HF2.out.mtx HXL.out.1)
  go_loopw [15, 16, 17] (fun lv i _ wr => ∃ (j l : Nat), j ≤ ng ∧ i = .int .i64 (j : Int) ∧ lv = .int .i64 (l : Int) ∧ Hid (∃ S, ShTab wr g3 n S ∧ (∀ (i : Nat) (r : List UInt8), S[i]? = some (some r) → E[i]? = some r) ∧ (thereL S).length = l ∧ Below w2.heap.size w2 wr)) (fun _ i _ _ => ng - (intOf i).toNat)
  case atStart => exact ⟨0, n, by omega, rfl, rfl, Lib.hid ⟨E.map some, HF3.out.shtab HEL.out.1, fun i r hr => by simpa using hr, by rw [there_all]; exact HEL.out.1, HF3.out.below⟩⟩
  case round =>
    obtain ⟨j, l, hj, rfl, rfl, H⟩ := hrel
    obtain ⟨S, hT, hS, hl, hB⟩ := H.out
    have hln : l ≤ n := by rw [← hl]; obtain ⟨_, _, _, h3, _⟩ := hT; rw [← h3]; exact there_le S
    by_cases hgo : j < ng ∧ j < 20
    · have l1 : (j : Int) < (ng : Int) := by omega
      have l2 : (j : Int) < 20 := by omega
      have l1' : j < ng := hgo.1
      obtain ⟨z, hz⟩ : ∃ z, gone[j]? = some z := ⟨_, List.getElem?_eq_getElem (by rw [HGL.out]; exact hgo.1)⟩
      obtain ⟨bg, og, rfl, _, hbg, hcg⟩ := HG.out.at (ics_at hz)
      have hcz : wr.cell? ⟨bg, og + j, none⟩ = some (.int .i64 z) := ((HC2.out.2.trans (hB.mono HC2.out.2.size)).cell (p := ⟨bg, og + j, none⟩) hbg).trans hcg
      obtain ⟨a, ha, ha'⟩ := and_small z 63 64 (by decide) (by omega)
      have f1 : bits .and .i64 z 63 = (a : Int) := ha'
      obtain ⟨t, ht⟩ : ∃ t, a % n = t := ⟨_, rfl⟩
      have htn : t < n := by rw [← ht]; exact Nat.mod_lt _ (by omega)
      have f2 : (a : Int).tmod (n : Int) = (t : Int) := by rw [Int.tmod_eq_emod_of_nonneg (by omega), ← ht]; rfl
      have f3 : ¬ (n : Int) = 0 := by omega
      have f4 : IntKind.i64.wrap (t : Int) = (t : Int) := IntWalk.i64_in _ (by omega)
      have f5 : (t : Int) < (n : Int) := by omega
      have hSl : S.length = n := by obtain ⟨_, _, _, h3, _⟩ := hT; exact h3
      obtain ⟨sv, hsv⟩ : ∃ v, S[t]? = some v := ⟨_, List.getElem?_eq_getElem (by omega)⟩
      obtain ⟨v, hv, hfz, hrw⟩ := hT.at hsv
      have HT := Lib.hid hT
      have HS := Lib.hid hS
      have HB := Lib.hid hB
      have HLL := Lib.hid hl
      have HSV := Lib.hid hsv
      have HG3 := Lib.hid HF3.out.glo
      clear hz hcg ha' ha ht hT hS hB hl hsv H hSl hgo
      cases sv with
      | none =>
        have hvn : v = .slice none 0 0 := hrw
        subst hvn
        clear hrw
        go_wp2
        go_roundw
        case rel => exact ⟨j + 1, l, by omega, by go_num, rfl, Lib.hid ⟨S, HT.out, HS.out, HLL.out, HB.out⟩⟩
        case measure => simp [intOf]; omega
      | some r =>
        obtain ⟨ad, ci, rfl, _⟩ := hrw
        have hpos : 1 ≤ l := by have h1 := there_set HSV.out; have h2 := HLL.out; omega
        have f6 : (l : Int) - 1 = ((l - 1 : Nat) : Int) := by omega
        have f7 : IntKind.i64.wrap ((l - 1 : Nat) : Int) = ((l - 1 : Nat) : Int) := IntWalk.i64_in _ (by omega)
        obtain ⟨l', hl'⟩ : ∃ q, l - 1 = q := ⟨_, rfl⟩
        rw [hl'] at f6 f7
        have HL' := Lib.hid hl'
        clear hl'
        generalize r.length = rl at hv
        go_wp2
        go_roundw
        case rel =>
          refine ⟨j + 1, l', by omega, by go_num, rfl, Lib.hid ⟨S.set t none, HT.out.clear t, fun i r' hr => ?_, ?_, HB.out.setCell (p := ⟨g3, t, none⟩) HG3.out _⟩⟩
          · by_cases hti : t = i
            · subst hti
              rw [List.getElem?_set_self (List.getElem?_eq_some_iff.1 HSV.out).1] at hr
              cases hr
            · rw [List.getElem?_set_ne hti] at hr
              exact HS.out i r' hr
          · have h1 := there_set HSV.out
            have h2 := HLL.out
            have h3 := HL'.out
            omega
        case measure => simp [intOf]; omega
    · have HLV := Lib.hid (there_lev HEL.out hS)
      have HSL := Lib.hid (show S.length = k + m from by obtain ⟨_, _, _, h3, _⟩ := hT; rw [h3]; exact HN.out.symm)
      have HSH := Lib.hid hT.shd
      have HWR := Lib.hid hB
      have HWW := Lib.hid (HC2.out.2.trans (hB.mono HC2.out.2.size))
      have HSE := Lib.hid (show ∀ (i : Nat) (r : List UInt8), S[i]? = some (some r) → (encL k m X)[i]? = some r from fun i r hr => by rw [HE.out]; exact hS i r hr)
      have HLL := Lib.hid hl
      by_cases cF : l < k
      · have cF' : (l : Int) < (k : Int) := by omega
        have HD := Lib.hid (decode_few wr p k m (HC2.out.1.below hB) hk1 (by omega) n HN.out.symm (some ⟨g3, 0, none⟩) n S hT.shd (by omega) (by have h1 := level_of_lev HLV.out; exact h1) (by omega))
        clear hT hS hB hl H
        by_cases cN : j < ng
        · have l1 : (j : Int) < (ng : Int) := by omega
          have l2 : ¬ (j : Int) < 20 := by omega
          have l1' : j < ng := cN
          go_wp2_with (first
            | (go_at_call 19; refine HD.out.mono ?_; rintro e w4 ⟨rfl, hb4⟩; have HB4 := Lib.hid (HWW.out.trans (hb4.mono HWW.out.size)); clear hb4)
            | (go_at_call 10; refine (one_says _).mono ?_; rintro e w9 ⟨rfl, hb9⟩; have HB9 := Lib.hid (HB4.out.trans (hb9.mono HB4.out.size)); clear hb9))
          go_ret
          exact ⟨rfl, HB9.out⟩
        · have l1 : ¬ (j : Int) < (ng : Int) := by omega
          go_wp2_with (first
            | (go_at_call 19; refine HD.out.mono ?_; rintro e w4 ⟨rfl, hb4⟩; have HB4 := Lib.hid (HWW.out.trans (hb4.mono HWW.out.size)); clear hb4)
            | (go_at_call 10; refine (one_says _).mono ?_; rintro e w9 ⟨rfl, hb9⟩; have HB9 := Lib.hid (HB4.out.trans (hb9.mono HB4.out.size)); clear hb9))
          go_ret
          exact ⟨rfl, HB9.out⟩
      · have cF' : ¬ (l : Int) < (k : Int) := by omega
        have HD := Lib.hid (decode_yes wr p k m (HC2.out.1.below hB) hk1 (by omega) n HN.out.symm (some ⟨g3, 0, none⟩) n S hT.shd s (by omega) HLV.out (by omega))
        rw [dec_is HXL.out hk1 (by omega) HSL.out HSE.out (there_enough HSL.out (by omega))] at HD
        clear hT hS hB hl H
        by_cases cN : j < ng
        · have l1 : (j : Int) < (ng : Int) := by omega
          have l2 : ¬ (j : Int) < 20 := by omega
          have l1' : j < ng := cN
          go_wp2_with (first
            | (go_at_call 19; refine HD.out.mono ?_; rintro e w4 ⟨g4, B4, rfl, hF4⟩; have HF4 := Lib.hid hF4; have HB4 := Lib.hid (HWW.out.trans (hF4.below.mono HWW.out.size)); clear hF4)
            | (go_at_call 18; have hjo := joins_full w4 (some ⟨g4, 0, none⟩) k k X (HF4.out.mtx HXL.out.1) (by omega) (fun r hr => by rw [HXL.out.2 r hr]; omega) HFL.out 300 (by omega) HBK.out.1; simp only [HBK.out.2] at hjo; refine hjo.mono ?_; rintro e w5 ⟨Ay, cy, rfl, hLy, hb5⟩; have hB5 : Below w.heap.size w w5 := HB4.out.trans (hb5.mono HB4.out.size); have HB5 := Lib.hid hB5; have HX5 := Lib.hid (And.intro hLy hb5); clear hLy hb5 hB5 hjo)
            | (go_at_call 14; have hsame := rsameM_says w5 (some ⟨g4, 0, none⟩) k k X ((HF4.out.mtx HXL.out.1).below HX5.out.2) (some ⟨g2, 0, none⟩) k k X (HM2.out.below ((HWR.out.trans (HF4.out.below.mono HWR.out.size)).trans (HX5.out.2.mono (HWR.out.trans (HF4.out.below.mono HWR.out.size)).size))) (by omega); rw [decide_eq_true rfl] at hsame; refine hsame.mono ?_; rintro e w6 ⟨rfl, hb6⟩; have hcy := conv_lies (HX5.out.1.below hb6); have hB6 : Below w.heap.size w w6 := HB5.out.trans (hb6.mono HB5.out.size); have hcb := conv_lies (HLB.out.below hB6); have HB6 := Lib.hid hB6; clear hb6 hB6 hsame)
            | (go_at_call 10; refine (one_says _).mono ?_; rintro e w9 ⟨rfl, hb9⟩; have HB9 := Lib.hid (HB6.out.trans (hb9.mono HB6.out.size)); clear hb9))
          go_ret
          exact ⟨rfl, HB9.out⟩
        · have l1 : ¬ (j : Int) < (ng : Int) := by omega
          go_wp2_with (first
            | (go_at_call 19; refine HD.out.mono ?_; rintro e w4 ⟨g4, B4, rfl, hF4⟩; have HF4 := Lib.hid hF4; have HB4 := Lib.hid (HWW.out.trans (hF4.below.mono HWW.out.size)); clear hF4)
            | (go_at_call 18; have hjo := joins_full w4 (some ⟨g4, 0, none⟩) k k X (HF4.out.mtx HXL.out.1) (by omega) (fun r hr => by rw [HXL.out.2 r hr]; omega) HFL.out 300 (by omega) HBK.out.1; simp only [HBK.out.2] at hjo; refine hjo.mono ?_; rintro e w5 ⟨Ay, cy, rfl, hLy, hb5⟩; have hB5 : Below w.heap.size w w5 := HB4.out.trans (hb5.mono HB4.out.size); have HB5 := Lib.hid hB5; have HX5 := Lib.hid (And.intro hLy hb5); clear hLy hb5 hB5 hjo)
            | (go_at_call 14; have hsame := rsameM_says w5 (some ⟨g4, 0, none⟩) k k X ((HF4.out.mtx HXL.out.1).below HX5.out.2) (some ⟨g2, 0, none⟩) k k X (HM2.out.below ((HWR.out.trans (HF4.out.below.mono HWR.out.size)).trans (HX5.out.2.mono (HWR.out.trans (HF4.out.below.mono HWR.out.size)).size))) (by omega); rw [decide_eq_true rfl] at hsame; refine hsame.mono ?_; rintro e w6 ⟨rfl, hb6⟩; have hcy := conv_lies (HX5.out.1.below hb6); have hB6 : Below w.heap.size w w6 := HB5.out.trans (hb6.mono HB5.out.size); have hcb := conv_lies (HLB.out.below hB6); have HB6 := Lib.hid hB6; clear hb6 hB6 hsame)
            | (go_at_call 10; refine (one_says _).mono ?_; rintro e w9 ⟨rfl, hb9⟩; have HB9 := Lib.hid (HB6.out.trans (hb9.mono HB6.out.size)); clear hb9))
          go_ret
          exact ⟨rfl, HB9.out⟩
end Go.Proofs.Ytpbkabgjpieggaa
