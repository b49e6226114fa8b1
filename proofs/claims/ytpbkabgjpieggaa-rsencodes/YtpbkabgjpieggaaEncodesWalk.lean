/-
  RsEncodes, walked.
-/
import Derived.Test.YtpbkabgjpieggaaRefEnc
import Derived.Test.YtpbkabgjpieggaaBackS
namespace Go.Proofs.Ytpbkabgjpieggaa
open Go.RowKit Go.Shelf

/-- The first j shards are there, and as long as the first one. -/
def fitTo (S : List (Option (List UInt8))) (j : Nat) : Bool := (S.take j).all (fun s => !s.isNone && ((s.getD []).length == ((S.headD none).getD []).length))
theorem fitTo_succ {S : List (Option (List UInt8))} {j : Nat} {s : Option (List UInt8)} (h : S[j]? = some s) : fitTo S (j + 1) = (fitTo S j && (!s.isNone && ((s.getD []).length == ((S.headD none).getD []).length))) := by
  have h1 : S.take (j + 1) = S.take j ++ [s] := by rw [List.take_add_one, h]; rfl
  unfold fitTo
  rw [h1, List.all_append]
  simp
theorem fit_all (S : List (Option (List UInt8))) (h : 0 < S.length) : fitTo S S.length = (!S.any (·.isNone) && levelB (bytesOf S)) := by
  unfold fitTo levelB
  rw [List.take_length]
  have hh : (bytesOf S).headD [] = (S.headD none).getD [] := by
    cases S with
    | nil => simp at h
    | cons a t => rfl
  rw [hh]
  generalize ((S.headD none).getD []).length = z
  clear h hh
  induction S with
  | nil => rfl
  | cons a t ih =>
    simp only [List.all_cons, List.any_cons, bytesOf, List.map_cons] at ih ⊢
    rw [ih]
    cases a.isNone <;> simp [Bool.and_left_comm]
theorem some_of {S : List (Option (List UInt8))} (h : S.any (·.isNone) = false) : S = (bytesOf S).map some := by
  rw [List.any_eq_false] at h
  unfold bytesOf
  rw [List.map_map]
  conv => lhs; rw [← List.map_id S]
  apply List.map_congr_left
  intro s hs
  have := h s hs
  cases s with
  | none => simp at this
  | some r => rfl
/-- The first j of L are as long as the first one. -/
def lenTo (L : List (Option (List UInt8))) (j : Nat) : Bool := (L.take j).all (fun s => (s.getD []).length == ((L.headD none).getD []).length)
theorem lenTo_succ {S : List (Option (List UInt8))} {j : Nat} {s : Option (List UInt8)} (h : S[j]? = some s) : lenTo S (j + 1) = (lenTo S j && ((s.getD []).length == ((S.headD none).getD []).length)) := by
  have h1 : S.take (j + 1) = S.take j ++ [s] := by rw [List.take_add_one, h]; rfl
  unfold lenTo
  rw [h1, List.all_append]
  simp
theorem len_level {L : List (Option (List UInt8))} {n : Nat} (h : 0 < n) : lenTo L n = levelB (bytesOf (L.take n)) := by
  unfold lenTo levelB bytesOf
  rw [List.all_map]
  have hh : ((L.take n).map (fun s => s.getD [])).headD [] = (L.headD none).getD [] := by
    cases L with
    | nil => simp
    | cons a t =>
      cases n with
      | zero => omega
      | succ n => rfl
  rw [hh]
  rfl
theorem any_succ {S : List (Option (List UInt8))} {j : Nat} {s : Option (List UInt8)} (h : S[j]? = some s) : (S.take (j + 1)).any (·.isNone) = ((S.take j).any (·.isNone) || s.isNone) := by
  have h1 : S.take (j + 1) = S.take j ++ [s] := by rw [List.take_add_one, h]; rfl
  rw [h1, List.any_append]
  simp
theorem beq_cast (a b : Nat) : ((a : Int) == (b : Int)) = (a == b) := by
  by_cases h : a = b
  · subst h; simp
  · rw [show ((a : Int) == (b : Int)) = false from by simp; omega, show (a == b) = false from by simp; omega]
theorem beq_dec (a b : Nat) : (a == b) = decide (a = b) := by
  by_cases h : a = b
  · subst h; simp
  · rw [decide_eq_false h]; simp [h]
theorem shd_head {w : World} {A : Option Addr} {n c : Nat} {S : List (Option (List UInt8))} (h : Shd w A n c S) (h0 : 0 < n) : ∃ b off A0 c0, A = some ⟨b, off, none⟩ ∧ b < w.heap.size ∧ w.cell? ⟨b, off, none⟩ = some (.slice A0 ((S.headD none).getD []).length c0) := by
  obtain ⟨s, hs⟩ : ∃ s, S[0]? = some s := ⟨_, List.getElem?_eq_getElem (by rw [h.len]; exact h0)⟩
  obtain ⟨b, off, v, h1, h2, h3, h4⟩ := h.row hs
  obtain ⟨A0, c0, h5, _⟩ := h4.lies
  have hh : S.headD none = s := by
    cases S with
    | nil => simp at hs
    | cons a t => simpa using hs
  exact ⟨b, off, A0, c0, h1, h2, by rw [hh, ← h5]; exact h3⟩
set_option maxRecDepth 100000 in
set_option maxHeartbeats 8000000 in
theorem rsEncodes_few (w : World) (A : Option Addr) (n c : Nat) (S : List (Option (List UInt8))) (hS : Shd w A n c S) (x : Int) (B : Option Addr) (nl d : Nat) (L : List (Option (List UInt8))) (hL : Shd w B nl d L) (hno : ¬ (fewB (bytesOf S) 14 ∧ fewB (bytesOf L) 14 ∧ 1 ≤ n ∧ n ≤ 12)) :
    Calls Try.prog 3 #[.slice A n c, .int .i64 x, .slice B nl d] w fun e w' => e = .returned (.bool true) ∧ Below w.heap.size w w' := by
  have H1 := few_says w A n c _ hS.mtx 14 (by omega)
  have H2 := few_says w B nl d _ hL.mtx 14 (by omega)
  have hl := hS.len
  by_cases c1 : fewB (bytesOf S) 14
  case neg =>
    rw [if_neg c1] at H1
    have HF1 := Lib.hid (show Calls Try.prog 8 #[.slice A n c, .int .i64 14] w _ from H1)
    clear H1 H2 hS hL hno c1
    go_enter Try.func3, Try.ntmps3
    go_wp2_with (go_at_call 8; refine HF1.out.mono ?_; rintro e wn ⟨rfl, hwn⟩; obtain rfl : w = wn := hwn.symm)
    go_ret
    exact ⟨rfl, Below.refl _ _⟩
  rw [if_pos c1] at H1
  have HF1 := Lib.hid (show Calls Try.prog 8 #[.slice A n c, .int .i64 14] w _ from H1)
  by_cases c2 : fewB (bytesOf L) 14
  case neg =>
    rw [if_neg c2] at H2
    have HF2 := Lib.hid (show Calls Try.prog 8 #[.slice B nl d, .int .i64 14] w _ from H2)
    clear H1 H2 hS hL hno c1 c2
    go_enter Try.func3, Try.ntmps3
    go_wp2_with (first
      | (go_at_call 8; (with_reducible refine HF1.out.mono ?_); rintro e wn ⟨rfl, hwn⟩; obtain rfl : w = wn := hwn.symm)
      | (go_at_call 8; (with_reducible refine HF2.out.mono ?_); rintro e wn ⟨rfl, hwn⟩; obtain rfl : w = wn := hwn.symm))
    go_ret
    exact ⟨rfl, Below.refl _ _⟩
  rw [if_pos c2] at H2
  have HF2 := Lib.hid (show Calls Try.prog 8 #[.slice B nl d, .int .i64 14] w _ from H2)
  by_cases c3 : n ≤ 12
  case neg =>
    have c3' : (12 : Int) < (n : Int) := by omega
    clear H1 H2 hS hL hno c1 c2
    go_enter Try.func3, Try.ntmps3
    go_wp2_with (first
      | (go_at_call 8; (with_reducible refine HF1.out.mono ?_); rintro e wn ⟨rfl, hwn⟩; obtain rfl : w = wn := hwn.symm)
      | (go_at_call 8; (with_reducible refine HF2.out.mono ?_); rintro e wn ⟨rfl, hwn⟩; obtain rfl : w = wn := hwn.symm))
    go_ret
    exact ⟨rfl, Below.refl _ _⟩
  obtain rfl : n = 0 := by
    rcases Nat.eq_zero_or_pos n with h | h
    · exact h
    · exact absurd ⟨c1, c2, h, c3⟩ hno
  obtain ⟨m, hm, hm'⟩ := and_small x 7 8 (by decide) (by omega)
  have e2 : bits .and .i64 x 7 = (m : Int) := hm'
  have HN := Lib.hid (fun W => rnew_no W 0 (m : Int) (by omega) (by omega) (by unfold newOk; omega))
  clear H1 H2 hS hL hno c1 c2 hm'
  go_enter Try.func3, Try.ntmps3
  go_wp2_with (first
    | (go_at_call 8; (with_reducible refine HF1.out.mono ?_); rintro e wn ⟨rfl, hwn⟩; obtain rfl : w = wn := hwn.symm)
    | (go_at_call 8; (with_reducible refine HF2.out.mono ?_); rintro e wn ⟨rfl, hwn⟩; obtain rfl : w = wn := hwn.symm)
    | (go_at_call 9; refine (HN.out _).mono ?_; rintro e wn ⟨rfl, hwn⟩; obtain rfl : w = wn := hwn.symm)
    | (go_at_call 10; refine (one_says _).mono ?_; rintro e w9 ⟨rfl, hb9⟩; have HB9 := Lib.hid hb9; clear hb9))
  go_ret
  exact ⟨rfl, HB9.out⟩
set_option maxRecDepth 100000 in
set_option maxHeartbeats 8000000 in
theorem rsEncodes_more (w : World) (A : Option Addr) (n c : Nat) (S : List (Option (List UInt8))) (hS : Shd w A n c S) (x : Int) (B : Option Addr) (nl d : Nat) (L : List (Option (List UInt8))) (hL : Shd w B nl d L) (c1 : fewB (bytesOf S) 14) (c2 : fewB (bytesOf L) 14) (h1 : 1 ≤ n) (h12 : n ≤ 12) :
    Calls Try.prog 3 #[.slice A n c, .int .i64 x, .slice B nl d] w fun e w' => e = .returned (.bool true) ∧ Below w.heap.size w w' := by
  have H1 := few_says w A n c _ hS.mtx 14 (by omega)
  have H2 := few_says w B nl d _ hL.mtx 14 (by omega)
  rw [if_pos c1] at H1
  rw [if_pos c2] at H2
  have HF1 := Lib.hid (show Calls Try.prog 8 #[.slice A n c, .int .i64 14] w _ from H1)
  have HF2 := Lib.hid (show Calls Try.prog 8 #[.slice B nl d, .int .i64 14] w _ from H2)
  have hl := hS.len
  have hll := hL.len
  have hnl : nl ≤ 14 := by have := c2.1; rw [bytesOf_length] at this; omega
  obtain ⟨m, hm, hm'⟩ := and_small x 7 8 (by decide) (by omega)
  have e2 : bits .and .i64 x 7 = (m : Int) := hm'
  have c3 : ¬ (12 : Int) < (n : Int) := by omega
  have c4 : ((n : Int) == 0) = false := by simp; omega
  obtain ⟨bA, oA, A0, z0, hA, hbA, hcA⟩ := shd_head hS (by omega)
  obtain ⟨n0, hn0⟩ : ∃ t, ((S.headD none).getD []).length = t := ⟨_, rfl⟩
  rw [hn0] at hcA
  have HN0 := Lib.hid hn0
  have hp0 : 0 < n := by omega
  have hp0' : (0 : Int) < (n : Int) := by omega
  have HS := Lib.hid hS
  have HLS := Lib.hid hL
  have HC2 := Lib.hid c2
  have HC1 := Lib.hid c1
  have q22 := neqNil
  obtain ⟨km, hkm⟩ : ∃ t, n + m = t := ⟨_, rfl⟩
  have HKM := Lib.hid hkm
  have hkm22 : km ≤ 20 := by omega
  subst hA
  clear hS hL H1 H2 hm' hn0 c1 c2 hkm
  go_enter Try.func3, Try.ntmps3
  go_wp2_with (first
    | (go_at_call 8; (with_reducible refine HF1.out.mono ?_); rintro e wn ⟨rfl, hwn⟩; obtain rfl : w = wn := hwn.symm)
    | (go_at_call 8; (with_reducible refine HF2.out.mono ?_); rintro e wn ⟨rfl, hwn⟩; obtain rfl : w = wn := hwn.symm)
    | (go_at_call 9; refine (rnew_yes _ n m h1 (by omega)).mono ?_; rintro e w1 ⟨p, rfl, hc1, hp1, hb1⟩; have HC := Lib.hid (And.intro hc1 hb1); clear hc1 hb1 hp1)
    | (go_at_call 11; refine (counts_made w1 p n m HC.out.1 h1).mono ?_; rintro e w2 ⟨rfl, hb2⟩; have HB2 := Lib.hid (And.intro (HC.out.1.below hb2) (HC.out.2.trans (hb2.mono HC.out.2.size))); clear hb2))
  go_loopw [11, 12] (fun fv i wr => ∃ j : Nat, j ≤ n ∧ i = .int .i64 (j : Int) ∧ fv = .bool (fitTo S j) ∧ Hid (Below w2.heap.size w2 wr)) (fun _ i _ => n - (intOf i).toNat)
  case atStart => exact ⟨0, by omega, rfl, by simp [fitTo], Lib.hid (Below.refl _ _)⟩
  case round =>
    obtain ⟨j, hj, rfl, rfl, H⟩ := hrel
    have hBW : Below w.heap.size w wr := HB2.out.2.trans (H.out.mono HB2.out.2.size)
    by_cases hlt : j < n
    · have l1 : (j : Int) < (n : Int) := by omega
      obtain ⟨s, hs⟩ : ∃ s, S[j]? = some s := ⟨_, List.getElem?_eq_getElem (by omega)⟩
      obtain ⟨b', o', v, hA', hb', hcj, hr⟩ := HS.out.row hs
      cases hA'
      obtain ⟨Aj, cj, rfl, _, hnj, _⟩ := hr.lies
      have hfs := fitTo_succ hs
      rw [HN0.out] at hfs
      obtain ⟨nj, hnn⟩ : ∃ t, (s.getD []).length = t := ⟨_, rfl⟩
      rw [hnn] at hcj hfs
      have hwb : bA < wr.heap.size := Nat.lt_of_lt_of_le hbA hBW.size
      have k1 := grows_cell ((hBW.cell (p := ⟨bA, oA, none⟩) hbA).trans hcA) hwb
      have k2 := grows_cell ((hBW.cell (p := ⟨bA, oA + j, none⟩) hbA).trans hcj) hwb
      have HFS := Lib.hid hfs
      have HNJ := Lib.hid hnj
      obtain ⟨ft, hft⟩ : ∃ t, fitTo S j = t := ⟨_, rfl⟩
      rw [hft] at HFS ⊢
      have HBW := Lib.hid hBW
      clear hs hcj hr hnj hnn hfs hft hBW hb'
      rcases Bool.eq_false_or_eq_true ft with rfl | rfl
      · cases Aj with
        | none =>
          go_wp2_with fail
          refine wp_region_grows (by kernel_rfl) (by kernel_rfl) ?_
          repeat (first
            | (with_reducible refine wpQuiet_no ?_ ?_; (· first | (go_simp; done) | (go_simp; simp [undef]; done)); simp only [Act.put, List.setIfInBounds_toArray, List.set_cons_zero, List.set_cons_succ])
            | quiet_step (fail))
          refine wpQuiet_nil ?_
          rintro w3 ⟨⟨_, hw3⟩, rfl⟩
          rename_i w3
          have HW3 := Lib.hid hw3
          clear hw3 k1 k2
          go_wp2
          go_roundw
          case rel => exact ⟨j + 1, by omega, by go_num, by rw [HFS.out, ← HNJ.out]; rfl, Lib.hid (H.out.trans (HW3.out.mono H.out.size))⟩
          case measure => simp [intOf]; omega
        | some ad =>
          go_wp2_with fail
          refine wp_region_grows (by kernel_rfl) (by kernel_rfl) ?_
          repeat (first
            | (with_reducible refine wpQuiet_no ?_ ?_; (· first | (go_simp; done) | (go_simp; simp [undef]; done)); simp only [Act.put, List.setIfInBounds_toArray, List.set_cons_zero, List.set_cons_succ])
            | quiet_step (fail))
          refine wpQuiet_nil ?_
          rintro w3 ⟨⟨_, hw3⟩, rfl⟩
          rename_i w3
          have HW3 := Lib.hid hw3
          clear hw3 k1 k2
          go_wp2
          go_roundw
          case rel => exact ⟨j + 1, by omega, by go_num, by rw [HFS.out, ← HNJ.out, beq_cast]; rfl, Lib.hid (H.out.trans (HW3.out.mono H.out.size))⟩
          case measure => simp [intOf]; omega
      · go_wp2_with fail
        refine wp_region_grows (by kernel_rfl) (by kernel_rfl) ?_
        repeat (first
          | (with_reducible refine wpQuiet_no ?_ ?_; (· first | (go_simp; done) | (go_simp; simp [undef]; done)); simp only [Act.put, List.setIfInBounds_toArray, List.set_cons_zero, List.set_cons_succ])
          | quiet_step (fail))
        refine wpQuiet_nil ?_
        rintro w3 ⟨⟨_, hw3⟩, rfl⟩
        rename_i w3
        have HW3 := Lib.hid hw3
        clear hw3 k1 k2
        go_wp2
        go_roundw
        case rel => exact ⟨j + 1, by omega, by go_num, by rw [HFS.out]; rfl, Lib.hid (H.out.trans (HW3.out.mono H.out.size))⟩
        case measure => simp [intOf]; omega
    · obtain rfl : j = n := by omega
      have l1 : ¬ (j : Int) < (j : Int) := by omega
      have hfa := fit_all S (by omega)
      rw [hl] at hfa
      have HBW := Lib.hid hBW
      have HCW := Lib.hid (HB2.out.1.below H.out)
      clear hBW H
      cases hfit : fitTo S j with
      | false =>
        have hno : ¬ encOk j S := fun e => by
          rw [hfa, e.2.1, e.2.2] at hfit
          cases hfit
        have HE := Lib.hid (encode_no wr p j m HCW.out h1 _ j c S (HS.out.below HBW.out) (by omega) hno)
        clear hfit hfa hno
        go_wp2_with (first
          | (go_at_call 12; refine HE.out.mono ?_; rintro e w3 ⟨rfl, hb3⟩; have HB3 := Lib.hid (HBW.out.trans (hb3.mono HBW.out.size)); clear hb3)
          | (go_at_call 10; refine (one_says _).mono ?_; rintro e w9 ⟨rfl, hb9⟩; have HB9 := Lib.hid (HB3.out.trans (hb9.mono HB3.out.size)); clear hb9))
        go_ret
        exact ⟨rfl, HB9.out⟩
      | true =>
        rw [hfit] at hfa
        have ha1 : S.any (·.isNone) = false := by
          cases h : S.any (·.isNone) with
          | false => rfl
          | true => rw [h] at hfa; cases hfa
        have ha2 : levelB (bytesOf S) = true := by rw [ha1] at hfa; simpa using hfa.symm
        obtain ⟨X, hX⟩ : ∃ X, bytesOf S = X := ⟨_, rfl⟩
        have hSX := some_of ha1
        rw [hX] at hSX ha2
        have hXL := level_head ha2
        obtain ⟨q, hq⟩ : ∃ t, colsOf X = t := ⟨_, rfl⟩
        rw [hq] at hXL
        have hXn : X.length = j := by rw [← hX, bytesOf_length]; exact hl
        rw [hXn] at hXL
        have hq14 : q ≤ 14 := by
          obtain ⟨r0, hr0, _, hr0l⟩ := hXL.get (show 0 < j by omega)
          rw [← hr0l]
          exact HC1.out.2 r0 (by rw [hX]; exact List.mem_of_getElem? hr0)
        have HXL := Lib.hid hXL
        have HXS := Lib.hid (show Shd w (some ⟨bA, oA, none⟩) j c (X.map some) from by rw [← hSX]; exact HS.out)
        have HEL := Lib.hid (show Lev km q (encL j m X) from by rw [← HKM.out]; exact enc_lev hXL h1)
        clear hfit hfa ha1 ha2 hSX hXL hq hXn hX
        go_wp2_with (first
          | (go_at_call 12; have hen := encode_yes wr p j m HCW.out h1 (by omega) (some ⟨bA, oA, none⟩) j c (X.map some) (HXS.out.below HBW.out) q (enc_ok HXL.out) (by rw [bytesOf_some]; exact HXL.out) (by omega); rw [bytesOf_some, HKM.out] at hen; refine hen.mono ?_; rintro e w3 ⟨g3, B3, rfl, hF3⟩; have HF3 := Lib.hid hF3; have HB3 := Lib.hid (HBW.out.trans (hF3.below.mono HBW.out.size)); clear hF3 hen)
          | (go_at_call 13; refine (renc_says w3 (some ⟨bA, oA, none⟩) j c m q X (HXS.out.below HB3.out) HXL.out h1 (by omega) (by omega)).mono ?_; rintro e w4 ⟨A4, n4, c4, rfl, hS4, hb4⟩; obtain rfl : km = n4 := (by have h5 := hS4.len; rw [List.length_map, HEL.out.1] at h5; exact h5); have HS4 := Lib.hid (And.intro hS4 hb4); have HB4 := Lib.hid (HB3.out.trans (hb4.mono HB3.out.size)); clear hS4 hb4)
          | (go_at_call 14; have hsame := rsameM_says w4 (some ⟨g3, 0, none⟩) km km _ ((HF3.out.mtx HEL.out.1).below HS4.out.2) A4 km c4 _ HS4.out.1.mtx (by omega); rw [bytesOf_some, decide_eq_true rfl] at hsame; refine hsame.mono ?_; rintro e w5 ⟨rfl, hb5⟩; have HS5 := Lib.hid (HS4.out.1.below hb5); have HB5 := Lib.hid (HB4.out.trans (hb5.mono HB4.out.size)); have HC5 := Lib.hid (((HCW.out.below HF3.out.below).below HS4.out.2).below hb5); clear hb5 hsame)
          | (go_at_call 15; have hrt := cright_says w5 p j m km HC5.out h1 (by omega) HKM.out.symm A4 km c4 _ HS5.out (by omega) (by rw [bytesOf_some]; intro r hr; rw [HEL.out.2 r hr]; omega); rw [right_enc HXL.out h1] at hrt; refine hrt.mono ?_; rintro e w6 ⟨rfl, hb6⟩; have HC6 := Lib.hid (HC5.out.below hb6); have HB6 := Lib.hid (HB5.out.trans (hb6.mono HB5.out.size)); clear hb6 hrt))
        have HLQ := Lib.hid (show ∀ r ∈ bytesOf L, r.length ≤ 1000 from fun r hr => by have := HC2.out.2 r hr; omega)
        have HRT := Lib.hid (fun W (hW : Below w6.heap.size w6 W) => cright_says W p j m km (HC6.out.below hW) h1 (by omega) HKM.out.symm B nl d L (HLS.out.below (HB6.out.trans (hW.mono HB6.out.size))) (by omega) HLQ.out)
        clear HXS HEL HF3 HS4 HS5 HCW HC5 HB3 HB4 HB5 HBW
        go_loopw [16, 17] (fun rv i wr => ∃ t : Nat, t ≤ nl ∧ i = .int .i64 (t : Int) ∧ rv = .bool (decide (nl = km) && !(L.take t).any (·.isNone)) ∧ Hid (wr = w6)) (fun _ i _ => nl - (intOf i).toNat)
        case atStart => exact ⟨0, by omega, rfl, by rw [beq_cast, beq_dec]; simp, Lib.hid rfl⟩
        case round =>
          obtain ⟨t, ht, rfl, rfl, H⟩ := hrel
          obtain rfl : w6 = wr := H.out.symm
          clear H
          cases hrt : (decide (nl = km) && !(L.take t).any (·.isNone)) with
          | false =>
            have HRB := Lib.hid (show rightB j m L = false from by
              unfold rightB
              rw [hll]
              by_cases h7 : nl = km
              · rw [decide_eq_true h7, Bool.true_and] at hrt
                have h8 : L.any (·.isNone) = true := by
                  rw [List.any_eq_true]
                  have h9 : (L.take t).any (·.isNone) = true := by simpa using hrt
                  rw [List.any_eq_true] at h9
                  obtain ⟨y, hy, hy2⟩ := h9
                  exact ⟨y, List.mem_of_mem_take hy, hy2⟩
                rw [h8]
                simp
              · rw [decide_eq_false (by have := HKM.out; omega)]
                rfl)
            have HRR := Lib.hid (by have h8 := HRT.out w6 (Below.refl _ _); rw [HRB.out] at h8; exact h8)
            have HBF := Lib.hid HB6.out
            clear hrt
            go_wp2_with fail
            go_loopw [16, 18] (fun rv _ wr => rv = .bool false ∧ Hid (wr = w6)) (fun _ _ _ => 0)
            case atStart => exact ⟨rfl, Lib.hid rfl⟩
            case round =>
              obtain ⟨rfl, H⟩ := hrel
              obtain rfl : w6 = wr := H.out.symm
              clear H
              go_wp2_with (first
                | (go_at_call 15; refine HRR.out.mono ?_; rintro e w7 ⟨rfl, hb7⟩; have HB7 := Lib.hid (HBF.out.trans (hb7.mono HBF.out.size)); clear hb7)
                | (go_at_call 10; refine (one_says _).mono ?_; rintro e w9 ⟨rfl, hb9⟩; have HB9 := Lib.hid (HB7.out.trans (hb9.mono HB7.out.size)); clear hb9))
              go_ret
              exact ⟨rfl, HB9.out⟩
          | true =>
            rw [Bool.and_eq_true, decide_eq_true_eq] at hrt
            obtain ⟨h7, h8⟩ := hrt
            by_cases hlt : t < nl
            · have l2 : (t : Int) < (nl : Int) := by omega
              obtain ⟨s, hs⟩ : ∃ s, L[t]? = some s := ⟨_, List.getElem?_eq_getElem (by omega)⟩
              obtain ⟨b', o', v, rfl, hb', hct, hr⟩ := (HLS.out.below HB6.out).row hs
              obtain ⟨At, ct, rfl, _, hnt, _⟩ := hr.lies
              have has := any_succ hs
              rw [show (L.take t).any (·.isNone) = false from by simpa using h8, Bool.false_or, ← hnt] at has
              have HAS := Lib.hid (show (decide (nl = km) && !(L.take (t + 1)).any (·.isNone)) = !At.isNone from by rw [has, decide_eq_true h7]; rfl)
              generalize (s.getD []).length = ns at hct
              clear hs hr hnt has h8 h7
              go_wp2
              go_roundw
              case rel => exact ⟨t + 1, by omega, by go_num, by rw [HAS.out]; cases At <;> rfl, Lib.hid trivial⟩
              case measure => simp [intOf]; omega
            · obtain rfl : t = nl := by omega
              have l2 : ¬ (t : Int) < (t : Int) := by omega
              have hany : L.any (·.isNone) = false := by
                rw [List.take_of_length_le (by omega)] at h8
                simpa using h8
              have hjl : j ≤ t := by have := HKM.out; omega
              obtain ⟨bB, oB, B0, d0, hB, hbB, hcB⟩ := shd_head HLS.out (by omega)
              obtain ⟨m0, hm0⟩ : ∃ y, ((L.headD none).getD []).length = y := ⟨_, rfl⟩
              rw [hm0] at hcB
              have HM0 := Lib.hid hm0
              subst hB
              have HANY := Lib.hid hany
              have H7 := Lib.hid h7
              have ht0 : 0 < t := by omega
              have ht0' : (0 : Int) < (t : Int) := by omega
              clear h8 hany hm0 h7
              go_wp2_with fail
              go_loopw [16, 18] (fun rv i wr => ∃ y : Nat, y ≤ j ∧ i = .int .i64 (y : Int) ∧ rv = .bool (lenTo L y) ∧ Hid (Below w6.heap.size w6 wr)) (fun _ i _ => j - (intOf i).toNat)
              case atStart => exact ⟨0, by omega, rfl, by simp [lenTo], Lib.hid (Below.refl _ _)⟩
              case round =>
                obtain ⟨y, hy, rfl, rfl, H⟩ := hrel
                have hBW : Below w.heap.size w wr := HB6.out.trans (H.out.mono HB6.out.size)
                cases hle : lenTo L y with
                | false =>
                  have HRB := Lib.hid (show rightB j m L = false from by
                    have h9 : levelB (bytesOf (L.take j)) = false := by
                      rw [← len_level (by omega)]
                      unfold lenTo at hle ⊢
                      rw [List.all_eq_false] at hle ⊢
                      obtain ⟨z, hz, hz2⟩ := hle
                      exact ⟨z, (List.take_sublist_take_left hy).subset hz, hz2⟩
                    unfold rightB
                    rw [h9]
                    simp)
                  have HRR := Lib.hid (by have h8 := HRT.out wr H.out; rw [HRB.out] at h8; exact h8)
                  have HBF := Lib.hid hBW
                  clear hle hBW
                  go_wp2_with (first
                    | (go_at_call 15; refine HRR.out.mono ?_; rintro e w7 ⟨rfl, hb7⟩; have HB7 := Lib.hid (HBF.out.trans (hb7.mono HBF.out.size)); clear hb7)
                    | (go_at_call 10; refine (one_says _).mono ?_; rintro e w9 ⟨rfl, hb9⟩; have HB9 := Lib.hid (HB7.out.trans (hb9.mono HB7.out.size)); clear hb9))
                  go_ret
                  exact ⟨rfl, HB9.out⟩
                | true =>
                  by_cases hlt3 : y < j
                  · have l3 : (y : Int) < (j : Int) := by omega
                    have l4 : (y : Int) < (t : Int) := by omega
                    have l4' : y < t := by omega
                    obtain ⟨s, hs⟩ : ∃ s, L[y]? = some s := ⟨_, List.getElem?_eq_getElem (by omega)⟩
                    obtain ⟨b', o', v, hB', hb', hcy, hr⟩ := HLS.out.row hs
                    cases hB'
                    obtain ⟨Ay, cy, rfl, _, _, _⟩ := hr.lies
                    have hls := lenTo_succ hs
                    rw [HM0.out, hle, Bool.true_and] at hls
                    obtain ⟨ny, hny⟩ : ∃ z, (s.getD []).length = z := ⟨_, rfl⟩
                    rw [hny] at hcy hls
                    have hcy' : wr.cell? ⟨bB, oB + y, none⟩ = some (.slice Ay ny cy) := (hBW.cell (p := ⟨bB, oB + y, none⟩) hbB).trans hcy
                    have hc0' : wr.cell? ⟨bB, oB, none⟩ = some (.slice B0 m0 d0) := (hBW.cell (p := ⟨bB, oB, none⟩) hbB).trans hcB
                    have HLN := Lib.hid hls
                    clear hs hcy hr hny hls hBW hle
                    go_wp2_with fail
                    go_quiet (fail)
                    go_wp2
                    go_roundw
                    case rel => exact ⟨y + 1, by omega, by go_num, by rw [HLN.out, beq_cast], Lib.hid (below_drewN' H.out _)⟩
                    case measure => simp [intOf]; omega
                  · obtain rfl : y = j := by omega
                    have l3 : ¬ (y : Int) < (y : Int) := by omega
                    have hlv : levelB (bytesOf (L.take y)) = true := by rw [← len_level (by omega)]; exact hle
                    obtain ⟨Y, hY⟩ : ∃ Y, bytesOf L = Y := ⟨_, rfl⟩
                    have hLY := some_of HANY.out
                    rw [hY] at hLY
                    have hYt : bytesOf (L.take y) = Y.take y := by rw [hLY, ← List.map_take, bytesOf_some]
                    have hYn : Y.length = t := by rw [← hY, bytesOf_length]; exact hll
                    rw [hYt] at hlv
                    have hYL := level_head hlv
                    rw [List.length_take, Nat.min_eq_left (by omega)] at hYL
                    obtain ⟨q', hq'⟩ : ∃ z, colsOf (Y.take y) = z := ⟨_, rfl⟩
                    rw [hq'] at hYL
                    have hq14' : q' ≤ 300 := by
                      obtain ⟨r0, hr0, _, hr0l⟩ := hYL.get (show 0 < y by omega)
                      rw [← hr0l]
                      have h9 := HC2.out.2 r0 (by rw [hY]; exact List.mem_of_mem_take (List.mem_of_getElem? hr0))
                      omega
                    have hSL : Shd w (some ⟨bB, oB, none⟩) y d ((Y.take y).map some) := by
                      have h9 := HLS.out.first (k := y) (by omega)
                      rwa [hLY, ← List.map_take] at h9
                    have HRB := Lib.hid (show rightB y m L = decide (Y = encL y m (Y.take y)) from by
                      unfold rightB
                      rw [hYt, hlv, HANY.out, hY, decide_eq_true (show L.length = y + m by rw [hll]; have := HKM.out; have := H7.out; omega)]
                      simp)
                    have HRR := Lib.hid (fun W (hW : Below w6.heap.size w6 W) => by have h8 := HRT.out W hW; rw [HRB.out] at h8; exact h8)
                    have HSL := Lib.hid hSL
                    have HYL := Lib.hid hYL
                    have HYM := Lib.hid (show Mtx w (some ⟨bB, oB, none⟩) t d Y from by rw [← hY]; exact HLS.out.mtx)
                    have hs5 := fun W => sliceAt_to (P := Try.prog) Try.underlying22 rowInfo1 .i64 (some ⟨bB, oB, none⟩) t d y (by have := HLS.out.le; omega) W
                    have HBW := Lib.hid hBW
                    have HW6 := Lib.hid H.out
                    obtain ⟨bb, hbb⟩ : ∃ z, decide (Y = encL y m (Y.take y)) = z := ⟨_, rfl⟩
                    rw [hbb] at HRR
                    have HBB := Lib.hid hbb
                    clear hlv hLY hYt hYn hYL hq' hSL hBW hle hY hbb H
                    go_wp2_with (first
                      | (go_at_call 13; refine (renc_says wr (some ⟨bB, oB, none⟩) y d m q' (Y.take y) (HSL.out.below HBW.out) HYL.out h1 (by omega) hq14').mono ?_; rintro e w7 ⟨A7, n7, c7, rfl, hS7, hb7⟩; have HM7 := Lib.hid hS7.mtx; have HB7 := Lib.hid hb7; clear hS7 hb7)
                      | (go_at_call 14; have hsame := rsameM_says w7 (some ⟨bB, oB, none⟩) t d Y (HYM.out.below (HBW.out.trans (HB7.out.mono HBW.out.size))) A7 n7 c7 _ HM7.out (by omega); rw [bytesOf_some, HBB.out] at hsame; refine hsame.mono ?_; rintro e w8 ⟨rfl, hb8⟩; have HB8 := Lib.hid (show Below wr.heap.size wr w8 from HB7.out.trans (hb8.mono HB7.out.size)); clear hb8 hsame)
                      | (go_at_call 15; refine (HRR.out _ (HW6.out.trans (HB8.out.mono HW6.out.size))).mono ?_; rintro e w10 ⟨rfl, hb10⟩; have HB10 := Lib.hid ((HBW.out.trans (HB8.out.mono HBW.out.size)).trans (hb10.mono (HBW.out.trans (HB8.out.mono HBW.out.size)).size)); clear hb10)
                      | (go_at_call 10; refine (one_says _).mono ?_; rintro e w9 ⟨rfl, hb9⟩; have HB9 := Lib.hid (HB10.out.trans (hb9.mono HB10.out.size)); clear hb9))
                    go_ret
                    exact ⟨rfl, HB9.out⟩
theorem rsEncodes_walk (w : World) (A : Option Addr) (n c : Nat) (S : List (Option (List UInt8))) (hS : Shd w A n c S) (x : Int) (B : Option Addr) (nl d : Nat) (L : List (Option (List UInt8))) (hL : Shd w B nl d L) :
    Calls Try.prog 3 #[.slice A n c, .int .i64 x, .slice B nl d] w fun e w' => e = .returned (.bool true) ∧ Below w.heap.size w w' := by
  by_cases h : fewB (bytesOf S) 14 ∧ fewB (bytesOf L) 14 ∧ 1 ≤ n ∧ n ≤ 12
  · exact rsEncodes_more w A n c S hS x B nl d L hL h.1 h.2.1 h.2.2.1 h.2.2.2
  · exact rsEncodes_few w A n c S hS x B nl d L hL h
end Go.Proofs.Ytpbkabgjpieggaa
