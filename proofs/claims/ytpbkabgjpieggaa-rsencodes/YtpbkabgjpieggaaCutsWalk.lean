/-
  RsCuts, walked.
-/
import Derived.Test.YtpbkabgjpieggaaRefCut
import Derived.Test.YtpbkabgjpieggaaOneS
namespace Go.Proofs.Ytpbkabgjpieggaa
open Go.RowKit

theorem joinTo_more (b : List UInt8) (x s : Nat) : joinTo x b ++ fillR s ((b.drop x).take s) = joinTo (x + s) b := by
  unfold joinTo fillR
  rw [List.length_take, List.length_drop]
  rcases Nat.le_total b.length x with h | h
  · rw [List.take_of_length_le h, List.take_of_length_le (show b.length ≤ x + s by omega), List.drop_of_length_le h, List.take_nil, List.nil_append, List.append_assoc, List.replicate_append_replicate]
    congr 2
    omega
  · rw [show x - b.length = 0 by omega, List.replicate_zero, List.append_nil, ← List.append_assoc, ← List.take_add]
    congr 2
    omega
theorem cut_flat (b : List UInt8) (s : Nat) : ∀ k, (cutTo b s k).flatten = joinTo (k * s) b
  | 0 => by simp [cutTo, joinTo]
  | k + 1 => by rw [cutTo_succ, List.flatten_append, cut_flat b s k, Nat.succ_mul, ← joinTo_more]; simp
theorem cut_enough (L many : Nat) (h : 1 ≤ many) : L ≤ many * cutSize L many := by
  have h1 := Nat.div_add_mod L many
  have h2 := Nat.mod_lt L (show many > 0 by omega)
  unfold cutSize
  obtain ⟨a, ha⟩ : ∃ x, L / many = x := ⟨_, rfl⟩
  obtain ⟨r, hr⟩ : ∃ x, L % many = x := ⟨_, rfl⟩
  rw [ha, hr] at h1 ⊢
  rw [hr] at h2
  by_cases h3 : a = 0 ∨ 0 < r
  · rw [if_pos h3, Nat.mul_add, Nat.mul_one]
    omega
  · rw [if_neg h3]
    omega
theorem cut_back (b : List UInt8) (many : Nat) (h : 1 ≤ many) : b.length ≤ (cutTo b (cutSize b.length many) many).flatten.length ∧ (cutTo b (cutSize b.length many) many).flatten.take b.length = b := by
  have h1 := cut_enough b.length many h
  rw [cut_flat]
  refine ⟨by rw [joinTo_length]; exact h1, ?_⟩
  unfold joinTo
  rw [List.take_of_length_le h1, List.take_left]
theorem slice_first (f : List UInt8) (N : Nat) (h : N ≤ f.length) (w : World) : (Instr.sliceAt 9 (.string ⟨f.toArray⟩) none (some (.int .i64 (N : Int))) none).run Try.prog w = .ok (.string ⟨(f.take N).toArray⟩) w := by
  have hz : (⟨f.toArray⟩ : ByteArray).size = f.length := str_size f
  have he : (⟨f.toArray⟩ : ByteArray).extract 0 N = ⟨(f.take N).toArray⟩ := by
    rw [← string_eq (ByteArray.extract _ _ _), Lib.extract_data]
    congr 2
  rw [run_sliceAt_string w 9 _ _ _ _ Try.underlying9, run_slice_string_h w 9 _ Try.underlying9 .i64 (N : Int) (by omega) (by rw [hz]; omega), Int.toNat_natCast, he]
section
variable (w : World) (A : Option Addr) (n c : Nat) (M : List (List UInt8)) (hM : Mtx w A n c M) (hn : n ≤ 2000) (hrow : ∀ r ∈ M, r.length ≤ 100000) (hf : M.flatten.length ≤ 1000000) (many : Nat) (hmany : (many : Int) ≤ 9223372036854775807)
include hM hn hrow hf hmany
theorem joins_full (h : many ≤ M.flatten.length) : Calls Try.prog 18 #[.slice A n c, .int .i64 (many : Int)] w fun e w' => ∃ A c, e = .returned (.tuple #[.slice A many c, .int .i64 0]) ∧ Lies w' (fun b => w.heap.size ≤ b) A many c (bc (M.flatten.take many)) ∧ Below w.heap.size w w' := by
  refine (joins_says w A n c M hM hn hrow hf many hmany).mono fun e w' hh => ?_
  unfold GivesJ at hh
  rwa [if_neg (by omega)] at hh
theorem joins_few (h : M.flatten.length < many) : Calls Try.prog 18 #[.slice A n c, .int .i64 (many : Int)] w fun e w' => e = .returned (.tuple #[.slice none 0 0, .int .i64 10]) ∧ w' = w := by
  refine (joins_says w A n c M hM hn hrow hf many hmany).mono fun e w' hh => ?_
  unfold GivesJ at hh
  rwa [if_pos h] at hh
end
theorem rows_le {b : List UInt8} {s k : Nat} : ∀ r ∈ cutTo b s k, r.length = s := fun r hr => by
  obtain ⟨i, _, rfl⟩ := List.mem_map.1 hr
  exact cut_row_length _ _ _
set_option maxRecDepth 100000 in
set_option maxHeartbeats 8000000 in
theorem rsCuts_walk (w : World) (A : Option Addr) (nb c : Nat) (b : List UInt8) (hb : Lies w (fun _ => True) A nb c (bc b)) (many n : Int) (hm : -9223372036854775808 ≤ many ∧ many ≤ 9223372036854775807) (hn : -9223372036854775808 ≤ n ∧ n ≤ 9223372036854775807) :
    Calls Try.prog 4 #[.slice A nb c, .int .i64 many, .int .i64 n] w fun e w' => e = .returned (.bool true) ∧ Below w.heap.size w w' := by
  have hbl : b.length = nb := by rw [← bc_length]; exact hb.len
  have HL := Lib.hid hb
  clear hb
  by_cases c0 : nb ≤ 3000
  case neg =>
    have c0' : (3000 : Int) < (nb : Int) := by omega
    go_enter Try.func4, Try.ntmps4
    go_wp2
    go_ret
    exact ⟨rfl, Below.refl _ _⟩
  have c0' : ¬ (3000 : Int) < (nb : Int) := by omega
  by_cases c1 : 1 ≤ many ∧ many ≤ 255
  case neg =>
    have HC := Lib.hid (cut_no w (.slice A nb c) many c1)
    by_cases c2 : many < 1
    · clear c1
      go_enter Try.func4, Try.ntmps4
      go_wp2_with (first
        | (go_at_call 16; refine HC.out.mono ?_; rintro e wn ⟨rfl, hwn⟩; obtain rfl : w = wn := hwn.symm)
        | (go_at_call 10; refine (one_says _).mono ?_; rintro e w9 ⟨rfl, hb9⟩; have HB9 := Lib.hid hb9; clear hb9))
      go_ret
      exact ⟨rfl, HB9.out⟩
    · have c3 : 255 < many := by omega
      clear c1
      go_enter Try.func4, Try.ntmps4
      go_wp2_with (first
        | (go_at_call 16; refine HC.out.mono ?_; rintro e wn ⟨rfl, hwn⟩; obtain rfl : w = wn := hwn.symm)
        | (go_at_call 10; refine (one_says _).mono ?_; rintro e w9 ⟨rfl, hb9⟩; have HB9 := Lib.hid hb9; clear hb9))
      go_ret
      exact ⟨rfl, HB9.out⟩
  obtain ⟨K, rfl⟩ : ∃ K : Nat, many = (K : Int) := ⟨many.toNat, by omega⟩
  have k1 : 1 ≤ K := by omega
  have k2 : K ≤ 255 := by omega
  have g1 : ¬ (K : Int) < 1 := by omega
  have g2 : ¬ (255 : Int) < (K : Int) := by omega
  obtain ⟨s, hs⟩ : ∃ x, cutSize nb K = x := ⟨_, rfl⟩
  have hs3 : s ≤ 3001 := by
    have h1 : nb / K ≤ nb := Nat.div_le_self _ _
    rw [← hs]
    unfold cutSize
    split <;> omega
  have hback := cut_back b K k1
  rw [hbl, hs] at hback
  have hfl : (cutTo b s K).flatten.length ≤ 1000000 := by
    rw [cut_flat, joinTo_length]
    have := Nat.mul_le_mul k2 hs3
    omega
  have HC := Lib.hid (cut_yes w A nb c b HL.out (by omega) K k1 k2 s hs)
  have HRC := Lib.hid (fun W (hW : Below w.heap.size w W) => rcut_says W A nb c b (HL.out.below hW) (by omega) K k1 k2 s hs)
  have hml := cutTo_length b s K
  have hrl := rows_le (b := b) (s := s) (k := K)
  obtain ⟨M, hM⟩ : ∃ M, cutTo b s K = M := ⟨_, rfl⟩
  rw [hM] at HC HRC hback hfl hml hrl
  have HBK := Lib.hid hback
  have HFL := Lib.hid hfl
  have HML := Lib.hid hml
  have HRL := Lib.hid hrl
  have HBL := Lib.hid hbl
  clear hm c1 hback hfl hml hrl hM hs hbl
  go_enter Try.func4, Try.ntmps4
  go_wp2_with (first
    | (go_at_call 16; refine HC.out.mono ?_; rintro e w1 ⟨g1', B1, rfl, hF1⟩; have HF1 := Lib.hid hF1; clear hF1)
    | (go_at_call 17; refine (HRC.out _ HF1.out.below).mono ?_; rintro e w2 ⟨v2, rfl, hB2, hb2⟩; obtain ⟨A2, c2, hv2, hM2⟩ := hB2.mtx; rw [HML.out] at hv2 hM2; subst hv2; have HM2 := Lib.hid (And.intro hM2 hb2); clear hM2 hB2 hb2)
    | (go_at_call 14; have hsame := rsameM_says w2 (some ⟨g1', 0, none⟩) K K M ((HF1.out.mtx HML.out).below HM2.out.2) A2 K c2 M HM2.out.1 (by omega); rw [decide_eq_true rfl] at hsame; refine hsame.mono ?_; rintro e w3 ⟨rfl, hb3⟩; have HM3 := Lib.hid (And.intro (HM2.out.1.below hb3) (HM2.out.2.trans (hb3.mono HM2.out.2.size))); clear hb3 hsame))
  go_loopw [10, 11] (fun sv i wr => ∃ j : Nat, j ≤ K ∧ i = .int .i64 (j : Int) ∧ sv = .string ⟨(M.take j).flatten.toArray⟩ ∧ Hid (wr = w3)) (fun _ i _ => K - (intOf i).toNat)
  case atStart => exact ⟨0, by omega, rfl, by simp, Lib.hid rfl⟩
  case round =>
    obtain ⟨j, hj, rfl, rfl, H⟩ := hrel
    obtain rfl : w3 = wr := H.out.symm
    clear H
    by_cases hlt : j < K
    · have l1 : (j : Int) < (K : Int) := by omega
      obtain ⟨r, hrj⟩ : ∃ r, M[j]? = some r := ⟨_, List.getElem?_eq_getElem (by rw [HML.out]; exact hlt)⟩
      obtain ⟨bb, off, Aj, cj, rfl, hbb, hc, hlj⟩ := HM3.out.1.row hrj
      have hcv := conv_lies hlj
      have HFS := Lib.hid (flat_succ hrj)
      have hrs := HRL.out r (List.mem_of_getElem? hrj)
      rw [hrs] at hc hcv
      generalize hS : (⟨(M.take j).flatten.toArray⟩ : ByteArray) = S
      generalize hT : (⟨r.toArray⟩ : ByteArray) = T at hcv
      have HST := Lib.hid (show S ++ T = ⟨(M.take (j + 1)).flatten.toArray⟩ from by rw [HFS.out, ← hS, ← hT, str_append])
      have hle : S.size + T.size ≤ 2000000 := by
        rw [← hS, ← hT, str_size, str_size, hrs]
        have h1 : (M.take j).flatten.length ≤ M.flatten.length := by
          conv => rhs; rw [← List.take_append_drop j M]
          rw [List.flatten_append, List.length_append]
          omega
        have := HFL.out
        omega
      have hss : ¬ 9223372036854775807 < S.size + T.size := fun h => absurd (Nat.lt_of_lt_of_le h hle) (by decide)
      clear hrj hlj hS hT hrs hle
      go_wp2
      go_roundw
      case rel => exact ⟨j + 1, by omega, by go_num, by rw [← HST.out], Lib.hid trivial⟩
      case measure => simp [intOf]; omega
    · obtain rfl : j = K := by omega
      have l1 : ¬ (j : Int) < (j : Int) := by omega
      rw [List.take_of_length_le (l := M) (i := j) (by rw [HML.out]; exact Nat.le_refl _)]
      obtain ⟨F, hF⟩ : ∃ F, M.flatten = F := ⟨_, rfl⟩
      rw [hF] at HBK HFL ⊢
      have HFE := Lib.hid hF
      obtain ⟨fl, hfl⟩ : ∃ x, F.length = x := ⟨_, rfl⟩
      have hsz : (⟨F.toArray⟩ : ByteArray).size = fl := by rw [str_size]; exact hfl
      have HW3 := Lib.hid (show Below w1.heap.size w1 w3 from HM3.out.2)
      have HWB := Lib.hid (show Below w.heap.size w w3 from HF1.out.below.trans (HM3.out.2.mono HF1.out.below.size))
      have HM1 := Lib.hid ((HF1.out.mtx HML.out).below HW3.out)
      have HJ2 := Lib.hid (fun W (hW : Below w3.heap.size w3 W) => joins_full W (some ⟨g1', 0, none⟩) j j M (HM1.out.below hW) (by omega) (fun r hr => by rw [HRL.out r hr]; omega) (by rw [HFE.out]; exact HFL.out) nb (by omega) (by rw [HFE.out]; exact HBK.out.1))
      simp only [HFE.out, HBK.out.2] at HJ2
      by_cases c5 : n < 0
      · have HJ1 := Lib.hid (fun W => join_neg W (.slice (some ⟨g1', 0, none⟩) j j) n c5)
        generalize hS : (⟨F.toArray⟩ : ByteArray) = S at hsz
        clear hF hfl hS
        go_wp2_with (first
          | (go_at_call 18; (with_reducible refine (HJ1.out _).mono ?_); rintro e wn ⟨rfl, hwn⟩; obtain rfl : w3 = wn := hwn.symm)
          | (go_at_call 18; (with_reducible refine (HJ2.out _ (Below.refl _ _)).mono ?_); rintro e w5 ⟨Ay, cy, rfl, hLy, hb5⟩; have hB5 : Below w.heap.size w w5 := HWB.out.trans (hb5.mono HWB.out.size); have hcy := conv_lies hLy; have hcb := conv_lies (HL.out.below hB5); have HB5 := Lib.hid hB5; clear hLy hb5 hB5)
          | (go_at_call 10; refine (one_says _).mono ?_; rintro e w9 ⟨rfl, hb9⟩; have HB9 := Lib.hid (HB5.out.trans (hb9.mono HB5.out.size)); clear hb9))
        go_ret
        exact ⟨rfl, HB9.out⟩
      · obtain ⟨N, rfl⟩ : ∃ N : Nat, n = (N : Int) := ⟨n.toNat, by omega⟩
        by_cases c6 : F.length < N
        · have HJ1 := Lib.hid (fun W (hW : Below w3.heap.size w3 W) => joins_few W (some ⟨g1', 0, none⟩) j j M (HM1.out.below hW) (by omega) (fun r hr => by rw [HRL.out r hr]; omega) (by rw [HFE.out]; exact HFL.out) N (by omega) (by rw [HFE.out]; exact c6))
          have c6' : (fl : Int) < (N : Int) := by omega
          generalize hS : (⟨F.toArray⟩ : ByteArray) = S at hsz
          clear hF hS
          go_wp2_with (first
            | (go_at_call 18; (with_reducible refine (HJ1.out _ (Below.refl _ _)).mono ?_); rintro e wn ⟨rfl, hwn⟩; obtain rfl : w3 = wn := hwn.symm)
            | (go_at_call 18; (with_reducible refine (HJ2.out _ (Below.refl _ _)).mono ?_); rintro e w5 ⟨Ay, cy, rfl, hLy, hb5⟩; have hB5 : Below w.heap.size w w5 := HWB.out.trans (hb5.mono HWB.out.size); have hcy := conv_lies hLy; have hcb := conv_lies (HL.out.below hB5); have HB5 := Lib.hid hB5; clear hLy hb5 hB5)
            | (go_at_call 10; refine (one_says _).mono ?_; rintro e w9 ⟨rfl, hb9⟩; have HB9 := Lib.hid (HB5.out.trans (hb9.mono HB5.out.size)); clear hb9))
          go_ret
          exact ⟨rfl, HB9.out⟩
        · have HJ1 := Lib.hid (fun W (hW : Below w3.heap.size w3 W) => joins_full W (some ⟨g1', 0, none⟩) j j M (HM1.out.below hW) (by omega) (fun r hr => by rw [HRL.out r hr]; omega) (by rw [HFE.out]; exact HFL.out) N (by omega) (by rw [HFE.out]; omega))
          simp only [HFE.out] at HJ1
          have c6' : ¬ (fl : Int) < (N : Int) := by omega
          have hsl := fun W => slice_first F N (by omega) W
          generalize hS : (⟨F.toArray⟩ : ByteArray) = S at hsz hsl
          clear hF hS
          go_upto_region 22 with (first
            | (go_at_call 18; (with_reducible refine (HJ1.out _ (Below.refl _ _)).mono ?_); rintro e w4 ⟨Ax, cx, rfl, hLx, hb4⟩; have HX4 := Lib.hid (And.intro hLx hb4); clear hLx hb4)
            | (go_at_call 18; (with_reducible refine (HJ2.out _ HX4.out.2).mono ?_); rintro e w5 ⟨Ay, cy, rfl, hLy, hb5⟩; have hcy := conv_lies hLy; have hB5 : Below w.heap.size w w5 := (HWB.out.trans (HX4.out.2.mono HWB.out.size)).trans (hb5.mono (HWB.out.trans (HX4.out.2.mono HWB.out.size)).size); have hcb := conv_lies (HL.out.below hB5); have HB5 := Lib.hid hB5; have HX5 := Lib.hid (HX4.out.1.below hb5); clear hLy hb5 hB5))
          have k5 : ∀ q : Grows w5, (convert 31 9 (.slice Ax N cx)).run Try.prog q.val = .ok (.string ⟨(F.take N).toArray⟩) q.val := fun q => conv_lies (HX5.out.below q.prop)
          have k6 : ∀ q : Grows w5, Calls Try.prog 10 #[] q.val fun e w'' => e = .returned (.bool true) ∧ ∃ p' : Grows w5, w'' = p'.val := fun q => (one_says q.val).mono fun _ w'' hh => ⟨hh.1, ⟨w'', q.prop.trans (hh.2.mono q.prop.size)⟩, rfl⟩
          generalize hX : (⟨(F.take N).toArray⟩ : ByteArray) = X at k5 hsl
          clear hX hcy hcb
          refine wp_region_grows (by kernel_rfl) (by kernel_rfl) ?_
          repeat (first
            | (with_reducible refine wpQuiet_no ?_ ?_; (· first | (go_simp; done) | (go_simp; simp [undef]; done)); simp only [Act.put, List.setIfInBounds_toArray, List.set_cons_zero, List.set_cons_succ])
            | quiet_step (first | (go_at_call 10; exact k6 _)))
          refine wpQuiet_nil ?_
          rintro w9 ⟨⟨_, hw9⟩, rfl⟩
          have HW9 := Lib.hid (HB5.out.trans (hw9.mono HB5.out.size))
          clear hw9 k5 k6
          go_wp2
          go_ret
          exact ⟨rfl, HW9.out⟩
end Go.Proofs.Ytpbkabgjpieggaa
