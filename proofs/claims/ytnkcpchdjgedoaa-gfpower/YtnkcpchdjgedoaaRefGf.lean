/-
  The reference's powers, logarithms and values of polynomials.
-/
import Derived.Test.YtnkcpchdjgedoaaRefInv
import Derived.Test.YtnkcpchdjgedoaaGfPure
import Derived.Test.YtnkcpchdjgedoaaGrows
namespace Go.Proofs.Ytnkcpchdjgedoaa
open Go.RowKit

set_option maxRecDepth 100000 in
set_option maxHeartbeats 2000000 in
theorem rpower_says (a : UInt8) (n : Int) (w : World) :
    Calls Try.prog 19 #[.int .u8 (a.toNat : Int), .int .i64 n] w fun e w' => e = .returned (.int .u8 ((powL a n).toNat : Int)) ∧ w' = w := by
  have hI := rinv_says a w
  have hM := fun x y => rmul_says x y w
  obtain ⟨K, hK⟩ : ∃ K, n.natAbs % 255 = K := ⟨_, rfl⟩
  have hK2 : K < 255 := by omega
  rcases Int.lt_trichotomy n 0 with hneg | hzero | hpos
  · -- below 0
    have hn0 : ¬ n = 0 := by omega
    have ht := tmod_neg hneg
    rw [hK] at ht
    by_cases ha : a = 0
    · subst ha
      have HRES := Lib.hid (show powL 0 n = 0 from by rw [powL, if_pos hneg, if_pos rfl])
      rw [Gf.inv_zero] at hI
      clear hK
      rcases Nat.eq_zero_or_pos K with hk | hk
      · subst hk
        have ht' : n.tmod 255 = 0 := ht
        clear ht
        go_enter Try.func19, Try.ntmps19
        go_wp2_with (go_at_call 13; refine hI.mono ?_; rintro e w1 ⟨rfl, hw1⟩; obtain rfl : w = w1 := hw1.symm)
        go_ret
        refine ⟨?_, rfl⟩
        rw [HRES.out]
        rfl
      · have hkn : -(K : Int) < 0 := by omega
        have hnn : - -(K : Int) = (K : Int) := by omega
        go_enter Try.func19, Try.ntmps19
        go_wp2_with (go_at_call 13; refine hI.mono ?_; rintro e w1 ⟨rfl, hw1⟩; obtain rfl : w = w1 := hw1.symm)
        go_ret
        refine ⟨?_, rfl⟩
        rw [HRES.out]
        rfl
    · obtain ⟨c, hc⟩ : ∃ c, Gf.inv a = c := ⟨_, rfl⟩
      have hcne : c ≠ 0 := by rw [← hc]; exact Gf.inv_ne ha
      have hcn : ((c.toNat : Int) == 0) = false := by have := Gf.toNat_ne hcne; simp; omega
      have hnb : (n != 0) = true := by simpa using hn0
      have HRES := Lib.hid (show powL a n = Gf.pw c K from by rw [powL, if_pos hneg, if_neg ha, hc, hK])
      rw [hc] at hI
      clear hc hK ha
      rcases Nat.eq_zero_or_pos K with hk | hk
      · subst hk
        have ht' : n.tmod 255 = 0 := ht
        clear ht
        go_enter Try.func19, Try.ntmps19
        go_wp2_with (go_at_call 13; refine hI.mono ?_; rintro e w1 ⟨rfl, hw1⟩; obtain rfl : w = w1 := hw1.symm)
        go_loopw [6, 7] (fun p i wr => p = .int .u8 1 ∧ i = .int .i64 0 ∧ Hid (wr = w)) (fun _ _ _ => 0)
        case atStart => exact ⟨rfl, rfl, Lib.hid rfl⟩
        case round =>
          obtain ⟨rfl, rfl, H⟩ := hrel
          have hw' : w = wr := H.out.symm
          subst hw'
          go_wp2
          go_ret
          refine ⟨?_, rfl⟩
          rw [HRES.out]
          rfl
      · have hkn : -(K : Int) < 0 := by omega
        have hnn : - -(K : Int) = (K : Int) := by omega
        have hwK : wrap64 (K : Int) = (K : Int) := IntWalk.wrap64_in _ (by omega)
        go_enter Try.func19, Try.ntmps19
        go_wp2_with (go_at_call 13; refine hI.mono ?_; rintro e w1 ⟨rfl, hw1⟩; obtain rfl : w = w1 := hw1.symm)
        go_loopw [6, 7] (fun p i wr => ∃ (j : Nat) (x : UInt8), j ≤ K ∧ i = .int .i64 (j : Int) ∧ p = .int .u8 (x.toNat : Int) ∧ Hid (wr = w ∧ x = Gf.pw c j)) (fun _ i _ => K - (intOf i).toNat)
        case atStart => exact ⟨0, 1, by omega, rfl, rfl, Lib.hid ⟨rfl, rfl⟩⟩
        case round =>
          obtain ⟨j, x, hj, rfl, rfl, H⟩ := hrel
          have hw' : w = wr := H.out.1.symm
          subst hw'
          by_cases hlt : j < K
          · have l1 : (j : Int) < (K : Int) := by omega
            have hm := hM x c
            go_wp2_with (go_at_call 10; refine hm.mono ?_; rintro e w1 ⟨rfl, rfl⟩)
            go_roundw
            case rel => exact ⟨j + 1, Gf.mul x c, by omega, by go_num, rfl, Lib.hid ⟨trivial, by rw [H.out.2]; rfl⟩⟩
            case measure => simp [intOf]; omega
          · obtain rfl : j = K := by omega
            have l1 : ¬ (j : Int) < (j : Int) := by omega
            go_wp2
            go_ret
            refine ⟨?_, rfl⟩
            rw [HRES.out, ← H.out.2]
            rfl
  · -- 0
    subst hzero
    have HRES := Lib.hid (show powL a 0 = 1 from by rw [powL, if_neg (by omega), if_pos rfl])
    clear hK
    go_enter Try.func19, Try.ntmps19
    go_wp2_with fail
    go_loopw [6, 7] (fun p i wr => p = .int .u8 1 ∧ i = .int .i64 0 ∧ Hid (wr = w)) (fun _ _ _ => 0)
    case atStart => exact ⟨rfl, rfl, Lib.hid rfl⟩
    case round =>
      obtain ⟨rfl, rfl, H⟩ := hrel
      have hw' : w = wr := H.out.symm
      subst hw'
      go_wp2
      go_ret
      refine ⟨?_, rfl⟩
      rw [HRES.out]
      rfl
  · -- above 0
    have hn0 : ¬ n = 0 := by omega
    have hn1 : ¬ n < 0 := by omega
    have ht := tmod_pos (show 0 ≤ n by omega)
    rw [hK] at ht
    have hkn : ¬ (K : Int) < 0 := by omega
    by_cases ha : a = 0
    · subst ha
      have HRES := Lib.hid (show powL 0 n = 0 from by rw [powL, if_neg hn1, if_neg hn0, if_pos rfl])
      clear hK
      go_enter Try.func19, Try.ntmps19
      go_wp2
      go_ret
      refine ⟨?_, rfl⟩
      rw [HRES.out]
      rfl
    · have hcn : ((a.toNat : Int) == 0) = false := by have := Gf.toNat_ne ha; simp; omega
      have hnb : (n != 0) = true := by simpa using hn0
      have HRES := Lib.hid (show powL a n = Gf.pw a K from by rw [powL, if_neg hn1, if_neg hn0, if_neg ha, hK])
      clear hK
      go_enter Try.func19, Try.ntmps19
      go_wp2_with fail
      go_loopw [6, 7] (fun p i wr => ∃ (j : Nat) (x : UInt8), j ≤ K ∧ i = .int .i64 (j : Int) ∧ p = .int .u8 (x.toNat : Int) ∧ Hid (wr = w ∧ x = Gf.pw a j)) (fun _ i _ => K - (intOf i).toNat)
      case atStart => exact ⟨0, 1, by omega, rfl, rfl, Lib.hid ⟨rfl, rfl⟩⟩
      case round =>
        obtain ⟨j, x, hj, rfl, rfl, H⟩ := hrel
        have hw' : w = wr := H.out.1.symm
        subst hw'
        by_cases hlt : j < K
        · have l1 : (j : Int) < (K : Int) := by omega
          have hm := hM x a
          go_wp2_with (go_at_call 10; refine hm.mono ?_; rintro e w1 ⟨rfl, rfl⟩)
          go_roundw
          case rel => exact ⟨j + 1, Gf.mul x a, by omega, by go_num, rfl, Lib.hid ⟨trivial, by rw [H.out.2]; rfl⟩⟩
          case measure => simp [intOf]; omega
        · obtain rfl : j = K := by omega
          have l1 : ¬ (j : Int) < (j : Int) := by omega
          go_wp2
          go_ret
          refine ⟨?_, rfl⟩
          rw [HRES.out, ← H.out.2]
          rfl

set_option maxRecDepth 100000 in
set_option maxHeartbeats 1000000 in
theorem rlog_says (a : UInt8) (w : World) : Calls Try.prog 16 #[.int .u8 (a.toNat : Int)] w fun e w' => e = .returned (.int .i64 (logL a)) ∧ w' = w := by
  go_enter Try.func16, Try.ntmps16
  go_wp2_with fail
  go_loopw [3] (fun i wr => ∃ k : Nat, k ≤ 255 ∧ i = .int .i64 (k : Int) ∧ Hid (wr = w ∧ ∀ j, j < k → Gf.gpow 2 j ≠ a.toNat)) (fun i _ => 255 - (intOf i).toNat)
  case atStart => exact ⟨0, by omega, rfl, Lib.hid ⟨rfl, fun j h => by omega⟩⟩
  case round =>
    obtain ⟨k, hk, rfl, H⟩ := hrel
    have hw' : w = wr := H.out.1.symm
    subst hw'
    by_cases hlt : k < 255
    · have l1 : (k : Int) < 255 := by omega
      have hp := rpower_says 2 (k : Int) w
      rw [powL_nat 2 k hlt (by decide), pw2_toNat] at hp
      have hp' : Calls Try.prog 19 #[.int .u8 2, .int .i64 (k : Int)] w fun e w' => e = .returned (.int .u8 ((Gf.gpow 2 k : Nat) : Int)) ∧ w' = w := hp
      clear hp
      obtain ⟨g, hg⟩ : ∃ g, Gf.gpow 2 k = g := ⟨_, rfl⟩
      rw [hg] at hp'
      by_cases he : g = a.toNat
      · have hb : ((g : Int) == (a.toNat : Int)) = true := by simp [he]
        have HRES := Lib.hid (show logL a = (k : Int) from by
          have hne : a ≠ 0 := fun e => by
            have h1 := Gf.pw_ne (a := 2) (by decide) k
            have h2 := pw2_toNat k
            rw [hg, he, e] at h2
            exact h1 (UInt8.toNat_inj.1 h2)
          obtain ⟨h1, h2, h3⟩ := Gf.glog_spec a.toNat (Gf.lt256 a) (Gf.toNat_ne hne)
          rw [logL, if_neg hne]
          have h4 : Gf.glog a.toNat = k := by
            rcases Nat.lt_trichotomy (Gf.glog a.toNat) k with h5 | h5 | h5
            · exact absurd h2 (H.out.2 _ h5)
            · exact h5
            · exact absurd (hg.trans he) (h3 k h5)
          rw [h4])
        clear he hg
        go_wp2_with (go_at_call 19; refine hp'.mono ?_; rintro e w1 ⟨rfl, rfl⟩)
        go_ret
        refine ⟨?_, rfl⟩
        rw [HRES.out]
        rfl
      · have hb : ((g : Int) == (a.toNat : Int)) = false := by simp; omega
        have HE := Lib.hid (And.intro hg he)
        clear he hg
        go_wp2_with (go_at_call 19; refine hp'.mono ?_; rintro e w1 ⟨rfl, rfl⟩)
        go_roundw
        case rel =>
          refine ⟨k + 1, by omega, by go_num, Lib.hid ⟨trivial, fun j hj => ?_⟩⟩
          rcases Nat.lt_or_ge j k with h3 | h3
          · exact H.out.2 j h3
          · rw [show j = k by omega, HE.out.1]
            exact HE.out.2
        case measure => simp [intOf]; omega
    · obtain rfl : k = 255 := by omega
      have l1 : ¬ ((255 : Nat) : Int) < 255 := by omega
      have HRES := Lib.hid (show logL a = -1 from by
        rw [logL]
        split
        · rfl
        · rename_i hne
          obtain ⟨j, h1, h2⟩ := Gf.is_power a.toNat (Gf.lt256 a) (Gf.toNat_ne hne)
          exact absurd h2 (H.out.2 j h1))
      go_wp2
      go_ret
      refine ⟨?_, rfl⟩
      rw [HRES.out]
      rfl

set_option maxRecDepth 100000 in
set_option maxHeartbeats 1000000 in
theorem reval_says (A : Option Addr) (n c : Nat) (p : List UInt8) (x : UInt8) (w : World) (hp : Lies w (fun _ => True) A n c (bc p)) (hn : n ≤ 254) : Calls Try.prog 22 #[.slice A n c, .int .u8 (x.toNat : Int)] w fun e w' => e = .returned (.int .u8 ((Gf.ev p x).toNat : Int)) ∧ Below w.heap.size w w' := by
  have HP := Lib.hid hp
  have hl : p.length = n := by rw [← bc_length]; exact hp.len
  clear hp
  go_enter Try.func22, Try.ntmps22
  go_wp2_with fail
  go_loopw [5, 6] (fun s i wr => ∃ (k : Nat) (y : UInt8), k ≤ n ∧ i = .int .i64 (k : Int) ∧ s = .int .u8 (y.toNat : Int) ∧ Hid (y = evTo p x k ∧ Below w.heap.size w wr)) (fun _ i _ => n - (intOf i).toNat)
  case atStart => exact ⟨0, 0, by omega, rfl, rfl, Lib.hid ⟨rfl, Below.refl _ _⟩⟩
  case round =>
    obtain ⟨k, y, hk, rfl, rfl, H⟩ := hrel
    by_cases hlt : k < n
    · have l1 : (k : Int) < (n : Int) := by omega
      obtain ⟨u, hu⟩ : ∃ u, p[k]? = some u := ⟨_, List.getElem?_eq_getElem (by omega)⟩
      obtain ⟨b, off, hA, _, hb, hc0⟩ := HP.out.at (j := k) (u := .int .u8 (u.toNat : Int)) (by simp [bc, hu])
      subst hA
      have hc : wr.cell? ⟨b, off + k, none⟩ = some (.int .u8 (u.toNat : Int)) := (H.out.2.cell (p := ⟨b, off + k, none⟩) hb).trans hc0
      have hcg : ∀ q : Grows wr, q.val.cell? ⟨b, off + k, none⟩ = some (.int .u8 (u.toNat : Int)) := fun q => (q.prop.cell (p := ⟨b, off + k, none⟩) (Nat.lt_of_lt_of_le hb H.out.2.size)).trans hc
      have hpw : ∀ q : Grows wr, Calls Try.prog 19 #[.int .u8 (x.toNat : Int), .int .i64 (k : Int)] q.val fun e w'' => e = .returned (.int .u8 ((Gf.pw x k).toNat : Int)) ∧ ∃ p' : Grows wr, w'' = p'.val := fun q => by
        have h := rpower_says x (k : Int) q.val
        rw [powL_any x k (by omega)] at h
        exact h.mono fun _ _ hh => ⟨hh.1, q, hh.2⟩
      obtain ⟨z, hz⟩ : ∃ z, Gf.pw x k = z := ⟨_, rfl⟩
      have hmu : ∀ q : Grows wr, Calls Try.prog 10 #[.int .u8 (u.toNat : Int), .int .u8 (z.toNat : Int)] q.val fun e w'' => e = .returned (.int .u8 ((Gf.mul u z).toNat : Int)) ∧ ∃ p' : Grows wr, w'' = p'.val := fun q => (rmul_says u z q.val).mono fun _ _ hh => ⟨hh.1, q, hh.2⟩
      rw [hz] at hpw
      have HST := Lib.hid (show evTo p x (k + 1) = y ^^^ Gf.mul u z from by rw [evTo, Gf.sum_succ, H.out.1, hz, List.getD_eq_getElem?_getD, hu]; rfl)
      have hx8 := bits_x8 y (Gf.mul u z)
      clear hc0 hb hu hz
      go_wp2_with fail
      refine wp_region_grows (by kernel_rfl) (by kernel_rfl) ?_
      repeat (first
        | quiet_step (first | (go_at_call 19; exact hpw _) | (go_at_call 10; exact hmu _)))
      refine wpQuiet_nil ?_
      rintro w2 ⟨⟨_, hw2⟩, rfl⟩
      have HW := Lib.hid (H.out.2.trans (hw2.mono H.out.2.size))
      clear hw2 hpw hmu hcg hc
      go_wp2
      go_roundw
      case rel => exact ⟨k + 1, y ^^^ Gf.mul u z, by omega, by go_num, rfl, Lib.hid ⟨HST.out.symm, HW.out⟩⟩
      case measure => simp [intOf]; omega
    · obtain rfl : k = n := by omega
      have l1 : ¬ (k : Int) < (k : Int) := by omega
      go_wp2
      go_ret
      refine ⟨?_, H.out.2⟩
      rw [Gf.ev_sum, hl, show Gf.sum k (fun i => Gf.mul (p.getD i 0) (Gf.pw x i)) = y from H.out.1.symm]
      rfl
end Go.Proofs.Ytnkcpchdjgedoaa
