/-
  The reference's inverse.
-/
import Derived.Test.YtgakeecibofiiaaRefMul
namespace Go.Proofs.Ytgakeecibofiiaa
open Go.RowKit

theorem inv_from (a : Nat) : ∀ (k b : Nat), (∀ c, b ≤ c → c < b + k → Gf.gm a c ≠ 1) → ∀ j, Gf.invFrom a (k + j) b = Gf.invFrom a j (b + k)
  | 0, b, _, j => by rw [Nat.zero_add, Nat.add_zero]
  | k + 1, b, h, j => by
    rw [show k + 1 + j = (k + j) + 1 by omega, Gf.invFrom, if_neg (h b (Nat.le_refl _) (by omega)), inv_from a k (b + 1) (fun c h1 h2 => h c (by omega) (by omega)) j, show b + 1 + k = b + (k + 1) by omega]
theorem inv_at (a k : Nat) (hk : k < 255) (h : ∀ c, 1 ≤ c → c < 1 + k → Gf.gm a c ≠ 1) (he : Gf.gm a (1 + k) = 1) : Gf.ginv a = 1 + k := by
  have h1 := inv_from a k 1 h (255 - k)
  rw [show k + (255 - k) = 255 by omega] at h1
  rw [Gf.ginv, h1, show 255 - k = (254 - k) + 1 by omega, Gf.invFrom, if_pos he]
theorem inv_none (a : Nat) (h : ∀ c, 1 ≤ c → c < 1 + 255 → Gf.gm a c ≠ 1) : Gf.ginv a = 0 := by
  have h1 := inv_from a 255 1 h 0
  rw [Gf.ginv, h1]
  rfl

set_option maxRecDepth 100000 in
set_option maxHeartbeats 1000000 in
theorem rinv_says (a : UInt8) (w : World) : Calls Try.prog 39 #[.int .u8 (a.toNat : Int)] w fun e w' => e = .returned (.int .u8 ((Gf.inv a).toNat : Int)) ∧ w' = w := by
  go_enter Try.func39, Try.ntmps39
  go_wp2_with fail
  go_loopw [3] (fun i wr => ∃ k : Nat, k ≤ 255 ∧ i = .int .i64 ((1 + k : Nat) : Int) ∧ Hid (wr = w ∧ ∀ c, 1 ≤ c → c < 1 + k → Gf.gm a.toNat c ≠ 1)) (fun i _ => 256 - (intOf i).toNat)
  case atStart => exact ⟨0, by omega, rfl, Lib.hid ⟨rfl, fun c h1 h2 => by omega⟩⟩
  case round =>
    obtain ⟨k, hk, rfl, H⟩ := hrel
    have hw' : w = wr := H.out.1.symm
    subst hw'
    obtain ⟨j, hj⟩ : ∃ j, 1 + k = j := ⟨_, rfl⟩
    rw [hj] at H ⊢
    by_cases hlt : k < 255
    · have l1 : (j : Int) < 256 := by omega
      have hj256 : j < 256 := by omega
      have hu : (UInt8.ofNat j).toNat = j := Gf.ofNat_toNat' j hj256
      have hm := rmul_says a (UInt8.ofNat j) w
      rw [hu, Gf.mul_toNat, hu] at hm
      have hg := Gf.gm_lt a.toNat j (Gf.lt256 a) hj256
      have hwj : IntKind.u8.wrap (j : Int) = (j : Int) := by rw [IntKind.wrap_u8']; omega
      have hmod : (j : Int) % 256 = (j : Int) := by omega
      obtain ⟨p, hp⟩ : ∃ p, Gf.gm a.toNat j = p := ⟨_, rfl⟩
      rw [hp] at hm hg
      by_cases hp1 : p = 1
      · subst hp1
        have HRES := Lib.hid (show (Gf.inv a).toNat = j from by rw [Gf.inv_toNat, ← hj]; exact inv_at a.toNat k hlt (fun c h1 h2 => H.out.2 c h1 (by omega)) (by rw [hj]; exact hp))
        clear hp
        go_wp2_with (go_at_call 33; refine hm.mono ?_; rintro e w1 ⟨rfl, rfl⟩)
        go_ret
        refine ⟨?_, rfl⟩
        rw [HRES.out]
        first | rfl | (simp [hmod]; done)
      · have hp1' : ¬ (p : Int) = 1 := by omega
        have HP := Lib.hid hp
        clear hp
        go_wp2_with (go_at_call 33; refine hm.mono ?_; rintro e w1 ⟨rfl, rfl⟩)
        go_roundw
        case rel =>
          refine ⟨k + 1, by omega, by rw [← hj]; go_num, Lib.hid ⟨trivial, fun c h1 h2 => ?_⟩⟩
          rcases Nat.lt_or_ge c j with h3 | h3
          · exact H.out.2 c h1 h3
          · rw [show c = j by omega, HP.out]
            exact hp1
        case measure => simp [intOf]; omega
    · have l1 : ¬ (j : Int) < 256 := by omega
      have HRES := Lib.hid (show (Gf.inv a).toNat = 0 from by rw [Gf.inv_toNat]; exact inv_none a.toNat (fun c h1 h2 => H.out.2 c h1 (by omega)))
      go_wp2
      go_ret
      refine ⟨?_, rfl⟩
      rw [HRES.out]
      rfl

end Go.Proofs.Ytgakeecibofiiaa
