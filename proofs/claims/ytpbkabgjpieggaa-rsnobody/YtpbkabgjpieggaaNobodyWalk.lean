/-
  RsNobody, walked.
-/
import Derived.Test.YtpbkabgjpieggaaOneS
namespace Go.Proofs.Ytpbkabgjpieggaa
open Go.RowKit

set_option maxRecDepth 100000 in
set_option maxHeartbeats 4000000 in
theorem rsNobody_walk (w : World) (A : Option Addr) (n c : Nat) : Calls Try.prog 7 #[.slice A n c] w fun e w' => e = .returned (.bool true) ∧ Below w.heap.size w w' := by
  go_enter Try.func7, Try.ntmps7
  go_wp2_with fail
  go_loopw [3, 4, 5, 6, 7, 8, 9, 10] (fun i _ _ _ _ _ _ _ wr => ∃ k : Nat, k ≤ 2 ∧ i = .int .i64 (k : Int) ∧ Hid (Below w.heap.size w wr)) (fun i _ _ _ _ _ _ _ _ => 2 - (intOf i).toNat)
  case atStart => exact ⟨0, by omega, rfl, Lib.hid (Below.refl _ _)⟩
  case round =>
    obtain ⟨k, hk, rfl, H⟩ := hrel
    rcases k with _ | _ | _ | k
    · have hw1 : Below wr.heap.size wr (wr.alloc (.cells #[.int .i64 0, .int .i64 0] 48)) := (Below.refl _ wr).alloc (Nat.le_refl _) _
      have hbx := Box.made wr 48 #[.int .i64 0, .int .i64 0]
      have hB : Bare (wr.alloc (.cells #[.int .i64 0, .int .i64 0] 48)) (some ⟨wr.heap.size, 0, none⟩) := .inr ⟨_, rfl, (hbx.cell 0).trans rfl, (hbx.cell 1).trans rfl, hbx.lt⟩
      have HBA := Lib.hid hB
      have HW1 := Lib.hid (H.out.trans (hw1.mono H.out.size))
      generalize hwe : wr.alloc (.cells #[.int .i64 0, .int .i64 0] 48) = w1 at HBA HW1
      have HWE := Lib.hid hwe
      clear hwe hB hbx hw1
      go_wp2_with (first
        | (go_at_call 12; rw [HWE.out]; refine (encode_bare w1 _ HBA.out _).mono ?_; rintro e wn ⟨rfl, hwn⟩; obtain rfl : w1 = wn := hwn.symm)
        | (go_at_call 19; refine (decode_bare w1 _ HBA.out _).mono ?_; rintro e wn ⟨rfl, hwn⟩; obtain rfl : w1 = wn := hwn.symm)
        | (go_at_call 11; refine (counts_bare w1 _ HBA.out).mono ?_; rintro e wn ⟨rfl, hwn⟩; obtain rfl : w1 = wn := hwn.symm)
        | (go_at_call 15; refine (right_bare w1 _ HBA.out _).mono ?_; rintro e w2 ⟨rfl, hb2⟩; have HB2 := Lib.hid (HW1.out.trans (hb2.mono HW1.out.size)); clear hb2))
      go_roundw
      case rel => exact ⟨1, by omega, rfl, HB2⟩
      case measure => simp [intOf]
    · have hw1 : Below wr.heap.size wr (wr.alloc (.cells #[.int .i64 0, .int .i64 0] 48)) := (Below.refl _ wr).alloc (Nat.le_refl _) _
      have HW1 := Lib.hid (H.out.trans (hw1.mono H.out.size))
      generalize hwe : wr.alloc (.cells #[.int .i64 0, .int .i64 0] 48) = w1 at HW1
      have HWE := Lib.hid hwe
      clear hwe hw1
      go_wp2_with (first
        | (go_at_call 12; rw [HWE.out]; refine (encode_bare w1 _ (.inl rfl) _).mono ?_; rintro e wn ⟨rfl, hwn⟩; obtain rfl : w1 = wn := hwn.symm)
        | (go_at_call 19; refine (decode_bare w1 _ (.inl rfl) _).mono ?_; rintro e wn ⟨rfl, hwn⟩; obtain rfl : w1 = wn := hwn.symm)
        | (go_at_call 11; refine (counts_bare w1 _ (.inl rfl)).mono ?_; rintro e wn ⟨rfl, hwn⟩; obtain rfl : w1 = wn := hwn.symm)
        | (go_at_call 15; refine (right_bare w1 _ (.inl rfl) _).mono ?_; rintro e w2 ⟨rfl, hb2⟩; have HB2 := Lib.hid (HW1.out.trans (hb2.mono HW1.out.size)); clear hb2))
      go_roundw
      case rel => exact ⟨2, by omega, rfl, HB2⟩
      case measure => simp [intOf]
    · go_wp2_with (go_at_call 10; refine (one_says _).mono ?_; rintro e w2 ⟨rfl, hb2⟩; have HB2 := Lib.hid (H.out.trans (hb2.mono H.out.size)); clear hb2)
      go_ret
      exact ⟨rfl, HB2.out⟩
    · omega
end Go.Proofs.Ytpbkabgjpieggaa
