/-
  SuperLoads, in parts: a Save that is refused; one on a device that is up.
-/
import Derived.Test.YthpfdenpgegheaaSaveS
import Derived.BigQuiet
import Derived.Deep.DeepCutAuto
import Derived.Deep.CutBlock
namespace Go.Proofs.Ythpfdenpgegheaa
open Go.RowKit

set_option linter.unusedVariables false
set_option linter.unusedSimpArgs false
section
variable {w : World} {K : Nat → Prop} {p : Nat} {D : Dv}
set_option maxRecDepth 100000 in
set_option maxHeartbeats 4000000 in
theorem save_arg (hd : Dev w K p D) (h : Hd) (hr : h.rightB (D.bs.length : Int) = false) :
    Calls Try.prog 16 #[.pointer (some ⟨p, 0, none⟩), .agg (hv h)] w fun e w' => e = .returned (.int .i64 2) ∧ Below w.heap.size w w' := by
  have hmost := hd.1.most
  obtain ⟨w1, hw1⟩ : ∃ x, w.alloc (.cells #[.int .u64 (h.gen : Int), .int .u64 (h.epoch : Int), .int .i64 h.pos, .int .u64 (h.seq : Int), .int .i64 h.log] 43) = x := ⟨_, rfl⟩
  have hb1 : Below w.heap.size w w1 := by rw [← hw1]; exact (Below.refl _ w).alloc (Nat.le_refl _) _
  have H1 := Lib.hid (show Box w1 w.heap.size 43 (hv h) by rw [← hw1]; exact Box.made w _ _)
  have hd1 := hd.below hb1
  have HRH := Lib.hid (range_grows (hd_range H1.out) H1.out.lt)
  have HLN := Lib.hid (show ∀ q : Grows w1, Calls Try.prog 38 #[.pointer (some ⟨p, 0, none⟩)] q.val fun e w'' => e = .returned (.int .i64 (D.bs.length : Int)) ∧ ∃ p' : Grows w1, w'' = p'.val from fun q => Calls.grows ((len_says (hd1.below q.prop)).mono (fun e w' hh => ⟨hh.1, by rw [hh.2]; exact Below.refl _ _⟩)))
  have HRI := Lib.hid (show ∀ q : Grows w1, Calls Try.prog 37 #[.agg (hv h), .int .i64 (D.bs.length : Int)] q.val fun e w'' => e = .returned (.bool false) ∧ ∃ p' : Grows w1, w'' = p'.val from fun q => Calls.grows (by have := right_says q.val h (D.bs.length : Int) (by omega); rw [hr] at this; exact this))
  have HM := Lib.hid (smade_yes hd1)
  have HB1 := Lib.hid hb1
  clear hd hb1 hd1 hr hmost
  go_enter Try.func16, Try.ntmps16
  simp only [hv]
  go_upto_region 3 with (go_at_call 36; refine HM.out.mono ?_; rintro e wn ⟨rfl, hwn⟩; obtain rfl : w1 = wn := hwn.symm; clear hwn)
  try simp only [Act.put]
  refine wp_region_grows (by kernel_rfl) (by kernel_rfl) ?_
  iterate 5 (first
      | (refine wpQuiet_load_yes (by go_simp; done) 43 (.tmp 3) rfl w.heap.size 0 rfl (hvl h) _ HRH.out Try.underlying43 rfl (by kernel_rfl) ?_; simp only [Act.put, List.setIfInBounds_toArray, List.set_cons_zero, List.set_cons_succ])
      | quiet_step (first | (go_at_call 38; exact HLN.out _) | (go_at_call 37; exact HRI.out _)))
  refine wpQuiet_nil ?_
  rintro wx ⟨⟨_, hwx⟩, rfl⟩
  have HZ := Lib.hid (HB1.out.trans (hwx.mono HB1.out.size))
  clear hwx
  go_wp2
  go_ret
  exact ⟨rfl, HZ.out⟩
end
theorem save_up {D : Dv} {h : Hd} (hu : D.down = false) (hl : D.left = -1) : saveTo D h = (0, (D.call.write (h.gen % 2) h.blk).call.flush) := by
  rw [saveTo, if_neg (by simp [Dv.call, hu, hl]), if_neg (by simp [Dv.call, Dv.write, hu, hl])]
end Go.Proofs.Ythpfdenpgegheaa
