/-
  super.Save, over a device that lies.
-/
import Derived.Test.YtnhondkdkjehaaaGreatHOf
import Derived.Test.YtnhondkdkjehaaaGreatWriteS
import Derived.Test.YtnhondkdkjehaaaGreatFallS
namespace Go.Proofs.YtnhondkdkjehaaaGreat
open Go.RowKit

set_option linter.unusedVariables false
set_option linter.unusedSimpArgs false
section
variable {w w' : World} {K : Nat → Prop} {p : Nat} {D : Dv}
/-- The device is none of what was just made. -/
theorem Dev.aside (hd : Dev w K p D) (hb : Below w.heap.size w w') (g : Nat) (hg : w.heap.size ≤ g) : Dev w' (fun k => K k ∧ k ≠ g) p D :=
  (hd.inside.weak (fun k h => ⟨h.1, by omega⟩)).below hb
end
theorem right_mono {h : Hd} {a b : Int} (hr : h.rightB a = true) (hab : a ≤ b) : h.rightB b = true := by
  rw [Hd.right_iff] at hr ⊢
  obtain ⟨h1, h2, h3, h4, h5, h6, h7⟩ := hr
  exact ⟨h1, h2, h3, h4, by omega, h6, h7⟩
theorem right_slots {h : Hd} {n : Nat} (hr : h.rightB (n : Int) = true) : h.gen % 2 < n := by
  rw [Hd.right_iff] at hr
  omega
/-- A head's block, as a device's. -/
def Hd.blk (h : Hd) : Bk := ⟨h.block, h.block_length⟩
/-- What a Save of a head comes to: its answer, and the device. -/
def saveTo (D : Dv) (h : Hd) : Int × Dv :=
  if D.call.down = true then (17, D.call) else if (D.call.write (h.gen % 2) h.blk).call.down = true then (17, (D.call.write (h.gen % 2) h.blk).call) else (0, (D.call.write (h.gen % 2) h.blk).call.flush)
/-- What Save hands on. -/
def SavePost (w : World) (K : Nat → Prop) (p : Nat) (D : Dv) (h : Hd) (e : Ending) (w' : World) : Prop :=
  e = .returned (.int .i64 (saveTo D h).1) ∧ Dev w' K p (saveTo D h).2 ∧ Touch K w w'
section
variable {w : World} {K : Nat → Prop} {p : Nat} {D : Dv}
set_option maxRecDepth 100000 in
set_option maxHeartbeats 8000000 in
theorem save_says (hd : Dev w K p D) (hK : ∀ k, w.heap.size ≤ k → K k) (ho : D.ops ≤ 90000) (h : Hd) (hr : h.rightB (D.bs.length : Int) = true) :
    Calls Tryz.prog 71 #[.pointer (some ⟨p, 0, none⟩), .agg (hv h)] w (SavePost w K p D h) := by
  have hmost := hd.1.most
  have hr4 := right_mono hr (b := 4096) (by omega)
  have hsl := right_slots hr
  obtain ⟨w1, hw1⟩ : ∃ x, w.alloc (.cells #[.int .u64 (h.gen : Int), .int .u64 (h.epoch : Int), .int .i64 h.pos, .int .u64 (h.seq : Int), .int .i64 h.log] 78) = x := ⟨_, rfl⟩
  have hb1 : Below w.heap.size w w1 := by rw [← hw1]; exact (Below.refl _ w).alloc (Nat.le_refl _) _
  have H1 := Lib.hid (show Box w1 w.heap.size 78 (hv h) by rw [← hw1]; exact Box.made w _ _)
  have hd1 := hd.below hb1
  have HRH := Lib.hid (range_grows (hd_range H1.out) H1.out.lt)
  have HLN := Lib.hid (show ∀ q : Grows w1, Calls Tryz.prog 49 #[.pointer (some ⟨p, 0, none⟩)] q.val fun e w'' => e = .returned (.int .i64 (D.bs.length : Int)) ∧ ∃ p' : Grows w1, w'' = p'.val from fun q => Calls.grows ((len_says (hd1.below q.prop)).mono (fun e w' hh => ⟨hh.1, by rw [hh.2]; exact Below.refl _ _⟩)))
  have HRI := Lib.hid (show ∀ q : Grows w1, Calls Tryz.prog 69 #[.agg (hv h), .int .i64 (D.bs.length : Int)] q.val fun e w'' => e = .returned (.bool true) ∧ ∃ p' : Grows w1, w'' = p'.val from fun q => Calls.grows (by have := right_says q.val h (D.bs.length : Int) (by omega); rw [hr] at this; exact this))
  have HM := Lib.hid (smade_yes hd1)
  have HD := Lib.hid hd
  have HB1 := Lib.hid hb1
  have HR4 := Lib.hid hr4
  have HSL := Lib.hid hsl
  clear hd hb1 hd1 hr hr4 hsl hmost
  go_enter Tryz.func71, Tryz.ntmps71
  simp only [hv]
  go_upto_region 3 with (go_at_call 96; refine HM.out.mono ?_; rintro e wn ⟨rfl, hwn⟩; obtain rfl : w1 = wn := hwn.symm; clear hwn)
  try simp only [Act.put]
  go_cut [15] (fun v wx => Hid (v = .bool false ∧ Below w1.heap.size w1 wx))
  case first =>
    refine wp_region_grows (by kernel_rfl) (by kernel_rfl) ?_
    iterate 5 (first
        | (refine wpQuiet_load_yes (by go_simp; done) 78 (.tmp 3) rfl w.heap.size 0 rfl (hvl h) _ HRH.out Tryz.underlying78 rfl (by kernel_rfl) ?_; simp only [Act.put, List.setIfInBounds_toArray, List.set_cons_zero, List.set_cons_succ])
        | quiet_step (first | (go_at_call 49; exact HLN.out _) | (go_at_call 69; exact HRI.out _)))
    refine wpQuiet_nil ?_
    rintro wx ⟨⟨_, hwx⟩, rfl⟩
    go_wp2
    go_meet
    exact Lib.hid ⟨rfl, hwx⟩
  case rest =>
    obtain ⟨rfl, hbc⟩ := hcut.out
    have HBc := Lib.hid (HB1.out.trans (hbc.mono HB1.out.size))
    have Hc := Lib.hid (Box.below H1.out hbc H1.out.lt)
    have hwl : w.heap.size < wc.heap.size := Hc.out.lt
    clear hbc hcut H1 HRH HLN HRI HM hw1 HB1
    have HPU := Lib.hid (hput_yes wc h HR4.out)
    go_wp2_with (refine wpList_load_row rfl 78 _ rfl w.heap.size rfl 78 _ (0, 0) _ Hc.out Tryz.underlying78 rfl (by rw [hv_size]; exact hdInfo) ?_)
    refine HPU.out.mono ?_
    rintro e w4 ⟨g, rfl, hg, hx, hb4⟩
    have HB4 := Lib.hid (HBc.out.trans (hb4.mono HBc.out.size))
    have H4 := Lib.hid (Box.below Hc.out hb4 Hc.out.lt)
    have HX4 := Lib.hid hx
    clear hx hb4 HBc Hc HPU
    have HSO := Lib.hid (slot_says w4 h)
    go_wp2_with (refine wpList_load_row rfl 78 _ rfl w.heap.size rfl 78 _ (0, 0) _ H4.out Tryz.underlying78 rfl (by rw [hv_size]; exact hdInfo) ?_)
    refine HSO.out.mono ?_
    rintro e w5 ⟨rfl, hb5⟩
    have hB5 := HB4.out.trans (hb5.mono HB4.out.size)
    have hX5 := Box.below HX4.out hb5 HX4.out.lt
    clear hb5 HB4 H4 HX4 HSO
    have hgw : w.heap.size ≤ g := Nat.le_trans (Nat.le_of_lt hwl) hg
    have hd5 := HD.out.aside hB5 g hgw
    have hK5 : ∀ k, w5.heap.size ≤ k → K k ∧ k ≠ g := fun k hk => ⟨hK k (by have := hB5.size; omega), by have := hX5.lt; omega⟩
    have hT5 : Touch K w w5 := Touch.of_below hB5
    have hlX := hX5.toLies (n := 256) (by rw [bc_length]; exact h.block_length) (Nat.le_refl 256)
    cases hdn : D.call.down with
    | true =>
      have HSV := Lib.hid (show saveTo D h = (17, D.call) by rw [saveTo, if_pos hdn])
      have HW := Lib.hid (write_down hd5 (by omega) hdn ((h.gen % 2 : Nat) : Int) (by have := HSL.out; omega) (some ⟨g, 0, none⟩) 256)
      have HT := Lib.hid hT5
      clear hd5 hK5 hT5 hlX hX5 hB5 hdn
      go_wp2_with fail
      refine HW.out.mono ?_
      rintro e w6 ⟨rfl, hd6, ht6⟩
      have HZ := Lib.hid (And.intro (hd6.weak (K' := K) (fun _ q => q.1)) (HT.out.trans (ht6.mono (fun _ q => q.1))))
      clear hd6 ht6
      go_wp2
      go_ret
      exact ⟨by rw [HSV.out]; rfl, by rw [HSV.out]; exact HZ.out.1, HZ.out.2⟩
    | false =>
      have HW := Lib.hid (write_up hd5 hK5 (by omega) hdn (h.gen % 2) HSL.out (fun k => k = g) (some ⟨g, 0, none⟩) 256 h.blk hlX (fun k q1 q2 => q2.2 q1))
      have HT := Lib.hid hT5
      clear hd5 hK5 hT5 hlX hX5 hB5
      go_wp2_with fail
      refine HW.out.mono ?_
      rintro e w6 ⟨rfl, hd6, ht6⟩
      have hd6 := hd6.weak (K' := K) (fun _ q => q.1)
      have HT6 := Lib.hid (HT.out.trans (ht6.mono (fun _ q => q.1)))
      clear ht6 HT HW
      have ho6 : (D.call.write (h.gen % 2) h.blk).ops ≤ 100000 := by show D.ops + 1 ≤ 100000; omega
      cases hd2 : (D.call.write (h.gen % 2) h.blk).call.down with
      | true =>
        have HSV := Lib.hid (show saveTo D h = (17, (D.call.write (h.gen % 2) h.blk).call) by rw [saveTo, if_neg (by rw [hdn]; simp), if_pos hd2])
        have HF := Lib.hid (flush_down hd6 ho6 hd2)
        clear hd6 ho6 hd2 hdn
        go_wp2_with fail
        refine HF.out.mono ?_
        rintro e w7 ⟨rfl, hd7, ht7⟩
        have HZ := Lib.hid (And.intro hd7 (HT6.out.trans ht7))
        clear hd7 ht7
        go_wp2
        go_ret
        exact ⟨by rw [HSV.out]; rfl, by rw [HSV.out]; exact HZ.out.1, HZ.out.2⟩
      | false =>
        have HSV := Lib.hid (show saveTo D h = (0, (D.call.write (h.gen % 2) h.blk).call.flush) by rw [saveTo, if_neg (by rw [hdn]; simp), if_neg (by rw [hd2]; simp)])
        have HF := Lib.hid (flush_up hd6 ho6 hd2)
        clear hd6 ho6 hd2 hdn
        go_wp2_with fail
        refine HF.out.mono ?_
        rintro e w7 ⟨rfl, hd7, ht7⟩
        have HZ := Lib.hid (And.intro hd7 (HT6.out.trans ht7))
        clear hd7 ht7
        go_wp2
        go_ret
        exact ⟨by rw [HSV.out]; rfl, by rw [HSV.out]; exact HZ.out.1, HZ.out.2⟩
end
end Go.Proofs.YtnhondkdkjehaaaGreat
