/-
  MarkSeals, walked.
-/
import Derived.Test.YthmbmkmfjoakbaaRefSeal
namespace Go.Proofs.Ythmbmkmfjoakbaa
open Go.RowKit

set_option maxRecDepth 100000 in
set_option maxHeartbeats 2000000 in
theorem own_says (w : World) (m : Mk) : Calls Try.prog 10 #[.agg (mv m)] w fun e w' => e = .returned (.agg (mv m)) ∧ Below w.heap.size w w' := by
  obtain ⟨w2, hw2⟩ : ∃ x, (w.alloc (.cells #[.int .u8 (m.kind.toNat : Int), .int .u64 (m.epoch : Int), .int .u64 (m.seq : Int)] 24)).alloc (.cells #[.int .u8 0, .int .u64 0, .int .u64 0] 31) = x := ⟨_, rfl⟩
  have hb2 : Below w.heap.size w w2 := by rw [← hw2]; exact ((Below.refl _ w).alloc (Nat.le_refl _) _).alloc (by simp) _
  have hm2 : Box w2 w.heap.size 24 (mv m) := by rw [← hw2]; exact Box.alloc (Box.made w 24 (mv m)) _
  have hr2 : Box w2 (w.heap.size + 1) 31 (mv Mk.zero) := by
    rw [← hw2]
    have := Box.made (w.alloc (.cells (mv m) 24)) 31 (mv Mk.zero)
    rwa [World.size_alloc] at this
  have c0 : w2.cell? ⟨w.heap.size, 0, none⟩ = some (.int .u8 (m.kind.toNat : Int)) := (Box.cell hm2 0).trans rfl
  have c1 : w2.cell? ⟨w.heap.size, 1, none⟩ = some (.int .u64 (m.epoch : Int)) := (Box.cell hm2 1).trans rfl
  have c2 : w2.cell? ⟨w.heap.size, 2, none⟩ = some (.int .u64 (m.seq : Int)) := (Box.cell hm2 2).trans rfl
  obtain ⟨w3, hw3⟩ : ∃ x, w2.setRow (w.heap.size + 1) (mv m) = x := ⟨_, rfl⟩
  have hr3 : Box w3 (w.heap.size + 1) 31 (mv m) := by rw [← hw3]; exact setRow_heap _ _ _ _ _ _ hr2
  have hb3 : Below w.heap.size w w3 := hb2.trans (by rw [← hw3]; exact (Below.refl _ w2).grown (grown_row (grown_refl _ (some (w.heap.size + 1))) _) hb2.size (fun k e => by injection e with e; omega))
  have e0 : w3.cell? ⟨w.heap.size + 1, 0, none⟩ = some (.int .u8 (m.kind.toNat : Int)) := (Box.cell hr3 0).trans rfl
  have e1 : w3.cell? ⟨w.heap.size + 1, 1, none⟩ = some (.int .u64 (m.epoch : Int)) := (Box.cell hr3 1).trans rfl
  have e2 : w3.cell? ⟨w.heap.size + 1, 2, none⟩ = some (.int .u64 (m.seq : Int)) := (Box.cell hr3 2).trans rfl
  have HR := Lib.hid hr2
  have HW := Lib.hid hw3
  have HB := Lib.hid hb3
  clear hb2 hm2 hr2 hw3 hr3 hb3
  go_enter Try.func10, Try.ntmps10
  simp only [mv]
  go_wp2_with (refine wpList_store_row rfl 31 _ _ rfl (w.heap.size + 1) (mv m) rfl rfl 31 _ HR.out (by rw [mv_size]; exact refInfo) rfl (mv_one _) ?_; rw [HW.out])
  exact bodyPost_ret (v := .agg (mv m)) (by simp [results, Try.results10, go_sem, e0, e1, e2, mv]) rfl ⟨rfl, HB.out⟩
theorem kinds_of {m : Mk} (h : m.may = true) : ((m.kind.toNat : Int) == 0) = false ∧ ((m.kind.toNat : Int) == 3) = false := by
  rw [Mk.may, Bool.and_eq_true] at h
  refine ⟨?_, ?_⟩
  · rw [beq_eq_false_iff_ne]
    intro e
    have : m.kind = 0 := UInt8.toNat_inj.1 (by have : m.kind.toNat = 0 := by omega
                                               rw [this]; rfl)
    rw [this] at h
    simp at h
  · rw [beq_eq_false_iff_ne]
    intro e
    have : m.kind = 3 := UInt8.toNat_inj.1 (by have : m.kind.toNat = 3 := by omega
                                               rw [this]; rfl)
    rw [this] at h
    simp at h
set_option linter.unusedVariables false
set_option maxRecDepth 100000 in
set_option maxHeartbeats 8000000 in
theorem markSeals_walk (w : World) (m : Mk) (A : Option Addr) (n c : Nat) (l : List UInt8) (hl : Lies w (fun _ => True) A n c (bc l)) :
    Calls Try.prog 3 #[.agg (mv m), .slice A n c] w fun e w' => e = .returned (.bool true) ∧ Below w.heap.size w w' := by
  have HL := Lib.hid (hl.weak (N' := fun b => b < w.heap.size) (fun b h _ => h))
  clear hl
  obtain ⟨w1, hw1⟩ : ∃ w1, w.alloc (.cells #[.int .u8 (m.kind.toNat : Int), .int .u64 (m.epoch : Int), .int .u64 (m.seq : Int)] 24) = w1 := ⟨_, rfl⟩
  have HM1 := Lib.hid (show Box w1 w.heap.size 24 (mv m) by rw [← hw1]; exact Box.made w _ _)
  have HB1 := Lib.hid (show Below w.heap.size w w1 by rw [← hw1]; exact (Below.refl _ w).alloc (Nat.le_refl _) _)
  by_cases hbig : 400 < n
  · have g1 : 400 < (n : Int) := by omega
    go_enter Try.func3, Try.ntmps3
    simp only [mv]
    go_wp2
    go_ret
    exact ⟨rfl, HB1.out⟩
  have g1 : ¬ 400 < (n : Int) := by omega
  go_enter Try.func3, Try.ntmps3
  simp only [mv]
  go_wp2_with (refine wpList_load_row rfl 24 _ rfl w.heap.size rfl 24 _ (0, 0) _ HM1.out Try.underlying24 rfl (by rw [mv_size]; exact mkInfo) ?_)
  cases hmay : m.may with
  | false =>
    refine (seal_kind w1 m hmay A n c).mono ?_
    rintro e w2 ⟨rfl, hb2⟩
    have hm2 := Box.below HM1.out hb2 HM1.out.lt
    have c0 : w2.cell? ⟨w.heap.size, 0, none⟩ = some (.int .u8 (m.kind.toNat : Int)) := (Box.cell hm2 0).trans rfl
    have HB := Lib.hid (HB1.out.trans (hb2.mono HB1.out.size))
    have hk : m.kind = 0 ∨ m.kind = 3 := by
      rw [Mk.may, Bool.and_eq_false_iff] at hmay
      rcases hmay with h | h
      · exact .inl (by simpa using h)
      · exact .inr (by simpa using h)
    clear hb2 hm2 hw1 hmay
    rcases hk with hk | hk
    · rw [hk] at c0
      have c1 : w2.cell? ⟨w.heap.size, 0, none⟩ = some (.int .u8 0) := c0
      clear hk c0
      go_wp2_with fail
      refine (one_says w2).mono ?_
      rintro e wz ⟨rfl, hbz⟩
      have HZ := Lib.hid (HB.out.trans (hbz.mono HB.out.size))
      clear hbz
      go_wp2
      go_ret
      exact ⟨rfl, HZ.out⟩
    · rw [hk] at c0
      have c1 : w2.cell? ⟨w.heap.size, 0, none⟩ = some (.int .u8 3) := c0
      clear hk c0
      go_wp2_with fail
      refine (one_says w2).mono ?_
      rintro e wz ⟨rfl, hbz⟩
      have HZ := Lib.hid (HB.out.trans (hbz.mono HB.out.size))
      clear hbz
      go_wp2
      go_ret
      exact ⟨rfl, HZ.out⟩
  | true =>
    obtain ⟨e0, e3⟩ := kinds_of hmay
    by_cases h220 : 220 < n
    · have g2 : 220 < (n : Int) := by omega
      refine (seal_big w1 m hmay A n c h220).mono ?_
      rintro e w2 ⟨rfl, hb2⟩
      have hm2 := Box.below HM1.out hb2 HM1.out.lt
      have c0 : w2.cell? ⟨w.heap.size, 0, none⟩ = some (.int .u8 (m.kind.toNat : Int)) := (Box.cell hm2 0).trans rfl
      have HB := Lib.hid (HB1.out.trans (hb2.mono HB1.out.size))
      clear hb2 hm2 hw1 hmay
      go_wp2_with fail
      refine (one_says w2).mono ?_
      rintro e wz ⟨rfl, hbz⟩
      have HZ := Lib.hid (HB.out.trans (hbz.mono HB.out.size))
      clear hbz
      go_wp2
      go_ret
      exact ⟨rfl, HZ.out⟩
    · have g2 : ¬ 220 < (n : Int) := by omega
      have hln : l.length ≤ 220 := by have h1 := HL.out.len; rw [bc_length] at h1; omega
      refine (seal_yes w1 m hmay A n c l ((HL.out.below HB1.out).weak (fun _ _ _ => trivial)) (by omega)).mono ?_
      rintro e w2 ⟨g, rfl, hg, hx2, hb2⟩
      have hm2 := Box.below HM1.out hb2 HM1.out.lt
      have c0 : w2.cell? ⟨w.heap.size, 0, none⟩ = some (.int .u8 (m.kind.toNat : Int)) := (Box.cell hm2 0).trans rfl
      have HB := Lib.hid (HB1.out.trans (hb2.mono HB1.out.size))
      obtain ⟨PX, hPX⟩ : ∃ y, (⟨(sealed m l).toArray⟩ : ByteArray) = y := ⟨_, rfl⟩
      obtain ⟨PB, hPB⟩ : ∃ y, (⟨l.toArray⟩ : ByteArray) = y := ⟨_, rfl⟩
      have hcx := conv_grows (lies_box (N := fun _ => True) hx2 trivial (sealed_length m l hln))
      rw [hPX] at hcx
      have hcb := conv_grows (HL.out.below HB.out)
      rw [hPB] at hcb
      have HCX := Lib.hid hcx
      have HCB := Lib.hid hcb
      have HRG := Lib.hid (range_grows (mk_range hm2) hm2.lt)
      have HOW := Lib.hid (show ∀ p : Grows w2, Calls Try.prog 10 #[.agg (mv m)] p.val fun e w'' => e = .returned (.agg (mv m)) ∧ ∃ p' : Grows w2, w'' = p'.val from fun p => Calls.grows (own_says p.val m))
      have HRS := Lib.hid (show ∀ p : Grows w2, Calls Try.prog 9 #[.agg (mv m), .string PB] p.val fun e w'' => e = .returned (.string PX) ∧ ∃ p' : Grows w2, w'' = p'.val from fun p => by rw [← hPX, ← hPB]; exact Calls.grows (rseal_says p.val m l hln))
      have HON := Lib.hid (show ∀ p : Grows w2, Calls Try.prog 8 #[] p.val fun e w'' => e = .returned (.bool true) ∧ ∃ p' : Grows w2, w'' = p'.val from fun p => Calls.grows (one_says p.val))
      clear hg hx2 hb2 hm2 hPX hPB hcx hcb hw1 hmay
      go_upto_region 8 with fail
      refine wp_region_grows (by kernel_rfl) (by kernel_rfl) ?_
      iterate 16 (first
        | (refine wpQuiet_load_yes (by go_simp; done) 24 (.tmp 2) rfl w.heap.size 0 rfl (mvl m) _ HRG.out Try.underlying24 rfl (by kernel_rfl) ?_; simp only [Act.put, List.setIfInBounds_toArray, List.set_cons_zero, List.set_cons_succ])
        | (refine wpQuiet_conv (by go_simp; done) 25 9 (.tmp 50) rfl (.slice (some ⟨g, 0, none⟩) 256 256) rfl (.string PX) HCX.out ?_; simp only [Act.put, List.setIfInBounds_toArray, List.set_cons_zero, List.set_cons_succ])
        | (refine wpQuiet_conv (by go_simp; done) 25 9 (.tmp 54) rfl (.slice A n c) rfl (.string PB) HCB.out ?_; simp only [Act.put, List.setIfInBounds_toArray, List.set_cons_zero, List.set_cons_succ])
        | quiet_step (first | (go_at_call 10; exact HOW.out _) | (go_at_call 9; exact HRS.out _) | (go_at_call 8; exact HON.out _)))
      refine wpQuiet_nil ?_
      rintro wx ⟨⟨_, hwx⟩, rfl⟩
      have HZ := Lib.hid (HB.out.trans (hwx.mono HB.out.size))
      clear hwx
      go_wp2
      go_ret
      exact ⟨rfl, HZ.out⟩
end Go.Proofs.Ythmbmkmfjoakbaa
