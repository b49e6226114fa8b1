/-
  mark's marks: mayBe, putMark, markOf.
-/
import Derived.Test.YthpfdenpgegheaaNum
import Derived.BigQuiet
import Derived.Deep.DeepCutAuto
namespace Go.Proofs.Ythpfdenpgegheaa
open Go.RowKit

theorem mv_size (m : Mk) : (mv m).size = 3 := rfl
theorem mv_one (m : Mk) : (mv m).all (·.oneCell') = true := by simp [mv, Value.oneCell']
set_option maxRecDepth 100000 in
set_option maxHeartbeats 4000000 in
theorem mayBe_says (w : World) (m : Mk) : Calls Try.prog 26 #[.agg (mv m)] w fun e w' => e = .returned (.bool m.may) ∧ Below w.heap.size w w' := by
  obtain ⟨k, ep, sq, he, hs⟩ := m
  have hb : Below w.heap.size w (w.alloc (.cells #[.int .u8 (k.toNat : Int), .int .u64 (ep : Int), .int .u64 (sq : Int)] 25)) := (Below.refl _ w).alloc (Nat.le_refl _) _
  have HB := Lib.hid hb
  clear hb
  by_cases h0 : k = 0
  · have e0 : (k.toNat : Int) = 0 := by rw [h0]; rfl
    have er : Mk.may ⟨k, ep, sq, he, hs⟩ = false := by simp [Mk.may, h0]
    rw [er]
    simp only [mv, e0]
    rw [e0] at HB
    go_enter Try.func26, Try.ntmps26
    go_wp2
    go_ret
    exact ⟨rfl, HB.out⟩
  · have e0 : ((k.toNat : Int) != 0) = true := by
      have : k.toNat ≠ 0 := fun e => h0 (UInt8.toNat_inj.1 e)
      simp; omega
    have er : Mk.may ⟨k, ep, sq, he, hs⟩ = ((k.toNat : Int) != 3) := by
      have e1 : (k == 3) = ((k.toNat : Int) == 3) := by
        rw [Bool.eq_iff_iff]
        simp only [beq_iff_eq]
        constructor
        · intro h; rw [h]; rfl
        · intro h; exact UInt8.toNat_inj.1 (by have : k.toNat = 3 := by omega
                                               rw [this]; rfl)
      simp only [Mk.may, bne, e1, show (k == 0) = false by simp [h0]]
      simp
    rw [er]
    go_enter Try.func26, Try.ntmps26
    simp only [mv]
    go_wp2
    go_ret
    exact ⟨rfl, HB.out⟩
theorem infoByte : (Try.prog.info? 5).map (·.size) = some 1 := by kernel_rfl
/-- 'x[m:j]', of a slice into a known block. -/
theorem cut_part (g o k c m j : Nat) (hm : m ≤ j) (hj : j ≤ c) (hc : m < c) (w : World) : (Instr.sliceAt 22 (.slice (some ⟨g, o, none⟩) k c) (some (.int .i64 (m : Int))) (some (.int .i64 (j : Int))) none).run Try.prog w = .ok (.slice (some ⟨g, o + m, none⟩) (j - m) (c - m)) w := by
  have h1 := sliceAt_part Try.underlying22 infoByte .i64 .i64 (some ⟨g, o, none⟩) k c m j hm hj w
  rw [cutA, if_neg (show ¬ c = m by omega)] at h1
  rw [h1]
  simp [Addr.add_mid]
theorem cut_from (g o k c m : Nat) (hm : m ≤ k) (hc : m < c) (w : World) : (Instr.sliceAt 22 (.slice (some ⟨g, o, none⟩) k c) (some (.int .i64 (m : Int))) none none).run Try.prog w = .ok (.slice (some ⟨g, o + m, none⟩) (k - m) (c - m)) w := by
  have h1 := sliceAt_from Try.underlying22 infoByte .i64 (some ⟨g, o, none⟩) k c m hm w
  rw [cutA, if_neg (show ¬ c = m by omega)] at h1
  rw [h1]
  simp [Addr.add_mid]
theorem laid_laid (l : List UInt8) (o : Nat) (xs ys : List UInt8) (h : o + xs.length ≤ l.length) : laid (laid l o xs) (o + xs.length) ys = laid l o (xs ++ ys) := by
  have h1 : (l.take o ++ xs).length = o + xs.length := by rw [List.length_append, List.length_take]; omega
  rw [laid, laid, laid, List.take_append_of_le_length (by omega), List.take_of_length_le (by omega), List.drop_append, List.drop_eq_nil_of_le (by omega), List.nil_append, List.drop_drop, h1, List.length_append]
  simp only [List.append_assoc]
  congr 4
  omega
theorem laid_one (l : List UInt8) (o : Nat) (x : UInt8) (h : o < l.length) : l.set o x = laid l o [x] := by
  rw [laid, List.set_eq_take_append_cons_drop, if_pos h]
  simp
set_option maxRecDepth 100000 in
set_option maxHeartbeats 4000000 in
theorem putMark_says (w : World) (g o k c : Nat) (l : List UInt8) (hb : Box w g 5 (bc l).toArray) (hk : 17 ≤ k) (hc : k ≤ c) (hl : o + k ≤ l.length) (hl2 : l.length ≤ 1000) (m : Mk) :
    Calls Try.prog 31 #[.slice (some ⟨g, o, none⟩) k c, .agg (mv m)] w fun e w' => e = .returned (.tuple #[]) ∧ Box w' g 5 (bc (laid l o m.bytes)).toArray ∧ w.grownBy w' (some g) := by
  obtain ⟨w1, hw1⟩ : ∃ w1, w.alloc (.cells #[.int .u8 (m.kind.toNat : Int), .int .u64 (m.epoch : Int), .int .u64 (m.seq : Int)] 25) = w1 := ⟨_, rfl⟩
  have hb1 : Below w.heap.size w w1 := by rw [← hw1]; exact (Below.refl _ w).alloc (Nat.le_refl _) _
  have hm1 : Box w1 w.heap.size 25 (mv m) := by rw [← hw1]; exact Box.made w _ _
  have hg1 := Box.below hb hb1 hb.lt
  have hne : w.heap.size ≠ g := by have := hb.lt; omega
  obtain ⟨w2, hw2⟩ : ∃ w2, w1.setCell ⟨g, o, none⟩ (.int .u8 (m.kind.toNat : Int)) = w2 := ⟨_, rfl⟩
  have hg2 : Box w2 g 5 (bc (laid l o [m.kind])).toArray := by rw [← hw2, ← laid_one l o m.kind (by omega)]; exact box_set hg1 o m.kind
  have hgr2 : w.grownBy w2 (some g) := by rw [← hw2]; exact grown_set (grown_of_below hb1 _) _ _
  have hm2 : Box w2 w.heap.size 25 (mv m) := by rw [← hw2]; exact Box.grown hm1 (grown_set (grown_refl _ _) _ _) (by simpa using hne)
  have c0 : w1.cell? ⟨w.heap.size, 0, none⟩ = some (.int .u8 (m.kind.toNat : Int)) := (Box.cell hm1 0).trans rfl
  obtain ⟨u, cg⟩ : ∃ u, w1.cell? ⟨g, o, none⟩ = some u := by rw [Box.cell hg1]; exact ⟨_, Array.getElem?_eq_getElem (by simp [bc_length]; omega)⟩
  have fg := Box.frozen hg1 o
  have c1 : w2.cell? ⟨w.heap.size, 1, none⟩ = some (.int .u64 (m.epoch : Int)) := (Box.cell hm2 1).trans rfl
  have s1 : ∀ W, (Instr.sliceAt 22 (.slice (some ⟨g, o, none⟩) k c) (some (.int .i64 1)) (some (.int .i64 9)) none).run Try.prog W = .ok (.slice (some ⟨g, o + 1, none⟩) 8 (c - 1)) W := fun W => cut_part g o k c 1 9 (by omega) (by omega) (by omega) W
  have s2 : ∀ W, (Instr.sliceAt 22 (.slice (some ⟨g, o, none⟩) k c) (some (.int .i64 9)) (some (.int .i64 17)) none).run Try.prog W = .ok (.slice (some ⟨g, o + 9, none⟩) 8 (c - 9)) W := fun W => cut_part g o k c 9 17 (by omega) (by omega) (by omega) W
  have hll : (laid l o [m.kind]).length = l.length := laid_length (by simp; omega)
  have H2 := Lib.hid (And.intro hg2 (And.intro hgr2 hm2))
  clear hg2 hgr2 hm2 hb hg1 hm1 hb1
  have d1 : w2.drew.cell? ⟨w.heap.size, 1, none⟩ = some (.int .u64 (m.epoch : Int)) := c1
  go_enter Try.func31, Try.ntmps31
  simp only [mv]
  go_upto_region 2 with fail
  go_still_tail 4, (by kernel_rfl)
  change wpList _ _ _ _ _ w2.drew
  go_wp2_with fail
  refine (putNumber_says w2.drew g (o + 1) 8 (c - 1) _ H2.out.1 (by rw [hll]; omega) (by rw [hll]; exact hl2) m.epoch).mono ?_
  rintro e w3 ⟨rfl, hb3, hg3⟩
  have e3 := laid_laid l o [m.kind] (beN 8 m.epoch) (by simp; omega)
  rw [show ([m.kind] : List UInt8).length = 1 from rfl] at e3
  rw [e3] at hb3
  have hm3 : Box w3 w.heap.size 25 (mv m) := Box.grown H2.out.2.2 (grown_trans (grown_drew (grown_refl w2 (some g))) hg3) (by simpa using hne)
  have hgr3 : w.grownBy w3 (some g) := grown_trans H2.out.2.1 (grown_trans (grown_drew (grown_refl w2 (some g))) hg3)
  have hl3 : (laid l o ([m.kind] ++ beN 8 m.epoch)).length = l.length := laid_length (by simp [beN_length]; omega)
  have c2 : w3.drew.cell? ⟨w.heap.size, 2, none⟩ = some (.int .u64 (m.seq : Int)) := (Box.cell hm3 2).trans rfl
  have H3 := Lib.hid (And.intro hb3 hgr3)
  clear hb3 hg3 hm3 hgr3 e3 H2 d1 c1 c0 cg fg hw2 hw1
  go_upto_region 3 with fail
  go_still_tail 4, (by kernel_rfl)
  change wpList _ _ _ _ _ w3.drew
  go_wp2_with fail
  refine (putNumber_says w3.drew g (o + 9) 8 (c - 9) _ H3.out.1 (by rw [hl3]; omega) (by rw [hl3]; exact hl2) m.seq).mono ?_
  rintro e w4 ⟨rfl, hb4, hg4⟩
  have e4 := laid_laid l o ([m.kind] ++ beN 8 m.epoch) (beN 8 m.seq) (by simp [beN_length]; omega)
  rw [show ([m.kind] ++ beN 8 m.epoch).length = 9 by simp [beN_length]] at e4
  rw [e4] at hb4
  have H4 := Lib.hid (And.intro hb4 (grown_trans H3.out.2 (grown_trans (grown_drew (grown_refl w3 (some g))) hg4)))
  clear hb4 hg4 e4 H3 c2
  go_wp2
  go_end0
  exact ⟨rfl, by have := H4.out.1; rwa [List.append_assoc] at this, H4.out.2⟩
set_option maxRecDepth 100000 in
set_option maxHeartbeats 4000000 in
theorem markOf_says (w : World) (N : Nat → Prop) (b o n c : Nat) (l : List UInt8) (h : Lies w N (some ⟨b, o, none⟩) n c (bc l)) (hn : 17 ≤ n) :
    Calls Try.prog 25 #[.slice (some ⟨b, o, none⟩) n c] w fun e w' => e = .returned (.agg (mv (markAt l))) ∧ Below w.heap.size w w' := by
  have hl : l.length = n := by rw [← bc_length]; exact h.len
  have hc := h.le
  obtain ⟨w1, hw1⟩ : ∃ w1, w.alloc (.cells #[.int .u8 0, .int .u64 0, .int .u64 0] 25) = w1 := ⟨_, rfl⟩
  have hb1 : Below w.heap.size w w1 := by rw [← hw1]; exact (Below.refl _ w).alloc (Nat.le_refl _) _
  have hm1 : Box w1 w.heap.size 25 #[.int .u8 0, .int .u64 0, .int .u64 0] := by rw [← hw1]; exact Box.made w _ _
  have h1 := h.below hb1
  obtain ⟨b', o', hA, _, hbl, c0⟩ := h1.at (j := 0) (u := .int .u8 ((l[0]'(by omega)).toNat : Int)) (by simp [bc, show 0 < l.length by omega])
  injection hA with hA
  injection hA with hA1 hA2
  subst hA1 hA2
  have hk0 : l[0]'(by omega) = (markAt l).kind := by
    match l, hl with
    | k :: r, _ => rfl
    | [], hl => simp at hl; omega
  rw [hk0, Nat.add_zero] at c0
  have hl1 : Lies w1 N (some ⟨b, o + 1, none⟩) 8 (c - 1) (bc ((l.drop 1).take 8)) := by
    have := (h1.from 1 (by omega)).first (m := 8) (by omega)
    rw [cutA, if_neg (by omega), bc_drop, bc_take] at this
    simpa [Addr.add_mid] using this
  have hl2 : Lies w1 N (some ⟨b, o + 9, none⟩) 8 (c - 9) (bc ((l.drop 9).take 8)) := by
    have := (h1.from 9 (by omega)).first (m := 8) (by omega)
    rw [cutA, if_neg (by omega), bc_drop, bc_take] at this
    simpa [Addr.add_mid] using this
  have s1 : ∀ W, (Instr.sliceAt 22 (.slice (some ⟨b, o, none⟩) n c) (some (.int .i64 1)) (some (.int .i64 9)) none).run Try.prog W = .ok (.slice (some ⟨b, o + 1, none⟩) 8 (c - 1)) W := fun W => cut_part b o n c 1 9 (by omega) (by omega) (by omega) W
  have s2 : ∀ W, (Instr.sliceAt 22 (.slice (some ⟨b, o, none⟩) n c) (some (.int .i64 9)) (some (.int .i64 17)) none).run Try.prog W = .ok (.slice (some ⟨b, o + 9, none⟩) 8 (c - 9)) W := fun W => cut_part b o n c 9 17 (by omega) (by omega) (by omega) W
  have n1 : ∀ k, Calls Try.prog 27 #[.slice (some ⟨b, o + 1, none⟩) 8 (c - 1)] (w1.drewN k) fun e w' => e = .returned (.int .u64 ((markAt l).epoch : Int)) ∧ w' = w1.drewN k := fun k => number_says _ N _ 8 _ _ (hl1.drewN k) (by omega)
  have n2 : ∀ k, Calls Try.prog 27 #[.slice (some ⟨b, o + 9, none⟩) 8 (c - 9)] (w1.drewN k) fun e w' => e = .returned (.int .u64 ((markAt l).seq : Int)) ∧ w' = w1.drewN k := fun k => number_says _ N _ 8 _ _ (hl2.drewN k) (by omega)
  generalize markAt l = m at *
  have d0 : w1.drew.cell? ⟨b, o, none⟩ = some (.int .u8 (m.kind.toNat : Int)) := c0
  have H1 := Lib.hid (And.intro hb1 hm1)
  clear h h1 hl1 hl2 hb1 hm1 hk0
  go_enter Try.func25, Try.ntmps25
  go_upto_region 1 with fail
  have z1 : 0 < n := by omega
  have z2 : (0 : Int) < (n : Int) := by omega
  go_still_tail 10, (by kernel_rfl)
  still_call (n1 1)
  repeat still_step
  still_call (n2 1)
  repeat still_step
  refine wpStill_nil ?_
  obtain ⟨w2, hw2⟩ : ∃ w2, w1.drew.setRow w.heap.size (mv m) = w2 := ⟨_, rfl⟩
  have hm2 : Box w2 w.heap.size 25 (mv m) := by rw [← hw2]; exact setRow_heap _ _ _ _ _ _ H1.out.2
  have e0 : w2.cell? ⟨w.heap.size, 0, none⟩ = some (.int .u8 (m.kind.toNat : Int)) := (Box.cell hm2 0).trans rfl
  have e1 : w2.cell? ⟨w.heap.size, 1, none⟩ = some (.int .u64 (m.epoch : Int)) := (Box.cell hm2 1).trans rfl
  have e2 : w2.cell? ⟨w.heap.size, 2, none⟩ = some (.int .u64 (m.seq : Int)) := (Box.cell hm2 2).trans rfl
  have HB2 := Lib.hid (show Below w.heap.size w w2 from H1.out.1.trans (by rw [← hw2]; exact ((Below.refl _ w1).drew).grown (grown_row (grown_refl _ (some w.heap.size)) _) H1.out.1.size (fun k e => by injection e with e; omega)))
  have HW2 := Lib.hid hw2
  clear hw2 hm2
  change wpList _ _ _ _ _ w1.drew
  go_wp2_with (refine wpList_store_row rfl 25 _ _ rfl w.heap.size (mv m) rfl rfl 25 _ H1.out.2 (by rw [mv_size]; kernel_rfl) rfl (mv_one m) ?_; rw [HW2.out])
  exact bodyPost_ret (v := .agg (mv m)) (by simp [results, Try.results25, go_sem, e0, e1, e2, mv]) rfl ⟨rfl, HB2.out⟩
end Go.Proofs.Ythpfdenpgegheaa
