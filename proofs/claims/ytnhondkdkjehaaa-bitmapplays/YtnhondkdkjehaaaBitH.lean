/-
  Clone, Bytes, Used, Has, within of package bitmap.
-/
import Derived.Test.YtnhondkdkjehaaaBitS
namespace Go.Proofs.Ytnhondkdkjehaaa
open Go.RowKit

set_option linter.unusedVariables false
set_option linter.unusedSimpArgs false
theorem Own.base {w : World} {B B' : Nat} {v : Value} {l : List UInt8} (h : Own w B v l) (hb : B' ≤ B) : Own w B' v l := by
  refine ⟨h.1, ?_⟩
  rcases h.2 with h2 | ⟨g, cap, cur, h2, h3, h4⟩
  · exact .inl h2
  · exact .inr ⟨g, cap, cur, h2, Nat.le_trans hb h3, h4⟩
set_option maxHeartbeats 1000000 in
theorem bclone_says (w : World) (B : Nat) (v : Value) (l : List UInt8) (h : Own w B v l) (hB : B ≤ w.heap.size) (h1 : l.length ≤ 4096) : Calls Try.prog 19 #[v] w fun e w' => ∃ v', e = .returned v' ∧ Own w' w.heap.size v' l ∧ Below w.heap.size w w' := by
  have q22 : ∀ (w : World) (a : Option Addr) (n c n' c' : Nat), (binOp .eql 22 (.slice a n c) (.slice none n' c')).run Try.prog w = .ok (.bool a.isNone) w := fun w a n c n' c' => Lib.run_eql_slice_nil w _ _ a n c n' c' Try.underlying22
  rcases h.2 with ⟨rfl, h0⟩ | ⟨g, C, cur, rfl, _, hgb, hnc, _⟩
  · have hws : l = [] := List.eq_nil_of_length_eq_zero h0
    subst hws
    clear h
    go_enter Try.func19, Try.ntmps19
    go_wp2
    go_ret
    exact ⟨_, rfl, Own.nil _ _, Below.refl _ _⟩
  · obtain ⟨A', c', he, hl⟩ := h.lies
    injection he with he1 _ he2
    subst he1 he2
    have HL := Lib.hid (hl.below ((Below.refl _ w).alloc (Nat.le_refl _) (.cells #[] 5)))
    have HO := Lib.hid (show Own (w.alloc (.cells #[] 5)) w.heap.size (.slice (some ⟨w.heap.size, 0, none⟩) 0 0) [] from World.ownsRow_made w #[] 0 (Nat.le_refl _) (Nat.zero_le _) rfl)
    have HB := Lib.hid (show Below w.heap.size w (w.alloc (.cells #[] 5)) from (Below.refl _ w).alloc (Nat.le_refl _) _)
    clear h hl hgb hnc
    go_enter Try.func19, Try.ntmps19
    go_wp2_with (at_builtin; refine wpList_bytes _ _ _ rfl rfl w.heap.size _ [] (some ⟨g, 0, none⟩) l.length C l rfl rfl HO.out HL.out (by intro h; cases h) (by simp; omega) HB.out.size ?_; intro v9 w9 ho9 hg9; have H9 := Lib.hid (And.intro ho9 (HO.out.changed hg9 HB.out.size)); clear ho9 hg9)
    go_ret
    exact ⟨_, rfl, H9.out.1, HB.out.trans H9.out.2⟩
/-- Bits as a value: so many blocks, and a row of bytes of the call's own. -/
theorem bbytes_says (w : World) (B n : Nat) (x : Value) (l : List UInt8) (h : Own w B x l) (hB : B ≤ w.heap.size) (h1 : l.length ≤ 4096) : Calls Try.prog 11 #[.agg #[.int .i64 (n : Int), x]] w fun e w' => ∃ v', e = .returned v' ∧ Own w' w.heap.size v' l ∧ Below w.heap.size w w' := by
  have hB1 : Below w.heap.size w (w.alloc (.cells #[.int .i64 (n : Int), x] 25)) := (Below.refl _ w).alloc (Nat.le_refl _) _
  have c1 : (w.alloc (.cells #[.int .i64 (n : Int), x] 25)).cell? ⟨w.heap.size, 1, none⟩ = some x := (Box.cell (Box.made w _ _) 1).trans rfl
  have HC := Lib.hid (bclone_says (w.alloc (.cells #[.int .i64 (n : Int), x] 25)) B x l (h.below hB1) (Nat.le_trans hB hB1.size) h1)
  have HB := Lib.hid hB1
  clear h hB1
  go_enter Try.func11, Try.ntmps11
  go_wp2_with (go_at_call 19; refine HC.out.mono ?_; rintro e w' ⟨v', rfl, ho, hb⟩; have HZ := Lib.hid (And.intro ho hb); clear ho hb)
  go_ret
  refine ⟨_, rfl, ?_, HB.out.trans (HZ.out.2.mono HB.out.size)⟩
  exact HZ.out.1.base HB.out.size
theorem blen_says (w : World) (n : Nat) (x : Value) : Calls Try.prog 6 #[.agg #[.int .i64 (n : Int), x]] w fun e w' => e = .returned (.int .i64 (n : Int)) ∧ Below w.heap.size w w' := by
  have hB1 : Below w.heap.size w (w.alloc (.cells #[.int .i64 (n : Int), x] 25)) := (Below.refl _ w).alloc (Nat.le_refl _) _
  have c1 : (w.alloc (.cells #[.int .i64 (n : Int), x] 25)).cell? ⟨w.heap.size, 0, none⟩ = some (.int .i64 (n : Int)) := (Box.cell (Box.made w _ _) 0).trans rfl
  go_enter Try.func6, Try.ntmps6
  go_wp2
  go_ret
  exact ⟨rfl, hB1⟩
/-- What a slice of bytes in a row of the call's own reads as. -/
theorem Own.byte {w : World} {B : Nat} {v : Value} {l : List UInt8} (h : Own w B v l) {i : Nat} (hi : i < l.length) : ∃ g c, v = .slice (some ⟨g, 0, none⟩) l.length c ∧ B ≤ g ∧ g < w.heap.size ∧ w.cell? ⟨g, i, none⟩ = some (.int .u8 ((l.getD i 0).toNat : Int)) := by
  have hlt := World.ownsRow.lt h
  rcases h.2 with ⟨hv, hn⟩ | ⟨g, cap, cur, hv, _, _, hnc, _⟩
  · omega
  · subst hv
    refine ⟨g, cap, rfl, (hlt g rfl).1, (hlt g rfl).2, ?_⟩
    have := World.ownsRow.cells h (g := g) rfl i (.int .u8 ((l.getD i 0).toNat : Int)) (by simp [bc, List.getD, List.getElem?_eq_getElem hi])
    rwa [Addr.add_mid, Nat.zero_add] at this
theorem and_zero (a : UInt8) (k : Nat) : decide (((a &&& bitU k).toNat : Int) = 0) = !a.toBitVec.getLsbD (k % 8) := by
  have h8 : k % 8 < 8 := Nat.mod_lt _ (by decide)
  cases hq : a.toBitVec.getLsbD (k % 8)
  · have : a &&& bitU k = 0 := byte_ext (fun j hj => by
      rw [UInt8.toBitVec_and, BitVec.getLsbD_and, bitU_get k j hj]
      by_cases h : j = k % 8
      · rw [h, hq]
        simp
      · simp [h])
    rw [this]
    rfl
  · have : ¬ (a &&& bitU k) = 0 := fun e => by
      have h1 : (a &&& bitU k).toBitVec.getLsbD (k % 8) = true := by
        rw [UInt8.toBitVec_and, BitVec.getLsbD_and, bitU_get k _ h8, hq]
        simp
      rw [e] at h1
      simp at h1
    have h2 : ¬ (a &&& bitU k).toNat = 0 := fun e => this (UInt8.toNat_inj.1 (by simpa using e))
    simp only [Bool.not_true, decide_eq_false_iff_not]
    omega
set_option maxRecDepth 100000 in
set_option maxHeartbeats 4000000 in
theorem bhas_says (w : World) (B n : Nat) (x : Value) (l : List UInt8) (h : Own w B x l) (hn : n ≤ 8 * l.length) (hn2 : n ≤ 4096) (k : Int) (hk : -9223372036854775808 ≤ k ∧ k ≤ 9223372036854775807) : Calls Try.prog 16 #[.agg #[.int .i64 (n : Int), x], .int .i64 k] w fun e w' => e = .returned (.bool (decide (0 ≤ k ∧ k < n) && hasB l k.toNat)) ∧ Below w.heap.size w w' := by
  obtain ⟨w1, hw1⟩ : ∃ y, w.alloc (.cells #[.int .i64 (n : Int), x] 25) = y := ⟨_, rfl⟩
  have hx1 : Box w1 w.heap.size 25 #[.int .i64 (n : Int), x] := by rw [← hw1]; exact Box.made w _ _
  have hB1 : Below w.heap.size w w1 := by rw [← hw1]; exact (Below.refl _ w).alloc (Nat.le_refl _) _
  have c0 : ∀ p : Grows w1, p.val.cell? ⟨w.heap.size, 0, none⟩ = some (.int .i64 (n : Int)) := fun p => (p.prop.cell (p := ⟨w.heap.size, 0, none⟩) hx1.lt).trans ((Box.cell hx1 0).trans rfl)
  have c1 : ∀ p : Grows w1, p.val.cell? ⟨w.heap.size, 1, none⟩ = some x := fun p => (p.prop.cell (p := ⟨w.heap.size, 1, none⟩) hx1.lt).trans ((Box.cell hx1 1).trans rfl)
  have HB := Lib.hid hB1
  have ho := h.below hB1
  clear hx1 hB1 h
  by_cases h0 : 0 ≤ k
  · by_cases h1 : k < n
    · obtain ⟨m, rfl⟩ : ∃ m : Nat, k = (m : Int) := ⟨k.toNat, by omega⟩
      obtain ⟨g, c, rfl, _, hg, hc⟩ := ho.byte (i := m / 8) (by omega)
      obtain ⟨z, hzz⟩ : ∃ z, l.getD (m / 8) 0 = z := ⟨_, rfl⟩
      have hlb : hasB l m = z.toBitVec.getLsbD (m % 8) := by rw [← hzz]; rfl
      rw [hzz] at hc
      have c2 : ∀ p : Grows w1, p.val.cell? ⟨g, m / 8, none⟩ = some (.int .u8 (z.toNat : Int)) := fun p => (p.prop.cell (p := ⟨g, m / 8, none⟩) hg).trans hc
      have hlt : m / 8 < l.length := by omega
      have hres : (decide (0 ≤ (m : Int) ∧ (m : Int) < n) && hasB l (m : Int).toNat) = hasB l m := by
        rw [decide_eq_true ⟨h0, h1⟩]
        simp
      have hbit : ∀ p : Grows w1, Calls Try.prog 17 #[.int .i64 (m : Int)] p.val fun e w' => e = .returned (.int .u8 ((bitU m).toNat : Int)) ∧ ∃ p' : Grows w1, w' = p'.val := fun p => (bit_says p.val m (by omega)).mono (fun _ w' hh => ⟨hh.1, p, hh.2⟩)
      have hba := bits_and z (bitU m)
      have hz : (((z.toNat &&& (bitU m).toNat : Nat) : Int) != 0) = hasB l m := by
        rw [hlb, ← UInt8.toNat_and]
        have := and_zero z m
        generalize ((z &&& bitU m).toNat : Int) = y at this ⊢
        cases hq : z.toBitVec.getLsbD (m % 8)
        · rw [hq] at this
          simp at this ⊢
          exact this
        · rw [hq] at this
          simp at this ⊢
          exact this
      have e8 : IntKind.i64.wrap ((m : Int) / 8) = (m : Int) / 8 := IntWalk.i64_in _ (by omega)
      have i0 : 0 ≤ (m : Int) / 8 := by omega
      have i1 : (m : Int) / 8 < (l.length : Int) := by omega
      have i2 : ((m : Int) / 8).toNat = m / 8 := by omega
      have HR := Lib.hid hres
      have HZ := Lib.hid hz
      clear hres hz hc ho
      go_enter Try.func16, Try.ntmps16
      go_wp2_with fail
      refine wp_region_grows (by kernel_rfl) (by kernel_rfl) ?_
      repeat (first
        | (with_reducible refine wpQuiet_no ?_ ?_; (· first | (go_simp; done) | (go_simp; simp [undef]; done)); simp only [Act.put, List.setIfInBounds_toArray, List.set_cons_zero, List.set_cons_succ])
        | quiet_step ((go_at_call 17; exact hbit _)))
      refine wpQuiet_nil ?_
      rintro w3 ⟨⟨_, hw3⟩, rfl⟩
      go_wp2
      go_ret
      rw [HR.out, HZ.out]
      exact ⟨rfl, HB.out.trans (hw3.mono HB.out.size)⟩
    · rw [decide_eq_false (fun q => h1 q.2)]
      go_enter Try.func16, Try.ntmps16
      go_wp2_with fail
      refine wp_region_grows (by kernel_rfl) (by kernel_rfl) ?_
      repeat (first
        | (with_reducible refine wpQuiet_no ?_ ?_; (· first | (go_simp; done) | (go_simp; simp [undef]; done)); simp only [Act.put, List.setIfInBounds_toArray, List.set_cons_zero, List.set_cons_succ])
        | quiet_step (fail))
      refine wpQuiet_nil ?_
      rintro w3 ⟨⟨_, hw3⟩, rfl⟩
      go_wp2
      go_ret
      exact ⟨rfl, HB.out.trans (hw3.mono HB.out.size)⟩
  · rw [decide_eq_false (fun q => h0 q.1)]
    have h5 : decide (0 ≤ k) = false := decide_eq_false h0
    have h6 : k < 0 := by omega
    go_enter Try.func16, Try.ntmps16
    go_wp2_with fail
    refine wp_region_grows (by kernel_rfl) (by kernel_rfl) ?_
    repeat (first
      | (with_reducible refine wpQuiet_no ?_ ?_; (· first | (go_simp; done) | (go_simp; simp [undef]; done)); simp only [Act.put, List.setIfInBounds_toArray, List.set_cons_zero, List.set_cons_succ])
      | quiet_step (fail))
    refine wpQuiet_nil ?_
    rintro w3 ⟨⟨_, hw3⟩, rfl⟩
    go_wp2
    go_ret
    exact ⟨rfl, HB.out.trans (hw3.mono HB.out.size)⟩
end Go.Proofs.Ytnhondkdkjehaaa
