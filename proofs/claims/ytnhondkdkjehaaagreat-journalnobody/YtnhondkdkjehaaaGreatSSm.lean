/-
  The small functions of package super.
-/
import Derived.Test.YtnhondkdkjehaaaGreatSlD
import Derived.Test.YtnhondkdkjehaaaGreatSlL
import Derived.Test.YtnhondkdkjehaaaGreatEqMk
namespace Go.Proofs.YtnhondkdkjehaaaGreat
open Go.RowKit

set_option linter.unusedVariables false
set_option linter.unusedSimpArgs false
theorem counted_says (w : World) (n : Nat) (hn : n < 18446744073709551616) : Calls Tryz.prog 101 #[.int .u64 (n : Int)] w fun e w' => e = .returned (.bool (cnt n)) ∧ w' = w := by
  rcases Nat.eq_zero_or_pos n with h | h
  · subst h
    go_enter Tryz.func101, Tryz.ntmps101
    go_wp2
    go_ret
    exact ⟨rfl, rfl⟩
  · by_cases h2 : n ≤ 4611686018427387904
    · have hc : cnt n = true := cnt_iff.2 ⟨h, h2⟩
      rw [hc]
      have g1 : 1 ≤ (n : Int) := by omega
      have g2 : (n : Int) ≤ 4611686018427387904 := by omega
      clear hc
      go_enter Tryz.func101, Tryz.ntmps101
      go_wp2
      go_ret
      exact ⟨rfl, rfl⟩
    · have hc : cnt n = false := by
        cases hq : cnt n
        · rfl
        · exact absurd (cnt_iff.1 hq).2 h2
      rw [hc]
      have g1 : 1 ≤ (n : Int) := by omega
      have g2 : ¬ (n : Int) ≤ 4611686018427387904 := by omega
      clear hc
      go_enter Tryz.func101, Tryz.ntmps101
      go_wp2
      go_ret
      exact ⟨rfl, rfl⟩
set_option maxRecDepth 100000 in
set_option maxHeartbeats 2000000 in
theorem smarkOf_says (w : World) (g : Nat) (hg : g < 18446744073709551616) : Calls Tryz.prog 114 #[.int .u64 (g : Int)] w fun e w' => e = .returned (.agg (mv (mk9 g hg))) ∧ Below w.heap.size w w' := by
  obtain ⟨w1, hw1⟩ : ∃ x, w.alloc (.cells #[.int .u8 0, .int .u64 0, .int .u64 0] 126) = x := ⟨_, rfl⟩
  have hbw1 : Below w.heap.size w w1 := by rw [← hw1]; exact (Below.refl _ w).alloc (Nat.le_refl _) _
  have hmw1 : Box w1 w.heap.size 126 (mv Mk.zero) := by rw [← hw1]; exact Box.made w _ _
  obtain ⟨w2, hw2⟩ : ∃ x, w1.setRow w.heap.size (mv (mk9 g hg)) = x := ⟨_, rfl⟩
  have hmw2 : Box w2 w.heap.size 126 (mv (mk9 g hg)) := by rw [← hw2]; exact setRow_heap _ _ _ _ _ _ hmw1
  have hbw2 : Below w.heap.size w w2 := hbw1.trans (by rw [← hw2]; exact (Below.refl _ w1).grown (grown_row (grown_refl _ (some w.heap.size)) _) hbw1.size (fun k e => by injection e with e; omega))
  have HMw1 := Lib.hid hmw1
  have HWw2 := Lib.hid hw2
  have e0 : w2.cell? ⟨w.heap.size, 0, none⟩ = some (.int .u8 9) := (Box.cell hmw2 0).trans rfl
  have e1 : w2.cell? ⟨w.heap.size, 1, none⟩ = some (.int .u64 (g : Int)) := (Box.cell hmw2 1).trans rfl
  have e2 : w2.cell? ⟨w.heap.size, 2, none⟩ = some (.int .u64 (g : Int)) := (Box.cell hmw2 2).trans rfl
  have HB := Lib.hid hbw2
  clear hmw1 hmw2 hbw1 hbw2 hw2
  go_enter Tryz.func114, Tryz.ntmps114
  go_wp2_with (refine wpList_store_row rfl 126 _ _ rfl w.heap.size (mv (mk9 g hg)) rfl rfl 126 _ HMw1.out (by rw [mv_size]; exact mkInfo) rfl (mv_one _) ?_; rw [HWw2.out])
  exact bodyPost_ret (v := .agg (mv (mk9 g hg))) (by simp [results, Tryz.results114, go_sem, e0, e1, e2, mv, mk9]) rfl ⟨rfl, HB.out⟩
theorem hdInfo : (Tryz.prog.info? 78).map (·.size) = some 5 := by kernel_rfl
set_option maxRecDepth 100000 in
set_option maxHeartbeats 8000000 in
theorem right_says (w : World) (h : Hd) (blocks : Int) (hb : -9223372036854775808 ≤ blocks ∧ blocks ≤ 9223372036854775807) : Calls Tryz.prog 69 #[.agg (hv h), .int .i64 blocks] w fun e w' => e = .returned (.bool (h.rightB blocks)) ∧ Below w.heap.size w w' := by
  obtain ⟨w1, hw1⟩ : ∃ x, w.alloc (.cells #[.int .u64 (h.gen : Int), .int .u64 (h.epoch : Int), .int .i64 h.pos, .int .u64 (h.seq : Int), .int .i64 h.log] 78) = x := ⟨_, rfl⟩
  have HB := Lib.hid (show Below w.heap.size w w1 by rw [← hw1]; exact (Below.refl _ w).alloc (Nat.le_refl _) _)
  have hm : Box w1 w.heap.size 78 (hv h) := by rw [← hw1]; exact Box.made w _ _
  have c0 : w1.cell? ⟨w.heap.size, 0, none⟩ = some (.int .u64 (h.gen : Int)) := (Box.cell hm 0).trans rfl
  have c1 : w1.cell? ⟨w.heap.size, 1, none⟩ = some (.int .u64 (h.epoch : Int)) := (Box.cell hm 1).trans rfl
  have c2 : w1.cell? ⟨w.heap.size, 2, none⟩ = some (.int .i64 h.pos) := (Box.cell hm 2).trans rfl
  have c3 : w1.cell? ⟨w.heap.size, 3, none⟩ = some (.int .u64 (h.seq : Int)) := (Box.cell hm 3).trans rfl
  have c4 : w1.cell? ⟨w.heap.size, 4, none⟩ = some (.int .i64 h.log) := (Box.cell hm 4).trans rfl
  have HG := Lib.hid h.hg
  have HE := Lib.hid h.he
  have HS := Lib.hid h.hs
  have hpp := h.hp
  have hll := h.hl
  clear hm
  cases hc1 : cnt h.gen
  · have hr : h.rightB blocks = false := by simp [Hd.rightB, hc1]
    rw [hr]
    go_enter Tryz.func69, Tryz.ntmps69
    simp only [hv]
    go_wp2_with (first
      | (go_at_call 101; (with_reducible refine (counted_says w1 _ HG.out).mono ?_); rintro e wn ⟨rfl, hwn⟩; obtain rfl : w1 = wn := hwn.symm; clear hwn)
      | (go_at_call 101; (with_reducible refine (counted_says w1 _ HE.out).mono ?_); rintro e wn ⟨rfl, hwn⟩; obtain rfl : w1 = wn := hwn.symm; clear hwn)
      | (go_at_call 101; (with_reducible refine (counted_says w1 _ HS.out).mono ?_); rintro e wn ⟨rfl, hwn⟩; obtain rfl : w1 = wn := hwn.symm; clear hwn))
    go_ret
    exact ⟨rfl, HB.out⟩
  cases hc2 : cnt h.epoch
  · have hr : h.rightB blocks = false := by simp [Hd.rightB, hc2]
    rw [hr]
    go_enter Tryz.func69, Tryz.ntmps69
    simp only [hv]
    go_wp2_with (first
      | (go_at_call 101; (with_reducible refine (counted_says w1 _ HG.out).mono ?_); rintro e wn ⟨rfl, hwn⟩; obtain rfl : w1 = wn := hwn.symm; clear hwn)
      | (go_at_call 101; (with_reducible refine (counted_says w1 _ HE.out).mono ?_); rintro e wn ⟨rfl, hwn⟩; obtain rfl : w1 = wn := hwn.symm; clear hwn)
      | (go_at_call 101; (with_reducible refine (counted_says w1 _ HS.out).mono ?_); rintro e wn ⟨rfl, hwn⟩; obtain rfl : w1 = wn := hwn.symm; clear hwn))
    go_ret
    exact ⟨rfl, HB.out⟩
  cases hc3 : cnt h.seq
  · have hr : h.rightB blocks = false := by simp [Hd.rightB, hc3]
    rw [hr]
    go_enter Tryz.func69, Tryz.ntmps69
    simp only [hv]
    go_wp2_with (first
      | (go_at_call 101; (with_reducible refine (counted_says w1 _ HG.out).mono ?_); rintro e wn ⟨rfl, hwn⟩; obtain rfl : w1 = wn := hwn.symm; clear hwn)
      | (go_at_call 101; (with_reducible refine (counted_says w1 _ HE.out).mono ?_); rintro e wn ⟨rfl, hwn⟩; obtain rfl : w1 = wn := hwn.symm; clear hwn)
      | (go_at_call 101; (with_reducible refine (counted_says w1 _ HS.out).mono ?_); rintro e wn ⟨rfl, hwn⟩; obtain rfl : w1 = wn := hwn.symm; clear hwn))
    go_ret
    exact ⟨rfl, HB.out⟩
  have hmx : 3 ≤ max blocks 3 ∧ max blocks 3 ≤ 9223372036854775807 := by omega
  have hmx1 := hmx.1
  have hmx2 := hmx.2
  clear hmx
  have key : ∀ r : Bool, decide (3 ≤ h.log ∧ h.log ≤ max blocks 3 - 3 ∧ 0 ≤ h.pos ∧ h.pos < h.log) = r → h.rightB blocks = r := fun r hr => by
    rw [Hd.rightB, hc1, hc2, hc3, hr]
    rfl
  have HK := Lib.hid key
  clear key
  by_cases g1 : 3 ≤ h.log
  · by_cases g2 : h.log ≤ max blocks 3 - 3
    · by_cases g3 : 0 ≤ h.pos
      · by_cases g4 : h.pos < h.log
        · have hr : h.rightB blocks = true := HK.out _ (by exact decide_eq_true ⟨g1, g2, g3, g4⟩)
          rw [hr]
          clear hr HK
          have d4 : decide (h.pos < h.log) = true := decide_eq_true g4
          go_enter Tryz.func69, Tryz.ntmps69
          simp only [hv]
          go_wp2_with (first
            | (go_at_call 101; (with_reducible refine (counted_says w1 _ HG.out).mono ?_); rintro e wn ⟨rfl, hwn⟩; obtain rfl : w1 = wn := hwn.symm; clear hwn)
            | (go_at_call 101; (with_reducible refine (counted_says w1 _ HE.out).mono ?_); rintro e wn ⟨rfl, hwn⟩; obtain rfl : w1 = wn := hwn.symm; clear hwn)
            | (go_at_call 101; (with_reducible refine (counted_says w1 _ HS.out).mono ?_); rintro e wn ⟨rfl, hwn⟩; obtain rfl : w1 = wn := hwn.symm; clear hwn))
          go_ret
          exact ⟨rfl, HB.out⟩
        · have hr : h.rightB blocks = false := HK.out _ (by exact decide_eq_false (fun e => g4 e.2.2.2))
          rw [hr]
          clear hr HK
          have d4 : decide (h.pos < h.log) = false := decide_eq_false g4
          go_enter Tryz.func69, Tryz.ntmps69
          simp only [hv]
          go_wp2_with (first
            | (go_at_call 101; (with_reducible refine (counted_says w1 _ HG.out).mono ?_); rintro e wn ⟨rfl, hwn⟩; obtain rfl : w1 = wn := hwn.symm; clear hwn)
            | (go_at_call 101; (with_reducible refine (counted_says w1 _ HE.out).mono ?_); rintro e wn ⟨rfl, hwn⟩; obtain rfl : w1 = wn := hwn.symm; clear hwn)
            | (go_at_call 101; (with_reducible refine (counted_says w1 _ HS.out).mono ?_); rintro e wn ⟨rfl, hwn⟩; obtain rfl : w1 = wn := hwn.symm; clear hwn))
          go_ret
          exact ⟨rfl, HB.out⟩
      · have hr : h.rightB blocks = false := HK.out _ (by exact decide_eq_false (fun e => g3 e.2.2.1))
        rw [hr]
        clear hr HK
        go_enter Tryz.func69, Tryz.ntmps69
        simp only [hv]
        go_wp2_with (first
          | (go_at_call 101; (with_reducible refine (counted_says w1 _ HG.out).mono ?_); rintro e wn ⟨rfl, hwn⟩; obtain rfl : w1 = wn := hwn.symm; clear hwn)
          | (go_at_call 101; (with_reducible refine (counted_says w1 _ HE.out).mono ?_); rintro e wn ⟨rfl, hwn⟩; obtain rfl : w1 = wn := hwn.symm; clear hwn)
          | (go_at_call 101; (with_reducible refine (counted_says w1 _ HS.out).mono ?_); rintro e wn ⟨rfl, hwn⟩; obtain rfl : w1 = wn := hwn.symm; clear hwn))
        go_ret
        exact ⟨rfl, HB.out⟩
    · have hr : h.rightB blocks = false := HK.out _ (by exact decide_eq_false (fun e => g2 e.2.1))
      rw [hr]
      clear hr HK
      go_enter Tryz.func69, Tryz.ntmps69
      simp only [hv]
      go_wp2_with (first
        | (go_at_call 101; (with_reducible refine (counted_says w1 _ HG.out).mono ?_); rintro e wn ⟨rfl, hwn⟩; obtain rfl : w1 = wn := hwn.symm; clear hwn)
        | (go_at_call 101; (with_reducible refine (counted_says w1 _ HE.out).mono ?_); rintro e wn ⟨rfl, hwn⟩; obtain rfl : w1 = wn := hwn.symm; clear hwn)
        | (go_at_call 101; (with_reducible refine (counted_says w1 _ HS.out).mono ?_); rintro e wn ⟨rfl, hwn⟩; obtain rfl : w1 = wn := hwn.symm; clear hwn))
      go_ret
      exact ⟨rfl, HB.out⟩
  · have hr : h.rightB blocks = false := HK.out _ (by exact decide_eq_false (fun e => g1 e.1))
    rw [hr]
    clear hr HK
    go_enter Tryz.func69, Tryz.ntmps69
    simp only [hv]
    go_wp2_with (first
      | (go_at_call 101; (with_reducible refine (counted_says w1 _ HG.out).mono ?_); rintro e wn ⟨rfl, hwn⟩; obtain rfl : w1 = wn := hwn.symm; clear hwn)
      | (go_at_call 101; (with_reducible refine (counted_says w1 _ HE.out).mono ?_); rintro e wn ⟨rfl, hwn⟩; obtain rfl : w1 = wn := hwn.symm; clear hwn)
      | (go_at_call 101; (with_reducible refine (counted_says w1 _ HS.out).mono ?_); rintro e wn ⟨rfl, hwn⟩; obtain rfl : w1 = wn := hwn.symm; clear hwn))
    go_ret
    exact ⟨rfl, HB.out⟩
set_option maxRecDepth 100000 in
set_option maxHeartbeats 2000000 in
theorem slot_says (w : World) (h : Hd) : Calls Tryz.prog 98 #[.agg (hv h)] w fun e w' => e = .returned (.int .i64 ((h.gen % 2 : Nat) : Int)) ∧ Below w.heap.size w w' := by
  obtain ⟨w1, hw1⟩ : ∃ x, w.alloc (.cells #[.int .u64 (h.gen : Int), .int .u64 (h.epoch : Int), .int .i64 h.pos, .int .u64 (h.seq : Int), .int .i64 h.log] 78) = x := ⟨_, rfl⟩
  have HB := Lib.hid (show Below w.heap.size w w1 by rw [← hw1]; exact (Below.refl _ w).alloc (Nat.le_refl _) _)
  have hm : Box w1 w.heap.size 78 (hv h) := by rw [← hw1]; exact Box.made w _ _
  have c0 : w1.cell? ⟨w.heap.size, 0, none⟩ = some (.int .u64 (h.gen : Int)) := (Box.cell hm 0).trans rfl
  have he : ((h.gen % 2 : Nat) : Int) = (h.gen : Int) % 2 := by omega
  rw [he]
  clear hm he
  go_enter Tryz.func98, Tryz.ntmps98
  simp only [hv]
  go_wp2
  go_ret
  exact ⟨rfl, HB.out⟩
theorem smade_yes {w : World} {K : Nat → Prop} {p : Nat} {D : Dv} (h : Dev w K p D) : Calls Tryz.prog 96 #[.pointer (some ⟨p, 0, none⟩)] w fun e w' => e = .returned (.bool true) ∧ w' = w := by
  have hL := Lib.hid (len_says h)
  have hp : 0 < (D.bs.length : Int) := by have := h.1.pos; omega
  have hp' : 0 < D.bs.length := h.1.pos
  clear h
  go_enter Tryz.func96, Tryz.ntmps96
  go_wp2_with (go_at_call 49; refine hL.out.mono ?_; rintro e wn ⟨rfl, hwn⟩; obtain rfl : w = wn := hwn.symm; clear hwn)
  go_ret
  exact ⟨rfl, rfl⟩
end Go.Proofs.YtnhondkdkjehaaaGreat
