/-
  The contracts of New, Arm, Flush and Read, of a device that New made.
-/
import Derived.Test.YtnhondkdkjehaaaGreatSlL
import Derived.OwnWalk
namespace Go.Proofs.YtnhondkdkjehaaaGreat
open Go.RowKit

theorem own_boxS {w : World} {base g n size : Nat} {e : TypeId} {xs : List Value} (h : w.ownsRow base e size (.slice (some ⟨g, 0, none⟩) n n) n xs) : Box w g e xs.toArray := by
  obtain ⟨h1, h2 | ⟨g', cap, cur, h2, _, h3, _, _, h4, h5⟩⟩ := h
  · simp at h2
  · simp at h2
    obtain ⟨rfl, rfl⟩ := h2
    rw [List.take_of_length_le (by rw [Array.length_toList, h4]; exact Nat.le_refl _)] at h5
    subst h5
    simpa [Box] using h3
theorem Box.toLies {w : World} {g : Nat} {e : TypeId} {xs : List Value} (h : Box w g e xs.toArray) {n c : Nat} (hn : xs.length = n) (hc : n ≤ c) : Lies w (fun k => k = g) (some ⟨g, 0, none⟩) n c xs :=
  ⟨hn, hc, fun _ => ⟨_, rfl, rfl, Box.lt h, fun j u hu => by rw [Addr.add_mid, Nat.zero_add, Box.cell h]; simpa using hu⟩⟩

/-- A device that was just made. -/
def Dv.new (n : Nat) : Dv := ⟨List.replicate n default, [], 0, -1, false⟩
theorem Dv.new_ok {n : Nat} (h1 : 1 ≤ n) (h2 : n ≤ 4096) : (Dv.new n).Ok :=
  ⟨by simp [Dv.new]; omega, by simp [Dv.new]; omega, fun x hx => by simp [Dv.new] at hx, by simp [Dv.new], by simp [Dv.new], by simp [Dv.new]⟩
set_option maxHeartbeats 1000000 in
theorem new_yes (w : World) (n : Nat) (h1 : 1 ≤ n) (h2 : n ≤ 4096) :
    Calls Tryz.prog 34 #[.int .i64 (n : Int)] w fun e w' => ∃ p, e = .returned (.tuple #[.pointer (some ⟨p, 0, none⟩), .int .i64 0]) ∧ Dev w' (fun k => w.heap.size ≤ k ∧ k < w'.heap.size) p (Dv.new n) ∧ Below w.heap.size w w' := by
  have l1 : ¬ (n : Int) < 1 := by omega
  have l2 : ¬ 4096 < (n : Int) := by omega
  obtain ⟨i0, hi, hz0, hz1, hz2⟩ := info_parts blkInfo
  go_enter Tryz.func34, Tryz.ntmps34
  go_wp2_with (at_make; refine wpList_make_full _ rfl _ _ 108 rfl w.heap.size 119 i0 _ 256 Tryz.underlying108 hi hz0 hz1 _ _ _ _ n rfl rfl rfl rfl (by rw [hz2]; omega) (by unfold maxLen; omega) (Nat.le_refl _) ?_; intro w1 hown1 hg1; have HW1 := Lib.hid (And.intro hown1 hg1); clear hown1 hg1)
  go_ret2
  obtain ⟨hown1, hg1⟩ := HW1.out
  change w1.ownsRow _ _ _ _ _ (madeCells (be default).toArray (n * 256)).toList at hown1
  rw [madeBlks] at hown1
  have hb1 := own_boxS hown1
  have hB1 := (Below.refl w.heap.size w).grown hg1 (Nat.le_refl _) (fun k hk => by cases hk)
  have hlt := Box.lt hb1
  refine ⟨_, rfl, ⟨Dv.new_ok h1 h2, w.heap.size, (n, []), .slice none 0 0, ?_, by rw [List.append_nil]; exact Box.alloc hb1 _, World.ownsRow_nil _ _ _ _, ⟨by omega, by simp⟩, ⟨Nat.le_refl _, by simp; omega⟩, fun k hk => by cases hk⟩, hB1.alloc hB1.size _⟩
  have := Box.made w1 116 (dc w.heap.size (n, []) (.slice none 0 0) (Dv.new n))
  simpa [dc, Dv.new] using this
set_option maxHeartbeats 1000000 in
theorem new_no (w : World) (n : Int) (h : n < 1 ∨ 4096 < n) : Calls Tryz.prog 34 #[.int .i64 n] w fun e w' => e = .returned (.tuple #[.pointer none, .int .i64 2]) ∧ w' = w := by
  go_enter Tryz.func34, Tryz.ntmps34
  by_cases l1 : n < 1
  · go_wp2
    go_ret2
    exact ⟨rfl, rfl⟩
  · have l2 : 4096 < n := by omega
    go_wp2
    go_ret2
    exact ⟨rfl, rfl⟩

section
variable {w : World} {K : Nat → Prop} {p : Nat} {D : Dv}
/-- Armed. -/
def Dv.arm (D : Dv) (n : Int) : Dv := { D with left := if -1 ≤ n then n else -1 }
set_option maxHeartbeats 1000000 in
theorem arm_says (h : Dev w K p D) (n : Int) (hn : n ≤ 9223372036854775807) :
    Calls Tryz.prog 27 #[.pointer (some ⟨p, 0, none⟩), .int .i64 n] w fun e w' => e = .returned (.tuple #[]) ∧ Dev w' K p (D.arm n) ∧ Touch K w w' := by
  have hM := made_yes h
  obtain ⟨hk, gb, ex, v, hd⟩ := h
  have c3 : w.cell? ⟨p, 3, none⟩ = some (.int .i64 D.left) := by rw [Box.cell hd.1]; rfl
  have f3 := Box.frozen hd.1 3
  have HD := Lib.hid (And.intro hk hd)
  clear hk hd
  have hfin : ∀ m : Int, (m = if -1 ≤ n then n else -1) → Dev (w.setCell ⟨p, 3, none⟩ (.int .i64 m)) K p (D.arm n) ∧ Touch K w (w.setCell ⟨p, 3, none⟩ (.int .i64 m)) := by
    rintro m hm
    obtain ⟨hk, hd⟩ := HD.out
    have hb := Box.put hd.1 3 (.int .i64 m)
    have hg := grown_set (grown_refl w (some p)) 3 (.int .i64 m)
    refine ⟨⟨⟨hk.pos, hk.most, hk.place, hk.count, by show -1 ≤ (if -1 ≤ n then n else -1); split <;> omega, by show (if -1 ≤ n then n else -1) ≤ _; split <;> omega⟩, gb, ex, v, hd.turn hg ?_ rfl rfl⟩, Touch.of_grown hg (fun k e => by injection e with e; rw [← e]; exact hd.2.2.2.1)⟩
    simpa [dc, Dv.arm, hm] using hb
  generalize D.arm n = D' at hfin ⊢
  by_cases l : -1 ≤ n
  · rw [if_pos l] at hfin
    have l' : ¬ n < -1 := by omega
    go_enter Tryz.func27, Tryz.ntmps27
    go_wp2_with (go_at_call 60; refine hM.mono ?_; rintro e w' ⟨rfl, rfl⟩)
    go_end0
    exact ⟨rfl, hfin _ rfl⟩
  · rw [if_neg l] at hfin
    have l' : n < -1 := by omega
    go_enter Tryz.func27, Tryz.ntmps27
    go_wp2_with (go_at_call 60; refine hM.mono ?_; rintro e w' ⟨rfl, rfl⟩)
    go_end0
    exact ⟨rfl, hfin _ rfl⟩

/-- Flushed: nothing waits. -/
def Dv.flush (D : Dv) : Dv := { D with ws := [] }
theorem Dev.flush (h : Dev w K p D) : Dev (w.setCell ⟨p, 1, none⟩ (.slice none 0 0)) K p D.flush ∧ Touch K w (w.setCell ⟨p, 1, none⟩ (.slice none 0 0)) := by
  obtain ⟨hk, gb, ex, v, h1, h2, h3, h4, h5, h6⟩ := h
  have hb := Box.put h1 1 (.slice none 0 0)
  have hg := grown_set (grown_refl w (some p)) 1 (.slice none 0 0)
  refine ⟨⟨⟨hk.pos, hk.most, fun x hx => by simp [Dv.flush] at hx, by simp [Dv.flush], hk.low, hk.high⟩, gb, ex, .slice none 0 0, by simpa [dc, Dv.flush] using hb, Box.grown h2 hg (fun e => ?_), World.ownsRow_nil _ _ _ _, h4, h5, fun k e => by cases e⟩, Touch.of_grown hg (fun k e => by injection e with e; rw [← e]; exact h4)⟩
  obtain rfl : gb = p := by injection e
  have := (show w.heap[gb]? = _ from h1).symm.trans h2
  simp at this
theorem flush_down (h : Dev w K p D) (ho : D.ops ≤ 100000) (hd : D.call.down = true) :
    Calls Tryz.prog 83 #[.pointer (some ⟨p, 0, none⟩)] w fun e w' => e = .returned (.int .i64 17) ∧ Dev w' K p D.call ∧ Touch K w w' := by
  have hM := made_yes h
  have hC := call_says h ho
  clear h
  rw [hd] at hC
  go_enter Tryz.func83, Tryz.ntmps83
  go_wp2_with (first | (go_at_call 60; refine hM.mono ?_; rintro e w' ⟨rfl, rfl⟩) | (go_at_call 88; refine hC.mono ?_; rintro e w2 ⟨rfl, hd2, ht2⟩; have HD := Lib.hid (And.intro hd2 ht2); clear hd2 ht2))
  go_ret
  exact ⟨rfl, HD.out⟩
theorem flush_up (h : Dev w K p D) (ho : D.ops ≤ 100000) (hd : D.call.down = false) :
    Calls Tryz.prog 83 #[.pointer (some ⟨p, 0, none⟩)] w fun e w' => e = .returned (.int .i64 0) ∧ Dev w' K p D.call.flush ∧ Touch K w w' := by
  have hM := made_yes h
  have hC := call_says h ho
  clear h
  rw [hd] at hC
  go_enter Tryz.func83, Tryz.ntmps83
  go_wp2_with (first | (go_at_call 60; refine hM.mono ?_; rintro e w' ⟨rfl, rfl⟩) | (go_at_call 88; refine hC.mono ?_; rintro e w2 ⟨rfl, hd2, ht2⟩; obtain ⟨u, c1⟩ : ∃ u, w2.cell? ⟨p, 1, none⟩ = some u := (by obtain ⟨_, gb, ex, v, hx⟩ := hd2; exact ⟨v, by rw [Box.cell hx.1]; rfl⟩); have f1 : w2.frozen? ⟨p, 1, none⟩ = false := (by obtain ⟨_, gb, ex, v, hx⟩ := hd2; exact Box.frozen hx.1 1); have HD := Lib.hid (And.intro hd2 ht2); clear hd2 ht2))
  go_ret
  have := HD.out.1.flush
  exact ⟨rfl, this.1, HD.out.2.trans this.2⟩

/-- Block n's bytes. -/
def Dv.blk (D : Dv) (n : Nat) : Bk := D.bs.getD n default
theorem Dv.blk_at {D : Dv} {n : Nat} (h : n < D.bs.length) : D.bs[n]? = some (D.blk n) := by simp [Dv.blk, h]
theorem read_arg (h : Dev w K p D) (i : Int) (hi : ¬ (0 ≤ i ∧ i < D.bs.length)) :
    Calls Tryz.prog 57 #[.pointer (some ⟨p, 0, none⟩), .int .i64 i] w fun e w' => e = .returned (.tuple #[.slice none 0 0, .int .i64 2]) ∧ w' = w := by
  have hM := made_yes h
  obtain ⟨gb, C, h0⟩ := h.cell0
  have hH := has_low w p _ _ _ h0 i
  rw [decide_eq_false hi] at hH
  clear h h0 hi
  go_enter Tryz.func57, Tryz.ntmps57
  go_wp2_with (first | (go_at_call 60; refine hM.mono ?_; rintro e w' ⟨rfl, rfl⟩) | (go_at_call 87; refine hH.mono ?_; rintro e w' ⟨rfl, rfl⟩))
  go_ret2
  exact ⟨rfl, rfl⟩
theorem read_down (h : Dev w K p D) (ho : D.ops ≤ 100000) (hd : D.call.down = true) (i : Int) (hi : 0 ≤ i ∧ i < D.bs.length) :
    Calls Tryz.prog 57 #[.pointer (some ⟨p, 0, none⟩), .int .i64 i] w fun e w' => e = .returned (.tuple #[.slice none 0 0, .int .i64 17]) ∧ Dev w' K p D.call ∧ Touch K w w' := by
  have hM := made_yes h
  obtain ⟨gb, C, h0⟩ := h.cell0
  have hH := has_low w p _ _ _ h0 i
  rw [decide_eq_true hi] at hH
  have hC := call_says h ho
  rw [hd] at hC
  clear h h0 hi
  go_enter Tryz.func57, Tryz.ntmps57
  go_wp2_with (first | (go_at_call 60; refine hM.mono ?_; rintro e w' ⟨rfl, rfl⟩) | (go_at_call 87; refine hH.mono ?_; rintro e w' ⟨rfl, rfl⟩) | (go_at_call 88; refine hC.mono ?_; rintro e w2 ⟨rfl, hd2, ht2⟩; have HD := Lib.hid (And.intro hd2 ht2); clear hd2 ht2))
  go_ret2
  exact ⟨rfl, HD.out⟩
end
end Go.Proofs.YtnhondkdkjehaaaGreat
