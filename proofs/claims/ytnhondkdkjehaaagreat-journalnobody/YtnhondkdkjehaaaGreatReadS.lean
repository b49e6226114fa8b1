/-
  Read, of a device that is up: the block's bytes, in new memory.
-/
import Derived.Test.YtnhondkdkjehaaaGreatActs
import Derived.Test.YtnhondkdkjehaaaGreatSlB
import Derived.Deep.DeepCutAuto
import Derived.Deep.CutBlock
namespace Go.Proofs.YtnhondkdkjehaaaGreat
open Go.RowKit

/-- A block's own bytes, as a slice reads them. -/
theorem range_lies {w : World} {g o : Nat} {xs : List Value} (h : w.rangeAt g o xs) (hg : g < w.heap.size) {n c : Nat} (hn : xs.length = n) (hc : n ≤ c) : Lies w (fun k => k = g) (some ⟨g, o, none⟩) n c xs :=
  ⟨hn, hc, fun _ => ⟨_, rfl, rfl, hg, fun j u hu => by rw [Addr.add_mid]; exact h j u hu⟩⟩
theorem laidAt_whole {cur : Array Value} {xs : List UInt8} {n : Nat} (h : cur.size = n) (hx : xs.length = n) : laidAt cur xs 0 n = (bc xs).toArray := by
  unfold laidAt
  rw [show xs.take n = xs from List.take_of_length_le (by omega), Nat.zero_add, show cur.toList.drop n = [] from List.drop_eq_nil_of_le (by simp; omega)]
  simp

section
variable {w : World} {K : Nat → Prop} {p : Nat} {D : Dv}
set_option maxRecDepth 100000 in
set_option maxHeartbeats 2000000 in
theorem read_up (h : Dev w K p D) (ho : D.ops ≤ 100000) (hd : D.call.down = false) (n : Nat) (hn : n < D.bs.length) :
    Calls Tryz.prog 57 #[.pointer (some ⟨p, 0, none⟩), .int .i64 (n : Int)] w fun e w' => ∃ g, e = .returned (.tuple #[.slice (some ⟨g, 0, none⟩) 256 256, .int .i64 0]) ∧ Box w' g 5 (be (D.blk n)).toArray ∧ w.heap.size ≤ g ∧ Dev w' K p D.call ∧ Touch K w w' := by
  have hM := made_yes h
  obtain ⟨gb0, C0, h0⟩ := h.cell0
  have hH := has_low w p _ _ _ h0 n
  rw [decide_eq_true (show 0 ≤ (n : Int) ∧ (n : Int) < D.bs.length by omega)] at hH
  have hC := call_says h ho
  rw [hd] at hC
  clear h h0
  obtain ⟨i0, hi, hz0, hz1, hz2⟩ := info_parts Tryz.byteInfo
  have hX := Dv.blk_at hn
  have hcb : D.call.bs = D.bs := rfl
  generalize D.blk n = x at hX ⊢
  have hxl := x.2
  have l1 : (n : Int) < (D.bs.length : Int) := by omega
  go_enter Tryz.func57, Tryz.ntmps57
  go_upto_region 8 with (first
    | (go_at_call 60; refine hM.mono ?_; rintro e w' ⟨rfl, rfl⟩)
    | (go_at_call 87; refine hH.mono ?_; rintro e w' ⟨rfl, rfl⟩)
    | (go_at_call 88; refine hC.mono ?_; rintro e w2 ⟨rfl, hd2, ht2⟩; have HD := Lib.hid (And.intro hd2 ht2); clear hd2 ht2)
    | (at_make; refine wpList_make_full w2 rfl _ _ 49 rfl w2.heap.size 5 i0 _ 1 Tryz.underlying49 hi hz0 hz1 _ _ _ _ 256 rfl rfl rfl rfl (by rw [hz2]; omega) (by unfold maxLen; omega) (Nat.le_refl _) ?_; intro w3 hown3 hg3; have HW3 := Lib.hid (And.intro hown3 hg3); clear hown3 hg3))
  obtain ⟨hd2, ht2⟩ := HD.out
  obtain ⟨hown3, hg3⟩ := HW3.out
  have hb3 := own_boxS hown3
  have hB3 := (Below.refl w2.heap.size w2).grown hg3 (Nat.le_refl _) (fun k hk => by cases hk)
  have hd3 := hd2.below hB3
  have hd3' := hd3
  obtain ⟨_, gb, ex, v, h1, h2, _⟩ := hd3'
  have c0 : w3.cell? ⟨p, 0, none⟩ = some (.slice (some ⟨gb, 0, none⟩) D.bs.length ex.1) := by rw [Box.cell h1]; rfl
  have hr := fl_range_app be_length h2 (j := n) (x := x) hX
  have HR := Lib.hid (range_lies hr (Box.lt h2) (be_length x) (Nat.le_refl 256))
  have HB := Lib.hid hb3
  have HD3 := Lib.hid (And.intro hd2 (And.intro hB3 ht2))
  have hs2 := ht2.size
  have hs3 : w2.heap.size < w3.heap.size := Box.lt hb3
  clear HD HW3 hd2 ht2 hown3 hg3 hb3 hB3 hd3 h1 h2 hr hC hM hH hX hcb hxl
  generalize ex.1 = C at *
  generalize D.bs.length = L at *
  go_wp2_with (refine wpList_copy_gen rfl _ _ rfl w2.heap.size 0 256 256 256 256 (some ⟨gb, n * 256, none⟩) rfl rfl 5 _ HB.out _ x.1 HR.out (by simp [madeCells]) ?_; intro w4 hb4 hg4; have HW4 := Lib.hid (And.intro hb4 hg4); clear hb4 hg4)
  go_ret2
  obtain ⟨hb4, hg4⟩ := HW4.out
  obtain ⟨hd2, hB3, ht2⟩ := HD3.out
  have ht : Touch (fun k => k = w2.heap.size) w3 w4 := Touch.of_grown hg4 (fun k e => by injection e with e; exact e.symm)
  have ht' : Touch (fun k => k = w2.heap.size) w2 w4 := (Touch.of_below hB3).trans ht
  refine ⟨_, rfl, ?_, hs2, ht'.dev_new hd2 (fun k e => by omega), ht2.trans' ht' (fun k e => .inr (by omega))⟩
  rw [Nat.min_self, laidAt_whole (by simp [madeCells]) x.2] at hb4
  exact hb4
end
end Go.Proofs.YtnhondkdkjehaaaGreat
