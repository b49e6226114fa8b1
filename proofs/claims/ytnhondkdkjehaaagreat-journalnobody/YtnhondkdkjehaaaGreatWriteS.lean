/-
  Write: its contracts.
-/
import Derived.Test.YtnhondkdkjehaaaGreatLaws
import Derived.StillTailTactics
import Derived.Deep.WholeRow
namespace Go.Proofs.YtnhondkdkjehaaaGreat
open Go.RowKit

/-- Block n is x, and the write waits. -/
def Dv.write (D : Dv) (n : Nat) (x : Bk) : Dv := { D with bs := D.bs.set n x, ws := D.ws ++ [⟨n, D.blk n, x⟩] }
theorem laidAt_wr (n : Nat) (x y z : Bk) : laidAt (we ⟨n, x, z⟩).toArray y.1 257 256 = (we ⟨n, x, y⟩).toArray := by
  have hx := be_length x
  have hz := be_length z
  have hy := y.2
  unfold laidAt
  congr 1
  rw [show y.1.take 256 = y.1 from List.take_of_length_le (by omega)]
  have h1 : (we ⟨n, x, z⟩).take 257 = Value.int .i64 (n : Int) :: be x := by
    rw [we, show 257 = 256 + 1 by omega, List.take_succ_cons, List.take_append_of_le_length (Nat.le_of_eq hx.symm), List.take_of_length_le (Nat.le_of_eq hx)]
  have h2 : (we ⟨n, x, z⟩).drop (257 + 256) = [] := List.drop_eq_nil_of_le (by rw [we_length]; omega)
  simp only [h1, h2, List.append_nil]
  simp [we, be]
section
variable {w : World} {K : Nat → Prop} {p : Nat} {D : Dv}
set_option maxHeartbeats 1000000 in
theorem write_arg (h : Dev w K p D) (i : Int) (A : Option Addr) (m c : Nat) (hi : ¬ (0 ≤ i ∧ i < D.bs.length) ∨ m ≠ 256) :
    Calls Tryz.prog 84 #[.pointer (some ⟨p, 0, none⟩), .int .i64 i, .slice A m c] w fun e w' => e = .returned (.int .i64 2) ∧ w' = w := by
  have hM := made_yes h
  obtain ⟨gb, C, h0⟩ := h.cell0
  have hH := has_low w p _ _ _ h0 i
  clear h h0
  by_cases hh : 0 ≤ i ∧ i < D.bs.length
  · have hm : m ≠ 256 := hi.elim (fun h => absurd hh h) id
    rw [decide_eq_true hh] at hH
    clear hh hi
    have l : ((m : Int) != 256) = true := by simp; omega
    go_enter Tryz.func84, Tryz.ntmps84
    go_wp2_with (first | (go_at_call 60; refine hM.mono ?_; rintro e w' ⟨rfl, rfl⟩) | (go_at_call 87; refine hH.mono ?_; rintro e w' ⟨rfl, rfl⟩))
    go_ret
    exact ⟨rfl, rfl⟩
  · rw [decide_eq_false hh] at hH
    clear hh hi
    go_enter Tryz.func84, Tryz.ntmps84
    go_wp2_with (first | (go_at_call 60; refine hM.mono ?_; rintro e w' ⟨rfl, rfl⟩) | (go_at_call 87; refine hH.mono ?_; rintro e w' ⟨rfl, rfl⟩))
    go_ret
    exact ⟨rfl, rfl⟩
set_option maxHeartbeats 1000000 in
theorem write_down (h : Dev w K p D) (ho : D.ops ≤ 100000) (hd : D.call.down = true) (i : Int) (hi : 0 ≤ i ∧ i < D.bs.length) (A : Option Addr) (c : Nat) :
    Calls Tryz.prog 84 #[.pointer (some ⟨p, 0, none⟩), .int .i64 i, .slice A 256 c] w fun e w' => e = .returned (.int .i64 17) ∧ Dev w' K p D.call ∧ Touch K w w' := by
  have hM := made_yes h
  obtain ⟨gb, C, h0⟩ := h.cell0
  have hH := has_low w p _ _ _ h0 i
  rw [decide_eq_true hi] at hH
  have hC := call_says h ho
  rw [hd] at hC
  clear h h0 hi
  go_enter Tryz.func84, Tryz.ntmps84
  go_wp2_with (first | (go_at_call 60; refine hM.mono ?_; rintro e w' ⟨rfl, rfl⟩) | (go_at_call 87; refine hH.mono ?_; rintro e w' ⟨rfl, rfl⟩) | (go_at_call 88; refine hC.mono ?_; rintro e w2 ⟨rfl, hd2, ht2⟩; have HD := Lib.hid (And.intro hd2 ht2); clear hd2 ht2))
  go_ret
  exact ⟨rfl, HD.out⟩
theorem Box.ne {g g' : Nat} {t t' : TypeId} {cs cs' : Array Value} (h : Box w g t cs) (h' : Box w g' t' cs') (ht : t ≠ t') : g ≠ g' := by
  rintro rfl
  have := (show w.heap[g]? = _ from h).symm.trans h'
  simp at this
  exact ht this.2
/-- The new write's block is turned. -/
theorem DevAt.put {gb : Nat} {ex : Nat × List Value} {v : Value} (hd : DevAt w K p gb ex v D) (n : Nat) (x : Bk) : DevAt (w.setRow gb (fl be (D.bs.set n x) ++ ex.2).toArray) K p gb ex v { D with bs := D.bs.set n x } := by
  obtain ⟨h1, h2, h3, h4, h5, h6⟩ := hd
  have hg := grown_row (grown_refl w (some gb)) (fl be (D.bs.set n x) ++ ex.2).toArray
  refine ⟨?_, setRow_heap w gb _ _ _ _ h2, World.ownsRow.kept h3 hg (.inr (Box.apart h2 h3 (by decide))), h4, h5, h6⟩
  have := Box.grown h1 hg (fun e => by
    obtain rfl : p = gb := by injection e
    have := (show w.heap[p]? = _ from h1).symm.trans h2
    simp at this)
  simpa [dc] using this

set_option maxRecDepth 100000 in
set_option maxHeartbeats 8000000 in
theorem write_up (h : Dev w K p D) (hK : ∀ k, w.heap.size ≤ k → K k) (ho : D.ops ≤ 100000) (hd : D.call.down = false) (n : Nat) (hn : n < D.bs.length) (N : Nat → Prop) (A : Option Addr) (c : Nat) (x : Bk) (hx : Lies w N A 256 c (bc x.1)) (hN : ∀ k, N k → ¬ K k) :
    Calls Tryz.prog 84 #[.pointer (some ⟨p, 0, none⟩), .int .i64 (n : Int), .slice A 256 c] w fun e w' => e = .returned (.int .i64 0) ∧ Dev w' K p (D.call.write n x) ∧ Touch K w w' := by
  have hM := made_yes h
  obtain ⟨gb0, C0, h0⟩ := h.cell0
  have hH := has_low w p _ _ _ h0 n
  rw [decide_eq_true (show 0 ≤ (n : Int) ∧ (n : Int) < D.bs.length by omega)] at hH
  have hC := call_says h ho
  rw [hd] at hC
  have HX := Lib.hid hx
  have hws : D.call.ws.length ≤ 100000 := Nat.le_trans h.1.count ho
  have hcnt : D.call.ws.length + 1 ≤ D.call.ops := Nat.succ_le_succ h.1.count
  clear h h0 hx
  have hz := (zero_of_info (show (Tryz.prog.info? 122).map (fun i => (i.zero, i.size)) = some (some (.agg (we default).toArray), 513) by kernel_rfl)).1
  have hza := we_size (default : Wr)
  obtain ⟨zi, hzi⟩ : ∃ z : Wr, z = default := ⟨_, rfl⟩
  rw [← hzi] at hz hza
  clear hzi
  have hn1 : n < D.call.bs.length := hn
  obtain ⟨D1, hD1⟩ : ∃ d, D.call = d := ⟨_, rfl⟩
  rw [hD1] at hC hn1 hws hcnt ⊢
  clear hD1 hn ho hd
  have l1 : (n : Int) < (D1.bs.length : Int) := by omega
  have hX0 := Dv.blk_at hn1
  obtain ⟨x0, hx0⟩ : ∃ x, D1.blk n = x := ⟨_, rfl⟩
  rw [hx0] at hX0
  have HX0 := Lib.hid (And.intro hX0 hx0)
  clear hX0 hx0
  go_enter Tryz.func84, Tryz.ntmps84
  go_upto_region 7 with (first
    | (go_at_call 60; refine hM.mono ?_; rintro e wn ⟨rfl, hwn⟩; obtain rfl : w = wn := hwn.symm)
    | (go_at_call 87; refine hH.mono ?_; rintro e wn ⟨rfl, hwn⟩; obtain rfl : w = wn := hwn.symm)
    | (go_at_call 88; refine hC.mono ?_; rintro e w2 ⟨rfl, hd2, ht2⟩; have HD := Lib.hid (And.intro hd2 ht2); clear hd2 ht2))
  obtain ⟨⟨hok, gb, ex, v, hd2⟩, ht2⟩ := HD.out
  obtain ⟨Av, cv, hv⟩ := hd2.slice
  subst hv
  have c0 : w2.cell? ⟨p, 0, none⟩ = some (.slice (some ⟨gb, 0, none⟩) D1.bs.length ex.1) := by rw [Box.cell hd2.1]; rfl
  have HR0 := Lib.hid (fl_range_app be_length hd2.2.1 (j := n) (x := x0) HX0.out.1)
  have HX2 := Lib.hid (ht2.lies HX.out hN)
  have HV2 := Lib.hid (fun k e => (World.ownsRow.lt hd2.2.2.1 k e).2)
  have HOK := Lib.hid hok
  have HD2 := Lib.hid (And.intro hok (And.intro hd2 ht2))
  have hsz2 := ht2.size
  clear HD hd2 ht2 hok HX hM hH hC
  obtain ⟨C, exr⟩ := ex
  dsimp only at *
  generalize hL : D1.bs.length = L at *
  go_upto_region 9 with (first
    | (refine wpList_load_mid rfl 119 _ rfl gb (n * 256) rfl (be x0) _ HR0.out Tryz.underlying119 rfl (by rw [be_length]; exact infoBlk) ?_)
    | (refine wpList_buildTo rfl 122 _ rfl _ rfl (we ⟨n, x0, default⟩).toArray (by simp only [List.map_toArray, List.map_cons, List.map_nil]; exact built_wr _ n rfl x0) ?_)
    | (refine wpList_store_row rfl 122 _ _ rfl w2.heap.size (we ⟨n, x0, default⟩).toArray rfl rfl 122 (we zi).toArray (Box.made w2 _ _) (by rw [we_size]; exact infoWr) (by rw [we_size, we_size]) (we_all _) ?_)
    | (refine wpList_copy_gen rfl _ _ rfl w2.heap.size 257 256 256 256 c A rfl rfl 122 (we ⟨n, x0, default⟩).toArray (setRow_heap _ w2.heap.size _ _ 122 _ (Box.made w2 _ _)) N x.1 (HX2.out.grown (g := w2.heap.size) (grown_row (World.grownBy_alloc w2 _ _) _) (fun e => hN _ e (hK _ hsz2))) (by rw [we_size]; omega) ?_; intro w6 hb6 hg6; rw [Nat.min_self, laidAt_wr] at hb6; have HW6 := Lib.hid (And.intro hb6 (grown_trans (grown_row (World.grownBy_alloc w2 _ _) _) hg6)); clear hb6 hg6))
  obtain ⟨hb6, hg6⟩ := HW6.out
  obtain ⟨hok, hd2, ht2⟩ := HD2.out
  have ht6 : Touch (fun k => k = w2.heap.size) w2 w6 := Touch.of_grown hg6 (fun k e => by injection e with e; exact e.symm)
  have hd6 : DevAt w6 K p gb (C, exr) (.slice Av D1.ws.length cv) D1 := by
    obtain ⟨h1, h2, h3, h4, h5, h6⟩ := hd2
    exact ⟨ht6.box h1 (by have := h1.lt; omega), ht6.box h2 (by have := h2.lt; omega), World.ownsRow.kept h3 hg6 (.inr (fun e => by have := (World.ownsRow.lt h3 _ e).2; omega)), h4, h5, h6⟩
  have c06 : w6.cell? ⟨p, 0, none⟩ = some (.slice (some ⟨gb, 0, none⟩) L C) := by rw [Box.cell hd6.1, ← hL]; rfl
  have hrb : w6.rangeAt w2.heap.size 257 (be x) := fun i u hu => by
    rw [Box.cell hb6]
    have hb := be_length x0
    simp only [we, List.getElem?_toArray, show 257 + i = (256 + i) + 1 by omega, List.getElem?_cons_succ]
    rw [List.getElem?_append_right (by omega), hb, Nat.add_sub_cancel_left]
    exact hu
  have HRB := Lib.hid hrb
  have hlt2 : w2.heap.size < w6.heap.size := hb6.lt
  have HD6 := Lib.hid (And.intro hb6 (And.intro hd6 (ht2.trans' ht6 (fun k e => .inr (by omega)))))
  clear HW6 hb6 hg6 hok hd2 ht2 ht6 hd6 hrb HX2 HR0 c0
  go_still_tail 8, (by kernel_rfl)
  repeat (first | (refine wpStill_load rfl 119 _ rfl w2.heap.size 257 rfl (be x) _ HRB.out Tryz.underlying119 rfl (by rw [be_length]; exact infoBlk) ?_) | still_step)
  refine wpStill_nil ?_
  change wpList _ _ _ _ _ w6.drew
  refine wpList_store_within rfl 119 _ _ rfl gb (n * 256) (be x).toArray rfl rfl 119 (fl be D1.bs ++ exr).toArray HD6.out.2.1.2.1 (by rw [be_size]; simp only [List.size_toArray, fl_length be_length, List.length_append, hL]; omega) (by rw [be_size]; exact infoBlk) (be_all x) ?_
  rw [be_size, fl_set_app be_length D1.bs exr n x (by omega)]
  obtain ⟨w7, hw7⟩ : ∃ w7, w6.drew.setRow gb (fl be (D1.bs.set n x) ++ exr).toArray = w7 := ⟨_, rfl⟩
  obtain ⟨hb6, hd6, ht6⟩ := HD6.out
  have hb7 : Box w7 w2.heap.size 122 (we ⟨n, x0, x⟩).toArray := by
    rw [← hw7]
    exact Box.grown (w := w6.drew) hb6 (grown_row (grown_refl w6.drew (some gb)) _) (fun e => Box.ne hb6 hd6.2.1 (by decide) (by injection e))
  have hd7 : DevAt w7 K p gb (C, exr) (.slice Av D1.ws.length cv) { D1 with bs := D1.bs.set n x } := by
    rw [← hw7]
    exact DevAt.put (w := w6.drew) hd6 n x
  have ht7 : Touch K w w7 := by
    rw [← hw7]
    exact Touch.row hd6.2.2.2.2.1 ht6.drew _
  have hs7 : w6.heap.size = w7.heap.size := by rw [← hw7, setRow_size]; rfl
  have HD7 := Lib.hid (And.intro hb7 (And.intro hd7 ht7))
  rw [hw7]
  clear hw7 hb6 hd6 ht6 hb7 hd7 ht7 HD6 HRB c06
  obtain ⟨wr, hwr⟩ : ∃ wr : Wr, wr = ⟨n, x0, x⟩ := ⟨_, rfl⟩
  rw [← hwr] at HD7
  obtain ⟨hb7, hd7, ht7⟩ := HD7.out
  obtain ⟨w8, hw8⟩ : ∃ w8, w7.drew.alloc (.cells (we wr).toArray 122) = w8 := ⟨_, rfl⟩
  have hB8 : Below w7.heap.size w7 w8 := by rw [← hw8]; exact (Below.refl _ w7).drew.alloc (Nat.le_refl _) _
  have hb8 : Box w8 w7.heap.size 122 (we wr).toArray := by rw [← hw8]; exact Box.made w7.drew _ _
  have hown8 : w8.ownsRow 0 122 513 (.slice Av D1.ws.length cv) D1.ws.length (fl we D1.ws) := World.ownsRow.kept hd7.2.2.1 (grown_of_below hB8 none) (by cases hv : (Value.slice Av D1.ws.length cv).ownBlock <;> simp)
  obtain ⟨v9, w9, hrun9, hown9, hg9, hfr9⟩ := appendWr_run w8 _ D1.ws wr w7.heap.size 109 hown8 hb8 hws
  obtain ⟨A9, c9, hv9⟩ : ∃ A c, v9 = .slice A (D1.ws ++ [wr]).length c := by
    rcases hown9.2 with ⟨_, hn⟩ | ⟨g, cap, cur, hv, _⟩
    · simp at hn
    · exact ⟨_, cap, hv⟩
  subst hv9
  obtain ⟨m9, hm9⟩ : ∃ m, (D1.ws ++ [wr]).length = m := ⟨_, rfl⟩
  rw [hm9] at hrun9 hown9 hfr9
  have hp8 := Box.below hd7.1 hB8 hd7.1.lt
  have hgb8 := Box.below hd7.2.1 hB8 hd7.2.1.lt
  have hp9 := Box.grown hp8 hg9 (Box.apart hp8 hown8 (by decide)).symm
  have hgb9 := Box.grown hgb8 hg9 (Box.apart hgb8 hown8 (by decide)).symm
  have c17 : w7.drew.cell? ⟨p, 1, none⟩ = some (.slice Av D1.ws.length cv) := (Box.cell hd7.1 1).trans rfl
  have c18 : w8.cell? ⟨p, 1, none⟩ = some (.slice Av D1.ws.length cv) := (Box.cell hp8 1).trans rfl
  have c19 : w9.cell? ⟨p, 1, none⟩ = some (.slice Av D1.ws.length cv) := (Box.cell hp9 1).trans rfl
  have f19 := Box.frozen hp9 1
  have S7 : w7.drew.rangeAt w2.heap.size 0 (we wr) := range_box hb7
  have hb7' := Box.below hb7 hB8 hb7.lt
  have S8 : w8.rangeAt w2.heap.size 0 (we wr) := range_box hb7'
  have hb9 : Box w9 w2.heap.size 122 (we wr).toArray := Box.grown hb7' hg9 (fun e => by have := HV2.out _ e.symm; omega)
  have S9 : w9.rangeAt w2.heap.size 0 (we wr) := range_box hb9
  have S10 : (w9.setCell ⟨p, 1, none⟩ (.slice A9 m9 c9)).rangeAt w2.heap.size 0 (we wr) := range_box (Box.grown hb9 (grown_set (grown_refl w9 (some p)) 1 _) (fun e => Box.ne hb9 hp9 (by decide) (by injection e)))
  have hfin : Dev (w9.setCell ⟨p, 1, none⟩ (.slice A9 m9 c9)) K p (D1.write n x) ∧ Touch K w (w9.setCell ⟨p, 1, none⟩ (.slice A9 m9 c9)) := by
    have hb := Box.put hp9 1 (.slice A9 m9 c9)
    have hg := grown_set (grown_refl w9 (some p)) 1 (.slice A9 m9 c9)
    have hwe : D1.write n x = { D1 with bs := D1.bs.set n x, ws := D1.ws ++ [wr] } := by rw [Dv.write, HX0.out.2, hwr]
    have hbl : (D1.bs.set n x).length = L := by rw [List.length_set, hL]
    have hwn : wr.n = n := by rw [hwr]
    have hown10 := World.ownsRow.kept hown9 hg (.inr (Box.apart hp9 hown9 (by decide)))
    have hwe2 : (D1.write n x).ws = D1.ws ++ [wr] := by rw [hwe]
    have hKv : ∀ k, (Value.slice A9 m9 c9).ownBlock = some k → K k := fun k e => (hfr9 k e).elim (hd7.2.2.2.2.2 k) (fun h => hK k (Nat.le_trans (Nat.le_trans ht7.size hB8.size) h))
    refine ⟨⟨?_, gb, (C, exr), _, ?_, ?_, by rw [hwe2, hm9]; exact hown10, hd7.2.2.2.1, hd7.2.2.2.2.1, hKv⟩, ?_⟩
    · have hok := HOK.out
      rw [hwe]
      refine ⟨by show 0 < (D1.bs.set n x).length; omega, by show (D1.bs.set n x).length ≤ 4096; have := hok.most; omega, fun y hy => ?_, by show (D1.ws ++ [wr]).length ≤ D1.ops; rw [List.length_append]; exact hcnt, hok.low, hok.high⟩
      show y.n < (D1.bs.set n x).length
      rcases List.mem_append.1 hy with h | h
      · have := hok.place y h
        omega
      · rw [List.mem_singleton] at h
        subst h
        omega
    · rw [hwe]
      simpa [dc, hbl] using hb
    · rw [hwe]
      exact Box.grown hgb9 hg (fun e => Box.ne hgb9 hp9 (by decide) (by injection e))
    · have t8 : Touch K w w8 := ht7.trans (Touch.of_below hB8)
      have t9 : Touch K w w9 := t8.trans (Touch.of_grown hg9 (fun k e => hd7.2.2.2.2.2 k e))
      exact Touch.set hd7.2.2.2.1 t9 _
  have HF := Lib.hid hfin
  have HRUN := Lib.hid hrun9
  have HW8 := Lib.hid hw8
  have HM := Lib.hid hm9
  generalize D1.ws.length = m7 at *
  clear hrun9 hm9 hfin hp8 hgb8 hp9 hgb9 hb7 hb7' hb9 hd7 ht7 hB8 hb8 hown8 hown9 hg9 hfr9 HD7 hw8 hwr HX0 HOK HV2
  go_upto_region 10 with fail
  refine wp_region_held_drew (S := fun w' => w'.rangeAt w2.heap.size 0 (we wr)) (by kernel_rfl) S7 (fun hHeld => ?_)
  refine take_run 0 44 (v := ?_) rfl rfl (by kernel_rfl) (by kernel_rfl) (by kernel_rfl) (fun _ _ _ h => h) (by rfl) ?_ (by assumption) ?_
  rotate_left
  · (intro wq hSw; obtain hS1 := hSw; go_simp; first | done | with_reducible rfl)
  simp only [Act.put, List.setIfInBounds_toArray, List.set_cons_zero, List.set_cons_succ]
  refine take_run 1 45 (v := ?_) rfl rfl (by kernel_rfl) (by kernel_rfl) (by kernel_rfl) (fun _ _ _ h => h) (by rfl) ?_ (by assumption) ?_
  rotate_left
  · (intro wq hSw; obtain hS1 := hSw; go_simp; first | done | with_reducible rfl)
  simp only [Act.put, List.setIfInBounds_toArray, List.set_cons_zero, List.set_cons_succ]
  refine take_run 2 46 (v := ?_) rfl rfl (by kernel_rfl) (by kernel_rfl) (by kernel_rfl) (fun _ _ _ h => h) (by rfl) ?_ (by assumption) ?_
  rotate_left
  · (intro wq hSw; obtain hS1 := hSw; go_simp; first | done | with_reducible rfl)
  simp only [Act.put, List.setIfInBounds_toArray, List.set_cons_zero, List.set_cons_succ]
  refine take_run 3 47 (v := ?_) rfl rfl (by kernel_rfl) (by kernel_rfl) (by kernel_rfl) (fun _ _ _ h => h) (by rfl) ?_ (by assumption) ?_
  rotate_left
  · (intro wq hSw; obtain hS1 := hSw; go_simp; first | done | with_reducible rfl)
  simp only [Act.put, List.setIfInBounds_toArray, List.set_cons_zero, List.set_cons_succ]
  refine take_load 5 49 122 _ w2.heap.size 0 (we wr) _ rfl rfl rfl (by kernel_rfl) (by kernel_rfl) (by kernel_rfl) (fun _ _ _ h => h) (by rfl) rfl (fun _ h => h) Tryz.underlying122 rfl (by rw [we_length]; exact infoWr) (by assumption) ?_
  simp only [Act.put, List.setIfInBounds_toArray, List.set_cons_zero, List.set_cons_succ]
  refine wpAnyH_ready (rs := [4, 6]) (by kernel_rfl) (by simp) ?_
  refine AllReadyH.cons rfl (fun K1 hK1 => ?_) (AllReadyH.cons rfl (fun K1 hK1 => ?_) AllReadyH.nil)
  · refine step_run (w' := w7.drew) 48 (.slice Av m7 cv) rfl rfl (by go_simp) ?_
    refine hK1.out _ _ S7 (fun hHeld => ?_)
    clear hK1 K1
    simp only [Act.put, List.setIfInBounds_toArray, List.set_cons_zero, List.set_cons_succ]
    refine wpAnyH_ready (rs := [6]) (by kernel_rfl) (by simp) ?_
    refine AllReadyH.cons rfl (fun K1 hK1 => ?_) AllReadyH.nil
    refine step_run (w' := w8) 50 (.slice (some ⟨w7.heap.size, 0, none⟩) 1 1) rfl rfl (by rw [← HW8.out]; exact exec_buildWr (x := wr) (q := .tmp 49) rfl rfl) ?_
    refine hK1.out _ _ S8 (fun hHeld => ?_)
    clear hK1 K1
    simp only [Act.put, List.setIfInBounds_toArray, List.set_cons_zero, List.set_cons_succ]
    refine wpAnyH_ready (rs := [7]) (by kernel_rfl) (by simp) ?_
    refine AllReadyH.cons rfl (fun K1 hK1 => ?_) AllReadyH.nil
    refine step_run (w' := w9) 51 (.slice A9 m9 c9) rfl rfl (exec_append (s := .tmp 48) (t := .tmp 50) (T := 109) rfl rfl rfl HRUN.out) ?_
    refine hK1.out _ _ S9 (fun hHeld => ?_)
    clear hK1 K1
    simp only [Act.put, List.setIfInBounds_toArray, List.set_cons_zero, List.set_cons_succ]
    refine take_run 8 52 (v := ?_) rfl rfl (by kernel_rfl) (by kernel_rfl) (by kernel_rfl) (fun _ _ _ h => h) (by rfl) ?_ (by assumption) ?_
    rotate_left
    · (intro wq hSw; obtain hS1 := hSw; go_simp; first | done | with_reducible rfl)
    simp only [Act.put, List.setIfInBounds_toArray, List.set_cons_zero, List.set_cons_succ]
    refine take_run 9 53 (v := ?_) rfl rfl (by kernel_rfl) (by kernel_rfl) (by kernel_rfl) (fun _ _ _ h => h) (by rfl) ?_ (by assumption) ?_
    rotate_left
    · (intro wq hSw; obtain hS1 := hSw; go_simp; first | done | with_reducible rfl)
    simp only [Act.put, List.setIfInBounds_toArray, List.set_cons_zero, List.set_cons_succ]
    refine wpAnyH_ready (rs := [10]) (by kernel_rfl) (by simp) ?_
    refine AllReadyH.cons rfl (fun K1 hK1 => ?_) AllReadyH.nil
    refine step_skip (w' := w9.setCell ⟨p, 1, none⟩ (.slice A9 m9 c9)) rfl rfl (exec_store (T := 109) (x := .tmp 53) (y := .tmp 51) (by kernel_rfl) rfl rfl rfl rfl rfl c19 f19) ?_
    refine hK1.out _ _ S10 (fun hHeld => ?_)
    clear hK1 K1
    clear hHeld S7 S8 S9 S10
    refine wpAnyH_done (by kernel_rfl) ?_ _
    go_wp2
    go_ret
    exact ⟨rfl, HF.out⟩
  · refine step_run (w' := w8) 50 (.slice (some ⟨w7.heap.size, 0, none⟩) 1 1) rfl rfl (by rw [← HW8.out]; exact exec_buildWr (x := wr) (q := .tmp 49) rfl rfl) ?_
    refine hK1.out _ _ S8 (fun hHeld => ?_)
    clear hK1 K1
    simp only [Act.put, List.setIfInBounds_toArray, List.set_cons_zero, List.set_cons_succ]
    refine wpAnyH_ready (rs := [4]) (by kernel_rfl) (by simp) ?_
    refine AllReadyH.cons rfl (fun K1 hK1 => ?_) AllReadyH.nil
    refine step_run (w' := w8) 48 (.slice Av m7 cv) rfl rfl (by go_simp) ?_
    refine hK1.out _ _ S8 (fun hHeld => ?_)
    clear hK1 K1
    simp only [Act.put, List.setIfInBounds_toArray, List.set_cons_zero, List.set_cons_succ]
    refine wpAnyH_ready (rs := [7]) (by kernel_rfl) (by simp) ?_
    refine AllReadyH.cons rfl (fun K1 hK1 => ?_) AllReadyH.nil
    refine step_run (w' := w9) 51 (.slice A9 m9 c9) rfl rfl (exec_append (s := .tmp 48) (t := .tmp 50) (T := 109) rfl rfl rfl HRUN.out) ?_
    refine hK1.out _ _ S9 (fun hHeld => ?_)
    clear hK1 K1
    simp only [Act.put, List.setIfInBounds_toArray, List.set_cons_zero, List.set_cons_succ]
    refine take_run 8 52 (v := ?_) rfl rfl (by kernel_rfl) (by kernel_rfl) (by kernel_rfl) (fun _ _ _ h => h) (by rfl) ?_ (by assumption) ?_
    rotate_left
    · (intro wq hSw; obtain hS1 := hSw; go_simp; first | done | with_reducible rfl)
    simp only [Act.put, List.setIfInBounds_toArray, List.set_cons_zero, List.set_cons_succ]
    refine take_run 9 53 (v := ?_) rfl rfl (by kernel_rfl) (by kernel_rfl) (by kernel_rfl) (fun _ _ _ h => h) (by rfl) ?_ (by assumption) ?_
    rotate_left
    · (intro wq hSw; obtain hS1 := hSw; go_simp; first | done | with_reducible rfl)
    simp only [Act.put, List.setIfInBounds_toArray, List.set_cons_zero, List.set_cons_succ]
    refine wpAnyH_ready (rs := [10]) (by kernel_rfl) (by simp) ?_
    refine AllReadyH.cons rfl (fun K1 hK1 => ?_) AllReadyH.nil
    refine step_skip (w' := w9.setCell ⟨p, 1, none⟩ (.slice A9 m9 c9)) rfl rfl (exec_store (T := 109) (x := .tmp 53) (y := .tmp 51) (by kernel_rfl) rfl rfl rfl rfl rfl c19 f19) ?_
    refine hK1.out _ _ S10 (fun hHeld => ?_)
    clear hK1 K1
    clear hHeld S7 S8 S9 S10
    refine wpAnyH_done (by kernel_rfl) ?_ _
    go_wp2
    go_ret
    exact ⟨rfl, HF.out⟩
end
end Go.Proofs.YtnhondkdkjehaaaGreat
