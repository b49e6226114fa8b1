/-
  The reference's New.
-/
import Derived.Test.YtemgphpgfdnkeaaRefStr
import Derived.Test.YtemgphpgfdnkeaaFill
namespace Go.Proofs.Ytemgphpgfdnkeaa
open Go.RowKit

set_option maxRecDepth 100000 in
set_option maxHeartbeats 1000000 in
theorem rnew_no (w : World) (n : Int) (h : n < 1 ∨ 4096 < n) : Calls Try.prog 7 #[.int .i64 n] w fun e w' => e = .returned (.tuple #[.agg #[.slice none 0 0, .slice none 0 0, .slice none 0 0, .int .i64 0, .bool false, .int .i64 0], .int .i64 2]) ∧ Below w.heap.size w w' := by
  obtain ⟨w1, hw1⟩ : ∃ x, w.alloc (.cells #[.slice none 0 0, .slice none 0 0, .slice none 0 0, .int .i64 0, .bool false, .int .i64 0] 30) = x := ⟨_, rfl⟩
  have hB1 : Below w.heap.size w w1 := by rw [← hw1]; exact (Below.refl _ w).alloc (Nat.le_refl _) _
  have hx1 := Box.made w 30 #[.slice none 0 0, .slice none 0 0, .slice none 0 0, .int .i64 0, .bool false, .int .i64 0]
  rw [hw1] at hx1
  obtain ⟨w2, hw2⟩ : ∃ x, w1.setRow w.heap.size #[.slice none 0 0, .slice none 0 0, .slice none 0 0, .int .i64 0, .bool false, .int .i64 0] = x := ⟨_, rfl⟩
  have hx2 : Box w2 w.heap.size 30 #[.slice none 0 0, .slice none 0 0, .slice none 0 0, .int .i64 0, .bool false, .int .i64 0] := by rw [← hw2]; exact setRow_heap _ _ _ _ _ _ hx1
  have hB2 : Below w.heap.size w w2 := hB1.trans (by rw [← hw2]; exact (Below.refl _ w1).grown (grown_row (grown_refl _ (some w.heap.size)) _) hB1.size (fun k e => by injection e with e; omega))
  have H1 := Lib.hid (And.intro hB1 hx1)
  have H2 := Lib.hid (And.intro hx2 hB2)
  have HW2 := Lib.hid hw2
  clear hB1 hx1 hx2 hB2 hw2
  go_enter Try.func7, Try.ntmps7
  have hgo : n < 1 ∨ (¬ n < 1 ∧ 4096 < n) := by omega
  clear h
  rcases hgo with l1 | ⟨l1, l2⟩
  · go_wp2_with (refine wpList_store_row rfl 30 _ _ rfl w.heap.size #[.slice none 0 0, .slice none 0 0, .slice none 0 0, .int .i64 0, .bool false, .int .i64 0] rfl rfl 30 _ H1.out.2 (by kernel_rfl) rfl (by simp [Value.oneCell']) ?_; rw [HW2.out])
    have r0 := fun i => Box.cell H2.out.1 i
    have q0 := r0 0
    have q1 := r0 1
    have q2 := r0 2
    have q3 := r0 3
    have q4 := r0 4
    have q5 := r0 5
    simp only [List.getElem?_toArray, List.getElem?_cons_zero, List.getElem?_cons_succ] at q0 q1 q2 q3 q4 q5
    exact bodyPost_ret (v := .tuple #[.agg #[.slice none 0 0, .slice none 0 0, .slice none 0 0, .int .i64 0, .bool false, .int .i64 0], .int .i64 2]) (by simp [results, Try.results7, go_sem, q0, q1, q2, q3, q4, q5]) rfl ⟨rfl, H2.out.2⟩
  · go_wp2_with (refine wpList_store_row rfl 30 _ _ rfl w.heap.size #[.slice none 0 0, .slice none 0 0, .slice none 0 0, .int .i64 0, .bool false, .int .i64 0] rfl rfl 30 _ H1.out.2 (by kernel_rfl) rfl (by simp [Value.oneCell']) ?_; rw [HW2.out])
    have r0 := fun i => Box.cell H2.out.1 i
    have q0 := r0 0
    have q1 := r0 1
    have q2 := r0 2
    have q3 := r0 3
    have q4 := r0 4
    have q5 := r0 5
    simp only [List.getElem?_toArray, List.getElem?_cons_zero, List.getElem?_cons_succ] at q0 q1 q2 q3 q4 q5
    exact bodyPost_ret (v := .tuple #[.agg #[.slice none 0 0, .slice none 0 0, .slice none 0 0, .int .i64 0, .bool false, .int .i64 0], .int .i64 2]) (by simp [results, Try.results7, go_sem, q0, q1, q2, q3, q4, q5]) rfl ⟨rfl, H2.out.2⟩

/-- Within New's loop. -/
structure NwI (w wr : World) (g5 : Nat) (S : ByteArray) (k : Nat) (A : Option Addr) (c : Nat) : Prop where
  x : Box wr g5 30 #[.slice A k c, .slice none 0 0, .slice none 0 0, .int .i64 (-1), .bool false, .int .i64 0]
  y : Box wr w.heap.size 30 #[.slice none 0 0, .slice none 0 0, .slice none 0 0, .int .i64 0, .bool false, .int .i64 0]
  bel : Below w.heap.size w wr
  own : wr.ownsRow w.heap.size 9 1 (.slice A k c) k (List.replicate k (.string S))
  lt : w.heap.size < g5
theorem NwI.step {w wr w5 : World} {g5 : Nat} {S : ByteArray} {k : Nat} {A A5 : Option Addr} {c d5 : Nat} (h : NwI w wr g5 S k A c) (hg : (wr.alloc (.cells #[.string S] 9)).grownBy w5 (Value.slice A k c).ownBlock) (ho : w5.ownsRow w.heap.size 9 1 (.slice A5 (k + 1) d5) (k + 1) (List.replicate k (.string S) ++ [.string S])) :
    NwI w (w5.setCell ⟨g5, 0, none⟩ (.slice A5 (k + 1) d5)) g5 S (k + 1) A5 d5 := by
  have o1 := h.own.alloc (.cells #[.string S] 9)
  have x5 := Box.grown (Box.alloc h.x (.cells #[.string S] 9)) hg (Box.apart (Box.alloc h.x _) o1 (by decide)).symm
  have y5 := Box.grown (Box.alloc h.y (.cells #[.string S] 9)) hg (Box.apart (Box.alloc h.y _) o1 (by decide)).symm
  have hB1 := h.bel.alloc h.bel.size (.cells #[.string S] 9)
  have hB5 := hB1.trans ((Below.refl _ _).grown hg hB1.size (fun k hk => (World.ownsRow.lt o1 k hk).1))
  have g6 : w5.grownBy (w5.setCell ⟨g5, 0, none⟩ (.slice A5 (k + 1) d5)) (some g5) := grown_set (grown_refl _ _) 0 _
  have hlt := h.lt
  have x6 := Box.put x5 0 (.slice A5 (k + 1) d5)
  simp only [List.setIfInBounds_toArray, List.set_cons_zero] at x6
  refine ⟨x6, Box.grown y5 g6 (fun e => by injection e; omega), hB5.trans ((Below.refl _ w5).grown g6 hB5.size (fun k e => by injection e with e; omega)), ?_, h.lt⟩
  rw [List.replicate_succ']
  exact World.ownsRow.kept ho g6 (.inr (Box.apart x5 ho (by decide)))
set_option maxRecDepth 100000 in
set_option maxHeartbeats 4000000 in
theorem rnew_yes (w : World) (n : Nat) (h1 : 1 ≤ n) (h2 : n ≤ 4096) : Calls Try.prog 7 #[.int .i64 (n : Int)] w fun e w' => ∃ B d, e = .returned (.tuple #[.agg #[.slice B n d, .slice none 0 0, .slice none 0 0, .int .i64 (-1), .bool false, .int .i64 0], .int .i64 0]) ∧ Rd w' (fun k => w.heap.size ≤ k) B n d (scs (List.replicate n default)) ∧ Below w.heap.size w w' := by
  have l1 : ¬ (n : Int) < 1 := by omega
  have l2 : ¬ 4096 < (n : Int) := by omega
  obtain ⟨i0, hi, hz0, hz1, hz2⟩ := info_parts Try.byteInfo
  obtain ⟨w1, hw1⟩ : ∃ x, w.alloc (.cells #[.slice none 0 0, .slice none 0 0, .slice none 0 0, .int .i64 0, .bool false, .int .i64 0] 30) = x := ⟨_, rfl⟩
  have hB1 : Below w.heap.size w w1 := by rw [← hw1]; exact (Below.refl _ w).alloc (Nat.le_refl _) _
  have hx1 := Box.made w 30 #[.slice none 0 0, .slice none 0 0, .slice none 0 0, .int .i64 0, .bool false, .int .i64 0]
  rw [hw1] at hx1
  have hs1 : w1.heap.size = w.heap.size + 1 := by rw [← hw1]; simp
  have H1 := Lib.hid (And.intro hB1 hx1)
  clear hB1 hx1
  go_enter Try.func7, Try.ntmps7
  go_upto_region 4 with (at_make; refine wpList_make_full w1 rfl _ _ 40 rfl w1.heap.size 5 i0 _ 1 Try.underlying40 hi hz0 hz1 _ _ _ _ 256 rfl rfl rfl rfl (by rw [hz2]; omega) (by unfold maxLen; omega) (Nat.le_refl _) ?_; intro w2 hown2 hg2; rw [zero_made] at hown2; have hcv := conv_lies (lies_box (N := fun _ => True) (box_own hown2) trivial List.length_replicate); rw [hs1] at hcv; generalize hS : (⟨(List.replicate 256 (0 : UInt8)).toArray⟩ : ByteArray) = S at hcv; have H2 := Lib.hid ((Below.refl w1.heap.size w1).grown hg2 (Nat.le_refl _) (fun k hk => by cases hk)); clear hown2 hg2)
  have HS := Lib.hid (show sc default = .string S by rw [← hS]; rfl)
  clear hS hcv
  have hx2 := Box.below H1.out.2 H2.out (by omega)
  have hB2 := H1.out.1.trans (H2.out.mono (by omega))
  obtain ⟨w3, hw3⟩ : ∃ x, w2.alloc (.cells #[.slice none 0 0, .slice none 0 0, .slice none 0 0, .int .i64 0, .bool false, .int .i64 0] 30) = x := ⟨_, rfl⟩
  have hy3 := Box.made w2 30 #[.slice none 0 0, .slice none 0 0, .slice none 0 0, .int .i64 0, .bool false, .int .i64 0]
  rw [hw3] at hy3
  have hx3 := Box.alloc hx2 (.cells #[.slice none 0 0, .slice none 0 0, .slice none 0 0, .int .i64 0, .bool false, .int .i64 0] 30)
  rw [hw3] at hx3
  have hB3 : Below w.heap.size w w3 := by rw [← hw3]; exact hB2.alloc hB2.size _
  have hlt : w.heap.size < w2.heap.size := hx2.lt
  obtain ⟨w4, hw4⟩ : ∃ x, w3.setRow w2.heap.size #[.slice none 0 0, .slice none 0 0, .slice none 0 0, .int .i64 (-1), .bool false, .int .i64 0] = x := ⟨_, rfl⟩
  have hy4 : Box w4 w2.heap.size 30 #[.slice none 0 0, .slice none 0 0, .slice none 0 0, .int .i64 (-1), .bool false, .int .i64 0] := by rw [← hw4]; exact setRow_heap _ _ _ _ _ _ hy3
  have hg4 : w3.grownBy w4 (some w2.heap.size) := by rw [← hw4]; exact grown_row (grown_refl _ _) _
  have hx4 := Box.grown hx3 hg4 (fun e => by injection e; omega)
  have hB4 := hB3.trans ((Below.refl _ w3).grown hg4 hB3.size (fun k e => by injection e with e; omega))
  have HI := Lib.hid (show NwI w w4 w2.heap.size S 0 none 0 from ⟨hy4, hx4, hB4, World.ownsRow_nil _ _ _ _, hlt⟩)
  have HY3 := Lib.hid hy3
  have HW4 := Lib.hid hw4
  clear hx2 hB2 hy3 hx3 hB3 hy4 hg4 hx4 hB4 hw4 H1 H2
  go_wp2_with (refine wpList_store_row rfl 30 _ _ rfl w2.heap.size #[.slice none 0 0, .slice none 0 0, .slice none 0 0, .int .i64 (-1), .bool false, .int .i64 0] rfl rfl 30 _ HY3.out (by kernel_rfl) rfl (by simp [Value.oneCell']) ?_; rw [HW4.out])
  go_loopw [6] (fun v wr => ∃ k : Nat, v = .int .i64 (k : Int) ∧ k ≤ n ∧ ∃ A c, Hid (NwI w wr w2.heap.size S k A c)) (fun v _ => n - (intOf v).toNat)
  case atStart => exact ⟨0, rfl, Nat.zero_le _, none, 0, HI⟩
  case round =>
    obtain ⟨k, rfl, hk, A, c, H⟩ := hrel
    by_cases hlt' : k < n
    · have l3 : (k : Int) < (n : Int) := by omega
      have c0 : wr.cell? ⟨w2.heap.size, 0, none⟩ = some (.slice A k c) := (Box.cell H.out.x 0).trans rfl
      go_wp2_with (at_builtin; refine wpList_app 27 9 _ 16 Try.underlying27 strInfo rfl (by omega) (wr.alloc (.cells #[.string S] 9)) _ _ rfl rfl w.heap.size _ k (List.replicate k (.string S)) (some ⟨wr.heap.size, 0, none⟩) 1 1 [.string S] rfl rfl (H.out.own.alloc _) (rd_one (Box.made wr _ _)) (fun u hu => by simp at hu; subst hu; rfl) (by omega) (by have := H.out.bel.size; simp; omega) ?_; intro v5 w5 ho5 hg5; obtain ⟨A5, d5, hv5, _⟩ := own_rd ho5; subst hv5; have hx5 := Box.grown (Box.alloc H.out.x (.cells #[.string S] 9)) hg5 (Box.apart (Box.alloc H.out.x (.cells #[.string S] 9)) (H.out.own.alloc (.cells #[.string S] 9)) (by decide)).symm; have m0 : w5.cell? ⟨w2.heap.size, 0, none⟩ = some (.slice A k c) := (Box.cell hx5 0).trans rfl; have m0f := Box.frozen hx5 0; have H5 := Lib.hid (And.intro hx5 (And.intro ho5 hg5)); clear hx5 ho5 hg5)
      refine ⟨⟨k + 1, by go_num, by omega, A5, d5, Lib.hid (H.out.step H5.out.2.2 H5.out.2.1)⟩, by simp [intOf]; omega⟩
    · obtain rfl : k = n := by omega
      obtain ⟨bx, by', bb, bo, blt⟩ := H.out
      obtain ⟨cs, hcs⟩ : ∃ cs : List Value, cs = [.slice A k c, .slice none 0 0, .slice none 0 0, .int .i64 (-1), .bool false, .int .i64 0] := ⟨_, rfl⟩
      have hX : Box wr w2.heap.size 30 cs.toArray := by rw [hcs]; exact bx
      have hcl : cs.length = 6 := by rw [hcs]; rfl
      have hc1 : cs.toArray.all (·.oneCell') = true := by rw [hcs]; simp [Value.oneCell']
      obtain ⟨wz, hwz⟩ : ∃ x, wr.setRow w.heap.size cs.toArray = x := ⟨_, rfl⟩
      have hYz : Box wz w.heap.size 30 cs.toArray := by rw [← hwz]; exact setRow_heap _ _ _ _ _ _ by'
      have hgz : wr.grownBy wz (some w.heap.size) := by rw [← hwz]; exact grown_row (grown_refl _ _) _
      have oz := World.ownsRow.kept bo hgz (.inr (Box.apart by' bo (by decide)))
      have Bz := bb.trans ((Below.refl _ wr).grown hgz bb.size (fun k e => by injection e with e; omega))
      have hr : Rd wz (fun k => w.heap.size ≤ k) A k c (scs (List.replicate k default)) := by
        obtain ⟨A', d', hv, hr⟩ := own_rd oz
        injection hv with e1 e2 e3
        subst e1 e3
        have : scs (List.replicate k default) = List.replicate k (.string S) := by rw [← HS.out]; simp [scs]
        rw [this]
        exact hr
      have HZ := Lib.hid (And.intro hX (And.intro by' (And.intro hwz (And.intro hYz (And.intro hcs (And.intro hr Bz))))))
      clear hX by' hwz hYz hcs hgz oz Bz hr bx bb bo blt H HI HY3 HW4
      go_wp2_with (first
        | (refine wpList_load_mid rfl 30 _ rfl w2.heap.size 0 rfl cs _ (range_box HZ.out.1) Try.underlying30 rfl (by rw [hcl]; kernel_rfl) ?_)
        | (refine wpList_store_row rfl 30 _ _ rfl w.heap.size cs.toArray rfl rfl 30 _ HZ.out.2.1 (by simp only [List.size_toArray, hcl]; kernel_rfl) (by simp [hcl]) hc1 ?_; rw [HZ.out.2.2.1]))
      obtain ⟨_, _, _, hYz, hcs, hr, Bz⟩ := HZ.out
      have r0 := fun i => Box.cell hYz i
      rw [hcs] at r0
      have q0 := r0 0
      have q1 := r0 1
      have q2 := r0 2
      have q3 := r0 3
      have q4 := r0 4
      have q5 := r0 5
      simp only [List.getElem?_toArray, List.getElem?_cons_zero, List.getElem?_cons_succ] at q0 q1 q2 q3 q4 q5
      exact bodyPost_ret (v := .tuple #[.agg #[.slice A k c, .slice none 0 0, .slice none 0 0, .int .i64 (-1), .bool false, .int .i64 0], .int .i64 0]) (by simp [results, Try.results7, go_sem, q0, q1, q2, q3, q4, q5]) rfl ⟨_, _, rfl, hr, Bz⟩
end Go.Proofs.Ytemgphpgfdnkeaa
