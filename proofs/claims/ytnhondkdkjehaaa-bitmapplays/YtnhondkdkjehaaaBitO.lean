/-
  Of of package bitmap.
-/
import Derived.Test.YtnhondkdkjehaaaBitV
namespace Go.Proofs.Ytnhondkdkjehaaa
open Go.RowKit

set_option linter.unusedVariables false
set_option linter.unusedSimpArgs false
theorem own_copied {w w' : World} {B g L : Nat} {cur : Array Value} {l0 b : List UInt8} (h : Own w B (.slice (some ⟨g, 0, none⟩) L L) l0) (hL : l0.length = L) (hc : Box w g 5 cur) (hb : Box w' g 5 (laidAt cur b 0 (min b.length L))) : Own w' B (.slice (some ⟨g, 0, none⟩) L L) (b.take L ++ l0.drop b.length) := by
  obtain ⟨h1, h2 | ⟨g', cap, cur', h2, h3, h4, h5, h6, h7, h8⟩⟩ := h
  · cases h2.1
  · injection h2 with e1 e2 e3
    injection e1 with e1
    injection e1 with e1
    subst e1
    have : cur' = cur := by
      unfold Box at hc
      rw [hc] at h4
      injection h4 with h4
      injection h4 with h4
      exact h4.symm
    subst this
    have hcl : cur'.toList.length = L := by rw [Array.length_toList]; omega
    have h8' : cur'.toList = bc l0 := by rw [← h8, Nat.mul_one, List.take_of_length_le (by omega)]
    have hlen : (b.take L ++ l0.drop b.length).length = L := by simp only [List.length_append, List.length_take, List.length_drop]; omega
    have hla : laidAt cur' b 0 (min b.length L) = (bc (b.take L ++ l0.drop b.length)).toArray := by
      simp only [laidAt, h8', List.take_zero, List.nil_append, bc_append, bc_drop, Nat.zero_add]
      rcases Nat.le_total b.length L with q | q
      · rw [Nat.min_eq_left q, List.take_of_length_le (Nat.le_refl _), List.take_of_length_le q]
      · rw [Nat.min_eq_right q, List.drop_of_length_le (show l0.length ≤ L by omega), List.drop_of_length_le (show l0.length ≤ b.length by omega)]
    rw [hla] at hb
    refine ⟨by rw [bc_length, Nat.mul_one], .inr ⟨g, L, (bc (b.take L ++ l0.drop b.length)).toArray, by rw [hlen], h3, hb, by omega, by omega, ?_, ?_⟩⟩
    · rw [List.size_toArray, bc_length, hlen, Nat.mul_one]
    · rw [hlen, Nat.mul_one, List.take_of_length_le (by rw [bc_length, hlen]; exact Nat.le_refl _)]
theorem bits_mask (n : Nat) : IntKind.u8.wrap (((bitU n).toNat : Int) - 1) = (((bitU n) - 1).toNat : Int) := by
  have h : ∀ a : Fin 8, IntKind.u8.wrap (((UInt8.ofNat (2 ^ a.val)).toNat : Int) - 1) = ((UInt8.ofNat (2 ^ a.val) - 1).toNat : Int) := by decide
  exact h ⟨n % 8, Nat.mod_lt _ (by decide)⟩
set_option maxRecDepth 100000 in
set_option maxHeartbeats 8000000 in
theorem bof_says (w : World) (A : Option Addr) (nb c : Nat) (b : List UInt8) (hb : Lies w (fun _ => True) A nb c (bc b)) (k : Int) (hk : -9223372036854775808 ≤ k ∧ k ≤ 9223372036854775807) : Calls Try.prog 5 #[.slice A nb c, .int .i64 k] w fun e w' => ∃ v', e = .returned (.agg #[.int .i64 (howMany k : Int), v']) ∧ Own w' w.heap.size v' (ofL b (howMany k)) ∧ Below w.heap.size w w' := by
  obtain ⟨w1, hw1⟩ : ∃ y, w.alloc (.cells #[.int .i64 0, .slice none 0 0] 25) = y := ⟨_, rfl⟩
  have hr1 : Box w1 w.heap.size 25 #[.int .i64 0, .slice none 0 0] := by rw [← hw1]; exact Box.made w _ _
  have hB1 : Below w.heap.size w w1 := by rw [← hw1]; exact (Below.refl _ w).alloc (Nat.le_refl _) _
  have HC := Lib.hid (new_says w1 k hk)
  obtain ⟨n, hn⟩ : ∃ n, howMany k = n := ⟨_, rfl⟩
  have hn2 : n ≤ 4096 := by rw [← hn]; exact howMany_le k
  have hnb : b.length = nb := by rw [← bc_length]; exact hb.1
  obtain ⟨L, hL⟩ : ∃ L, (n + 7) / 8 = L := ⟨_, rfl⟩
  rw [hn, hL] at HC
  rw [hn]
  have HX := Lib.hid (And.intro hr1 (And.intro hB1 (hb.below hB1)))
  clear hr1 hB1 hb hn
  go_enter Try.func5, Try.ntmps5
  go_upto_region 2 with (first
    | (go_at_call 7; refine HC.out.mono ?_; rintro e w3 ⟨g, rfl, ho3, hb3⟩
       obtain ⟨w4, hw4⟩ : ∃ y, w3.alloc (.cells #[.int .i64 0, .slice none 0 0] 25) = y := ⟨_, rfl⟩
       have hs4 : Box w4 w3.heap.size 25 #[.int .i64 0, .slice none 0 0] := by rw [← hw4]; exact Box.made w3 _ _
       have hB4 : Below w3.heap.size w3 w4 := by rw [← hw4]; exact (Below.refl _ w3).alloc (Nat.le_refl _) _
       have hb14 : Below w1.heap.size w1 w4 := hb3.trans (hB4.mono hb3.size)
       have hlt3 : w1.heap.size ≤ w3.heap.size := hb3.size
       have H4 := Lib.hid (And.intro hs4 (And.intro (ho3.below hB4) (And.intro hb14 (And.intro (HX.out.1.below hb14 HX.out.1.lt) (HX.out.2.2.below hb14)))))
       clear hs4 hB4 hb14 ho3 hb3)
    | (refine wpList_store_row rfl 25 _ _ rfl w3.heap.size #[.int .i64 (n : Int), .slice (some ⟨g, 0, none⟩) L L] rfl rfl 25 _ H4.out.1 bitsInfo rfl (by simp [Value.oneCell']) ?_))
  obtain ⟨w5, hw5⟩ : ∃ y, w4.setRow w3.heap.size #[.int .i64 (n : Int), .slice (some ⟨g, 0, none⟩) L L] = y := ⟨_, rfl⟩
  obtain ⟨q1, q2, q3, q4, q5⟩ := H4.out
  have hlt1 : w.heap.size < w1.heap.size := HX.out.1.lt
  have hg5 : w4.grownBy w5 (some w3.heap.size) := by rw [← hw5]; exact grown_row (grown_refl _ _) _
  have hs5 : Box w5 w3.heap.size 25 #[.int .i64 (n : Int), .slice (some ⟨g, 0, none⟩) L L] := by rw [← hw5]; exact setRow_heap _ _ _ _ _ _ q1
  have hr5 := Box.grown q4 hg5 (by simp only [Option.some.injEq, ne_eq]; omega)
  have ho5 := q2.grown hg5 (Box.apart q1 q2 (by decide))
  have hb5 : Below w.heap.size w w5 := HX.out.2.1.trans ((below_grown q3 hg5 hlt3 q3.size).mono HX.out.2.1.size)
  have hl5 : Lies w5 (fun _ => True) A nb c (bc b) := by
    have hb45 : Below w1.heap.size w1 w5 := below_grown q3 hg5 hlt3 q3.size
    exact HX.out.2.2.below hb45
  have H5 := Lib.hid (And.intro (SB.mk hr5 hs5 (ho5.base HX.out.2.1.size) hb5 (Nat.le_refl _)) hl5)
  have d1 : w5.cell? ⟨w3.heap.size, 1, none⟩ = some (.slice (some ⟨g, 0, none⟩) L L) := (Box.cell hs5 1).trans rfl
  have d0 : w5.cell? ⟨w3.heap.size, 0, none⟩ = some (.int .i64 (n : Int)) := (Box.cell hs5 0).trans rfl
  obtain ⟨cur, hcur⟩ : ∃ cur, Box w5 g 5 cur ∧ cur.size = L := by
    rcases ho5.2 with ⟨h, _⟩ | ⟨g', cap, cur, h2, h3, h4, h5, h6, h7, h8⟩
    · cases h
    · injection h2 with e1 e2 e3
      injection e1 with e1
      injection e1 with e1
      subst e1 e3
      exact ⟨cur, h4, by rw [h7, Nat.mul_one]⟩
  have HCU := Lib.hid hcur
  rw [hw5]
  clear q1 q2 q3 q4 q5 hg5 hs5 hr5 ho5 hb5 hl5 H4 hw5 HC hcur hw4
  go_upto_region 3 with (refine wpList_copy_gen rfl _ _ rfl g 0 L L nb c A rfl rfl 5 cur HCU.out.1 (fun _ => True) b H5.out.2 (by rw [HCU.out.2]; omega) ?_; intro w6 hb6 hg6)
  have ho6 := own_copied H5.out.1.own (by simp) HCU.out.1 (by rw [hnb]; exact hb6)
  rw [List.drop_replicate, show b.take L ++ List.replicate (L - b.length) 0 = ofT b n by rw [ofT, hL]] at ho6
  have hn5 := Box.apart H5.out.1.res H5.out.1.own (by decide)
  have hn6 := Box.apart H5.out.1.bits H5.out.1.own (by decide)
  have hbg : w.heap.size ≤ g := (World.ownsRow.lt H5.out.1.own g rfl).1
  have H6 := Lib.hid (SB.mk (n := n) (x := .slice (some ⟨g, 0, none⟩) L L) (H5.out.1.res.grown hg6 (fun e => hn5 e.symm)) (H5.out.1.bits.grown hg6 (fun e => hn6 e.symm)) ho6 (below_grown H5.out.1.bel hg6 hbg H5.out.1.bel.size) (Nat.le_refl _))
  clear ho6 hn5 hn6 hb6 hg6 H5 HCU d0 d1
  have d0 : w6.cell? ⟨w3.heap.size, 0, none⟩ = some (.int .i64 (n : Int)) := (Box.cell H6.out.bits 0).trans rfl
  by_cases h8 : n % 8 = 0
  · have e8 : (n : Int) % 8 = 0 := by omega
    have d1 : w6.cell? ⟨w3.heap.size, 1, none⟩ = some (.slice (some ⟨g, 0, none⟩) L L) := (Box.cell H6.out.bits 1).trans rfl
    have hfin : ofL b n = ofT b n := by rw [ofL, if_pos h8]
    go_wp2_with (refine wpList_store_row rfl 25 _ _ rfl w.heap.size #[.int .i64 (n : Int), .slice (some ⟨g, 0, none⟩) L L] rfl rfl 25 _ H6.out.res bitsInfo rfl (by simp [Value.oneCell']) ?_)
    obtain ⟨w7, hw7⟩ : ∃ y, w6.setRow w.heap.size #[.int .i64 (n : Int), .slice (some ⟨g, 0, none⟩) L L] = y := ⟨_, rfl⟩
    have hm7 : Box w7 w.heap.size 25 #[.int .i64 (n : Int), .slice (some ⟨g, 0, none⟩) L L] := by rw [← hw7]; exact setRow_heap _ _ _ _ _ _ H6.out.res
    have hg7 : w6.grownBy w7 (some w.heap.size) := by rw [← hw7]; exact grown_row (grown_refl _ _) _
    have ho7 := H6.out.own.grown hg7 (Box.apart H6.out.res H6.out.own (by decide))
    have hb7 : Below w.heap.size w w7 := below_grown H6.out.bel hg7 (Nat.le_refl _) H6.out.bel.size
    have c0 := (Box.cell hm7 0).trans rfl
    have c1 := (Box.cell hm7 1).trans rfl
    rw [hw7]
    exact bodyPost_ret (v := .agg #[.int .i64 (n : Int), .slice (some ⟨g, 0, none⟩) L L]) (by simp [results, Try.results5, go_sem, Act.put, c0, c1]) rfl ⟨_, rfl, by rw [hfin]; exact ho7, hb7⟩
  · have e8 : ¬ (n : Int) % 8 = 0 := by omega
    obtain ⟨M, rfl⟩ : ∃ M, L = M + 1 := ⟨L - 1, by omega⟩
    have hlen := ofT_length b n
    rw [hL] at hlen
    obtain ⟨z, hz⟩ : ∃ z, (ofT b n).getD (M) 0 = z := ⟨_, rfl⟩
    have HFIN := Lib.hid (show ofL b n = (ofT b n).set (M) (z &&& (bitU n - 1)) by rw [ofL, if_neg h8, hL, Nat.add_sub_cancel, hz])
    obtain ⟨g', c', he, _, hg, hc⟩ := H6.out.own.byte (i := M) (by omega)
    rw [hz] at hc
    injection he with he1 he2 he3
    injection he1 with he1
    injection he1 with he1
    subst he1
    have hs1 : w6.drew.cell? ⟨w3.heap.size, 1, none⟩ = some (.slice (some ⟨g, 0, none⟩) (M + 1) (M + 1)) := (Box.cell (show Box w6.drew _ _ _ from H6.out.bits) 1).trans rfl
    have hs0 : w6.drew.cell? ⟨w3.heap.size, 0, none⟩ = some (.int .i64 (n : Int)) := (Box.cell (show Box w6.drew _ _ _ from H6.out.bits) 0).trans rfl
    have hcc : w6.drew.cell? ⟨g, M, none⟩ = some (.int .u8 (z.toNat : Int)) := hc
    have hfz : w6.drew.frozen? ⟨g, M, none⟩ = false := Own.frozen H6.out.own rfl _
    have HBIT := Lib.hid (bits_and z (bitU n - 1))
    have HMK := bits_mask n
    have HP := Lib.hid (fun u => H6.out.drew.put (i := M) rfl (by omega) u)
    have e10 : (M : Int) < (M : Int) + 1 := by omega
    have e9 : IntKind.i64.wrap (M : Int) = (M : Int) := IntWalk.i64_in _ (by omega)
    clear hz hc hg he2 he3 hlen
    go_upto_region 4 with fail
    go_still_tail 14, (by kernel_rfl)
    still_call (bit_says w6.drew n (by omega))
    repeat still_step
    refine wpStill_nil ?_
    change wpList _ _ _ _ _ w6.drew
    go_upto_region 5 with fail
    have H7 := HP.out (z &&& (bitU n - 1))
    rw [← HBIT.out, ← HFIN.out] at H7
    refine (show ∀ W, SB w W w.heap.size w3.heap.size n (.slice (some ⟨g, 0, none⟩) (M + 1) (M + 1)) (ofL b n) → Code.wp Try.prog _ _ _ W from fun W HW' => ?_) _ H7
    have HW := Lib.hid HW'
    clear HW' H7 HP HBIT HFIN H6 hs0 hs1 hcc hfz d0
    have d0 : W.cell? ⟨w3.heap.size, 0, none⟩ = some (.int .i64 (n : Int)) := (Box.cell HW.out.bits 0).trans rfl
    have d1 : W.cell? ⟨w3.heap.size, 1, none⟩ = some (.slice (some ⟨g, 0, none⟩) (M + 1) (M + 1)) := (Box.cell HW.out.bits 1).trans rfl
    go_wp2_with (refine wpList_store_row rfl 25 _ _ rfl w.heap.size #[.int .i64 (n : Int), .slice (some ⟨g, 0, none⟩) (M + 1) (M + 1)] rfl rfl 25 _ HW.out.res bitsInfo rfl (by simp [Value.oneCell']) ?_)
    obtain ⟨w7, hw7⟩ : ∃ y, W.setRow w.heap.size #[.int .i64 (n : Int), .slice (some ⟨g, 0, none⟩) (M + 1) (M + 1)] = y := ⟨_, rfl⟩
    have hm7 : Box w7 w.heap.size 25 #[.int .i64 (n : Int), .slice (some ⟨g, 0, none⟩) (M + 1) (M + 1)] := by rw [← hw7]; exact setRow_heap _ _ _ _ _ _ HW.out.res
    have hg7 : W.grownBy w7 (some w.heap.size) := by rw [← hw7]; exact grown_row (grown_refl _ _) _
    have ho7 := HW.out.own.grown hg7 (Box.apart HW.out.res HW.out.own (by decide))
    have hb7 : Below w.heap.size w w7 := below_grown HW.out.bel hg7 (Nat.le_refl _) HW.out.bel.size
    have c0 := (Box.cell hm7 0).trans rfl
    have c1 := (Box.cell hm7 1).trans rfl
    rw [hw7]
    exact bodyPost_ret (v := .agg #[.int .i64 (n : Int), .slice (some ⟨g, 0, none⟩) (M + 1) (M + 1)]) (by simp [results, Try.results5, go_sem, Act.put, c0, c1]) rfl ⟨_, rfl, ho7, hb7⟩
end Go.Proofs.Ytnhondkdkjehaaa
