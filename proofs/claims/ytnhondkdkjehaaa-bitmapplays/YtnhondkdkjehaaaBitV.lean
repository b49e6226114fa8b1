/-
  With and Without of package bitmap.
-/
import Derived.Test.YtnhondkdkjehaaaBitW
namespace Go.Proofs.Ytnhondkdkjehaaa
open Go.RowKit

set_option linter.unusedVariables false
set_option linter.unusedSimpArgs false
theorem Own.frozen {w : World} {B : Nat} {v : Value} {l : List UInt8} (h : Own w B v l) {g c n : Nat} (hv : v = .slice (some ⟨g, 0, none⟩) n c) (i : Nat) : w.frozen? ⟨g, i, none⟩ = false := by
  obtain ⟨h1, h2 | ⟨g', cap, cur, h2, h3, h4, h5⟩⟩ := h
  · rw [hv] at h2
    cases h2.1
  · rw [hv] at h2
    injection h2 with e1 e2 e3
    injection e1 with e1
    injection e1 with e1
    subst e1
    exact Box.frozen (show Box w g 5 cur from h4) i
set_option maxRecDepth 100000 in
set_option maxHeartbeats 8000000 in
theorem bwith_says (w : World) (B n : Nat) (x : Value) (l : List UInt8) (h : Own w B x l) (hB : B ≤ w.heap.size) (hl : n ≤ 8 * l.length) (hn : n ≤ 4096) (h1 : l.length ≤ 600) (f m : Int) (hf : -9223372036854775808 ≤ f ∧ f ≤ 9223372036854775807) (hm : -9223372036854775808 ≤ m ∧ m ≤ 9223372036854775807) : Calls Try.prog 12 #[.agg #[.int .i64 (n : Int), x], .int .i64 f, .int .i64 m] w fun e w' => ∃ v', e = .returned (.agg #[.int .i64 (n : Int), v']) ∧ Own w' w.heap.size v' (withA n l f m) ∧ Below w.heap.size w w' := by
  obtain ⟨w1, hw1⟩ : ∃ y, w.alloc (.cells #[.int .i64 (n : Int), x] 25) = y := ⟨_, rfl⟩
  have hx1 : Box w1 w.heap.size 25 #[.int .i64 (n : Int), x] := by rw [← hw1]; exact Box.made w _ _
  have hB1 : Below w.heap.size w w1 := by rw [← hw1]; exact (Below.refl _ w).alloc (Nat.le_refl _) _
  obtain ⟨w2, hw2⟩ : ∃ y, w1.alloc (.cells #[.int .i64 0, .slice none 0 0] 25) = y := ⟨_, rfl⟩
  have hB2 : Below w1.heap.size w1 w2 := by rw [← hw2]; exact (Below.refl _ w1).alloc (Nat.le_refl _) _
  have hr2 : Box w2 w1.heap.size 25 #[.int .i64 0, .slice none 0 0] := by rw [← hw2]; exact Box.made w1 _ _
  have hx2 := hx1.below hB2 hx1.lt
  have d0 : w2.cell? ⟨w.heap.size, 0, none⟩ = some (.int .i64 (n : Int)) := (Box.cell hx2 0).trans rfl
  have d1 : w2.cell? ⟨w.heap.size, 1, none⟩ = some x := (Box.cell hx2 1).trans rfl
  have hb2 : Below w.heap.size w w2 := hB1.trans (hB2.mono hB1.size)
  have HX := Lib.hid (And.intro hr2 (And.intro hx2 (And.intro ((h.below hB1).below hB2) hb2)))
  have hlt : w.heap.size < w1.heap.size := hx1.lt
  have hlt2 : w1.heap.size < w2.heap.size := hr2.lt
  have HC := Lib.hid (bcopied_says w2 B n x l HX.out.2.2.1 (Nat.le_trans hB HX.out.2.2.2.size) (by omega))
  clear h hx1 hB1 hB2 hr2 hx2 hb2
  obtain ⟨lo, hlo⟩ : ∃ a, runA n f m = a := ⟨_, rfl⟩
  obtain ⟨hi, hhi⟩ : ∃ a, runZ n f m = a := ⟨_, rfl⟩
  have HW := Lib.hid (fun W => within_says W n x hn f m hf hm)
  rw [hlo, hhi] at HW
  have g1 := runA_nonneg n f m
  have g2 := runZ_le n f m
  rw [hlo] at g1
  rw [hhi] at g2
  obtain ⟨a, ha⟩ : ∃ a : Nat, lo = (a : Int) := ⟨lo.toNat, by omega⟩
  subst ha
  obtain ⟨J, hJ⟩ : ∃ J : Nat, (hi - (a : Int)).toNat = J := ⟨_, rfl⟩
  have hres : withA n l f m = withL l a J := by rw [withA, hlo, hhi, hJ]; simp
  rw [hres]
  have g3 : J = 0 ∨ hi = (a : Int) + (J : Int) := by omega
  have g4 : J = 0 → hi ≤ (a : Int) := by omega
  clear hres hlo hhi hJ
  go_enter Try.func12, Try.ntmps12
  go_upto_region 2 with (first
    | (go_at_call 20; refine HC.out.mono ?_; rintro e w3 ⟨v', rfl, ho3, hb3⟩; obtain ⟨A', c', hv', hlies3⟩ := ho3.lies; clear hlies3; subst hv'
       obtain ⟨w4, hw4⟩ : ∃ y, w3.alloc (.cells #[.int .i64 0, .slice none 0 0] 25) = y := ⟨_, rfl⟩
       have hs4 : Box w4 w3.heap.size 25 #[.int .i64 0, .slice none 0 0] := by rw [← hw4]; exact Box.made w3 _ _
       have hB4 : Below w3.heap.size w3 w4 := by rw [← hw4]; exact (Below.refl _ w3).alloc (Nat.le_refl _) _
       have hb24 : Below w2.heap.size w2 w4 := hb3.trans (hB4.mono hb3.size)
       have hlt3 : w2.heap.size ≤ w3.heap.size := hb3.size
       have H4 := Lib.hid (And.intro hs4 (And.intro (ho3.below hB4) (And.intro hb24 (And.intro (HX.out.1.below hb24 HX.out.1.lt) (HX.out.2.1.below hb24 HX.out.2.1.lt)))))
       clear hs4 hB4 hb24 ho3 hb3)
    | (refine wpList_store_row rfl 25 _ _ rfl w3.heap.size #[.int .i64 (n : Int), .slice A' l.length c'] rfl rfl 25 _ H4.out.1 bitsInfo rfl (by simp [Value.oneCell']) ?_))
  obtain ⟨w5, hw5⟩ : ∃ y, w4.setRow w3.heap.size #[.int .i64 (n : Int), .slice A' l.length c'] = y := ⟨_, rfl⟩
  obtain ⟨q1, q2, q3, q4, q5⟩ := H4.out
  have hg5 : w4.grownBy w5 (some w3.heap.size) := by rw [← hw5]; exact grown_row (grown_refl _ _) _
  have hs5 : Box w5 w3.heap.size 25 #[.int .i64 (n : Int), .slice A' l.length c'] := by rw [← hw5]; exact setRow_heap _ _ _ _ _ _ q1
  have hr5 := Box.grown q4 hg5 (by simp only [Option.some.injEq, ne_eq]; omega)
  have hx5 := Box.grown q5 hg5 (by simp only [Option.some.injEq, ne_eq]; omega)
  have ho5 := q2.grown hg5 (Box.apart q1 q2 (by decide))
  have hb5 : Below w.heap.size w w5 := HX.out.2.2.2.trans ((below_grown q3 hg5 hlt3 q3.size).mono HX.out.2.2.2.size)
  have H5 := Lib.hid (SB.mk hr5 hs5 (ho5.base HX.out.2.2.2.size) hb5 (by omega))
  have d5 : w5.cell? ⟨w.heap.size, 0, none⟩ = some (.int .i64 (n : Int)) := (Box.cell hx5 0).trans rfl
  have d6 : w5.cell? ⟨w.heap.size, 1, none⟩ = some x := (Box.cell hx5 1).trans rfl
  rw [hw5]
  clear q1 q2 q3 q4 q5 hg5 hs5 hr5 hx5 ho5 hb5 H4 hw5 HC HX d0 d1 hw4
  go_wp2_with (go_at_call 21; refine (HW.out _).mono ?_; rintro e w6 ⟨rfl, hb6⟩; have H6 := Lib.hid (H5.out.below hb6); clear hb6)
  clear HW d5 d6 H5
  go_loopw [10] (fun i wr => ∃ j : Nat, j ≤ J ∧ i = .int .i64 ((a + j : Nat) : Int) ∧ Hid (SB w wr w1.heap.size w3.heap.size n (.slice A' l.length c') (withL l a j))) (fun i _ => a + J - (intOf i).toNat)
  case atStart => exact ⟨0, by omega, rfl, H6⟩
  case round =>
    clear H6
    obtain ⟨j, hj, rfl, H⟩ := hrel
    by_cases hlt : j < J
    · have e1 : ((a + j : Nat) : Int) < hi := by omega
      obtain ⟨m', hm'⟩ : ∃ m', a + j = m' := ⟨_, rfl⟩
      rw [hm'] at e1 ⊢
      obtain ⟨k8, hk8⟩ : ∃ q, m' / 8 = q := ⟨_, rfl⟩
      have hlen : (withL l a j).length = l.length := withL_length _ _ _
      have hk : k8 < l.length := by omega
      obtain ⟨g, c, he, _, hg, hc⟩ := H.out.own.byte (i := k8) (by omega)
      injection he with he1 he2 he3
      subst he1 he3
      clear he2
      obtain ⟨z, hz⟩ : ∃ z, (withL l a j).getD k8 0 = z := ⟨_, rfl⟩
      rw [hz] at hc
      have HN := Lib.hid (show withL l a (j + 1) = (withL l a j).set k8 (z ||| bitU m') by rw [withL, setB, hm', hk8, hz])
      have hs1 : wr.drew.cell? ⟨w3.heap.size, 1, none⟩ = some (.slice (some ⟨g, 0, none⟩) l.length c') := (Box.cell (show Box wr.drew _ _ _ from H.out.bits) 1).trans rfl
      have hcc : wr.drew.cell? ⟨g, k8, none⟩ = some (.int .u8 (z.toNat : Int)) := hc
      have hfz : wr.drew.frozen? ⟨g, k8, none⟩ = false := Own.frozen H.out.own rfl _
      have e8 : IntKind.i64.wrap ((m' : Int) / 8) = (m' : Int) / 8 := IntWalk.i64_in _ (by omega)
      have i0 : 0 ≤ (m' : Int) / 8 := by omega
      have i1 : (m' : Int) / 8 < (l.length : Int) := by omega
      have i2 : ((m' : Int) / 8).toNat = k8 := by omega
      have HBIT := Lib.hid (bits_or z (bitU m'))
      have HP := Lib.hid (fun u => H.out.drew.put rfl (by rw [hlen]; exact hk) u)
      clear hz hc hg hlen
      go_upto_region 6 with fail
      go_still_tail 10, (by kernel_rfl)
      still_call (bit_says wr.drew m' (by omega))
      repeat still_step
      refine wpStill_nil ?_
      change wpList _ _ _ _ _ wr.drew
      go_wp2_with fail
      go_roundw
      case rel => exact ⟨j + 1, by omega, congrArg (Value.int .i64) (by omega), Lib.hid (by
        have q := HP.out (z ||| bitU m')
        rw [← HN.out, ← HBIT.out] at q
        exact q)⟩
      case measure => simp [intOf]; omega
    · obtain rfl : j = J := by omega
      have e1 : ¬ ((a + j : Nat) : Int) < hi := by omega
      have hm4 := H.out.bits
      have s0 := (Box.cell hm4 0).trans rfl
      have s1 := (Box.cell hm4 1).trans rfl
      obtain ⟨m', hm'⟩ : ∃ m', a + j = m' := ⟨_, rfl⟩
      rw [hm'] at e1 ⊢
      clear hm4
      go_wp2_with (refine wpList_store_row rfl 25 _ _ rfl w1.heap.size #[.int .i64 (n : Int), .slice A' l.length c'] rfl rfl 25 _ H.out.res bitsInfo rfl (by simp [Value.oneCell']) ?_)
      obtain ⟨w7, hw7⟩ : ∃ y, wr.setRow w1.heap.size #[.int .i64 (n : Int), .slice A' l.length c'] = y := ⟨_, rfl⟩
      have hm7 : Box w7 w1.heap.size 25 #[.int .i64 (n : Int), .slice A' l.length c'] := by rw [← hw7]; exact setRow_heap _ _ _ _ _ _ H.out.res
      have hg7 : wr.grownBy w7 (some w1.heap.size) := by rw [← hw7]; exact grown_row (grown_refl _ _) _
      have ho7 := H.out.own.grown hg7 (Box.apart H.out.res H.out.own (by decide))
      have hb7 : Below w.heap.size w w7 := below_grown H.out.bel hg7 (by omega) H.out.bel.size
      have c0 := (Box.cell hm7 0).trans rfl
      have c1 := (Box.cell hm7 1).trans rfl
      rw [hw7]
      exact bodyPost_ret (v := .agg #[.int .i64 (n : Int), .slice A' l.length c']) (by simp [results, Try.results12, go_sem, Act.put, c0, c1]) rfl ⟨_, rfl, ho7, hb7⟩
set_option maxRecDepth 100000 in
set_option maxHeartbeats 8000000 in
theorem bwout_says (w : World) (B n : Nat) (x : Value) (l : List UInt8) (h : Own w B x l) (hB : B ≤ w.heap.size) (hl : n ≤ 8 * l.length) (hn : n ≤ 4096) (h1 : l.length ≤ 600) (f m : Int) (hf : -9223372036854775808 ≤ f ∧ f ≤ 9223372036854775807) (hm : -9223372036854775808 ≤ m ∧ m ≤ 9223372036854775807) : Calls Try.prog 13 #[.agg #[.int .i64 (n : Int), x], .int .i64 f, .int .i64 m] w fun e w' => ∃ v', e = .returned (.agg #[.int .i64 (n : Int), v']) ∧ Own w' w.heap.size v' (woutA n l f m) ∧ Below w.heap.size w w' := by
  obtain ⟨w1, hw1⟩ : ∃ y, w.alloc (.cells #[.int .i64 (n : Int), x] 25) = y := ⟨_, rfl⟩
  have hx1 : Box w1 w.heap.size 25 #[.int .i64 (n : Int), x] := by rw [← hw1]; exact Box.made w _ _
  have hB1 : Below w.heap.size w w1 := by rw [← hw1]; exact (Below.refl _ w).alloc (Nat.le_refl _) _
  obtain ⟨w2, hw2⟩ : ∃ y, w1.alloc (.cells #[.int .i64 0, .slice none 0 0] 25) = y := ⟨_, rfl⟩
  have hB2 : Below w1.heap.size w1 w2 := by rw [← hw2]; exact (Below.refl _ w1).alloc (Nat.le_refl _) _
  have hr2 : Box w2 w1.heap.size 25 #[.int .i64 0, .slice none 0 0] := by rw [← hw2]; exact Box.made w1 _ _
  have hx2 := hx1.below hB2 hx1.lt
  have d0 : w2.cell? ⟨w.heap.size, 0, none⟩ = some (.int .i64 (n : Int)) := (Box.cell hx2 0).trans rfl
  have d1 : w2.cell? ⟨w.heap.size, 1, none⟩ = some x := (Box.cell hx2 1).trans rfl
  have hb2 : Below w.heap.size w w2 := hB1.trans (hB2.mono hB1.size)
  have HX := Lib.hid (And.intro hr2 (And.intro hx2 (And.intro ((h.below hB1).below hB2) hb2)))
  have hlt : w.heap.size < w1.heap.size := hx1.lt
  have hlt2 : w1.heap.size < w2.heap.size := hr2.lt
  have HC := Lib.hid (bcopied_says w2 B n x l HX.out.2.2.1 (Nat.le_trans hB HX.out.2.2.2.size) (by omega))
  clear h hx1 hB1 hB2 hr2 hx2 hb2
  obtain ⟨lo, hlo⟩ : ∃ a, runA n f m = a := ⟨_, rfl⟩
  obtain ⟨hi, hhi⟩ : ∃ a, runZ n f m = a := ⟨_, rfl⟩
  have HW := Lib.hid (fun W => within_says W n x hn f m hf hm)
  rw [hlo, hhi] at HW
  have g1 := runA_nonneg n f m
  have g2 := runZ_le n f m
  rw [hlo] at g1
  rw [hhi] at g2
  obtain ⟨a, ha⟩ : ∃ a : Nat, lo = (a : Int) := ⟨lo.toNat, by omega⟩
  subst ha
  obtain ⟨J, hJ⟩ : ∃ J : Nat, (hi - (a : Int)).toNat = J := ⟨_, rfl⟩
  have hres : woutA n l f m = woutL l a J := by rw [woutA, hlo, hhi, hJ]; simp
  rw [hres]
  have g3 : J = 0 ∨ hi = (a : Int) + (J : Int) := by omega
  have g4 : J = 0 → hi ≤ (a : Int) := by omega
  clear hres hlo hhi hJ
  go_enter Try.func13, Try.ntmps13
  go_upto_region 2 with (first
    | (go_at_call 20; refine HC.out.mono ?_; rintro e w3 ⟨v', rfl, ho3, hb3⟩; obtain ⟨A', c', hv', hlies3⟩ := ho3.lies; clear hlies3; subst hv'
       obtain ⟨w4, hw4⟩ : ∃ y, w3.alloc (.cells #[.int .i64 0, .slice none 0 0] 25) = y := ⟨_, rfl⟩
       have hs4 : Box w4 w3.heap.size 25 #[.int .i64 0, .slice none 0 0] := by rw [← hw4]; exact Box.made w3 _ _
       have hB4 : Below w3.heap.size w3 w4 := by rw [← hw4]; exact (Below.refl _ w3).alloc (Nat.le_refl _) _
       have hb24 : Below w2.heap.size w2 w4 := hb3.trans (hB4.mono hb3.size)
       have hlt3 : w2.heap.size ≤ w3.heap.size := hb3.size
       have H4 := Lib.hid (And.intro hs4 (And.intro (ho3.below hB4) (And.intro hb24 (And.intro (HX.out.1.below hb24 HX.out.1.lt) (HX.out.2.1.below hb24 HX.out.2.1.lt)))))
       clear hs4 hB4 hb24 ho3 hb3)
    | (refine wpList_store_row rfl 25 _ _ rfl w3.heap.size #[.int .i64 (n : Int), .slice A' l.length c'] rfl rfl 25 _ H4.out.1 bitsInfo rfl (by simp [Value.oneCell']) ?_))
  obtain ⟨w5, hw5⟩ : ∃ y, w4.setRow w3.heap.size #[.int .i64 (n : Int), .slice A' l.length c'] = y := ⟨_, rfl⟩
  obtain ⟨q1, q2, q3, q4, q5⟩ := H4.out
  have hg5 : w4.grownBy w5 (some w3.heap.size) := by rw [← hw5]; exact grown_row (grown_refl _ _) _
  have hs5 : Box w5 w3.heap.size 25 #[.int .i64 (n : Int), .slice A' l.length c'] := by rw [← hw5]; exact setRow_heap _ _ _ _ _ _ q1
  have hr5 := Box.grown q4 hg5 (by simp only [Option.some.injEq, ne_eq]; omega)
  have hx5 := Box.grown q5 hg5 (by simp only [Option.some.injEq, ne_eq]; omega)
  have ho5 := q2.grown hg5 (Box.apart q1 q2 (by decide))
  have hb5 : Below w.heap.size w w5 := HX.out.2.2.2.trans ((below_grown q3 hg5 hlt3 q3.size).mono HX.out.2.2.2.size)
  have H5 := Lib.hid (SB.mk hr5 hs5 (ho5.base HX.out.2.2.2.size) hb5 (by omega))
  have d5 : w5.cell? ⟨w.heap.size, 0, none⟩ = some (.int .i64 (n : Int)) := (Box.cell hx5 0).trans rfl
  have d6 : w5.cell? ⟨w.heap.size, 1, none⟩ = some x := (Box.cell hx5 1).trans rfl
  rw [hw5]
  clear q1 q2 q3 q4 q5 hg5 hs5 hr5 hx5 ho5 hb5 H4 hw5 HC HX d0 d1 hw4
  go_wp2_with (go_at_call 21; refine (HW.out _).mono ?_; rintro e w6 ⟨rfl, hb6⟩; have H6 := Lib.hid (H5.out.below hb6); clear hb6)
  clear HW d5 d6 H5
  go_loopw [10] (fun i wr => ∃ j : Nat, j ≤ J ∧ i = .int .i64 ((a + j : Nat) : Int) ∧ Hid (SB w wr w1.heap.size w3.heap.size n (.slice A' l.length c') (woutL l a j))) (fun i _ => a + J - (intOf i).toNat)
  case atStart => exact ⟨0, by omega, rfl, H6⟩
  case round =>
    clear H6
    obtain ⟨j, hj, rfl, H⟩ := hrel
    by_cases hlt : j < J
    · have e1 : ((a + j : Nat) : Int) < hi := by omega
      obtain ⟨m', hm'⟩ : ∃ m', a + j = m' := ⟨_, rfl⟩
      rw [hm'] at e1 ⊢
      obtain ⟨k8, hk8⟩ : ∃ q, m' / 8 = q := ⟨_, rfl⟩
      have hlen : (woutL l a j).length = l.length := woutL_length _ _ _
      have hk : k8 < l.length := by omega
      obtain ⟨g, c, he, _, hg, hc⟩ := H.out.own.byte (i := k8) (by omega)
      injection he with he1 he2 he3
      subst he1 he3
      clear he2
      obtain ⟨z, hz⟩ : ∃ z, (woutL l a j).getD k8 0 = z := ⟨_, rfl⟩
      rw [hz] at hc
      have HN := Lib.hid (show woutL l a (j + 1) = (woutL l a j).set k8 (z &&& ~~~ bitU m') by rw [woutL, clrB, hm', hk8, hz])
      have hs1 : wr.drew.cell? ⟨w3.heap.size, 1, none⟩ = some (.slice (some ⟨g, 0, none⟩) l.length c') := (Box.cell (show Box wr.drew _ _ _ from H.out.bits) 1).trans rfl
      have hcc : wr.drew.cell? ⟨g, k8, none⟩ = some (.int .u8 (z.toNat : Int)) := hc
      have hfz : wr.drew.frozen? ⟨g, k8, none⟩ = false := Own.frozen H.out.own rfl _
      have e8 : IntKind.i64.wrap ((m' : Int) / 8) = (m' : Int) / 8 := IntWalk.i64_in _ (by omega)
      have i0 : 0 ≤ (m' : Int) / 8 := by omega
      have i1 : (m' : Int) / 8 < (l.length : Int) := by omega
      have i2 : ((m' : Int) / 8).toNat = k8 := by omega
      have HBIT := Lib.hid (bits_clr z (bitU m'))
      have HP := Lib.hid (fun u => H.out.drew.put rfl (by rw [hlen]; exact hk) u)
      clear hz hc hg hlen
      go_upto_region 6 with fail
      go_still_tail 10, (by kernel_rfl)
      still_call (bit_says wr.drew m' (by omega))
      repeat still_step
      refine wpStill_nil ?_
      change wpList _ _ _ _ _ wr.drew
      go_wp2_with fail
      go_roundw
      case rel => exact ⟨j + 1, by omega, congrArg (Value.int .i64) (by omega), Lib.hid (by
        have q := HP.out (z &&& ~~~ bitU m')
        rw [← HN.out, ← HBIT.out] at q
        exact q)⟩
      case measure => simp [intOf]; omega
    · obtain rfl : j = J := by omega
      have e1 : ¬ ((a + j : Nat) : Int) < hi := by omega
      have hm4 := H.out.bits
      have s0 := (Box.cell hm4 0).trans rfl
      have s1 := (Box.cell hm4 1).trans rfl
      obtain ⟨m', hm'⟩ : ∃ m', a + j = m' := ⟨_, rfl⟩
      rw [hm'] at e1 ⊢
      clear hm4
      go_wp2_with (refine wpList_store_row rfl 25 _ _ rfl w1.heap.size #[.int .i64 (n : Int), .slice A' l.length c'] rfl rfl 25 _ H.out.res bitsInfo rfl (by simp [Value.oneCell']) ?_)
      obtain ⟨w7, hw7⟩ : ∃ y, wr.setRow w1.heap.size #[.int .i64 (n : Int), .slice A' l.length c'] = y := ⟨_, rfl⟩
      have hm7 : Box w7 w1.heap.size 25 #[.int .i64 (n : Int), .slice A' l.length c'] := by rw [← hw7]; exact setRow_heap _ _ _ _ _ _ H.out.res
      have hg7 : wr.grownBy w7 (some w1.heap.size) := by rw [← hw7]; exact grown_row (grown_refl _ _) _
      have ho7 := H.out.own.grown hg7 (Box.apart H.out.res H.out.own (by decide))
      have hb7 : Below w.heap.size w w7 := below_grown H.out.bel hg7 (by omega) H.out.bel.size
      have c0 := (Box.cell hm7 0).trans rfl
      have c1 := (Box.cell hm7 1).trans rfl
      rw [hw7]
      exact bodyPost_ret (v := .agg #[.int .i64 (n : Int), .slice A' l.length c']) (by simp [results, Try.results13, go_sem, Act.put, c0, c1]) rfl ⟨_, rfl, ho7, hb7⟩
end Go.Proofs.Ytnhondkdkjehaaa
