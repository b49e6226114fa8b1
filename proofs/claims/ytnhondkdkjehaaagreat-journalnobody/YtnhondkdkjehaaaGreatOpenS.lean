/-
  mark.Open.
-/
import Derived.Test.YtnhondkdkjehaaaGreatEqMk
import Derived.Test.YtnhondkdkjehaaaGreatSlA
namespace Go.Proofs.YtnhondkdkjehaaaGreat
open Go.RowKit

theorem laidAt_all (cur : List UInt8) (xs : List UInt8) (k : Nat) (h : cur.length = k) : laidAt (bc cur).toArray xs 0 k = (bc (xs.take k)).toArray := by
  unfold laidAt
  rw [List.take_zero, List.nil_append, Nat.zero_add, List.drop_eq_nil_of_le (by rw [bc_length, h]; exact Nat.le_refl _), List.append_nil]
theorem mv_zero : (#[.int .u8 0, .int .u64 0, .int .u64 0] : Array Value) = mv Mk.zero := rfl
set_option maxRecDepth 100000 in
set_option maxHeartbeats 2000000 in
theorem open_arg (w : World) (A : Option Addr) (n c : Nat) (hn : n ≠ 256) :
    Calls Tryz.prog 113 #[.slice A n c] w fun e w' => e = .returned (.tuple #[.agg (mv Mk.zero), .slice none 0 0, .int .i64 2]) ∧ Below w.heap.size w w' := by
  have l1 : ((n : Int) != 256) = true := by
    rw [bne_iff_ne]
    omega
  obtain ⟨w1, hw1⟩ : ∃ w1, w.alloc (.cells #[.int .u8 0, .int .u64 0, .int .u64 0] 126) = w1 := ⟨_, rfl⟩
  have hb1 : Below w.heap.size w w1 := by rw [← hw1]; exact (Below.refl _ w).alloc (Nat.le_refl _) _
  have hm1 : Box w1 w.heap.size 126 (mv Mk.zero) := by rw [← hw1]; exact Box.made w _ _
  obtain ⟨w2, hw2⟩ : ∃ w2, w1.setRow w.heap.size (mv Mk.zero) = w2 := ⟨_, rfl⟩
  have hm2 : Box w2 w.heap.size 126 (mv Mk.zero) := by rw [← hw2]; exact setRow_heap _ _ _ _ _ _ hm1
  have hb2 : Below w.heap.size w w2 := hb1.trans (by rw [← hw2]; exact (Below.refl _ w1).grown (grown_row (grown_refl _ (some w.heap.size)) _) hb1.size (fun k e => by injection e with e; omega))
  have e0 : w2.cell? ⟨w.heap.size, 0, none⟩ = some (.int .u8 0) := (Box.cell hm2 0).trans rfl
  have e1 : w2.cell? ⟨w.heap.size, 1, none⟩ = some (.int .u64 0) := (Box.cell hm2 1).trans rfl
  have e2 : w2.cell? ⟨w.heap.size, 2, none⟩ = some (.int .u64 0) := (Box.cell hm2 2).trans rfl
  have HM := Lib.hid hm1
  have HW := Lib.hid hw2
  have HB := Lib.hid hb2
  clear hb1 hm1 hw2 hm2 hb2
  go_enter Tryz.func113, Tryz.ntmps113
  go_wp2_with (refine wpList_store_row rfl 126 _ _ rfl w.heap.size (mv Mk.zero) rfl rfl 126 _ HM.out (by rw [mv_size]; exact mkInfo) rfl (mv_one _) ?_; rw [HW.out])
  exact bodyPost_ret (v := .tuple #[.agg (mv Mk.zero), .slice none 0 0, .int .i64 2]) (by simp [results, Tryz.results113, go_sem, e0, e1, e2, mv, Mk.zero]) rfl ⟨rfl, HB.out⟩
/-- Behind the first mark that was read: its box, the result's box, the block. -/
structure OpI (w w4 : World) (g5 b o c : Nat) (l : List UInt8) : Prop where
  bel : Below w.heap.size w w4
  res : Box w4 w.heap.size 126 (mv Mk.zero)
  one : Box w4 g5 126 (mv (markAt l))
  lies : Lies w4 (fun k => k < w.heap.size) (some ⟨b, o, none⟩) 256 c (bc l)
  ne : w.heap.size < g5
theorem OpI.below {w w4 w' : World} {g5 b o c : Nat} {l : List UInt8} (h : OpI w w4 g5 b o c l) (hb : Below w4.heap.size w4 w') : OpI w w' g5 b o c l :=
  ⟨h.bel.trans (hb.mono h.bel.size), Box.below h.res hb h.res.lt, Box.below h.one hb h.one.lt, h.lies.below hb, h.ne⟩
/-- What opening tells. -/
def OpenSays (w : World) (l : List UInt8) (e : Ending) (w' : World) : Prop :=
  (opens l = none → e = .returned (.tuple #[.agg (mv Mk.zero), .slice none 0 0, .int .i64 11])) ∧
  (∀ m b, opens l = some (m, b) → ∃ g, e = .returned (.tuple #[.agg (mv m), .slice (some ⟨g, 0, none⟩) b.length b.length, .int .i64 0]) ∧ w.heap.size ≤ g ∧ Box w' g 5 (bc b).toArray) ∧ Below w.heap.size w w'
set_option maxRecDepth 100000 in
set_option maxHeartbeats 8000000 in
theorem open_says (w : World) (A : Option Addr) (c : Nat) (l : List UInt8) (hl : Lies w (fun _ => True) A 256 c (bc l)) :
    Calls Tryz.prog 113 #[.slice A 256 c] w (OpenSays w l) := by
  have hll : l.length = 256 := by rw [← bc_length]; exact hl.len
  have hc := hl.le
  obtain ⟨i0, hi, hz0, hz1, hz2⟩ := info_parts Tryz.byteInfo
  obtain ⟨⟨b, o, sp⟩, rfl, hx1, hx2, hx3⟩ := hl.2.2 (by omega)
  clear hx1 hx2 hx3
  obtain ⟨b', o', hA, hy1, hy2, hy3⟩ := hl.at (j := 0) (u := .int .u8 ((l.headD 0).toNat : Int)) (by match l, hll with | k :: r, _ => rfl)
  injection hA with hA
  injection hA with hA1 hA2 hA3
  subst hA1 hA2 hA3
  clear hy1 hy2 hy3
  have hL := hl.weak (N' := fun k => k < w.heap.size) (fun b h _ => h)
  obtain ⟨w1, hw1⟩ : ∃ w1, w.alloc (.cells #[.int .u8 0, .int .u64 0, .int .u64 0] 126) = w1 := ⟨_, rfl⟩
  have hb1 : Below w.heap.size w w1 := by rw [← hw1]; exact (Below.refl _ w).alloc (Nat.le_refl _) _
  have hm1 : Box w1 w.heap.size 126 (mv Mk.zero) := by rw [← hw1]; exact Box.made w _ _
  have H1 := Lib.hid (And.intro hb1 (And.intro hm1 (hL.below hb1)))
  have HLL := Lib.hid hll
  clear hb1 hm1 hl hL hll
  go_enter Tryz.func113, Tryz.ntmps113
  go_wp2_with fail
  refine (markOf_says w1 _ b o 256 c l H1.out.2.2 (by omega)).mono ?_
  rintro e w2 ⟨rfl, hb2⟩
  obtain ⟨w3, hw3⟩ : ∃ x, w2.alloc (.cells #[.int .u8 0, .int .u64 0, .int .u64 0] 126) = x := ⟨_, rfl⟩
  have hb3 : Below w2.heap.size w2 w3 := by rw [← hw3]; exact (Below.refl _ w2).alloc (Nat.le_refl _) _
  have hm3 : Box w3 w2.heap.size 126 (mv Mk.zero) := by rw [← hw3]; exact Box.made w2 _ _
  obtain ⟨w4, hw4⟩ : ∃ x, w3.setRow w2.heap.size (mv (markAt l)) = x := ⟨_, rfl⟩
  have hm4 : Box w4 w2.heap.size 126 (mv (markAt l)) := by rw [← hw4]; exact setRow_heap _ _ _ _ _ _ hm3
  have hb4 : Below w2.heap.size w2 w4 := hb3.trans (by rw [← hw4]; exact (Below.refl _ w3).grown (grown_row (grown_refl _ (some w2.heap.size)) _) hb3.size (fun k e => by injection e with e; omega))
  have hbz := hb2.trans (hb4.mono hb2.size)
  have hI : OpI w w4 w2.heap.size b o c l := ⟨H1.out.1.trans (hbz.mono H1.out.1.size), Box.below H1.out.2.1 hbz H1.out.2.1.lt, hm4, H1.out.2.2.below hbz, Nat.lt_of_lt_of_le H1.out.2.1.lt hb2.size⟩
  have HI := Lib.hid hI
  have HM3 := Lib.hid hm3
  have HW4 := Lib.hid hw4
  clear hb2 hb3 hm3 hw4 hm4 hb4 hbz hI H1 hw1
  generalize hg5 : w2.heap.size = g5 at *
  go_upto_region 4 with (refine wpList_store_row rfl 126 _ _ rfl g5 (mv (markAt l)) rfl rfl 126 _ HM3.out (by rw [mv_size]; exact mkInfo) rfl (mv_one _) ?_; rw [HW4.out])
  clear HM3 HW4 hw3 hg5
  try simp only [Act.put]
  go_cut [23] (fun v wx => Hid (v = .bool (!twin l) ∧ Below w4.heap.size w4 wx))
  case first =>
    have hlz : Lies w4 (fun k => k < w.heap.size) (some ⟨b, o + 239, none⟩) 17 (c - 239) (bc (l.drop 239)) := by
      have := HI.out.lies.from 239 (by omega)
      rw [cutA, if_neg (by omega), bc_drop] at this
      simpa [Addr.add_mid] using this
    have s1 : ∀ W, (Instr.sliceAt 49 (.slice (some ⟨b, o, none⟩) 256 c) (some (.int .i64 239)) none none).run Tryz.prog W = .ok (.slice (some ⟨b, o + 239, none⟩) 17 (c - 239)) W := fun W => by have := cut_from b o 256 c 239 (by omega) (by omega) W; simpa using this
    have HM := Lib.hid (show ∀ p : Grows w4, Calls Tryz.prog 135 #[.slice (some ⟨b, o + 239, none⟩) 17 (c - 239)] p.val fun e w'' => e = .returned (.agg (mv (markAt (l.drop 239)))) ∧ ∃ p' : Grows w4, w'' = p'.val from fun p => Calls.grows (markOf_says p.val _ b (o + 239) 17 (c - 239) (l.drop 239) (hlz.below p.prop) (by omega)))
    have HY := Lib.hid (show ∀ p : Grows w4, Calls Tryz.prog 93 #[.agg (mv (markAt l))] p.val fun e w'' => e = .returned (.bool (markAt l).may) ∧ ∃ p' : Grows w4, w'' = p'.val from fun p => Calls.grows (mayBe_says p.val (markAt l)))
    have HRG := Lib.hid (range_grows (mk_range HI.out.one) HI.out.one.lt)
    clear hlz
    by_cases hE : markAt l = markAt (l.drop 239)
    · have HE := Lib.hid hE
      clear hE
      refine wp_region_grows (by kernel_rfl) (by kernel_rfl) ?_
      iterate 10 (first
        | (refine wpQuiet_load_yes (by go_simp; done) 126 (.tmp 5) rfl g5 0 rfl (mvl (markAt l)) _ HRG.out Tryz.underlying126 rfl (by kernel_rfl) ?_; simp only [Act.put, List.setIfInBounds_toArray, List.set_cons_zero, List.set_cons_succ])
        | (refine wpQuiet_neq_mk (by go_simp; done) (.tmp 14) (.tmp 17) rfl (markAt l) (markAt (l.drop 239)) false (by rw [HE.out]; simp) rfl rfl ?_; simp only [Act.put, List.setIfInBounds_toArray, List.set_cons_zero, List.set_cons_succ])
        | quiet_step (first | (go_at_call 135; exact HM.out _) | (go_at_call 93; exact HY.out _)))
      refine wpQuiet_nil ?_
      rintro wx ⟨⟨_, hwx⟩, rfl⟩
      go_wp2
      go_meet
      exact Lib.hid ⟨by rw [twin, HE.out]; simp, hwx⟩
    · have HE := Lib.hid hE
      clear hE
      refine wp_region_grows (by kernel_rfl) (by kernel_rfl) ?_
      iterate 6 (first
        | (refine wpQuiet_load_yes (by go_simp; done) 126 (.tmp 5) rfl g5 0 rfl (mvl (markAt l)) _ HRG.out Tryz.underlying126 rfl (by kernel_rfl) ?_; simp only [Act.put, List.setIfInBounds_toArray, List.set_cons_zero, List.set_cons_succ])
        | (refine wpQuiet_neq_mk (by go_simp; done) (.tmp 14) (.tmp 17) rfl (markAt l) (markAt (l.drop 239)) true (by simp [HE.out]) rfl rfl ?_; simp only [Act.put, List.setIfInBounds_toArray, List.set_cons_zero, List.set_cons_succ])
        | quiet_step (first | (go_at_call 135; exact HM.out _) | (go_at_call 93; exact HY.out _)))
      iterate 3 (with_reducible refine wpQuiet_no ?_ ?_; (· first | (go_simp; done) | (go_simp; simp [undef]; done)); simp only [Act.put, List.setIfInBounds_toArray, List.set_cons_zero, List.set_cons_succ])
      quiet_step (fail)
      refine wpQuiet_nil ?_
      rintro wx ⟨⟨_, hwx⟩, rfl⟩
      go_wp2
      go_meet
      exact Lib.hid ⟨by rw [twin]; simp [HE.out], hwx⟩
  case rest =>
    obtain ⟨rfl, hwc⟩ := hcut.out
    have HI5 := Lib.hid (HI.out.below hwc)
    clear hwc HI
    cases ht : twin l with
    | false =>
      have HN := Lib.hid (show opens l = none by rw [opens, if_neg (by rw [ht]; simp)])
      clear ht
      have hz := HI5.out.res
      obtain ⟨w9, hw9⟩ : ∃ x, wc.setRow w.heap.size (mv Mk.zero) = x := ⟨_, rfl⟩
      have hm9 : Box w9 w.heap.size 126 (mv Mk.zero) := by rw [← hw9]; exact setRow_heap _ _ _ _ _ _ hz
      have hb9 : Below w.heap.size w w9 := HI5.out.bel.trans (by rw [← hw9]; exact (Below.refl _ wc).grown (grown_row (grown_refl _ (some w.heap.size)) _) HI5.out.bel.size (fun k e => by injection e with e; omega))
      have e0 : w9.cell? ⟨w.heap.size, 0, none⟩ = some (.int .u8 0) := (Box.cell hm9 0).trans rfl
      have e1 : w9.cell? ⟨w.heap.size, 1, none⟩ = some (.int .u64 0) := (Box.cell hm9 1).trans rfl
      have e2 : w9.cell? ⟨w.heap.size, 2, none⟩ = some (.int .u64 0) := (Box.cell hm9 2).trans rfl
      have HW9 := Lib.hid hw9
      have HB9 := Lib.hid hb9
      clear hm9 hw9 hb9 hz
      go_wp2_with (first
        | (refine wpList_store_row rfl 126 _ _ rfl w.heap.size (mv Mk.zero) rfl rfl 126 _ HI5.out.res (by rw [mv_size]; exact mkInfo) rfl (mv_one _) ?_; rw [HW9.out]))
      exact bodyPost_ret (v := .tuple #[.agg (mv Mk.zero), .slice none 0 0, .int .i64 11]) (by simp [results, Tryz.results113, go_sem, e0, e1, e2, mv, Mk.zero]) rfl ⟨fun _ => rfl, fun m b h => (by rw [HN.out] at h; cases h), HB9.out⟩
    | true =>
      obtain ⟨k, hk⟩ : ∃ k, longOf l = k := ⟨_, rfl⟩
      have HT := Lib.hid ht
      have HK := Lib.hid hk
      have hk6 : k < 65536 := by
        rw [← hk, longOf]
        have := beVal_lt ((l.drop 17).take 2)
        have h2 : ((l.drop 17).take 2).length = 2 := by rw [List.length_take, List.length_drop, HLL.out]; omega
        rw [h2] at this
        omega
      have s2 : ∀ W, (Instr.sliceAt 49 (.slice (some ⟨b, o, none⟩) 256 c) (some (.int .i64 17)) (some (.int .i64 19)) none).run Tryz.prog W = .ok (.slice (some ⟨b, o + 17, none⟩) 2 (c - 17)) W := fun W => by have := cut_part b o 256 c 17 19 (by omega) (by omega) (by omega) W; simpa using this
      have hN : Calls Tryz.prog 136 #[.slice (some ⟨b, o + 17, none⟩) 2 (c - 17)] wc fun e w' => e = .returned (.int .u64 (k : Int)) ∧ w' = wc := by
        have h1 := (HI5.out.lies.from 17 (by omega)).first (m := 2) (by omega)
        rw [cutA, if_neg (by omega), bc_drop, bc_take] at h1
        have h2 := number_says wc _ _ 2 (c - 17) _ h1 (by omega)
        rw [show beVal ((l.drop 17).take 2) = k from hk] at h2
        simpa [Addr.add_mid] using h2
      have HN6 := Lib.hid hN
      clear ht hk hN
      go_wp2_with fail
      refine HN6.out.mono ?_
      rintro e wn ⟨rfl, hwn⟩
      obtain rfl : wc = wn := hwn.symm
      clear hwn HN6
      by_cases hbig : 220 < k
      · have g1 : 220 < (k : Int) := by omega
        have HN := Lib.hid (show opens l = none by rw [opens, if_neg (by rw [HK.out]; omega)])
        have hz := HI5.out.res
        obtain ⟨w9, hw9⟩ : ∃ x, wc.setRow w.heap.size (mv Mk.zero) = x := ⟨_, rfl⟩
        have hm9 : Box w9 w.heap.size 126 (mv Mk.zero) := by rw [← hw9]; exact setRow_heap _ _ _ _ _ _ hz
        have hb9 : Below w.heap.size w w9 := HI5.out.bel.trans (by rw [← hw9]; exact (Below.refl _ wc).grown (grown_row (grown_refl _ (some w.heap.size)) _) HI5.out.bel.size (fun k e => by injection e with e; omega))
        have e0 : w9.cell? ⟨w.heap.size, 0, none⟩ = some (.int .u8 0) := (Box.cell hm9 0).trans rfl
        have e1 : w9.cell? ⟨w.heap.size, 1, none⟩ = some (.int .u64 0) := (Box.cell hm9 1).trans rfl
        have e2 : w9.cell? ⟨w.heap.size, 2, none⟩ = some (.int .u64 0) := (Box.cell hm9 2).trans rfl
        have HW9 := Lib.hid hw9
        have HB9 := Lib.hid hb9
        clear hm9 hw9 hb9 hz
        go_wp2_with (first
          | (refine wpList_store_row rfl 126 _ _ rfl w.heap.size (mv Mk.zero) rfl rfl 126 _ HI5.out.res (by rw [mv_size]; exact mkInfo) rfl (mv_one _) ?_; rw [HW9.out]))
        exact bodyPost_ret (v := .tuple #[.agg (mv Mk.zero), .slice none 0 0, .int .i64 11]) (by simp [results, Tryz.results113, go_sem, e0, e1, e2, mv, Mk.zero]) rfl ⟨fun _ => rfl, fun m b h => (by rw [HN.out] at h; cases h), HB9.out⟩
      · have g1 : ¬ 220 < (k : Int) := by omega
        have s3 : ∀ W, (Instr.sliceAt 49 (.slice (some ⟨b, o, none⟩) 256 c) (some (.int .i64 (19 + (k : Int)))) (some (.int .i64 239)) none).run Tryz.prog W = .ok (.slice (some ⟨b, o + (19 + k), none⟩) (220 - k) (c - (19 + k))) W := fun W => by
          have := cut_part b o 256 c (19 + k) 239 (by omega) (by omega) (by omega) W
          rw [show ((19 + k : Nat) : Int) = 19 + (k : Int) by omega, show 239 - (19 + k) = 220 - k by omega] at this
          exact this
        have hE : Calls Tryz.prog 137 #[.slice (some ⟨b, o + (19 + k), none⟩) (220 - k) (c - (19 + k))] wc fun e w' => e = .returned (.bool (rest0 l)) ∧ w' = wc := by
          have h1 := (HI5.out.lies.from (19 + k) (by omega)).first (m := 220 - k) (by omega)
          rw [cutA, if_neg (by omega), bc_drop, bc_take] at h1
          have h2 := empty_says wc _ _ (220 - k) (c - (19 + k)) _ h1 (by omega)
          rw [rest0, HK.out]
          simpa [Addr.add_mid] using h2
        cases hr : rest0 l with
        | false =>
          rw [hr] at hE
          have HN := Lib.hid (show opens l = none by rw [opens, if_neg (by rw [hr]; simp)])
          have HE := Lib.hid hE
          clear hr hE
          have hz := HI5.out.res
          obtain ⟨w9, hw9⟩ : ∃ x, wc.setRow w.heap.size (mv Mk.zero) = x := ⟨_, rfl⟩
          have hm9 : Box w9 w.heap.size 126 (mv Mk.zero) := by rw [← hw9]; exact setRow_heap _ _ _ _ _ _ hz
          have hb9 : Below w.heap.size w w9 := HI5.out.bel.trans (by rw [← hw9]; exact (Below.refl _ wc).grown (grown_row (grown_refl _ (some w.heap.size)) _) HI5.out.bel.size (fun k e => by injection e with e; omega))
          have e0 : w9.cell? ⟨w.heap.size, 0, none⟩ = some (.int .u8 0) := (Box.cell hm9 0).trans rfl
          have e1 : w9.cell? ⟨w.heap.size, 1, none⟩ = some (.int .u64 0) := (Box.cell hm9 1).trans rfl
          have e2 : w9.cell? ⟨w.heap.size, 2, none⟩ = some (.int .u64 0) := (Box.cell hm9 2).trans rfl
          have HW9 := Lib.hid hw9
          have HB9 := Lib.hid hb9
          clear hm9 hw9 hb9 hz
          go_wp2_with (first
            | (refine wpList_store_row rfl 126 _ _ rfl w.heap.size (mv Mk.zero) rfl rfl 126 _ HI5.out.res (by rw [mv_size]; exact mkInfo) rfl (mv_one _) ?_; rw [HW9.out])
            | ((go_at_call 137); refine HE.out.mono ?_; rintro e wn ⟨rfl, hwn⟩; obtain rfl : wc = wn := hwn.symm; clear hwn))
          exact bodyPost_ret (v := .tuple #[.agg (mv Mk.zero), .slice none 0 0, .int .i64 11]) (by simp [results, Tryz.results113, go_sem, e0, e1, e2, mv, Mk.zero]) rfl ⟨fun _ => rfl, fun m b h => (by rw [HN.out] at h; cases h), HB9.out⟩
        | true =>
          rw [hr] at hE
          have HE := Lib.hid hE
          have HR := Lib.hid hr
          clear hr hE
          go_upto_region 9 with ((go_at_call 137); refine HE.out.mono ?_; rintro e wn ⟨rfl, hwn⟩; obtain rfl : wc = wn := hwn.symm; clear hwn)
          have s4 : ∀ W, (Instr.sliceAt 49 (.slice (some ⟨b, o, none⟩) 256 c) (some (.int .i64 19)) none none).run Tryz.prog W = .ok (.slice (some ⟨b, o + 19, none⟩) 237 (c - 19)) W := fun W => by have := cut_from b o 256 c 19 (by omega) (by omega) W; simpa using this
          have hl19 : Lies wc (fun k => k < w.heap.size) (some ⟨b, o + 19, none⟩) 237 (c - 19) (bc (l.drop 19)) := by
            have := HI5.out.lies.from 19 (by omega)
            rw [cutA, if_neg (by omega), bc_drop] at this
            simpa [Addr.add_mid] using this
          have HL19 := Lib.hid hl19
          clear hl19 s2 s3
          go_upto_region 10 with (at_make; refine wpList_make_full wc rfl _ _ 49 rfl wc.heap.size 5 i0 _ 1 Tryz.underlying49 hi hz0 hz1 _ _ _ _ k rfl rfl rfl rfl (by rw [hz2]; omega) (by unfold maxLen; omega) (Nat.le_refl _) ?_; intro w6 hown6 hg6; rw [zero_made] at hown6; have HW6 := Lib.hid (And.intro (box_own hown6) ((Below.refl wc.heap.size wc).grown hg6 (Nat.le_refl _) (fun k hk => by cases hk))); clear hown6 hg6)
          have HI6 := Lib.hid (HI5.out.below HW6.out.2)
          have HL6 := Lib.hid (HL19.out.below HW6.out.2)
          have hgw : w.heap.size < wc.heap.size := HI5.out.res.lt
          have hg5w : g5 < wc.heap.size := HI5.out.one.lt
          go_upto_region 11 with (refine wpList_copy_gen rfl (.tmp 42) (.tmp 44) rfl wc.heap.size 0 k k 237 (c - 19) (some ⟨b, o + 19, none⟩) rfl rfl 5 _ HW6.out.1 _ (l.drop 19) HL6.out (by simp [bc_length]) ?_; intro w7 hx7 hg7; rw [show min 237 k = k by omega, laidAt_all _ _ k (by simp)] at hx7; have H7 := Lib.hid (And.intro hx7 (And.intro (below_grown HI6.out.bel hg7 (by omega) HI6.out.bel.size) (And.intro (Box.grown HI6.out.res hg7 (by simp; omega)) (Box.grown HI6.out.one hg7 (by simp; omega))))); clear hx7 hg7)
          obtain ⟨w8, hw8⟩ : ∃ x, w7.setRow w.heap.size (mv (markAt l)) = x := ⟨_, rfl⟩
          have hm8 : Box w8 w.heap.size 126 (mv (markAt l)) := by rw [← hw8]; exact setRow_heap _ _ _ _ _ _ H7.out.2.2.1
          have hx8 : Box w8 wc.heap.size 5 (bc ((l.drop 19).take k)).toArray := by rw [← hw8]; exact Box.grown H7.out.1 (grown_row (grown_refl _ (some w.heap.size)) _) (by simp; omega)
          have hb8 : Below w.heap.size w w8 := H7.out.2.1.trans (by rw [← hw8]; exact (Below.refl _ w7).grown (grown_row (grown_refl _ (some w.heap.size)) _) H7.out.2.1.size (fun k e => by injection e with e; omega))
          have hop : opens l = some (markAt l, (l.drop 19).take k) := by rw [opens, if_pos ⟨HT.out, by rw [HK.out]; omega, HR.out⟩, HK.out]
          have hlk : ((l.drop 19).take k).length = k := by rw [List.length_take, List.length_drop, HLL.out]; omega
          have HF := Lib.hid (And.intro hop (And.intro hlk (And.intro hx8 hb8)))
          have HW8 := Lib.hid hw8
          clear hx8 hb8 hop hlk hw8
          generalize hM : markAt l = M at *
          have e0 : w8.cell? ⟨w.heap.size, 0, none⟩ = some (.int .u8 (M.kind.toNat : Int)) := (Box.cell hm8 0).trans rfl
          have e1 : w8.cell? ⟨w.heap.size, 1, none⟩ = some (.int .u64 (M.epoch : Int)) := (Box.cell hm8 1).trans rfl
          have e2 : w8.cell? ⟨w.heap.size, 2, none⟩ = some (.int .u64 (M.seq : Int)) := (Box.cell hm8 2).trans rfl
          clear hm8 hM
          go_wp2_with (first
            | (refine wpList_load_row rfl 126 _ rfl g5 rfl 126 _ (0, 0) _ H7.out.2.2.2 Tryz.underlying126 rfl (by rw [mv_size]; exact mkInfo) ?_)
            | (refine wpList_store_row rfl 126 _ _ rfl w.heap.size (mv M) rfl rfl 126 _ H7.out.2.2.1 (by rw [mv_size]; exact mkInfo) rfl (mv_one _) ?_; rw [HW8.out]))
          refine bodyPost_ret (v := .tuple #[.agg (mv M), .slice (some ⟨wc.heap.size, 0, none⟩) k k, .int .i64 0]) (by simp [results, Tryz.results113, go_sem, e0, e1, e2, mv]) rfl ⟨fun h => (by rw [HF.out.1] at h; cases h), fun m b h => ?_, HF.out.2.2.2⟩
          rw [HF.out.1] at h
          injection h with h
          injection h with h1 h2
          subst h1 h2
          exact ⟨_, by rw [HF.out.2.1], by omega, HF.out.2.2.1⟩
end Go.Proofs.YtnhondkdkjehaaaGreat
