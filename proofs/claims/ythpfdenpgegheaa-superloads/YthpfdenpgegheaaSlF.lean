/-
  mark.Open.
  super.Of.
  Heads compared.
-/
import Derived.Test.YthpfdenpgegheaaEqMk
import Derived.Test.YthpfdenpgegheaaSlA
import Derived.Test.YthpfdenpgegheaaHPut
import Derived.Test.YthpfdenpgegheaaSSm
import Derived.Shelf.SlicesE.Kit
namespace Go.Proofs.Ythpfdenpgegheaa
open Go.RowKit

theorem laidAt_all (cur : List UInt8) (xs : List UInt8) (k : Nat) (h : cur.length = k) : laidAt (bc cur).toArray xs 0 k = (bc (xs.take k)).toArray := by
  unfold laidAt
  rw [List.take_zero, List.nil_append, Nat.zero_add, List.drop_eq_nil_of_le (by rw [bc_length, h]; exact Nat.le_refl _), List.append_nil]
theorem mv_zero : (#[.int .u8 0, .int .u64 0, .int .u64 0] : Array Value) = mv Mk.zero := rfl
set_option maxRecDepth 100000 in
set_option maxHeartbeats 2000000 in
theorem open_arg (w : World) (A : Option Addr) (n c : Nat) (hn : n ≠ 256) :
    Calls Try.prog 7 #[.slice A n c] w fun e w' => e = .returned (.tuple #[.agg (mv Mk.zero), .slice none 0 0, .int .i64 2]) ∧ Below w.heap.size w w' := by
  have l1 : ((n : Int) != 256) = true := by
    rw [bne_iff_ne]
    omega
  obtain ⟨w1, hw1⟩ : ∃ w1, w.alloc (.cells #[.int .u8 0, .int .u64 0, .int .u64 0] 25) = w1 := ⟨_, rfl⟩
  have hb1 : Below w.heap.size w w1 := by rw [← hw1]; exact (Below.refl _ w).alloc (Nat.le_refl _) _
  have hm1 : Box w1 w.heap.size 25 (mv Mk.zero) := by rw [← hw1]; exact Box.made w _ _
  obtain ⟨w2, hw2⟩ : ∃ w2, w1.setRow w.heap.size (mv Mk.zero) = w2 := ⟨_, rfl⟩
  have hm2 : Box w2 w.heap.size 25 (mv Mk.zero) := by rw [← hw2]; exact setRow_heap _ _ _ _ _ _ hm1
  have hb2 : Below w.heap.size w w2 := hb1.trans (by rw [← hw2]; exact (Below.refl _ w1).grown (grown_row (grown_refl _ (some w.heap.size)) _) hb1.size (fun k e => by injection e with e; omega))
  have e0 : w2.cell? ⟨w.heap.size, 0, none⟩ = some (.int .u8 0) := (Box.cell hm2 0).trans rfl
  have e1 : w2.cell? ⟨w.heap.size, 1, none⟩ = some (.int .u64 0) := (Box.cell hm2 1).trans rfl
  have e2 : w2.cell? ⟨w.heap.size, 2, none⟩ = some (.int .u64 0) := (Box.cell hm2 2).trans rfl
  have HM := Lib.hid hm1
  have HW := Lib.hid hw2
  have HB := Lib.hid hb2
  clear hb1 hm1 hw2 hm2 hb2
  go_enter Try.func7, Try.ntmps7
  go_wp2_with (refine wpList_store_row rfl 25 _ _ rfl w.heap.size (mv Mk.zero) rfl rfl 25 _ HM.out (by rw [mv_size]; exact mkInfo) rfl (mv_one _) ?_; rw [HW.out])
  exact bodyPost_ret (v := .tuple #[.agg (mv Mk.zero), .slice none 0 0, .int .i64 2]) (by simp [results, Try.results7, go_sem, e0, e1, e2, mv, Mk.zero]) rfl ⟨rfl, HB.out⟩
/-- Behind the first mark that was read: its box, the result's box, the block. -/
structure OpI (w w4 : World) (g5 b o c : Nat) (l : List UInt8) : Prop where
  bel : Below w.heap.size w w4
  res : Box w4 w.heap.size 25 (mv Mk.zero)
  one : Box w4 g5 25 (mv (markAt l))
  lies : Lies w4 (fun k => k < w.heap.size) (some ⟨b, o, none⟩) 256 c (bc l)
  ne : w.heap.size < g5
theorem OpI.below {w w4 w' : World} {g5 b o c : Nat} {l : List UInt8} (h : OpI w w4 g5 b o c l) (hb : Below w4.heap.size w4 w') : OpI w w' g5 b o c l :=
  ⟨h.bel.trans (hb.mono h.bel.size), Box.below h.res hb h.res.lt, Box.below h.one hb h.one.lt, h.lies.below hb, h.ne⟩
/-- What opening tells. -/
def OpenSays (w : World) (l : List UInt8) (e : Ending) (w' : World) : Prop :=
  (opens l = none → e = .returned (.tuple #[.agg (mv Mk.zero), .slice none 0 0, .int .i64 11])) ∧
  (∀ m b, opens l = some (m, b) → ∃ g, e = .returned (.tuple #[.agg (mv m), .slice (some ⟨g, 0, none⟩) b.length b.length, .int .i64 0]) ∧ w.heap.size ≤ g ∧ Box w' g 5 (bc b).toArray) ∧ Below w.heap.size w w'
set_option maxRecDepth 100000 in
set_option maxHeartbeats 8000000 in
theorem open_says (w : World) (A : Option Addr) (c : Nat) (l : List UInt8) (hl : Lies w (fun _ => True) A 256 c (bc l)) :
    Calls Try.prog 7 #[.slice A 256 c] w (OpenSays w l) := by
  have hll : l.length = 256 := by rw [← bc_length]; exact hl.len
  have hc := hl.le
  obtain ⟨i0, hi, hz0, hz1, hz2⟩ := info_parts Try.byteInfo
  obtain ⟨⟨b, o, sp⟩, rfl, hx1, hx2, hx3⟩ := hl.2.2 (by omega)
  clear hx1 hx2 hx3
  obtain ⟨b', o', hA, hy1, hy2, hy3⟩ := hl.at (j := 0) (u := .int .u8 ((l.headD 0).toNat : Int)) (by match l, hll with | k :: r, _ => rfl)
  injection hA with hA
  injection hA with hA1 hA2 hA3
  subst hA1 hA2 hA3
  clear hy1 hy2 hy3
  have hL := hl.weak (N' := fun k => k < w.heap.size) (fun b h _ => h)
  obtain ⟨w1, hw1⟩ : ∃ w1, w.alloc (.cells #[.int .u8 0, .int .u64 0, .int .u64 0] 25) = w1 := ⟨_, rfl⟩
  have hb1 : Below w.heap.size w w1 := by rw [← hw1]; exact (Below.refl _ w).alloc (Nat.le_refl _) _
  have hm1 : Box w1 w.heap.size 25 (mv Mk.zero) := by rw [← hw1]; exact Box.made w _ _
  have H1 := Lib.hid (And.intro hb1 (And.intro hm1 (hL.below hb1)))
  have HLL := Lib.hid hll
  clear hb1 hm1 hl hL hll
  go_enter Try.func7, Try.ntmps7
  go_wp2_with fail
  refine (markOf_says w1 _ b o 256 c l H1.out.2.2 (by omega)).mono ?_
  rintro e w2 ⟨rfl, hb2⟩
  obtain ⟨w3, hw3⟩ : ∃ x, w2.alloc (.cells #[.int .u8 0, .int .u64 0, .int .u64 0] 25) = x := ⟨_, rfl⟩
  have hb3 : Below w2.heap.size w2 w3 := by rw [← hw3]; exact (Below.refl _ w2).alloc (Nat.le_refl _) _
  have hm3 : Box w3 w2.heap.size 25 (mv Mk.zero) := by rw [← hw3]; exact Box.made w2 _ _
  obtain ⟨w4, hw4⟩ : ∃ x, w3.setRow w2.heap.size (mv (markAt l)) = x := ⟨_, rfl⟩
  have hm4 : Box w4 w2.heap.size 25 (mv (markAt l)) := by rw [← hw4]; exact setRow_heap _ _ _ _ _ _ hm3
  have hb4 : Below w2.heap.size w2 w4 := hb3.trans (by rw [← hw4]; exact (Below.refl _ w3).grown (grown_row (grown_refl _ (some w2.heap.size)) _) hb3.size (fun k e => by injection e with e; omega))
  have hbz := hb2.trans (hb4.mono hb2.size)
  have hI : OpI w w4 w2.heap.size b o c l := ⟨H1.out.1.trans (hbz.mono H1.out.1.size), Box.below H1.out.2.1 hbz H1.out.2.1.lt, hm4, H1.out.2.2.below hbz, Nat.lt_of_lt_of_le H1.out.2.1.lt hb2.size⟩
  have HI := Lib.hid hI
  have HM3 := Lib.hid hm3
  have HW4 := Lib.hid hw4
  clear hb2 hb3 hm3 hw4 hm4 hb4 hbz hI H1 hw1
  generalize hg5 : w2.heap.size = g5 at *
  go_upto_region 4 with (refine wpList_store_row rfl 25 _ _ rfl g5 (mv (markAt l)) rfl rfl 25 _ HM3.out (by rw [mv_size]; exact mkInfo) rfl (mv_one _) ?_; rw [HW4.out])
  clear HM3 HW4 hw3 hg5
  try simp only [Act.put]
  go_cut [23] (fun v wx => Hid (v = .bool (!twin l) ∧ Below w4.heap.size w4 wx))
  case first =>
    have hlz : Lies w4 (fun k => k < w.heap.size) (some ⟨b, o + 239, none⟩) 17 (c - 239) (bc (l.drop 239)) := by
      have := HI.out.lies.from 239 (by omega)
      rw [cutA, if_neg (by omega), bc_drop] at this
      simpa [Addr.add_mid] using this
    have s1 : ∀ W, (Instr.sliceAt 22 (.slice (some ⟨b, o, none⟩) 256 c) (some (.int .i64 239)) none none).run Try.prog W = .ok (.slice (some ⟨b, o + 239, none⟩) 17 (c - 239)) W := fun W => by have := cut_from b o 256 c 239 (by omega) (by omega) W; simpa using this
    have HM := Lib.hid (show ∀ p : Grows w4, Calls Try.prog 25 #[.slice (some ⟨b, o + 239, none⟩) 17 (c - 239)] p.val fun e w'' => e = .returned (.agg (mv (markAt (l.drop 239)))) ∧ ∃ p' : Grows w4, w'' = p'.val from fun p => Calls.grows (markOf_says p.val _ b (o + 239) 17 (c - 239) (l.drop 239) (hlz.below p.prop) (by omega)))
    have HY := Lib.hid (show ∀ p : Grows w4, Calls Try.prog 26 #[.agg (mv (markAt l))] p.val fun e w'' => e = .returned (.bool (markAt l).may) ∧ ∃ p' : Grows w4, w'' = p'.val from fun p => Calls.grows (mayBe_says p.val (markAt l)))
    have HRG := Lib.hid (range_grows (mk_range HI.out.one) HI.out.one.lt)
    clear hlz
    by_cases hE : markAt l = markAt (l.drop 239)
    · have HE := Lib.hid hE
      clear hE
      refine wp_region_grows (by kernel_rfl) (by kernel_rfl) ?_
      iterate 10 (first
        | (refine wpQuiet_load_yes (by go_simp; done) 25 (.tmp 5) rfl g5 0 rfl (mvl (markAt l)) _ HRG.out Try.underlying25 rfl (by kernel_rfl) ?_; simp only [Act.put, List.setIfInBounds_toArray, List.set_cons_zero, List.set_cons_succ])
        | (refine wpQuiet_neq_mk (by go_simp; done) (.tmp 14) (.tmp 17) rfl (markAt l) (markAt (l.drop 239)) false (by rw [HE.out]; simp) rfl rfl ?_; simp only [Act.put, List.setIfInBounds_toArray, List.set_cons_zero, List.set_cons_succ])
        | quiet_step (first | (go_at_call 25; exact HM.out _) | (go_at_call 26; exact HY.out _)))
      refine wpQuiet_nil ?_
      rintro wx ⟨⟨_, hwx⟩, rfl⟩
      go_wp2
      go_meet
      exact Lib.hid ⟨by rw [twin, HE.out]; simp, hwx⟩
    · have HE := Lib.hid hE
      clear hE
      refine wp_region_grows (by kernel_rfl) (by kernel_rfl) ?_
      iterate 6 (first
        | (refine wpQuiet_load_yes (by go_simp; done) 25 (.tmp 5) rfl g5 0 rfl (mvl (markAt l)) _ HRG.out Try.underlying25 rfl (by kernel_rfl) ?_; simp only [Act.put, List.setIfInBounds_toArray, List.set_cons_zero, List.set_cons_succ])
        | (refine wpQuiet_neq_mk (by go_simp; done) (.tmp 14) (.tmp 17) rfl (markAt l) (markAt (l.drop 239)) true (by simp [HE.out]) rfl rfl ?_; simp only [Act.put, List.setIfInBounds_toArray, List.set_cons_zero, List.set_cons_succ])
        | quiet_step (first | (go_at_call 25; exact HM.out _) | (go_at_call 26; exact HY.out _)))
      iterate 3 (with_reducible refine wpQuiet_no ?_ ?_; (· first | (go_simp; done) | (go_simp; simp [undef]; done)); simp only [Act.put, List.setIfInBounds_toArray, List.set_cons_zero, List.set_cons_succ])
      quiet_step (fail)
      refine wpQuiet_nil ?_
      rintro wx ⟨⟨_, hwx⟩, rfl⟩
      go_wp2
      go_meet
      exact Lib.hid ⟨by rw [twin]; simp [HE.out], hwx⟩
  case rest =>
    obtain ⟨rfl, hwc⟩ := hcut.out
    have HI5 := Lib.hid (HI.out.below hwc)
    clear hwc HI
    cases ht : twin l with
    | false =>
      have HN := Lib.hid (show opens l = none by rw [opens, if_neg (by rw [ht]; simp)])
      clear ht
      have hz := HI5.out.res
      obtain ⟨w9, hw9⟩ : ∃ x, wc.setRow w.heap.size (mv Mk.zero) = x := ⟨_, rfl⟩
      have hm9 : Box w9 w.heap.size 25 (mv Mk.zero) := by rw [← hw9]; exact setRow_heap _ _ _ _ _ _ hz
      have hb9 : Below w.heap.size w w9 := HI5.out.bel.trans (by rw [← hw9]; exact (Below.refl _ wc).grown (grown_row (grown_refl _ (some w.heap.size)) _) HI5.out.bel.size (fun k e => by injection e with e; omega))
      have e0 : w9.cell? ⟨w.heap.size, 0, none⟩ = some (.int .u8 0) := (Box.cell hm9 0).trans rfl
      have e1 : w9.cell? ⟨w.heap.size, 1, none⟩ = some (.int .u64 0) := (Box.cell hm9 1).trans rfl
      have e2 : w9.cell? ⟨w.heap.size, 2, none⟩ = some (.int .u64 0) := (Box.cell hm9 2).trans rfl
      have HW9 := Lib.hid hw9
      have HB9 := Lib.hid hb9
      clear hm9 hw9 hb9 hz
      go_wp2_with (first
        | (refine wpList_store_row rfl 25 _ _ rfl w.heap.size (mv Mk.zero) rfl rfl 25 _ HI5.out.res (by rw [mv_size]; exact mkInfo) rfl (mv_one _) ?_; rw [HW9.out]))
      exact bodyPost_ret (v := .tuple #[.agg (mv Mk.zero), .slice none 0 0, .int .i64 11]) (by simp [results, Try.results7, go_sem, e0, e1, e2, mv, Mk.zero]) rfl ⟨fun _ => rfl, fun m b h => (by rw [HN.out] at h; cases h), HB9.out⟩
    | true =>
      obtain ⟨k, hk⟩ : ∃ k, longOf l = k := ⟨_, rfl⟩
      have HT := Lib.hid ht
      have HK := Lib.hid hk
      have hk6 : k < 65536 := by
        rw [← hk, longOf]
        have := beVal_lt ((l.drop 17).take 2)
        have h2 : ((l.drop 17).take 2).length = 2 := by rw [List.length_take, List.length_drop, HLL.out]; omega
        rw [h2] at this
        omega
      have s2 : ∀ W, (Instr.sliceAt 22 (.slice (some ⟨b, o, none⟩) 256 c) (some (.int .i64 17)) (some (.int .i64 19)) none).run Try.prog W = .ok (.slice (some ⟨b, o + 17, none⟩) 2 (c - 17)) W := fun W => by have := cut_part b o 256 c 17 19 (by omega) (by omega) (by omega) W; simpa using this
      have hN : Calls Try.prog 27 #[.slice (some ⟨b, o + 17, none⟩) 2 (c - 17)] wc fun e w' => e = .returned (.int .u64 (k : Int)) ∧ w' = wc := by
        have h1 := (HI5.out.lies.from 17 (by omega)).first (m := 2) (by omega)
        rw [cutA, if_neg (by omega), bc_drop, bc_take] at h1
        have h2 := number_says wc _ _ 2 (c - 17) _ h1 (by omega)
        rw [show beVal ((l.drop 17).take 2) = k from hk] at h2
        simpa [Addr.add_mid] using h2
      have HN6 := Lib.hid hN
      clear ht hk hN
      go_wp2_with fail
      refine HN6.out.mono ?_
      rintro e wn ⟨rfl, hwn⟩
      obtain rfl : wc = wn := hwn.symm
      clear hwn HN6
      by_cases hbig : 220 < k
      · have g1 : 220 < (k : Int) := by omega
        have HN := Lib.hid (show opens l = none by rw [opens, if_neg (by rw [HK.out]; omega)])
        have hz := HI5.out.res
        obtain ⟨w9, hw9⟩ : ∃ x, wc.setRow w.heap.size (mv Mk.zero) = x := ⟨_, rfl⟩
        have hm9 : Box w9 w.heap.size 25 (mv Mk.zero) := by rw [← hw9]; exact setRow_heap _ _ _ _ _ _ hz
        have hb9 : Below w.heap.size w w9 := HI5.out.bel.trans (by rw [← hw9]; exact (Below.refl _ wc).grown (grown_row (grown_refl _ (some w.heap.size)) _) HI5.out.bel.size (fun k e => by injection e with e; omega))
        have e0 : w9.cell? ⟨w.heap.size, 0, none⟩ = some (.int .u8 0) := (Box.cell hm9 0).trans rfl
        have e1 : w9.cell? ⟨w.heap.size, 1, none⟩ = some (.int .u64 0) := (Box.cell hm9 1).trans rfl
        have e2 : w9.cell? ⟨w.heap.size, 2, none⟩ = some (.int .u64 0) := (Box.cell hm9 2).trans rfl
        have HW9 := Lib.hid hw9
        have HB9 := Lib.hid hb9
        clear hm9 hw9 hb9 hz
        go_wp2_with (first
          | (refine wpList_store_row rfl 25 _ _ rfl w.heap.size (mv Mk.zero) rfl rfl 25 _ HI5.out.res (by rw [mv_size]; exact mkInfo) rfl (mv_one _) ?_; rw [HW9.out]))
        exact bodyPost_ret (v := .tuple #[.agg (mv Mk.zero), .slice none 0 0, .int .i64 11]) (by simp [results, Try.results7, go_sem, e0, e1, e2, mv, Mk.zero]) rfl ⟨fun _ => rfl, fun m b h => (by rw [HN.out] at h; cases h), HB9.out⟩
      · have g1 : ¬ 220 < (k : Int) := by omega
        have s3 : ∀ W, (Instr.sliceAt 22 (.slice (some ⟨b, o, none⟩) 256 c) (some (.int .i64 (19 + (k : Int)))) (some (.int .i64 239)) none).run Try.prog W = .ok (.slice (some ⟨b, o + (19 + k), none⟩) (220 - k) (c - (19 + k))) W := fun W => by
          have := cut_part b o 256 c (19 + k) 239 (by omega) (by omega) (by omega) W
          rw [show ((19 + k : Nat) : Int) = 19 + (k : Int) by omega, show 239 - (19 + k) = 220 - k by omega] at this
          exact this
        have hE : Calls Try.prog 28 #[.slice (some ⟨b, o + (19 + k), none⟩) (220 - k) (c - (19 + k))] wc fun e w' => e = .returned (.bool (rest0 l)) ∧ w' = wc := by
          have h1 := (HI5.out.lies.from (19 + k) (by omega)).first (m := 220 - k) (by omega)
          rw [cutA, if_neg (by omega), bc_drop, bc_take] at h1
          have h2 := empty_says wc _ _ (220 - k) (c - (19 + k)) _ h1 (by omega)
          rw [rest0, HK.out]
          simpa [Addr.add_mid] using h2
        cases hr : rest0 l with
        | false =>
          rw [hr] at hE
          have HN := Lib.hid (show opens l = none by rw [opens, if_neg (by rw [hr]; simp)])
          have HE := Lib.hid hE
          clear hr hE
          have hz := HI5.out.res
          obtain ⟨w9, hw9⟩ : ∃ x, wc.setRow w.heap.size (mv Mk.zero) = x := ⟨_, rfl⟩
          have hm9 : Box w9 w.heap.size 25 (mv Mk.zero) := by rw [← hw9]; exact setRow_heap _ _ _ _ _ _ hz
          have hb9 : Below w.heap.size w w9 := HI5.out.bel.trans (by rw [← hw9]; exact (Below.refl _ wc).grown (grown_row (grown_refl _ (some w.heap.size)) _) HI5.out.bel.size (fun k e => by injection e with e; omega))
          have e0 : w9.cell? ⟨w.heap.size, 0, none⟩ = some (.int .u8 0) := (Box.cell hm9 0).trans rfl
          have e1 : w9.cell? ⟨w.heap.size, 1, none⟩ = some (.int .u64 0) := (Box.cell hm9 1).trans rfl
          have e2 : w9.cell? ⟨w.heap.size, 2, none⟩ = some (.int .u64 0) := (Box.cell hm9 2).trans rfl
          have HW9 := Lib.hid hw9
          have HB9 := Lib.hid hb9
          clear hm9 hw9 hb9 hz
          go_wp2_with (first
            | (refine wpList_store_row rfl 25 _ _ rfl w.heap.size (mv Mk.zero) rfl rfl 25 _ HI5.out.res (by rw [mv_size]; exact mkInfo) rfl (mv_one _) ?_; rw [HW9.out])
            | ((go_at_call 28); refine HE.out.mono ?_; rintro e wn ⟨rfl, hwn⟩; obtain rfl : wc = wn := hwn.symm; clear hwn))
          exact bodyPost_ret (v := .tuple #[.agg (mv Mk.zero), .slice none 0 0, .int .i64 11]) (by simp [results, Try.results7, go_sem, e0, e1, e2, mv, Mk.zero]) rfl ⟨fun _ => rfl, fun m b h => (by rw [HN.out] at h; cases h), HB9.out⟩
        | true =>
          rw [hr] at hE
          have HE := Lib.hid hE
          have HR := Lib.hid hr
          clear hr hE
          go_upto_region 9 with ((go_at_call 28); refine HE.out.mono ?_; rintro e wn ⟨rfl, hwn⟩; obtain rfl : wc = wn := hwn.symm; clear hwn)
          have s4 : ∀ W, (Instr.sliceAt 22 (.slice (some ⟨b, o, none⟩) 256 c) (some (.int .i64 19)) none none).run Try.prog W = .ok (.slice (some ⟨b, o + 19, none⟩) 237 (c - 19)) W := fun W => by have := cut_from b o 256 c 19 (by omega) (by omega) W; simpa using this
          have hl19 : Lies wc (fun k => k < w.heap.size) (some ⟨b, o + 19, none⟩) 237 (c - 19) (bc (l.drop 19)) := by
            have := HI5.out.lies.from 19 (by omega)
            rw [cutA, if_neg (by omega), bc_drop] at this
            simpa [Addr.add_mid] using this
          have HL19 := Lib.hid hl19
          clear hl19 s2 s3
          go_upto_region 10 with (at_make; refine wpList_make_full wc rfl _ _ 22 rfl wc.heap.size 5 i0 _ 1 Try.underlying22 hi hz0 hz1 _ _ _ _ k rfl rfl rfl rfl (by rw [hz2]; omega) (by unfold maxLen; omega) (Nat.le_refl _) ?_; intro w6 hown6 hg6; rw [zero_made] at hown6; have HW6 := Lib.hid (And.intro (box_own hown6) ((Below.refl wc.heap.size wc).grown hg6 (Nat.le_refl _) (fun k hk => by cases hk))); clear hown6 hg6)
          have HI6 := Lib.hid (HI5.out.below HW6.out.2)
          have HL6 := Lib.hid (HL19.out.below HW6.out.2)
          have hgw : w.heap.size < wc.heap.size := HI5.out.res.lt
          have hg5w : g5 < wc.heap.size := HI5.out.one.lt
          go_upto_region 11 with (refine wpList_copy_gen rfl (.tmp 42) (.tmp 44) rfl wc.heap.size 0 k k 237 (c - 19) (some ⟨b, o + 19, none⟩) rfl rfl 5 _ HW6.out.1 _ (l.drop 19) HL6.out (by simp [bc_length]) ?_; intro w7 hx7 hg7; rw [show min 237 k = k by omega, laidAt_all _ _ k (by simp)] at hx7; have H7 := Lib.hid (And.intro hx7 (And.intro (below_grown HI6.out.bel hg7 (by omega) HI6.out.bel.size) (And.intro (Box.grown HI6.out.res hg7 (by simp; omega)) (Box.grown HI6.out.one hg7 (by simp; omega))))); clear hx7 hg7)
          obtain ⟨w8, hw8⟩ : ∃ x, w7.setRow w.heap.size (mv (markAt l)) = x := ⟨_, rfl⟩
          have hm8 : Box w8 w.heap.size 25 (mv (markAt l)) := by rw [← hw8]; exact setRow_heap _ _ _ _ _ _ H7.out.2.2.1
          have hx8 : Box w8 wc.heap.size 5 (bc ((l.drop 19).take k)).toArray := by rw [← hw8]; exact Box.grown H7.out.1 (grown_row (grown_refl _ (some w.heap.size)) _) (by simp; omega)
          have hb8 : Below w.heap.size w w8 := H7.out.2.1.trans (by rw [← hw8]; exact (Below.refl _ w7).grown (grown_row (grown_refl _ (some w.heap.size)) _) H7.out.2.1.size (fun k e => by injection e with e; omega))
          have hop : opens l = some (markAt l, (l.drop 19).take k) := by rw [opens, if_pos ⟨HT.out, by rw [HK.out]; omega, HR.out⟩, HK.out]
          have hlk : ((l.drop 19).take k).length = k := by rw [List.length_take, List.length_drop, HLL.out]; omega
          have HF := Lib.hid (And.intro hop (And.intro hlk (And.intro hx8 hb8)))
          have HW8 := Lib.hid hw8
          clear hx8 hb8 hop hlk hw8
          generalize hM : markAt l = M at *
          have e0 : w8.cell? ⟨w.heap.size, 0, none⟩ = some (.int .u8 (M.kind.toNat : Int)) := (Box.cell hm8 0).trans rfl
          have e1 : w8.cell? ⟨w.heap.size, 1, none⟩ = some (.int .u64 (M.epoch : Int)) := (Box.cell hm8 1).trans rfl
          have e2 : w8.cell? ⟨w.heap.size, 2, none⟩ = some (.int .u64 (M.seq : Int)) := (Box.cell hm8 2).trans rfl
          clear hm8 hM
          go_wp2_with (first
            | (refine wpList_load_row rfl 25 _ rfl g5 rfl 25 _ (0, 0) _ H7.out.2.2.2 Try.underlying25 rfl (by rw [mv_size]; exact mkInfo) ?_)
            | (refine wpList_store_row rfl 25 _ _ rfl w.heap.size (mv M) rfl rfl 25 _ H7.out.2.2.1 (by rw [mv_size]; exact mkInfo) rfl (mv_one _) ?_; rw [HW8.out]))
          refine bodyPost_ret (v := .tuple #[.agg (mv M), .slice (some ⟨wc.heap.size, 0, none⟩) k k, .int .i64 0]) (by simp [results, Try.results7, go_sem, e0, e1, e2, mv]) rfl ⟨fun h => (by rw [HF.out.1] at h; cases h), fun m b h => ?_, HF.out.2.2.2⟩
          rw [HF.out.1] at h
          injection h with h
          injection h with h1 h2
          subst h1 h2
          exact ⟨_, by rw [HF.out.2.1], by omega, HF.out.2.2.1⟩
end Go.Proofs.Ythpfdenpgegheaa
namespace Go.Proofs.Ythpfdenpgegheaa
open Go.RowKit

set_option linter.unusedVariables false
set_option linter.unusedSimpArgs false
theorem stSmall_len (m : Int) (q : Lay.St) : (Lay.stSmall m q).1.length ≤ q.1.length := by
  have := Lay.stNum_len q
  unfold Lay.stSmall
  split
  · split
    · exact Nat.zero_le _
    · exact this
  · exact this
theorem rq1_len (b : List UInt8) : (rq1 b).1.length ≤ b.length := Lay.stNum_len (rq0 b)
theorem rq2_len (b : List UInt8) : (rq2 b).1.length ≤ b.length := Nat.le_trans (stSmall_len _ _) (rq1_len b)
theorem rq3_len (b : List UInt8) : (rq3 b).1.length ≤ b.length := Nat.le_trans (Lay.stNum_len _) (rq2_len b)
theorem rq4_len (b : List UInt8) : (rq4 b).1.length ≤ b.length := Nat.le_trans (stSmall_len _ _) (rq3_len b)
/-- What Of hands on. -/
def OfSays (w : World) (l : List UInt8) (blocks : Int) (e : Ending) (w' : World) : Prop :=
  (headOf l blocks = none → e = .returned (.tuple #[.agg (hv Hd.zero), .bool false])) ∧ (∀ h, headOf l blocks = some h → e = .returned (.tuple #[.agg (hv h), .bool true])) ∧ Below w.heap.size w w'
set_option maxRecDepth 100000 in
set_option maxHeartbeats 16000000 in
theorem of_says (w : World) (A : Option Addr) (c : Nat) (l : List UInt8) (hl : Lies w (fun _ => True) A 256 c (bc l)) (blocks : Int) (hbk : -9223372036854775808 ≤ blocks ∧ blocks ≤ 9223372036854775807) :
    Calls Try.prog 47 #[.slice A 256 c, .int .i64 blocks] w (OfSays w l blocks) := by
  have hll : l.length = 256 := by rw [← bc_length]; exact hl.len
  obtain ⟨w1, hw1⟩ : ∃ x, w.alloc (.cells #[.int .u64 0, .int .u64 0, .int .i64 0, .int .u64 0, .int .i64 0] 43) = x := ⟨_, rfl⟩
  have HB1 := Lib.hid (show Below w.heap.size w w1 by rw [← hw1]; exact (Below.refl _ w).alloc (Nat.le_refl _) _)
  have HZ1 := Lib.hid (show Box w1 w.heap.size 43 (hv Hd.zero) by rw [← hw1]; exact Box.made w _ _)
  have HL1 := Lib.hid ((hl.weak (N' := fun b => b < w.heap.size) (fun b h _ => h)).below HB1.out)
  have HBK := Lib.hid hbk
  clear hl hbk
  go_enter Try.func47, Try.ntmps47
  go_wp2_with fail
  refine (open_says w1 A c l (HL1.out.weak (fun _ _ _ => trivial))).mono ?_
  rintro r wa ⟨hno, hyes, hba⟩
  have hhead : headOf l blocks = match opens l with
    | some (m, b) => if (m.kind = 9 ∧ m.epoch = m.seq) ∧ Lay.stEnd (rq4 b) = 0 ∧ (headFrom m.epoch m.he b).rightB blocks = true then some (headFrom m.epoch m.he b) else none
    | none => none := rfl
  cases hop : opens l with
  | none =>
    obtain rfl := hno hop
    rw [hop] at hhead
    have HN := Lib.hid hhead
    obtain ⟨wb, hwb⟩ : ∃ x, wa.alloc (.cells #[.int .u8 0, .int .u64 0, .int .u64 0] 25) = x := ⟨_, rfl⟩
    have hbwb : Below wa.heap.size wa wb := by rw [← hwb]; exact (Below.refl _ wa).alloc (Nat.le_refl _) _
    have hmwb : Box wb wa.heap.size 25 (mv Mk.zero) := by rw [← hwb]; exact Box.made wa _ _
    obtain ⟨wd, hwd⟩ : ∃ x, wb.setRow wa.heap.size (mv Mk.zero) = x := ⟨_, rfl⟩
    have hmwd : Box wd wa.heap.size 25 (mv Mk.zero) := by rw [← hwd]; exact setRow_heap _ _ _ _ _ _ hmwb
    have hbwd : Below wa.heap.size wa wd := hbwb.trans (by rw [← hwd]; exact (Below.refl _ wb).grown (grown_row (grown_refl _ (some wa.heap.size)) _) hbwb.size (fun k e => by injection e with e; omega))
    have HMwb := Lib.hid hmwb
    have HWwd := Lib.hid hwd
    have HBd := Lib.hid (HB1.out.trans ((hba.trans (hbwd.mono hba.size)).mono HB1.out.size))
    have hbad := hba.trans (hbwd.mono hba.size)
    have HZd := Lib.hid (Box.below HZ1.out hbad HZ1.out.lt)
    clear hno hyes hba hop hhead hbwb hmwb hwd hmwd hbwd hbad hll
    go_upto_region 2 with (refine wpList_store_row rfl 25 _ _ rfl wa.heap.size (mv Mk.zero) rfl rfl 25 _ HMwb.out (by rw [mv_size]; exact mkInfo) rfl (mv_one _) ?_; rw [HWwd.out])
    try simp only [Act.put]
    go_cut [25] (fun v wx => Hid (v = .bool true ∧ Below wd.heap.size wd wx))
    case first =>
      refine wp_region_grows (by kernel_rfl) (by kernel_rfl) ?_
      iterate 3 (first
          | quiet_step (fail))
      iterate 5 (with_reducible refine wpQuiet_no ?_ ?_; (· first | (go_simp; done) | (go_simp; simp [undef]; done)); simp only [Act.put, List.setIfInBounds_toArray, List.set_cons_zero, List.set_cons_succ])
      iterate 1 (first
          | quiet_step (fail))
      refine wpQuiet_nil ?_
      rintro wx ⟨⟨_, hwx⟩, rfl⟩
      go_wp2
      go_meet
      exact Lib.hid ⟨rfl, hwx⟩
    case rest =>
      obtain ⟨rfl, hbx⟩ := hcut.out
      have HBx := Lib.hid (HBd.out.trans (hbx.mono HBd.out.size))
      have HZx := Lib.hid (Box.below HZd.out hbx HZd.out.lt)
      clear hbx hcut HBd HZd
      obtain ⟨w9, hw9⟩ : ∃ x, wc.setRow w.heap.size (hv Hd.zero) = x := ⟨_, rfl⟩
      have hm9 : Box w9 w.heap.size 43 (hv Hd.zero) := by rw [← hw9]; exact setRow_heap _ _ _ _ _ _ HZx.out
      have HB9 := Lib.hid (show Below w.heap.size w w9 from HBx.out.trans (by rw [← hw9]; exact (Below.refl _ wc).grown (grown_row (grown_refl _ (some w.heap.size)) _) HBx.out.size (fun k e => by injection e with e; omega)))
      have e0 : w9.cell? ⟨w.heap.size, 0, none⟩ = some (.int .u64 (Hd.zero.gen : Int)) := (Box.cell hm9 0).trans rfl
      have e1 : w9.cell? ⟨w.heap.size, 1, none⟩ = some (.int .u64 (Hd.zero.epoch : Int)) := (Box.cell hm9 1).trans rfl
      have e2 : w9.cell? ⟨w.heap.size, 2, none⟩ = some (.int .i64 Hd.zero.pos) := (Box.cell hm9 2).trans rfl
      have e3 : w9.cell? ⟨w.heap.size, 3, none⟩ = some (.int .u64 (Hd.zero.seq : Int)) := (Box.cell hm9 3).trans rfl
      have e4 : w9.cell? ⟨w.heap.size, 4, none⟩ = some (.int .i64 Hd.zero.log) := (Box.cell hm9 4).trans rfl
      have HW9 := Lib.hid hw9
      clear hm9 hw9
      go_wp2_with (refine wpList_store_row rfl 43 _ _ rfl w.heap.size (hv Hd.zero) rfl rfl 43 _ HZx.out (by rw [hv_size]; exact hdInfo) rfl (hv_one _) ?_; rw [HW9.out])
      exact bodyPost_ret (v := .tuple #[.agg (hv Hd.zero), .bool false]) (by simp [results, Try.results47, go_sem, e0, e1, e2, e3, e4, hv]) rfl ⟨fun _ => rfl, fun h hh => (by rw [HN.out] at hh; cases hh), HB9.out⟩
  | some mb =>
    obtain ⟨m, b⟩ := mb
    obtain ⟨gs, rfl, hgs, hxs⟩ := hyes m b hop
    obtain ⟨_, hbl, _⟩ := opens_some hll hop
    rw [hop] at hhead
    simp only at hhead
    obtain ⟨wb, hwb⟩ : ∃ x, wa.alloc (.cells #[.int .u8 0, .int .u64 0, .int .u64 0] 25) = x := ⟨_, rfl⟩
    have hbwb : Below wa.heap.size wa wb := by rw [← hwb]; exact (Below.refl _ wa).alloc (Nat.le_refl _) _
    have hmwb : Box wb wa.heap.size 25 (mv Mk.zero) := by rw [← hwb]; exact Box.made wa _ _
    obtain ⟨wd, hwd⟩ : ∃ x, wb.setRow wa.heap.size (mv m) = x := ⟨_, rfl⟩
    have hmwd : Box wd wa.heap.size 25 (mv m) := by rw [← hwd]; exact setRow_heap _ _ _ _ _ _ hmwb
    have hbwd : Below wa.heap.size wa wd := hbwb.trans (by rw [← hwd]; exact (Below.refl _ wb).grown (grown_row (grown_refl _ (some wa.heap.size)) _) hbwb.size (fun k e => by injection e with e; omega))
    have HMwb := Lib.hid hmwb
    have HWwd := Lib.hid hwd
    have HBd := Lib.hid (HB1.out.trans ((hba.trans (hbwd.mono hba.size)).mono HB1.out.size))
    have hbad := hba.trans (hbwd.mono hba.size)
    have HZd := Lib.hid (Box.below HZ1.out hbad HZ1.out.lt)
    have HMd := Lib.hid hmwd
    have HXd := Lib.hid (Box.below hxs hbwd hxs.lt)
    have HRM := Lib.hid (range_grows (mk_range hmwd) hmwd.lt)
    have hcE := cell_grows (p := ⟨wa.heap.size, 1, none⟩) (v := .int .u64 (m.epoch : Int)) hmwd.lt ((Box.cell hmwd 1).trans rfl)
    have HMO := Lib.hid (show ∀ p : Grows wd, Calls Try.prog 53 #[.int .u64 (m.epoch : Int)] p.val fun e w'' => e = .returned (.agg (mv (mk9 m.epoch m.he))) ∧ ∃ p' : Grows wd, w'' = p'.val from fun p => Calls.grows (smarkOf_says p.val m.epoch m.he))
    have HHD := Lib.hid hhead
    clear hno hyes hba hop hhead hbwb hmwb hwd hmwd hbwd hbad hll hgs hxs
    go_upto_region 2 with (refine wpList_store_row rfl 25 _ _ rfl wa.heap.size (mv m) rfl rfl 25 _ HMwb.out (by rw [mv_size]; exact mkInfo) rfl (mv_one _) ?_; rw [HWwd.out])
    try simp only [Act.put]
    go_cut [25] (fun v wx => Hid (v = .bool (!decide (m = mk9 m.epoch m.he)) ∧ Below wd.heap.size wd wx))
    case first =>
      refine wp_region_grows (by kernel_rfl) (by kernel_rfl) ?_
      iterate 9 (first
          | (refine wpQuiet_load_yes (by go_simp; done) 25 (.tmp 6) rfl wa.heap.size 0 rfl (mvl m) _ HRM.out Try.underlying25 rfl (by kernel_rfl) ?_; simp only [Act.put, List.setIfInBounds_toArray, List.set_cons_zero, List.set_cons_succ])
          | (refine wpQuiet_neq_mk (by go_simp; done) (.tmp 20) (.tmp 23) rfl m (mk9 m.epoch m.he) (!decide (m = mk9 m.epoch m.he)) rfl rfl rfl ?_; simp only [Act.put, List.setIfInBounds_toArray, List.set_cons_zero, List.set_cons_succ])
          | quiet_step (first | (go_at_call 53; exact HMO.out _)))
      refine wpQuiet_nil ?_
      rintro wx ⟨⟨_, hwx⟩, rfl⟩
      go_wp2
      go_meet
      exact Lib.hid ⟨by simp, hwx⟩
    case rest =>
      obtain ⟨rfl, hbx⟩ := hcut.out
      have HBx := Lib.hid (HBd.out.trans (hbx.mono HBd.out.size))
      have HZx := Lib.hid (Box.below HZd.out hbx HZd.out.lt)
      have HMx := Lib.hid (Box.below HMd.out hbx HMd.out.lt)
      have HXx := Lib.hid (Box.below HXd.out hbx HXd.out.lt)
      clear hbx hcut HBd HZd HMd HXd HRM hcE HMO
      by_cases hmk : m = mk9 m.epoch m.he
      · have HMK := Lib.hid (show m.kind = 9 ∧ m.epoch = m.seq from ⟨by rw [hmk]; rfl, by rw [hmk]; rfl⟩)
        have d1 : (!decide (m = mk9 m.epoch m.he)) = false := by rw [decide_eq_true hmk]; rfl
        rw [d1]
        clear hmk d1
        have cg : wc.cell? ⟨wa.heap.size, 1, none⟩ = some (.int .u64 (m.epoch : Int)) := (Box.cell HMx.out 1).trans rfl
        obtain ⟨g, hg⟩ : ∃ g, m.epoch = g := ⟨_, rfl⟩
        have hgl : g < 18446744073709551616 := by rw [← hg]; exact m.he
        have HHD2 := Lib.hid (show headOf l blocks = if Lay.stEnd (rq4 b) = 0 ∧ (headFrom g hgl b).rightB blocks = true then some (headFrom g hgl b) else none by
          subst hg
          rw [HHD.out]
          by_cases hc : Lay.stEnd (rq4 b) = 0 ∧ (headFrom m.epoch m.he b).rightB blocks = true
          · rw [if_pos ⟨HMK.out, hc⟩, if_pos hc]
          · rw [if_neg (fun e => hc e.2), if_neg hc])
        rw [hg] at cg
        clear hg HHD
        obtain ⟨P, hP⟩ : ∃ x, (⟨b.toArray⟩ : ByteArray) = x := ⟨_, rfl⟩
        obtain ⟨e1', he1'⟩ : ∃ x, Lay.stNumV (rq0 b) = x := ⟨_, rfl⟩
        obtain ⟨p2', hp2'⟩ : ∃ x, Lay.stSmallV 9223372036854775807 (rq1 b) = x := ⟨_, rfl⟩
        obtain ⟨s3', hs3'⟩ : ∃ x, Lay.stNumV (rq2 b) = x := ⟨_, rfl⟩
        obtain ⟨l4', hl4'⟩ : ∃ x, Lay.stSmallV 9223372036854775807 (rq3 b) = x := ⟨_, rfl⟩
        obtain ⟨we, hwe⟩ : ∃ x, wc.alloc (.cells #[.int .u64 0, .int .u64 0, .int .i64 0, .int .u64 0, .int .i64 0] 43) = x := ⟨_, rfl⟩
        have hbwe : Below wc.heap.size wc we := by rw [← hwe]; exact (Below.refl _ wc).alloc (Nat.le_refl _) _
        have hmwe : Box we wc.heap.size 43 (hv Hd.zero) := by rw [← hwe]; exact Box.made wc _ _
        obtain ⟨wf, hwf⟩ : ∃ x, we.setRow wc.heap.size (hv ⟨g, 0, 0, 0, 0, hgl, by omega, by omega, by omega, by omega⟩) = x := ⟨_, rfl⟩
        have hmwf : Box wf wc.heap.size 43 (hv ⟨g, 0, 0, 0, 0, hgl, by omega, by omega, by omega, by omega⟩) := by rw [← hwf]; exact setRow_heap _ _ _ _ _ _ hmwe
        have hbwf : Below wc.heap.size wc wf := hbwe.trans (by rw [← hwf]; exact (Below.refl _ we).grown (grown_row (grown_refl _ (some wc.heap.size)) _) hbwe.size (fun k e => by injection e with e; omega))
        have HMwe := Lib.hid hmwe
        have HWwf := Lib.hid hwf
        have hwcl : w.heap.size < wc.heap.size := HZx.out.lt
        have HBf := Lib.hid (HBx.out.trans (hbwf.mono HBx.out.size))
        have HZf := Lib.hid (Box.below HZx.out hbwf HZx.out.lt)
        have HHf := Lib.hid hmwf
        have hcv := conv_lies (lies_box (N := fun _ => True) (Box.below HXx.out hbwf HXx.out.lt) trivial (n := b.length) rfl)
        rw [hP] at hcv
        have HP := Lib.hid hP
        have hgf : wc.heap.size < wf.heap.size := hmwf.lt
        clear hbwf hmwf hwf hmwe hbwe hP HBx HZx HMx HXx
        go_upto_region 5 with (refine wpList_store_row rfl 43 _ _ rfl wc.heap.size (hv ⟨g, 0, 0, 0, 0, hgl, by omega, by omega, by omega, by omega⟩) rfl rfl 43 _ HMwe.out (by rw [hv_size]; exact hdInfo) rfl (hv_one _) ?_; rw [HWwf.out])
        obtain ⟨gh, hgh⟩ : ∃ x, wc.heap.size = x := ⟨_, rfl⟩
        rw [hgh] at hwcl HHf hgf ⊢
        clear hgh cg hwe HMwe HWwf
        obtain ⟨wg, hwg⟩ : ∃ x, wf.alloc (.cells #[.bool true, .string P, .int .i64 0] 120) = x := ⟨_, rfl⟩
        have hbwg : Below wf.heap.size wf wg := by rw [← hwg]; exact (Below.refl _ wf).alloc (Nat.le_refl _) _
        have hr0 : Lay.Rds wg wf.heap.size (rq0 b) := by rw [← hwg]; show Box _ _ _ #[.bool true, .string ⟨b.toArray⟩, .int .i64 0]; rw [HP.out]; exact Box.made wf _ _
        have HBg := Lib.hid (HBf.out.trans (hbwg.mono HBf.out.size))
        have HZg := Lib.hid (Box.below HZf.out hbwg HZf.out.lt)
        have HHg := Lib.hid (Box.below HHf.out hbwg HHf.out.lt)
        have hRA := Lay.read_any P wf
        rw [hwg] at hRA
        go_wp2_with fail
        refine hRA.mono ?_
        rintro r6 w6 ⟨rfl, hw6⟩
        obtain rfl : wg = w6 := hw6
        obtain ⟨gi, hgi⟩ : ∃ x, wf.heap.size = x := ⟨_, rfl⟩
        rw [hgi] at hr0 hgf ⊢
        have HR0 := Lib.hid hr0
        clear hRA hwg hbwg hr0 hgi HBf HZf HHf hcv HP
        have hbml : b.length ≤ maxLen := by unfold maxLen; omega

        -- the first two numbers
        go_wp2_with fail
        refine (Lay.number_rds HR0.out hbml).mono ?_
        rw [he1']
        rintro r7 w7 ⟨rfl, hr7, hg7⟩
        have hr7 : Lay.Rds w7 gi (rq1 b) := hr7
        have HR7 := Lib.hid hr7
        have HB7 := Lib.hid (below_grown HBg.out hg7 (by omega) HBg.out.size)
        have HZ7 := Lib.hid (Box.grown HZg.out hg7 (by simp; omega))
        have HH7 := Lib.hid (Box.grown HHg.out hg7 (by simp; omega))
        clear hr7 hg7 HR0 HBg HZg HHg
        go_wp2_with fail
        refine (Lay.small_rds HR7.out (Nat.le_trans (rq1_len b) hbml) 9223372036854775807 (by omega)).mono ?_
        rw [hp2']
        rintro r8 w8 ⟨rfl, hr8, hg8⟩
        have hr8 : Lay.Rds w8 gi (rq2 b) := hr8
        have hH8 := Box.grown HH7.out hg8 (by simp; omega)
        have hB8 := below_grown HB7.out hg8 (by omega) HB7.out.size
        have hZ8 := Box.grown HZ7.out hg8 (by simp; omega)
        have k1 : w8.cell? ⟨gh, 1, none⟩ = some (.int .u64 0) := (Box.cell hH8 1).trans rfl
        have f1 := Box.frozen hH8 1
        obtain ⟨wA, hwA⟩ : ∃ x, w8.setCell ⟨gh, 1, none⟩ (.int .u64 (e1' : Int)) = x := ⟨_, rfl⟩
        have hHA : Box wA gh 43 #[.int .u64 (g : Int), .int .u64 (e1' : Int), .int .i64 0, .int .u64 0, .int .i64 0] := by
          rw [← hwA]
          have := Box.put hH8 1 (.int .u64 (e1' : Int))
          simpa [hv] using this
        have gA : w8.grownBy wA (some gh) := by rw [← hwA]; exact grown_set (grown_refl _ _) _ _
        have k2 : wA.cell? ⟨gh, 2, none⟩ = some (.int .i64 0) := (Box.cell hHA 2).trans rfl
        have f2 := Box.frozen hHA 2
        obtain ⟨wB, hwB⟩ : ∃ x, wA.setCell ⟨gh, 2, none⟩ (.int .i64 (p2' : Int)) = x := ⟨_, rfl⟩
        have hHB : Box wB gh 43 #[.int .u64 (g : Int), .int .u64 (e1' : Int), .int .i64 (p2' : Int), .int .u64 0, .int .i64 0] := by
          rw [← hwB]
          have := Box.put hHA 2 (.int .i64 (p2' : Int))
          simpa using this
        have gB : w8.grownBy wB (some gh) := by rw [← hwB]; exact grown_set gA _ _
        have HRB := Lib.hid (show Lay.Rds wB gi (rq2 b) from Box.grown hr8 gB (by simp; omega))
        have HBB := Lib.hid (below_grown hB8 gB (by omega) hB8.size)
        have HZB := Lib.hid (Box.grown hZ8 gB (by simp; omega))
        have HHB := Lib.hid hHB
        clear hr8 hg8 hH8 hB8 hZ8 hHA gA hHB gB HR7 HB7 HZ7 HH7
        go_wp2_with fail
        clear k1 f1 k2 f2 hwA hwB
        refine (Lay.number_rds HRB.out (Nat.le_trans (rq2_len b) hbml)).mono ?_
        rw [hs3']
        rintro r7 w7 ⟨rfl, hr7, hg7⟩
        have hr7 : Lay.Rds w7 gi (rq3 b) := hr7
        have HR7 := Lib.hid hr7
        have HB7 := Lib.hid (below_grown HBB.out hg7 (by omega) HBB.out.size)
        have HZ7 := Lib.hid (Box.grown HZB.out hg7 (by simp; omega))
        have HH7 := Lib.hid (Box.grown HHB.out hg7 (by simp; omega))
        clear hr7 hg7 HRB HBB HZB HHB
        go_wp2_with fail
        refine (Lay.small_rds HR7.out (Nat.le_trans (rq3_len b) hbml) 9223372036854775807 (by omega)).mono ?_
        rw [hl4']
        rintro r8 w8 ⟨rfl, hr8, hg8⟩
        have hr8 : Lay.Rds w8 gi (rq4 b) := hr8
        have hH8 := Box.grown HH7.out hg8 (by simp; omega)
        have hB8 := below_grown HB7.out hg8 (by omega) HB7.out.size
        have hZ8 := Box.grown HZ7.out hg8 (by simp; omega)
        have k1 : w8.cell? ⟨gh, 3, none⟩ = some (.int .u64 0) := (Box.cell hH8 3).trans rfl
        have f1 := Box.frozen hH8 3
        obtain ⟨wC, hwC⟩ : ∃ x, w8.setCell ⟨gh, 3, none⟩ (.int .u64 (s3' : Int)) = x := ⟨_, rfl⟩
        have hHA : Box wC gh 43 #[.int .u64 (g : Int), .int .u64 (e1' : Int), .int .i64 (p2' : Int), .int .u64 (s3' : Int), .int .i64 0] := by
          rw [← hwC]
          have := Box.put hH8 3 (.int .u64 (s3' : Int))
          simpa using this
        have gA : w8.grownBy wC (some gh) := by rw [← hwC]; exact grown_set (grown_refl _ _) _ _
        have k2 : wC.cell? ⟨gh, 4, none⟩ = some (.int .i64 0) := (Box.cell hHA 4).trans rfl
        have f2 := Box.frozen hHA 4
        obtain ⟨wD, hwD⟩ : ∃ x, wC.setCell ⟨gh, 4, none⟩ (.int .i64 (l4' : Int)) = x := ⟨_, rfl⟩
        have hHB : Box wD gh 43 #[.int .u64 (g : Int), .int .u64 (e1' : Int), .int .i64 (p2' : Int), .int .u64 (s3' : Int), .int .i64 (l4' : Int)] := by
          rw [← hwD]
          have := Box.put hHA 4 (.int .i64 (l4' : Int))
          simpa using this
        have gB : w8.grownBy wD (some gh) := by rw [← hwD]; exact grown_set gA _ _
        obtain ⟨hd, hhd⟩ : ∃ x, headFrom g hgl b = x := ⟨_, rfl⟩
        have hvd : hv hd = #[.int .u64 (g : Int), .int .u64 (e1' : Int), .int .i64 (p2' : Int), .int .u64 (s3' : Int), .int .i64 (l4' : Int)] := by
          rw [← hhd, ← he1', ← hp2', ← hs3', ← hl4']
          rfl
        rw [← hvd] at hHB
        have HRD := Lib.hid (show Lay.Rds wD gi (rq4 b) from Box.grown hr8 gB (by simp; omega))
        have HBD := Lib.hid (below_grown hB8 gB (by omega) hB8.size)
        have HZD := Lib.hid (Box.grown hZ8 gB (by simp; omega))
        have HHD := Lib.hid hHB
        rw [hhd] at HHD2
        clear hr8 hg8 hH8 hB8 hZ8 hHA gA hHB gB HR7 HB7 HZ7 HH7 hvd hhd he1' hp2' hs3' hl4'
        go_wp2_with fail
        clear k1 f1 k2 f2 hwC hwD
        refine (Lay.end_rds HRD.out).mono ?_
        rintro r9 wE ⟨rfl, hwE⟩
        obtain rfl : wD = wE := hwE
        obtain ⟨en, hen⟩ : ∃ x, Lay.stEnd (rq4 b) = x := ⟨_, rfl⟩
        rw [hen] at HHD2 ⊢
        clear hen HRD
        by_cases h0 : en = 0
        · subst h0
          have HRI := Lib.hid (right_says wD hd blocks HBK.out)
          have q0 : wD.cell? ⟨gh, 0, none⟩ = some (.int .u64 (hd.gen : Int)) := (Box.cell HHD.out 0).trans rfl
          have q1 : wD.cell? ⟨gh, 1, none⟩ = some (.int .u64 (hd.epoch : Int)) := (Box.cell HHD.out 1).trans rfl
          have q2 : wD.cell? ⟨gh, 2, none⟩ = some (.int .i64 hd.pos) := (Box.cell HHD.out 2).trans rfl
          have q3 : wD.cell? ⟨gh, 3, none⟩ = some (.int .u64 (hd.seq : Int)) := (Box.cell HHD.out 3).trans rfl
          have q4 : wD.cell? ⟨gh, 4, none⟩ = some (.int .i64 hd.log) := (Box.cell HHD.out 4).trans rfl
          go_wp2_with fail
          clear q0 q1 q2 q3 q4
          refine HRI.out.mono ?_
          rintro r10 wF ⟨rfl, hbF⟩
          have HBF := Lib.hid (HBD.out.trans (hbF.mono HBD.out.size))
          have HZF := Lib.hid (Box.below HZD.out hbF HZD.out.lt)
          have HHF := Lib.hid (Box.below HHD.out hbF HHD.out.lt)
          clear hbF HBD HZD HHD
          cases hri : hd.rightB blocks with
          | true =>
            have HY := Lib.hid (show headOf l blocks = some hd by rw [HHD2.out, if_pos (by simp [hri])])
            clear hri
            obtain ⟨w9, hw9⟩ : ∃ x, wF.setRow w.heap.size (hv hd) = x := ⟨_, rfl⟩
            have hm9 : Box w9 w.heap.size 43 (hv hd) := by rw [← hw9]; exact setRow_heap _ _ _ _ _ _ HZF.out
            have HB9 := Lib.hid (show Below w.heap.size w w9 from HBF.out.trans (by rw [← hw9]; exact (Below.refl _ wF).grown (grown_row (grown_refl _ (some w.heap.size)) _) HBF.out.size (fun k e => by injection e with e; omega)))
            have e0 : w9.cell? ⟨w.heap.size, 0, none⟩ = some (.int .u64 (hd.gen : Int)) := (Box.cell hm9 0).trans rfl
            have e1 : w9.cell? ⟨w.heap.size, 1, none⟩ = some (.int .u64 (hd.epoch : Int)) := (Box.cell hm9 1).trans rfl
            have e2 : w9.cell? ⟨w.heap.size, 2, none⟩ = some (.int .i64 hd.pos) := (Box.cell hm9 2).trans rfl
            have e3 : w9.cell? ⟨w.heap.size, 3, none⟩ = some (.int .u64 (hd.seq : Int)) := (Box.cell hm9 3).trans rfl
            have e4 : w9.cell? ⟨w.heap.size, 4, none⟩ = some (.int .i64 hd.log) := (Box.cell hm9 4).trans rfl
            have HW9 := Lib.hid hw9
            clear hm9 hw9
            go_wp2_with (first
              | (refine wpList_load_row rfl 43 _ rfl gh rfl 43 _ (0, 0) _ HHF.out Try.underlying43 rfl (by rw [hv_size]; exact hdInfo) ?_)
              | (refine wpList_store_row rfl 43 _ _ rfl w.heap.size (hv hd) rfl rfl 43 _ HZF.out (by rw [hv_size]; exact hdInfo) rfl (hv_one _) ?_; rw [HW9.out]))
            exact bodyPost_ret (v := .tuple #[.agg (hv hd), .bool true]) (by simp [results, Try.results47, go_sem, e0, e1, e2, e3, e4, hv]) rfl ⟨fun hh => (by rw [HY.out] at hh; cases hh), fun h hh => (by rw [HY.out] at hh; injection hh with hh; rw [hh]), HB9.out⟩
          | false =>
            have HN := Lib.hid (show headOf l blocks = none by rw [HHD2.out, if_neg (by simp [hri])])
            clear hri
            obtain ⟨w9, hw9⟩ : ∃ x, wF.setRow w.heap.size (hv Hd.zero) = x := ⟨_, rfl⟩
            have hm9 : Box w9 w.heap.size 43 (hv Hd.zero) := by rw [← hw9]; exact setRow_heap _ _ _ _ _ _ HZF.out
            have HB9 := Lib.hid (show Below w.heap.size w w9 from HBF.out.trans (by rw [← hw9]; exact (Below.refl _ wF).grown (grown_row (grown_refl _ (some w.heap.size)) _) HBF.out.size (fun k e => by injection e with e; omega)))
            have e0 : w9.cell? ⟨w.heap.size, 0, none⟩ = some (.int .u64 (Hd.zero.gen : Int)) := (Box.cell hm9 0).trans rfl
            have e1 : w9.cell? ⟨w.heap.size, 1, none⟩ = some (.int .u64 (Hd.zero.epoch : Int)) := (Box.cell hm9 1).trans rfl
            have e2 : w9.cell? ⟨w.heap.size, 2, none⟩ = some (.int .i64 Hd.zero.pos) := (Box.cell hm9 2).trans rfl
            have e3 : w9.cell? ⟨w.heap.size, 3, none⟩ = some (.int .u64 (Hd.zero.seq : Int)) := (Box.cell hm9 3).trans rfl
            have e4 : w9.cell? ⟨w.heap.size, 4, none⟩ = some (.int .i64 Hd.zero.log) := (Box.cell hm9 4).trans rfl
            have HW9 := Lib.hid hw9
            clear hm9 hw9
            go_wp2_with (refine wpList_store_row rfl 43 _ _ rfl w.heap.size (hv Hd.zero) rfl rfl 43 _ HZF.out (by rw [hv_size]; exact hdInfo) rfl (hv_one _) ?_; rw [HW9.out])
            exact bodyPost_ret (v := .tuple #[.agg (hv Hd.zero), .bool false]) (by simp [results, Try.results47, go_sem, e0, e1, e2, e3, e4, hv]) rfl ⟨fun _ => rfl, fun h hh => (by rw [HN.out] at hh; cases hh), HB9.out⟩
        · have d0 : (en != 0) = true := by rw [bne_iff_ne]; exact h0
          have HN := Lib.hid (show headOf l blocks = none by rw [HHD2.out, if_neg (fun e => h0 e.1)])
          clear h0
          obtain ⟨w9, hw9⟩ : ∃ x, wD.setRow w.heap.size (hv Hd.zero) = x := ⟨_, rfl⟩
          have hm9 : Box w9 w.heap.size 43 (hv Hd.zero) := by rw [← hw9]; exact setRow_heap _ _ _ _ _ _ HZD.out
          have HB9 := Lib.hid (show Below w.heap.size w w9 from HBD.out.trans (by rw [← hw9]; exact (Below.refl _ wD).grown (grown_row (grown_refl _ (some w.heap.size)) _) HBD.out.size (fun k e => by injection e with e; omega)))
          have e0 : w9.cell? ⟨w.heap.size, 0, none⟩ = some (.int .u64 (Hd.zero.gen : Int)) := (Box.cell hm9 0).trans rfl
          have e1 : w9.cell? ⟨w.heap.size, 1, none⟩ = some (.int .u64 (Hd.zero.epoch : Int)) := (Box.cell hm9 1).trans rfl
          have e2 : w9.cell? ⟨w.heap.size, 2, none⟩ = some (.int .i64 Hd.zero.pos) := (Box.cell hm9 2).trans rfl
          have e3 : w9.cell? ⟨w.heap.size, 3, none⟩ = some (.int .u64 (Hd.zero.seq : Int)) := (Box.cell hm9 3).trans rfl
          have e4 : w9.cell? ⟨w.heap.size, 4, none⟩ = some (.int .i64 Hd.zero.log) := (Box.cell hm9 4).trans rfl
          have HW9 := Lib.hid hw9
          clear hm9 hw9
          go_wp2_with (refine wpList_store_row rfl 43 _ _ rfl w.heap.size (hv Hd.zero) rfl rfl 43 _ HZD.out (by rw [hv_size]; exact hdInfo) rfl (hv_one _) ?_; rw [HW9.out])
          exact bodyPost_ret (v := .tuple #[.agg (hv Hd.zero), .bool false]) (by simp [results, Try.results47, go_sem, e0, e1, e2, e3, e4, hv]) rfl ⟨fun _ => rfl, fun h hh => (by rw [HN.out] at hh; cases hh), HB9.out⟩
      · have HN := Lib.hid (show headOf l blocks = none by
          rw [HHD.out, if_neg]
          rintro ⟨⟨hk, hs⟩, _⟩
          exact hmk (Mk.ext' hk rfl hs.symm))
        have d1 : (!decide (m = mk9 m.epoch m.he)) = true := by rw [decide_eq_false hmk]; rfl
        rw [d1]
        clear hmk d1
        obtain ⟨w9, hw9⟩ : ∃ x, wc.setRow w.heap.size (hv Hd.zero) = x := ⟨_, rfl⟩
        have hm9 : Box w9 w.heap.size 43 (hv Hd.zero) := by rw [← hw9]; exact setRow_heap _ _ _ _ _ _ HZx.out
        have HB9 := Lib.hid (show Below w.heap.size w w9 from HBx.out.trans (by rw [← hw9]; exact (Below.refl _ wc).grown (grown_row (grown_refl _ (some w.heap.size)) _) HBx.out.size (fun k e => by injection e with e; omega)))
        have e0 : w9.cell? ⟨w.heap.size, 0, none⟩ = some (.int .u64 (Hd.zero.gen : Int)) := (Box.cell hm9 0).trans rfl
        have e1 : w9.cell? ⟨w.heap.size, 1, none⟩ = some (.int .u64 (Hd.zero.epoch : Int)) := (Box.cell hm9 1).trans rfl
        have e2 : w9.cell? ⟨w.heap.size, 2, none⟩ = some (.int .i64 Hd.zero.pos) := (Box.cell hm9 2).trans rfl
        have e3 : w9.cell? ⟨w.heap.size, 3, none⟩ = some (.int .u64 (Hd.zero.seq : Int)) := (Box.cell hm9 3).trans rfl
        have e4 : w9.cell? ⟨w.heap.size, 4, none⟩ = some (.int .i64 Hd.zero.log) := (Box.cell hm9 4).trans rfl
        have HW9 := Lib.hid hw9
        clear hm9 hw9
        go_wp2_with (refine wpList_store_row rfl 43 _ _ rfl w.heap.size (hv Hd.zero) rfl rfl 43 _ HZx.out (by rw [hv_size]; exact hdInfo) rfl (hv_one _) ?_; rw [HW9.out])
        exact bodyPost_ret (v := .tuple #[.agg (hv Hd.zero), .bool false]) (by simp [results, Try.results47, go_sem, e0, e1, e2, e3, e4, hv]) rfl ⟨fun _ => rfl, fun h hh => (by rw [HN.out] at hh; cases hh), HB9.out⟩
end Go.Proofs.Ythpfdenpgegheaa
namespace Go.Proofs.Ythpfdenpgegheaa
open Go.RowKit

theorem int_beq (a b : Int) : (a == b) = decide (a = b) := by
  by_cases h : a = b <;> simp [h]
theorem hd_eq_iff (x y : Hd) : decide (x = y) = (((x.gen : Int) == (y.gen : Int)) && (((x.epoch : Int) == (y.epoch : Int)) && ((x.pos == y.pos) && (((x.seq : Int) == (y.seq : Int)) && (x.log == y.log))))) := by
  rw [cast_beq, cast_beq, int_beq, cast_beq, int_beq, ← Bool.decide_and, ← Bool.decide_and, ← Bool.decide_and, ← Bool.decide_and, decide_eq_decide]
  constructor
  · rintro rfl
    exact ⟨rfl, rfl, rfl, rfl, rfl⟩
  · rintro ⟨h1, h2, h3, h4, h5⟩
    exact Hd.ext' h1 h2 h3 h4 h5
set_option maxRecDepth 100000 in
set_option maxHeartbeats 4000000 in
theorem equal_hd (x y : Hd) (d : Nat) (w : World) : (Op.equalIn (d + 6) 43 (.agg (hv x)) (.agg (hv y))).run Try.prog w = .ok (decide (x = y)) w := by
  rw [hd_eq_iff]
  simp only [hv]
  go_simp
  by_cases e1 : (x.gen : Int) = (y.gen : Int) <;> by_cases e2 : (x.epoch : Int) = (y.epoch : Int) <;> by_cases e3 : x.pos = y.pos <;> by_cases e4 : (x.seq : Int) = (y.seq : Int) <;> by_cases e5 : x.log = y.log <;> simp [e1, e2, e3, e4, e5]
theorem eqlHd : EqlAt Try.prog 43 (fun m : Hd => .agg (hv m)) (fun x y => decide (x = y)) :=
  ⟨fun x y w => by
    rw [run_eql_struct, show (10000 : Nat) = 9994 + 6 from rfl]
    have h := equal_hd x y 9994 w
    generalize 9994 + 6 = d at h ⊢
    rw [h]
    rfl, GuardAt.agg _ (by kernel_rfl)⟩
theorem neqHd : (∀ (x y : Hd) (w : World), (binOp .neq 43 (.agg (hv x)) (.agg (hv y))).run Try.prog w = .ok (.bool (!decide (x = y))) w) ∧ GuardAt Try.prog 43 (fun m : Hd => .agg (hv m)) :=
  ⟨fun x y w => by
    rw [run_neq_struct, show (10000 : Nat) = 9994 + 6 from rfl]
    have h := equal_hd x y 9994 w
    generalize 9994 + 6 = d at h ⊢
    rw [h]
    rfl, GuardAt.agg _ (by kernel_rfl)⟩
section
variable {ops : Array Oper} {C : World → Prop} {K : Act → Prop} {o : Oper} {rest : List Oper} {a : Act}
theorem wpList_eql_hd {Q : Exit → Act → World → Prop} {w : World} (hw : Region.wanted o (yielded ops a.tmps) = true) (p q : Operand) (ho : o.op = .binOp .eql 43 p q 43) (x y : Hd) (r : Bool) (hr : decide (x = y) = r) (hx : a.eval p = .agg (hv x)) (hy : a.eval q = .agg (hv y))
    (h : wpList Try.prog ops Q rest (a.put o.dst (.bool r)) w) : wpList Try.prog ops Q (o :: rest) a w :=
  wpList_step fun K hK => by
    simp only [hw, if_true]
    unfold Oper.wp execOp
    simp only [ho, hx, hy, Sem.run_bind, eqlHd.2 .eql p q x y w, eqlHd.1 x y w, Result.andThen_ok, Sem.run_pure, hr]
    exact hK _ _ h
end
end Go.Proofs.Ythpfdenpgegheaa
