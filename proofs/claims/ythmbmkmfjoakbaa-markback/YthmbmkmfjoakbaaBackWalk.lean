/-
  MarkBack, walked.
-/
import Derived.Test.YthmbmkmfjoakbaaOneM
namespace Go.Proofs.Ythmbmkmfjoakbaa
open Go.RowKit

set_option linter.unusedVariables false
set_option maxRecDepth 100000 in
set_option maxHeartbeats 16000000 in
theorem markBack_walk (w : World) (m : Mk) (A : Option Addr) (n c : Nat) (l : List UInt8) (hl : Lies w (fun _ => True) A n c (bc l)) (A2 : Option Addr) (n2 c2 : Nat) (l2 : List UInt8) (hl2 : Lies w (fun _ => True) A2 n2 c2 (bc l2)) :
    Calls Try.prog 6 #[.agg (mv m), .slice A n c, .slice A2 n2 c2] w fun e w' => e = .returned (.bool true) ∧ Below w.heap.size w w' := by
  have HLL2 := Lib.hid (show l2.length = n2 by rw [← bc_length]; exact hl2.len)
  have HL := Lib.hid (hl.weak (N' := fun b => b < w.heap.size) (fun b h _ => h))
  have HL2 := Lib.hid (hl2.weak (N' := fun b => b < w.heap.size) (fun b h _ => h))
  clear hl hl2
  obtain ⟨w1, hw1⟩ : ∃ w1, w.alloc (.cells #[.int .u8 (m.kind.toNat : Int), .int .u64 (m.epoch : Int), .int .u64 (m.seq : Int)] 24) = w1 := ⟨_, rfl⟩
  have hb1 : Below w.heap.size w w1 := by rw [← hw1]; exact (Below.refl _ w).alloc (Nat.le_refl _) _
  have HM1 := Lib.hid (show Box w1 w.heap.size 24 (mv m) by rw [← hw1]; exact Box.made w _ _)
  have HB1 := Lib.hid hb1
  clear hb1
  by_cases hbig : 220 < n
  · have g1 : 220 < (n : Int) := by omega
    go_enter Try.func6, Try.ntmps6
    simp only [mv]
    go_wp2
    go_ret
    exact ⟨rfl, HB1.out⟩
  have g1 : ¬ 220 < (n : Int) := by omega
  by_cases hbig2 : 400 < n2
  · have g2 : 400 < (n2 : Int) := by omega
    go_enter Try.func6, Try.ntmps6
    simp only [mv]
    go_wp2
    go_ret
    exact ⟨rfl, HB1.out⟩
  have g2 : ¬ 400 < (n2 : Int) := by omega
  cases hmay : m.may with
  | false =>
    go_enter Try.func6, Try.ntmps6
    simp only [mv]
    go_wp2_with (refine wpList_load_row rfl 24 _ rfl w.heap.size rfl 24 _ (0, 0) _ HM1.out Try.underlying24 rfl (by rw [mv_size]; exact mkInfo) ?_)
    refine (seal_kind w1 m hmay A n c).mono ?_
    rintro e w2 ⟨rfl, hb2⟩
    have hm2 := Box.below HM1.out hb2 HM1.out.lt
    have c0 : w2.cell? ⟨w.heap.size, 0, none⟩ = some (.int .u8 (m.kind.toNat : Int)) := (Box.cell hm2 0).trans rfl
    have HB := Lib.hid (HB1.out.trans (hb2.mono HB1.out.size))
    have hk : m.kind = 0 ∨ m.kind = 3 := by
      rw [Mk.may, Bool.and_eq_false_iff] at hmay
      rcases hmay with h | h
      · exact .inl (by simpa using h)
      · exact .inr (by simpa using h)
    clear hb2 hm2 hw1 hmay
    rcases hk with hk | hk
    · rw [hk] at c0
      have c0 : w2.cell? ⟨w.heap.size, 0, none⟩ = some (.int .u8 0) := c0
      clear hk
      by_cases h256 : n2 = 256
      · subst h256
        go_wp2_with fail
        refine (open_says w2 A2 c2 l2 ((HL2.out.below HB.out).weak (fun _ _ _ => trivial))).mono ?_
        rintro e wa ⟨hno, hyes, hba⟩
        cases hop : opens l2 with
        | none =>
          obtain rfl := hno hop
          obtain ⟨wb, hwb⟩ : ∃ x, wa.alloc (.cells #[.int .u8 0, .int .u64 0, .int .u64 0] 24) = x := ⟨_, rfl⟩
          have hbwb : Below wa.heap.size wa wb := by rw [← hwb]; exact (Below.refl _ wa).alloc (Nat.le_refl _) _
          have hmwb : Box wb wa.heap.size 24 (mv Mk.zero) := by rw [← hwb]; exact Box.made wa _ _
          obtain ⟨wd, hwd⟩ : ∃ x, wb.setRow wa.heap.size (mv Mk.zero) = x := ⟨_, rfl⟩
          have hmwd : Box wd wa.heap.size 24 (mv Mk.zero) := by rw [← hwd]; exact setRow_heap _ _ _ _ _ _ hmwb
          have hbwd : Below wa.heap.size wa wd := hbwb.trans (by rw [← hwd]; exact (Below.refl _ wb).grown (grown_row (grown_refl _ (some wa.heap.size)) _) hbwb.size (fun k e => by injection e with e; omega))
          have HMwb := Lib.hid hmwb
          have HWwd := Lib.hid hwd
          have HD := Lib.hid (HB.out.trans ((hba.trans (hbwd.mono hba.size)).mono HB.out.size))
          clear hno hyes hba hop hbwb hmwb hwd hmwd hbwd HB
          go_wp2_with (refine wpList_store_row rfl 24 _ _ rfl wa.heap.size (mv Mk.zero) rfl rfl 24 _ HMwb.out (by rw [mv_size]; exact mkInfo) rfl (mv_one _) ?_; rw [HWwd.out])
          refine (one_says wd).mono ?_
          rintro e wz ⟨rfl, hbz⟩
          have HZ := Lib.hid (HD.out.trans (hbz.mono HD.out.size))
          clear hbz
          go_wp2
          go_ret
          exact ⟨rfl, HZ.out⟩
        | some zt =>
          obtain ⟨z, t⟩ := zt
          obtain ⟨gs, rfl, hgs, hxt⟩ := hyes z t hop
          obtain ⟨hzm, htl, hse⟩ := opens_some HLL2.out hop
          obtain ⟨wb, hwb⟩ : ∃ x, wa.alloc (.cells #[.int .u8 0, .int .u64 0, .int .u64 0] 24) = x := ⟨_, rfl⟩
          have hbwb : Below wa.heap.size wa wb := by rw [← hwb]; exact (Below.refl _ wa).alloc (Nat.le_refl _) _
          have hmwb : Box wb wa.heap.size 24 (mv Mk.zero) := by rw [← hwb]; exact Box.made wa _ _
          obtain ⟨wd, hwd⟩ : ∃ x, wb.setRow wa.heap.size (mv z) = x := ⟨_, rfl⟩
          have hmwd : Box wd wa.heap.size 24 (mv z) := by rw [← hwd]; exact setRow_heap _ _ _ _ _ _ hmwb
          have hbwd : Below wa.heap.size wa wd := hbwb.trans (by rw [← hwd]; exact (Below.refl _ wb).grown (grown_row (grown_refl _ (some wa.heap.size)) _) hbwb.size (fun k e => by injection e with e; omega))
          have HMwb := Lib.hid hmwb
          have HWwd := Lib.hid hwd
          have HD := Lib.hid (HB.out.trans ((hba.trans (hbwd.mono hba.size)).mono HB.out.size))
          have HMD := Lib.hid hmwd
          have hlt := lies_box (N := fun _ => True) (Box.below hxt hbwd hxt.lt) trivial (n := t.length) rfl
          have HLT := Lib.hid hlt
          have HSE := Lib.hid hse
          clear hno hyes hba hop hbwb hmwb hwd hmwd hbwd HB hgs hxt hlt hse
          go_wp2_with (first
            | (refine wpList_store_row rfl 24 _ _ rfl wa.heap.size (mv z) rfl rfl 24 _ HMwb.out (by rw [mv_size]; exact mkInfo) rfl (mv_one _) ?_; rw [HWwd.out])
            | (refine wpList_load_row rfl 24 _ rfl wa.heap.size rfl 24 _ (0, 0) _ HMD.out Try.underlying24 rfl (by rw [mv_size]; exact mkInfo) ?_))
          refine (seal_yes wd z hzm _ t.length t.length t HLT.out htl).mono ?_
          rintro e wx ⟨gx, rfl, hgx, hxx, hbx⟩
          obtain ⟨PT, hPT⟩ : ∃ y, (⟨l2.toArray⟩ : ByteArray) = y := ⟨_, rfl⟩
          have cs1 := conv_lies (lies_box (N := fun _ => True) hxx trivial (sealed_length z t htl))
          have cs2 := conv_lies ((HL2.out.below HD.out).below hbx)
          rw [← HSE.out, hPT] at cs1
          rw [hPT] at cs2
          have HX := Lib.hid (HD.out.trans (hbx.mono HD.out.size))
          clear hgx hxx hbx hPT HD hwb
          go_wp2_with fail
          refine (one_says wx).mono ?_
          rintro e wz ⟨rfl, hbz⟩
          have HZ := Lib.hid (HX.out.trans (hbz.mono HX.out.size))
          clear hbz
          go_wp2
          go_ret
          exact ⟨rfl, HZ.out⟩
      · go_wp2_with fail
        refine (open_arg w2 A2 n2 c2 h256).mono ?_
        rintro e wa ⟨rfl, hba⟩
        obtain ⟨wb, hwb⟩ : ∃ x, wa.alloc (.cells #[.int .u8 0, .int .u64 0, .int .u64 0] 24) = x := ⟨_, rfl⟩
        have hbwb : Below wa.heap.size wa wb := by rw [← hwb]; exact (Below.refl _ wa).alloc (Nat.le_refl _) _
        have hmwb : Box wb wa.heap.size 24 (mv Mk.zero) := by rw [← hwb]; exact Box.made wa _ _
        obtain ⟨wd, hwd⟩ : ∃ x, wb.setRow wa.heap.size (mv Mk.zero) = x := ⟨_, rfl⟩
        have hmwd : Box wd wa.heap.size 24 (mv Mk.zero) := by rw [← hwd]; exact setRow_heap _ _ _ _ _ _ hmwb
        have hbwd : Below wa.heap.size wa wd := hbwb.trans (by rw [← hwd]; exact (Below.refl _ wb).grown (grown_row (grown_refl _ (some wa.heap.size)) _) hbwb.size (fun k e => by injection e with e; omega))
        have HMwb := Lib.hid hmwb
        have HWwd := Lib.hid hwd
        have HD := Lib.hid (HB.out.trans ((hba.trans (hbwd.mono hba.size)).mono HB.out.size))
        clear hba hbwb hmwb hwd hmwd hbwd HB h256
        go_wp2_with (refine wpList_store_row rfl 24 _ _ rfl wa.heap.size (mv Mk.zero) rfl rfl 24 _ HMwb.out (by rw [mv_size]; exact mkInfo) rfl (mv_one _) ?_; rw [HWwd.out])
        refine (one_says wd).mono ?_
        rintro e wz ⟨rfl, hbz⟩
        have HZ := Lib.hid (HD.out.trans (hbz.mono HD.out.size))
        clear hbz
        go_wp2
        go_ret
        exact ⟨rfl, HZ.out⟩
    · rw [hk] at c0
      have c0 : w2.cell? ⟨w.heap.size, 0, none⟩ = some (.int .u8 3) := c0
      clear hk
      by_cases h256 : n2 = 256
      · subst h256
        go_wp2_with fail
        refine (open_says w2 A2 c2 l2 ((HL2.out.below HB.out).weak (fun _ _ _ => trivial))).mono ?_
        rintro e wa ⟨hno, hyes, hba⟩
        cases hop : opens l2 with
        | none =>
          obtain rfl := hno hop
          obtain ⟨wb, hwb⟩ : ∃ x, wa.alloc (.cells #[.int .u8 0, .int .u64 0, .int .u64 0] 24) = x := ⟨_, rfl⟩
          have hbwb : Below wa.heap.size wa wb := by rw [← hwb]; exact (Below.refl _ wa).alloc (Nat.le_refl _) _
          have hmwb : Box wb wa.heap.size 24 (mv Mk.zero) := by rw [← hwb]; exact Box.made wa _ _
          obtain ⟨wd, hwd⟩ : ∃ x, wb.setRow wa.heap.size (mv Mk.zero) = x := ⟨_, rfl⟩
          have hmwd : Box wd wa.heap.size 24 (mv Mk.zero) := by rw [← hwd]; exact setRow_heap _ _ _ _ _ _ hmwb
          have hbwd : Below wa.heap.size wa wd := hbwb.trans (by rw [← hwd]; exact (Below.refl _ wb).grown (grown_row (grown_refl _ (some wa.heap.size)) _) hbwb.size (fun k e => by injection e with e; omega))
          have HMwb := Lib.hid hmwb
          have HWwd := Lib.hid hwd
          have HD := Lib.hid (HB.out.trans ((hba.trans (hbwd.mono hba.size)).mono HB.out.size))
          clear hno hyes hba hop hbwb hmwb hwd hmwd hbwd HB
          go_wp2_with (refine wpList_store_row rfl 24 _ _ rfl wa.heap.size (mv Mk.zero) rfl rfl 24 _ HMwb.out (by rw [mv_size]; exact mkInfo) rfl (mv_one _) ?_; rw [HWwd.out])
          refine (one_says wd).mono ?_
          rintro e wz ⟨rfl, hbz⟩
          have HZ := Lib.hid (HD.out.trans (hbz.mono HD.out.size))
          clear hbz
          go_wp2
          go_ret
          exact ⟨rfl, HZ.out⟩
        | some zt =>
          obtain ⟨z, t⟩ := zt
          obtain ⟨gs, rfl, hgs, hxt⟩ := hyes z t hop
          obtain ⟨hzm, htl, hse⟩ := opens_some HLL2.out hop
          obtain ⟨wb, hwb⟩ : ∃ x, wa.alloc (.cells #[.int .u8 0, .int .u64 0, .int .u64 0] 24) = x := ⟨_, rfl⟩
          have hbwb : Below wa.heap.size wa wb := by rw [← hwb]; exact (Below.refl _ wa).alloc (Nat.le_refl _) _
          have hmwb : Box wb wa.heap.size 24 (mv Mk.zero) := by rw [← hwb]; exact Box.made wa _ _
          obtain ⟨wd, hwd⟩ : ∃ x, wb.setRow wa.heap.size (mv z) = x := ⟨_, rfl⟩
          have hmwd : Box wd wa.heap.size 24 (mv z) := by rw [← hwd]; exact setRow_heap _ _ _ _ _ _ hmwb
          have hbwd : Below wa.heap.size wa wd := hbwb.trans (by rw [← hwd]; exact (Below.refl _ wb).grown (grown_row (grown_refl _ (some wa.heap.size)) _) hbwb.size (fun k e => by injection e with e; omega))
          have HMwb := Lib.hid hmwb
          have HWwd := Lib.hid hwd
          have HD := Lib.hid (HB.out.trans ((hba.trans (hbwd.mono hba.size)).mono HB.out.size))
          have HMD := Lib.hid hmwd
          have hlt := lies_box (N := fun _ => True) (Box.below hxt hbwd hxt.lt) trivial (n := t.length) rfl
          have HLT := Lib.hid hlt
          have HSE := Lib.hid hse
          clear hno hyes hba hop hbwb hmwb hwd hmwd hbwd HB hgs hxt hlt hse
          go_wp2_with (first
            | (refine wpList_store_row rfl 24 _ _ rfl wa.heap.size (mv z) rfl rfl 24 _ HMwb.out (by rw [mv_size]; exact mkInfo) rfl (mv_one _) ?_; rw [HWwd.out])
            | (refine wpList_load_row rfl 24 _ rfl wa.heap.size rfl 24 _ (0, 0) _ HMD.out Try.underlying24 rfl (by rw [mv_size]; exact mkInfo) ?_))
          refine (seal_yes wd z hzm _ t.length t.length t HLT.out htl).mono ?_
          rintro e wx ⟨gx, rfl, hgx, hxx, hbx⟩
          obtain ⟨PT, hPT⟩ : ∃ y, (⟨l2.toArray⟩ : ByteArray) = y := ⟨_, rfl⟩
          have cs1 := conv_lies (lies_box (N := fun _ => True) hxx trivial (sealed_length z t htl))
          have cs2 := conv_lies ((HL2.out.below HD.out).below hbx)
          rw [← HSE.out, hPT] at cs1
          rw [hPT] at cs2
          have HX := Lib.hid (HD.out.trans (hbx.mono HD.out.size))
          clear hgx hxx hbx hPT HD hwb
          go_wp2_with fail
          refine (one_says wx).mono ?_
          rintro e wz ⟨rfl, hbz⟩
          have HZ := Lib.hid (HX.out.trans (hbz.mono HX.out.size))
          clear hbz
          go_wp2
          go_ret
          exact ⟨rfl, HZ.out⟩
      · go_wp2_with fail
        refine (open_arg w2 A2 n2 c2 h256).mono ?_
        rintro e wa ⟨rfl, hba⟩
        obtain ⟨wb, hwb⟩ : ∃ x, wa.alloc (.cells #[.int .u8 0, .int .u64 0, .int .u64 0] 24) = x := ⟨_, rfl⟩
        have hbwb : Below wa.heap.size wa wb := by rw [← hwb]; exact (Below.refl _ wa).alloc (Nat.le_refl _) _
        have hmwb : Box wb wa.heap.size 24 (mv Mk.zero) := by rw [← hwb]; exact Box.made wa _ _
        obtain ⟨wd, hwd⟩ : ∃ x, wb.setRow wa.heap.size (mv Mk.zero) = x := ⟨_, rfl⟩
        have hmwd : Box wd wa.heap.size 24 (mv Mk.zero) := by rw [← hwd]; exact setRow_heap _ _ _ _ _ _ hmwb
        have hbwd : Below wa.heap.size wa wd := hbwb.trans (by rw [← hwd]; exact (Below.refl _ wb).grown (grown_row (grown_refl _ (some wa.heap.size)) _) hbwb.size (fun k e => by injection e with e; omega))
        have HMwb := Lib.hid hmwb
        have HWwd := Lib.hid hwd
        have HD := Lib.hid (HB.out.trans ((hba.trans (hbwd.mono hba.size)).mono HB.out.size))
        clear hba hbwb hmwb hwd hmwd hbwd HB h256
        go_wp2_with (refine wpList_store_row rfl 24 _ _ rfl wa.heap.size (mv Mk.zero) rfl rfl 24 _ HMwb.out (by rw [mv_size]; exact mkInfo) rfl (mv_one _) ?_; rw [HWwd.out])
        refine (one_says wd).mono ?_
        rintro e wz ⟨rfl, hbz⟩
        have HZ := Lib.hid (HD.out.trans (hbz.mono HD.out.size))
        clear hbz
        go_wp2
        go_ret
        exact ⟨rfl, HZ.out⟩
  | true =>
    go_enter Try.func6, Try.ntmps6
    simp only [mv]
    go_wp2_with (refine wpList_load_row rfl 24 _ rfl w.heap.size rfl 24 _ (0, 0) _ HM1.out Try.underlying24 rfl (by rw [mv_size]; exact mkInfo) ?_)
    refine (seal_yes w1 m hmay A n c l ((HL.out.below HB1.out).weak (fun _ _ _ => trivial)) (by omega)).mono ?_
    rintro e w2 ⟨g, rfl, hg, hx2, hb2⟩
    have hln : l.length ≤ 220 := by have h1 := HL.out.len; rw [bc_length] at h1; omega
    have H2 := Lib.hid (HB1.out.trans (hb2.mono HB1.out.size))
    have hm2 := Box.below HM1.out hb2 HM1.out.lt
    have HM2 := Lib.hid hm2
    have hl2' := lies_box (N := fun _ => True) hx2 trivial (sealed_length m l hln)
    have HS := Lib.hid hl2'
    clear hg hx2 hb2 hm2 hl2' hw1
    go_wp2_with fail
    refine (open_says w2 _ 256 _ HS.out).mono ?_
    rintro e w5 ⟨_, hy, hb5⟩
    obtain ⟨gs, rfl, hgs, hx5⟩ := hy m l (opens_sealed m l hln hmay)
    obtain ⟨w6, hw6⟩ : ∃ x, w5.alloc (.cells #[.int .u8 0, .int .u64 0, .int .u64 0] 24) = x := ⟨_, rfl⟩
    have hbw6 : Below w5.heap.size w5 w6 := by rw [← hw6]; exact (Below.refl _ w5).alloc (Nat.le_refl _) _
    have hmw6 : Box w6 w5.heap.size 24 (mv Mk.zero) := by rw [← hw6]; exact Box.made w5 _ _
    obtain ⟨w7, hw7⟩ : ∃ x, w6.setRow w5.heap.size (mv m) = x := ⟨_, rfl⟩
    have hmw7 : Box w7 w5.heap.size 24 (mv m) := by rw [← hw7]; exact setRow_heap _ _ _ _ _ _ hmw6
    have hbw7 : Below w5.heap.size w5 w7 := hbw6.trans (by rw [← hw7]; exact (Below.refl _ w6).grown (grown_row (grown_refl _ (some w5.heap.size)) _) hbw6.size (fun k e => by injection e with e; omega))
    have HMw6 := Lib.hid hmw6
    have HWw7 := Lib.hid hw7
    obtain ⟨PS, hPS⟩ : ∃ y, (⟨l.toArray⟩ : ByteArray) = y := ⟨_, rfl⟩
    have hbz := hb5.trans (hbw7.mono hb5.size)
    have cs1 := conv_lies (lies_box (N := fun _ => True) (Box.below hx5 hbw7 hx5.lt) trivial (n := l.length) rfl)
    have cs2 := conv_lies ((HL.out.below H2.out).below hbz)
    rw [hPS] at cs1 cs2
    have hxm := Box.below HM2.out hbz HM2.out.lt
    have a0 : w7.cell? ⟨w.heap.size, 0, none⟩ = some (.int .u8 (m.kind.toNat : Int)) := (Box.cell hxm 0).trans rfl
    have a1 : w7.cell? ⟨w.heap.size, 1, none⟩ = some (.int .u64 (m.epoch : Int)) := (Box.cell hxm 1).trans rfl
    have a2 : w7.cell? ⟨w.heap.size, 2, none⟩ = some (.int .u64 (m.seq : Int)) := (Box.cell hxm 2).trans rfl
    have x0 : w7.cell? ⟨w5.heap.size, 0, none⟩ = some (.int .u8 (m.kind.toNat : Int)) := (Box.cell hmw7 0).trans rfl
    have x1 : w7.cell? ⟨w5.heap.size, 1, none⟩ = some (.int .u64 (m.epoch : Int)) := (Box.cell hmw7 1).trans rfl
    have x2 : w7.cell? ⟨w5.heap.size, 2, none⟩ = some (.int .u64 (m.seq : Int)) := (Box.cell hmw7 2).trans rfl
    have HB := Lib.hid (H2.out.trans (hbz.mono H2.out.size))
    clear hgs hx5 hb5 hbw6 hmw6 hw7 hmw7 hbw7 hbz hxm hPS hy HM2 HS H2 hmay
    go_upto_region 10 with (refine wpList_store_row rfl 24 _ _ rfl w5.heap.size (mv m) rfl rfl 24 _ HMw6.out (by rw [mv_size]; exact mkInfo) rfl (mv_one _) ?_; rw [HWw7.out])
    clear cs1 cs2 a0 a1 a2 x0 x1 x2
    by_cases h256 : n2 = 256
    · subst h256
      go_wp2_with fail
      refine (open_says w7 A2 c2 l2 ((HL2.out.below HB.out).weak (fun _ _ _ => trivial))).mono ?_
      rintro e wa ⟨hno, hyes, hba⟩
      cases hop : opens l2 with
      | none =>
        obtain rfl := hno hop
        obtain ⟨wb, hwb⟩ : ∃ x, wa.alloc (.cells #[.int .u8 0, .int .u64 0, .int .u64 0] 24) = x := ⟨_, rfl⟩
        have hbwb : Below wa.heap.size wa wb := by rw [← hwb]; exact (Below.refl _ wa).alloc (Nat.le_refl _) _
        have hmwb : Box wb wa.heap.size 24 (mv Mk.zero) := by rw [← hwb]; exact Box.made wa _ _
        obtain ⟨wd, hwd⟩ : ∃ x, wb.setRow wa.heap.size (mv Mk.zero) = x := ⟨_, rfl⟩
        have hmwd : Box wd wa.heap.size 24 (mv Mk.zero) := by rw [← hwd]; exact setRow_heap _ _ _ _ _ _ hmwb
        have hbwd : Below wa.heap.size wa wd := hbwb.trans (by rw [← hwd]; exact (Below.refl _ wb).grown (grown_row (grown_refl _ (some wa.heap.size)) _) hbwb.size (fun k e => by injection e with e; omega))
        have HMwb := Lib.hid hmwb
        have HWwd := Lib.hid hwd
        have HD := Lib.hid (HB.out.trans ((hba.trans (hbwd.mono hba.size)).mono HB.out.size))
        clear hno hyes hba hop hbwb hmwb hwd hmwd hbwd HB
        go_wp2_with (refine wpList_store_row rfl 24 _ _ rfl wa.heap.size (mv Mk.zero) rfl rfl 24 _ HMwb.out (by rw [mv_size]; exact mkInfo) rfl (mv_one _) ?_; rw [HWwd.out])
        refine (one_says wd).mono ?_
        rintro e wz ⟨rfl, hbz⟩
        have HZ := Lib.hid (HD.out.trans (hbz.mono HD.out.size))
        clear hbz
        go_wp2
        go_ret
        exact ⟨rfl, HZ.out⟩
      | some zt =>
        obtain ⟨z, t⟩ := zt
        obtain ⟨gs, rfl, hgs, hxt⟩ := hyes z t hop
        obtain ⟨hzm, htl, hse⟩ := opens_some HLL2.out hop
        obtain ⟨wb, hwb⟩ : ∃ x, wa.alloc (.cells #[.int .u8 0, .int .u64 0, .int .u64 0] 24) = x := ⟨_, rfl⟩
        have hbwb : Below wa.heap.size wa wb := by rw [← hwb]; exact (Below.refl _ wa).alloc (Nat.le_refl _) _
        have hmwb : Box wb wa.heap.size 24 (mv Mk.zero) := by rw [← hwb]; exact Box.made wa _ _
        obtain ⟨wd, hwd⟩ : ∃ x, wb.setRow wa.heap.size (mv z) = x := ⟨_, rfl⟩
        have hmwd : Box wd wa.heap.size 24 (mv z) := by rw [← hwd]; exact setRow_heap _ _ _ _ _ _ hmwb
        have hbwd : Below wa.heap.size wa wd := hbwb.trans (by rw [← hwd]; exact (Below.refl _ wb).grown (grown_row (grown_refl _ (some wa.heap.size)) _) hbwb.size (fun k e => by injection e with e; omega))
        have HMwb := Lib.hid hmwb
        have HWwd := Lib.hid hwd
        have HD := Lib.hid (HB.out.trans ((hba.trans (hbwd.mono hba.size)).mono HB.out.size))
        have HMD := Lib.hid hmwd
        have hlt := lies_box (N := fun _ => True) (Box.below hxt hbwd hxt.lt) trivial (n := t.length) rfl
        have HLT := Lib.hid hlt
        have HSE := Lib.hid hse
        clear hno hyes hba hop hbwb hmwb hwd hmwd hbwd HB hgs hxt hlt hse
        go_wp2_with (first
          | (refine wpList_store_row rfl 24 _ _ rfl wa.heap.size (mv z) rfl rfl 24 _ HMwb.out (by rw [mv_size]; exact mkInfo) rfl (mv_one _) ?_; rw [HWwd.out])
          | (refine wpList_load_row rfl 24 _ rfl wa.heap.size rfl 24 _ (0, 0) _ HMD.out Try.underlying24 rfl (by rw [mv_size]; exact mkInfo) ?_))
        refine (seal_yes wd z hzm _ t.length t.length t HLT.out htl).mono ?_
        rintro e wx ⟨gx, rfl, hgx, hxx, hbx⟩
        obtain ⟨PT, hPT⟩ : ∃ y, (⟨l2.toArray⟩ : ByteArray) = y := ⟨_, rfl⟩
        have cs1 := conv_lies (lies_box (N := fun _ => True) hxx trivial (sealed_length z t htl))
        have cs2 := conv_lies ((HL2.out.below HD.out).below hbx)
        rw [← HSE.out, hPT] at cs1
        rw [hPT] at cs2
        have HX := Lib.hid (HD.out.trans (hbx.mono HD.out.size))
        clear hgx hxx hbx hPT HD hwb
        go_wp2_with fail
        refine (one_says wx).mono ?_
        rintro e wz ⟨rfl, hbz⟩
        have HZ := Lib.hid (HX.out.trans (hbz.mono HX.out.size))
        clear hbz
        go_wp2
        go_ret
        exact ⟨rfl, HZ.out⟩
    · go_wp2_with fail
      refine (open_arg w7 A2 n2 c2 h256).mono ?_
      rintro e wa ⟨rfl, hba⟩
      obtain ⟨wb, hwb⟩ : ∃ x, wa.alloc (.cells #[.int .u8 0, .int .u64 0, .int .u64 0] 24) = x := ⟨_, rfl⟩
      have hbwb : Below wa.heap.size wa wb := by rw [← hwb]; exact (Below.refl _ wa).alloc (Nat.le_refl _) _
      have hmwb : Box wb wa.heap.size 24 (mv Mk.zero) := by rw [← hwb]; exact Box.made wa _ _
      obtain ⟨wd, hwd⟩ : ∃ x, wb.setRow wa.heap.size (mv Mk.zero) = x := ⟨_, rfl⟩
      have hmwd : Box wd wa.heap.size 24 (mv Mk.zero) := by rw [← hwd]; exact setRow_heap _ _ _ _ _ _ hmwb
      have hbwd : Below wa.heap.size wa wd := hbwb.trans (by rw [← hwd]; exact (Below.refl _ wb).grown (grown_row (grown_refl _ (some wa.heap.size)) _) hbwb.size (fun k e => by injection e with e; omega))
      have HMwb := Lib.hid hmwb
      have HWwd := Lib.hid hwd
      have HD := Lib.hid (HB.out.trans ((hba.trans (hbwd.mono hba.size)).mono HB.out.size))
      clear hba hbwb hmwb hwd hmwd hbwd HB h256
      go_wp2_with (refine wpList_store_row rfl 24 _ _ rfl wa.heap.size (mv Mk.zero) rfl rfl 24 _ HMwb.out (by rw [mv_size]; exact mkInfo) rfl (mv_one _) ?_; rw [HWwd.out])
      refine (one_says wd).mono ?_
      rintro e wz ⟨rfl, hbz⟩
      have HZ := Lib.hid (HD.out.trans (hbz.mono HD.out.size))
      clear hbz
      go_wp2
      go_ret
      exact ⟨rfl, HZ.out⟩
end Go.Proofs.Ythmbmkmfjoakbaa
