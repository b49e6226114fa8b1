/-
  JournalNobody, walked.
-/
import Derived.Test.YtnhondkdkjehaaaGreatJOne
namespace Go.Proofs.YtnhondkdkjehaaaGreat
open Go.RowKit

set_option linter.unusedVariables false
set_option linter.unusedSimpArgs false
theorem formatTo_zero {B : Nat} {n : Int} {D : Dv} (hn : -9223372036854775808 ≤ n ∧ n ≤ 9223372036854775807) (hb : D.bs = List.replicate B default) (h1 : D.down = false) (h2 : D.left = -1) (hr : (fmtHd n hn).rightB (B : Int) = true) : ∃ o, formatTo n hn D = (0, ⟨(List.replicate B default).set 1 (fmtHd n hn).blk, [], o, -1, false⟩) ∧ o ≤ D.ops + B + 3 := by
  have hl : D.bs.length = B := by rw [hb, List.length_replicate]
  have hri := Hd.right_iff.1 hr
  refine ⟨D.ops + ((B : Int) - (2 + n)).toNat + 1 + 2, ?_, ?_⟩
  · rw [formatTo, hl, if_pos hr, layTo_up _ _ _ h1 h2, andThen, if_pos rfl, saveTo_up rfl rfl, zeroCgs_length]
    show ((0 : Int), (⟨(putB (2 + n.toNat) (zeroCgs ((B : Int) - (2 + n)).toNat) D.bs).set (1 % 2) (fmtHd n hn).blk, [], D.ops + ((B : Int) - (2 + n)).toNat + 1 + 2, -1, false⟩ : Dv)) = _
    rw [hb, putB_zero]
  · have : (fmtHd n hn).log = n := rfl
    rw [this] at hri
    omega
theorem lastN_zeros {D : Dv} {B : Nat} (hb : D.bs = List.replicate B default) : lastN D 2 = Hd.zero := by
  have bz : ∀ i, D.blk i = default := fun i => by
    rw [Dv.blk, hb, List.getD_eq_getElem?_getD, List.getElem?_replicate]
    split <;> rfl
  have h0 : headOf (D.blk 0).1 (D.bs.length : Int) = none := by rw [bz 0, zero_val]; exact headOf_none opens_zero
  have h1 : headOf (D.blk 1).1 (D.bs.length : Int) = none := by rw [bz 1, zero_val]; exact headOf_none opens_zero
  rw [lastN_two (h := Hd.zero) h0 h1]
  rfl
theorem right20 (n : Int) (hn : -9223372036854775808 ≤ n ∧ n ≤ 9223372036854775807) : (fmtHd n hn).rightB 20 = decide (3 ≤ n ∧ n ≤ 17) := by
  by_cases h : 3 ≤ n ∧ n ≤ 17
  · rw [decide_eq_true h, Hd.right_iff]
    exact ⟨by show 1 ≤ 1 ∧ 1 ≤ _; omega, by show 1 ≤ 1 ∧ 1 ≤ _; omega, by show 1 ≤ 1 ∧ 1 ≤ _; omega, h.1, by show n ≤ _; omega, by show (0 : Int) ≤ 0; omega, by show (0 : Int) < n; omega⟩
  · rw [decide_eq_false h]
    cases hr : (fmtHd n hn).rightB 20 with
    | false => rfl
    | true =>
      have hri := Hd.right_iff.1 hr
      have hl : (fmtHd n hn).log = n := rfl
      rw [hl] at hri
      exact absurd ⟨hri.2.2.2.1, by omega⟩ h
/-- What follows the loop. -/
def NobEnd (w : World) (e : Ending) (w' : World) : Prop := e = .returned (.bool true) ∧ Below w.heap.size w w'
set_option maxRecDepth 100000 in
set_option maxHeartbeats 8000000 in
theorem journalNobody_walk (w : World) (B n : Int) (hB : -9223372036854775808 ≤ B ∧ B ≤ 9223372036854775807) : Calls Tryz.prog 6 #[.int .i64 B, .int .i64 n] w fun e w' => e = .returned (.bool true) ∧ Below w.heap.size w w' := by
  go_enter Tryz.func6, Tryz.ntmps6
  go_wp2_with fail
  go_loopw [5] (fun v wr => ∃ k : Nat, v = .int .i64 (k : Int) ∧ k ≤ 2 ∧ Hid (Below w.heap.size w wr)) (fun v _ => 2 - (intOf v).toNat)
  case atStart => exact ⟨0, rfl, by omega, Lib.hid (Below.refl _ _)⟩
  case round =>
    obtain ⟨k, rfl, hk, H⟩ := hrel
    by_cases hlt : k < 2
    · have hlt' : (k : Int) < 2 := by omega
      obtain ⟨w2, hw2⟩ : ∃ x, wr.alloc (.cells #[.pointer none, .int .u64 0, .int .u64 0, .int .i64 0, .int .u64 0, .int .i64 0, .int .i64 0, .int .u64 0, .map none, .map none, .bool false] 81) = x := ⟨_, rfl⟩
      have hb2 : Below wr.heap.size wr w2 := by rw [← hw2]; exact (Below.refl _ wr).alloc (Nat.le_refl _) _
      have hm2 : Box w2 wr.heap.size 81 #[.pointer none, .int .u64 0, .int .u64 0, .int .i64 0, .int .u64 0, .int .i64 0, .int .i64 0, .int .u64 0, .map none, .map none, .bool false] := by rw [← hw2]; exact Box.made wr _ _
      have hB2 : Below w.heap.size w w2 := H.out.trans (hb2.mono H.out.size)
      have HBL := Lib.hid (show Calls Tryz.prog 33 #[.int .u8 1] w2 fun e w' => e = .returned (.slice (some ⟨w2.heap.size, 0, none⟩) 256 256) ∧ Box w' w2.heap.size 5 (be (blkOf 1)).toArray ∧ Below w2.heap.size w2 w' from block_says w2 1)
      have HB2 := Lib.hid hB2
      rcases Nat.lt_or_ge k 1 with h0 | h0
      · obtain rfl : k = 0 := by omega
        have HN := Lib.hid (show ∀ u, Below w2.heap.size w2 u → Nobody u (.pointer (some ⟨wr.heap.size, 0, none⟩)) from fun u hu => .inr ⟨_, rfl, (Box.cell (Box.below hm2 hu hm2.lt) 0).trans rfl⟩)
        clear hb2 hm2 hB2
        go_wp2_with (first
          | (go_at_call 23; refine (jread_no (HN.out _ (Below.refl _ _)) n).mono ?_; rintro e wn ⟨rfl, hwn⟩; obtain rfl : w2 = wn := hwn.symm; clear hwn)
          | (go_at_call 33; refine HBL.out.mono ?_; rintro e w3 ⟨rfl, hx3, hb3⟩; have H3 := Lib.hid hb3; clear hx3 hb3)
          | (go_at_call 15; refine (jcommit_no (HN.out _ (H3.out.alloc H3.out.size _)) _).mono ?_; rintro e wn ⟨rfl, rfl⟩)
          | (go_at_call 10; refine (jsettle_no (HN.out _ (H3.out.alloc H3.out.size _))).mono ?_; rintro e wn ⟨rfl, rfl⟩)
          | (go_at_call 13; refine (jhome_no (HN.out _ (H3.out.alloc H3.out.size _))).mono ?_; rintro e wn ⟨rfl, rfl⟩)
          | (go_at_call 16; refine (jused_no (HN.out _ (H3.out.alloc H3.out.size _))).mono ?_; rintro e wn ⟨rfl, rfl⟩)
          | (go_at_call 17; refine (jseq_no (HN.out _ (H3.out.alloc H3.out.size _))).mono ?_; rintro e wn ⟨rfl, rfl⟩)
          | (go_at_call 18; refine (jepoch_no (HN.out _ (H3.out.alloc H3.out.size _))).mono ?_; rintro e wn ⟨rfl, rfl⟩)
          | (go_at_call 19; refine (jdown_no (HN.out _ (H3.out.alloc H3.out.size _))).mono ?_; rintro e wn ⟨rfl, rfl⟩))
        go_roundw
        case rel =>
          refine ⟨1, by go_num, by omega, Lib.hid ?_⟩
          exact HB2.out.trans (((H3.out.alloc H3.out.size _)).mono HB2.out.size)
        case measure => simp [intOf]
      · obtain rfl : k = 1 := by omega
        have HN := Lib.hid (show ∀ u, Below w2.heap.size w2 u → Nobody u (.pointer none) from fun u hu => .inl rfl)
        clear hb2 hm2 hB2
        go_wp2_with (first
          | (go_at_call 23; refine (jread_no (HN.out _ (Below.refl _ _)) n).mono ?_; rintro e wn ⟨rfl, hwn⟩; obtain rfl : w2 = wn := hwn.symm; clear hwn)
          | (go_at_call 33; refine HBL.out.mono ?_; rintro e w3 ⟨rfl, hx3, hb3⟩; have H3 := Lib.hid hb3; clear hx3 hb3)
          | (go_at_call 15; refine (jcommit_no (HN.out _ (H3.out.alloc H3.out.size _)) _).mono ?_; rintro e wn ⟨rfl, rfl⟩)
          | (go_at_call 10; refine (jsettle_no (HN.out _ (H3.out.alloc H3.out.size _))).mono ?_; rintro e wn ⟨rfl, rfl⟩)
          | (go_at_call 13; refine (jhome_no (HN.out _ (H3.out.alloc H3.out.size _))).mono ?_; rintro e wn ⟨rfl, rfl⟩)
          | (go_at_call 16; refine (jused_no (HN.out _ (H3.out.alloc H3.out.size _))).mono ?_; rintro e wn ⟨rfl, rfl⟩)
          | (go_at_call 17; refine (jseq_no (HN.out _ (H3.out.alloc H3.out.size _))).mono ?_; rintro e wn ⟨rfl, rfl⟩)
          | (go_at_call 18; refine (jepoch_no (HN.out _ (H3.out.alloc H3.out.size _))).mono ?_; rintro e wn ⟨rfl, rfl⟩)
          | (go_at_call 19; refine (jdown_no (HN.out _ (H3.out.alloc H3.out.size _))).mono ?_; rintro e wn ⟨rfl, rfl⟩))
        go_roundw
        case rel =>
          refine ⟨2, by go_num, by omega, Lib.hid ?_⟩
          exact HB2.out.trans (((H3.out.alloc H3.out.size _)).mono HB2.out.size)
        case measure => simp [intOf]
    · have hnl : ¬ (k : Int) < 2 := by omega
      have HNW := Lib.hid (new_yes wr 20 (by omega) (by omega))
      go_wp2_with fail
      refine HNW.out.mono ?_
      rintro e w1 ⟨dp, rfl, hd1, hb1⟩
      have hs1 := hb1.size
      have hs0 := H.out.size
      have hd1' : Dev w1 (fun k => wr.heap.size ≤ k) dp (Dv.new 20) := hd1.weak (fun k q => q.1)
      have hz1 : lastN (Dv.new 20) 2 = Hd.zero := lastN_zeros (B := 20) rfl
      have hos := open_log hd1' (fun k hk => by omega) (by show 0 ≤ 40000; omega) (by show 2 ≤ 20; omega) rfl rfl (by rw [hz1]; exact ⟨by show 0 < _; omega, by show 0 < _; omega, by show 0 < _; omega⟩)
      rw [openTo_none hz1] at hos
      have HOS := Lib.hid hos
      have HB1 := Lib.hid (H.out.trans (hb1.mono hs0))
      clear hd1 hd1' hos hb1 HNW
      go_wp2_with fail
      refine HOS.out.mono ?_
      rintro e w2 ⟨_, hbad, ht2⟩
      obtain ⟨rfl, hd2⟩ := hbad (show ¬ (13 : Int) = 0 by decide)
      have hs2 := ht2.size
      have HD2 := Lib.hid hd2
      have HB2 := Lib.hid (show Below w.heap.size w w2 from HB1.out.trans (ht2.below (B := w.heap.size) (fun k h => Nat.le_trans hs0 h) (by omega)))
      have HON := Lib.hid (open_nil w2)
      clear hbad hd2 ht2 HOS HB1
      go_wp2_with fail
      refine HON.out.mono ?_
      rintro e w3 ⟨rfl, hb3⟩
      have hs3 := hb3.size
      obtain ⟨D2, hD2⟩ : ∃ x, callsN (Dv.new 20) 2 = x := ⟨_, rfl⟩
      have hD2' : D2 = ⟨List.replicate 20 default, [], 2, -1, false⟩ := by rw [← hD2]; rfl
      have hd3 : Dev w3 (fun k => wr.heap.size ≤ k) dp D2 := by rw [← hD2]; exact HD2.out.below hb3
      have hfs := format_says hd3 (fun k hk => by omega) B hB (by rw [hD2']; show 2 ≤ 50000; omega)
      have HFS := Lib.hid hfs
      have HB3 := Lib.hid (show Below w.heap.size w w3 from HB2.out.trans (hb3.mono (by omega)))
      clear hb3 hd3 hfs HON HB2 HD2
      go_wp2_with fail
      refine HFS.out.mono ?_
      rintro e w4 ⟨rfl, hd4, ht4⟩
      have hs4 := ht4.size
      have hlen : (D2.bs.length : Int) = 20 := by rw [hD2']; rfl
      have hbs : D2.bs = List.replicate 20 default := by rw [hD2']
      have HB4 := Lib.hid (show Below w.heap.size w w4 from HB3.out.trans (ht4.below (B := w.heap.size) (fun k h => Nat.le_trans hs0 h) (by omega)))
      by_cases hmay : 3 ≤ B ∧ B ≤ 17
      · have hr : (fmtHd B hB).rightB ((20 : Nat) : Int) = true := by rw [show ((20 : Nat) : Int) = 20 from rfl, right20, decide_eq_true hmay]
        obtain ⟨o4, hf, ho4⟩ := formatTo_zero (D := D2) hB hbs (by rw [hD2']) (by rw [hD2']) hr
        rw [hf] at hd4 ⊢
        obtain ⟨hl2, _, o5, hop, ho5⟩ := openTo_fresh hB hr (by omega) o4
        have ho4' : o4 ≤ 30 := by rw [hD2'] at ho4; have ho4 : o4 ≤ 2 + 20 + 3 := ho4; omega
        have hos := open_log hd4 (fun k hk => by omega) (by show o4 ≤ 40000; omega) (by show 2 ≤ ((List.replicate 20 (default : Bk)).set 1 (fmtHd B hB).blk).length; rw [List.length_set, List.length_replicate]; omega) rfl rfl (by rw [hl2]; exact ⟨by show 1 < _; omega, by show 1 < _; omega, by show 1 < _; omega⟩)
        rw [hop] at hos
        have HOS := Lib.hid hos
        obtain ⟨m1, m2⟩ := hmay
        have HFN := Lib.hid format_nil
        have HON := Lib.hid one_says
        clear hd4 ht4 hf hop hl2 hos HFS HB3 hr hD2' hD2 hbs hlen
        go_wp2_with fail
        refine HOS.out.mono ?_
        rintro e w5 ⟨hok, _, ht5⟩
        obtain ⟨p, mb, ma, M1, M2, rfl, _, _, _, _, _, _, _, _, _, _, _⟩ := hok rfl
        have hs5 := ht5.size
        have HB5 := Lib.hid (show Below w.heap.size w w5 from HB4.out.trans (ht5.below (B := w.heap.size) (fun k h => Nat.le_trans hs0 h) (by omega)))
        clear hok ht5 HOS
        go_wp2_with (first
          | (go_at_call 36; refine (HFN.out w5 3).mono ?_; rintro e wn ⟨rfl, hwn⟩; obtain rfl : w5 = wn := hwn.symm; clear hwn)
          | (go_at_call 25; refine (HON.out w5).mono ?_; rintro e w6 ⟨rfl, hb6⟩; have H6 := Lib.hid hb6; clear hb6))
        go_ret
        exact ⟨by first | rfl | simp, HB5.out.trans (H6.out.mono HB5.out.size)⟩
      · have hr : (fmtHd B hB).rightB 20 = false := by rw [right20, decide_eq_false hmay]
        have hf : formatTo B hB D2 = (2, D2) := by rw [formatTo, hlen, hr, if_neg (by simp)]
        rw [hf] at hd4 ⊢
        have hz2 : lastN D2 2 = Hd.zero := lastN_zeros hbs
        have hos := open_log hd4 (fun k hk => by omega) (by rw [hD2']; show 2 ≤ 40000; omega) (by rw [hD2']; show 2 ≤ 20; omega) (by rw [hD2']) (by rw [hD2']) (by rw [hz2]; exact ⟨by show 0 < _; omega, by show 0 < _; omega, by show 0 < _; omega⟩)
        rw [openTo_none hz2] at hos
        have HOS := Lib.hid hos
        have HFN := Lib.hid format_nil
        have HON := Lib.hid one_says
        have hcas : B < 3 ∨ (3 ≤ B ∧ ¬ B ≤ 17) := by omega
        clear hd4 ht4 hf hos HFS HB3 hr hD2' hD2 hbs hlen hz2 hmay
        rcases hcas with m1 | ⟨m1, m2⟩
        · have m1' : ¬ 3 ≤ B := by omega
          go_wp2_with fail
          refine HOS.out.mono ?_
          rintro e w5 ⟨_, hbad, ht5⟩
          obtain ⟨rfl, _⟩ := hbad (show ¬ (13 : Int) = 0 by decide)
          have hs5 := ht5.size
          have HB5 := Lib.hid (show Below w.heap.size w w5 from HB4.out.trans (ht5.below (B := w.heap.size) (fun k h => Nat.le_trans hs0 h) (by omega)))
          clear hbad ht5 HOS
          go_wp2_with (first
            | (go_at_call 36; refine (HFN.out w5 3).mono ?_; rintro e wn ⟨rfl, hwn⟩; obtain rfl : w5 = wn := hwn.symm; clear hwn)
            | (go_at_call 25; refine (HON.out w5).mono ?_; rintro e w6 ⟨rfl, hb6⟩; have H6 := Lib.hid hb6; clear hb6))
          go_ret
          exact ⟨by first | rfl | (simp; done) | (simp; omega), HB5.out.trans (H6.out.mono HB5.out.size)⟩
        · have m1' : ¬ B < 3 := by omega
          go_wp2_with fail
          refine HOS.out.mono ?_
          rintro e w5 ⟨_, hbad, ht5⟩
          obtain ⟨rfl, _⟩ := hbad (show ¬ (13 : Int) = 0 by decide)
          have hs5 := ht5.size
          have HB5 := Lib.hid (show Below w.heap.size w w5 from HB4.out.trans (ht5.below (B := w.heap.size) (fun k h => Nat.le_trans hs0 h) (by omega)))
          clear hbad ht5 HOS
          go_wp2_with (first
            | (go_at_call 36; refine (HFN.out w5 3).mono ?_; rintro e wn ⟨rfl, hwn⟩; obtain rfl : w5 = wn := hwn.symm; clear hwn)
            | (go_at_call 25; refine (HON.out w5).mono ?_; rintro e w6 ⟨rfl, hb6⟩; have H6 := Lib.hid hb6; clear hb6))
          go_ret
          exact ⟨by first | rfl | (simp; done) | (simp; omega), HB5.out.trans (H6.out.mono HB5.out.size)⟩
end Go.Proofs.YtnhondkdkjehaaaGreat
