/-
  MarkOpens, walked.
-/
import Derived.Test.YthpfdenpgegheaaOpens5A
import Derived.Test.YthpfdenpgegheaaOpens5B
import Derived.Test.YthpfdenpgegheaaOpens5C
import Derived.BigQuiet
import Derived.Deep.DeepCutAuto
import Derived.Deep.CutBlock
namespace Go.Proofs.Ythpfdenpgegheaa
open Go.RowKit

set_option linter.unusedVariables false
set_option linter.unusedSimpArgs false
set_option maxRecDepth 100000 in
set_option maxHeartbeats 16000000 in
theorem markOpens_walk (w : World) (A : Option Addr) (n c : Nat) (l : List UInt8) (hl : Lies w (fun _ => True) A n c (bc l)) (z : UInt8) :
    Calls Try.prog 3 #[.slice A n c, .int .u8 (z.toNat : Int)] w fun e w' => e = .returned (.bool true) ∧ Below w.heap.size w w' := by
  have HL := Lib.hid (hl.weak (N' := fun b => b < w.heap.size) (fun b h _ => h))
  clear hl
  by_cases hbig : 400 < n
  · have g1 : 400 < (n : Int) := by omega
    go_enter Try.func3, Try.ntmps3
    go_wp2
    go_ret
    exact ⟨rfl, Below.refl _ _⟩
  have g1 : ¬ 400 < (n : Int) := by omega
  obtain ⟨PB, hPB⟩ : ∃ x, (⟨l.toArray⟩ : ByteArray) = x := ⟨_, rfl⟩
  have hro := fun W => ropen_says W l
  rw [hPB] at hro
  have HRO := Lib.hid hro
  have HPB := Lib.hid hPB
  clear hro hPB hbig
  by_cases hn : n = 256
  · subst hn
    go_enter Try.func3, Try.ntmps3
    go_wp2_with fail
    refine (open_says w A c l (HL.out.weak (fun _ _ _ => trivial))).mono ?_
    rintro e wa ⟨hno, hyes, hba⟩
    have hll : l.length = 256 := by rw [← bc_length]; exact HL.out.len
    have hrr : ropens l = opens l := by rw [ropens, if_pos hll]
    cases hop : opens l with
    | none =>
      obtain rfl := hno hop
      obtain ⟨wb, hwb⟩ : ∃ x, wa.alloc (.cells #[.int .u8 0, .int .u64 0, .int .u64 0] 25) = x := ⟨_, rfl⟩
      have hbwb : Below wa.heap.size wa wb := by rw [← hwb]; exact (Below.refl _ wa).alloc (Nat.le_refl _) _
      have hmwb : Box wb wa.heap.size 25 (mv Mk.zero) := by rw [← hwb]; exact Box.made wa _ _
      obtain ⟨wd, hwd⟩ : ∃ x, wb.setRow wa.heap.size (mv Mk.zero) = x := ⟨_, rfl⟩
      have hmwd : Box wd wa.heap.size 25 (mv Mk.zero) := by rw [← hwd]; exact setRow_heap _ _ _ _ _ _ hmwb
      have hbwd : Below wa.heap.size wa wd := hbwb.trans (by rw [← hwd]; exact (Below.refl _ wb).grown (grown_row (grown_refl _ (some wa.heap.size)) _) hbwb.size (fun k e => by injection e with e; omega))
      have HMwb := Lib.hid hmwb
      have HWwd := Lib.hid hwd
      have HBD := Lib.hid (hba.trans (hbwd.mono hba.size))
      have HMD := Lib.hid hmwd
      have hcb := conv_lies (HL.out.below HBD.out)
      rw [HPB.out] at hcb
      have HOP := Lib.hid (show ropens l = none by rw [hrr]; exact hop)
      clear hba hbwb hmwb hwd hmwd hbwd hno hyes hop hrr hll
      go_upto_region 4 with (refine wpList_store_row rfl 25 _ _ rfl wa.heap.size (mv Mk.zero) rfl rfl 25 _ HMwb.out (by rw [mv_size]; exact mkInfo) rfl (mv_one _) ?_; rw [HWwd.out])
      rename_i K4 kk4
      have KK := Lib.hid kk4
      clear kk4
      go_wp2_with fail
      refine (HRO.out wd).mono ?_
      rintro e we ⟨hno, hyes, hbe⟩
      obtain rfl := hno HOP.out
      obtain ⟨wf, hwf⟩ : ∃ x, we.alloc (.cells #[.int .u8 0, .int .u64 0, .int .u64 0] 29) = x := ⟨_, rfl⟩
      have hbwf : Below we.heap.size we wf := by rw [← hwf]; exact (Below.refl _ we).alloc (Nat.le_refl _) _
      have hmwf : Box wf we.heap.size 29 (mv Mk.zero) := by rw [← hwf]; exact Box.made we _ _
      obtain ⟨wg, hwg⟩ : ∃ x, wf.setRow we.heap.size (mv Mk.zero) = x := ⟨_, rfl⟩
      have hmwg : Box wg we.heap.size 29 (mv Mk.zero) := by rw [← hwg]; exact setRow_heap _ _ _ _ _ _ hmwf
      have hbwg : Below we.heap.size we wg := hbwf.trans (by rw [← hwg]; exact (Below.refl _ wf).grown (grown_row (grown_refl _ (some we.heap.size)) _) hbwf.size (fun k e => by injection e with e; omega))
      have HMwf := Lib.hid hmwf
      have HWwg := Lib.hid hwg
      have HBG := Lib.hid (HBD.out.trans ((hbe.trans (hbwg.mono hbe.size)).mono HBD.out.size))
      have hbdg := hbe.trans (hbwg.mono hbe.size)
      have HMG := Lib.hid (Box.below HMD.out hbdg HMD.out.lt)
      have HRG := Lib.hid hmwg
      clear hno hyes hbe hbwf hmwf hwg hmwg hbwg hbdg hcb
      go_wp2_with (refine wpList_store_row rfl 29 _ _ rfl we.heap.size (mv Mk.zero) rfl rfl 29 _ HMwf.out (by rw [mv_size]; exact refInfo) rfl (mv_one _) ?_; rw [HWwg.out])
      exact KK.out _ _ (opens5B_says w wg A 256 c l z _ _ 0 Mk.zero [] HL HBG HMG HRG rfl)
    | some zs =>
      obtain ⟨M, s⟩ := zs
      obtain ⟨gs, rfl, hgs, hxs⟩ := hyes M s hop
      obtain ⟨wb, hwb⟩ : ∃ x, wa.alloc (.cells #[.int .u8 0, .int .u64 0, .int .u64 0] 25) = x := ⟨_, rfl⟩
      have hbwb : Below wa.heap.size wa wb := by rw [← hwb]; exact (Below.refl _ wa).alloc (Nat.le_refl _) _
      have hmwb : Box wb wa.heap.size 25 (mv Mk.zero) := by rw [← hwb]; exact Box.made wa _ _
      obtain ⟨wd, hwd⟩ : ∃ x, wb.setRow wa.heap.size (mv M) = x := ⟨_, rfl⟩
      have hmwd : Box wd wa.heap.size 25 (mv M) := by rw [← hwd]; exact setRow_heap _ _ _ _ _ _ hmwb
      have hbwd : Below wa.heap.size wa wd := hbwb.trans (by rw [← hwd]; exact (Below.refl _ wb).grown (grown_row (grown_refl _ (some wa.heap.size)) _) hbwb.size (fun k e => by injection e with e; omega))
      have HMwb := Lib.hid hmwb
      have HWwd := Lib.hid hwd
      have HBD := Lib.hid (hba.trans (hbwd.mono hba.size))
      have HMD := Lib.hid hmwd
      have HSD := Lib.hid (Box.below hxs hbwd hxs.lt)
      have hcb := conv_lies (HL.out.below HBD.out)
      rw [HPB.out] at hcb
      have HOP := Lib.hid (show ropens l = some (M, s) by rw [hrr]; exact hop)
      clear hba hbwb hmwb hwd hmwd hbwd hno hyes hop hgs hxs hrr hll
      go_upto_region 4 with (refine wpList_store_row rfl 25 _ _ rfl wa.heap.size (mv M) rfl rfl 25 _ HMwb.out (by rw [mv_size]; exact mkInfo) rfl (mv_one _) ?_; rw [HWwd.out])
      rename_i K4 kk4
      have KK := Lib.hid kk4
      clear kk4
      go_wp2_with fail
      refine (HRO.out wd).mono ?_
      rintro e we ⟨hno, hyes, hbe⟩
      obtain rfl := hyes M s HOP.out
      obtain ⟨wf, hwf⟩ : ∃ x, we.alloc (.cells #[.int .u8 0, .int .u64 0, .int .u64 0] 29) = x := ⟨_, rfl⟩
      have hbwf : Below we.heap.size we wf := by rw [← hwf]; exact (Below.refl _ we).alloc (Nat.le_refl _) _
      have hmwf : Box wf we.heap.size 29 (mv Mk.zero) := by rw [← hwf]; exact Box.made we _ _
      obtain ⟨wg, hwg⟩ : ∃ x, wf.setRow we.heap.size (mv M) = x := ⟨_, rfl⟩
      have hmwg : Box wg we.heap.size 29 (mv M) := by rw [← hwg]; exact setRow_heap _ _ _ _ _ _ hmwf
      have hbwg : Below we.heap.size we wg := hbwf.trans (by rw [← hwg]; exact (Below.refl _ wf).grown (grown_row (grown_refl _ (some we.heap.size)) _) hbwf.size (fun k e => by injection e with e; omega))
      have HMwf := Lib.hid hmwf
      have HWwg := Lib.hid hwg
      have HBG := Lib.hid (HBD.out.trans ((hbe.trans (hbwg.mono hbe.size)).mono HBD.out.size))
      have hbdg := hbe.trans (hbwg.mono hbe.size)
      have HMG := Lib.hid (Box.below HMD.out hbdg HMD.out.lt)
      have HRG := Lib.hid hmwg
      have HSG := Lib.hid (Box.below HSD.out hbdg HSD.out.lt)
      obtain ⟨PS, hPS⟩ : ∃ x, (⟨s.toArray⟩ : ByteArray) = x := ⟨_, rfl⟩
      rw [hPS]
      have HPS := Lib.hid hPS
      clear hPS
      clear hno hyes hbe hbwf hmwf hwg hmwg hbwg hbdg hcb
      go_wp2_with (refine wpList_store_row rfl 29 _ _ rfl we.heap.size (mv M) rfl rfl 29 _ HMwf.out (by rw [mv_size]; exact refInfo) rfl (mv_one _) ?_; rw [HWwg.out])
      exact KK.out _ _ (opens5C_says w wg A 256 c l z _ _ gs M s HL HBG HMG HRG rfl PS HPS HSG)
  · go_enter Try.func3, Try.ntmps3
    go_wp2_with fail
    refine (open_arg w A n c hn).mono ?_
    rintro e wa ⟨rfl, hba⟩
    have hll : l.length = n := by rw [← bc_length]; exact HL.out.len
    have hop : ropens l = none := by rw [ropens, if_neg (by omega)]
    obtain ⟨wb, hwb⟩ : ∃ x, wa.alloc (.cells #[.int .u8 0, .int .u64 0, .int .u64 0] 25) = x := ⟨_, rfl⟩
    have hbwb : Below wa.heap.size wa wb := by rw [← hwb]; exact (Below.refl _ wa).alloc (Nat.le_refl _) _
    have hmwb : Box wb wa.heap.size 25 (mv Mk.zero) := by rw [← hwb]; exact Box.made wa _ _
    obtain ⟨wd, hwd⟩ : ∃ x, wb.setRow wa.heap.size (mv Mk.zero) = x := ⟨_, rfl⟩
    have hmwd : Box wd wa.heap.size 25 (mv Mk.zero) := by rw [← hwd]; exact setRow_heap _ _ _ _ _ _ hmwb
    have hbwd : Below wa.heap.size wa wd := hbwb.trans (by rw [← hwd]; exact (Below.refl _ wb).grown (grown_row (grown_refl _ (some wa.heap.size)) _) hbwb.size (fun k e => by injection e with e; omega))
    have HMwb := Lib.hid hmwb
    have HWwd := Lib.hid hwd
    have HBD := Lib.hid (hba.trans (hbwd.mono hba.size))
    have HMD := Lib.hid hmwd
    have hcb := conv_lies (HL.out.below HBD.out)
    rw [HPB.out] at hcb
    have HOP := Lib.hid (show ropens l = none by exact hop)
    clear hba hbwb hmwb hwd hmwd hbwd hop hll
    go_upto_region 4 with (refine wpList_store_row rfl 25 _ _ rfl wa.heap.size (mv Mk.zero) rfl rfl 25 _ HMwb.out (by rw [mv_size]; exact mkInfo) rfl (mv_one _) ?_; rw [HWwd.out])
    rename_i K4 kk4
    have KK := Lib.hid kk4
    clear kk4
    go_wp2_with fail
    refine (HRO.out wd).mono ?_
    rintro e we ⟨hno, hyes, hbe⟩
    obtain rfl := hno HOP.out
    obtain ⟨wf, hwf⟩ : ∃ x, we.alloc (.cells #[.int .u8 0, .int .u64 0, .int .u64 0] 29) = x := ⟨_, rfl⟩
    have hbwf : Below we.heap.size we wf := by rw [← hwf]; exact (Below.refl _ we).alloc (Nat.le_refl _) _
    have hmwf : Box wf we.heap.size 29 (mv Mk.zero) := by rw [← hwf]; exact Box.made we _ _
    obtain ⟨wg, hwg⟩ : ∃ x, wf.setRow we.heap.size (mv Mk.zero) = x := ⟨_, rfl⟩
    have hmwg : Box wg we.heap.size 29 (mv Mk.zero) := by rw [← hwg]; exact setRow_heap _ _ _ _ _ _ hmwf
    have hbwg : Below we.heap.size we wg := hbwf.trans (by rw [← hwg]; exact (Below.refl _ wf).grown (grown_row (grown_refl _ (some we.heap.size)) _) hbwf.size (fun k e => by injection e with e; omega))
    have HMwf := Lib.hid hmwf
    have HWwg := Lib.hid hwg
    have HBG := Lib.hid (HBD.out.trans ((hbe.trans (hbwg.mono hbe.size)).mono HBD.out.size))
    have hbdg := hbe.trans (hbwg.mono hbe.size)
    have HMG := Lib.hid (Box.below HMD.out hbdg HMD.out.lt)
    have HRG := Lib.hid hmwg
    clear hno hyes hbe hbwf hmwf hwg hmwg hbwg hbdg hcb
    go_wp2_with (refine wpList_store_row rfl 29 _ _ rfl we.heap.size (mv Mk.zero) rfl rfl 29 _ HMwf.out (by rw [mv_size]; exact refInfo) rfl (mv_one _) ?_; rw [HWwg.out])
    exact KK.out _ _ (opens5A_says w wg A n c l z _ _ 0 Mk.zero [] HL HBG HMG HRG hn)
end Go.Proofs.Ythpfdenpgegheaa
