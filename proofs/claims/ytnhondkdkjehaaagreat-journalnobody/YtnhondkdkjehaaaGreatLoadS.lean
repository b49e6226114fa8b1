/-
  super.Load, over a device that lies and is up.
-/
import Derived.Test.YtnhondkdkjehaaaGreatSaveS
import Derived.Test.YtnhondkdkjehaaaGreatEqHd
import Derived.Deep.DeepCutAuto
namespace Go.Proofs.YtnhondkdkjehaaaGreat
open Go.RowKit

set_option linter.unusedVariables false
set_option linter.unusedSimpArgs false
/-- The last head, with what one block more tells. -/
def pickH (last : Hd) (n : Nat) : Option Hd → Hd
  | some h => if h.gen % 2 = n ∧ last.gen < h.gen then h else last
  | none => last
def lastN (D : Dv) : Nat → Hd
  | 0 => Hd.zero
  | k + 1 => pickH (lastN D k) k (headOf (D.blk k).1 (D.bs.length : Int))
def callsN (D : Dv) : Nat → Dv
  | 0 => D
  | k + 1 => (callsN D k).call
theorem callsN_up {D : Dv} (h1 : D.down = false) (h2 : D.left = -1) : ∀ k, (callsN D k).down = false ∧ (callsN D k).left = -1 ∧ (callsN D k).bs = D.bs ∧ (callsN D k).ops = D.ops + k ∧ (callsN D k).call.down = false
  | 0 => ⟨h1, h2, rfl, rfl, by simp [callsN, Dv.call, h1, h2]⟩
  | k + 1 => by
    obtain ⟨a, b, c, d, e⟩ := callsN_up h1 h2 k
    refine ⟨e, ?_, c, ?_, ?_⟩
    · simp [callsN, Dv.call, b]
    · show (callsN D k).ops + 1 = _; omega
    · simp [callsN, Dv.call, a, b]
structure LoadI (w : World) (K : Nat → Prop) (p : Nat) (D : Dv) (g4 k : Nat) (wr : World) : Prop where
  touch : Touch K w wr
  dev : Dev wr (fun b => (K b ∧ b ≠ w.heap.size) ∧ b ≠ g4) p (callsN D k)
  res : Box wr w.heap.size 78 (hv Hd.zero)
  last : Box wr g4 78 (hv (lastN D k))
/-- What Load hands on. -/
def LoadPost (w : World) (K : Nat → Prop) (p : Nat) (D : Dv) (e : Ending) (w' : World) : Prop :=
  e = .returned (.tuple #[.agg (hv (lastN D 2)), .int .i64 (if lastN D 2 = Hd.zero then 13 else 0)]) ∧ Dev w' K p (callsN D 2) ∧ Touch K w w'
section
variable {w : World} {K : Nat → Prop} {p : Nat} {D : Dv}
set_option maxRecDepth 100000 in
set_option maxHeartbeats 8000000 in
theorem load_says (hd : Dev w K p D) (hK : ∀ k, w.heap.size ≤ k → K k) (ho : D.ops ≤ 90000) (h2 : 2 ≤ D.bs.length) (hdn : D.down = false) (hlf : D.left = -1) :
    Calls Tryz.prog 66 #[.pointer (some ⟨p, 0, none⟩)] w (LoadPost w K p D) := by
  have hmost := hd.1.most
  have HUP := Lib.hid (callsN_up hdn hlf)
  clear hdn hlf
  obtain ⟨w1, hw1⟩ : ∃ x, w.alloc (.cells #[.int .u64 0, .int .u64 0, .int .i64 0, .int .u64 0, .int .i64 0] 78) = x := ⟨_, rfl⟩
  have hb1 : Below w.heap.size w w1 := by rw [← hw1]; exact (Below.refl _ w).alloc (Nat.le_refl _) _
  have hm1 : Box w1 w.heap.size 78 (hv Hd.zero) := by rw [← hw1]; exact Box.made w _ _
  obtain ⟨w2, hw2⟩ : ∃ x, w1.alloc (.cells #[.int .u64 0, .int .u64 0, .int .i64 0, .int .u64 0, .int .i64 0] 78) = x := ⟨_, rfl⟩
  have hbw2 : Below w1.heap.size w1 w2 := by rw [← hw2]; exact (Below.refl _ w1).alloc (Nat.le_refl _) _
  have hmw2 : Box w2 w1.heap.size 78 (hv Hd.zero) := by rw [← hw2]; exact Box.made w1 _ _
  obtain ⟨w3, hw3⟩ : ∃ x, w2.setRow w1.heap.size (hv Hd.zero) = x := ⟨_, rfl⟩
  have hmw3 : Box w3 w1.heap.size 78 (hv Hd.zero) := by rw [← hw3]; exact setRow_heap _ _ _ _ _ _ hmw2
  have hbw3 : Below w1.heap.size w1 w3 := hbw2.trans (by rw [← hw3]; exact (Below.refl _ w2).grown (grown_row (grown_refl _ (some w1.heap.size)) _) hbw2.size (fun k e => by injection e with e; omega))
  have HMw2 := Lib.hid hmw2
  have HWw3 := Lib.hid hw3
  have hg4 : w1.heap.size = w.heap.size + 1 := by rw [← hw1]; simp
  have HI0 := Lib.hid (show LoadI w K p D w1.heap.size 0 w3 from
    ⟨Touch.of_below (hb1.trans (hbw3.mono hb1.size)), ((hd.aside hb1 w.heap.size (Nat.le_refl _)).aside hbw3 w1.heap.size (Nat.le_refl _)), Box.below hm1 hbw3 hm1.lt, hmw3⟩)
  have HM := Lib.hid (smade_yes (hd.below hb1))
  have HGG := Lib.hid hg4
  clear hd hb1 hm1 hmw2 hbw2 hmw3 hbw3 hw3 hg4
  go_enter Tryz.func66, Tryz.ntmps66
  go_upto_region 4 with (first
    | (go_at_call 96; refine HM.out.mono ?_; rintro e wn ⟨rfl, hwn⟩; obtain rfl : w1 = wn := hwn.symm; clear hwn)
    | (refine wpList_store_row rfl 78 _ _ rfl w1.heap.size (hv Hd.zero) rfl rfl 78 _ HMw2.out (by rw [hv_size]; exact hdInfo) rfl (hv_one _) ?_; rw [HWw3.out]))
  obtain ⟨g4, hg4⟩ : ∃ x, w1.heap.size = x := ⟨_, rfl⟩
  rw [hg4] at HI0 HGG ⊢
  clear hg4 HM hw1 hw2 HMw2 HWw3
  go_wp2_with fail
  go_loopw [15] (fun v wr => ∃ k : Nat, v = .int .i64 (k : Int) ∧ k ≤ 2 ∧ Hid (LoadI w K p D g4 k wr)) (fun v _ => 2 - (intOf v).toNat)
  case atStart => exact ⟨0, rfl, by omega, HI0⟩
  case round =>
    clear HI0
    obtain ⟨k, rfl, hk, H⟩ := hrel
    by_cases hlt : k < 2
    · have hlt' : (k : Int) < 2 := by omega
      obtain ⟨hdn, hlf, hbs, hops, hcd⟩ := HUP.out k
      have HRU := Lib.hid (read_up H.out.dev (by omega) hcd k (by rw [hbs]; omega))
      clear hdn hlf hbs hops hcd
      go_wp2_with fail
      refine HRU.out.mono ?_
      rintro e wa ⟨g, rfl, hxa, hga, hda, hta⟩
      obtain ⟨hdn, hlf, hbs, hops, hcd⟩ := HUP.out k
      have hblk : (callsN D k).blk k = D.blk k := by rw [Dv.blk, hbs]; rfl
      rw [hblk] at hxa
      have hTa : Touch K w wa := H.out.touch.trans (hta.mono (fun _ q => q.1.1))
      have hRa := hta.box H.out.res (fun q => q.1.2 rfl)
      have hLa := hta.box H.out.last (fun q => q.2 rfl)
      have hda : Dev wa (fun b => (K b ∧ b ≠ w.heap.size) ∧ b ≠ g4) p (callsN D (k + 1)) := hda
      have HLE := Lib.hid (len_says hda)
      have hbs1 := (HUP.out (k + 1)).2.2.1
      rw [hbs1] at HLE
      have HOF := Lib.hid (of_says wa (some ⟨g, 0, none⟩) 256 (D.blk k).1 ((hxa.toLies (n := 256) (by rw [be_length]) (Nat.le_refl 256)).weak (fun _ _ _ => trivial)) (D.bs.length : Int) (by omega))
      have HA := Lib.hid (And.intro hTa (And.intro hda (And.intro hRa hLa)))
      clear hdn hlf hbs hops hcd hblk hxa hga hda hta hTa hRa hLa hbs1 H HRU
      go_wp2_with (go_at_call 49; refine HLE.out.mono ?_; rintro e wn ⟨rfl, hwn⟩; obtain rfl : wa = wn := hwn.symm; clear hwn)
      refine HOF.out.mono ?_
      rintro e wb ⟨hno, hyes, hbb⟩
      cases hop : headOf (D.blk k).1 (D.bs.length : Int) with
      | none =>
        obtain rfl := hno hop
        obtain ⟨wc, hwc⟩ : ∃ x, wb.alloc (.cells #[.int .u64 0, .int .u64 0, .int .i64 0, .int .u64 0, .int .i64 0] 78) = x := ⟨_, rfl⟩
        have hbwc : Below wb.heap.size wb wc := by rw [← hwc]; exact (Below.refl _ wb).alloc (Nat.le_refl _) _
        have hmwc : Box wc wb.heap.size 78 (hv Hd.zero) := by rw [← hwc]; exact Box.made wb _ _
        obtain ⟨wd, hwd⟩ : ∃ x, wc.setRow wb.heap.size (hv Hd.zero) = x := ⟨_, rfl⟩
        have hmwd : Box wd wb.heap.size 78 (hv Hd.zero) := by rw [← hwd]; exact setRow_heap _ _ _ _ _ _ hmwc
        have hbwd : Below wb.heap.size wb wd := hbwc.trans (by rw [← hwd]; exact (Below.refl _ wc).grown (grown_row (grown_refl _ (some wb.heap.size)) _) hbwc.size (fun k e => by injection e with e; omega))
        have HMwc := Lib.hid hmwc
        have HWwd := Lib.hid hwd
        have hbad := hbb.trans (hbwd.mono hbb.size)
        have hln : lastN D (k + 1) = lastN D k := by show pickH _ _ _ = _; rw [hop]; rfl
        have HN := Lib.hid (show LoadI w K p D g4 (k + 1) wd from ⟨HA.out.1.trans (Touch.of_below hbad), HA.out.2.1.below hbad, Box.below HA.out.2.2.1 hbad HA.out.2.2.1.lt, by rw [hln]; exact Box.below HA.out.2.2.2 hbad HA.out.2.2.2.lt⟩)
        clear hno hyes hop hbb hmwc hbwc hmwd hbwd hwd hbad hln HA HOF HLE
        go_wp2_with (refine wpList_store_row rfl 78 _ _ rfl wb.heap.size (hv Hd.zero) rfl rfl 78 _ HMwc.out (by rw [hv_size]; exact hdInfo) rfl (hv_one _) ?_; rw [HWwd.out])
        go_roundw
        case rel => exact ⟨k + 1, by go_num, by omega, HN⟩
        case measure => simp [intOf]; omega
      | some h =>
        obtain rfl := hyes h hop
        obtain ⟨wc, hwc⟩ : ∃ x, wb.alloc (.cells #[.int .u64 0, .int .u64 0, .int .i64 0, .int .u64 0, .int .i64 0] 78) = x := ⟨_, rfl⟩
        have hbwc : Below wb.heap.size wb wc := by rw [← hwc]; exact (Below.refl _ wb).alloc (Nat.le_refl _) _
        have hmwc : Box wc wb.heap.size 78 (hv Hd.zero) := by rw [← hwc]; exact Box.made wb _ _
        obtain ⟨wd, hwd⟩ : ∃ x, wc.setRow wb.heap.size (hv h) = x := ⟨_, rfl⟩
        have hmwd : Box wd wb.heap.size 78 (hv h) := by rw [← hwd]; exact setRow_heap _ _ _ _ _ _ hmwc
        have hbwd : Below wb.heap.size wb wd := hbwc.trans (by rw [← hwd]; exact (Below.refl _ wc).grown (grown_row (grown_refl _ (some wb.heap.size)) _) hbwc.size (fun k e => by injection e with e; omega))
        have HMwc := Lib.hid hmwc
        have HWwd := Lib.hid hwd
        have hbad := hbb.trans (hbwd.mono hbb.size)
        have hA1 := HA.out.1.trans (Touch.of_below (K := K) hbad)
        have hA2 := HA.out.2.1.below hbad
        have hA3 := Box.below HA.out.2.2.1 hbad HA.out.2.2.1.lt
        have hA4 := Box.below HA.out.2.2.2 hbad HA.out.2.2.2.lt
        have HB := Lib.hid (And.intro hA1 (And.intro hA2 (And.intro hA3 hA4)))
        have HH := Lib.hid hmwd
        have hgb : g4 < wb.heap.size := Nat.lt_of_lt_of_le HA.out.2.2.2.lt hbb.size
        have q0 : wd.cell? ⟨wb.heap.size, 0, none⟩ = some (.int .u64 (h.gen : Int)) := (Box.cell hmwd 0).trans rfl
        have q1 : wd.cell? ⟨wb.heap.size, 1, none⟩ = some (.int .u64 (h.epoch : Int)) := (Box.cell hmwd 1).trans rfl
        have q2 : wd.cell? ⟨wb.heap.size, 2, none⟩ = some (.int .i64 h.pos) := (Box.cell hmwd 2).trans rfl
        have q3 : wd.cell? ⟨wb.heap.size, 3, none⟩ = some (.int .u64 (h.seq : Int)) := (Box.cell hmwd 3).trans rfl
        have q4 : wd.cell? ⟨wb.heap.size, 4, none⟩ = some (.int .i64 h.log) := (Box.cell hmwd 4).trans rfl
        have HSO := Lib.hid (slot_says wd h)
        have HOP := Lib.hid (show lastN D (k + 1) = pickH (lastN D k) k (some h) by show pickH _ _ _ = _; rw [hop])
        clear hno hyes hop hbb hmwc hbwc hmwd hbwd hwd hbad hA1 hA2 hA3 hA4 HA HOF HLE
        go_wp2_with (refine wpList_store_row rfl 78 _ _ rfl wb.heap.size (hv h) rfl rfl 78 _ HMwc.out (by rw [hv_size]; exact hdInfo) rfl (hv_one _) ?_; rw [HWwd.out])
        clear q0 q1 q2 q3 q4
        refine HSO.out.mono ?_
        rintro e we ⟨rfl, hbe⟩
        have hE1 := HB.out.1.trans (Touch.of_below (K := K) hbe)
        have hE2 := HB.out.2.1.below hbe
        have hE3 := Box.below HB.out.2.2.1 hbe HB.out.2.2.1.lt
        have hE4 := Box.below HB.out.2.2.2 hbe HB.out.2.2.2.lt
        have HHe := Lib.hid (Box.below HH.out hbe HH.out.lt)
        have r0 : we.cell? ⟨wb.heap.size, 0, none⟩ = some (.int .u64 (h.gen : Int)) := (Box.cell HHe.out 0).trans rfl
        have s0 : we.cell? ⟨g4, 0, none⟩ = some (.int .u64 ((lastN D k).gen : Int)) := (Box.cell hE4 0).trans rfl
        clear hbe HB HH HSO
        by_cases hs : h.gen % 2 = k
        · have d1 : ((h.gen : Int) % 2 == (k : Int)) = true := by rw [beq_iff_eq]; omega
          by_cases hg : (lastN D k).gen < h.gen
          · have g1 : ((lastN D k).gen : Int) < (h.gen : Int) := by omega
            have hln : lastN D (k + 1) = h := by rw [HOP.out]; exact if_pos ⟨hs, hg⟩
            obtain ⟨wf, hwf⟩ : ∃ x, we.setRow g4 (hv h) = x := ⟨_, rfl⟩
            have hgf : we.grownBy wf (some g4) := by rw [← hwf]; exact grown_row (grown_refl _ _) _
            have hmf : Box wf g4 78 (hv h) := by rw [← hwf]; exact setRow_heap _ _ _ _ _ _ hE4
            have HN := Lib.hid (show LoadI w K p D g4 (k + 1) wf from ⟨hE1.trans' (Touch.of_grown (K := fun b => b = g4) hgf (fun b e => by injection e with e; exact e.symm)) (fun b e => .inr (by rw [e, HGG.out]; omega)), (Touch.of_grown (K := fun b => b = g4) hgf (fun b e => by injection e with e; exact e.symm)).dev hE2 (fun b q e => q.2 e), Box.grown hE3 hgf (by intro e; injection e with e; have := HGG.out; omega), by rw [hln]; exact hmf⟩)
            have HE4 := Lib.hid hE4
            have HWF := Lib.hid hwf
            clear hs hg hln hgf hmf hE1 hE2 hE3 hE4 hwf HOP
            go_wp2_with (first
              | (refine wpList_load_row rfl 78 _ rfl wb.heap.size rfl 78 _ (0, 0) _ HHe.out Tryz.underlying78 rfl (by rw [hv_size]; exact hdInfo) ?_)
              | (refine wpList_store_row rfl 78 _ _ rfl g4 (hv h) rfl rfl 78 _ HE4.out (by rw [hv_size]; exact hdInfo) rfl (hv_one _) ?_; rw [HWF.out]))
            go_roundw
            case rel => exact ⟨k + 1, by go_num, by omega, HN⟩
            case measure => simp [intOf]; omega
          · have g1 : ¬ ((lastN D k).gen : Int) < (h.gen : Int) := by omega
            have hln : lastN D (k + 1) = lastN D k := by rw [HOP.out]; exact if_neg (fun q => hg q.2)
            have HN := Lib.hid (show LoadI w K p D g4 (k + 1) we from ⟨hE1, hE2, hE3, by rw [hln]; exact hE4⟩)
            clear hs hg hln hE1 hE2 hE3 hE4 HOP
            go_wp2_with fail
            go_roundw
            case rel => exact ⟨k + 1, by go_num, by omega, HN⟩
            case measure => simp [intOf]; omega
        · have d1 : ((h.gen : Int) % 2 == (k : Int)) = false := by rw [beq_eq_false_iff_ne]; omega
          have hln : lastN D (k + 1) = lastN D k := by rw [HOP.out]; exact if_neg (fun q => hs q.1)
          have HN := Lib.hid (show LoadI w K p D g4 (k + 1) we from ⟨hE1, hE2, hE3, by rw [hln]; exact hE4⟩)
          clear hs hln hE1 hE2 hE3 hE4 HOP
          go_wp2_with fail
          go_roundw
          case rel => exact ⟨k + 1, by go_num, by omega, HN⟩
          case measure => simp [intOf]; omega
    · obtain rfl : k = 2 := by omega
      have hTo := H.out.touch
      have HZ := Lib.hid (And.intro hTo (H.out.dev.weak (K' := K) (fun _ q => q.1.1)))
      have HR := Lib.hid H.out.res
      have HL := Lib.hid H.out.last
      obtain ⟨hd, hhd⟩ : ∃ x, lastN D 2 = x := ⟨_, rfl⟩
      rw [hhd] at HL
      have HHD := Lib.hid hhd
      obtain ⟨wz, hwz⟩ : ∃ x, wr.setRow w.heap.size (hv hd) = x := ⟨_, rfl⟩
      have hmz : Box wz w.heap.size 78 (hv hd) := by rw [← hwz]; exact setRow_heap _ _ _ _ _ _ HR.out
      have hgz : wr.grownBy wz (some w.heap.size) := by rw [← hwz]; exact grown_row (grown_refl _ _) _
      have htz : Touch (fun b => b = w.heap.size) wr wz := Touch.of_grown hgz (fun b e => by injection e with e; exact e.symm)
      have HT := Lib.hid (And.intro (hTo.trans' htz (fun b e => .inr (by omega))) ((htz.dev H.out.dev (fun b q e => q.1.2 e)).weak (K' := K) (fun _ q => q.1.1)))
      have e0 : wz.cell? ⟨w.heap.size, 0, none⟩ = some (.int .u64 (hd.gen : Int)) := (Box.cell hmz 0).trans rfl
      have e1 : wz.cell? ⟨w.heap.size, 1, none⟩ = some (.int .u64 (hd.epoch : Int)) := (Box.cell hmz 1).trans rfl
      have e2 : wz.cell? ⟨w.heap.size, 2, none⟩ = some (.int .i64 hd.pos) := (Box.cell hmz 2).trans rfl
      have e3 : wz.cell? ⟨w.heap.size, 3, none⟩ = some (.int .u64 (hd.seq : Int)) := (Box.cell hmz 3).trans rfl
      have e4 : wz.cell? ⟨w.heap.size, 4, none⟩ = some (.int .i64 hd.log) := (Box.cell hmz 4).trans rfl
      have HWZ := Lib.hid hwz
      clear hTo hmz hgz htz hwz hhd H hlt hk
      by_cases hz : hd = Hd.zero
      · have hif : (if lastN D 2 = Hd.zero then (13 : Int) else 0) = 13 := by rw [HHD.out, if_pos hz]
        have HIF := Lib.hid hif
        subst hz
        clear hif
        go_wp2_with (first
          | (refine wpList_load_row rfl 78 _ rfl g4 rfl 78 _ (0, 0) _ HL.out Tryz.underlying78 rfl (by rw [hv_size]; exact hdInfo) ?_)
          | (refine wpList_eql_hd rfl (.tmp 51) (.tmp 52) rfl Hd.zero Hd.zero true (by simp) rfl rfl ?_)
          | (refine wpList_store_row rfl 78 _ _ rfl w.heap.size (hv Hd.zero) rfl rfl 78 _ HR.out (by rw [hv_size]; exact hdInfo) rfl (hv_one _) ?_; rw [HWZ.out]))
        exact bodyPost_ret (v := .tuple #[.agg (hv Hd.zero), .int .i64 13]) (by simp [results, Tryz.results66, go_sem, e0, e1, e2, e3, e4, hv]) rfl ⟨by rw [HIF.out, HHD.out], HT.out.2, HT.out.1⟩
      · have hif : (if lastN D 2 = Hd.zero then (13 : Int) else 0) = 0 := by rw [HHD.out, if_neg hz]
        have HIF := Lib.hid hif
        have HNZ := Lib.hid hz
        clear hif hz
        go_wp2_with (first
          | (refine wpList_load_row rfl 78 _ rfl g4 rfl 78 _ (0, 0) _ HL.out Tryz.underlying78 rfl (by rw [hv_size]; exact hdInfo) ?_)
          | (refine wpList_eql_hd rfl (.tmp 51) (.tmp 52) rfl hd Hd.zero false (by simp [HNZ.out]) rfl rfl ?_)
          | (refine wpList_store_row rfl 78 _ _ rfl w.heap.size (hv hd) rfl rfl 78 _ HR.out (by rw [hv_size]; exact hdInfo) rfl (hv_one _) ?_; rw [HWZ.out]))
        exact bodyPost_ret (v := .tuple #[.agg (hv hd), .int .i64 0]) (by simp [results, Tryz.results66, go_sem, e0, e1, e2, e3, e4, hv]) rfl ⟨by rw [HIF.out, HHD.out], HT.out.2, HT.out.1⟩
end
end Go.Proofs.YtnhondkdkjehaaaGreat
