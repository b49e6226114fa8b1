/-
  Open: a log of a device that is up.
-/
import Derived.Test.YtnhondkdkjehaaaGreatJOpenP
import Derived.Test.YtnhondkdkjehaaaGreatJReadB
namespace Go.Proofs.YtnhondkdkjehaaaGreat
open Go.RowKit

set_option linter.unusedVariables false
set_option linter.unusedSimpArgs false
theorem len_nil1 (w : World) : Calls Tryz.prog 49 #[.pointer none] w fun e w' => e = .returned (.int .i64 0) ∧ w' = w := by
  have hM := made_nil w
  go_enter Tryz.func49, Tryz.ntmps49
  go_wp2_with (go_at_call 60; refine hM.mono ?_; rintro e w' ⟨rfl, rfl⟩)
  go_ret
  exact ⟨rfl, rfl⟩
theorem load_nil (w : World) : Calls Tryz.prog 66 #[.pointer none] w fun e w' => e = .returned (.tuple #[.agg (hv Hd.zero), .int .i64 1]) ∧ Below w.heap.size w w' := by
  obtain ⟨w1, hw1⟩ : ∃ x, w.alloc (.cells #[.int .u64 0, .int .u64 0, .int .i64 0, .int .u64 0, .int .i64 0] 78) = x := ⟨_, rfl⟩
  have hb1 : Below w.heap.size w w1 := by rw [← hw1]; exact (Below.refl _ w).alloc (Nat.le_refl _) _
  have hm1 : Box w1 w.heap.size 78 (hv Hd.zero) := by rw [← hw1]; exact Box.made w _ _
  obtain ⟨w2, hw2⟩ : ∃ x, w1.setRow w.heap.size (hv Hd.zero) = x := ⟨_, rfl⟩
  have hm2 : Box w2 w.heap.size 78 (hv Hd.zero) := by rw [← hw2]; exact setRow_heap _ _ _ _ _ _ hm1
  have hb2 : Below w.heap.size w w2 := hb1.trans (by rw [← hw2]; exact (Below.refl _ w1).grown (grown_row (grown_refl _ (some w.heap.size)) _) hb1.size (fun k e => by injection e with e; omega))
  have e0 : w2.cell? ⟨w.heap.size, 0, none⟩ = some (.int .u64 0) := (Box.cell hm2 0).trans rfl
  have e1 : w2.cell? ⟨w.heap.size, 1, none⟩ = some (.int .u64 0) := (Box.cell hm2 1).trans rfl
  have e2 : w2.cell? ⟨w.heap.size, 2, none⟩ = some (.int .i64 0) := (Box.cell hm2 2).trans rfl
  have e3 : w2.cell? ⟨w.heap.size, 3, none⟩ = some (.int .u64 0) := (Box.cell hm2 3).trans rfl
  have e4 : w2.cell? ⟨w.heap.size, 4, none⟩ = some (.int .i64 0) := (Box.cell hm2 4).trans rfl
  have HM := Lib.hid (show Calls Tryz.prog 96 #[.pointer none] w1 fun e w' => e = .returned (.bool false) ∧ w' = w1 from by
    have hl := len_nil1 w1
    go_enter Tryz.func96, Tryz.ntmps96
    go_wp2_with (go_at_call 49; refine hl.mono ?_; rintro e w' ⟨rfl, rfl⟩)
    go_ret
    exact ⟨rfl, rfl⟩)
  have HM1 := Lib.hid hm1
  have HW2 := Lib.hid hw2
  have HB2 := Lib.hid hb2
  clear hm1 hm2 hb1 hb2 hw2
  go_enter Tryz.func66, Tryz.ntmps66
  go_wp2_with (first
    | (go_at_call 96; refine HM.out.mono ?_; rintro e wn ⟨rfl, hwn⟩; obtain rfl : w1 = wn := hwn.symm; clear hwn)
    | (refine wpList_store_row rfl 78 _ _ rfl w.heap.size (hv Hd.zero) rfl rfl 78 _ HM1.out (by rw [hv_size]; exact hdInfo) rfl (hv_one _) ?_; rw [HW2.out]))
  exact bodyPost_ret (v := .tuple #[.agg (hv Hd.zero), .int .i64 1]) (by simp [results, Tryz.results66, go_sem, e0, e1, e2, e3, e4, hv, Hd.zero]) rfl ⟨rfl, HB2.out⟩
theorem open_nil (w : World) : Calls Tryz.prog 35 #[.pointer none] w fun e w' => e = .returned (.tuple #[.pointer none, .int .i64 1]) ∧ Below w.heap.size w w' := by
  have HL := Lib.hid (load_nil w)
  go_enter Tryz.func35, Tryz.ntmps35
  go_wp2_with fail
  refine HL.out.mono ?_
  rintro e w1 ⟨rfl, hb1⟩
  obtain ⟨w2, hw2⟩ : ∃ x, w1.alloc (.cells #[.int .u64 0, .int .u64 0, .int .i64 0, .int .u64 0, .int .i64 0] 78) = x := ⟨_, rfl⟩
  have hb2 : Below w1.heap.size w1 w2 := by rw [← hw2]; exact (Below.refl _ w1).alloc (Nat.le_refl _) _
  have hm2 : Box w2 w1.heap.size 78 (hv Hd.zero) := by rw [← hw2]; exact Box.made w1 _ _
  obtain ⟨w3, hw3⟩ : ∃ x, w2.setRow w1.heap.size (hv Hd.zero) = x := ⟨_, rfl⟩
  have hb3 : Below w1.heap.size w1 w3 := hb2.trans (by rw [← hw3]; exact (Below.refl _ w2).grown (grown_row (grown_refl _ (some w1.heap.size)) _) hb2.size (fun k e => by injection e with e; omega))
  have HM2 := Lib.hid hm2
  have HW3 := Lib.hid hw3
  have HB3 := Lib.hid (hb1.trans (hb3.mono hb1.size))
  clear hb1 hb2 hm2 hw3 hb3
  go_wp2_with (refine wpList_store_row rfl 78 _ _ rfl w1.heap.size (hv Hd.zero) rfl rfl 78 _ HM2.out (by rw [hv_size]; exact hdInfo) rfl (hv_one _) ?_; rw [HW3.out])
  go_ret2
  exact ⟨rfl, HB3.out⟩
/-- What Open hands on. -/
def OpenPost (w : World) (K : Nat → Prop) (dp : Nat) (D : Dv) (R : Int × Lg × Dv) (e : Ending) (w' : World) : Prop :=
  (R.1 = 0 → ∃ p mb ma M1 M2, e = .returned (.tuple #[.pointer (some ⟨p, 0, none⟩), .int .i64 0]) ∧ (w.heap.size ≤ M1 ∧ M2 ≤ w'.heap.size) ∧ (M1 ≤ p ∧ p < M2) ∧ (M1 ≤ mb ∧ mb < M2) ∧ (M1 ≤ ma ∧ ma < M2) ∧ p ≠ mb ∧ p ≠ ma ∧ mb ≠ ma ∧
    Box w' p 81 (lc dp (.map (some mb), .map (some ma)) R.2.1) ∧ w'.ownsMap Tryz.prog 3 rowEl mb 0 (.map []) ∧
    WetAt w' ma (fun k => (((M1 ≤ k ∧ k < M2) ∧ k ≠ p) ∧ k ≠ mb) ∧ k ≠ ma) (lastN D 2).log.toNat (mindTo (lgOf (lastN D 2)) (callsN D 2) (fun _ => none) (lastN D 2).log.toNat) ∧ Dev w' (fun k => (K k ∧ k < M1) ∨ M2 ≤ k) dp R.2.2) ∧
  (R.1 ≠ 0 → e = .returned (.tuple #[.pointer none, .int .i64 R.1]) ∧ Dev w' K dp R.2.2) ∧ Touch K w w'
theorem settleTo_or (base : Nat) (cs : List Cg) (next : Hd) (D : Dv) : (settleTo base cs next D).1 = 0 ∨ (settleTo base cs next D).1 = 17 := by
  unfold settleTo andThen
  by_cases hc : cs = []
  · rw [if_pos hc]
    exact saveTo_or _ _
  · rw [if_neg hc]
    by_cases h0 : (layTo base cs D).1 = 0
    · rw [if_pos h0]
      exact saveTo_or _ _
    · rw [if_neg h0]
      exact layTo_or _ _ _
section
variable {w : World} {K : Nat → Prop} {dp : Nat} {D : Dv}
set_option maxRecDepth 100000 in
set_option maxHeartbeats 4000000 in
theorem open_log (hd : Dev w K dp D) (hK : ∀ k, w.heap.size ≤ k → K k) (ho : D.ops ≤ 40000) (h2 : 2 ≤ D.bs.length) (hdn : D.down = false) (hlf : D.left = -1) (hsm : (lastN D 2).gen < 2305843009213693952 ∧ (lastN D 2).epoch < 2305843009213693952 ∧ (lastN D 2).seq < 2305843009213693952) :
    Calls Tryz.prog 35 #[.pointer (some ⟨dp, 0, none⟩)] w (OpenPost w K dp D (openTo D)) := by
  have HL := Lib.hid (load_says hd hK (by omega) h2 hdn hlf)
  have hmost := hd.1.most
  have hri := lastN_right D 2
  have hca := callsN_up hdn hlf 2
  have hbt := blkTo_up (lastN D 2).log.toNat (callsN D 2) hca.1 hca.2.1
  obtain ⟨h, hh⟩ : ∃ x, lastN D 2 = x := ⟨_, rfl⟩
  rw [hh] at hri hsm hbt
  have HH := Lib.hid hh
  have hmm := @run_makeMap Tryz.prog
  clear hd hdn hlf
  go_enter Tryz.func35, Tryz.ntmps35
  go_wp2_with fail
  refine HL.out.mono ?_
  rintro e w1 ⟨rfl, hd1, ht1⟩
  obtain ⟨w2, hw2⟩ : ∃ x, w1.alloc (.cells #[.int .u64 0, .int .u64 0, .int .i64 0, .int .u64 0, .int .i64 0] 78) = x := ⟨_, rfl⟩
  have hb2 : Below w1.heap.size w1 w2 := by rw [← hw2]; exact (Below.refl _ w1).alloc (Nat.le_refl _) _
  have hm2 : Box w2 w1.heap.size 78 (hv Hd.zero) := by rw [← hw2]; exact Box.made w1 _ _
  obtain ⟨w3, hw3⟩ : ∃ x, w2.setRow w1.heap.size (hv h) = x := ⟨_, rfl⟩
  have hm3 : Box w3 w1.heap.size 78 (hv h) := by rw [← hw3]; exact setRow_heap _ _ _ _ _ _ hm2
  have hb3 : Below w1.heap.size w1 w3 := hb2.trans (by rw [← hw3]; exact (Below.refl _ w2).grown (grown_row (grown_refl _ (some w1.heap.size)) _) hb2.size (fun k e => by injection e with e; omega))
  rw [HH.out]
  by_cases hz : h = Hd.zero
  · rw [if_pos hz]
    have hop : openTo D = (13, lgOf Hd.zero, callsN D 2) := openTo_none (by rw [HH.out, hz])
    have HOP := Lib.hid hop
    have HM2 := Lib.hid hm2
    have HW3 := Lib.hid hw3
    have HD3 := Lib.hid (And.intro (hd1.below hb3) (ht1.trans' (Touch.of_below (K := fun _ => False) hb3) (fun _ h => h.elim)))
    clear hd1 ht1 hb2 hm2 hw3 hm3 hb3 hop hz hri
    go_wp2_with (refine wpList_store_row rfl 78 _ _ rfl w1.heap.size (hv h) rfl rfl 78 _ HM2.out (by rw [hv_size]; exact hdInfo) rfl (hv_one _) ?_; rw [HW3.out])
    go_ret2
    rw [HOP.out]
    exact ⟨fun h => absurd h (show ¬ (13 : Int) = 0 by decide), fun _ => ⟨rfl, HD3.out.1⟩, HD3.out.2⟩
  · rw [if_neg hz]
    have hr : h.rightB (D.bs.length : Int) = true := hri.resolve_left hz
    have hrr := Hd.right_iff.1 hr
    obtain ⟨n, hn⟩ : ∃ n, h.log.toNat = n := ⟨_, rfl⟩
    have hlog : h.log = (n : Int) := by omega
    rw [hn] at hbt
    obtain ⟨D1, hD1⟩ : ∃ x : Dv, (⟨(callsN D 2).bs, (callsN D 2).ws, (callsN D 2).ops + n, -1, false⟩ : Dv) = x := ⟨_, rfl⟩
    rw [hD1] at hbt
    have hbs1 : D1.bs = D.bs := by rw [← hD1]; exact hca.2.2.1
    have hop1 : D1.ops = D.ops + 2 + n := by rw [← hD1]; show (callsN D 2).ops + n = _; rw [hca.2.2.2.1]
    obtain ⟨R, hR⟩ : ∃ R, readB (homeOf D (lgOf h)) (n + 1) (lgOf h) [] (logBks (lgOf h) (callsN D 2) n) = R := ⟨_, rfl⟩
    have hop := openTo_some (b := true) (D1 := D1) (R := R) HH.out hz (by rw [hn]; exact hbt) (by rw [hn]; exact hR)
    rw [hn] at hop
    obtain ⟨w4, hw4⟩ : ∃ x, w3.alloc (.map #[] 0) = x := ⟨_, rfl⟩
    have hb4 : Below w3.heap.size w3 w4 := by rw [← hw4]; exact (Below.refl _ w3).alloc (Nat.le_refl _) _
    have hmp4 : w4.ownsMap Tryz.prog 3 rowEl w3.heap.size 0 (.map []) := by rw [← hw4]; exact World.ownsMap_made _ _ _ _
    obtain ⟨w5, hw5⟩ : ∃ x, w4.alloc (.map #[] 0) = x := ⟨_, rfl⟩
    have hb5 : Below w4.heap.size w4 w5 := by rw [← hw5]; exact (Below.refl _ w4).alloc (Nat.le_refl _) _
    have hma5 : w5.ownsMap Tryz.prog 3 rowEl w4.heap.size 0 (.map []) := by rw [← hw5]; exact World.ownsMap_made _ _ _ _
    obtain ⟨w6, hw6⟩ : ∃ x, w5.alloc (.cells #[.pointer (some ⟨dp, 0, none⟩), .int .u64 (h.gen : Int), .int .u64 (h.epoch : Int), .int .i64 h.pos, .int .u64 (h.seq : Int), .int .i64 h.log, .int .i64 0, .int .u64 (h.seq : Int), .map (some w3.heap.size), .map (some w4.heap.size), .bool false] 81) = x := ⟨_, rfl⟩
    have hb6 : Below w5.heap.size w5 w6 := by rw [← hw6]; exact (Below.refl _ w5).alloc (Nat.le_refl _) _
    have hx6 : Box w6 w5.heap.size 81 (lc dp (.map (some w3.heap.size), .map (some w4.heap.size)) (lgOf h)) := by rw [← hw6]; exact Box.made w5 _ _
    have hmp6 : w6.ownsMap Tryz.prog 3 rowEl w3.heap.size 0 (.map []) := (hmp4.kept (grown_of_below hb5 none) (by simp)).kept (grown_of_below hb6 none) (by simp)
    have hma6 : w6.ownsMap Tryz.prog 3 rowEl w4.heap.size 0 (.map []) := hma5.kept (grown_of_below hb6 none) (by simp)
    have hp4 : w4.heap.size = w3.heap.size + 1 := by rw [← hw4]; simp
    have hp5 : w5.heap.size = w4.heap.size + 1 := by rw [← hw5]; simp
    have HP4 := Lib.hid hp4
    have HP5 := Lib.hid hp5
    have hs3 := hb3.size
    have hs6 := hb6.size
    have hx6lt := hx6.lt
    have hs1 := ht1.size
    have hB6 : Below w1.heap.size w1 w6 := hb3.trans ((hb4.trans ((hb5.trans (hb6.mono (by omega))).mono (by omega))).mono hb3.size)
    have hL0 : (lgOf h).Ok := ⟨by show 3 ≤ h.log; omega, by show h.log ≤ 4096; omega, by show 0 ≤ h.pos; omega, by show h.pos < h.log; omega, by show ((0 : Nat) : Int) ≤ h.log; omega, h.hs, rfl⟩
    have hd6 : Dev w6 (fun k => K k ∧ k < w1.heap.size) dp (callsN D 2) := hd1.inside.below hB6
    have hp6 : ¬ (K w5.heap.size ∧ w5.heap.size < w1.heap.size) := fun q => by omega
    have ha6 : ¬ (K w4.heap.size ∧ w4.heap.size < w1.heap.size) := fun q => by omega
    have hcb : (callsN D 2).bs = D.bs := hca.2.2.1
    have hco : (callsN D 2).ops = D.ops + 2 := hca.2.2.2.1
    have hbk := jblocks_says (J := fun _ => False) (q := 0) (al := fun _ => none) hx6 hL0 hp6 ha6 (by omega) hd6 (fun b q => by omega) (by rw [hcb]; show 2 + h.log.toNat ≤ _; omega) (by omega) (WetAt.none_yet (fun _ => False) hma6) (fun b q => q.elim) (fun q => q) (by omega)
    rw [show (lgOf h).h.log.toNat = n from hn, hbt] at hbk
    have HBK := Lib.hid hbk
    have hrk := readB_ok (homeOf D (lgOf h)) (n + 1) (lgOf h) [] (logBks (lgOf h) (callsN D 2) n) (by rw [logBks_length]; show ((0 : Nat) : Int) + (n : Int) ≤ h.log; omega)
    have hrf := readB_few (homeOf D (lgOf h)) (n + 1) (lgOf h) [] (logBks (lgOf h) (callsN D 2) n) ⟨(fun x hx => by cases hx), Nat.zero_le _⟩
    rw [hR] at hrk hrf
    have c3 : w3.cell? ⟨w1.heap.size, 3, none⟩ = some (.int .u64 (h.seq : Int)) := (Box.cell hm3 3).trans rfl
    have HR3 := Lib.hid (hd_range hm3)
    have HM2 := Lib.hid hm2
    have HW3 := Lib.hid hw3
    have HW4 := Lib.hid hw4
    have HW5 := Lib.hid hw5
    have HW6 := Lib.hid hw6
    have HOP := Lib.hid hop
    have HRK := Lib.hid (And.intro hrk (And.intro hrf (And.intro hR hL0)))
    have HT6 := Lib.hid (show Touch K w w6 from ht1.trans' (Touch.of_below (K := fun _ => False) hB6) (fun _ h => h.elim))
    have HMP := Lib.hid (And.intro hmp6 hx6)
    have HRI := Lib.hid (And.intro hr hrr)
    have HDD := Lib.hid (And.intro hbs1 hop1)
    have HN := Lib.hid (And.intro hn hlog)
    clear hlog hd1 ht1 hb2 hm2 hw3 hm3 hb3 hop hw4 hb4 hmp4 hw5 hb5 hma5 hw6 hb6 hx6 hmp6 hma6 hB6 hL0 hd6 hcb hbk hrk hrf hR hr hrr hri hz hbt hbs1 hop1 hD1 hn hco hca
    go_upto_region 4 with (refine wpList_store_row rfl 78 _ _ rfl w1.heap.size (hv h) rfl rfl 78 _ HM2.out (by rw [hv_size]; exact hdInfo) rfl (hv_one _) ?_; rw [HW3.out])
    go_upto_region 5 with (refine wpList_load_mid rfl 78 _ rfl w1.heap.size 0 rfl (hvl h) _ HR3.out Tryz.underlying78 rfl (by kernel_rfl) ?_; simp only [hvl])
    rw [HW4.out, HW5.out, ← HP4.out, ← HP5.out, HW6.out]
    obtain ⟨p, hp⟩ : ∃ x, w5.heap.size = x := ⟨_, rfl⟩
    obtain ⟨mb, hmb⟩ : ∃ x, w3.heap.size = x := ⟨_, rfl⟩
    obtain ⟨ma, hma⟩ : ∃ x, w4.heap.size = x := ⟨_, rfl⟩
    rw [hp, hmb, hma]
    rw [hp, hma] at HBK
    rw [hp, hmb, hma] at HMP
    rw [hp] at hp6
    rw [hma] at ha6
    have hpm : p ≠ mb := by omega
    have hpma : p ≠ ma := by omega
    have hmm2 : mb ≠ ma := by omega
    have hpw1 : w1.heap.size ≤ p := by omega
    have hmw1 : w1.heap.size ≤ mb := by omega
    have haw1 : w1.heap.size ≤ ma := by omega
    have hpw6 : p < w6.heap.size := by omega
    have hmw6 : mb < w6.heap.size := by omega
    have haw6 : ma < w6.heap.size := by omega
    have hw16 : w1.heap.size ≤ w6.heap.size := by omega
    clear hp4 hp5 hx6lt hp hmb hma hmm c3 HW3 HW4 HW5 HW6 HM2 HR3 HP4 HP5 hs3 hs6
    go_wp2_with fail
    refine HBK.out.mono ?_
    rintro e w7 ⟨hd7, ht7, _, hok7⟩
    obtain ⟨vs, rfl, htab7, hrws7, hwet7⟩ := hok7 trivial
    have hs7 := ht7.size
    have htl7 := htab7.lt
    have hx7 := ht7.box HMP.out.2 (fun h => h.elim hp6 hpma)
    have hT7 : Touch K w w7 := HT6.out.trans' ht7 (fun k h => h.elim (fun q => .inl q.1) (fun q => .inr (by omega)))
    have hm7 : w7.ownsMap Tryz.prog 3 rowEl mb 0 (.map []) := by
      obtain ⟨es, clock, e1, e2⟩ := HMP.out.1
      exact ⟨es, clock, (ht7.block mb hmw6 (fun h => h.elim (fun q => by omega) (fun q => hmm2 q))).trans e1, e2⟩
    have hwt7 := hwet7.weak (J' := fun k => w6.heap.size < k ∧ k < w7.heap.size) (fun k h1 h2 => ⟨h2.elim False.elim (fun q => q), h1⟩)
    have hrw7 := hrws7.weak (N' := fun k => w6.heap.size < k ∧ k < w7.heap.size) (fun k h1 h2 => ⟨h2, h1⟩)
    have hvsl : vs.length = n := by rw [hrws7.1, logBks_length]
    have hhm1 : homeOf D1 (lgOf h) = homeOf D (lgOf h) := by unfold homeOf; rw [HDD.out.1]
    have hrd := jread_says (K := fun k => K k ∧ k < w1.heap.size) (NR := fun k => w6.heap.size < k ∧ k < w7.heap.size) (gb := w6.heap.size) hx7 HRK.out.2.2.2 rfl (by show h.seq ≤ _; omega) hp6 hd7 (fun k q => by have := q.2; omega) (some ⟨w6.heap.size, 0, none⟩) n n (htab7.toLies (n := n) (by rw [List.length_map, hvsl]) (Nat.le_refl n)) hrw7 (by rw [logBks_length]; show (n : Int) ≤ h.log; rw [HN.out.2]; exact Int.le_refl _) (by omega) (fun k q => by omega) (fun k q => q.2) (by omega)
    rw [hhm1, logBks_length, HRK.out.2.2.1] at hrd
    have HRD := Lib.hid hrd
    have H7 := Lib.hid (And.intro hT7 (And.intro hm7 hwt7))
    clear hd7 ht7 hok7 htab7 hrws7 hwet7 hx7 hT7 hm7 hwt7 hrw7 hhm1 hrd HBK
    go_wp2_with fail
    refine HRD.out.mono ?_
    rintro e w8 ⟨⟨A, m, c, xs, rfl, hch, hcg, hwh⟩, hx8, hd8, ht8⟩
    have hs8 := ht8.size
    have hT8 : Touch K w w8 := H7.out.1.trans' ht8 (fun k h => h.elim (fun q => .inl q.1) (fun q => .inr (by have := H7.out.1.size; omega)))
    have hm8 : w8.ownsMap Tryz.prog 3 rowEl mb 0 (.map []) := by
      obtain ⟨es, clock, e1, e2⟩ := H7.out.2.1
      exact ⟨es, clock, (ht8.block mb (by omega) (fun h => h.elim (fun q => by omega) (fun q => hpm q.symm))).trans e1, e2⟩
    have hwt8 := H7.out.2.2.touch ht8 (fun h => h.elim (fun q => by omega) (fun q => hpma q.symm)) (fun k h1 h2 => h2.elim (fun q => by omega) (fun q => by omega))
    obtain ⟨hrk, hrf, hR, hL0⟩ := HRK.out
    obtain ⟨hr, hrr⟩ := HRI.out
    obtain ⟨hn, hlog⟩ := HN.out
    have hRh : R.2.h = h := hrk.head
    have hRu : (R.2.used : Int) ≤ h.log := hrk.used
    have hRs : R.2.seq ≤ h.seq + R.2.used := by have := hrk.seq; show _ ≤ _; have h1 : R.2.seq + 0 ≤ h.seq + R.2.used := this; omega
    have hLR : R.2.Ok := ⟨by rw [hRh]; exact hL0.log0, by rw [hRh]; exact hL0.log1, by rw [hRh]; exact hL0.pos0, by rw [hRh]; exact hL0.pos1, by rw [hRh]; exact hRu, by omega, hrk.down⟩
    have hRg : R.2.h.gen < 18446744073709551615 := by rw [hRh]; omega
    have hbu := bump_is hLR hRg (by rw [hRh]; omega)
    have hseq1 : 1 ≤ R.2.seq := by have h1 : h.seq ≤ R.2.seq := hrk.low; omega
    have hbr : R.2.bump.rightB (D1.bs.length : Int) = true := by
      rw [HDD.out.1]
      exact bump_right hLR (by rw [hRh]; exact hr) (by rw [hRh]; omega) (by rw [hRh]; omega) ⟨hseq1, by omega⟩
    have HBH := Lib.hid (jbehind_says hx8 hLR hRg)
    obtain ⟨N, hN⟩ : ∃ N, R.2.behind hLR hRg = N := ⟨_, rfl⟩
    rw [hN] at HBH
    obtain ⟨B, hB⟩ : ∃ B, R.2.bump = B := ⟨_, rfl⟩
    rw [hB] at hbu hbr
    have k0 : B.gen = N.gen := by rw [hbu.1, ← hN]; rfl
    have k1 : (N.epoch : Int) + 1 = (B.epoch : Int) := by rw [hbu.2.1, ← hN]; show (R.2.h.epoch : Int) + 1 = _; omega
    have k2 : B.pos = N.pos := by rw [hbu.2.2.1, ← hN]; rfl
    have k3 : B.seq = N.seq := by rw [hbu.2.2.2.1, ← hN]; rfl
    have k4 : B.log = N.log := by rw [hbu.2.2.2.2, ← hN]; rfl
    have hq1 : IntKind.u64.wrap ((N.epoch : Int) + 1) = (B.epoch : Int) := by rw [k1, IntKind.wrap_u64]; have := B.he; omega
    have HOP2 := Lib.hid (show openTo D = ((settleTo (2 + n) R.1 B D1).1, R.2.settled B, (settleTo (2 + n) R.1 B D1).2) from by rw [HOP.out, hB])
    have hop1 := HDD.out.2
    have hnx : xs.length ≤ 4096 := by
      have h1 := hrf.2
      rw [← hcg, List.length_map] at h1
      omega
    have hnn : xs.length = m := hch.1
    have hRdn : R.2.down = false := hrk.down
    have hfit : ∀ x ∈ xs, x.fits (homeOf D1 R.2) := fun x hx => by
      obtain ⟨q1, q2⟩ := hwh x hx
      have h1 := hrf.1 x.cg (by rw [← hcg]; exact List.mem_map_of_mem hx)
      have h2 : homeOf D1 R.2 = homeOf D (lgOf h) := by
        unfold homeOf
        rw [HDD.out.1, hRh]
        rfl
      rw [h2]
      have h3 : ((x.n.toNat : Nat) : Int) < homeOf D (lgOf h) := h1
      exact ⟨⟨q1, by omega⟩, q2⟩
    have HK8 := Lib.hid (And.intro hx8 (And.intro hd8 (And.intro hm8 (And.intro hT8 (And.intro hch (And.intro hfit (And.intro hbr (And.intro hcg (And.intro hRh (And.intro hRdn hwt8))))))))))
    clear hx8 hd8 hm8 hT8 hch hcg hwh hrk hrf hR hL0 hr hrr hRh hRu hRs hLR hRg hbu hseq1 hbr hfit k1 hN hB ht8 hRdn hwt8 hn hlog HRD
    go_wp2_with fail
    refine HBH.out.mono ?_
    rintro e w9 ⟨rfl, hb9⟩
    obtain ⟨wA, hwA⟩ : ∃ x, w9.alloc (.cells #[.int .u64 0, .int .u64 0, .int .i64 0, .int .u64 0, .int .i64 0] 78) = x := ⟨_, rfl⟩
    have hbA : Below w9.heap.size w9 wA := by rw [← hwA]; exact (Below.refl _ w9).alloc (Nat.le_refl _) _
    have hmA : Box wA w9.heap.size 78 (hv Hd.zero) := by rw [← hwA]; exact Box.made w9 _ _
    obtain ⟨wB, hwB⟩ : ∃ x, wA.setRow w9.heap.size (hv N) = x := ⟨_, rfl⟩
    have hmB : Box wB w9.heap.size 78 (hv N) := by rw [← hwB]; exact setRow_heap _ _ _ _ _ _ hmA
    have hbB : Below w9.heap.size w9 wB := hbA.trans (by rw [← hwB]; exact (Below.refl _ wA).grown (grown_row (grown_refl _ (some w9.heap.size)) _) hbA.size (fun k e => by injection e with e; omega))
    obtain ⟨wC, hwC⟩ : ∃ x, wB.setCell ⟨w9.heap.size, 1, none⟩ (.int .u64 (B.epoch : Int)) = x := ⟨_, rfl⟩
    have hmC : Box wC w9.heap.size 78 (hv B) := by
      rw [← hwC]
      have := Box.put hmB 1 (.int .u64 (B.epoch : Int))
      simpa [hv, k0, k2, k3, k4] using this
    have hbC : Below w9.heap.size w9 wC := hbB.trans (by rw [← hwC]; exact (Below.refl _ wB).grown (grown_set (grown_refl _ (some w9.heap.size)) _ _) hbB.size (fun k e => by injection e with e; omega))
    have hBC : Below w8.heap.size w8 wC := hb9.trans (hbC.mono hb9.size)
    have hsC := hBC.size
    have c1 : wB.cell? ⟨w9.heap.size, 1, none⟩ = some (.int .u64 (N.epoch : Int)) := (Box.cell hmB 1).trans rfl
    have f1 := Box.frozen hmB 1
    obtain ⟨hx8, hd8, hm8, hT8, hch, hfit, hbr, hcg, hRh, hRdn, hwt8⟩ := HK8.out
    have hxC := Box.below hx8 hBC hx8.lt
    have hdC : Dev wC (fun k => (K k ∧ k < w1.heap.size) ∨ wC.heap.size ≤ k) dp D1 := (hd8.below hBC).weak (fun k q => .inl q)
    have hmmC : wC.ownsMap Tryz.prog 3 rowEl mb 0 (.map []) := hm8.kept (grown_of_below hBC none) (by simp)
    have hwtC := hwt8.touch (Touch.of_below (K := fun _ => False) hBC) (fun q => q) (fun _ _ q => q)
    have hchC := (hch.weak (N' := fun k => w7.heap.size ≤ k ∧ k < w8.heap.size) (fun b hb hn => ⟨hn, hb⟩)).below hBC
    have hst := jsettle_says (K := fun k => (K k ∧ k < w1.heap.size) ∨ wC.heap.size ≤ k) hxC (by rw [hRh]; have h1 := HRI.out.2; omega) hRdn (fun q => q.elim (fun q => by omega) (fun q => by omega)) (fun q => q.elim (fun q => by omega) (fun q => by omega)) hpm hmmC hdC (fun k hk => .inr hk) (fun k => w7.heap.size ≤ k ∧ k < w8.heap.size) (fun b hn q => q.elim (fun q => by omega) (fun q => by omega)) A m c xs hchC hfit B hbr (by have := HRI.out.2; have := HN.out.2; omega)
    rw [hRh, hcg, HN.out.1] at hst
    have HST := Lib.hid hst
    have HTC := Lib.hid (And.intro (show Touch K w wC from hT8.trans' (Touch.of_below (K := fun _ => False) hBC) (fun _ h => h.elim)) hwtC)
    have HRC := Lib.hid (hd_range hmC)
    have HMA := Lib.hid hmA
    have HWB := Lib.hid hwB
    have HWC := Lib.hid hwC
    clear hb9 hbA hmA hwB hmB hbB hwC hmC hbC hBC hx8 hd8 hm8 hT8 hch hfit hbr hcg hRh hRdn hxC hdC hmmC hchC hst k0 k2 k3 k4 hwt8 hwtC
    go_upto_region 10 with (refine wpList_store_row rfl 78 _ _ rfl w9.heap.size (hv N) rfl rfl 78 _ HMA.out (by rw [hv_size]; exact hdInfo) rfl (hv_one _) ?_; rw [HWB.out])
    go_upto_region 11 with fail
    rw [HWC.out]
    go_upto_region 12 with (first
      | (refine wpList_load_mid rfl 78 _ rfl w9.heap.size 0 rfl (hvl B) _ HRC.out Tryz.underlying78 rfl (by kernel_rfl) ?_)
      | (go_at_call 42; refine HST.out.mono ?_; rintro e wD ⟨rfl, hdD, htD, hok⟩; have HS := Lib.hid (And.intro hdD (And.intro htD hok)); clear hdD htD hok))
    obtain ⟨hdD, htD, hok⟩ := HS.out
    clear HS
    have hTD : Touch K w wD := HTC.out.1.trans' htD (fun k q => q.elim (fun q => q.elim (fun q => .inl q.1) (fun q => .inr (by have := HTC.out.1.size; omega))) (fun q => .inr (by have := HT6.out.size; rcases q with q | q <;> omega)))
    have hsD := htD.size
    rcases settleTo_or (2 + n) R.1 B D1 with hz0 | hz0
    · obtain ⟨hxD, hmD⟩ := hok hz0
      have hwtD := HTC.out.2.touch htD (fun q => q.elim (fun q => q.elim (fun q => by omega) (fun q => by omega)) (fun q => q.elim (fun q => hpma q.symm) (fun q => hmm2 q.symm))) (fun k h1 q => q.elim (fun q => q.elim (fun q => by omega) (fun q => by omega)) (fun q => by rcases q with q | q <;> omega))
      have HZ := Lib.hid (And.intro hxD (And.intro hmD (And.intro (hwtD.weak (J' := fun k => (((w1.heap.size ≤ k ∧ k < wC.heap.size) ∧ k ≠ p) ∧ k ≠ mb) ∧ k ≠ ma) (fun k _ q => ⟨⟨⟨⟨by omega, by omega⟩, by omega⟩, by omega⟩, by omega⟩)) hdD)))
      have HTD := Lib.hid hTD
      have HZ0 := Lib.hid hz0
      rw [hz0]
      clear hdD htD hok hTD hxD hmD hz0 hwtD
      go_wp2
      go_ret2
      rw [HOP2.out]
      refine ⟨fun _ => ⟨p, mb, ma, w1.heap.size, wC.heap.size, rfl, ⟨by omega, by omega⟩, ⟨by omega, by omega⟩, ⟨by omega, by omega⟩, ⟨by omega, by omega⟩, hpm, hpma, hmm2, HZ.out.1, HZ.out.2.1, ?_, HZ.out.2.2.2⟩, fun q => absurd HZ0.out q, HTD.out⟩
      rw [HH.out, HN.out.1]
      have := HZ.out.2.2.1
      rwa [Nat.zero_add] at this
    · have HZ := Lib.hid (And.intro (hdD.weak (K' := K) (fun k q => q.elim (fun q => q.1) (fun q => hK k (by have := HTC.out.1.size; omega)))) hTD)
      have HZ0 := Lib.hid hz0
      rw [hz0]
      clear hdD htD hok hTD hz0
      go_wp2
      go_ret2
      rw [HOP2.out]
      refine ⟨fun q => absurd q (by rw [HZ0.out]; decide), fun _ => ⟨by rw [HZ0.out]; rfl, HZ.out.1⟩, HZ.out.2⟩
end
end Go.Proofs.YtnhondkdkjehaaaGreat
