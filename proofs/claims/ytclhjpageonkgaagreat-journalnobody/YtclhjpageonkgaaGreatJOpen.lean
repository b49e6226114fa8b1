/-
  Open: a log of a device that is up.
-/
import Derived.Test.YtclhjpageonkgaaGreatJOpenP
import Derived.Test.YtclhjpageonkgaaGreatJRead
namespace Go.Proofs.YtclhjpageonkgaaGreat
open Go.RowKit

set_option linter.unusedVariables false
set_option linter.unusedSimpArgs false
theorem len_nil1 (w : World) : Calls Tryz.prog 49 #[.pointer none] w fun e w' => e = .returned (.int .i64 0) ∧ w' = w := by
  have hM := made_nil w
  go_enter Tryz.func49, Tryz.ntmps49
  go_wp2_with (go_at_call 60; refine hM.mono ?_; rintro e w' ⟨rfl, rfl⟩)
  go_ret
  exact ⟨rfl, rfl⟩
theorem load_nil (w : World) : Calls Tryz.prog 66 #[.pointer none] w fun e w' => e = .returned (.tuple #[.agg (hv Hd.zero), .int .i64 1]) ∧ Below w.heap.size w w' := by
  obtain ⟨w1, hw1⟩ : ∃ x, w.alloc (.cells #[.int .u64 0, .int .u64 0, .int .i64 0, .int .u64 0, .int .i64 0] 78) = x := ⟨_, rfl⟩
  have hb1 : Below w.heap.size w w1 := by rw [← hw1]; exact (Below.refl _ w).alloc (Nat.le_refl _) _
  have hm1 : Box w1 w.heap.size 78 (hv Hd.zero) := by rw [← hw1]; exact Box.made w _ _
  obtain ⟨w2, hw2⟩ : ∃ x, w1.setRow w.heap.size (hv Hd.zero) = x := ⟨_, rfl⟩
  have hm2 : Box w2 w.heap.size 78 (hv Hd.zero) := by rw [← hw2]; exact setRow_heap _ _ _ _ _ _ hm1
  have hb2 : Below w.heap.size w w2 := hb1.trans (by rw [← hw2]; exact (Below.refl _ w1).grown (grown_row (grown_refl _ (some w.heap.size)) _) hb1.size (fun k e => by injection e with e; omega))
  have e0 : w2.cell? ⟨w.heap.size, 0, none⟩ = some (.int .u64 0) := (Box.cell hm2 0).trans rfl
  have e1 : w2.cell? ⟨w.heap.size, 1, none⟩ = some (.int .u64 0) := (Box.cell hm2 1).trans rfl
  have e2 : w2.cell? ⟨w.heap.size, 2, none⟩ = some (.int .i64 0) := (Box.cell hm2 2).trans rfl
  have e3 : w2.cell? ⟨w.heap.size, 3, none⟩ = some (.int .u64 0) := (Box.cell hm2 3).trans rfl
  have e4 : w2.cell? ⟨w.heap.size, 4, none⟩ = some (.int .i64 0) := (Box.cell hm2 4).trans rfl
  have HM := Lib.hid (show Calls Tryz.prog 94 #[.pointer none] w1 fun e w' => e = .returned (.bool false) ∧ w' = w1 from by
    have hl := len_nil1 w1
    go_enter Tryz.func94, Tryz.ntmps94
    go_wp2_with (go_at_call 49; refine hl.mono ?_; rintro e w' ⟨rfl, rfl⟩)
    go_ret
    exact ⟨rfl, rfl⟩)
  have HM1 := Lib.hid hm1
  have HW2 := Lib.hid hw2
  have HB2 := Lib.hid hb2
  clear hm1 hm2 hb1 hb2 hw2
  go_enter Tryz.func66, Tryz.ntmps66
  go_wp2_with (first
    | (go_at_call 94; refine HM.out.mono ?_; rintro e wn ⟨rfl, hwn⟩; obtain rfl : w1 = wn := hwn.symm; clear hwn)
    | (refine wpList_store_row rfl 78 _ _ rfl w.heap.size (hv Hd.zero) rfl rfl 78 _ HM1.out (by rw [hv_size]; exact hdInfo) rfl (hv_one _) ?_; rw [HW2.out]))
  exact bodyPost_ret (v := .tuple #[.agg (hv Hd.zero), .int .i64 1]) (by simp [results, Tryz.results66, go_sem, e0, e1, e2, e3, e4, hv, Hd.zero]) rfl ⟨rfl, HB2.out⟩
theorem open_nil (w : World) : Calls Tryz.prog 35 #[.pointer none] w fun e w' => e = .returned (.tuple #[.pointer none, .int .i64 1]) ∧ Below w.heap.size w w' := by
  have HL := Lib.hid (load_nil w)
  go_enter Tryz.func35, Tryz.ntmps35
  go_wp2_with fail
  refine HL.out.mono ?_
  rintro e w1 ⟨rfl, hb1⟩
  obtain ⟨w2, hw2⟩ : ∃ x, w1.alloc (.cells #[.int .u64 0, .int .u64 0, .int .i64 0, .int .u64 0, .int .i64 0] 78) = x := ⟨_, rfl⟩
  have hb2 : Below w1.heap.size w1 w2 := by rw [← hw2]; exact (Below.refl _ w1).alloc (Nat.le_refl _) _
  have hm2 : Box w2 w1.heap.size 78 (hv Hd.zero) := by rw [← hw2]; exact Box.made w1 _ _
  obtain ⟨w3, hw3⟩ : ∃ x, w2.setRow w1.heap.size (hv Hd.zero) = x := ⟨_, rfl⟩
  have hb3 : Below w1.heap.size w1 w3 := hb2.trans (by rw [← hw3]; exact (Below.refl _ w2).grown (grown_row (grown_refl _ (some w1.heap.size)) _) hb2.size (fun k e => by injection e with e; omega))
  have HM2 := Lib.hid hm2
  have HW3 := Lib.hid hw3
  have HB3 := Lib.hid (hb1.trans (hb3.mono hb1.size))
  clear hb1 hb2 hm2 hw3 hb3
  go_wp2_with (refine wpList_store_row rfl 78 _ _ rfl w1.heap.size (hv Hd.zero) rfl rfl 78 _ HM2.out (by rw [hv_size]; exact hdInfo) rfl (hv_one _) ?_; rw [HW3.out])
  go_ret2
  exact ⟨rfl, HB3.out⟩
/-- What Open hands on. -/
def OpenPost (w : World) (K : Nat → Prop) (dp : Nat) (R : Int × Lg × Dv) (e : Ending) (w' : World) : Prop :=
  (R.1 = 0 → ∃ p mb, e = .returned (.tuple #[.pointer (some ⟨p, 0, none⟩), .int .i64 0]) ∧ w.heap.size ≤ p ∧ w.heap.size ≤ mb ∧ p ≠ mb ∧ Box w' p 81 (lc dp (.map (some mb)) R.2.1) ∧ w'.ownsMap Tryz.prog 3 rowEl mb 0 (.map []) ∧ Dev w' (fun k => (K k ∧ k ≠ p) ∧ k ≠ mb) dp R.2.2) ∧
  (R.1 ≠ 0 → e = .returned (.tuple #[.pointer none, .int .i64 R.1]) ∧ Dev w' K dp R.2.2) ∧ Touch K w w'
theorem settleTo_or (base : Nat) (cs : List Cg) (next : Hd) (D : Dv) : (settleTo base cs next D).1 = 0 ∨ (settleTo base cs next D).1 = 17 := by
  unfold settleTo andThen
  by_cases hc : cs = []
  · rw [if_pos hc]
    exact saveTo_or _ _
  · rw [if_neg hc]
    by_cases h0 : (layTo base cs D).1 = 0
    · rw [if_pos h0]
      exact saveTo_or _ _
    · rw [if_neg h0]
      exact layTo_or _ _ _
section
variable {w : World} {K : Nat → Prop} {dp : Nat} {D : Dv}
set_option maxRecDepth 100000 in
set_option maxHeartbeats 4000000 in
theorem open_log (hd : Dev w K dp D) (hK : ∀ k, w.heap.size ≤ k → K k) (ho : D.ops ≤ 40000) (h2 : 2 ≤ D.bs.length) (hdn : D.down = false) (hlf : D.left = -1) (hsm : (lastN D 2).gen < 2305843009213693952 ∧ (lastN D 2).epoch < 2305843009213693952 ∧ (lastN D 2).seq < 2305843009213693952) :
    Calls Tryz.prog 35 #[.pointer (some ⟨dp, 0, none⟩)] w (OpenPost w K dp (openTo D)) := by
  have HL := Lib.hid (load_says hd hK (by omega) h2 hdn hlf)
  have hmost := hd.1.most
  have hri := lastN_right D 2
  have hca := callsN_up hdn hlf 2
  obtain ⟨h, hh⟩ : ∃ x, lastN D 2 = x := ⟨_, rfl⟩
  rw [hh] at hri hsm
  have HH := Lib.hid hh
  have hmm := @run_makeMap Tryz.prog
  clear hd hdn hlf
  go_enter Tryz.func35, Tryz.ntmps35
  go_wp2_with fail
  refine HL.out.mono ?_
  rintro e w1 ⟨rfl, hd1, ht1⟩
  obtain ⟨w2, hw2⟩ : ∃ x, w1.alloc (.cells #[.int .u64 0, .int .u64 0, .int .i64 0, .int .u64 0, .int .i64 0] 78) = x := ⟨_, rfl⟩
  have hb2 : Below w1.heap.size w1 w2 := by rw [← hw2]; exact (Below.refl _ w1).alloc (Nat.le_refl _) _
  have hm2 : Box w2 w1.heap.size 78 (hv Hd.zero) := by rw [← hw2]; exact Box.made w1 _ _
  obtain ⟨w3, hw3⟩ : ∃ x, w2.setRow w1.heap.size (hv h) = x := ⟨_, rfl⟩
  have hm3 : Box w3 w1.heap.size 78 (hv h) := by rw [← hw3]; exact setRow_heap _ _ _ _ _ _ hm2
  have hb3 : Below w1.heap.size w1 w3 := hb2.trans (by rw [← hw3]; exact (Below.refl _ w2).grown (grown_row (grown_refl _ (some w1.heap.size)) _) hb2.size (fun k e => by injection e with e; omega))
  rw [HH.out]
  by_cases hz : h = Hd.zero
  · rw [if_pos hz]
    have hop : openTo D = (13, lgOf Hd.zero, callsN D 2) := openTo_none (by rw [HH.out, hz])
    have HOP := Lib.hid hop
    have HM2 := Lib.hid hm2
    have HW3 := Lib.hid hw3
    have HD3 := Lib.hid (And.intro (hd1.below hb3) (ht1.trans' (Touch.of_below (K := fun _ => False) hb3) (fun _ h => h.elim)))
    clear hd1 ht1 hb2 hm2 hw3 hm3 hb3 hop hz hri
    go_wp2_with (refine wpList_store_row rfl 78 _ _ rfl w1.heap.size (hv h) rfl rfl 78 _ HM2.out (by rw [hv_size]; exact hdInfo) rfl (hv_one _) ?_; rw [HW3.out])
    go_ret2
    rw [HOP.out]
    exact ⟨fun h => absurd h (show ¬ (13 : Int) = 0 by decide), fun _ => ⟨rfl, HD3.out.1⟩, HD3.out.2⟩
  · rw [if_neg hz]
    have hr : h.rightB (D.bs.length : Int) = true := hri.resolve_left hz
    have hrr := Hd.right_iff.1 hr
    obtain ⟨R, hR⟩ : ∃ R, readTo (homeOf D (lgOf h)) (h.log.toNat + 1) (lgOf h) [] (callsN D 2) = R := ⟨_, rfl⟩
    have hop := openTo_some HH.out hz hR
    obtain ⟨w4, hw4⟩ : ∃ x, w3.alloc (.map #[] 0) = x := ⟨_, rfl⟩
    have hb4 : Below w3.heap.size w3 w4 := by rw [← hw4]; exact (Below.refl _ w3).alloc (Nat.le_refl _) _
    have hmp4 : w4.ownsMap Tryz.prog 3 rowEl w3.heap.size 0 (.map []) := by rw [← hw4]; exact World.ownsMap_made _ _ _ _
    obtain ⟨w5, hw5⟩ : ∃ x, w4.alloc (.cells #[.pointer (some ⟨dp, 0, none⟩), .int .u64 (h.gen : Int), .int .u64 (h.epoch : Int), .int .i64 h.pos, .int .u64 (h.seq : Int), .int .i64 h.log, .int .i64 0, .int .u64 (h.seq : Int), .map (some w3.heap.size), .bool false] 81) = x := ⟨_, rfl⟩
    have hb5 : Below w4.heap.size w4 w5 := by rw [← hw5]; exact (Below.refl _ w4).alloc (Nat.le_refl _) _
    have hx5 : Box w5 w4.heap.size 81 (lc dp (.map (some w3.heap.size)) (lgOf h)) := by rw [← hw5]; exact Box.made w4 _ _
    have hmp5 : w5.ownsMap Tryz.prog 3 rowEl w3.heap.size 0 (.map []) := hmp4.kept (grown_of_below hb5 none) (by simp)
    have hp4 : w4.heap.size = w3.heap.size + 1 := by rw [← hw4]; simp
    have HP4 := Lib.hid hp4
    have hs3 := hb3.size
    have hs4 := hb4.size
    have hs5 := hb5.size
    have hm4lt := hmp4.lt
    have hx5lt := hx5.lt
    have hs1 := ht1.size
    have hB5 : Below w1.heap.size w1 w5 := hb3.trans ((hb4.trans (hb5.mono hb4.size)).mono hb3.size)
    have hL0 : (lgOf h).Ok := ⟨by show 3 ≤ h.log; omega, by show h.log ≤ 4096; omega, by show 0 ≤ h.pos; omega, by show h.pos < h.log; omega, by show ((0 : Nat) : Int) ≤ h.log; omega, h.hs, rfl⟩
    have hd5 : Dev w5 (fun k => K k ∧ k < w1.heap.size) dp (callsN D 2) := hd1.inside.below hB5
    have hp5 : ¬ (K w4.heap.size ∧ w4.heap.size < w1.heap.size) := fun q => by omega
    have hcb : (callsN D 2).bs = D.bs := hca.2.2.1
    have hco : (callsN D 2).ops = D.ops + 2 := hca.2.2.2.1
    have hhm : homeOf (callsN D 2) (lgOf h) = homeOf D (lgOf h) := by unfold homeOf; rw [hcb]
    have hrd := jread_says hx5 hL0 rfl (by show h.seq ≤ _; omega) hp5 hd5 (fun k q => by omega) (by rw [hcb]; show 2 + h.log ≤ _; omega) (by omega)
    rw [hhm] at hrd
    rw [show (lgOf h).h.log.toNat + 1 = h.log.toNat + 1 from rfl, hR] at hrd
    have HRD := Lib.hid hrd
    have hrk := readTo_ok (homeOf D (lgOf h)) (h.log.toNat + 1) (lgOf h) [] (callsN D 2) (by show ((0 : Nat) : Int) ≤ h.log; omega)
    have hrf := readTo_few (homeOf D (lgOf h)) (h.log.toNat + 1) (lgOf h) [] (callsN D 2) ⟨(fun x hx => by cases hx), Nat.zero_le _⟩
    rw [hR] at hrk hrf
    have c3 : w3.cell? ⟨w1.heap.size, 3, none⟩ = some (.int .u64 (h.seq : Int)) := (Box.cell hm3 3).trans rfl
    have HR3 := Lib.hid (hd_range hm3)
    have HM2 := Lib.hid hm2
    have HW3 := Lib.hid hw3
    have HW4 := Lib.hid hw4
    have HW5 := Lib.hid hw5
    have HOP := Lib.hid hop
    have HRK := Lib.hid (And.intro hrk (And.intro hrf (And.intro hR hL0)))
    have HT5 := Lib.hid (show Touch K w w5 from ht1.trans' (Touch.of_below (K := fun _ => False) hB5) (fun _ h => h.elim))
    have HMP := Lib.hid hmp5
    have HRI := Lib.hid (And.intro hr hrr)
    clear hd1 ht1 hb2 hm2 hw3 hm3 hb3 hop hw4 hb4 hmp4 hw5 hb5 hx5 hmp5 hB5 hL0 hd5 hcb hrd hrk hrf hR hhm hr hrr hri hz
    go_upto_region 4 with (refine wpList_store_row rfl 78 _ _ rfl w1.heap.size (hv h) rfl rfl 78 _ HM2.out (by rw [hv_size]; exact hdInfo) rfl (hv_one _) ?_; rw [HW3.out])
    go_upto_region 5 with (refine wpList_load_mid rfl 78 _ rfl w1.heap.size 0 rfl (hvl h) _ HR3.out Tryz.underlying78 rfl (by kernel_rfl) ?_; simp only [hvl])
    rw [HW4.out, HW5.out, ← HP4.out]
    obtain ⟨p, hp⟩ : ∃ x, w4.heap.size = x := ⟨_, rfl⟩
    obtain ⟨mb, hmb⟩ : ∃ x, w3.heap.size = x := ⟨_, rfl⟩
    rw [hp, hmb]
    rw [hp, hmb] at HRD
    rw [hmb] at HMP
    rw [hp] at hp5
    have hpm : p ≠ mb := by omega
    have hpw1 : w1.heap.size ≤ p := by omega
    have hmw1 : w1.heap.size ≤ mb := by omega
    have hpw5 : p < w5.heap.size := by omega
    have hmw5 : mb < w5.heap.size := by omega
    clear hp4 hm4lt hx5lt hp hmb hmm c3 HW3 HW4 HW5 HM2 HR3 HP4
    go_wp2_with fail
    refine HRD.out.mono ?_
    rintro e w6 ⟨⟨A, n, c, xs, rfl, hcs⟩, hx6, hd6, ht6⟩
    have hm6 : w6.ownsMap Tryz.prog 3 rowEl mb 0 (.map []) := by
      obtain ⟨es, clock, e1, e2⟩ := HMP.out
      exact ⟨es, clock, (ht6.block mb hmw5 (fun h => h.elim (fun q => by omega) (fun q => hpm q.symm))).trans e1, e2⟩
    have hs6 := ht6.size
    have hT6 : Touch K w w6 := HT5.out.trans' ht6 (fun k h => h.elim (fun q => .inl q.1) (fun q => .inr (by omega)))
    by_cases hre : R.e = 0
    · obtain ⟨hch, hcg, hwh⟩ := hcs hre
      obtain ⟨hrk, hrf, hR, hL0⟩ := HRK.out
      obtain ⟨hr, hrr⟩ := HRI.out
      have hRh : R.L.h = h := hrk.head
      have hRu : (R.L.used : Int) ≤ h.log := hrk.used
      have hRs : R.L.seq ≤ h.seq + R.L.used := by have := hrk.seq; show _ ≤ _; have h1 : R.L.seq + 0 ≤ h.seq + R.L.used := this; omega
      have hLR : R.L.Ok := ⟨by rw [hRh]; exact hL0.log0, by rw [hRh]; exact hL0.log1, by rw [hRh]; exact hL0.pos0, by rw [hRh]; exact hL0.pos1, by rw [hRh]; exact hRu, by omega, hrk.down⟩
      have hRg : R.L.h.gen < 18446744073709551615 := by rw [hRh]; omega
      have hbu := bump_is hLR hRg (by rw [hRh]; omega)
      have hseq1 : 1 ≤ R.L.seq := by have h1 : h.seq ≤ R.L.seq := hrk.low; omega
      have hbr : R.L.bump.rightB (R.D.bs.length : Int) = true := by
        have hbs : R.D.bs = D.bs := hrk.bs.trans hca.2.2.1
        rw [hbs]
        exact bump_right hLR (by rw [hRh]; exact hr) (by rw [hRh]; omega) (by rw [hRh]; omega) ⟨hseq1, by omega⟩
      have HBH := Lib.hid (jbehind_says hx6 hLR hRg)
      obtain ⟨N, hN⟩ : ∃ N, R.L.behind hLR hRg = N := ⟨_, rfl⟩
      rw [hN] at HBH
      obtain ⟨B, hB⟩ : ∃ B, R.L.bump = B := ⟨_, rfl⟩
      rw [hB] at hbu hbr
      have k0 : B.gen = N.gen := by rw [hbu.1, ← hN]; rfl
      have k1 : (N.epoch : Int) + 1 = (B.epoch : Int) := by rw [hbu.2.1, ← hN]; show (R.L.h.epoch : Int) + 1 = _; omega
      have k2 : B.pos = N.pos := by rw [hbu.2.2.1, ← hN]; rfl
      have k3 : B.seq = N.seq := by rw [hbu.2.2.2.1, ← hN]; rfl
      have k4 : B.log = N.log := by rw [hbu.2.2.2.2, ← hN]; rfl
      have hq1 : IntKind.u64.wrap ((N.epoch : Int) + 1) = (B.epoch : Int) := by rw [k1, IntKind.wrap_u64]; have := B.he; omega
      have HOP2 := Lib.hid (show openTo D = ((settleTo (2 + h.log.toNat) R.cs B R.D).1, R.L.settled B, (settleTo (2 + h.log.toNat) R.cs B R.D).2) from by rw [HOP.out, if_pos hre, hB])
      have hRo : R.D.ops ≤ 60000 := by
        have h1 : R.D.ops + 0 ≤ (callsN D 2).ops + R.L.used + (h.log.toNat + 2) := hrk.ops
        omega
      have hnx : xs.length ≤ 4096 := by
        have h1 := hrf.2
        rw [← hcg, List.length_map] at h1
        omega
      have hnn : xs.length = n := hch.1
      have hRdn : R.L.down = false := hrk.down
      have hfit : ∀ x ∈ xs, x.fits (homeOf R.D R.L) := fun x hx => by
        obtain ⟨q1, q2⟩ := hwh x hx
        have h1 := hrf.1 x.cg (by rw [← hcg]; exact List.mem_map_of_mem hx)
        have h2 : homeOf R.D R.L = homeOf D (lgOf h) := by
          unfold homeOf
          rw [show R.D.bs = D.bs from hrk.bs.trans hca.2.2.1, hRh]
          rfl
        rw [h2]
        have h3 : ((x.n.toNat : Nat) : Int) < homeOf D (lgOf h) := h1
        exact ⟨⟨q1, by omega⟩, q2⟩
      have HK6 := Lib.hid (And.intro hx6 (And.intro hd6 (And.intro hm6 (And.intro hT6 (And.intro hch (And.intro hfit (And.intro hbr (And.intro hcg (And.intro hRh hRdn)))))))))
      rw [hre]
      clear hx6 hd6 hm6 hT6 hch hcg hwh hcs hrk hrf hR hL0 hr hrr hRh hRu hRs hLR hRg hbu hseq1 hbr hfit k1 hN hB ht6 hRdn
      go_wp2_with fail
      refine HBH.out.mono ?_
      rintro e w7 ⟨rfl, hb7⟩
      obtain ⟨w8, hw8⟩ : ∃ x, w7.alloc (.cells #[.int .u64 0, .int .u64 0, .int .i64 0, .int .u64 0, .int .i64 0] 78) = x := ⟨_, rfl⟩
      have hb8 : Below w7.heap.size w7 w8 := by rw [← hw8]; exact (Below.refl _ w7).alloc (Nat.le_refl _) _
      have hm8 : Box w8 w7.heap.size 78 (hv Hd.zero) := by rw [← hw8]; exact Box.made w7 _ _
      obtain ⟨w9, hw9⟩ : ∃ x, w8.setRow w7.heap.size (hv N) = x := ⟨_, rfl⟩
      have hm9 : Box w9 w7.heap.size 78 (hv N) := by rw [← hw9]; exact setRow_heap _ _ _ _ _ _ hm8
      have hb9 : Below w7.heap.size w7 w9 := hb8.trans (by rw [← hw9]; exact (Below.refl _ w8).grown (grown_row (grown_refl _ (some w7.heap.size)) _) hb8.size (fun k e => by injection e with e; omega))
      obtain ⟨w10, hw10⟩ : ∃ x, w9.setCell ⟨w7.heap.size, 1, none⟩ (.int .u64 (B.epoch : Int)) = x := ⟨_, rfl⟩
      have hm10 : Box w10 w7.heap.size 78 (hv B) := by
        rw [← hw10]
        have := Box.put hm9 1 (.int .u64 (B.epoch : Int))
        simpa [hv, k0, k2, k3, k4] using this
      have hb10 : Below w7.heap.size w7 w10 := hb9.trans (by rw [← hw10]; exact (Below.refl _ w9).grown (grown_set (grown_refl _ (some w7.heap.size)) _ _) hb9.size (fun k e => by injection e with e; omega))
      have hB10 : Below w6.heap.size w6 w10 := hb7.trans (hb10.mono hb7.size)
      have hs10 := hB10.size
      have c1 : w9.cell? ⟨w7.heap.size, 1, none⟩ = some (.int .u64 (N.epoch : Int)) := (Box.cell hm9 1).trans rfl
      have f1 := Box.frozen hm9 1
      obtain ⟨hx6, hd6, hm6, hT6, hch, hfit, hbr, hcg, hRh, hRdn⟩ := HK6.out
      have hx10 := Box.below hx6 hB10 hx6.lt
      have hd10 : Dev w10 (fun k => (K k ∧ k < w1.heap.size) ∨ w10.heap.size ≤ k) dp R.D := (hd6.below hB10).weak (fun k q => .inl q)
      have hmm10 : w10.ownsMap Tryz.prog 3 rowEl mb 0 (.map []) := hm6.kept (grown_of_below hB10 none) (by simp)
      have hch10 := (hch.weak (N' := fun k => w5.heap.size ≤ k ∧ k < w6.heap.size) (fun b hb hn => ⟨hn, hb⟩)).below hB10
      have hst := jsettle_says (K := fun k => (K k ∧ k < w1.heap.size) ∨ w10.heap.size ≤ k) hx10 (by rw [hRh]; have h1 := HRI.out.2; omega) hRdn (fun q => q.elim (fun q => by omega) (fun q => by omega)) (fun q => q.elim (fun q => by omega) (fun q => by omega)) hpm hmm10 hd10 (fun k hk => .inr hk) (fun k => w5.heap.size ≤ k ∧ k < w6.heap.size) (fun b hn q => q.elim (fun q => by omega) (fun q => by omega)) A n c xs hch10 hfit B hbr (by omega)
      rw [hRh, hcg] at hst
      have HST := Lib.hid hst
      have HT10 := Lib.hid (show Touch K w w10 from hT6.trans' (Touch.of_below (K := fun _ => False) hB10) (fun _ h => h.elim))
      have HR10 := Lib.hid (hd_range hm10)
      have HM8 := Lib.hid hm8
      have HW9 := Lib.hid hw9
      have HW10 := Lib.hid hw10
      have hso := saveTo_or
      clear hb7 hb8 hm8 hw9 hm9 hb9 hw10 hm10 hb10 hB10 hx6 hd6 hm6 hT6 hch hfit hbr hcg hRh hRdn hx10 hd10 hmm10 hch10 hst k0 k2 k3 k4 hso
      go_upto_region 10 with (refine wpList_store_row rfl 78 _ _ rfl w7.heap.size (hv N) rfl rfl 78 _ HM8.out (by rw [hv_size]; exact hdInfo) rfl (hv_one _) ?_; rw [HW9.out])
      rw [HW10.out]
      go_wp2_with (refine wpList_load_mid rfl 78 _ rfl w7.heap.size 0 rfl (hvl B) _ HR10.out Tryz.underlying78 rfl (by kernel_rfl) ?_)
      refine HST.out.mono ?_
      rintro e w11 ⟨rfl, hd11, ht11, hok⟩
      have hT11 : Touch K w w11 := HT10.out.trans' ht11 (fun k q => q.elim (fun q => q.elim (fun q => .inl q.1) (fun q => .inr (by have := HT10.out.size; omega))) (fun q => .inr (by have := HT5.out.size; rcases q with q | q <;> omega)))
      rcases settleTo_or (2 + h.log.toNat) R.cs B R.D with hz0 | hz0
      · obtain ⟨hx11, hm11⟩ := hok hz0
        have HZ := Lib.hid (And.intro hx11 (And.intro hm11 (And.intro (hd11.weak (K' := fun k => (K k ∧ k ≠ p) ∧ k ≠ mb) (fun k q => q.elim (fun q => ⟨⟨q.1, by omega⟩, by omega⟩) (fun q => ⟨⟨hK k (by have := HT10.out.size; omega), by omega⟩, by omega⟩))) hT11)))
        have HZ0 := Lib.hid hz0
        rw [hz0]
        clear hd11 ht11 hok hT11 hx11 hm11 hz0
        go_wp2
        go_ret2
        rw [HOP2.out]
        refine ⟨fun _ => ⟨p, mb, rfl, ?_, ?_, hpm, HZ.out.1, HZ.out.2.1, HZ.out.2.2.1⟩, fun q => absurd HZ0.out q, HZ.out.2.2.2⟩
        · omega
        · omega
      · have HZ := Lib.hid (And.intro (hd11.weak (K' := K) (fun k q => q.elim (fun q => q.1) (fun q => hK k (by have := HT10.out.size; omega)))) hT11)
        have HZ0 := Lib.hid hz0
        rw [hz0]
        clear hd11 ht11 hok hT11 hz0
        go_wp2
        go_ret2
        rw [HOP2.out]
        refine ⟨fun q => absurd q (by rw [HZ0.out]; decide), fun _ => ⟨by rw [HZ0.out]; rfl, HZ.out.1⟩, HZ.out.2⟩
    · have HOP2 := Lib.hid (show openTo D = (R.e, R.L, R.D) from by rw [HOP.out, if_neg hre])
      have lre : (R.e != 0) = true := by rw [bne_iff_ne]; exact hre
      have HRE := Lib.hid hre
      have HZ := Lib.hid (And.intro (hd6.weak (K' := K) (fun k q => q.1)) hT6)
      clear hre hx6 hd6 hm6 hT6 ht6 hcs
      go_wp2
      go_ret2
      rw [HOP2.out]
      exact ⟨fun q => absurd q HRE.out, fun _ => ⟨rfl, HZ.out.1⟩, HZ.out.2⟩
end
end Go.Proofs.YtclhjpageonkgaaGreat
