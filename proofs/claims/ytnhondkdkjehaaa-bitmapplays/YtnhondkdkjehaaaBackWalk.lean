/-
  BitmapBack, walked.
-/
import Derived.Test.YtnhondkdkjehaaaBackP
import Derived.Test.YtnhondkdkjehaaaStr
namespace Go.Proofs.Ytnhondkdkjehaaa
open Go.RowKit

set_option linter.unusedVariables false
set_option linter.unusedSimpArgs false
theorem Own.one {w : World} {B : Nat} {v : Value} {l : List UInt8} (h : Own w B v l) : v.oneCell' = true := by
  obtain ⟨A, c, rfl, _⟩ := h.lies
  rfl
theorem two_one (n : Nat) {x : Value} (h : x.oneCell' = true) : (#[Value.int .i64 (n : Int), x] : Array Value).all (·.oneCell') = true := by
  rw [Array.all_eq_true_iff_forall_mem]
  intro v hv
  simp only [List.mem_toArray, List.mem_cons, List.not_mem_nil, or_false] at hv
  rcases hv with rfl | rfl
  · rfl
  · exact h
/-- What the last test reads: three bits, each in its box. -/
structure Tri (w0 w : World) (gs gt gu n : Nat) (xs xt xu : Value) (l lt : List UInt8) : Prop where
  s : RB w0 w w0.heap.size gs n xs l
  t : RB w0 w w0.heap.size gt n xt lt
  u : RB w0 w w0.heap.size gu n xu l
theorem Tri.below {w0 w w' : World} {gs gt gu n : Nat} {xs xt xu : Value} {l lt : List UInt8} (h : Tri w0 w gs gt gu n xs xt xu l lt) (hb : Below w.heap.size w w') : Tri w0 w' gs gt gu n xs xt xu l lt := ⟨h.s.below hb, h.t.below hb, h.u.below hb⟩
def TriS (gs gt gu n : Nat) (xs xt xu : Value) (u : World) : Prop :=
  (u.cell? ⟨gs, 0, none⟩ = some (.int .i64 (n : Int)) ∧ u.cell? ⟨gs, 1, none⟩ = some xs) ∧ (u.cell? ⟨gt, 0, none⟩ = some (.int .i64 (n : Int)) ∧ u.cell? ⟨gt, 1, none⟩ = some xt) ∧ (u.cell? ⟨gu, 0, none⟩ = some (.int .i64 (n : Int)) ∧ u.cell? ⟨gu, 1, none⟩ = some xu)
theorem Tri.held {w0 w : World} {gs gt gu n : Nat} {xs xt xu : Value} {l lt : List UInt8} (h : Tri w0 w gs gt gu n xs xt xu l lt) : TriS gs gt gu n xs xt xu w := ⟨h.s.cells, h.t.cells, h.u.cells⟩
theorem own_conv {w : World} {B : Nat} {v : Value} {l : List UInt8} (h : Own w B v l) : (convert 22 9 v).run Try.prog w = .ok (.string ⟨l.toArray⟩) w := by
  obtain ⟨A, c, rfl, hl⟩ := h.lies
  exact conv_lies hl
set_option maxRecDepth 100000 in
set_option maxHeartbeats 16000000 in
theorem bitmapBack_walk (w : World) (a0 : Option Addr) (n0 c0 : Nat) (l0 : List UInt8) (hA : Lies w (fun _ => True) a0 n0 c0 (bc l0)) (blocks many : Int) : Calls Try.prog 4 #[.slice a0 n0 c0, .int .i64 blocks, .int .i64 many] w fun e w' => e = .returned (.bool true) ∧ Below w.heap.size w w' := by
  by_cases h100 : (100 : Int) < (n0 : Int)
  · clear hA
    go_enter Try.func4, Try.ntmps4
    go_wp2
    go_ret
    exact ⟨rfl, Below.refl _ _⟩
  · obtain ⟨nb, hnb, eb⟩ := bits_and255 blocks
    obtain ⟨mm, hmm, em⟩ := bits_and7 many
    obtain ⟨M, hM⟩ : ∃ M : Nat, (1 : Int) + (mm : Int) = (M : Int) := ⟨1 + mm, by omega⟩
    have hM1 : 1 ≤ M ∧ M ≤ 8 := by omega
    have HOF := Lib.hid (bof_says w a0 n0 c0 l0 hA (nb : Int) (by omega))
    rw [howMany_nat nb (by omega)] at HOF
    obtain ⟨l, hl⟩ : ∃ l, ofL l0 nb = l := ⟨_, rfl⟩
    have HCUT := Lib.hid (show Cut nb l from by rw [← hl]; exact cut_ofL l0 nb)
    rw [hl] at HOF
    have hlen : l.length ≤ 100 := by rw [HCUT.out.1]; omega
    clear hA hl
    go_enter Try.func4, Try.ntmps4
    go_wp2_with fail
    go_at_call 5
    refine HOF.out.mono ?_
    rintro e w1 ⟨xs, rfl, ho1, hb1⟩
    have H1 := Lib.hid (And.intro ho1 hb1)
    clear ho1 hb1 HOF
    obtain ⟨wa2, hwa2⟩ : ∃ y, w1.alloc (.cells #[.int .i64 0, .slice none 0 0] 25) = y := ⟨_, rfl⟩
    have hxa2 : Box wa2 w1.heap.size 25 #[.int .i64 0, .slice none 0 0] := by rw [← hwa2]; exact Box.made w1 _ _
    obtain ⟨w2, hw2⟩ : ∃ y, wa2.setRow w1.heap.size #[.int .i64 (nb : Int), xs] = y := ⟨_, rfl⟩
    have HR2 := Lib.hid (rb_stored (n := nb) H1.out.2 H1.out.1 w2 (by rw [hwa2]; exact hw2))
    have HO2 := Lib.hid (Own.one H1.out.1)
    have HX2 := Lib.hid (And.intro hxa2 hw2)
    clear hxa2 hw2
    have H2 := Lib.hid HR2.out.1
    obtain ⟨s0, s1⟩ := H2.out.cells
    clear HR2
    go_wp2_with (refine wpList_store_row rfl 25 _ _ rfl w1.heap.size #[.int .i64 (nb : Int), xs] rfl rfl 25 _ HX2.out.1 bitsInfo rfl (two_one nb HO2.out) ?_; rw [HX2.out.2])
    go_at_call 14
    refine (brun_says w2 w.heap.size nb xs l H2.out.own HCUT.out.room (by omega) (M : Int) (by omega)).mono ?_
    rintro e w3 ⟨r, rfl, hr, hb3⟩
    have H3 := Lib.hid (H2.out.below hb3)
    have HRUN := Lib.hid hr
    clear s0 s1 hb3 H2
    obtain ⟨s0, s1⟩ := H3.out.cells
    have hrr := hr.range
    clear hr
    by_cases hneg : r < 0
    · go_wp2_with fail
      go_at_call 11
      refine (bbytes_says w3 w.heap.size nb xs l H3.out.own H3.out.bel.size (by omega)).mono ?_
      rintro e w4 ⟨v4, rfl, ho4, hb4⟩
      obtain ⟨A4, c4, rfl, hl4⟩ := ho4.lies
      have H4 := Lib.hid (H3.out.bel.trans (hb4.mono H3.out.bel.size))
      have HOF := Lib.hid (bof_says w4 A4 l.length c4 l hl4 (nb : Int) (by omega))
      rw [howMany_nat nb (by omega), HCUT.out.of] at HOF
      clear ho4 hb4 hl4
      go_wp2_with fail
      go_at_call 5
      refine HOF.out.mono ?_
      rintro e w5 ⟨x5, rfl, ho5, hb5⟩
      have H5 := Lib.hid (And.intro ho5 (H4.out.trans (hb5.mono H4.out.size)))
      clear ho5 hb5 HOF
      go_wp2_with fail
      go_at_call 14
      refine (brun_says w5 w4.heap.size nb x5 l H5.out.1 HCUT.out.room (by omega) (M : Int) (by omega)).mono ?_
      rintro e w6 ⟨r6, rfl, hr6, hb6⟩
      obtain rfl := hr6.one HRUN.out
      have H6 := Lib.hid (H5.out.2.trans (hb6.mono H5.out.2.size))
      clear hr6 hb6
      go_wp2_with fail
      go_at_call 9
      refine (bone_says w6).mono ?_
      rintro e w7 ⟨rfl, hb7⟩
      have H7 := Lib.hid (H6.out.trans (hb7.mono H6.out.size))
      clear hb7
      go_wp2_with fail
      go_ret
      exact ⟨rfl, H7.out⟩
    · rcases HRUN.out with ⟨i, rfl, _, hfree, hleast⟩ | ⟨rfl, _⟩
      rotate_left
      · exact absurd (by decide) hneg
      have him : i + M ≤ nb := by have := hfree.1; omega
      obtain ⟨lt, hlt⟩ : ∃ lt, withA nb l (i : Int) (M : Int) = lt := ⟨_, rfl⟩
      have hbw := back_with HCUT.out him
      have hbo := back_wout HCUT.out hfree
      have hbu := back_used HCUT.out hfree
      have hbr := fun (r : Int) hr => back_run (r := r) HCUT.out hM1.1 hfree hleast hr
      have hcw := HCUT.out.with (i : Int) (M : Int)
      rw [hlt] at hbw hbo hbu hbr hcw
      have hfr := fun k h1 h2 => hfree.2 k h1 h2
      have HP := Lib.hid (And.intro hbw (And.intro hbo (And.intro hbu (And.intro hbr (And.intro hcw hfr)))))
      have HLT := Lib.hid hlt
      have hltl : lt.length ≤ 100 := by rw [hcw.1]; omega
      have huse := usedL_le l
      have q1 : ¬ (i : Int) < 0 := by omega
      clear hbw hbo hbu hbr hcw hfr hlt hfree hleast HRUN hneg hrr
      go_wp2_with fail
      go_at_call 12
      refine (bwith_says w3 w.heap.size nb xs l H3.out.own H3.out.bel.size HCUT.out.room (by omega) (by omega) (i : Int) (M : Int) (by omega) (by omega)).mono ?_
      rintro e w4 ⟨xt, rfl, ho4, hb4⟩
      rw [HLT.out] at ho4
      have H4 := Lib.hid (And.intro (ho4.base H3.out.bel.size) (And.intro (H3.out.bel.trans (hb4.mono H3.out.bel.size)) hb4))
      clear ho4 hb4 s0 s1
      obtain ⟨wa5, hwa5⟩ : ∃ y, w4.alloc (.cells #[.int .i64 0, .slice none 0 0] 25) = y := ⟨_, rfl⟩
      have hxa5 : Box wa5 w4.heap.size 25 #[.int .i64 0, .slice none 0 0] := by rw [← hwa5]; exact Box.made w4 _ _
      obtain ⟨w5, hw5⟩ : ∃ y, wa5.setRow w4.heap.size #[.int .i64 (nb : Int), xt] = y := ⟨_, rfl⟩
      have HR5 := Lib.hid (rb_stored (n := nb) H4.out.2.1 H4.out.1 w5 (by rw [hwa5]; exact hw5))
      have HO5 := Lib.hid (Own.one H4.out.1)
      have HX5 := Lib.hid (And.intro hxa5 hw5)
      clear hxa5 hw5
      have H5 := Lib.hid (And.intro ((H3.out.below H4.out.2.2).below HR5.out.2) HR5.out.1)
      go_wp2_with (refine wpList_store_row rfl 25 _ _ rfl w4.heap.size #[.int .i64 (nb : Int), xt] rfl rfl 25 _ HX5.out.1 bitsInfo rfl (two_one nb HO5.out) ?_; rw [HX5.out.2])
      clear HR5 HX5
      go_loopw [10] (fun v wr => ∃ k : Nat, k ≤ M ∧ v = .int .i64 (k : Int) ∧ Hid (RB w wr w.heap.size w1.heap.size nb xs l ∧ RB w wr w.heap.size w4.heap.size nb xt lt)) (fun v _ => M - (intOf v).toNat)
      case atStart => exact ⟨0, by omega, rfl, H5⟩
      case round =>
        clear H5
        obtain ⟨k, hk, rfl, H⟩ := hrel
        obtain ⟨s0, s1⟩ := H.out.1.cells
        obtain ⟨t0, t1⟩ := H.out.2.cells
        by_cases hkm : (k : Int) < (M : Int)
        · have e1 : (i : Int) + (k : Int) = ((i + k : Nat) : Int) := by omega
          obtain ⟨ik, hik⟩ : ∃ ik, i + k = ik := ⟨_, rfl⟩
          rw [hik] at e1
          have e2 : IntKind.i64.wrap (ik : Int) = (ik : Int) := IntWalk.i64_in _ (by omega)
          have HH := Lib.hid (And.intro (show (decide (0 ≤ (ik : Int) ∧ (ik : Int) < (nb : Int)) && hasB l (ik : Int).toNat) = false by rw [Int.toNat_natCast, HP.out.2.2.2.2.2 ik (by omega) (by omega), Bool.and_false])
            (show (decide (0 ≤ (ik : Int) ∧ (ik : Int) < (nb : Int)) && hasB lt (ik : Int).toNat) = true by rw [Int.toNat_natCast, HP.out.1 ik, decide_eq_true (by omega), decide_eq_true (by omega)]; rfl))
          go_wp2_with fail
          go_at_call 16
          refine (bhas_says wr w.heap.size nb xs l H.out.1.own HCUT.out.room (by omega) (ik : Int) (by omega)).mono ?_
          rintro e wp ⟨rfl, hbp⟩
          rw [HH.out.1]
          have G := Lib.hid (And.intro (H.out.1.below hbp) (H.out.2.below hbp))
          clear hbp s0 s1 t0 t1
          obtain ⟨t0, t1⟩ := G.out.2.cells
          go_wp2_with fail
          go_at_call 16
          refine (bhas_says wp w.heap.size nb xt lt G.out.2.own HP.out.2.2.2.2.1.room (by omega) (ik : Int) (by omega)).mono ?_
          rintro e wq ⟨rfl, hbq⟩
          rw [HH.out.2]
          have G2 := Lib.hid (And.intro (G.out.1.below hbq) (G.out.2.below hbq))
          clear hbq t0 t1
          go_wp2_with fail
          go_roundw
          case rel => exact ⟨k + 1, by omega, by go_num, G2⟩
          case measure => simp [intOf]; omega
        · go_wp2_with fail
          go_at_call 13
          refine (bwout_says wr w.heap.size nb xt lt H.out.2.own H.out.2.bel.size HP.out.2.2.2.2.1.room (by omega) (by omega) (i : Int) (M : Int) (by omega) (by omega)).mono ?_
          rintro e w6 ⟨xu, rfl, ho6, hb6⟩
          rw [HP.out.2.1] at ho6
          have H6 := Lib.hid (And.intro (ho6.base H.out.2.bel.size) (And.intro (H.out.2.bel.trans (hb6.mono H.out.2.bel.size)) hb6))
          clear ho6 hb6 s0 s1 t0 t1
          obtain ⟨wa7, hwa7⟩ : ∃ y, w6.alloc (.cells #[.int .i64 0, .slice none 0 0] 25) = y := ⟨_, rfl⟩
          have hxa7 : Box wa7 w6.heap.size 25 #[.int .i64 0, .slice none 0 0] := by rw [← hwa7]; exact Box.made w6 _ _
          obtain ⟨w7, hw7⟩ : ∃ y, wa7.setRow w6.heap.size #[.int .i64 (nb : Int), xu] = y := ⟨_, rfl⟩
          have HR7 := Lib.hid (rb_stored (n := nb) H6.out.2.1 H6.out.1 w7 (by rw [hwa7]; exact hw7))
          have HO7 := Lib.hid (Own.one H6.out.1)
          have HX7 := Lib.hid (And.intro hxa7 hw7)
          clear hxa7 hw7
          have H7 := Lib.hid (Tri.mk ((H.out.1.below H6.out.2.2).below HR7.out.2) ((H.out.2.below H6.out.2.2).below HR7.out.2) HR7.out.1)
          clear HR7
          go_upto_region 16 with (refine wpList_store_row rfl 25 _ _ rfl w6.heap.size #[.int .i64 (nb : Int), xu] rfl rfl 25 _ HX7.out.1 bitsInfo rfl (two_one nb HO7.out) ?_; rw [HX7.out.2])
          rename_i KX kx
          have KK := Lib.hid kx
          clear kx HX7
          obtain ⟨U, hU⟩ : ∃ U, usedL l = U := ⟨_, rfl⟩
          have HU := Lib.hid (And.intro hU (show (usedL lt : Int) = (U : Int) + (M : Int) by rw [HP.out.2.2.1, hU]; omega))
          have e5 : IntKind.i64.wrap ((U : Int) + (M : Int)) = (U : Int) + (M : Int) := IntWalk.i64_in _ (by omega)
          have e6 : IntKind.i64.wrap ((i : Int) + (M : Int)) = (i : Int) + (M : Int) := IntWalk.i64_in _ (by omega)
          have e7 : (i : Int) + (M : Int) ≤ (nb : Int) := by omega
          clear hU huse
          refine wp_region_held_drew (S := TriS w1.heap.size w4.heap.size w6.heap.size nb xs xt xu) (by kernel_rfl) (Tri.held (w := w7) H7.out) (fun hHeld => ?_)
          rcases Classical.em (∃ r, IsRun (hasB lt) nb (M : Int) r) with ⟨r2, hr2⟩ | hno
          rotate_left
          · exact (hno (isRun_ex _ _ _)).elim
          have hcase := HP.out.2.2.2.1 r2 hr2
          have HR2 := Lib.hid hr2
          clear hr2
          rcases hcase with rfl | hgt
          · have q2 : ((-1 : Int) != (i : Int)) = true := bne_iff_ne.2 (by omega)
            refine take_run 0 64 (v := ?_) rfl rfl (by kernel_rfl) (by kernel_rfl) (by kernel_rfl) (fun _ _ _ h => h) (by rfl) ?_ (by assumption) ?_
            rotate_left
            · (intro wq hSw; obtain ⟨⟨hS1, hS2⟩, ⟨hS3, hS4⟩, ⟨hS5, hS6⟩⟩ := hSw; go_simp; first | done | with_reducible rfl)
            simp only [Act.put, List.setIfInBounds_toArray, List.set_cons_zero, List.set_cons_succ]
            refine take_run 2 66 (v := ?_) rfl rfl (by kernel_rfl) (by kernel_rfl) (by kernel_rfl) (fun _ _ _ h => h) (by rfl) ?_ (by assumption) ?_
            rotate_left
            · (intro wq hSw; obtain ⟨⟨hS1, hS2⟩, ⟨hS3, hS4⟩, ⟨hS5, hS6⟩⟩ := hSw; go_simp; first | done | with_reducible rfl)
            simp only [Act.put, List.setIfInBounds_toArray, List.set_cons_zero, List.set_cons_succ]
            refine take_run 4 68 (v := ?_) rfl rfl (by kernel_rfl) (by kernel_rfl) (by kernel_rfl) (fun _ _ _ h => h) (by rfl) ?_ (by assumption) ?_
            rotate_left
            · (intro wq hSw; obtain ⟨⟨hS1, hS2⟩, ⟨hS3, hS4⟩, ⟨hS5, hS6⟩⟩ := hSw; go_simp; first | done | with_reducible rfl)
            simp only [Act.put, List.setIfInBounds_toArray, List.set_cons_zero, List.set_cons_succ]
            refine wpAnyH_ready (rs := [1]) (by kernel_rfl) (by simp) ?_
            refine AllReadyH.cons rfl (fun K hK => ?_) AllReadyH.nil
            go_simp
            refine (bused_says w7.drew w.heap.size nb xt lt (show Own w7.drew w.heap.size xt lt from H7.out.t.own) (by omega)).mono ?_
            rintro e w8 ⟨rfl, hb⟩
            have hb8 : Below w7.heap.size w7 w8 := ⟨hb.os, hb.tape, hb.output, hb.size, hb.block⟩
            rw [HU.out.2]
            have H8 := Lib.hid (H7.out.below hb8)
            clear hb hb8
            refine hK.out _ _ H8.out.held (fun hHeld => ?_)
            clear hK K
            try simp only [Act.put, List.setIfInBounds_toArray, List.set_cons_zero, List.set_cons_succ]
            refine wpAnyH_ready (rs := [3]) (by kernel_rfl) (by simp) ?_
            refine AllReadyH.cons rfl (fun K hK => ?_) AllReadyH.nil
            go_simp
            refine (bused_says w8 w.heap.size nb xs l H8.out.s.own (by omega)).mono ?_
            rintro e w9 ⟨rfl, hb⟩
            have hb9 := hb
            rw [HU.out.1]
            have H9 := Lib.hid (H8.out.below hb9)
            clear hb hb9
            refine hK.out _ _ H9.out.held (fun hHeld => ?_)
            clear hK K
            try simp only [Act.put, List.setIfInBounds_toArray, List.set_cons_zero, List.set_cons_succ]
            refine take_run 5 69 (v := ?_) rfl rfl (by kernel_rfl) (by kernel_rfl) (by kernel_rfl) (fun _ _ _ h => h) (by rfl) ?_ (by assumption) ?_
            rotate_left
            · (intro wq hSw; obtain ⟨⟨hS1, hS2⟩, ⟨hS3, hS4⟩, ⟨hS5, hS6⟩⟩ := hSw; go_simp; first | done | with_reducible rfl)
            simp only [Act.put, List.setIfInBounds_toArray, List.set_cons_zero, List.set_cons_succ]
            refine take_run 6 70 (v := ?_) rfl rfl (by kernel_rfl) (by kernel_rfl) (by kernel_rfl) (fun _ _ _ h => h) (by rfl) ?_ (by assumption) ?_
            rotate_left
            · (intro wq hSw; obtain ⟨⟨hS1, hS2⟩, ⟨hS3, hS4⟩, ⟨hS5, hS6⟩⟩ := hSw; go_simp; first | done | with_reducible rfl)
            simp only [Act.put, List.setIfInBounds_toArray, List.set_cons_zero, List.set_cons_succ]
            refine take_run 7 71 (v := ?_) rfl rfl (by kernel_rfl) (by kernel_rfl) (by kernel_rfl) (fun _ _ _ h => h) (by rfl) ?_ (by assumption) ?_
            rotate_left
            · (intro wq hSw; obtain ⟨⟨hS1, hS2⟩, ⟨hS3, hS4⟩, ⟨hS5, hS6⟩⟩ := hSw; go_simp; first | done | with_reducible rfl)
            simp only [Act.put, List.setIfInBounds_toArray, List.set_cons_zero, List.set_cons_succ]
            refine take_run 8 72 (v := ?_) rfl rfl (by kernel_rfl) (by kernel_rfl) (by kernel_rfl) (fun _ _ _ h => h) (by rfl) ?_ (by assumption) ?_
            rotate_left
            · (intro wq hSw; obtain ⟨⟨hS1, hS2⟩, ⟨hS3, hS4⟩, ⟨hS5, hS6⟩⟩ := hSw; go_simp; first | done | with_reducible rfl)
            simp only [Act.put, List.setIfInBounds_toArray, List.set_cons_zero, List.set_cons_succ]
            refine take_run 11 75 (v := ?_) rfl rfl (by kernel_rfl) (by kernel_rfl) (by kernel_rfl) (fun _ _ _ h => h) (by rfl) ?_ (by assumption) ?_
            rotate_left
            · (intro wq hSw; obtain ⟨⟨hS1, hS2⟩, ⟨hS3, hS4⟩, ⟨hS5, hS6⟩⟩ := hSw; go_simp; first | done | with_reducible rfl)
            simp only [Act.put, List.setIfInBounds_toArray, List.set_cons_zero, List.set_cons_succ]
            refine wpAnyH_ready (rs := [9]) (by kernel_rfl) (by simp) ?_
            refine AllReadyH.cons rfl (fun K hK => ?_) AllReadyH.nil
            go_simp
            refine (bbytes_says w9 w.heap.size nb xu l H9.out.u.own H9.out.u.bel.size (by omega)).mono ?_
            rintro e w10 ⟨va, rfl, hova, hb⟩
            have hb10 := hb
            have H10 := Lib.hid (H9.out.below hb10)
            have HVa10 := Lib.hid hova
            clear hova
            clear hb hb10
            refine hK.out _ _ H10.out.held (fun hHeld => ?_)
            clear hK K
            try simp only [Act.put, List.setIfInBounds_toArray, List.set_cons_zero, List.set_cons_succ]
            refine wpAnyH_weakS (S' := fun u => TriS w1.heap.size w4.heap.size w6.heap.size nb xs xt xu u ∧ (convert 22 9 va).run Try.prog u = .ok (.string ⟨l.toArray⟩) u) (fun u hu => hu.1) ?_
            have hHeld : (fun u => TriS w1.heap.size w4.heap.size w6.heap.size nb xs xt xu u ∧ (convert 22 9 va).run Try.prog u = .ok (.string ⟨l.toArray⟩) u) w10 := ⟨hHeld, own_conv HVa10.out⟩
            refine take_run 10 74 (v := ?_) rfl rfl (by kernel_rfl) (by kernel_rfl) (by kernel_rfl) (fun _ _ _ h => h) (by rfl) ?_ (by assumption) ?_
            rotate_left
            · (intro wq hSw; obtain ⟨⟨⟨hS1, hS2⟩, ⟨hS3, hS4⟩, ⟨hS5, hS6⟩⟩, hca⟩ := hSw; go_simp; first | done | with_reducible rfl)
            simp only [Act.put, List.setIfInBounds_toArray, List.set_cons_zero, List.set_cons_succ]
            refine wpAnyH_ready (rs := [12]) (by kernel_rfl) (by simp) ?_
            refine AllReadyH.cons rfl (fun K hK => ?_) AllReadyH.nil
            go_simp
            refine (bbytes_says w10 w.heap.size nb xs l H10.out.s.own H10.out.s.bel.size (by omega)).mono ?_
            rintro e w11 ⟨vb, rfl, hovb, hb⟩
            have hb11 := hb
            have H11 := Lib.hid (H10.out.below hb11)
            have HVa11 := Lib.hid (HVa10.out.below hb11)
            have HVb11 := Lib.hid hovb
            clear hovb
            clear hb hb11
            refine hK.out _ _ ⟨H11.out.held, own_conv HVa11.out⟩ (fun hHeld => ?_)
            clear hK K
            try simp only [Act.put, List.setIfInBounds_toArray, List.set_cons_zero, List.set_cons_succ]
            refine wpAnyH_weakS (S' := fun u => (TriS w1.heap.size w4.heap.size w6.heap.size nb xs xt xu u ∧ (convert 22 9 va).run Try.prog u = .ok (.string ⟨l.toArray⟩) u) ∧ (convert 22 9 vb).run Try.prog u = .ok (.string ⟨l.toArray⟩) u) (fun u hu => hu.1) ?_
            have hHeld : (fun u => (TriS w1.heap.size w4.heap.size w6.heap.size nb xs xt xu u ∧ (convert 22 9 va).run Try.prog u = .ok (.string ⟨l.toArray⟩) u) ∧ (convert 22 9 vb).run Try.prog u = .ok (.string ⟨l.toArray⟩) u) w11 := ⟨hHeld, own_conv HVb11.out⟩
            refine take_run 13 77 (v := ?_) rfl rfl (by kernel_rfl) (by kernel_rfl) (by kernel_rfl) (fun _ _ _ h => h) (by rfl) ?_ (by assumption) ?_
            rotate_left
            · (intro wq hSw; obtain ⟨⟨⟨⟨hS1, hS2⟩, ⟨hS3, hS4⟩, ⟨hS5, hS6⟩⟩, hca⟩, hcb⟩ := hSw; go_simp; first | done | with_reducible rfl)
            simp only [Act.put, List.setIfInBounds_toArray, List.set_cons_zero, List.set_cons_succ]
            refine take_run 14 78 (v := ?_) rfl rfl (by kernel_rfl) (by kernel_rfl) (by kernel_rfl) (fun _ _ _ h => h) (by rfl) ?_ (by assumption) ?_
            rotate_left
            · (intro wq hSw; obtain ⟨⟨⟨⟨hS1, hS2⟩, ⟨hS3, hS4⟩, ⟨hS5, hS6⟩⟩, hca⟩, hcb⟩ := hSw; go_simp; first | done | with_reducible rfl)
            simp only [Act.put, List.setIfInBounds_toArray, List.set_cons_zero, List.set_cons_succ]
            refine take_run 15 79 (v := ?_) rfl rfl (by kernel_rfl) (by kernel_rfl) (by kernel_rfl) (fun _ _ _ h => h) (by rfl) ?_ (by assumption) ?_
            rotate_left
            · (intro wq hSw; obtain ⟨⟨⟨⟨hS1, hS2⟩, ⟨hS3, hS4⟩, ⟨hS5, hS6⟩⟩, hca⟩, hcb⟩ := hSw; go_simp; first | done | with_reducible rfl)
            simp only [Act.put, List.setIfInBounds_toArray, List.set_cons_zero, List.set_cons_succ]
            refine take_run 16 80 (v := ?_) rfl rfl (by kernel_rfl) (by kernel_rfl) (by kernel_rfl) (fun _ _ _ h => h) (by rfl) ?_ (by assumption) ?_
            rotate_left
            · (intro wq hSw; obtain ⟨⟨⟨⟨hS1, hS2⟩, ⟨hS3, hS4⟩, ⟨hS5, hS6⟩⟩, hca⟩, hcb⟩ := hSw; go_simp; first | done | with_reducible rfl)
            simp only [Act.put, List.setIfInBounds_toArray, List.set_cons_zero, List.set_cons_succ]
            refine take_run 17 81 (v := ?_) rfl rfl (by kernel_rfl) (by kernel_rfl) (by kernel_rfl) (fun _ _ _ h => h) (by rfl) ?_ (by assumption) ?_
            rotate_left
            · (intro wq hSw; obtain ⟨⟨⟨⟨hS1, hS2⟩, ⟨hS3, hS4⟩, ⟨hS5, hS6⟩⟩, hca⟩, hcb⟩ := hSw; go_simp; first | done | with_reducible rfl)
            simp only [Act.put, List.setIfInBounds_toArray, List.set_cons_zero, List.set_cons_succ]
            refine take_run 18 82 (v := ?_) rfl rfl (by kernel_rfl) (by kernel_rfl) (by kernel_rfl) (fun _ _ _ h => h) (by rfl) ?_ (by assumption) ?_
            rotate_left
            · (intro wq hSw; obtain ⟨⟨⟨⟨hS1, hS2⟩, ⟨hS3, hS4⟩, ⟨hS5, hS6⟩⟩, hca⟩, hcb⟩ := hSw; go_simp; first | done | with_reducible rfl)
            simp only [Act.put, List.setIfInBounds_toArray, List.set_cons_zero, List.set_cons_succ]
            refine take_run 20 84 (v := ?_) rfl rfl (by kernel_rfl) (by kernel_rfl) (by kernel_rfl) (fun _ _ _ h => h) (by rfl) ?_ (by assumption) ?_
            rotate_left
            · (intro wq hSw; obtain ⟨⟨⟨⟨hS1, hS2⟩, ⟨hS3, hS4⟩, ⟨hS5, hS6⟩⟩, hca⟩, hcb⟩ := hSw; go_simp; first | done | with_reducible rfl)
            simp only [Act.put, List.setIfInBounds_toArray, List.set_cons_zero, List.set_cons_succ]
            refine wpAnyH_ready (rs := [19]) (by kernel_rfl) (by simp) ?_
            refine AllReadyH.cons rfl (fun K hK => ?_) AllReadyH.nil
            go_simp
            refine (brun_says w11 w.heap.size nb xt lt H11.out.t.own HP.out.2.2.2.2.1.room (by omega) (M : Int) (by omega)).mono ?_
            rintro e w12 ⟨r2, rfl, hr2, hb⟩
            have hb12 := hb
            obtain rfl := hr2.one HR2.out
            clear hr2
            have H12 := Lib.hid (H11.out.below hb12)
            have HVa12 := Lib.hid (HVa11.out.below hb12)
            have HVb12 := Lib.hid (HVb11.out.below hb12)
            clear hb hb12
            refine hK.out _ _ ⟨⟨H12.out.held, own_conv HVa12.out⟩, own_conv HVb12.out⟩ (fun hHeld => ?_)
            clear hK K
            try simp only [Act.put, List.setIfInBounds_toArray, List.set_cons_zero, List.set_cons_succ]
            refine take_run 21 85 (v := ?_) rfl rfl (by kernel_rfl) (by kernel_rfl) (by kernel_rfl) (fun _ _ _ h => h) (by rfl) ?_ (by assumption) ?_
            rotate_left
            · (intro wq hSw; obtain ⟨⟨⟨⟨hS1, hS2⟩, ⟨hS3, hS4⟩, ⟨hS5, hS6⟩⟩, hca⟩, hcb⟩ := hSw; go_simp; first | done | with_reducible rfl)
            simp only [Act.put, List.setIfInBounds_toArray, List.set_cons_zero, List.set_cons_succ]
            refine take_run 22 86 (v := ?_) rfl rfl (by kernel_rfl) (by kernel_rfl) (by kernel_rfl) (fun _ _ _ h => h) (by rfl) ?_ (by assumption) ?_
            rotate_left
            · (intro wq hSw; obtain ⟨⟨⟨⟨hS1, hS2⟩, ⟨hS3, hS4⟩, ⟨hS5, hS6⟩⟩, hca⟩, hcb⟩ := hSw; go_simp; first | done | with_reducible rfl)
            simp only [Act.put, List.setIfInBounds_toArray, List.set_cons_zero, List.set_cons_succ]
            refine take_run 23 87 (v := ?_) rfl rfl (by kernel_rfl) (by kernel_rfl) (by kernel_rfl) (fun _ _ _ h => h) (by rfl) ?_ (by assumption) ?_
            rotate_left
            · (intro wq hSw; obtain ⟨⟨⟨⟨hS1, hS2⟩, ⟨hS3, hS4⟩, ⟨hS5, hS6⟩⟩, hca⟩, hcb⟩ := hSw; go_simp; first | done | with_reducible rfl)
            simp only [Act.put, List.setIfInBounds_toArray, List.set_cons_zero, List.set_cons_succ]
            refine take_run 24 88 (v := ?_) rfl rfl (by kernel_rfl) (by kernel_rfl) (by kernel_rfl) (fun _ _ _ h => h) (by rfl) ?_ (by assumption) ?_
            rotate_left
            · (intro wq hSw; obtain ⟨⟨⟨⟨hS1, hS2⟩, ⟨hS3, hS4⟩, ⟨hS5, hS6⟩⟩, hca⟩, hcb⟩ := hSw; go_simp; first | done | with_reducible rfl)
            simp only [Act.put, List.setIfInBounds_toArray, List.set_cons_zero, List.set_cons_succ]
            refine take_run 25 89 (v := ?_) rfl rfl (by kernel_rfl) (by kernel_rfl) (by kernel_rfl) (fun _ _ _ h => h) (by rfl) ?_ (by assumption) ?_
            rotate_left
            · (intro wq hSw; obtain ⟨⟨⟨⟨hS1, hS2⟩, ⟨hS3, hS4⟩, ⟨hS5, hS6⟩⟩, hca⟩, hcb⟩ := hSw; go_simp; first | done | with_reducible rfl)
            simp only [Act.put, List.setIfInBounds_toArray, List.set_cons_zero, List.set_cons_succ]
            refine wpAnyH_ready (rs := [26]) (by kernel_rfl) (by simp) ?_
            refine AllReadyH.cons rfl (fun K hK => ?_) AllReadyH.nil
            go_simp
            refine (brun_says w12 w.heap.size nb xt lt H12.out.t.own HP.out.2.2.2.2.1.room (by omega) (M : Int) (by omega)).mono ?_
            rintro e w13 ⟨r3, rfl, hr3, hb⟩
            have hb13 := hb
            obtain rfl := hr3.one HR2.out
            clear hr3
            have H13 := Lib.hid (H12.out.below hb13)
            have HVa13 := Lib.hid (HVa12.out.below hb13)
            have HVb13 := Lib.hid (HVb12.out.below hb13)
            clear hb hb13
            refine hK.out _ _ ⟨⟨H13.out.held, own_conv HVa13.out⟩, own_conv HVb13.out⟩ (fun hHeld => ?_)
            clear hK K
            try simp only [Act.put, List.setIfInBounds_toArray, List.set_cons_zero, List.set_cons_succ]
            refine take_run 27 91 (v := ?_) rfl rfl (by kernel_rfl) (by kernel_rfl) (by kernel_rfl) (fun _ _ _ h => h) (by rfl) ?_ (by assumption) ?_
            rotate_left
            · (intro wq hSw; obtain ⟨⟨⟨⟨hS1, hS2⟩, ⟨hS3, hS4⟩, ⟨hS5, hS6⟩⟩, hca⟩, hcb⟩ := hSw; go_simp; first | done | with_reducible rfl)
            simp only [Act.put, List.setIfInBounds_toArray, List.set_cons_zero, List.set_cons_succ]
            refine take_run 28 92 (v := ?_) rfl rfl (by kernel_rfl) (by kernel_rfl) (by kernel_rfl) (fun _ _ _ h => h) (by rfl) ?_ (by assumption) ?_
            rotate_left
            · (intro wq hSw; obtain ⟨⟨⟨⟨hS1, hS2⟩, ⟨hS3, hS4⟩, ⟨hS5, hS6⟩⟩, hca⟩, hcb⟩ := hSw; go_simp; first | done | with_reducible rfl)
            simp only [Act.put, List.setIfInBounds_toArray, List.set_cons_zero, List.set_cons_succ]
            refine take_skip 29 93 rfl rfl (by kernel_rfl) (by kernel_rfl) (by kernel_rfl) (fun _ _ _ h => h) (by rfl) (by assumption) ?_
            simp only [Act.put, List.setIfInBounds_toArray, List.set_cons_zero, List.set_cons_succ]
            refine take_skip 30 94 rfl rfl (by kernel_rfl) (by kernel_rfl) (by kernel_rfl) (fun _ _ _ h => h) (by rfl) (by assumption) ?_
            simp only [Act.put, List.setIfInBounds_toArray, List.set_cons_zero, List.set_cons_succ]
            refine take_skip 31 95 rfl rfl (by kernel_rfl) (by kernel_rfl) (by kernel_rfl) (fun _ _ _ h => h) (by rfl) (by assumption) ?_
            simp only [Act.put, List.setIfInBounds_toArray, List.set_cons_zero, List.set_cons_succ]
            refine take_skip 32 96 rfl rfl (by kernel_rfl) (by kernel_rfl) (by kernel_rfl) (fun _ _ _ h => h) (by rfl) (by assumption) ?_
            simp only [Act.put, List.setIfInBounds_toArray, List.set_cons_zero, List.set_cons_succ]
            refine take_skip 33 97 rfl rfl (by kernel_rfl) (by kernel_rfl) (by kernel_rfl) (fun _ _ _ h => h) (by rfl) (by assumption) ?_
            simp only [Act.put, List.setIfInBounds_toArray, List.set_cons_zero, List.set_cons_succ]
            refine take_run 34 98 (v := ?_) rfl rfl (by kernel_rfl) (by kernel_rfl) (by kernel_rfl) (fun _ _ _ h => h) (by rfl) ?_ (by assumption) ?_
            rotate_left
            · (intro wq hSw; obtain ⟨⟨⟨⟨hS1, hS2⟩, ⟨hS3, hS4⟩, ⟨hS5, hS6⟩⟩, hca⟩, hcb⟩ := hSw; go_simp; first | done | with_reducible rfl)
            simp only [Act.put, List.setIfInBounds_toArray, List.set_cons_zero, List.set_cons_succ]
            refine take_run 35 99 (v := ?_) rfl rfl (by kernel_rfl) (by kernel_rfl) (by kernel_rfl) (fun _ _ _ h => h) (by rfl) ?_ (by assumption) ?_
            rotate_left
            · (intro wq hSw; obtain ⟨⟨⟨⟨hS1, hS2⟩, ⟨hS3, hS4⟩, ⟨hS5, hS6⟩⟩, hca⟩, hcb⟩ := hSw; go_simp; first | done | with_reducible rfl)
            simp only [Act.put, List.setIfInBounds_toArray, List.set_cons_zero, List.set_cons_succ]
            refine take_run 36 100 (v := ?_) rfl rfl (by kernel_rfl) (by kernel_rfl) (by kernel_rfl) (fun _ _ _ h => h) (by rfl) ?_ (by assumption) ?_
            rotate_left
            · (intro wq hSw; obtain ⟨⟨⟨⟨hS1, hS2⟩, ⟨hS3, hS4⟩, ⟨hS5, hS6⟩⟩, hca⟩, hcb⟩ := hSw; go_simp; first | done | with_reducible rfl)
            simp only [Act.put, List.setIfInBounds_toArray, List.set_cons_zero, List.set_cons_succ]
            refine take_run 37 101 (v := ?_) rfl rfl (by kernel_rfl) (by kernel_rfl) (by kernel_rfl) (fun _ _ _ h => h) (by rfl) ?_ (by assumption) ?_
            rotate_left
            · (intro wq hSw; obtain ⟨⟨⟨⟨hS1, hS2⟩, ⟨hS3, hS4⟩, ⟨hS5, hS6⟩⟩, hca⟩, hcb⟩ := hSw; go_simp; first | done | with_reducible rfl)
            simp only [Act.put, List.setIfInBounds_toArray, List.set_cons_zero, List.set_cons_succ]
            refine take_run 38 102 (v := ?_) rfl rfl (by kernel_rfl) (by kernel_rfl) (by kernel_rfl) (fun _ _ _ h => h) (by rfl) ?_ (by assumption) ?_
            rotate_left
            · (intro wq hSw; obtain ⟨⟨⟨⟨hS1, hS2⟩, ⟨hS3, hS4⟩, ⟨hS5, hS6⟩⟩, hca⟩, hcb⟩ := hSw; go_simp; first | done | with_reducible rfl)
            simp only [Act.put, List.setIfInBounds_toArray, List.set_cons_zero, List.set_cons_succ]
            refine take_run 39 103 (v := ?_) rfl rfl (by kernel_rfl) (by kernel_rfl) (by kernel_rfl) (fun _ _ _ h => h) (by rfl) ?_ (by assumption) ?_
            rotate_left
            · (intro wq hSw; obtain ⟨⟨⟨⟨hS1, hS2⟩, ⟨hS3, hS4⟩, ⟨hS5, hS6⟩⟩, hca⟩, hcb⟩ := hSw; go_simp; first | done | with_reducible rfl)
            simp only [Act.put, List.setIfInBounds_toArray, List.set_cons_zero, List.set_cons_succ]
            refine take_run 40 104 (v := ?_) rfl rfl (by kernel_rfl) (by kernel_rfl) (by kernel_rfl) (fun _ _ _ h => h) (by rfl) ?_ (by assumption) ?_
            rotate_left
            · (intro wq hSw; obtain ⟨⟨⟨⟨hS1, hS2⟩, ⟨hS3, hS4⟩, ⟨hS5, hS6⟩⟩, hca⟩, hcb⟩ := hSw; go_simp; first | done | with_reducible rfl)
            simp only [Act.put, List.setIfInBounds_toArray, List.set_cons_zero, List.set_cons_succ]
            refine take_run 41 105 (v := ?_) rfl rfl (by kernel_rfl) (by kernel_rfl) (by kernel_rfl) (fun _ _ _ h => h) (by rfl) ?_ (by assumption) ?_
            rotate_left
            · (intro wq hSw; obtain ⟨⟨⟨⟨hS1, hS2⟩, ⟨hS3, hS4⟩, ⟨hS5, hS6⟩⟩, hca⟩, hcb⟩ := hSw; go_simp; first | done | with_reducible rfl)
            simp only [Act.put, List.setIfInBounds_toArray, List.set_cons_zero, List.set_cons_succ]
            refine take_run 42 106 (v := ?_) rfl rfl (by kernel_rfl) (by kernel_rfl) (by kernel_rfl) (fun _ _ _ h => h) (by rfl) ?_ (by assumption) ?_
            rotate_left
            · (intro wq hSw; obtain ⟨⟨⟨⟨hS1, hS2⟩, ⟨hS3, hS4⟩, ⟨hS5, hS6⟩⟩, hca⟩, hcb⟩ := hSw; go_simp; first | done | with_reducible rfl)
            simp only [Act.put, List.setIfInBounds_toArray, List.set_cons_zero, List.set_cons_succ]
            refine take_run 43 107 (v := ?_) rfl rfl (by kernel_rfl) (by kernel_rfl) (by kernel_rfl) (fun _ _ _ h => h) (by rfl) ?_ (by assumption) ?_
            rotate_left
            · (intro wq hSw; obtain ⟨⟨⟨⟨hS1, hS2⟩, ⟨hS3, hS4⟩, ⟨hS5, hS6⟩⟩, hca⟩, hcb⟩ := hSw; go_simp; first | done | with_reducible rfl)
            simp only [Act.put, List.setIfInBounds_toArray, List.set_cons_zero, List.set_cons_succ]
            refine wpAnyH_ready (rs := [44]) (by kernel_rfl) (by simp) ?_
            refine AllReadyH.cons rfl (fun K hK => ?_) AllReadyH.nil
            go_simp
            refine (bone_says w13).mono ?_
            rintro e w14 ⟨rfl, hb⟩
            have hb14 := hb
            have H14 := Lib.hid (H13.out.below hb14)
            have HVa14 := Lib.hid (HVa13.out.below hb14)
            have HVb14 := Lib.hid (HVb13.out.below hb14)
            clear hb hb14
            refine hK.out _ _ ⟨⟨H14.out.held, own_conv HVa14.out⟩, own_conv HVb14.out⟩ (fun hHeld => ?_)
            clear hK K
            try simp only [Act.put, List.setIfInBounds_toArray, List.set_cons_zero, List.set_cons_succ]
            refine take_run 45 109 (v := ?_) rfl rfl (by kernel_rfl) (by kernel_rfl) (by kernel_rfl) (fun _ _ _ h => h) (by rfl) ?_ (by assumption) ?_
            rotate_left
            · (intro wq hSw; obtain ⟨⟨⟨⟨hS1, hS2⟩, ⟨hS3, hS4⟩, ⟨hS5, hS6⟩⟩, hca⟩, hcb⟩ := hSw; go_simp; first | done | with_reducible rfl)
            simp only [Act.put, List.setIfInBounds_toArray, List.set_cons_zero, List.set_cons_succ]
            refine take_run 46 6 (v := ?_) rfl rfl (by kernel_rfl) (by kernel_rfl) (by kernel_rfl) (fun _ _ _ h => h) (by rfl) ?_ (by assumption) ?_
            rotate_left
            · (intro wq hSw; obtain ⟨⟨⟨⟨hS1, hS2⟩, ⟨hS3, hS4⟩, ⟨hS5, hS6⟩⟩, hca⟩, hcb⟩ := hSw; go_simp; first | done | with_reducible rfl)
            simp only [Act.put, List.setIfInBounds_toArray, List.set_cons_zero, List.set_cons_succ]
            refine wpAnyH_done (by kernel_rfl) ?_ _
            refine KK.out _ _ ?_
            clear KK KX
            go_wp2_with fail
            go_ret
            exact ⟨rfl, H14.out.s.bel⟩
          · have q2 : (r2 != (i : Int)) = true := bne_iff_ne.2 (by omega)
            have q3 : ¬ r2 < 0 := by omega
            refine take_run 0 64 (v := ?_) rfl rfl (by kernel_rfl) (by kernel_rfl) (by kernel_rfl) (fun _ _ _ h => h) (by rfl) ?_ (by assumption) ?_
            rotate_left
            · (intro wq hSw; obtain ⟨⟨hS1, hS2⟩, ⟨hS3, hS4⟩, ⟨hS5, hS6⟩⟩ := hSw; go_simp; first | done | with_reducible rfl)
            simp only [Act.put, List.setIfInBounds_toArray, List.set_cons_zero, List.set_cons_succ]
            refine take_run 2 66 (v := ?_) rfl rfl (by kernel_rfl) (by kernel_rfl) (by kernel_rfl) (fun _ _ _ h => h) (by rfl) ?_ (by assumption) ?_
            rotate_left
            · (intro wq hSw; obtain ⟨⟨hS1, hS2⟩, ⟨hS3, hS4⟩, ⟨hS5, hS6⟩⟩ := hSw; go_simp; first | done | with_reducible rfl)
            simp only [Act.put, List.setIfInBounds_toArray, List.set_cons_zero, List.set_cons_succ]
            refine take_run 4 68 (v := ?_) rfl rfl (by kernel_rfl) (by kernel_rfl) (by kernel_rfl) (fun _ _ _ h => h) (by rfl) ?_ (by assumption) ?_
            rotate_left
            · (intro wq hSw; obtain ⟨⟨hS1, hS2⟩, ⟨hS3, hS4⟩, ⟨hS5, hS6⟩⟩ := hSw; go_simp; first | done | with_reducible rfl)
            simp only [Act.put, List.setIfInBounds_toArray, List.set_cons_zero, List.set_cons_succ]
            refine wpAnyH_ready (rs := [1]) (by kernel_rfl) (by simp) ?_
            refine AllReadyH.cons rfl (fun K hK => ?_) AllReadyH.nil
            go_simp
            refine (bused_says w7.drew w.heap.size nb xt lt (show Own w7.drew w.heap.size xt lt from H7.out.t.own) (by omega)).mono ?_
            rintro e w8 ⟨rfl, hb⟩
            have hb8 : Below w7.heap.size w7 w8 := ⟨hb.os, hb.tape, hb.output, hb.size, hb.block⟩
            rw [HU.out.2]
            have H8 := Lib.hid (H7.out.below hb8)
            clear hb hb8
            refine hK.out _ _ H8.out.held (fun hHeld => ?_)
            clear hK K
            try simp only [Act.put, List.setIfInBounds_toArray, List.set_cons_zero, List.set_cons_succ]
            refine wpAnyH_ready (rs := [3]) (by kernel_rfl) (by simp) ?_
            refine AllReadyH.cons rfl (fun K hK => ?_) AllReadyH.nil
            go_simp
            refine (bused_says w8 w.heap.size nb xs l H8.out.s.own (by omega)).mono ?_
            rintro e w9 ⟨rfl, hb⟩
            have hb9 := hb
            rw [HU.out.1]
            have H9 := Lib.hid (H8.out.below hb9)
            clear hb hb9
            refine hK.out _ _ H9.out.held (fun hHeld => ?_)
            clear hK K
            try simp only [Act.put, List.setIfInBounds_toArray, List.set_cons_zero, List.set_cons_succ]
            refine take_run 5 69 (v := ?_) rfl rfl (by kernel_rfl) (by kernel_rfl) (by kernel_rfl) (fun _ _ _ h => h) (by rfl) ?_ (by assumption) ?_
            rotate_left
            · (intro wq hSw; obtain ⟨⟨hS1, hS2⟩, ⟨hS3, hS4⟩, ⟨hS5, hS6⟩⟩ := hSw; go_simp; first | done | with_reducible rfl)
            simp only [Act.put, List.setIfInBounds_toArray, List.set_cons_zero, List.set_cons_succ]
            refine take_run 6 70 (v := ?_) rfl rfl (by kernel_rfl) (by kernel_rfl) (by kernel_rfl) (fun _ _ _ h => h) (by rfl) ?_ (by assumption) ?_
            rotate_left
            · (intro wq hSw; obtain ⟨⟨hS1, hS2⟩, ⟨hS3, hS4⟩, ⟨hS5, hS6⟩⟩ := hSw; go_simp; first | done | with_reducible rfl)
            simp only [Act.put, List.setIfInBounds_toArray, List.set_cons_zero, List.set_cons_succ]
            refine take_run 7 71 (v := ?_) rfl rfl (by kernel_rfl) (by kernel_rfl) (by kernel_rfl) (fun _ _ _ h => h) (by rfl) ?_ (by assumption) ?_
            rotate_left
            · (intro wq hSw; obtain ⟨⟨hS1, hS2⟩, ⟨hS3, hS4⟩, ⟨hS5, hS6⟩⟩ := hSw; go_simp; first | done | with_reducible rfl)
            simp only [Act.put, List.setIfInBounds_toArray, List.set_cons_zero, List.set_cons_succ]
            refine take_run 8 72 (v := ?_) rfl rfl (by kernel_rfl) (by kernel_rfl) (by kernel_rfl) (fun _ _ _ h => h) (by rfl) ?_ (by assumption) ?_
            rotate_left
            · (intro wq hSw; obtain ⟨⟨hS1, hS2⟩, ⟨hS3, hS4⟩, ⟨hS5, hS6⟩⟩ := hSw; go_simp; first | done | with_reducible rfl)
            simp only [Act.put, List.setIfInBounds_toArray, List.set_cons_zero, List.set_cons_succ]
            refine take_run 11 75 (v := ?_) rfl rfl (by kernel_rfl) (by kernel_rfl) (by kernel_rfl) (fun _ _ _ h => h) (by rfl) ?_ (by assumption) ?_
            rotate_left
            · (intro wq hSw; obtain ⟨⟨hS1, hS2⟩, ⟨hS3, hS4⟩, ⟨hS5, hS6⟩⟩ := hSw; go_simp; first | done | with_reducible rfl)
            simp only [Act.put, List.setIfInBounds_toArray, List.set_cons_zero, List.set_cons_succ]
            refine wpAnyH_ready (rs := [9]) (by kernel_rfl) (by simp) ?_
            refine AllReadyH.cons rfl (fun K hK => ?_) AllReadyH.nil
            go_simp
            refine (bbytes_says w9 w.heap.size nb xu l H9.out.u.own H9.out.u.bel.size (by omega)).mono ?_
            rintro e w10 ⟨va, rfl, hova, hb⟩
            have hb10 := hb
            have H10 := Lib.hid (H9.out.below hb10)
            have HVa10 := Lib.hid hova
            clear hova
            clear hb hb10
            refine hK.out _ _ H10.out.held (fun hHeld => ?_)
            clear hK K
            try simp only [Act.put, List.setIfInBounds_toArray, List.set_cons_zero, List.set_cons_succ]
            refine wpAnyH_weakS (S' := fun u => TriS w1.heap.size w4.heap.size w6.heap.size nb xs xt xu u ∧ (convert 22 9 va).run Try.prog u = .ok (.string ⟨l.toArray⟩) u) (fun u hu => hu.1) ?_
            have hHeld : (fun u => TriS w1.heap.size w4.heap.size w6.heap.size nb xs xt xu u ∧ (convert 22 9 va).run Try.prog u = .ok (.string ⟨l.toArray⟩) u) w10 := ⟨hHeld, own_conv HVa10.out⟩
            refine take_run 10 74 (v := ?_) rfl rfl (by kernel_rfl) (by kernel_rfl) (by kernel_rfl) (fun _ _ _ h => h) (by rfl) ?_ (by assumption) ?_
            rotate_left
            · (intro wq hSw; obtain ⟨⟨⟨hS1, hS2⟩, ⟨hS3, hS4⟩, ⟨hS5, hS6⟩⟩, hca⟩ := hSw; go_simp; first | done | with_reducible rfl)
            simp only [Act.put, List.setIfInBounds_toArray, List.set_cons_zero, List.set_cons_succ]
            refine wpAnyH_ready (rs := [12]) (by kernel_rfl) (by simp) ?_
            refine AllReadyH.cons rfl (fun K hK => ?_) AllReadyH.nil
            go_simp
            refine (bbytes_says w10 w.heap.size nb xs l H10.out.s.own H10.out.s.bel.size (by omega)).mono ?_
            rintro e w11 ⟨vb, rfl, hovb, hb⟩
            have hb11 := hb
            have H11 := Lib.hid (H10.out.below hb11)
            have HVa11 := Lib.hid (HVa10.out.below hb11)
            have HVb11 := Lib.hid hovb
            clear hovb
            clear hb hb11
            refine hK.out _ _ ⟨H11.out.held, own_conv HVa11.out⟩ (fun hHeld => ?_)
            clear hK K
            try simp only [Act.put, List.setIfInBounds_toArray, List.set_cons_zero, List.set_cons_succ]
            refine wpAnyH_weakS (S' := fun u => (TriS w1.heap.size w4.heap.size w6.heap.size nb xs xt xu u ∧ (convert 22 9 va).run Try.prog u = .ok (.string ⟨l.toArray⟩) u) ∧ (convert 22 9 vb).run Try.prog u = .ok (.string ⟨l.toArray⟩) u) (fun u hu => hu.1) ?_
            have hHeld : (fun u => (TriS w1.heap.size w4.heap.size w6.heap.size nb xs xt xu u ∧ (convert 22 9 va).run Try.prog u = .ok (.string ⟨l.toArray⟩) u) ∧ (convert 22 9 vb).run Try.prog u = .ok (.string ⟨l.toArray⟩) u) w11 := ⟨hHeld, own_conv HVb11.out⟩
            refine take_run 13 77 (v := ?_) rfl rfl (by kernel_rfl) (by kernel_rfl) (by kernel_rfl) (fun _ _ _ h => h) (by rfl) ?_ (by assumption) ?_
            rotate_left
            · (intro wq hSw; obtain ⟨⟨⟨⟨hS1, hS2⟩, ⟨hS3, hS4⟩, ⟨hS5, hS6⟩⟩, hca⟩, hcb⟩ := hSw; go_simp; first | done | with_reducible rfl)
            simp only [Act.put, List.setIfInBounds_toArray, List.set_cons_zero, List.set_cons_succ]
            refine take_run 14 78 (v := ?_) rfl rfl (by kernel_rfl) (by kernel_rfl) (by kernel_rfl) (fun _ _ _ h => h) (by rfl) ?_ (by assumption) ?_
            rotate_left
            · (intro wq hSw; obtain ⟨⟨⟨⟨hS1, hS2⟩, ⟨hS3, hS4⟩, ⟨hS5, hS6⟩⟩, hca⟩, hcb⟩ := hSw; go_simp; first | done | with_reducible rfl)
            simp only [Act.put, List.setIfInBounds_toArray, List.set_cons_zero, List.set_cons_succ]
            refine take_run 15 79 (v := ?_) rfl rfl (by kernel_rfl) (by kernel_rfl) (by kernel_rfl) (fun _ _ _ h => h) (by rfl) ?_ (by assumption) ?_
            rotate_left
            · (intro wq hSw; obtain ⟨⟨⟨⟨hS1, hS2⟩, ⟨hS3, hS4⟩, ⟨hS5, hS6⟩⟩, hca⟩, hcb⟩ := hSw; go_simp; first | done | with_reducible rfl)
            simp only [Act.put, List.setIfInBounds_toArray, List.set_cons_zero, List.set_cons_succ]
            refine take_run 16 80 (v := ?_) rfl rfl (by kernel_rfl) (by kernel_rfl) (by kernel_rfl) (fun _ _ _ h => h) (by rfl) ?_ (by assumption) ?_
            rotate_left
            · (intro wq hSw; obtain ⟨⟨⟨⟨hS1, hS2⟩, ⟨hS3, hS4⟩, ⟨hS5, hS6⟩⟩, hca⟩, hcb⟩ := hSw; go_simp; first | done | with_reducible rfl)
            simp only [Act.put, List.setIfInBounds_toArray, List.set_cons_zero, List.set_cons_succ]
            refine take_run 17 81 (v := ?_) rfl rfl (by kernel_rfl) (by kernel_rfl) (by kernel_rfl) (fun _ _ _ h => h) (by rfl) ?_ (by assumption) ?_
            rotate_left
            · (intro wq hSw; obtain ⟨⟨⟨⟨hS1, hS2⟩, ⟨hS3, hS4⟩, ⟨hS5, hS6⟩⟩, hca⟩, hcb⟩ := hSw; go_simp; first | done | with_reducible rfl)
            simp only [Act.put, List.setIfInBounds_toArray, List.set_cons_zero, List.set_cons_succ]
            refine take_run 18 82 (v := ?_) rfl rfl (by kernel_rfl) (by kernel_rfl) (by kernel_rfl) (fun _ _ _ h => h) (by rfl) ?_ (by assumption) ?_
            rotate_left
            · (intro wq hSw; obtain ⟨⟨⟨⟨hS1, hS2⟩, ⟨hS3, hS4⟩, ⟨hS5, hS6⟩⟩, hca⟩, hcb⟩ := hSw; go_simp; first | done | with_reducible rfl)
            simp only [Act.put, List.setIfInBounds_toArray, List.set_cons_zero, List.set_cons_succ]
            refine take_run 20 84 (v := ?_) rfl rfl (by kernel_rfl) (by kernel_rfl) (by kernel_rfl) (fun _ _ _ h => h) (by rfl) ?_ (by assumption) ?_
            rotate_left
            · (intro wq hSw; obtain ⟨⟨⟨⟨hS1, hS2⟩, ⟨hS3, hS4⟩, ⟨hS5, hS6⟩⟩, hca⟩, hcb⟩ := hSw; go_simp; first | done | with_reducible rfl)
            simp only [Act.put, List.setIfInBounds_toArray, List.set_cons_zero, List.set_cons_succ]
            refine wpAnyH_ready (rs := [19]) (by kernel_rfl) (by simp) ?_
            refine AllReadyH.cons rfl (fun K hK => ?_) AllReadyH.nil
            go_simp
            refine (brun_says w11 w.heap.size nb xt lt H11.out.t.own HP.out.2.2.2.2.1.room (by omega) (M : Int) (by omega)).mono ?_
            rintro e w12 ⟨r2, rfl, hr2, hb⟩
            have hb12 := hb
            obtain rfl := hr2.one HR2.out
            clear hr2
            have H12 := Lib.hid (H11.out.below hb12)
            have HVa12 := Lib.hid (HVa11.out.below hb12)
            have HVb12 := Lib.hid (HVb11.out.below hb12)
            clear hb hb12
            refine hK.out _ _ ⟨⟨H12.out.held, own_conv HVa12.out⟩, own_conv HVb12.out⟩ (fun hHeld => ?_)
            clear hK K
            try simp only [Act.put, List.setIfInBounds_toArray, List.set_cons_zero, List.set_cons_succ]
            refine take_run 21 85 (v := ?_) rfl rfl (by kernel_rfl) (by kernel_rfl) (by kernel_rfl) (fun _ _ _ h => h) (by rfl) ?_ (by assumption) ?_
            rotate_left
            · (intro wq hSw; obtain ⟨⟨⟨⟨hS1, hS2⟩, ⟨hS3, hS4⟩, ⟨hS5, hS6⟩⟩, hca⟩, hcb⟩ := hSw; go_simp; first | done | with_reducible rfl)
            simp only [Act.put, List.setIfInBounds_toArray, List.set_cons_zero, List.set_cons_succ]
            refine take_run 22 86 (v := ?_) rfl rfl (by kernel_rfl) (by kernel_rfl) (by kernel_rfl) (fun _ _ _ h => h) (by rfl) ?_ (by assumption) ?_
            rotate_left
            · (intro wq hSw; obtain ⟨⟨⟨⟨hS1, hS2⟩, ⟨hS3, hS4⟩, ⟨hS5, hS6⟩⟩, hca⟩, hcb⟩ := hSw; go_simp; first | done | with_reducible rfl)
            simp only [Act.put, List.setIfInBounds_toArray, List.set_cons_zero, List.set_cons_succ]
            refine take_run 23 87 (v := ?_) rfl rfl (by kernel_rfl) (by kernel_rfl) (by kernel_rfl) (fun _ _ _ h => h) (by rfl) ?_ (by assumption) ?_
            rotate_left
            · (intro wq hSw; obtain ⟨⟨⟨⟨hS1, hS2⟩, ⟨hS3, hS4⟩, ⟨hS5, hS6⟩⟩, hca⟩, hcb⟩ := hSw; go_simp; first | done | with_reducible rfl)
            simp only [Act.put, List.setIfInBounds_toArray, List.set_cons_zero, List.set_cons_succ]
            refine take_run 24 88 (v := ?_) rfl rfl (by kernel_rfl) (by kernel_rfl) (by kernel_rfl) (fun _ _ _ h => h) (by rfl) ?_ (by assumption) ?_
            rotate_left
            · (intro wq hSw; obtain ⟨⟨⟨⟨hS1, hS2⟩, ⟨hS3, hS4⟩, ⟨hS5, hS6⟩⟩, hca⟩, hcb⟩ := hSw; go_simp; first | done | with_reducible rfl)
            simp only [Act.put, List.setIfInBounds_toArray, List.set_cons_zero, List.set_cons_succ]
            refine take_run 25 89 (v := ?_) rfl rfl (by kernel_rfl) (by kernel_rfl) (by kernel_rfl) (fun _ _ _ h => h) (by rfl) ?_ (by assumption) ?_
            rotate_left
            · (intro wq hSw; obtain ⟨⟨⟨⟨hS1, hS2⟩, ⟨hS3, hS4⟩, ⟨hS5, hS6⟩⟩, hca⟩, hcb⟩ := hSw; go_simp; first | done | with_reducible rfl)
            simp only [Act.put, List.setIfInBounds_toArray, List.set_cons_zero, List.set_cons_succ]
            refine wpAnyH_ready (rs := [26]) (by kernel_rfl) (by simp) ?_
            refine AllReadyH.cons rfl (fun K hK => ?_) AllReadyH.nil
            go_simp
            refine (brun_says w12 w.heap.size nb xt lt H12.out.t.own HP.out.2.2.2.2.1.room (by omega) (M : Int) (by omega)).mono ?_
            rintro e w13 ⟨r3, rfl, hr3, hb⟩
            have hb13 := hb
            obtain rfl := hr3.one HR2.out
            clear hr3
            have H13 := Lib.hid (H12.out.below hb13)
            have HVa13 := Lib.hid (HVa12.out.below hb13)
            have HVb13 := Lib.hid (HVb12.out.below hb13)
            clear hb hb13
            refine hK.out _ _ ⟨⟨H13.out.held, own_conv HVa13.out⟩, own_conv HVb13.out⟩ (fun hHeld => ?_)
            clear hK K
            try simp only [Act.put, List.setIfInBounds_toArray, List.set_cons_zero, List.set_cons_succ]
            refine take_run 27 91 (v := ?_) rfl rfl (by kernel_rfl) (by kernel_rfl) (by kernel_rfl) (fun _ _ _ h => h) (by rfl) ?_ (by assumption) ?_
            rotate_left
            · (intro wq hSw; obtain ⟨⟨⟨⟨hS1, hS2⟩, ⟨hS3, hS4⟩, ⟨hS5, hS6⟩⟩, hca⟩, hcb⟩ := hSw; go_simp; first | done | with_reducible rfl)
            simp only [Act.put, List.setIfInBounds_toArray, List.set_cons_zero, List.set_cons_succ]
            refine take_run 28 92 (v := ?_) rfl rfl (by kernel_rfl) (by kernel_rfl) (by kernel_rfl) (fun _ _ _ h => h) (by rfl) ?_ (by assumption) ?_
            rotate_left
            · (intro wq hSw; obtain ⟨⟨⟨⟨hS1, hS2⟩, ⟨hS3, hS4⟩, ⟨hS5, hS6⟩⟩, hca⟩, hcb⟩ := hSw; go_simp; first | done | with_reducible rfl)
            simp only [Act.put, List.setIfInBounds_toArray, List.set_cons_zero, List.set_cons_succ]
            refine take_run 29 93 (v := ?_) rfl rfl (by kernel_rfl) (by kernel_rfl) (by kernel_rfl) (fun _ _ _ h => h) (by rfl) ?_ (by assumption) ?_
            rotate_left
            · (intro wq hSw; obtain ⟨⟨⟨⟨hS1, hS2⟩, ⟨hS3, hS4⟩, ⟨hS5, hS6⟩⟩, hca⟩, hcb⟩ := hSw; go_simp; first | done | with_reducible rfl)
            simp only [Act.put, List.setIfInBounds_toArray, List.set_cons_zero, List.set_cons_succ]
            refine take_run 30 94 (v := ?_) rfl rfl (by kernel_rfl) (by kernel_rfl) (by kernel_rfl) (fun _ _ _ h => h) (by rfl) ?_ (by assumption) ?_
            rotate_left
            · (intro wq hSw; obtain ⟨⟨⟨⟨hS1, hS2⟩, ⟨hS3, hS4⟩, ⟨hS5, hS6⟩⟩, hca⟩, hcb⟩ := hSw; go_simp; first | done | with_reducible rfl)
            simp only [Act.put, List.setIfInBounds_toArray, List.set_cons_zero, List.set_cons_succ]
            refine take_run 32 96 (v := ?_) rfl rfl (by kernel_rfl) (by kernel_rfl) (by kernel_rfl) (fun _ _ _ h => h) (by rfl) ?_ (by assumption) ?_
            rotate_left
            · (intro wq hSw; obtain ⟨⟨⟨⟨hS1, hS2⟩, ⟨hS3, hS4⟩, ⟨hS5, hS6⟩⟩, hca⟩, hcb⟩ := hSw; go_simp; first | done | with_reducible rfl)
            simp only [Act.put, List.setIfInBounds_toArray, List.set_cons_zero, List.set_cons_succ]
            refine wpAnyH_ready (rs := [31]) (by kernel_rfl) (by simp) ?_
            refine AllReadyH.cons rfl (fun K hK => ?_) AllReadyH.nil
            go_simp
            refine (brun_says w13 w.heap.size nb xt lt H13.out.t.own HP.out.2.2.2.2.1.room (by omega) (M : Int) (by omega)).mono ?_
            rintro e w14 ⟨r4, rfl, hr4, hb⟩
            have hb14 := hb
            obtain rfl := hr4.one HR2.out
            clear hr4
            have H14 := Lib.hid (H13.out.below hb14)
            have HVa14 := Lib.hid (HVa13.out.below hb14)
            have HVb14 := Lib.hid (HVb13.out.below hb14)
            clear hb hb14
            refine hK.out _ _ ⟨⟨H14.out.held, own_conv HVa14.out⟩, own_conv HVb14.out⟩ (fun hHeld => ?_)
            clear hK K
            try simp only [Act.put, List.setIfInBounds_toArray, List.set_cons_zero, List.set_cons_succ]
            refine take_run 33 97 (v := ?_) rfl rfl (by kernel_rfl) (by kernel_rfl) (by kernel_rfl) (fun _ _ _ h => h) (by rfl) ?_ (by assumption) ?_
            rotate_left
            · (intro wq hSw; obtain ⟨⟨⟨⟨hS1, hS2⟩, ⟨hS3, hS4⟩, ⟨hS5, hS6⟩⟩, hca⟩, hcb⟩ := hSw; go_simp; first | done | with_reducible rfl)
            simp only [Act.put, List.setIfInBounds_toArray, List.set_cons_zero, List.set_cons_succ]
            refine take_run 34 98 (v := ?_) rfl rfl (by kernel_rfl) (by kernel_rfl) (by kernel_rfl) (fun _ _ _ h => h) (by rfl) ?_ (by assumption) ?_
            rotate_left
            · (intro wq hSw; obtain ⟨⟨⟨⟨hS1, hS2⟩, ⟨hS3, hS4⟩, ⟨hS5, hS6⟩⟩, hca⟩, hcb⟩ := hSw; go_simp; first | done | with_reducible rfl)
            simp only [Act.put, List.setIfInBounds_toArray, List.set_cons_zero, List.set_cons_succ]
            refine take_run 35 99 (v := ?_) rfl rfl (by kernel_rfl) (by kernel_rfl) (by kernel_rfl) (fun _ _ _ h => h) (by rfl) ?_ (by assumption) ?_
            rotate_left
            · (intro wq hSw; obtain ⟨⟨⟨⟨hS1, hS2⟩, ⟨hS3, hS4⟩, ⟨hS5, hS6⟩⟩, hca⟩, hcb⟩ := hSw; go_simp; first | done | with_reducible rfl)
            simp only [Act.put, List.setIfInBounds_toArray, List.set_cons_zero, List.set_cons_succ]
            refine take_run 36 100 (v := ?_) rfl rfl (by kernel_rfl) (by kernel_rfl) (by kernel_rfl) (fun _ _ _ h => h) (by rfl) ?_ (by assumption) ?_
            rotate_left
            · (intro wq hSw; obtain ⟨⟨⟨⟨hS1, hS2⟩, ⟨hS3, hS4⟩, ⟨hS5, hS6⟩⟩, hca⟩, hcb⟩ := hSw; go_simp; first | done | with_reducible rfl)
            simp only [Act.put, List.setIfInBounds_toArray, List.set_cons_zero, List.set_cons_succ]
            refine take_run 37 101 (v := ?_) rfl rfl (by kernel_rfl) (by kernel_rfl) (by kernel_rfl) (fun _ _ _ h => h) (by rfl) ?_ (by assumption) ?_
            rotate_left
            · (intro wq hSw; obtain ⟨⟨⟨⟨hS1, hS2⟩, ⟨hS3, hS4⟩, ⟨hS5, hS6⟩⟩, hca⟩, hcb⟩ := hSw; go_simp; first | done | with_reducible rfl)
            simp only [Act.put, List.setIfInBounds_toArray, List.set_cons_zero, List.set_cons_succ]
            refine take_run 38 102 (v := ?_) rfl rfl (by kernel_rfl) (by kernel_rfl) (by kernel_rfl) (fun _ _ _ h => h) (by rfl) ?_ (by assumption) ?_
            rotate_left
            · (intro wq hSw; obtain ⟨⟨⟨⟨hS1, hS2⟩, ⟨hS3, hS4⟩, ⟨hS5, hS6⟩⟩, hca⟩, hcb⟩ := hSw; go_simp; first | done | with_reducible rfl)
            simp only [Act.put, List.setIfInBounds_toArray, List.set_cons_zero, List.set_cons_succ]
            refine take_run 39 103 (v := ?_) rfl rfl (by kernel_rfl) (by kernel_rfl) (by kernel_rfl) (fun _ _ _ h => h) (by rfl) ?_ (by assumption) ?_
            rotate_left
            · (intro wq hSw; obtain ⟨⟨⟨⟨hS1, hS2⟩, ⟨hS3, hS4⟩, ⟨hS5, hS6⟩⟩, hca⟩, hcb⟩ := hSw; go_simp; first | done | with_reducible rfl)
            simp only [Act.put, List.setIfInBounds_toArray, List.set_cons_zero, List.set_cons_succ]
            refine take_run 40 104 (v := ?_) rfl rfl (by kernel_rfl) (by kernel_rfl) (by kernel_rfl) (fun _ _ _ h => h) (by rfl) ?_ (by assumption) ?_
            rotate_left
            · (intro wq hSw; obtain ⟨⟨⟨⟨hS1, hS2⟩, ⟨hS3, hS4⟩, ⟨hS5, hS6⟩⟩, hca⟩, hcb⟩ := hSw; go_simp; first | done | with_reducible rfl)
            simp only [Act.put, List.setIfInBounds_toArray, List.set_cons_zero, List.set_cons_succ]
            refine take_run 41 105 (v := ?_) rfl rfl (by kernel_rfl) (by kernel_rfl) (by kernel_rfl) (fun _ _ _ h => h) (by rfl) ?_ (by assumption) ?_
            rotate_left
            · (intro wq hSw; obtain ⟨⟨⟨⟨hS1, hS2⟩, ⟨hS3, hS4⟩, ⟨hS5, hS6⟩⟩, hca⟩, hcb⟩ := hSw; go_simp; first | done | with_reducible rfl)
            simp only [Act.put, List.setIfInBounds_toArray, List.set_cons_zero, List.set_cons_succ]
            refine take_run 42 106 (v := ?_) rfl rfl (by kernel_rfl) (by kernel_rfl) (by kernel_rfl) (fun _ _ _ h => h) (by rfl) ?_ (by assumption) ?_
            rotate_left
            · (intro wq hSw; obtain ⟨⟨⟨⟨hS1, hS2⟩, ⟨hS3, hS4⟩, ⟨hS5, hS6⟩⟩, hca⟩, hcb⟩ := hSw; go_simp; first | done | with_reducible rfl)
            simp only [Act.put, List.setIfInBounds_toArray, List.set_cons_zero, List.set_cons_succ]
            refine take_run 43 107 (v := ?_) rfl rfl (by kernel_rfl) (by kernel_rfl) (by kernel_rfl) (fun _ _ _ h => h) (by rfl) ?_ (by assumption) ?_
            rotate_left
            · (intro wq hSw; obtain ⟨⟨⟨⟨hS1, hS2⟩, ⟨hS3, hS4⟩, ⟨hS5, hS6⟩⟩, hca⟩, hcb⟩ := hSw; go_simp; first | done | with_reducible rfl)
            simp only [Act.put, List.setIfInBounds_toArray, List.set_cons_zero, List.set_cons_succ]
            refine wpAnyH_ready (rs := [44]) (by kernel_rfl) (by simp) ?_
            refine AllReadyH.cons rfl (fun K hK => ?_) AllReadyH.nil
            go_simp
            refine (bone_says w14).mono ?_
            rintro e w15 ⟨rfl, hb⟩
            have hb15 := hb
            have H15 := Lib.hid (H14.out.below hb15)
            have HVa15 := Lib.hid (HVa14.out.below hb15)
            have HVb15 := Lib.hid (HVb14.out.below hb15)
            clear hb hb15
            refine hK.out _ _ ⟨⟨H15.out.held, own_conv HVa15.out⟩, own_conv HVb15.out⟩ (fun hHeld => ?_)
            clear hK K
            try simp only [Act.put, List.setIfInBounds_toArray, List.set_cons_zero, List.set_cons_succ]
            refine take_run 45 109 (v := ?_) rfl rfl (by kernel_rfl) (by kernel_rfl) (by kernel_rfl) (fun _ _ _ h => h) (by rfl) ?_ (by assumption) ?_
            rotate_left
            · (intro wq hSw; obtain ⟨⟨⟨⟨hS1, hS2⟩, ⟨hS3, hS4⟩, ⟨hS5, hS6⟩⟩, hca⟩, hcb⟩ := hSw; go_simp; first | done | with_reducible rfl)
            simp only [Act.put, List.setIfInBounds_toArray, List.set_cons_zero, List.set_cons_succ]
            refine take_run 46 6 (v := ?_) rfl rfl (by kernel_rfl) (by kernel_rfl) (by kernel_rfl) (fun _ _ _ h => h) (by rfl) ?_ (by assumption) ?_
            rotate_left
            · (intro wq hSw; obtain ⟨⟨⟨⟨hS1, hS2⟩, ⟨hS3, hS4⟩, ⟨hS5, hS6⟩⟩, hca⟩, hcb⟩ := hSw; go_simp; first | done | with_reducible rfl)
            simp only [Act.put, List.setIfInBounds_toArray, List.set_cons_zero, List.set_cons_succ]
            refine wpAnyH_done (by kernel_rfl) ?_ _
            refine KK.out _ _ ?_
            clear KK KX
            go_wp2_with fail
            go_ret
            exact ⟨rfl, H15.out.s.bel⟩
end Go.Proofs.Ytnhondkdkjehaaa
