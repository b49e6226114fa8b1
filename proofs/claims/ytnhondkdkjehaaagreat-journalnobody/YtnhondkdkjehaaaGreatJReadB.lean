/-
  read: the changes of the transactions that are whole, one behind the other, out of the log's blocks.
-/
import Derived.Test.YtnhondkdkjehaaaGreatJReadBP
import Derived.Deep.DeepCutAuto
import Derived.Deep.CutBlock
namespace Go.Proofs.YtnhondkdkjehaaaGreat
open Go.RowKit

set_option linter.unusedVariables false
set_option linter.unusedSimpArgs false
/-- What read hands on. -/
def ReadBPost (w : World) (K : Nat → Prop) (p dp : Nat) (u : Value × Value) (D : Dv) (R : List Cg × Lg) (e : Ending) (w' : World) : Prop :=
  (∃ A n c xs, e = .returned (.slice A n c) ∧ Chs w' (fun k => w.heap.size ≤ k) A n c xs ∧ xs.map Ch.cg = R.1 ∧ whole xs) ∧ Box w' p 81 (lc dp u R.2) ∧ Dev w' K dp D ∧ Touch (fun k => K k ∨ k = p) w w'
section
variable {w : World} {K : Nat → Prop} {p dp gb : Nat} {NR : Nat → Prop} {u : Value × Value} {L0 : Lg} {D : Dv} {bs0 : List Bk} {vs0 : List (Nat × Nat)}
set_option maxRecDepth 100000 in
set_option maxHeartbeats 16000000 in
theorem jread_says (hb : Box w p 81 (lc dp u L0)) (hL : L0.Ok) (hu0 : L0.used = 0) (hsq : L0.seq ≤ 4611686018427387904) (hp : ¬ K p) (hd : Dev w K dp D) (hK : ∀ k, K k → k < w.heap.size)
    (A0 : Option Addr) (n0 c0 : Nat) (ht : Lies w (fun b => b = gb) A0 n0 c0 (vs0.map rwc)) (hr : RwsAt w NR vs0 bs0) (hlen : (bs0.length : Int) ≤ L0.h.log) (hgp : gb ≠ p) (hNp : ∀ k, NR k → k ≠ p) (hNw : ∀ k, NR k → k < w.heap.size) (hgw : gb < w.heap.size) :
    Calls Tryz.prog 68 #[.pointer (some ⟨p, 0, none⟩), .slice A0 n0 c0] w (ReadBPost w K p dp u D (readB (homeOf D L0) (bs0.length + 1) L0 [] bs0)) := by
  obtain ⟨home, hhome⟩ : ∃ x, homeOf D L0 = x := ⟨_, rfl⟩
  obtain ⟨F, hF⟩ : ∃ x, bs0.length + 1 = x := ⟨_, rfl⟩
  rw [hhome, hF]
  obtain ⟨R, hR⟩ : ∃ R, readB home F L0 [] bs0 = R := ⟨_, rfl⟩
  rw [hR]
  have hpw := hb.lt
  have hn0 : bs0.length = n0 := by rw [← hr.1, ← ht.1, List.length_map]
  subst hn0
  have HI0 := Lib.hid (show RIB w K p dp gb NR u home F L0 D bs0 L0 [] [] F A0 c0 vs0 bs0 (.slice none 0 0) w from
    ⟨⟨hb, Touch.refl _ _, World.ownsRow_nil w _ _ 2, fun x hx => by cases hx⟩, hd, rfl, by rw [hu0]; omega, by omega, hL.up, rfl, (fun x hx => by cases hx), rfl, by omega, Nat.zero_le _, ht, hr⟩)
  have HRR := Lib.hid hR
  have HH := Lib.hid hhome
  have hlog0 := hL.log0
  have hlog1 := hL.log1
  have HL0 := Lib.hid hL
  clear hb hd hL hR hhome ht hr
  go_enter Tryz.func68, Tryz.ntmps68
  go_wp2_with fail
  go_step3
  go_wp2_with fail
  go_step3
  go_wp2_with fail
  go_loopw [1, 5] (fun b v wr => ∃ L done xs f A c vs bs, b = .slice A bs.length c ∧ Hid (RIB w K p dp gb NR u home F L0 D bs0 L done xs f A c vs bs v wr)) (fun b _ _ => sliceLen b)
  case atStart => exact ⟨L0, [], [], F, A0, c0, vs0, bs0, rfl, HI0⟩
  case round =>
    clear HI0
    obtain ⟨wo, rfl⟩ : ∃ y, y = wr := ⟨_, rfl⟩
    obtain ⟨L, done, xs, f, A, c, vs, bs, rfl, H⟩ := hrel
    have hL : L.Ok := by
      have h0 := HL0.out
      have h3 := H.out.head
      have h5 := H.out.used
      have h6 := H.out.seq
      have h7 : L.h.log ≤ 4096 := by rw [h3]; exact h0.log1
      exact ⟨by rw [h3]; exact h0.log0, h7, by rw [h3]; exact h0.pos0, by rw [h3]; exact h0.pos1, by omega, by omega, H.out.up⟩
    have hlg : L.h.log = L0.h.log := by rw [H.out.head]
    have hul := H.out.used
    obtain ⟨m, hm⟩ : ∃ m, bs.length = m := ⟨_, rfl⟩
    rw [hm] at hul ⊢
    have HM := Lib.hid hm
    have hm4 : m ≤ 4096 := by omega
    clear hm
    by_cases hgo : (2 : Int) < (m : Int)
    · obtain ⟨f, rfl⟩ : ∃ g, f = g + 1 := ⟨f - 1, by have := H.out.fuel; have := HM.out; omega⟩
      have hstep : R = match roundB L home bs with
          | none => (done, L)
          | some cs => readB home f (L.next cs.length) (done ++ cs) (bs.drop (cs.length + 2)) := by
        rw [← HRR.out, H.out.same, readB, if_pos (by rw [HM.out]; omega)]
        cases roundB L home bs <;> rfl
      have HST := Lib.hid hstep
      obtain ⟨o0, g0, ci0, hA0, hc0, hN0, hl0⟩ := rows_at H.out.tab H.out.rws (i := 0) (by rw [HM.out]; omega)
      subst hA0
      rw [Nat.add_zero] at hc0
      obtain ⟨B1, hB1⟩ : ∃ B, bkAt bs 0 = B := ⟨_, rfl⟩
      rw [hB1] at hl0
      have HSE := Lib.hid (jsealed_says H.out.rb.box hL.seq 1 (some ⟨g0, 0, none⟩) ci0 B1.1 (hl0.weak (fun _ _ _ => trivial)))
      clear hl0 hN0 hstep
      have g00 : (0 : Int) < (m : Int) := by omega
      go_wp2_with fail
      refine HSE.out.mono ?_
      rintro e w4 ⟨⟨A2, n, c2, ok, rfl, hn220, hyes, hno⟩, hb4⟩
      rw [mk8_eq] at hyes hno
      have HR4 := Lib.hid (H.out.rb.on (Touch.of_below (K := fun _ => False) hb4) (fun _ h => h.elim) hK hp)
      have HD4 := Lib.hid (H.out.dev.below hb4)
      have HB4 := Lib.hid hb4
      obtain ⟨A4, c4, hv4, hch0⟩ := HR4.out.chs
      have qn : (n : Int).tdiv 3 = ((n / 3 : Nat) : Int) := rfl
      have qr : (n : Int).tmod 3 = ((n % 3 : Nat) : Int) := rfl
      subst hv4
      clear hb4 HSE hch0 hc0
      cases hso : sealedOf (L.mk8 1) B1.1 with
      | none =>
        obtain rfl := hno hso
        have hround : roundB L home bs = none := by rw [roundB, hB1, hso]
        have hround : (match roundB L home bs with
          | none => (done, L)
          | some cs => readB home f (L.next cs.length) (done ++ cs) (bs.drop (cs.length + 2))) = (done, L) := by rw [hround]
        have HFI := Lib.hid (show R = (done, L) from by rw [HST.out, hround])
        obtain ⟨A5, c5, he, hch⟩ := HR4.out.chs
        injection he with he1 he2 he3
        subst he1 he3
        have HCH := Lib.hid hch
        clear hround HST he2 hch hyes hno hso
        go_wp2
        try rw [Exit.noGoto_ret]
        go_ret
        rw [HFI.out]
        exact ⟨⟨A4, _, c4, xs, rfl, HCH.out, H.out.cgs, H.out.wh⟩, HR4.out.box, HD4.out, HR4.out.touch⟩
      | some told =>
        obtain ⟨rfl, hlt⟩ := hyes told hso
        have htl : told.length = n := by rw [← bc_length]; exact hlt.len
        obtain ⟨mm, hmm⟩ : ∃ m : Nat, n / 3 = m := ⟨_, rfl⟩
        have e3 : (n : Int) / 3 = (mm : Int) := by omega
        have q3 : IntKind.i64.wrap ((mm : Int) + 2) = (mm : Int) + 2 := IntWalk.i64_in _ (by omega)
        have HLT := Lib.hid (hlt.weak (N' := fun k => wo.heap.size ≤ k) (fun k _ hk => hk))
        have HTL := Lib.hid htl
        have HNN := Lib.hid hB1
        clear hlt hyes hno htl hB1
        by_cases h3 : n % 3 = 0
        · have l3 : ((n : Int) % 3 != 0) = false := by rw [bne_eq_false_iff_eq]; omega
          by_cases hfu : (m : Int) < (mm : Int) + 2
          · have hround : (match roundB L home bs with
              | none => (done, L)
              | some cs => readB home f (L.next cs.length) (done ++ cs) (bs.drop (cs.length + 2))) = (done, L) := by
              rw [roundB, HNN.out, hso]
              simp only
              rw [if_pos (by rw [HTL.out, hmm, HM.out]; right; omega)]
            have HFI := Lib.hid (show R = (done, L) from by rw [HST.out, hround])
            obtain ⟨A5, c5, he, hch⟩ := HR4.out.chs
            injection he with he1 he2 he3
            subst he1 he3
            have HCH := Lib.hid hch
            clear hround HST he2 hch hso
            go_wp2
            try rw [Exit.noGoto_ret]
            go_ret
            rw [HFI.out]
            exact ⟨⟨A4, _, c4, xs, rfl, HCH.out, H.out.cgs, H.out.wh⟩, HR4.out.box, HD4.out, HR4.out.touch⟩
          · have HRD := Lib.hid (show roundB L home bs = match covB bs told mm 0 with
                | none => none
                | some cs => if sealedOf (L.mk8 2) (bkAt bs (1 + mm)).1 = some [] ∧ rightC home cs = true then some cs else none from by
              rw [roundB, HNN.out, hso]
              simp only
              rw [if_neg (by rw [HTL.out, hmm, HM.out]; rintro (h | h); · exact h h3
                             · omega), HTL.out, hmm]
              cases covB bs told mm 0 <;> rfl)
            have HN3 := Lib.hid (show n = 3 * mm from by omega)
            have hm70 : mm ≤ 73 := by omega
            obtain ⟨j0, hj0, jz0, jz1, jz2⟩ := info_parts chInfo3
            have hw4o : wo.heap.size ≤ w4.heap.size := HB4.out.size
            have hwo : w.heap.size ≤ wo.heap.size := H.out.rb.touch.size
            clear hso hn220
            go_upto_region 7 with (at_make; refine wpList_make_full _ rfl _ _ 46 rfl w4.heap.size 51 j0 _ 2 Tryz.underlying46 hj0 jz0 jz1 _ _ _ _ mm rfl rfl (by omega) (by omega) (by rw [jz2]; omega) (by unfold maxLen; omega) (Nat.le_refl _) ?_; intro w6 hown6 hg6; have HO6 := Lib.hid (And.intro hown6 hg6); clear hown6 hg6)
            obtain ⟨hown6, hg6⟩ := HO6.out
            change w6.ownsRow _ _ _ _ _ (madeCells (Value.agg #[.int .i64 0, .slice none 0 0]).cells (mm * 2)).toList at hown6
            rw [madeChs] at hown6
            have hbz6 : Below w4.heap.size w4 w6 := (Below.refl w4.heap.size w4).grown hg6 (Nat.le_refl _) (fun k hk => by cases hk)
            have HC0 := Lib.hid (show CIB told mm bs w4 0 [] [] w6 from
              ⟨hbz6, own_boxS hown6, (fun y hy => by cases hy), rfl, (fun y hy => by cases hy), rfl, by rw [pre?_nil]; rfl⟩)
            have hcap := HLT.out.le
            clear hown6 hg6 HO6 hbz6 qn qr
            go_wp2_with fail
            go_loopw [49] (fun v wr => ∃ (k : Nat) (cs : List Cg) (ys : List Ch), v = .int .i64 (k : Int) ∧ k ≤ mm ∧ Hid (CIB told mm bs w4 k cs ys wr)) (fun v _ => mm - (intOf v).toNat)
            case atStart => exact ⟨0, [], [], rfl, by omega, HC0⟩
            case round =>
              clear HC0
              obtain ⟨k, cs, ys, rfl, hk, HC⟩ := hrel
              have hbw : Below wo.heap.size wo wr := HB4.out.trans (HC.out.bel.mono hw4o)
              have hrw := H.out.rws.keep (Touch.of_below (K := fun _ => False) hbw) (fun _ _ _ h => h)
              obtain ⟨o1, g1, ci1, hA1, hc1, hN1, hl1⟩ := rows_at (H.out.tab.below hbw) hrw (i := 1 + k) (by rw [HM.out]; omega)
              injection hA1 with hA1
              injection hA1 with _ hA1
              subst hA1
              obtain ⟨B2, hB2⟩ : ∃ B, bkAt bs (1 + k) = B := ⟨_, rfl⟩
              rw [hB2] at hl1
              have HR5 := Lib.hid (HR4.out.on (Touch.of_below (K := fun _ => False) HC.out.bel) (fun _ h => h.elim) hK hp)
              have HD5 := Lib.hid (HD4.out.below HC.out.bel)
              have w1k : IntKind.i64.wrap (1 + (k : Int)) = 1 + (k : Int) := IntWalk.i64_in _ (by omega)
              have i1k : (1 + (k : Int)).toNat = 1 + k := by omega
              have j1k : (1 + (k : Int)) < (m : Int) := by omega
              have j0k : 0 ≤ 1 + (k : Int) := by omega
              have HB2 := Lib.hid hB2
              clear hbw hrw hB2
              by_cases hlt : k < mm
              · have hlt' : (k : Int) < (mm : Int) := by omega
                obtain ⟨z0, hz0⟩ : ∃ z, told.getD (3 * k) 0 = z := ⟨_, rfl⟩
                obtain ⟨z1, hz1⟩ : ∃ z, told.getD (3 * k + 1) 0 = z := ⟨_, rfl⟩
                obtain ⟨z2, hz2⟩ : ∃ z, told.getD (3 * k + 2) 0 = z := ⟨_, rfl⟩
                have htl := HTL.out
                have hn3 := HN3.out
                have hat : ∀ j z, told.getD j 0 = z → j < n → (bc told)[j]? = some (.int .u8 (z.toNat : Int)) := fun j z hj hjn => by
                  rw [bc, List.getElem?_map, List.getElem?_eq_getElem (by omega)]
                  rw [List.getD_eq_getElem?_getD, List.getElem?_eq_getElem (by omega)] at hj
                  rw [← hj]
                  rfl
                have hl3 : Lies wr (fun k => wo.heap.size ≤ k) A2 n c2 (bc told) := HLT.out.below HC.out.bel
                obtain ⟨bt, ot, hA, hbtw, hbt, k0⟩ := hl3.at (hat (3 * k) z0 hz0 (by omega))
                obtain ⟨bt', ot', hA', _, _, k1⟩ := hl3.at (hat (3 * k + 1) z1 hz1 (by omega))
                obtain ⟨bt'', ot'', hA'', _, _, k2⟩ := hl3.at (hat (3 * k + 2) z2 hz2 (by omega))
                rw [hA] at hA' hA''
                injection hA' with hA'
                injection hA' with hq1 hq2
                injection hA'' with hA''
                injection hA'' with hq3 hq4
                subst hq1 hq2 hq3 hq4
                obtain ⟨o3, ho3⟩ : ∃ x, ot + 3 * k = x := ⟨_, rfl⟩
                obtain ⟨m3, hm3⟩ : ∃ x, n - 3 * k = x := ⟨_, rfl⟩
                obtain ⟨c3, hc3⟩ : ∃ x, c2 - 3 * k = x := ⟨_, rfl⟩
                have HSL : ∀ W, (Instr.sliceAt 49 (.slice A2 n c2) (some (.int .i64 (3 * (k : Int)))) none none).run Tryz.prog W = .ok (.slice (some ⟨bt, o3, none⟩) m3 c3) W := fun W => by
                  have := sliceAt_from Tryz.underlying49 (by kernel_rfl) .i64 A2 n c2 (3 * k) (by omega) W
                  rw [show ((3 * k : Nat) : Int) = 3 * (k : Int) from by omega, cutA, if_neg (by omega), hA, hm3, hc3] at this
                  rw [hA]
                  rw [this, ← ho3]
                  simp [Addr.add_mid]
                have hw3k : IntKind.i64.wrap (3 * (k : Int)) = 3 * (k : Int) := IntWalk.i64_in _ (by omega)
                rw [ho3] at k0
                rw [show ot + (3 * k + 1) = o3 + 1 by omega] at k1
                rw [show ot + (3 * k + 2) = o3 + 2 by omega] at k2
                have hm30 : 3 ≤ m3 := by omega
                have y0 : 0 < m3 := by omega
                have y1 : 1 < m3 := by omega
                have y2 : 2 < m3 := by omega
                have g0' : (0 : Int) < (m3 : Int) := by omega
                have g1' : (1 : Int) < (m3 : Int) := by omega
                have g2' : (2 : Int) < (m3 : Int) := by omega
                have HZ3 := Lib.hid (And.intro hz0 (And.intro hz1 hz2))
                have HKT := Lib.hid (And.intro k0 (And.intro k1 hbt))
                have HL1 := Lib.hid (hl1.weak (fun _ _ _ => trivial))
                have hd1 : wr.drew.cell? ⟨gb, o0 + (1 + k), none⟩ = some (.slice (some ⟨g1, 0, none⟩) 256 ci1) := hc1
                have hd2 : wr.drew.cell? ⟨bt, o3 + 2, none⟩ = some (.int .u8 (z2.toNat : Int)) := k2
                have hgbl : gb < wr.heap.size := World.block_lt_of_cell? _ _ hc1
                clear hn3 hat hl3 hA hbtw ho3 hm3 hc3 htl hz0 hz1 hz2 k0 k1 k2 hl1 hc1 hN1
                by_cases hhd : B2.1.headD 0 = 3
                · go_upto_region 11 with fail
                  rename_i KX kx
                  have KK := Lib.hid kx
                  clear kx
                  refine wp_region_held_drew (S := fun x => x.cell? ⟨gb, o0 + (1 + k), none⟩ = some (.slice (some ⟨g1, 0, none⟩) 256 ci1) ∧ x.cell? ⟨bt, o3 + 2, none⟩ = some (.int .u8 (z2.toNat : Int))) (by kernel_rfl) ⟨hd1, hd2⟩ (fun hHeld => ?_)
                  refine take_run 0 57 (v := ?_) rfl rfl (by kernel_rfl) (by kernel_rfl) (by kernel_rfl) (fun _ _ _ h => h) (by rfl) ?_ (by assumption) ?_
                  rotate_left
                  · (intro wq hSw; obtain ⟨hS1, hS2⟩ := hSw; go_simp; first | done | with_reducible rfl)
                  simp only [Act.put, List.setIfInBounds_toArray, List.set_cons_zero, List.set_cons_succ]
                  refine take_run 1 58 (v := ?_) rfl rfl (by kernel_rfl) (by kernel_rfl) (by kernel_rfl) (fun _ _ _ h => h) (by rfl) ?_ (by assumption) ?_
                  rotate_left
                  · (intro wq hSw; obtain ⟨hS1, hS2⟩ := hSw; go_simp; first | done | with_reducible rfl)
                  simp only [Act.put, List.setIfInBounds_toArray, List.set_cons_zero, List.set_cons_succ]
                  refine take_run 2 59 (v := ?_) rfl rfl (by kernel_rfl) (by kernel_rfl) (by kernel_rfl) (fun _ _ _ h => h) (by rfl) ?_ (by assumption) ?_
                  rotate_left
                  · (intro wq hSw; obtain ⟨hS1, hS2⟩ := hSw; go_simp; first | done | with_reducible rfl)
                  simp only [Act.put, List.setIfInBounds_toArray, List.set_cons_zero, List.set_cons_succ]
                  refine take_run 3 60 (v := ?_) rfl rfl (by kernel_rfl) (by kernel_rfl) (by kernel_rfl) (fun _ _ _ h => h) (by rfl) ?_ (by assumption) ?_
                  rotate_left
                  · (intro wq hSw; obtain ⟨hS1, hS2⟩ := hSw; go_simp; first | done | with_reducible rfl)
                  simp only [Act.put, List.setIfInBounds_toArray, List.set_cons_zero, List.set_cons_succ]
                  refine take_run 4 61 (v := ?_) rfl rfl (by kernel_rfl) (by kernel_rfl) (by kernel_rfl) (fun _ _ _ h => h) (by rfl) ?_ (by assumption) ?_
                  rotate_left
                  · (intro wq hSw; obtain ⟨hS1, hS2⟩ := hSw; go_simp; first | done | with_reducible rfl)
                  simp only [Act.put, List.setIfInBounds_toArray, List.set_cons_zero, List.set_cons_succ]
                  refine take_run 5 62 (v := ?_) rfl rfl (by kernel_rfl) (by kernel_rfl) (by kernel_rfl) (fun _ _ _ h => h) (by rfl) ?_ (by assumption) ?_
                  rotate_left
                  · (intro wq hSw; obtain ⟨hS1, hS2⟩ := hSw; go_simp; first | done | with_reducible rfl)
                  simp only [Act.put, List.setIfInBounds_toArray, List.set_cons_zero, List.set_cons_succ]
                  refine take_run 6 63 (v := ?_) rfl rfl (by kernel_rfl) (by kernel_rfl) (by kernel_rfl) (fun _ _ _ h => h) (by rfl) ?_ (by assumption) ?_
                  rotate_left
                  · (intro wq hSw; obtain ⟨hS1, hS2⟩ := hSw; go_simp; first | done | with_reducible rfl)
                  simp only [Act.put, List.setIfInBounds_toArray, List.set_cons_zero, List.set_cons_succ]
                  refine take_run 7 64 (v := ?_) rfl rfl (by kernel_rfl) (by kernel_rfl) (by kernel_rfl) (fun _ _ _ h => h) (by rfl) ?_ (by assumption) ?_
                  rotate_left
                  · (intro wq hSw; obtain ⟨hS1, hS2⟩ := hSw; go_simp; first | done | with_reducible rfl)
                  simp only [Act.put, List.setIfInBounds_toArray, List.set_cons_zero, List.set_cons_succ]
                  refine wpAnyH_ready (rs := [8]) (by kernel_rfl) (by simp) ?_
                  refine AllReadyH.cons rfl (fun K1 hK1 => ?_) AllReadyH.nil
                  go_simp
                  refine (bare_yes wr.drew (some ⟨g1, 0, none⟩) ci1 B2.1 HL1.out.drew hhd z2).mono ?_
                  rintro e w7 ⟨rfl, hx7, hb7⟩
                  have hb7 : Below wr.heap.size wr w7 := ⟨hb7.os, hb7.tape, hb7.output, hb7.size, hb7.block⟩
                  have H7 := Lib.hid (And.intro hx7 hb7)
                  refine hK1.out _ _ ⟨(hb7.cell (p := ⟨gb, o0 + (1 + k), none⟩) hgbl).trans hd1, (hb7.cell (p := ⟨bt, o3 + 2, none⟩) HKT.out.2.2).trans hd2⟩ (fun hHeld => ?_)
                  clear hK1 K1 hx7 hb7
                  try simp only [Act.put, List.setIfInBounds_toArray, List.set_cons_zero, List.set_cons_succ]
                  refine take_run 9 56 (v := ?_) rfl rfl (by kernel_rfl) (by kernel_rfl) (by kernel_rfl) (fun _ _ _ h => h) (by rfl) ?_ (by assumption) ?_
                  rotate_left
                  · (intro wq hSw; obtain ⟨hS1, hS2⟩ := hSw; go_simp; first | done | with_reducible rfl)
                  simp only [Act.put, List.setIfInBounds_toArray, List.set_cons_zero, List.set_cons_succ]
                  refine take_run 10 66 (v := ?_) rfl rfl (by kernel_rfl) (by kernel_rfl) (by kernel_rfl) (fun _ _ _ h => h) (by rfl) ?_ (by assumption) ?_
                  rotate_left
                  · (intro wq hSw; obtain ⟨hS1, hS2⟩ := hSw; go_simp; first | done | with_reducible rfl)
                  simp only [Act.put, List.setIfInBounds_toArray, List.set_cons_zero, List.set_cons_succ]
                  refine take_run 11 67 (v := ?_) rfl rfl (by kernel_rfl) (by kernel_rfl) (by kernel_rfl) (fun _ _ _ h => h) (by rfl) ?_ (by assumption) ?_
                  rotate_left
                  · (intro wq hSw; obtain ⟨hS1, hS2⟩ := hSw; go_simp; first | done | with_reducible rfl)
                  simp only [Act.put, List.setIfInBounds_toArray, List.set_cons_zero, List.set_cons_succ]
                  refine take_run 12 12 (v := ?_) rfl rfl (by kernel_rfl) (by kernel_rfl) (by kernel_rfl) (fun _ _ _ h => h) (by rfl) ?_ (by assumption) ?_
                  rotate_left
                  · (intro wq hSw; obtain ⟨hS1, hS2⟩ := hSw; go_simp; first | done | with_reducible rfl)
                  simp only [Act.put, List.setIfInBounds_toArray, List.set_cons_zero, List.set_cons_succ]
                  refine take_run 13 13 (v := ?_) rfl rfl (by kernel_rfl) (by kernel_rfl) (by kernel_rfl) (fun _ _ _ h => h) (by rfl) ?_ (by assumption) ?_
                  rotate_left
                  · (intro wq hSw; obtain ⟨hS1, hS2⟩ := hSw; go_simp; first | done | with_reducible rfl)
                  simp only [Act.put, List.setIfInBounds_toArray, List.set_cons_zero, List.set_cons_succ]
                  refine wpAnyH_done (by kernel_rfl) ?_ _
                  refine KK.out _ _ ?_
                  clear KK KX hHeld
                  have k0 : w7.drew.cell? ⟨bt, o3, none⟩ = some (.int .u8 (z0.toNat : Int)) := (H7.out.2.cell (p := ⟨bt, o3, none⟩) HKT.out.2.2).trans HKT.out.1
                  have k1 : w7.drew.cell? ⟨bt, o3 + 1, none⟩ = some (.int .u8 (z1.toNat : Int)) := (H7.out.2.cell (p := ⟨bt, o3 + 1, none⟩) HKT.out.2.2).trans HKT.out.2.1
                  obtain ⟨vv, hvv⟩ : ∃ v, z0.toNat * 256 + z1.toNat = v := ⟨_, rfl⟩
                  have b0 := z0.toNat_lt
                  have b1 := z1.toNat_lt
                  have r0 : IntKind.i64.wrap (z0.toNat : Int) = (z0.toNat : Int) := IntWalk.i64_in _ (by omega)
                  have r1 : IntKind.i64.wrap (z1.toNat : Int) = (z1.toNat : Int) := IntWalk.i64_in _ (by omega)
                  have r2 : IntKind.i64.wrap ((z0.toNat : Int) * 256) = (z0.toNat : Int) * 256 := IntWalk.i64_in _ (by omega)
                  have r3 : bits .or .i64 ((z0.toNat : Int) * 256) (z1.toNat : Int) = (vv : Int) := by rw [two_bytes, hvv]
                  obtain ⟨x, hx⟩ : ∃ x : Ch, (⟨(vv : Int), some ⟨wr.heap.size, 0, none⟩, 256, 256, z2 :: B2.1.drop 1⟩ : Ch) = x := ⟨_, rfl⟩
                  have hxc : #[Value.int .i64 (vv : Int), .slice (some ⟨wr.heap.size, 0, none⟩) 256 256] = (chc x).toArray := by rw [← hx]; rfl
                  have hxg : x.cg = chgAt told k B2 := by
                    rw [← hx]
                    unfold chgAt
                    rw [HZ3.out.1, HZ3.out.2.1, HZ3.out.2.2, hvv]
                    rfl
                  have hxw : 0 ≤ x.n ∧ x.b.length = 256 := by
                    rw [← hx]
                    refine ⟨by show 0 ≤ (vv : Int); omega, ?_⟩
                    show (z2 :: B2.1.drop 1).length = 256
                    simp [B2.2]
                  have htab7 := Box.below HC.out.tab H7.out.2 HC.out.tab.lt
                  obtain ⟨cur, hcur⟩ : ∃ c, (fl chc (ys ++ List.replicate (mm - k) zCh)).toArray = c := ⟨_, rfl⟩
                  rw [hcur] at htab7
                  have hlenc : (ys ++ List.replicate (mm - k) zCh).length = mm := by rw [List.length_append, List.length_replicate, HC.out.len]; omega
                  have hcsz : cur.size = mm * 2 := by rw [← hcur]; simp [fl_length chc_length, hlenc]
                  obtain ⟨w8, hw8⟩ : ∃ y, w7.drew.setRow w4.heap.size (cur.toList.take (k * 2) ++ (#[Value.int .i64 (vv : Int), .slice (some ⟨wr.heap.size, 0, none⟩) 256 256] : Array Value).toList ++ cur.toList.drop (k * 2 + (#[Value.int .i64 (vv : Int), .slice (some ⟨wr.heap.size, 0, none⟩) 256 256] : Array Value).size)).toArray = y := ⟨_, rfl⟩
                  have ht8 : Touch (fun b => b = w4.heap.size) w7.drew w8 := by rw [← hw8]; exact Touch.row (K := fun b => b = w4.heap.size) rfl (Touch.refl _ _) _
                  have htab8 : Box w8 w4.heap.size 51 (fl chc ((ys ++ [x]) ++ List.replicate (mm - (k + 1)) zCh)).toArray := by
                    have h1 : Box w8 w4.heap.size 51 (cur.toList.take (k * 2) ++ (#[Value.int .i64 (vv : Int), .slice (some ⟨wr.heap.size, 0, none⟩) 256 256] : Array Value).toList ++ cur.toList.drop (k * 2 + (#[Value.int .i64 (vv : Int), .slice (some ⟨wr.heap.size, 0, none⟩) 256 256] : Array Value).size)).toArray := by
                      rw [← hw8]
                      exact setRow_heap _ _ _ _ _ _ (show Box w7.drew w4.heap.size 51 cur from htab7)
                    have h2 := fl_set chc_length (ys ++ List.replicate (mm - k) zCh) k x (by omega)
                    have h3 : (ys ++ List.replicate (mm - k) zCh).set k x = (ys ++ [x]) ++ List.replicate (mm - (k + 1)) zCh := by
                      rw [List.set_append_right _ _ (by rw [HC.out.len]; exact Nat.le_refl _), HC.out.len, Nat.sub_self, show mm - k = (mm - (k + 1)) + 1 by omega, List.replicate_succ, List.set_cons_zero, List.append_assoc]
                      rfl
                    rw [h3] at h2
                    rw [← h2]
                    have h4 : cur.toList = fl chc (ys ++ List.replicate (mm - k) zCh) := by rw [← hcur]
                    rw [h4, hxc] at h1
                    exact h1
                  have HC8 := Lib.hid (show CIB told mm bs w4 (k + 1) (cs ++ [chgAt told k B2]) (ys ++ [x]) w8 from by
                    have hw37 := H7.out.2.size
                    have hwz3 := HC.out.tab.lt
                    have hb7w : Below w4.heap.size w4 w7 := HC.out.bel.trans (H7.out.2.mono HC.out.bel.size)
                    have hb8 : Below w4.heap.size w7.drew w8 := Touch.below ht8 (fun _ e => by rw [e]; exact Nat.le_refl _) (by show w4.heap.size ≤ w7.heap.size; omega)
                    refine ⟨⟨hb8.os.trans hb7w.os, hb8.tape.trans hb7w.tape, hb8.output.trans hb7w.output, Nat.le_trans hb7w.size hb8.size, fun b hb => (hb8.block b hb).trans (hb7w.block b hb)⟩, htab8, fun y hy => ?_, by rw [List.map_append, List.map_cons, List.map_nil, hxg, HC.out.cg], fun y hy => ?_, by simp [HC.out.len], ?_⟩
                    · rcases List.mem_append.1 hy with hy | hy
                      · obtain ⟨a, b, cc⟩ := HC.out.lie y hy
                        exact ⟨a, b, ht8.lies (cc.below H7.out.2).drew (fun b hb h => by omega)⟩
                      · rw [List.mem_singleton] at hy
                        subst hy
                        rw [← hx]
                        refine ⟨by show _ ≤ (vv : Int); omega, by show (vv : Int) ≤ _; omega, ?_⟩
                        have h1 := H7.out.1.toLies (n := 256) (by rw [bc_length]; simp [B2.2]) (Nat.le_refl 256)
                        exact ht8.lies (h1.weak (N' := fun b => w4.heap.size < b) (fun b _ hb => by have hb' : b = wr.heap.size := hb; omega)).drew (fun b hb h => by omega)
                    · rcases List.mem_append.1 hy with hy | hy
                      · exact HC.out.wh y hy
                      · rw [List.mem_singleton] at hy
                        subst hy
                        exact hxw
                    · rw [HC.out.same, show mm - k = (mm - (k + 1)) + 1 by omega, pre?_step bs told cs (mm - (k + 1)) k (by rw [HB2.out]; exact hhd), HB2.out])
                  have HW8 := Lib.hid hw8
                  have HT7 := Lib.hid (show w7.drew.heap[w4.heap.size]? = some (.cells cur 51 (0, 0)) from htab7)
                  have hk2 : k * 2 + 2 ≤ cur.size := by omega
                  clear hxc hxg hxw htab7 hlenc ht8 htab8 hw8 hx hcur hvv b0 b1 hcsz hd1 hd2
                  go_upto_region 13 with fail
                  go_still_tail 15, (by kernel_rfl)
                  change wpList _ _ _ _ _ w7.drew
                  go_wp2_with (refine wpList_store_within rfl 51 _ _ rfl w4.heap.size (k * 2) #[.int .i64 (vv : Int), .slice (some ⟨wr.heap.size, 0, none⟩) 256 256] rfl rfl 51 cur HT7.out hk2 (by kernel_rfl) (by simp [Value.oneCell']) ?_; rw [HW8.out])
                  go_roundw
                  case rel => exact ⟨k + 1, _, _, by go_num, by omega, HC8⟩
                  case measure => simp [intOf]; omega
                · go_upto_region 11 with fail
                  rename_i KX kx
                  have KK := Lib.hid kx
                  clear kx
                  refine wp_region_held_drew (S := fun x => x.cell? ⟨gb, o0 + (1 + k), none⟩ = some (.slice (some ⟨g1, 0, none⟩) 256 ci1) ∧ x.cell? ⟨bt, o3 + 2, none⟩ = some (.int .u8 (z2.toNat : Int))) (by kernel_rfl) ⟨hd1, hd2⟩ (fun hHeld => ?_)
                  refine take_run 0 57 (v := ?_) rfl rfl (by kernel_rfl) (by kernel_rfl) (by kernel_rfl) (fun _ _ _ h => h) (by rfl) ?_ (by assumption) ?_
                  rotate_left
                  · (intro wq hSw; obtain ⟨hS1, hS2⟩ := hSw; go_simp; first | done | with_reducible rfl)
                  simp only [Act.put, List.setIfInBounds_toArray, List.set_cons_zero, List.set_cons_succ]
                  refine take_run 1 58 (v := ?_) rfl rfl (by kernel_rfl) (by kernel_rfl) (by kernel_rfl) (fun _ _ _ h => h) (by rfl) ?_ (by assumption) ?_
                  rotate_left
                  · (intro wq hSw; obtain ⟨hS1, hS2⟩ := hSw; go_simp; first | done | with_reducible rfl)
                  simp only [Act.put, List.setIfInBounds_toArray, List.set_cons_zero, List.set_cons_succ]
                  refine take_run 2 59 (v := ?_) rfl rfl (by kernel_rfl) (by kernel_rfl) (by kernel_rfl) (fun _ _ _ h => h) (by rfl) ?_ (by assumption) ?_
                  rotate_left
                  · (intro wq hSw; obtain ⟨hS1, hS2⟩ := hSw; go_simp; first | done | with_reducible rfl)
                  simp only [Act.put, List.setIfInBounds_toArray, List.set_cons_zero, List.set_cons_succ]
                  refine take_run 3 60 (v := ?_) rfl rfl (by kernel_rfl) (by kernel_rfl) (by kernel_rfl) (fun _ _ _ h => h) (by rfl) ?_ (by assumption) ?_
                  rotate_left
                  · (intro wq hSw; obtain ⟨hS1, hS2⟩ := hSw; go_simp; first | done | with_reducible rfl)
                  simp only [Act.put, List.setIfInBounds_toArray, List.set_cons_zero, List.set_cons_succ]
                  refine take_run 4 61 (v := ?_) rfl rfl (by kernel_rfl) (by kernel_rfl) (by kernel_rfl) (fun _ _ _ h => h) (by rfl) ?_ (by assumption) ?_
                  rotate_left
                  · (intro wq hSw; obtain ⟨hS1, hS2⟩ := hSw; go_simp; first | done | with_reducible rfl)
                  simp only [Act.put, List.setIfInBounds_toArray, List.set_cons_zero, List.set_cons_succ]
                  refine take_run 5 62 (v := ?_) rfl rfl (by kernel_rfl) (by kernel_rfl) (by kernel_rfl) (fun _ _ _ h => h) (by rfl) ?_ (by assumption) ?_
                  rotate_left
                  · (intro wq hSw; obtain ⟨hS1, hS2⟩ := hSw; go_simp; first | done | with_reducible rfl)
                  simp only [Act.put, List.setIfInBounds_toArray, List.set_cons_zero, List.set_cons_succ]
                  refine take_run 6 63 (v := ?_) rfl rfl (by kernel_rfl) (by kernel_rfl) (by kernel_rfl) (fun _ _ _ h => h) (by rfl) ?_ (by assumption) ?_
                  rotate_left
                  · (intro wq hSw; obtain ⟨hS1, hS2⟩ := hSw; go_simp; first | done | with_reducible rfl)
                  simp only [Act.put, List.setIfInBounds_toArray, List.set_cons_zero, List.set_cons_succ]
                  refine take_run 7 64 (v := ?_) rfl rfl (by kernel_rfl) (by kernel_rfl) (by kernel_rfl) (fun _ _ _ h => h) (by rfl) ?_ (by assumption) ?_
                  rotate_left
                  · (intro wq hSw; obtain ⟨hS1, hS2⟩ := hSw; go_simp; first | done | with_reducible rfl)
                  simp only [Act.put, List.setIfInBounds_toArray, List.set_cons_zero, List.set_cons_succ]
                  refine wpAnyH_ready (rs := [8]) (by kernel_rfl) (by simp) ?_
                  refine AllReadyH.cons rfl (fun K1 hK1 => ?_) AllReadyH.nil
                  go_simp
                  refine (bare_form wr.drew (some ⟨g1, 0, none⟩) ci1 B2.1 HL1.out.drew hhd z2).mono ?_
                  rintro e w7 ⟨rfl, rfl⟩
                  refine hK1.out _ _ ⟨hd1, hd2⟩ (fun hHeld => ?_)
                  clear hK1 K1
                  try simp only [Act.put, List.setIfInBounds_toArray, List.set_cons_zero, List.set_cons_succ]
                  refine take_run 9 56 (v := ?_) rfl rfl (by kernel_rfl) (by kernel_rfl) (by kernel_rfl) (fun _ _ _ h => h) (by rfl) ?_ (by assumption) ?_
                  rotate_left
                  · (intro wq hSw; obtain ⟨hS1, hS2⟩ := hSw; go_simp; first | done | with_reducible rfl)
                  simp only [Act.put, List.setIfInBounds_toArray, List.set_cons_zero, List.set_cons_succ]
                  refine take_run 10 66 (v := ?_) rfl rfl (by kernel_rfl) (by kernel_rfl) (by kernel_rfl) (fun _ _ _ h => h) (by rfl) ?_ (by assumption) ?_
                  rotate_left
                  · (intro wq hSw; obtain ⟨hS1, hS2⟩ := hSw; go_simp; first | done | with_reducible rfl)
                  simp only [Act.put, List.setIfInBounds_toArray, List.set_cons_zero, List.set_cons_succ]
                  refine take_run 11 67 (v := ?_) rfl rfl (by kernel_rfl) (by kernel_rfl) (by kernel_rfl) (fun _ _ _ h => h) (by rfl) ?_ (by assumption) ?_
                  rotate_left
                  · (intro wq hSw; obtain ⟨hS1, hS2⟩ := hSw; go_simp; first | done | with_reducible rfl)
                  simp only [Act.put, List.setIfInBounds_toArray, List.set_cons_zero, List.set_cons_succ]
                  refine take_run 12 12 (v := ?_) rfl rfl (by kernel_rfl) (by kernel_rfl) (by kernel_rfl) (fun _ _ _ h => h) (by rfl) ?_ (by assumption) ?_
                  rotate_left
                  · (intro wq hSw; obtain ⟨hS1, hS2⟩ := hSw; go_simp; first | done | with_reducible rfl)
                  simp only [Act.put, List.setIfInBounds_toArray, List.set_cons_zero, List.set_cons_succ]
                  refine take_run 13 13 (v := ?_) rfl rfl (by kernel_rfl) (by kernel_rfl) (by kernel_rfl) (fun _ _ _ h => h) (by rfl) ?_ (by assumption) ?_
                  rotate_left
                  · (intro wq hSw; obtain ⟨hS1, hS2⟩ := hSw; go_simp; first | done | with_reducible rfl)
                  simp only [Act.put, List.setIfInBounds_toArray, List.set_cons_zero, List.set_cons_succ]
                  refine wpAnyH_done (by kernel_rfl) ?_ _
                  refine KK.out _ _ ?_
                  clear KK KX hHeld
                  have hcv : covB bs told mm 0 = none := by
                    rw [HC.out.same, show mm - k = (mm - (k + 1)) + 1 by omega, covB, HB2.out, if_neg hhd]
                    rfl
                  have hround : (match roundB L home bs with
                    | none => (done, L)
                    | some cs => readB home f (L.next cs.length) (done ++ cs) (bs.drop (cs.length + 2))) = (done, L) := by rw [HRD.out, hcv]
                  clear hcv
                  have HR6 := Lib.hid (HR5.out.on (show Touch (fun _ => False) wr wr.drew from (Touch.refl _ _).drew) (fun _ h => h.elim) hK hp)
                  have HFI := Lib.hid (show R = (done, L) from by rw [HST.out, hround])
                  obtain ⟨A5, c5, he, hch⟩ := HR6.out.chs
                  injection he with he1 he2 he3
                  subst he1 he3
                  have HCH := Lib.hid hch
                  clear hround HST he2 hch
                  go_wp2
                  try rw [Exit.noGoto_ret]
                  go_ret
                  rw [HFI.out]
                  exact ⟨⟨A4, _, c4, xs, rfl, HCH.out, H.out.cgs, H.out.wh⟩, HR6.out.box, HD5.out.drewN 1, HR6.out.touch⟩
              · obtain rfl : k = mm := by omega
                have hnl : ¬ (k : Int) < (k : Int) := by omega
                have hcov : covB bs told k 0 = some cs := by rw [HC.out.same, Nat.sub_self, covB, pre?]; simp
                have HRE := Lib.hid (show roundB L home bs = if sealedOf (L.mk8 2) B2.1 = some [] ∧ rightC home cs = true then some cs else none by rw [HRD.out, hcov, HB2.out])
                have htb := HC.out.tab
                rw [Nat.sub_self, List.replicate_zero, List.append_nil] at htb
                have HSE := Lib.hid (jsealed_says HR5.out.box hL.seq 2 (some ⟨g1, 0, none⟩) ci1 B2.1 (hl1.weak (fun _ _ _ => trivial)))
                have HTB5 := Lib.hid (And.intro htb HC.out.lie)
                have HWR := Lib.hid (show Below wo.heap.size wo wr from HB4.out.trans (HC.out.bel.mono hw4o))
                clear hcov htb hl1 hN1 HRD
                go_wp2_with fail
                refine HSE.out.mono ?_
                rintro e w8 ⟨⟨A3, n3, c3, ok, rfl, hn3, hyes, hno⟩, hb8⟩
                rw [mk8_eq] at hyes hno
                have HR8 := Lib.hid (HR5.out.on (Touch.of_below (K := fun _ => False) hb8) (fun _ h => h.elim) hK hp)
                have HD8 := Lib.hid (HD5.out.below hb8)
                have HW8 := Lib.hid (HWR.out.trans (hb8.mono HWR.out.size))
                have HTB8 := Lib.hid (show Box w8 w4.heap.size 51 (fl chc ys).toArray ∧ ∀ y ∈ ys, y.Ok w8 (fun b => w4.heap.size < b) from ⟨Box.below HTB5.out.1 hb8 HTB5.out.1.lt, fun y hy => by
                  obtain ⟨a, b, cc⟩ := HTB5.out.2 y hy
                  exact ⟨a, b, cc.below hb8⟩⟩)
                clear hb8 HSE HR5 HD5 HTB5 hc1
                cases hso : sealedOf (L.mk8 2) B2.1 with
                | none =>
                  obtain rfl := hno hso
                  have hround : (match roundB L home bs with
                    | none => (done, L)
                    | some cs => readB home f (L.next cs.length) (done ++ cs) (bs.drop (cs.length + 2))) = (done, L) := by rw [HRE.out, hso, if_neg (by simp)]
                  have HFI := Lib.hid (show R = (done, L) from by rw [HST.out, hround])
                  obtain ⟨A5, c5, he, hch⟩ := HR8.out.chs
                  injection he with he1 he2 he3
                  subst he1 he3
                  have HCH := Lib.hid hch
                  clear hround HST he2 hch hyes hno hso
                  go_wp2
                  try rw [Exit.noGoto_ret]
                  go_ret
                  rw [HFI.out]
                  exact ⟨⟨A4, _, c4, xs, rfl, HCH.out, H.out.cgs, H.out.wh⟩, HR8.out.box, HD8.out, HR8.out.touch⟩
                | some b2 =>
                  obtain ⟨rfl, hl2⟩ := hyes b2 hso
                  have hbl : b2.length = n3 := by rw [← bc_length]; exact hl2.len
                  by_cases hz2 : n3 = 0
                  · subst hz2
                    have hb2 : b2 = [] := List.eq_nil_of_length_eq_zero hbl
                    subst hb2
                    have hchs := tab_chs HTB8.out.1 HC.out.len HTB8.out.2
                    have HRT := Lib.hid (jright_says HR8.out.box (by omega) HD8.out (some ⟨w4.heap.size, 0, none⟩) k k ys hchs)
                    have hhm : homeOf D L = home := by
                      rw [← HH.out]
                      unfold homeOf
                      rw [hlg]
                    have hrw : rightB (homeOf D L) ys = rightC home cs := by rw [hhm, right_whole HC.out.wh, HC.out.cg]
                    rw [hrw] at HRT
                    have HCL := Lib.hid (show 1 ≤ k ∨ rightC home cs = false from by
                      cases hq : rightC home cs with
                      | false => exact .inr rfl
                      | true =>
                        left
                        have := (rightB_fits (home := home) (xs := cs.map chOf) hq).1.1
                        rw [List.length_map, ← HC.out.cg, List.length_map, HC.out.len] at this
                        exact this)
                    clear hchs hhm hrw hl2 hyes hno hbl
                    cases hrc : rightC home cs with
                    | false =>
                      rw [hrc] at HRT
                      have hround : (match roundB L home bs with
                        | none => (done, L)
                        | some cs => readB home f (L.next cs.length) (done ++ cs) (bs.drop (cs.length + 2))) = (done, L) := by rw [HRE.out, hrc, if_neg (by simp)]
                      have HFI := Lib.hid (show R = (done, L) from by rw [HST.out, hround])
                      clear hround HST HRE HCL hso hrc
                      go_wp2_with (go_at_call 52; refine HRT.out.mono ?_; rintro e w9 ⟨rfl, hb9⟩; have HB9 := Lib.hid hb9; clear hb9)
                      have HR9 := Lib.hid (HR8.out.on (Touch.of_below (K := fun _ => False) HB9.out) (fun _ h => h.elim) hK hp)
                      obtain ⟨A5, c5, he, hch⟩ := HR9.out.chs
                      injection he with he1 he2 he3
                      subst he1 he3
                      try rw [Exit.noGoto_ret]
                      go_ret
                      rw [HFI.out]
                      exact ⟨⟨A4, _, c4, xs, rfl, hch, H.out.cgs, H.out.wh⟩, HR9.out.box, HD8.out.below HB9.out, HR9.out.touch⟩
                    | true =>
                      rw [hrc] at HRT
                      have hk1 : 1 ≤ k := HCL.out.elim id (fun h => by rw [hrc] at h; cases h)
                      have hlcs : cs.length = k := by rw [← HC.out.cg, List.length_map, HC.out.len]
                      have hres : R = readB home f (L.next k) (done ++ cs) (bs.drop (k + 2)) := by
                        rw [HST.out, HRE.out, hrc, hso, if_pos ⟨rfl, rfl⟩]
                        show readB home f (L.next cs.length) (done ++ cs) (bs.drop (cs.length + 2)) = _
                        rw [hlcs]
                      have HRES := Lib.hid hres
                      clear hres HRE HCL hso hrc
                      go_upto_region 17 with (go_at_call 52; refine HRT.out.mono ?_; rintro e w9 ⟨rfl, hb9⟩; have HB9 := Lib.hid hb9; clear hb9)
                      have HR9 := Lib.hid (HR8.out.on (Touch.of_below (K := fun _ => False) HB9.out) (fun _ h => h.elim) hK hp)
                      have HD9 := Lib.hid (HD8.out.below HB9.out)
                      have HTB9 := Lib.hid (show Box w9 w4.heap.size 51 (fl chc ys).toArray ∧ ∀ y ∈ ys, y.Ok w9 (fun b => w4.heap.size < b) from ⟨Box.below HTB8.out.1 HB9.out HTB8.out.1.lt, fun y hy => by
                        obtain ⟨a, b, cc⟩ := HTB8.out.2 y hy
                        exact ⟨a, b, cc.below HB9.out⟩⟩)
                      have HW9 := Lib.hid (HW8.out.trans (HB9.out.mono HW8.out.size))
                      have hw9 : w.heap.size ≤ w9.heap.size := HR9.out.touch.size
                      have hfew := H.out.few
                      have hflx : (fl chc ys).length = k * 2 := by rw [fl_length chc_length, HC.out.len]
                      clear HR8 HD8 HTB8 HRT HB9 HW8
                      obtain ⟨A', hA'⟩ : ∃ A', cutA (some ⟨gb, o0, none⟩) c (k + 2) = A' := ⟨_, rfl⟩
                      have hcm : m ≤ c := by have := H.out.tab.le; have := HM.out; omega
                      have HSB : ∀ W, (Instr.sliceAt 129 (.slice (some ⟨gb, o0, none⟩) m c) (some (.int .i64 ((k : Int) + 2))) none none).run Tryz.prog W = .ok (.slice A' (m - (k + 2)) (c - (k + 2))) W := fun W => by
                        have := sliceAt_from Tryz.underlying129 (by kernel_rfl) .i64 (some ⟨gb, o0, none⟩) m c (k + 2) (by omega) W
                        rw [show ((k + 2 : Nat) : Int) = (k : Int) + 2 from by omega, hA'] at this
                        exact this
                      go_upto_region 18 with (at_builtin; refine wpList_append_own_at _ rfl _ _ 46 rfl w.heap.size 51 j0 _ 2 32 Tryz.underlying46 hj0 jz0 jz1 jz2 rfl (by decide) (.slice A4 xs.length c4) xs.length (fl chc xs) rfl HR9.out.own ⟨w4.heap.size, 0, none⟩ k k (fl chc ys) rfl hflx (fun j v hv => by rw [Addr.add_mid, Box.cell HTB9.out.1, Nat.zero_add]; simpa using hv) (fl_cells chc_one ys) (by unfold maxLen; omega) (by omega) hw9 ?_; intro v10 w10 ho10 hg10 _ hat10; have HO10 := Lib.hid (And.intro ho10 (And.intro hg10 hat10)); clear ho10 hg10 hat10)
                      obtain ⟨ho10, hg10, hat10⟩ := HO10.out
                      have hown9 := HR9.out.own
                      have hpw9 : p < w9.heap.size := HR9.out.box.lt
                      have hbase : ∀ b, (Value.slice A4 xs.length c4).ownBlock = some b → w.heap.size ≤ b ∧ b < w9.heap.size := World.ownsRow.lt hown9
                      have hvz : ∀ b, (Value.slice A4 xs.length c4).ownBlock = some b → b < w4.heap.size := fun b hb => (World.ownsRow.lt HR4.out.own b hb).2
                      have hbox10 : Box w10 p 81 (lc dp u L) := Box.grown HR9.out.box hg10 (fun e => by have := hbase p e.symm; omega)
                      have ht9 : Touch (fun b => w.heap.size ≤ b) w9 w10 := Touch.of_grown (K := fun b => w.heap.size ≤ b) hg10 (fun b e => (hbase b e).1)
                      have hd10 : Dev w10 K dp D := ht9.dev HD9.out (fun b h1 h2 => by have := hK b h1; omega)
                      have ht10 : Touch (fun k => K k ∨ k = p) w w10 := HR9.out.touch.trans' ht9 (fun b h => .inr h)
                      have htab10 := ht9.lies (H.out.tab.below HW9.out) (fun b hb h => by omega)
                      have hrws10 := (H.out.rws.keep (Touch.of_below (K := fun _ => False) HW9.out) (fun _ _ _ h => h)).keep ht9 (fun b hb _ h => by have := hNw b hb; omega)
                      have hlie10 : ∀ y ∈ xs ++ ys, y.Ok w10 (fun k => w.heap.size ≤ k ∧ v10.ownBlock ≠ some k) := fun y hy => by
                        have hnew : ∀ b, b < w9.heap.size → (Value.slice A4 xs.length c4).ownBlock ≠ some b → v10.ownBlock ≠ some b := fun b hb h e => by
                          rcases hat10 with q | q
                          · exact h (by rw [← q]; exact e)
                          · rw [q] at e
                            injection e with e
                            omega
                        rcases List.mem_append.1 hy with hy | hy
                        · obtain ⟨a, b, cc⟩ := HR9.out.lie y hy
                          refine ⟨a, b, ?_⟩
                          have h1 := cc.weak (N' := fun k => (w.heap.size ≤ k ∧ (Value.slice A4 xs.length c4).ownBlock ≠ some k) ∧ v10.ownBlock ≠ some k) (fun b hb h => ⟨h, hnew b hb h.2⟩)
                          exact (h1.keep (fun q hq hl => World.cell?_of_block (w := w9) (hg10.block q.block hl (fun e => hq.1.2 e.symm))) hg10.size).weak (fun b _ h => ⟨h.1.1, h.2⟩)
                        · obtain ⟨a, b, cc⟩ := HTB9.out.2 y hy
                          refine ⟨a, b, ?_⟩
                          have hne : ∀ b, w4.heap.size < b → (Value.slice A4 xs.length c4).ownBlock ≠ some b := fun b hb e => by have := hvz b e; omega
                          have h1 := cc.weak (N' := fun k => (w.heap.size ≤ k ∧ (Value.slice A4 xs.length c4).ownBlock ≠ some k) ∧ v10.ownBlock ≠ some k) (fun b hb h => ⟨⟨by omega, hne b h⟩, hnew b hb (hne b h)⟩)
                          exact (h1.keep (fun q hq hl => World.cell?_of_block (w := w9) (hg10.block q.block hl (fun e => hq.1.2 e.symm))) hg10.size).weak (fun b _ h => ⟨h.1.1, h.2⟩)
                      have hown10 : w10.ownsRow w.heap.size 51 2 v10 (xs ++ ys).length (fl chc (xs ++ ys)) := by
                        rw [List.length_append, HC.out.len, fl_append]
                        exact ho10
                      obtain ⟨w12, hw12⟩ : ∃ y, (w10.setCell ⟨p, 6, none⟩ (.int .i64 ((L.used : Int) + ((k : Int) + 2)))).setCell ⟨p, 7, none⟩ (.int .u64 ((L.seq : Int) + 1)) = y := ⟨_, rfl⟩
                      have ht12 : Touch (fun k => k = p) w10 w12 := by rw [← hw12]; exact Touch.set (K := fun k => k = p) rfl (Touch.set (K := fun k => k = p) rfl (Touch.refl _ _) _) _
                      have hbox11 := Box.put hbox10 6 (.int .i64 ((L.used : Int) + ((k : Int) + 2)))
                      have hbox12 : Box w12 p 81 (lc dp u (L.next k)) := by
                        rw [← hw12]
                        have := Box.put hbox11 7 (.int .u64 ((L.seq : Int) + 1))
                        simpa [lc, Lg.next] using this
                      have c6 : w10.cell? ⟨p, 6, none⟩ = some (.int .i64 (L.used : Int)) := (Box.cell hbox10 6).trans rfl
                      have f6 := Box.frozen hbox10 6
                      have c7 : (w10.setCell ⟨p, 6, none⟩ (.int .i64 ((L.used : Int) + ((k : Int) + 2)))).cell? ⟨p, 7, none⟩ = some (.int .u64 (L.seq : Int)) := (Box.cell hbox11 7).trans rfl
                      have c7' : w10.cell? ⟨p, 7, none⟩ = some (.int .u64 (L.seq : Int)) := (Box.cell hbox10 7).trans rfl
                      have f7 := Box.frozen hbox11 7
                      have f7' := Box.frozen hbox10 7
                      have HW12 := Lib.hid hw12
                      have hmk : (bs.drop (k + 2)).length = m - (k + 2) := by rw [List.length_drop, HM.out]
                      have HMK := Lib.hid hmk
                      have HRN := Lib.hid (show RIB w K p dp gb NR u home F L0 D bs0 (L.next k) (done ++ cs) (xs ++ ys) f A' (c - (k + 2)) (vs.drop (k + 2)) (bs.drop (k + 2)) v10 w12 from by
                        have hnp : ∀ b, w.heap.size ≤ b → ¬ b = p := fun b hb e => by omega
                        refine ⟨⟨hbox12, ht10.trans (ht12.mono (fun b h => .inr h)), ?_, fun y hy => ?_⟩, ht12.dev hd10 (fun b h1 h2 => hp (h2 ▸ h1)), H.out.head, ?_, ?_, H.out.up, ?_, ?_, ?_, ?_, ?_, ?_, ?_⟩
                        · refine ⟨hown10.1, hown10.2.imp id fun ⟨g, cap, cur, e1, e2, e3, e4⟩ => ⟨g, cap, cur, e1, e2, ?_, e4⟩⟩
                          have hg := World.ownsRow.lt hown10 g (by rw [e1]; rfl)
                          exact (ht12.block g hg.2 (hnp g hg.1)).trans e3
                        · obtain ⟨a, b, cc⟩ := hlie10 y hy
                          exact ⟨a, b, ht12.lies cc (fun b hb => hnp b hb.1)⟩
                        · show ((L.used + (k + 2) : Nat) : Int) + ((bs.drop (k + 2)).length : Int) ≤ L.h.log
                          rw [hmk]
                          omega
                        · show L.seq + 1 ≤ L0.seq + (L.used + (k + 2))
                          have := H.out.seq
                          omega
                        · rw [List.map_append, H.out.cgs, HC.out.cg]
                        · intro y hy
                          rcases List.mem_append.1 hy with hy | hy
                          · exact H.out.wh y hy
                          · exact HC.out.wh y hy
                        · rw [HRR.out, ← HRES.out]
                        · rw [hmk]
                          have := H.out.fuel
                          have := HM.out
                          omega
                        · rw [List.length_append, HC.out.len]
                          show xs.length + k ≤ L.used + (k + 2)
                          omega
                        · have h1 := htab10.from (k + 2) (by rw [HM.out]; omega)
                          rw [hA', ← List.map_drop, HM.out] at h1
                          rw [hmk]
                          exact ht12.lies h1 (fun b hb h => hgp (by omega))
                        · exact (hrws10.drop (k + 2)).keep ht12 (fun b hb _ h => hNp b hb h))
                      have q8 : IntKind.i64.wrap ((k : Int) + 2) = (k : Int) + 2 := IntWalk.i64_in _ (by omega)
                      have q9 : IntKind.i64.wrap ((L.used : Int) + ((k : Int) + 2)) = (L.used : Int) + ((k : Int) + 2) := IntWalk.i64_in _ (by omega)
                      have hsq1 : (L.seq : Int) + 1 ≤ 18446744073709551615 := by have := H.out.seq; omega
                      have q10 : IntKind.u64.wrap ((L.seq : Int) + 1) = (L.seq : Int) + 1 := by rw [IntKind.wrap_u64]; omega
                      have hmlt : m - (k + 2) < m := by omega
                      clear ho10 hg10 hat10 hown9 hbase hvz hbox10 hd10 ht9 ht10 htab10 hrws10 hlie10 hown10 hw12 ht12 hbox11 hbox12 hsq1 hmk
                      go_wp2
                      rw [HW12.out]
                      go_roundw
                      case rel => exact ⟨L.next k, done ++ cs, xs ++ ys, f, A', c - (k + 2), vs.drop (k + 2), bs.drop (k + 2), by rw [HMK.out], HRN⟩
                      case measure => exact hmlt
                  · have hround : (match roundB L home bs with
                      | none => (done, L)
                      | some cs => readB home f (L.next cs.length) (done ++ cs) (bs.drop (cs.length + 2))) = (done, L) := by
                      rw [HRE.out, hso, if_neg]
                      rintro ⟨h, _⟩
                      injection h with h
                      rw [h] at hbl
                      exact hz2 hbl.symm
                    have y0 : 0 < n3 := by omega
                    have g0'' : (0 : Int) < (n3 : Int) := by omega
                    have HFI := Lib.hid (show R = (done, L) from by rw [HST.out, hround])
                    obtain ⟨A5, c5, he, hch⟩ := HR8.out.chs
                    injection he with he1 he2 he3
                    subst he1 he3
                    have HCH := Lib.hid hch
                    clear hround HST he2 hch hyes hno hso
                    go_wp2
                    try rw [Exit.noGoto_ret]
                    go_ret
                    rw [HFI.out]
                    exact ⟨⟨A4, _, c4, xs, rfl, HCH.out, H.out.cgs, H.out.wh⟩, HR8.out.box, HD8.out, HR8.out.touch⟩
        · have l3 : ((n : Int) % 3 != 0) = true := by rw [bne_iff_ne]; omega
          have hround : (match roundB L home bs with
              | none => (done, L)
              | some cs => readB home f (L.next cs.length) (done ++ cs) (bs.drop (cs.length + 2))) = (done, L) := by
            rw [roundB, HNN.out, hso]
            simp only
            rw [if_pos (by rw [HTL.out]; left; exact h3)]
          have HFI := Lib.hid (show R = (done, L) from by rw [HST.out, hround])
          obtain ⟨A5, c5, he, hch⟩ := HR4.out.chs
          injection he with he1 he2 he3
          subst he1 he3
          have HCH := Lib.hid hch
          clear hround HST he2 hch hso
          go_wp2
          try rw [Exit.noGoto_ret]
          go_ret
          rw [HFI.out]
          exact ⟨⟨A4, _, c4, xs, rfl, HCH.out, H.out.cgs, H.out.wh⟩, HR4.out.box, HD4.out, HR4.out.touch⟩
    · have hfin : R = (done, L) := by
        rw [← HRR.out, H.out.same]
        cases f with
        | zero => rfl
        | succ f => rw [readB, if_neg (by rw [HM.out]; omega)]
      have HFI := Lib.hid hfin
      obtain ⟨A4, c4, hv4, hch⟩ := H.out.rb.chs
      subst hv4
      have HCH := Lib.hid hch
      clear hfin hch
      go_wp2_with fail
      try rw [Exit.noGoto_ret]
      go_ret
      rw [HFI.out]
      exact ⟨⟨A4, _, c4, xs, rfl, HCH.out, H.out.cgs, H.out.wh⟩, H.out.rb.box, H.out.dev, H.out.rb.touch⟩
end
end Go.Proofs.YtnhondkdkjehaaaGreat
