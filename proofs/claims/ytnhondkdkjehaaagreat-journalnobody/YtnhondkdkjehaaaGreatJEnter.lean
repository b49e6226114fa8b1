/-
  enter: the next transaction is written, where no place of it that is to be sealed is noted.
-/
import Derived.Test.YtnhondkdkjehaaaGreatSlP
import Derived.Deep.DeepCutAuto
import Derived.Deep.CutBlock
namespace Go.Proofs.YtnhondkdkjehaaaGreat
open Go.RowKit

set_option linter.unusedVariables false
set_option linter.unusedSimpArgs false
/-- What the writing loop keeps to. -/
structure E2 (K : Nat → Prop) (dp p : Nat) (u : Value × Value) (L : Lg) (last : Nat) (D : Dv) (bs : List Bk) (w2 : World) (j : Nat) (wq : World) (D' : Dv) : Prop where
  same : wrTo L last 0 bs D = wrTo L last j (bs.drop j) D'
  dev : Dev wq K dp D'
  touch : Touch K w2 wq
  box : Box wq p 81 (lc dp u L)
  len : D'.bs.length = D.bs.length
  ops : D'.ops ≤ D.ops + 2 * j
/-- What the noting loop keeps to. -/
structure E3 (K : Nat → Prop) (dp p ma : Nat) (u : Value) (L : Lg) (q : Nat) (J : Nat → Prop) (al : Nat → Option Bk) (bs : List Bk) (D : Dv) (w2 : World) (j : Nat) (wq : World) : Prop where
  dev : Dev wq K dp D
  touch : Touch (fun b => K b ∨ b = ma) w2 wq
  box : Box wq p 81 (lc dp (u, .map (some ma)) L)
  wet : ∃ al', WetAt wq ma J (q + j) al' ∧ mindsL L al 0 bs = mindsL L al' j (bs.drop j)
section
variable {w : World} {K : Nat → Prop} {p dp ma q : Nat} {u : Value} {J : Nat → Prop} {al : Nat → Option Bk} {L : Lg} {D : Dv}
set_option maxRecDepth 100000 in
set_option maxHeartbeats 8000000 in
theorem jenter_none (hb : Box w p 81 (lc dp (u, .map (some ma)) L)) (hL : L.Ok) (hp : ¬ K p) (hmK : ¬ K ma) (hpm : p ≠ ma) (hd : Dev w K dp D) (hK : ∀ k, w.heap.size ≤ k → K k) (N : Nat → Prop)
    (A : Option Addr) (n c : Nat) (xs : List Ch) (hx : Chs w N A n c xs) (hfit : ∀ x ∈ xs, (0 ≤ x.n ∧ x.n < 65536) ∧ x.b.length = 256) (hn : 1 ≤ n ∧ n ≤ 70) (hroom : 2 + L.h.log.toNat ≤ D.bs.length) (ho : D.ops + 2 * n ≤ 80000)
    (hw : WetAt w ma J q al) (hq : q ≤ 90000) (hmJ : ¬ J ma) (hJw : ∀ b, J b → b < w.heap.size ∧ ¬ K b) (h0 : al (L.place 0) = none) (h1 : al (L.place (n + 1)) = none) :
    Calls Tryz.prog 53 #[.pointer (some ⟨p, 0, none⟩), .slice A n c] w fun e w' => e = .returned (.int .i64 (enterB L (xs.map Ch.cg) D).1) ∧ Touch (fun b => K b ∨ b = ma) w w' ∧ Box w' p 81 (lc dp (u, .map (some ma)) L) ∧
      ∃ M, w.heap.size ≤ M ∧ M ≤ w'.heap.size ∧ Dev w' (fun b => (K b ∧ b < w.heap.size) ∨ M ≤ b) dp (enterB L (xs.map Ch.cg) D).2 ∧
        ((enterB L (xs.map Ch.cg) D).1 = 0 → WetAt w' ma (fun b => J b ∨ (w.heap.size ≤ b ∧ b < M)) (q + (n + 2)) (mindsL L al 0 (placesL L (xs.map Ch.cg)))) := by
  have hxl : xs.length = n := hx.1
  have hmost := hd.1.most
  have hlog0 := hL.log0
  have hlog1 := hL.log1
  have hpw := hb.lt
  have hmw := hw.lt
  have HPL := Lib.hid (jplaces_says hb hL N A n c xs hx hfit hn)
  obtain ⟨bs, hbs⟩ : ∃ bs, placesL L (xs.map Ch.cg) = bs := ⟨_, rfl⟩
  have hbl : bs.length = n + 2 := by rw [← hbs, placesL_length, List.length_map, hxl]
  obtain ⟨R, hR⟩ : ∃ R, enterB L (xs.map Ch.cg) D = R := ⟨_, rfl⟩
  have HR := Lib.hid (show andThen (wrTo L (n + 1) 0 bs D) flushTo = R by rw [← hR, enterB, List.length_map, hxl, hbs])
  rw [hR, hbs]
  rw [hbs] at HPL
  have HB := Lib.hid hb
  have HL := Lib.hid hL
  have HD := Lib.hid hd
  have HW := Lib.hid hw
  have H01 := Lib.hid (And.intro h0 h1)
  have HJ := Lib.hid hJw
  clear hb hL hd hw hx hfit h0 h1 hJw hR hbs
  go_enter Tryz.func53, Tryz.ntmps53
  go_wp2_with fail
  refine HPL.out.mono ?_
  rintro e w1 ⟨gp, cap, vs, rfl, hgp, htab, hrws, hb1⟩
  have H1 := Lib.hid (And.intro htab (And.intro hrws hb1))
  have hw1 := hb1.size
  clear htab hrws hb1 HPL
  obtain ⟨w2, hw2⟩ : ∃ y, w1.alloc (.cells #[.int .i64 0, .int .i64 ((n : Int) + 1)] 3) = y := ⟨_, rfl⟩
  have hm2 : Box w2 w1.heap.size 3 #[.int .i64 0, .int .i64 ((n : Int) + 1)] := by rw [← hw2]; exact Box.made w1 _ _
  have hb2 : Below w1.heap.size w1 w2 := by rw [← hw2]; exact (Below.refl _ w1).alloc (Nat.le_refl _) _
  have hB2 : Below w.heap.size w w2 := H1.out.2.2.trans (hb2.mono hw1)
  have HBL := Lib.hid (jblank_none (HB.out.below hB2 HB.out.lt) HL.out (HW.out.touch (Touch.of_below (K := fun _ => False) hB2) (fun q => q) (fun _ _ q => q)) w1.heap.size (n + 1) (by omega) hm2.lt ((Box.cell hm2 0).trans rfl) ((Box.cell hm2 1).trans rfl) H01.out.1 H01.out.2 (some ⟨gp, 0, none⟩) (n + 2) cap)
  have H2 := Lib.hid (And.intro hB2 hb2)
  have e1 : IntKind.i64.wrap ((n : Int) + 2 - 1) = (n : Int) + 1 := by rw [IntWalk.i64_in _ (by omega)]; omega
  have e2 : (n : Int) + 2 - 1 = (n : Int) + 1 := by omega
  have e3 : IntKind.i64.wrap ((n : Int) + 1) = (n : Int) + 1 := IntWalk.i64_in _ (by omega)
  clear hm2 hb2 hB2
  go_wp2_with fail
  refine HBL.out.mono ?_
  rintro e w3 ⟨rfl, hb3⟩
  have hB3 : Below w.heap.size w w3 := H2.out.1.trans (hb3.mono H2.out.1.size)
  have hb13 : Below w1.heap.size w1 w3 := H2.out.2.trans (hb3.mono H2.out.2.size)
  have hw13 := hb13.size
  have hgp1 : gp < w1.heap.size := by
    obtain ⟨ad, q1, q2, q3, _⟩ := H1.out.1.2.2 (by omega)
    injection q1 with q1
    subst q1
    exact q3
  have hKp : ¬ Since K w w3 p := fun h => h.elim (fun q => hp q.1) (fun q => by omega)
  have hKm : ¬ Since K w w3 ma := fun h => h.elim (fun q => hmK q.1) (fun q => by omega)
  have hKs : ∀ q, w3.heap.size ≤ q → Since K w w3 q := fun q hq => .inr hq
  have hKn : ∀ q, w.heap.size ≤ q → q < w3.heap.size → ¬ Since K w w3 q := fun q h1 h2 h => h.elim (fun z => by omega) (fun z => by omega)
  have HE := Lib.hid (show E2 (Since K w w3) dp p (u, .map (some ma)) L (n + 1) D bs w3 0 w3 D from
    ⟨rfl, HD.out.since hB3, Touch.refl _ _, HB.out.below hB3 HB.out.lt, rfl, by omega⟩)
  have H3 := Lib.hid (And.intro hB3 (And.intro hb13 ((H1.out.2.1.keep (Touch.of_below (K := fun _ => False) hb13) (fun _ _ _ h => h)).weak2 H1.out.2.1 (N' := fun b => w.heap.size ≤ b ∧ b < w3.heap.size) (fun b hb h => ⟨h.1, by omega⟩))))
  have hvl : vs.length = n + 2 := by rw [H1.out.2.1.1, hbl]
  have HTC := Lib.hid (fun (k : Nat) (v : Nat × Nat) (hv : vs[k]? = some v) => show w3.cell? ⟨gp, k, none⟩ = some (rwc v) from by
    obtain ⟨b', off, hA, _, hbb, hc⟩ := H1.out.1.at (j := k) (u := rwc v) (by simp [hv])
    injection hA with hA
    injection hA with hA1 hA2
    subst hA1 hA2
    rw [Nat.zero_add] at hc
    exact (hb13.cell (p := ⟨gp, k, none⟩) hgp1).trans hc)
  have HLW := Lib.hid (fun (W : World) (ht : Touch (Since K w w3) w3 W) => show Touch (fun b => K b ∨ b = ma) w W from (Touch.of_below hB3).trans' ht (fun b h => h.elim (fun z => .inl (.inl z.1)) (fun z => .inr (by have := hB3.size; omega))))
  have hBs := hB3.size
  clear hB3 hb3 hb13 HBL
  go_wp2_with fail
  go_loopw [38] (fun i wr => ∃ (k : Nat) (D' : Dv), i = .int .i64 (k : Int) ∧ k ≤ n + 2 ∧ Hid (E2 (Since K w w3) dp p (u, .map (some ma)) L (n + 1) D bs w3 k wr D')) (fun i _ => n + 2 - (intOf i).toNat)
  case atStart => exact ⟨0, D, rfl, by omega, HE⟩
  case round =>
    clear HE
    obtain ⟨k, D', rfl, hk, H⟩ := hrel
    have hlenD := H.out.len
    have hopsD := H.out.ops
    by_cases hkn : k < n + 2
    · have hkn' : (k : Int) < (n : Int) + 2 := by omega
      obtain ⟨v, hv⟩ : ∃ v, vs[k]? = some v := ⟨_, List.getElem?_eq_getElem (by omega)⟩
      obtain ⟨bk, hbk⟩ : ∃ b, bs[k]? = some b := ⟨_, List.getElem?_eq_getElem (by omega)⟩
      obtain ⟨gk, ck⟩ := v
      obtain ⟨nn, hnn⟩ : ∃ m, L.place k = m := ⟨_, rfl⟩
      have hplt := place_lt HL.out k
      have hin : nn < D'.bs.length := by rw [hlenD, ← hnn]; omega
      have HNN := Lib.hid hnn
      have hct : wr.cell? ⟨gp, k, none⟩ = some (.slice (some ⟨gk, 0, none⟩) 256 ck) := (World.cell?_of_block (w := w3) (H.out.touch.block gp (by omega) (hKn gp hgp (by omega)))).trans (HTC.out k (gk, ck) hv)
      obtain ⟨hgk, hlk⟩ := (H3.out.2.2.keep H.out.touch (fun b hb _ => hKn b hb.1 hb.2)).2 k (gk, ck) bk hv hbk
      have HRW := Lib.hid (And.intro (hKn gk hgk.1 hgk.2) hlk)
      have HBK := Lib.hid (drop_cons bs k bk hbk)
      have hcp : wr.cell? ⟨p, 0, none⟩ = some (.pointer (some ⟨dp, 0, none⟩)) := (Box.cell H.out.box 0).trans rfl
      clear hplt hlk hgk hv hbk
      by_cases hkl : k = n + 1
      · subst hkl
        have HFL := Lib.hid (flush_says H.out.dev (by omega))
        obtain ⟨F, hF⟩ : ∃ F, flushTo D' = F := ⟨_, rfl⟩
        have hFor : F.1 = 0 ∨ F.1 = 17 := by rw [← hF]; exact flushTo_or D'
        have hFlen : F.2.bs.length = D'.bs.length := by rw [← hF]; exact flushTo_len D'
        have hFops : F.2.ops = D'.ops + 1 := by rw [← hF]; exact flushTo_ops D'
        rw [hF] at HFL
        have hst : wrTo L (n + 1) (n + 1) (bs.drop (n + 1)) D' = andThen F fun D1 => andThen (writeTo D1 nn bk) fun D2 => wrTo L (n + 1) (n + 1 + 1) (bs.drop (n + 1 + 1)) D2 := by rw [HBK.out, wrTo, if_pos rfl, hF, HNN.out]
        have HST := Lib.hid hst
        obtain ⟨a1, D1⟩ := F
        simp only at hFor hFlen hFops
        clear hst hF
        go_upto_region 13 with (go_at_call 83; refine HFL.out.mono ?_; rintro e w4 ⟨rfl, hd4, ht4⟩; have H4 := Lib.hid (And.intro hd4 ht4); clear hd4 ht4)
        rcases hFor with rfl | rfl
        · have hx4 := H4.out.2.box H.out.box hKp
          have HX4 := Lib.hid hx4
          have hl4 := H4.out.2.lies HRW.out.2 (fun b hb => hb ▸ HRW.out.1)
          have HRW4 := Lib.hid (And.intro HRW.out.1 hl4)
          have hcp4 : w4.drew.cell? ⟨p, 0, none⟩ = some (.pointer (some ⟨dp, 0, none⟩)) := (Box.cell (show Box w4.drew p _ _ from hx4) 0).trans rfl
          clear hx4 hl4 HRW hcp hct
          obtain ⟨HRW, hHR⟩ : ∃ q, q = HRW4 := ⟨_, rfl⟩
          clear hHR HRW4
          go_upto_region 15 with fail
          rename_i KX kx
          have KK := Lib.hid kx
          clear kx
          refine wp_region_held_drew (S := fun x => x.cell? ⟨p, 0, none⟩ = some (.pointer (some ⟨dp, 0, none⟩))) (by kernel_rfl) hcp4 (fun hHeld => ?_)
          refine take_run 0 54 (v := ?_) rfl rfl (by kernel_rfl) (by kernel_rfl) (by kernel_rfl) (fun _ _ _ h => h) (by rfl) ?_ (by assumption) ?_
          rotate_left
          · (intro wq hSw; obtain hS1 := hSw; go_simp; first | done | with_reducible rfl)
          simp only [Act.put, List.setIfInBounds_toArray, List.set_cons_zero, List.set_cons_succ]
          refine take_run 1 55 (v := ?_) rfl rfl (by kernel_rfl) (by kernel_rfl) (by kernel_rfl) (fun _ _ _ h => h) (by rfl) ?_ (by assumption) ?_
          rotate_left
          · (intro wq hSw; obtain hS1 := hSw; go_simp; first | done | with_reducible rfl)
          simp only [Act.put, List.setIfInBounds_toArray, List.set_cons_zero, List.set_cons_succ]
          refine take_run 2 56 (v := ?_) rfl rfl (by kernel_rfl) (by kernel_rfl) (by kernel_rfl) (fun _ _ _ h => h) (by rfl) ?_ (by assumption) ?_
          rotate_left
          · (intro wq hSw; obtain hS1 := hSw; go_simp; first | done | with_reducible rfl)
          simp only [Act.put, List.setIfInBounds_toArray, List.set_cons_zero, List.set_cons_succ]
          refine take_run 3 57 (v := ?_) rfl rfl (by kernel_rfl) (by kernel_rfl) (by kernel_rfl) (fun _ _ _ h => h) (by rfl) ?_ (by assumption) ?_
          rotate_left
          · (intro wq hSw; obtain hS1 := hSw; go_simp; first | done | with_reducible rfl)
          simp only [Act.put, List.setIfInBounds_toArray, List.set_cons_zero, List.set_cons_succ]
          refine take_run 4 58 (v := ?_) rfl rfl (by kernel_rfl) (by kernel_rfl) (by kernel_rfl) (fun _ _ _ h => h) (by rfl) ?_ (by assumption) ?_
          rotate_left
          · (intro wq hSw; obtain hS1 := hSw; go_simp; first | done | with_reducible rfl)
          simp only [Act.put, List.setIfInBounds_toArray, List.set_cons_zero, List.set_cons_succ]
          refine take_run 5 59 (v := ?_) rfl rfl (by kernel_rfl) (by kernel_rfl) (by kernel_rfl) (fun _ _ _ h => h) (by rfl) ?_ (by assumption) ?_
          rotate_left
          · (intro wq hSw; obtain hS1 := hSw; go_simp; first | done | with_reducible rfl)
          simp only [Act.put, List.setIfInBounds_toArray, List.set_cons_zero, List.set_cons_succ]
          refine take_run 7 61 (v := ?_) rfl rfl (by kernel_rfl) (by kernel_rfl) (by kernel_rfl) (fun _ _ _ h => h) (by rfl) ?_ (by assumption) ?_
          rotate_left
          · (intro wq hSw; obtain hS1 := hSw; go_simp; first | done | with_reducible rfl)
          simp only [Act.put, List.setIfInBounds_toArray, List.set_cons_zero, List.set_cons_succ]
          refine wpAnyH_ready (rs := [6]) (by kernel_rfl) (by simp) ?_
          refine AllReadyH.cons rfl (fun K0 hK => ?_) AllReadyH.nil
          go_simp
          refine (jplace_says (w := w4.drew) (L := L) HX4.out HL.out (n + 1) (by omega)).mono ?_
          rintro e w5 ⟨rfl, hb5⟩
          rw [HNN.out]
          have hb5 : Below w4.heap.size w4 w5 := ⟨hb5.os, hb5.tape, hb5.output, hb5.size, hb5.block⟩
          have hx5 := HX4.out.below hb5 HX4.out.lt
          have H5 := Lib.hid (And.intro hb5 (And.intro hx5 (H4.out.1.below hb5)))
          refine hK.out _ _ ((Box.cell hx5 0).trans rfl) (fun hHeld => ?_)
          clear hK K0 hb5 hx5
          try simp only [Act.put, List.setIfInBounds_toArray, List.set_cons_zero, List.set_cons_succ]
          refine wpAnyH_ready (rs := [8]) (by kernel_rfl) (by simp) ?_
          refine AllReadyH.cons rfl (fun K0 hK => ?_) AllReadyH.nil
          go_simp
          refine (write_says H5.out.2.2 (fun q hq => hKs q (by have := H5.out.1.size; have := H.out.touch.size; have := H4.out.2.size; omega)) (by omega) nn (by omega) (fun b => b = gk) (some ⟨gk, 0, none⟩) ck bk (HRW.out.2.below H5.out.1) (fun b hb => hb ▸ HRW.out.1)).mono ?_
          rintro e w6 ⟨rfl, hd6, ht6⟩
          have hx6 := ht6.box H5.out.2.1 hKp
          have H6 := Lib.hid (And.intro hd6 (And.intro ((Touch.of_below H5.out.1).trans ht6) hx6))
          refine hK.out _ _ ((Box.cell hx6 0).trans rfl) (fun hHeld => ?_)
          clear hK K0 hd6 ht6 hx6
          try simp only [Act.put, List.setIfInBounds_toArray, List.set_cons_zero, List.set_cons_succ]
          refine take_run 9 12 (v := ?_) rfl rfl (by kernel_rfl) (by kernel_rfl) (by kernel_rfl) (fun _ _ _ h => h) (by rfl) ?_ (by assumption) ?_
          rotate_left
          · (intro wq hSw; obtain hS1 := hSw; go_simp; first | done | with_reducible rfl)
          simp only [Act.put, List.setIfInBounds_toArray, List.set_cons_zero, List.set_cons_succ]
          refine wpAnyH_done (by kernel_rfl) ?_ _
          refine KK.out _ _ ?_
          clear KK KX hHeld H5
          obtain ⟨W, hW⟩ : ∃ W, writeTo D1 nn bk = W := ⟨_, rfl⟩
          have hWor : W.1 = 0 ∨ W.1 = 17 := by rw [← hW]; exact writeTo_or _ _ _
          have hWlen : W.2.bs.length = D1.bs.length := by rw [← hW]; exact writeTo_len _ _ _
          have hWops : W.2.ops = D1.ops + 1 := by rw [← hW]; exact writeTo_ops _ _ _
          have HWW := Lib.hid hW
          rw [hW] at H6 ⊢
          obtain ⟨a2, D2⟩ := W
          simp only at hWor hWlen hWops H6 ⊢
          clear hW
          rcases hWor with rfl | rfl
          · go_wp2_with fail
            go_roundw
            case rel => exact ⟨(n + 1) + 1, D2, by go_num, by omega, Lib.hid ⟨by rw [H.out.same, HST.out]; simp [andThen, HWW.out], H6.out.1, (H.out.touch.trans H4.out.2).trans H6.out.2.1, H6.out.2.2, by omega, by omega⟩⟩
            case measure => simp [intOf]; omega
          · go_wp2_with fail
            go_ret
            have hr : R = (17, D2) := by rw [← HR.out, H.out.same, HST.out]; simp [andThen, HWW.out]
            rw [hr]
            exact ⟨rfl, HLW.out _ ((H.out.touch.trans H4.out.2).trans H6.out.2.1), H6.out.2.2, w3.heap.size, hBs, ((H.out.touch.trans H4.out.2).trans H6.out.2.1).size, H6.out.1, (fun h => (by simp at h))⟩
        · go_wp2_with fail
          go_ret
          have hr : R = (17, D1) := by rw [← HR.out, H.out.same, HST.out]; simp [andThen]
          rw [hr]
          exact ⟨rfl, HLW.out _ (H.out.touch.trans H4.out.2), H4.out.2.box H.out.box hKp, w3.heap.size, hBs, (H.out.touch.trans H4.out.2).size, H4.out.1, (fun h => (by simp at h))⟩
      · have hkl' : ¬ (k : Int) = (n : Int) + 1 := by omega
        have HST := Lib.hid (show wrTo L (n + 1) k (bs.drop k) D' = andThen (writeTo D' nn bk) fun D2 => wrTo L (n + 1) (k + 1) (bs.drop (k + 1)) D2 by rw [HBK.out, wrTo, if_neg hkl, HNN.out]; rfl)
        have hcp4 : wr.drew.cell? ⟨p, 0, none⟩ = some (.pointer (some ⟨dp, 0, none⟩)) := (Box.cell (show Box wr.drew p _ _ from H.out.box) 0).trans rfl
        go_upto_region 15 with fail
        rename_i KX kx
        have KK := Lib.hid kx
        clear kx
        refine wp_region_held_drew (S := fun x => x.cell? ⟨p, 0, none⟩ = some (.pointer (some ⟨dp, 0, none⟩))) (by kernel_rfl) hcp4 (fun hHeld => ?_)
        refine take_run 0 54 (v := ?_) rfl rfl (by kernel_rfl) (by kernel_rfl) (by kernel_rfl) (fun _ _ _ h => h) (by rfl) ?_ (by assumption) ?_
        rotate_left
        · (intro wq hSw; obtain hS1 := hSw; go_simp; first | done | with_reducible rfl)
        simp only [Act.put, List.setIfInBounds_toArray, List.set_cons_zero, List.set_cons_succ]
        refine take_run 1 55 (v := ?_) rfl rfl (by kernel_rfl) (by kernel_rfl) (by kernel_rfl) (fun _ _ _ h => h) (by rfl) ?_ (by assumption) ?_
        rotate_left
        · (intro wq hSw; obtain hS1 := hSw; go_simp; first | done | with_reducible rfl)
        simp only [Act.put, List.setIfInBounds_toArray, List.set_cons_zero, List.set_cons_succ]
        refine take_run 2 56 (v := ?_) rfl rfl (by kernel_rfl) (by kernel_rfl) (by kernel_rfl) (fun _ _ _ h => h) (by rfl) ?_ (by assumption) ?_
        rotate_left
        · (intro wq hSw; obtain hS1 := hSw; go_simp; first | done | with_reducible rfl)
        simp only [Act.put, List.setIfInBounds_toArray, List.set_cons_zero, List.set_cons_succ]
        refine take_run 3 57 (v := ?_) rfl rfl (by kernel_rfl) (by kernel_rfl) (by kernel_rfl) (fun _ _ _ h => h) (by rfl) ?_ (by assumption) ?_
        rotate_left
        · (intro wq hSw; obtain hS1 := hSw; go_simp; first | done | with_reducible rfl)
        simp only [Act.put, List.setIfInBounds_toArray, List.set_cons_zero, List.set_cons_succ]
        refine take_run 4 58 (v := ?_) rfl rfl (by kernel_rfl) (by kernel_rfl) (by kernel_rfl) (fun _ _ _ h => h) (by rfl) ?_ (by assumption) ?_
        rotate_left
        · (intro wq hSw; obtain hS1 := hSw; go_simp; first | done | with_reducible rfl)
        simp only [Act.put, List.setIfInBounds_toArray, List.set_cons_zero, List.set_cons_succ]
        refine take_run 5 59 (v := ?_) rfl rfl (by kernel_rfl) (by kernel_rfl) (by kernel_rfl) (fun _ _ _ h => h) (by rfl) ?_ (by assumption) ?_
        rotate_left
        · (intro wq hSw; obtain hS1 := hSw; go_simp; first | done | with_reducible rfl)
        simp only [Act.put, List.setIfInBounds_toArray, List.set_cons_zero, List.set_cons_succ]
        refine take_run 7 61 (v := ?_) rfl rfl (by kernel_rfl) (by kernel_rfl) (by kernel_rfl) (fun _ _ _ h => h) (by rfl) ?_ (by assumption) ?_
        rotate_left
        · (intro wq hSw; obtain hS1 := hSw; go_simp; first | done | with_reducible rfl)
        simp only [Act.put, List.setIfInBounds_toArray, List.set_cons_zero, List.set_cons_succ]
        refine wpAnyH_ready (rs := [6]) (by kernel_rfl) (by simp) ?_
        refine AllReadyH.cons rfl (fun K0 hK => ?_) AllReadyH.nil
        go_simp
        refine (jplace_says (w := wr.drew) (L := L) H.out.box HL.out k (by omega)).mono ?_
        rintro e w5 ⟨rfl, hb5⟩
        rw [HNN.out]
        have hb5 : Below wr.heap.size wr w5 := ⟨hb5.os, hb5.tape, hb5.output, hb5.size, hb5.block⟩
        have hx5 := H.out.box.below hb5 H.out.box.lt
        have H5 := Lib.hid (And.intro hb5 (And.intro hx5 (H.out.dev.below hb5)))
        refine hK.out _ _ ((Box.cell hx5 0).trans rfl) (fun hHeld => ?_)
        clear hK K0 hb5 hx5
        try simp only [Act.put, List.setIfInBounds_toArray, List.set_cons_zero, List.set_cons_succ]
        refine wpAnyH_ready (rs := [8]) (by kernel_rfl) (by simp) ?_
        refine AllReadyH.cons rfl (fun K0 hK => ?_) AllReadyH.nil
        go_simp
        refine (write_says H5.out.2.2 (fun q hq => hKs q (by have := H5.out.1.size; have := H.out.touch.size;  omega)) (by omega) nn (by omega) (fun b => b = gk) (some ⟨gk, 0, none⟩) ck bk (HRW.out.2.below H5.out.1) (fun b hb => hb ▸ HRW.out.1)).mono ?_
        rintro e w6 ⟨rfl, hd6, ht6⟩
        have hx6 := ht6.box H5.out.2.1 hKp
        have H6 := Lib.hid (And.intro hd6 (And.intro ((Touch.of_below H5.out.1).trans ht6) hx6))
        refine hK.out _ _ ((Box.cell hx6 0).trans rfl) (fun hHeld => ?_)
        clear hK K0 hd6 ht6 hx6
        try simp only [Act.put, List.setIfInBounds_toArray, List.set_cons_zero, List.set_cons_succ]
        refine take_run 9 12 (v := ?_) rfl rfl (by kernel_rfl) (by kernel_rfl) (by kernel_rfl) (fun _ _ _ h => h) (by rfl) ?_ (by assumption) ?_
        rotate_left
        · (intro wq hSw; obtain hS1 := hSw; go_simp; first | done | with_reducible rfl)
        simp only [Act.put, List.setIfInBounds_toArray, List.set_cons_zero, List.set_cons_succ]
        refine wpAnyH_done (by kernel_rfl) ?_ _
        refine KK.out _ _ ?_
        clear KK KX hHeld H5
        obtain ⟨W, hW⟩ : ∃ W, writeTo D' nn bk = W := ⟨_, rfl⟩
        have hWor : W.1 = 0 ∨ W.1 = 17 := by rw [← hW]; exact writeTo_or _ _ _
        have hWlen : W.2.bs.length = D'.bs.length := by rw [← hW]; exact writeTo_len _ _ _
        have hWops : W.2.ops = D'.ops + 1 := by rw [← hW]; exact writeTo_ops _ _ _
        have HWW := Lib.hid hW
        rw [hW] at H6 ⊢
        obtain ⟨a2, D2⟩ := W
        simp only at hWor hWlen hWops H6 ⊢
        clear hW
        rcases hWor with rfl | rfl
        · go_wp2_with fail
          go_roundw
          case rel => exact ⟨k + 1, D2, by go_num, by omega, Lib.hid ⟨by rw [H.out.same, HST.out]; simp [andThen, HWW.out], H6.out.1, H.out.touch.trans H6.out.2.1, H6.out.2.2, by omega, by omega⟩⟩
          case measure => simp [intOf]; omega
        · go_wp2_with fail
          go_ret
          have hr : R = (17, D2) := by rw [← HR.out, H.out.same, HST.out]; simp [andThen, HWW.out]
          rw [hr]
          exact ⟨rfl, HLW.out _ (H.out.touch.trans H6.out.2.1), H6.out.2.2, w3.heap.size, hBs, (H.out.touch.trans H6.out.2.1).size, H6.out.1, (fun h => (by simp at h))⟩
    · obtain rfl : k = n + 2 := by omega
      have hnl : ¬ ((n + 2 : Nat) : Int) < (n : Int) + 2 := by omega
      have HFL := Lib.hid (flush_says H.out.dev (by omega))
      obtain ⟨F, hF⟩ : ∃ F, flushTo D' = F := ⟨_, rfl⟩
      have hFor : F.1 = 0 ∨ F.1 = 17 := by rw [← hF]; exact flushTo_or D'
      have hr : R = F := by
        rw [← HR.out, H.out.same, List.drop_of_length_le (by omega), wrTo, andThen, if_pos rfl, hF]
      subst hr
      rw [hF] at HFL
      have hcp : wr.cell? ⟨p, 0, none⟩ = some (.pointer (some ⟨dp, 0, none⟩)) := (Box.cell H.out.box 0).trans rfl
      clear hF
      go_upto_region 20 with (go_at_call 83; refine HFL.out.mono ?_; rintro e w4 ⟨rfl, hd4, ht4⟩; have H4 := Lib.hid (And.intro hd4 ht4); clear hd4 ht4)
      obtain ⟨a1, D1⟩ := R
      simp only at hFor
      have HT4 := Lib.hid (H.out.touch.trans H4.out.2)
      have HX4 := Lib.hid (H4.out.2.box H.out.box hKp)
      rcases hFor with rfl | rfl
      rotate_left
      · go_wp2_with fail
        go_ret
        exact ⟨rfl, HLW.out _ HT4.out, HX4.out, w3.heap.size, hBs, HT4.out.size, H4.out.1⟩
      have hwet4 : WetAt w4 ma (fun b => J b ∨ (w.heap.size ≤ b ∧ b < w3.heap.size)) q al := by
        have h1 := (HW.out.touch (Touch.of_below (K := fun _ => False) H3.out.1) (fun q => q) (fun _ _ q => q)).touch HT4.out hKm (fun b hb h => h.elim (fun z => (HJ.out b hb).2 z.1) (fun z => by have := (HJ.out b hb).1; omega))
        exact h1.weak (fun b _ h => .inl h)
      have HE3 := Lib.hid (show E3 (Since K w w3) dp p ma u L q (fun b => J b ∨ (w.heap.size ≤ b ∧ b < w3.heap.size)) al bs D1 w3 0 w4 from
        ⟨H4.out.1, HT4.out.mono (fun _ h => .inl h), HX4.out, al, hwet4, rfl⟩)
      have hmJ2 : ¬ (J ma ∨ (w.heap.size ≤ ma ∧ ma < w3.heap.size)) := fun h => h.elim hmJ (fun z => by omega)
      clear hwet4 HFL H4 HT4 HX4 hcp
      go_wp2_with fail
      go_loopw [77] (fun i wr => ∃ (k : Nat), i = .int .i64 (k : Int) ∧ k ≤ n + 2 ∧ Hid (E3 (Since K w w3) dp p ma u L q (fun b => J b ∨ (w.heap.size ≤ b ∧ b < w3.heap.size)) al bs D1 w3 k wr)) (fun i _ => n + 2 - (intOf i).toNat)
      case atStart => exact ⟨0, rfl, by omega, HE3⟩
      case round =>
        clear HE3
        obtain ⟨k, rfl, hk2, G⟩ := hrel
        by_cases hkn2 : k < n + 2
        · have hkn' : (k : Int) < (n : Int) + 2 := by omega
          obtain ⟨v, hv⟩ : ∃ v, vs[k]? = some v := ⟨_, List.getElem?_eq_getElem (by omega)⟩
          obtain ⟨bk, hbk⟩ : ∃ b, bs[k]? = some b := ⟨_, List.getElem?_eq_getElem (by omega)⟩
          obtain ⟨gk, ck⟩ := v
          obtain ⟨nn, hnn⟩ : ∃ m, L.place k = m := ⟨_, rfl⟩
          have hnn5 : nn ≤ 5000 := by rw [← hnn]; exact place_le HL.out k
          have HNN := Lib.hid hnn
          have hKm2 : ∀ b, w.heap.size ≤ b → b < w3.heap.size → ¬ (Since K w w3 b ∨ b = ma) := fun b h1 h2 h => h.elim (hKn b h1 h2) (fun e => by omega)
          have hct : wr.cell? ⟨gp, k, none⟩ = some (.slice (some ⟨gk, 0, none⟩) 256 ck) := (World.cell?_of_block (w := w3) (G.out.touch.block gp (by omega) (hKm2 gp hgp (by omega)))).trans (HTC.out k (gk, ck) hv)
          obtain ⟨hgk, hlk⟩ := (H3.out.2.2.keep G.out.touch (fun b hb _ => hKm2 b hb.1 hb.2)).2 k (gk, ck) bk hv hbk
          have HBK := Lib.hid (drop_cons bs k bk hbk)
          have HLK := Lib.hid hlk
          have hgkm : gk ≠ ma := fun e => hKm2 gk hgk.1 hgk.2 (.inr e)
          obtain ⟨al', hwet, hms⟩ := G.out.wet
          have HWT := Lib.hid (And.intro hwet hms)
          clear hlk hv hbk hnn hwet hms hKm2
          go_wp2_with (first
            | (go_at_call 85; refine (jplace_says (w := wr) (L := L) G.out.box HL.out k (by omega)).mono ?_; rintro e w5 ⟨rfl, hb5⟩; rw [HNN.out]; have H5 := Lib.hid hb5; clear hb5)
            | (go_at_call 86; refine (jmind_says (x := bk) (al := al') (q := q + k) (J := fun b => J b ∨ (w.heap.size ≤ b ∧ b < w3.heap.size)) (G.out.box.below H5.out G.out.box.lt) (HWT.out.1.touch (Touch.of_below (K := fun _ => False) H5.out) (fun q => q) (fun _ _ q => q)) (by omega) hmJ2 (by omega) (HLK.out.below H5.out) hgkm hpm).mono ?_; rintro e w6 ⟨rfl, hw6, ht6⟩; have H6 := Lib.hid (And.intro hw6 ht6); clear hw6 ht6))
          go_roundw
          case rel =>
            refine ⟨k + 1, by go_num, by omega, Lib.hid ⟨?_, ?_, ?_, minded al' nn bk, ?_, ?_⟩⟩
            · exact H6.out.2.dev (G.out.dev.below H5.out) (fun b hb e => hKm (e ▸ hb))
            · exact (G.out.touch.trans (Touch.of_below H5.out)).trans (H6.out.2.mono (fun b e => .inr e))
            · exact H6.out.2.box (G.out.box.below H5.out G.out.box.lt) hpm
            · exact H6.out.1.weak (fun b _ h => h.elim id (fun e => by subst e; exact .inr hgk))
            · rw [HWT.out.2, HBK.out, mindsL, HNN.out]
          case measure => simp [intOf]; omega
        · obtain rfl : k = n + 2 := by omega
          have hnl2 : ¬ ((n + 2 : Nat) : Int) < (n : Int) + 2 := by omega
          go_wp2_with fail
          go_ret
          obtain ⟨al', hwet, hms⟩ := G.out.wet
          rw [List.drop_of_length_le (by omega), mindsL] at hms
          refine ⟨rfl, (Touch.of_below H3.out.1).trans' G.out.touch (fun b h => h.elim (fun z => z.elim (fun y => .inl (.inl y.1)) (fun y => .inr (by omega))) (fun z => .inl (.inr z))), G.out.box, w3.heap.size, hBs, G.out.touch.size, G.out.dev, ?_⟩
          rw [hms]
          exact hwet
end
end Go.Proofs.YtnhondkdkjehaaaGreat
