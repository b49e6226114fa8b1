/-
  read: the changes of the transactions that are whole, one behind the other.
-/
import Derived.Test.YtclhjpageonkgaaGreatJReadI
import Derived.WalkMore
namespace Go.Proofs.YtclhjpageonkgaaGreat
open Go.RowKit

set_option linter.unusedVariables false
set_option linter.unusedSimpArgs false
theorem below_touch2 {K : Nat → Prop} {w w1 w2 : World} (hb : Below w.heap.size w w1) (ht : Touch K w1 w2) : Touch K w w2 := (Touch.of_below hb).trans ht
/-- What read hands on. -/
def ReadPost (w : World) (K : Nat → Prop) (p dp : Nat) (u : Value) (R : RdAll) (e : Ending) (w' : World) : Prop :=
  (∃ A n c xs, e = .returned (.tuple #[.slice A n c, .int .i64 R.e]) ∧ (R.e = 0 → Chs w' (fun k => w.heap.size ≤ k) A n c xs ∧ xs.map Ch.cg = R.cs ∧ whole xs)) ∧ Box w' p 81 (lc dp u R.L) ∧ Dev w' K dp R.D ∧ Touch (fun k => K k ∨ k = p) w w'
section
variable {w : World} {K : Nat → Prop} {p dp : Nat} {u : Value} {L0 : Lg} {D0 : Dv}
set_option maxRecDepth 100000 in
set_option maxHeartbeats 8000000 in
theorem jread_says (hb : Box w p 81 (lc dp u L0)) (hL : L0.Ok) (hu0 : L0.used = 0) (hsq : L0.seq ≤ 4611686018427387904) (hp : ¬ K p) (hd : Dev w K dp D0) (hK : ∀ k, K k → k < w.heap.size) (hroom : 2 + L0.h.log ≤ (D0.bs.length : Int)) (ho : D0.ops ≤ 70000) :
    Calls Tryz.prog 67 #[.pointer (some ⟨p, 0, none⟩)] w (ReadPost w K p dp u (readTo (homeOf D0 L0) (L0.h.log.toNat + 1) L0 [] D0)) := by
  obtain ⟨home, hhome⟩ : ∃ x, homeOf D0 L0 = x := ⟨_, rfl⟩
  obtain ⟨F, hF⟩ : ∃ x, L0.h.log.toNat + 1 = x := ⟨_, rfl⟩
  rw [hhome, hF]
  obtain ⟨R, hR⟩ : ∃ R, readTo home F L0 [] D0 = R := ⟨_, rfl⟩
  rw [hR]
  have hpw := hb.lt
  have HI0 := Lib.hid (show RI w K p dp u home F L0 D0 L0 [] D0 [] F (.slice none 0 0) w from
    ⟨⟨hb, Touch.refl _ _, World.ownsRow_nil w _ _ 2, fun x hx => by cases hx⟩, hd, rfl, by rw [hu0]; have := hL.log0; omega, by omega, hL.up, rfl, (fun x hx => by cases hx), rfl, by omega, by rw [hu0]; exact Calm.refl D0, Nat.zero_le _⟩)
  have HRR := Lib.hid hR
  have HH := Lib.hid hhome
  have hlog0 := hL.log0
  have hlog1 := hL.log1
  have HL0 := Lib.hid hL
  clear hb hd hL hR hhome
  go_enter Tryz.func67, Tryz.ntmps67
  go_wp2_with fail
  go_step3
  go_wp2_with fail
  go_step3
  go_wp2_with fail
  go_loopw [4] (fun v wr => ∃ L done D xs f, Hid (RI w K p dp u home F L0 D0 L done D xs f v wr)) (fun _ wr => (L0.h.log - usedIn p wr).toNat)
  case atStart => exact ⟨L0, [], D0, [], F, HI0⟩
  case round =>
    clear HI0
    obtain ⟨wo, rfl⟩ : ∃ y, y = wr := ⟨_, rfl⟩
    obtain ⟨L, done, D, xs, f, H⟩ := hrel
    have hL : L.Ok := by
      obtain ⟨h1, h2, h3, h4, h5, h6⟩ := H.out
      have h0 := HL0.out
      have hlg1 : L.h.log ≤ 4096 := by rw [h3]; exact h0.log1
      exact ⟨by rw [h3]; exact h0.log0, by rw [h3]; exact h0.log1, by rw [h3]; exact h0.pos0, by rw [h3]; exact h0.pos1, h4, by omega, h6⟩
    have hlg : L.h.log = L0.h.log := by rw [H.out.head]
    have hul := H.out.used
    have husd := H.out.rb.used
    have hbox := H.out.rb.box
    have c6 : ∀ q : Grows wo, q.val.cell? ⟨p, 6, none⟩ = some (.int .i64 (L.used : Int)) := fun q => (q.prop.cell hbox.lt).trans ((Box.cell hbox 6).trans rfl)
    have c5 : ∀ q : Grows wo, q.val.cell? ⟨p, 5, none⟩ = some (.int .i64 L.h.log) := fun q => (q.prop.cell hbox.lt).trans ((Box.cell hbox 5).trans rfl)
    have q1 : IntKind.i64.wrap ((L.used : Int) + 2) = (L.used : Int) + 2 := IntWalk.i64_in _ (by omega)
    by_cases hgo : (L.used : Int) + 2 < L.h.log
    · obtain ⟨f, rfl⟩ : ∃ m, f = m + 1 := ⟨f - 1, by have := H.out.fuel; omega⟩
      have hstep : R = afterRd home f L done (roundTo L home D) := by rw [← HRR.out, H.out.same, readTo_step hgo]
      have HST := Lib.hid hstep
      have hcalm := H.out.calm
      have HIN := Lib.hid (show L.place 0 < D.bs.length from by have := place_lt hL 0; rw [hcalm.1]; omega)
      have HOPS := Lib.hid (show D.ops ≤ 80000 from by have := hcalm.2.1; omega)
      clear hbox hstep hcalm
      go_upto_region 2 with fail
      refine wp_region_grows (by kernel_rfl) (by kernel_rfl) ?_
      iterate 11 quiet_step (fail)
      refine wpQuiet_nil ?_
      rintro wx ⟨⟨_, hwx⟩, rfl⟩
      have HRX := Lib.hid (H.out.rb.on (Touch.of_below (K := fun _ => False) hwx) (fun _ h => h.elim) hK hp)
      have HDX := Lib.hid (H.out.dev.below hwx)
      have HWX := Lib.hid hwx
      clear c5 c6 hwx
      obtain ⟨nn, hnn⟩ : ∃ m, L.place 0 = m := ⟨_, rfl⟩
      have HPJ := Lib.hid (show Calls Tryz.prog 83 #[.pointer (some ⟨p, 0, none⟩), .int .i64 0] wx.drew fun e w' => e = .returned (.int .i64 (nn : Int)) ∧ Below wx.drew.heap.size wx.drew w' from by
        have := jplace_says (w := wx.drew) HRX.out.box hL 0 (by omega)
        rwa [hnn] at this)
      rw [hnn] at HIN
      cases hdn : D.call.down with
      | true =>
        have hround : roundTo L home D = .err D.call := by rw [roundTo, if_pos hdn]
        have HFI := Lib.hid (show R = ⟨17, done, L, D.call⟩ from by rw [HST.out, hround]; rfl)
        clear hround HST
        go_upto_region 3 with fail
        rename_i KX kx
        have KK := Lib.hid kx
        clear kx
        refine wp_region_held_drew (S := fun u => u.cell? ⟨p, 0, none⟩ = some (.pointer (some ⟨dp, 0, none⟩))) (by kernel_rfl) ((Box.cell (show Box wx.drew p _ _ from HRX.out.box) 0).trans rfl) (fun hHeld => ?_)
        refine take_run 0 31 (v := ?_) rfl rfl (by kernel_rfl) (by kernel_rfl) (by kernel_rfl) (fun _ _ _ h => h) (by rfl) ?_ (by assumption) ?_
        rotate_left
        · (intro wq hSw; have hS1 := hSw; go_simp; first | done | with_reducible rfl)
        simp only [Act.put, List.setIfInBounds_toArray, List.set_cons_zero, List.set_cons_succ]
        refine take_run 1 32 (v := ?_) rfl rfl (by kernel_rfl) (by kernel_rfl) (by kernel_rfl) (fun _ _ _ h => h) (by rfl) ?_ (by assumption) ?_
        rotate_left
        · (intro wq hSw; have hS1 := hSw; go_simp; first | done | with_reducible rfl)
        simp only [Act.put, List.setIfInBounds_toArray, List.set_cons_zero, List.set_cons_succ]
        refine take_run 2 33 (v := ?_) rfl rfl (by kernel_rfl) (by kernel_rfl) (by kernel_rfl) (fun _ _ _ h => h) (by rfl) ?_ (by assumption) ?_
        rotate_left
        · (intro wq hSw; have hS1 := hSw; go_simp; first | done | with_reducible rfl)
        simp only [Act.put, List.setIfInBounds_toArray, List.set_cons_zero, List.set_cons_succ]
        refine take_run 3 34 (v := ?_) rfl rfl (by kernel_rfl) (by kernel_rfl) (by kernel_rfl) (fun _ _ _ h => h) (by rfl) ?_ (by assumption) ?_
        rotate_left
        · (intro wq hSw; have hS1 := hSw; go_simp; first | done | with_reducible rfl)
        simp only [Act.put, List.setIfInBounds_toArray, List.set_cons_zero, List.set_cons_succ]
        refine take_run 4 35 (v := ?_) rfl rfl (by kernel_rfl) (by kernel_rfl) (by kernel_rfl) (fun _ _ _ h => h) (by rfl) ?_ (by assumption) ?_
        rotate_left
        · (intro wq hSw; have hS1 := hSw; go_simp; first | done | with_reducible rfl)
        simp only [Act.put, List.setIfInBounds_toArray, List.set_cons_zero, List.set_cons_succ]
        refine wpAnyH_ready (rs := [5]) (by kernel_rfl) (by simp) ?_
        refine AllReadyH.cons rfl (fun KR hK => ?_) AllReadyH.nil
        go_simp
        refine (HPJ.out).mono ?_
        rintro e w2 ⟨rfl, hb2⟩
        have hb2 : Below wx.heap.size wx w2 := ⟨hb2.os, hb2.tape, hb2.output, hb2.size, hb2.block⟩
        have hx2 := Box.below (HRX.out.box) hb2 (HRX.out.box).lt
        have hd2 : Dev w2 K dp D := (HDX.out).below hb2
        have H2 := Lib.hid (And.intro hb2 (And.intro hx2 hd2))
        clear hb2 hd2
        refine hK.out _ _ ((Box.cell hx2 0).trans rfl) (fun hHeld => ?_)
        clear hK KR
        try simp only [Act.put, List.setIfInBounds_toArray, List.set_cons_zero, List.set_cons_succ]
        clear hHeld hx2
        refine wpAnyH_ready (rs := [6]) (by kernel_rfl) (by simp) ?_
        refine AllReadyH.cons rfl (fun KR hK9 => ?_) AllReadyH.nil
        go_simp
        refine (read_down H2.out.2.2 (by have := HOPS.out; omega) hdn (nn : Int) (by have := HIN.out; omega)).mono ?_
        rintro e w3 ⟨rfl, hd3, ht3⟩
        have hx3 := ht3.box H2.out.2.1 hp
        have H3 := Lib.hid (And.intro hd3 (below_touch2 H2.out.1 ht3))
        clear hd3 ht3
        refine hK9.out _ _ ((Box.cell hx3 0).trans rfl) (fun hHeld => ?_)
        clear hK9 KR hx3
        try simp only [Act.put, List.setIfInBounds_toArray, List.set_cons_zero, List.set_cons_succ]
        refine take_run 7 30 (v := ?_) rfl rfl (by kernel_rfl) (by kernel_rfl) (by kernel_rfl) (fun _ _ _ h => h) (by rfl) ?_ (by assumption) ?_
        rotate_left
        · (intro wq hSw; have hS1 := hSw; go_simp; first | done | with_reducible rfl)
        simp only [Act.put, List.setIfInBounds_toArray, List.set_cons_zero, List.set_cons_succ]
        refine take_run 8 38 (v := ?_) rfl rfl (by kernel_rfl) (by kernel_rfl) (by kernel_rfl) (fun _ _ _ h => h) (by rfl) ?_ (by assumption) ?_
        rotate_left
        · (intro wq hSw; have hS1 := hSw; go_simp; first | done | with_reducible rfl)
        simp only [Act.put, List.setIfInBounds_toArray, List.set_cons_zero, List.set_cons_succ]
        refine take_run 9 39 (v := ?_) rfl rfl (by kernel_rfl) (by kernel_rfl) (by kernel_rfl) (fun _ _ _ h => h) (by rfl) ?_ (by assumption) ?_
        rotate_left
        · (intro wq hSw; have hS1 := hSw; go_simp; first | done | with_reducible rfl)
        simp only [Act.put, List.setIfInBounds_toArray, List.set_cons_zero, List.set_cons_succ]
        refine take_run 10 5 (v := ?_) rfl rfl (by kernel_rfl) (by kernel_rfl) (by kernel_rfl) (fun _ _ _ h => h) (by rfl) ?_ (by assumption) ?_
        rotate_left
        · (intro wq hSw; have hS1 := hSw; go_simp; first | done | with_reducible rfl)
        simp only [Act.put, List.setIfInBounds_toArray, List.set_cons_zero, List.set_cons_succ]
        refine take_run 11 6 (v := ?_) rfl rfl (by kernel_rfl) (by kernel_rfl) (by kernel_rfl) (fun _ _ _ h => h) (by rfl) ?_ (by assumption) ?_
        rotate_left
        · (intro wq hSw; have hS1 := hSw; go_simp; first | done | with_reducible rfl)
        simp only [Act.put, List.setIfInBounds_toArray, List.set_cons_zero, List.set_cons_succ]
        refine wpAnyH_done (by kernel_rfl) ?_ _
        refine KK.out _ _ ?_
        clear KK KX hHeld H2
        have hrb := HRX.out.on H3.out.2 (fun k h => .inl h) hK hp
        have HZ := Lib.hid (And.intro hrb.box (And.intro H3.out.1 hrb.touch))
        clear hrb
        go_wp2
        go_ret2
        rw [HFI.out]
        exact ⟨⟨none, 0, 0, [], rfl, fun h => absurd h (show ¬ (17 : Int) = 0 by decide)⟩, HZ.out⟩
      | false =>
        obtain ⟨B1, hB1⟩ : ∃ B, D.blk nn = B := ⟨_, rfl⟩
        go_upto_region 3 with fail
        rename_i KX kx
        have KK := Lib.hid kx
        clear kx
        refine wp_region_held_drew (S := fun u => u.cell? ⟨p, 0, none⟩ = some (.pointer (some ⟨dp, 0, none⟩))) (by kernel_rfl) ((Box.cell (show Box wx.drew p _ _ from HRX.out.box) 0).trans rfl) (fun hHeld => ?_)
        refine take_run 0 31 (v := ?_) rfl rfl (by kernel_rfl) (by kernel_rfl) (by kernel_rfl) (fun _ _ _ h => h) (by rfl) ?_ (by assumption) ?_
        rotate_left
        · (intro wq hSw; have hS1 := hSw; go_simp; first | done | with_reducible rfl)
        simp only [Act.put, List.setIfInBounds_toArray, List.set_cons_zero, List.set_cons_succ]
        refine take_run 1 32 (v := ?_) rfl rfl (by kernel_rfl) (by kernel_rfl) (by kernel_rfl) (fun _ _ _ h => h) (by rfl) ?_ (by assumption) ?_
        rotate_left
        · (intro wq hSw; have hS1 := hSw; go_simp; first | done | with_reducible rfl)
        simp only [Act.put, List.setIfInBounds_toArray, List.set_cons_zero, List.set_cons_succ]
        refine take_run 2 33 (v := ?_) rfl rfl (by kernel_rfl) (by kernel_rfl) (by kernel_rfl) (fun _ _ _ h => h) (by rfl) ?_ (by assumption) ?_
        rotate_left
        · (intro wq hSw; have hS1 := hSw; go_simp; first | done | with_reducible rfl)
        simp only [Act.put, List.setIfInBounds_toArray, List.set_cons_zero, List.set_cons_succ]
        refine take_run 3 34 (v := ?_) rfl rfl (by kernel_rfl) (by kernel_rfl) (by kernel_rfl) (fun _ _ _ h => h) (by rfl) ?_ (by assumption) ?_
        rotate_left
        · (intro wq hSw; have hS1 := hSw; go_simp; first | done | with_reducible rfl)
        simp only [Act.put, List.setIfInBounds_toArray, List.set_cons_zero, List.set_cons_succ]
        refine take_run 4 35 (v := ?_) rfl rfl (by kernel_rfl) (by kernel_rfl) (by kernel_rfl) (fun _ _ _ h => h) (by rfl) ?_ (by assumption) ?_
        rotate_left
        · (intro wq hSw; have hS1 := hSw; go_simp; first | done | with_reducible rfl)
        simp only [Act.put, List.setIfInBounds_toArray, List.set_cons_zero, List.set_cons_succ]
        refine wpAnyH_ready (rs := [5]) (by kernel_rfl) (by simp) ?_
        refine AllReadyH.cons rfl (fun KR hK => ?_) AllReadyH.nil
        go_simp
        refine (HPJ.out).mono ?_
        rintro e w2 ⟨rfl, hb2⟩
        have hb2 : Below wx.heap.size wx w2 := ⟨hb2.os, hb2.tape, hb2.output, hb2.size, hb2.block⟩
        have hx2 := Box.below (HRX.out.box) hb2 (HRX.out.box).lt
        have hd2 : Dev w2 K dp D := (HDX.out).below hb2
        have H2 := Lib.hid (And.intro hb2 (And.intro hx2 hd2))
        clear hb2 hd2
        refine hK.out _ _ ((Box.cell hx2 0).trans rfl) (fun hHeld => ?_)
        clear hK KR
        try simp only [Act.put, List.setIfInBounds_toArray, List.set_cons_zero, List.set_cons_succ]
        clear hHeld hx2
        refine wpAnyH_ready (rs := [6]) (by kernel_rfl) (by simp) ?_
        refine AllReadyH.cons rfl (fun KR hK9 => ?_) AllReadyH.nil
        go_simp
        refine (read_up H2.out.2.2 (by have := HOPS.out; omega) hdn nn HIN.out).mono ?_
        rintro e w3 ⟨g3, rfl, hx3g, hg3, hd3, ht3⟩
        have hx3 := ht3.box H2.out.2.1 hp
        have H3 := Lib.hid (And.intro hd3 (And.intro (below_touch2 H2.out.1 ht3) (And.intro hx3g (Nat.le_trans H2.out.1.size hg3))))
        clear hx3g hg3
        clear hd3 ht3
        refine hK9.out _ _ ((Box.cell hx3 0).trans rfl) (fun hHeld => ?_)
        clear hK9 KR hx3
        try simp only [Act.put, List.setIfInBounds_toArray, List.set_cons_zero, List.set_cons_succ]
        refine take_run 7 30 (v := ?_) rfl rfl (by kernel_rfl) (by kernel_rfl) (by kernel_rfl) (fun _ _ _ h => h) (by rfl) ?_ (by assumption) ?_
        rotate_left
        · (intro wq hSw; have hS1 := hSw; go_simp; first | done | with_reducible rfl)
        simp only [Act.put, List.setIfInBounds_toArray, List.set_cons_zero, List.set_cons_succ]
        refine take_run 8 38 (v := ?_) rfl rfl (by kernel_rfl) (by kernel_rfl) (by kernel_rfl) (fun _ _ _ h => h) (by rfl) ?_ (by assumption) ?_
        rotate_left
        · (intro wq hSw; have hS1 := hSw; go_simp; first | done | with_reducible rfl)
        simp only [Act.put, List.setIfInBounds_toArray, List.set_cons_zero, List.set_cons_succ]
        refine take_run 9 39 (v := ?_) rfl rfl (by kernel_rfl) (by kernel_rfl) (by kernel_rfl) (fun _ _ _ h => h) (by rfl) ?_ (by assumption) ?_
        rotate_left
        · (intro wq hSw; have hS1 := hSw; go_simp; first | done | with_reducible rfl)
        simp only [Act.put, List.setIfInBounds_toArray, List.set_cons_zero, List.set_cons_succ]
        refine take_run 10 5 (v := ?_) rfl rfl (by kernel_rfl) (by kernel_rfl) (by kernel_rfl) (fun _ _ _ h => h) (by rfl) ?_ (by assumption) ?_
        rotate_left
        · (intro wq hSw; have hS1 := hSw; go_simp; first | done | with_reducible rfl)
        simp only [Act.put, List.setIfInBounds_toArray, List.set_cons_zero, List.set_cons_succ]
        refine take_run 11 6 (v := ?_) rfl rfl (by kernel_rfl) (by kernel_rfl) (by kernel_rfl) (fun _ _ _ h => h) (by rfl) ?_ (by assumption) ?_
        rotate_left
        · (intro wq hSw; have hS1 := hSw; go_simp; first | done | with_reducible rfl)
        simp only [Act.put, List.setIfInBounds_toArray, List.set_cons_zero, List.set_cons_succ]
        refine wpAnyH_done (by kernel_rfl) ?_ _
        refine KK.out _ _ ?_
        clear KK KX hHeld H2
        rw [hB1] at H3
        have hrb3 := HRX.out.on H3.out.2.1 (fun k h => .inl h) hK hp
        have HSE := Lib.hid (jsealed_says hrb3.box hL.seq 1 (some ⟨g3, 0, none⟩) 256 B1.1 ((H3.out.2.2.1.toLies (n := 256) (by rw [be_length]) (Nat.le_refl 256)).weak (fun _ _ _ => trivial)))
        have HR3 := Lib.hid hrb3
        clear hrb3
        go_wp2_with fail
        refine HSE.out.mono ?_
        rintro e w4 ⟨⟨A, n, c, ok, rfl, hn220, hyes, hno⟩, hb4⟩
        rw [mk8_eq] at hyes hno
        have HR4 := Lib.hid (HR3.out.on (Touch.of_below (K := fun _ => False) hb4) (fun _ h => h.elim) hK hp)
        have hd4 : Dev w4 K dp D.call := H3.out.1.below hb4
        have HD4 := Lib.hid hd4
        have HB4 := Lib.hid hb4
        have hw34 : w.heap.size ≤ w3.heap.size := HR3.out.touch.size
        have qn : (n : Int).tdiv 3 = ((n / 3 : Nat) : Int) := rfl
        have qr : (n : Int).tmod 3 = ((n % 3 : Nat) : Int) := rfl
        clear hb4 hd4 HSE HR3 HRX HDX HWX
        cases hso : sealedOf (L.mk8 1) B1.1 with
        | none =>
          obtain rfl := hno hso
          have hround : roundTo L home D = .stop D.call := by rw [roundTo, if_neg (by rw [hdn]; simp), hnn, hB1, hso]
          have HFI := Lib.hid (show R = ⟨0, done, L, D.call⟩ from by rw [HST.out, hround]; rfl)
          clear hyes hno hround hso HST
          obtain ⟨A4, c4, rfl, hch⟩ := HR4.out.chs
          have HCH := Lib.hid (And.intro hch (And.intro HR4.out.box (And.intro HD4.out HR4.out.touch)))
          clear hch
          go_upto_region 8 with fail
          refine wp_region_grows (by kernel_rfl) (by kernel_rfl) ?_
          iterate 3 quiet_step (fail)
          iterate 4 (with_reducible refine wpQuiet_no ?_ ?_; (· first | (go_simp; done) | (go_simp; simp [undef]; done)); simp only [Act.put, List.setIfInBounds_toArray, List.set_cons_zero, List.set_cons_succ])
          iterate 2 quiet_step (fail)
          iterate 13 (with_reducible refine wpQuiet_no ?_ ?_; (· first | (go_simp; done) | (go_simp; simp [undef]; done)); simp only [Act.put, List.setIfInBounds_toArray, List.set_cons_zero, List.set_cons_succ])
          iterate 1 quiet_step (fail)
          refine wpQuiet_nil ?_
          rintro wz ⟨⟨_, hwz⟩, rfl⟩
          have HWZ := Lib.hid hwz
          clear hwz
          go_wp2
          try rw [Exit.noGoto_ret]
          go_ret2
          rw [HFI.out]
          exact ⟨⟨A4, _, c4, xs, rfl, fun _ => ⟨HCH.out.1.below HWZ.out, H.out.cgs, H.out.wh⟩⟩, Box.below HCH.out.2.1 HWZ.out HCH.out.2.1.lt, HCH.out.2.2.1.below HWZ.out, HCH.out.2.2.2.trans (Touch.of_below HWZ.out)⟩
        | some told =>
          obtain ⟨rfl, hlt⟩ := hyes told hso
          have htl : told.length = n := by rw [← bc_length]; exact hlt.len
          have hbox4 := HR4.out.box
          have d6 : ∀ q : Grows w4, q.val.cell? ⟨p, 6, none⟩ = some (.int .i64 (L.used : Int)) := fun q => (q.prop.cell hbox4.lt).trans ((Box.cell hbox4 6).trans rfl)
          have d5 : ∀ q : Grows w4, q.val.cell? ⟨p, 5, none⟩ = some (.int .i64 L.h.log) := fun q => (q.prop.cell hbox4.lt).trans ((Box.cell hbox4 5).trans rfl)
          obtain ⟨A4, c4, rfl, hch⟩ := HR4.out.chs
          have HCH := Lib.hid (And.intro hch (And.intro HR4.out.box (And.intro HD4.out HR4.out.touch)))
          obtain ⟨mm, hmm⟩ : ∃ m : Nat, n / 3 = m := ⟨_, rfl⟩
          have e3 : (n : Int) / 3 = (mm : Int) := by omega
          have HLT := Lib.hid (hlt.weak (N' := fun k => w.heap.size ≤ k) (fun k _ hk => Nat.le_trans hw34 hk))
          have HTL := Lib.hid htl
          have HNN := Lib.hid (And.intro hnn hB1)
          have q2 : IntKind.i64.wrap ((L.used : Int) + (mm : Int)) = (L.used : Int) + (mm : Int) := IntWalk.i64_in _ (by omega)
          have q3 : IntKind.i64.wrap ((L.used : Int) + (mm : Int) + 2) = (L.used : Int) + (mm : Int) + 2 := IntWalk.i64_in _ (by omega)
          clear hch hlt hyes hno hbox4 htl hnn hB1
          go_upto_region 8 with fail
          by_cases h3 : n % 3 = 0
          · have l3 : ((n : Int) % 3 != 0) = false := by rw [bne_eq_false_iff_eq]; omega
            by_cases hfu : (L.used : Int) + (mm : Int) + 2 > L.h.log
            · have hround : roundTo L home D = .stop D.call := by
                rw [roundTo, if_neg (by rw [hdn]; simp), HNN.out.1, HNN.out.2, hso]
                simp only
                rw [if_pos (by rw [HTL.out]; exact .inr (by rw [hmm]; exact hfu))]
              have HFI := Lib.hid (show R = ⟨0, done, L, D.call⟩ from by rw [HST.out, hround]; rfl)
              clear hround HST hso
              have l4 : L.h.log < (L.used : Int) + (mm : Int) + 2 := by omega
              refine wp_region_grows (by kernel_rfl) (by kernel_rfl) ?_
              iterate 23 quiet_step (fail)
              refine wpQuiet_nil ?_
              rintro wz ⟨⟨_, hwz⟩, rfl⟩
              have HWZ := Lib.hid hwz
              clear hwz
              go_wp2
              try rw [Exit.noGoto_ret]
              go_ret2
              rw [HFI.out]
              exact ⟨⟨A4, _, c4, xs, rfl, fun _ => ⟨HCH.out.1.below HWZ.out, H.out.cgs, H.out.wh⟩⟩, Box.below HCH.out.2.1 HWZ.out HCH.out.2.1.lt, HCH.out.2.2.1.below HWZ.out, HCH.out.2.2.2.trans (Touch.of_below HWZ.out)⟩
            · have l4 : ¬ L.h.log < (L.used : Int) + (mm : Int) + 2 := by omega
              refine wp_region_grows (by kernel_rfl) (by kernel_rfl) ?_
              iterate 23 quiet_step (fail)
              refine wpQuiet_nil ?_
              rintro wz ⟨⟨_, hwz⟩, rfl⟩
              have HRZ := Lib.hid (HR4.out.on (Touch.of_below (K := fun _ => False) hwz) (fun _ h => h.elim) hK hp)
              have HDZ := Lib.hid (HD4.out.below hwz)
              have HLZ := Lib.hid (HLT.out.below hwz)
              have hcond : ¬ (told.length % 3 ≠ 0 ∨ (L.used : Int) + (told.length / 3 : Nat) + 2 > L.h.log) := by
                rw [HTL.out, hmm]
                rintro (h | h)
                · exact h h3
                · exact hfu h
              have hround : roundTo L home D = match covTo L told mm 0 D.call with
                  | .go cs D2 => if D2.call.down = true then .err D2.call else if sealedOf (L.mk8 2) (D2.blk (L.place (1 + mm))).1 = some [] ∧ rightC home cs = true then .go cs D2.call else .stop D2.call
                  | o => o := by
                rw [roundTo, if_neg (by rw [hdn]; simp), HNN.out.1, HNN.out.2, hso]
                simp only
                rw [if_neg hcond, HTL.out, hmm]
                cases covTo L told mm 0 D.call <;> rfl
              have HN3 := Lib.hid (show n = 3 * mm from by omega)
              have hm70 : mm ≤ 73 := by omega
              have hpz : p < wz.heap.size := HRZ.out.box.lt
              have hwz0 : w.heap.size ≤ wz.heap.size := HRZ.out.touch.size
              obtain ⟨j0, hj0, jz0, jz1, jz2⟩ := info_parts chInfo3
              obtain ⟨D1, hD1⟩ : ∃ x, D.call = x := ⟨_, rfl⟩
              rw [hD1] at HDZ hround
              have hcalm1 : Calm D0 D1 (L.used + 1) := by rw [← hD1]; exact H.out.calm.call
              have HRD := Lib.hid hround
              clear hwz hround hcond hD1 d5 d6 HR4 HD4 HB4 HLT hw34 HCH l3 l4 hmm e3 q2 q3 H3 hdn hso qn qr
              go_upto_region 10 with (at_make; refine wpList_make_full _ rfl _ _ 46 rfl wz.heap.size 51 j0 _ 2 Tryz.underlying46 hj0 jz0 jz1 _ _ _ _ mm rfl rfl rfl rfl (by rw [jz2]; omega) (by unfold maxLen; omega) (Nat.le_refl _) ?_; intro w6 hown6 hg6; have HO6 := Lib.hid (And.intro hown6 hg6); clear hown6 hg6)
              obtain ⟨hown6, hg6⟩ := HO6.out
              change w6.ownsRow _ _ _ _ _ (madeCells (Value.agg #[.int .i64 0, .slice none 0 0]).cells (mm * 2)).toList at hown6
              rw [madeChs] at hown6
              have hbz6 : Below wz.heap.size wz w6 := (Below.refl wz.heap.size wz).grown hg6 (Nat.le_refl _) (fun k hk => by cases hk)
              have HC0 := Lib.hid (show CI K dp L told mm D1 wz 0 [] [] D1 w6 from
                ⟨HDZ.out.below hbz6, Touch.of_below hbz6, own_boxS hown6, (fun y hy => by cases hy), rfl, (fun y hy => by cases hy), rfl, by rw [Rd.pre_nil]; rfl, Calm.refl D1⟩)
              have hpl : ∀ i, L.place i < D0.bs.length := fun i => by have := place_lt hL i; omega
              have HPL := Lib.hid hpl
              have hcap := HLZ.out.le
              have hz6 := hbz6.size
              clear hown6 hg6 HO6 hpl hbz6 HDZ
              go_wp2_with fail
              go_loopw [79] (fun v wr => ∃ (k : Nat) (cs : List Cg) (ys : List Ch) (D' : Dv), v = .int .i64 (k : Int) ∧ k ≤ mm ∧ Hid (CI K dp L told mm D1 wz k cs ys D' wr)) (fun v _ => mm - (intOf v).toNat)
              case atStart => exact ⟨0, [], [], D1, rfl, by omega, HC0⟩
              case round =>
                clear HC0
                obtain ⟨k, cs, ys, D', rfl, hk, HC⟩ := hrel
                have HRW := Lib.hid (HRZ.out.on HC.out.touch (fun k h => h) hK hp)
                have hcalm2 := hcalm1.trans HC.out.calm
                obtain ⟨nn2, hnn2⟩ : ∃ m, L.place (1 + k) = m := ⟨_, rfl⟩
                have HIN := Lib.hid (show nn2 < D'.bs.length from by rw [hcalm2.1, ← hnn2]; exact HPL.out _)
                have HOPS := Lib.hid (show D'.ops ≤ 80000 from by have := hcalm2.2.1; omega)
                clear hcalm2
                by_cases hlt : k < mm
                · have hlt' : (k : Int) < (mm : Int) := by omega
                  have hcov : covTo L told (mm - k) k D' = if D'.call.down = true then .err D'.call else if (D'.blk nn2).1.headD 0 = 3 then (covTo L told (mm - (k + 1)) (k + 1) D'.call).pre [chgAt told k (D'.blk nn2)] else .stop D'.call := by
                    rw [show mm - k = (mm - (k + 1)) + 1 by omega, covTo, hnn2]
                  have hw1k : IntKind.i64.wrap (1 + (k : Int)) = 1 + (k : Int) := IntWalk.i64_in _ (by omega)
                  have HPJ := Lib.hid (show Calls Tryz.prog 83 #[.pointer (some ⟨p, 0, none⟩), .int .i64 (1 + (k : Int))] wr.drew fun e w' => e = .returned (.int .i64 (nn2 : Int)) ∧ Below wr.drew.heap.size wr.drew w' from by
                    have := jplace_says (w := wr.drew) HRW.out.box hL (1 + k) (by omega)
                    rwa [hnn2, show ((1 + k : Nat) : Int) = 1 + (k : Int) from by omega] at this)
                  have HCV := Lib.hid hcov
                  clear hcov hnn2
                  cases hdn : D'.call.down with
                  | true =>
                    have hround : roundTo L home D = .err D'.call := by rw [HRD.out, HC.out.same, HCV.out, if_pos hdn]; rfl
                    have HFI := Lib.hid (show R = ⟨17, done, L, D'.call⟩ from by rw [HST.out, hround]; rfl)
                    clear hround HST HRD
                    go_upto_region 13 with fail
                    rename_i KX kx
                    have KK := Lib.hid kx
                    clear kx
                    refine wp_region_held_drew (S := fun u => u.cell? ⟨p, 0, none⟩ = some (.pointer (some ⟨dp, 0, none⟩))) (by kernel_rfl) ((Box.cell (show Box wr.drew p _ _ from HRW.out.box) 0).trans rfl) (fun hHeld => ?_)
                    refine take_run 0 83 (v := ?_) rfl rfl (by kernel_rfl) (by kernel_rfl) (by kernel_rfl) (fun _ _ _ h => h) (by rfl) ?_ (by assumption) ?_
                    rotate_left
                    · (intro wq hSw; have hS1 := hSw; go_simp; first | done | with_reducible rfl)
                    simp only [Act.put, List.setIfInBounds_toArray, List.set_cons_zero, List.set_cons_succ]
                    refine take_run 1 84 (v := ?_) rfl rfl (by kernel_rfl) (by kernel_rfl) (by kernel_rfl) (fun _ _ _ h => h) (by rfl) ?_ (by assumption) ?_
                    rotate_left
                    · (intro wq hSw; have hS1 := hSw; go_simp; first | done | with_reducible rfl)
                    simp only [Act.put, List.setIfInBounds_toArray, List.set_cons_zero, List.set_cons_succ]
                    refine take_run 2 85 (v := ?_) rfl rfl (by kernel_rfl) (by kernel_rfl) (by kernel_rfl) (fun _ _ _ h => h) (by rfl) ?_ (by assumption) ?_
                    rotate_left
                    · (intro wq hSw; have hS1 := hSw; go_simp; first | done | with_reducible rfl)
                    simp only [Act.put, List.setIfInBounds_toArray, List.set_cons_zero, List.set_cons_succ]
                    refine take_run 3 86 (v := ?_) rfl rfl (by kernel_rfl) (by kernel_rfl) (by kernel_rfl) (fun _ _ _ h => h) (by rfl) ?_ (by assumption) ?_
                    rotate_left
                    · (intro wq hSw; have hS1 := hSw; go_simp; first | done | with_reducible rfl)
                    simp only [Act.put, List.setIfInBounds_toArray, List.set_cons_zero, List.set_cons_succ]
                    refine take_run 4 87 (v := ?_) rfl rfl (by kernel_rfl) (by kernel_rfl) (by kernel_rfl) (fun _ _ _ h => h) (by rfl) ?_ (by assumption) ?_
                    rotate_left
                    · (intro wq hSw; have hS1 := hSw; go_simp; first | done | with_reducible rfl)
                    simp only [Act.put, List.setIfInBounds_toArray, List.set_cons_zero, List.set_cons_succ]
                    refine take_run 5 88 (v := ?_) rfl rfl (by kernel_rfl) (by kernel_rfl) (by kernel_rfl) (fun _ _ _ h => h) (by rfl) ?_ (by assumption) ?_
                    rotate_left
                    · (intro wq hSw; have hS1 := hSw; go_simp; first | done | with_reducible rfl)
                    simp only [Act.put, List.setIfInBounds_toArray, List.set_cons_zero, List.set_cons_succ]
                    refine take_run 6 89 (v := ?_) rfl rfl (by kernel_rfl) (by kernel_rfl) (by kernel_rfl) (fun _ _ _ h => h) (by rfl) ?_ (by assumption) ?_
                    rotate_left
                    · (intro wq hSw; have hS1 := hSw; go_simp; first | done | with_reducible rfl)
                    simp only [Act.put, List.setIfInBounds_toArray, List.set_cons_zero, List.set_cons_succ]
                    refine wpAnyH_ready (rs := [7]) (by kernel_rfl) (by simp) ?_
                    refine AllReadyH.cons rfl (fun KR hK => ?_) AllReadyH.nil
                    go_simp
                    refine (HPJ.out).mono ?_
                    rintro e w2 ⟨rfl, hb2⟩
                    have hb2 : Below wr.heap.size wr w2 := ⟨hb2.os, hb2.tape, hb2.output, hb2.size, hb2.block⟩
                    have hx2 := Box.below (HRW.out.box) hb2 (HRW.out.box).lt
                    have hd2 : Dev w2 K dp D' := (HC.out.dev).below hb2
                    have H2 := Lib.hid (And.intro hb2 (And.intro hx2 hd2))
                    clear hb2 hd2
                    refine hK.out _ _ ((Box.cell hx2 0).trans rfl) (fun hHeld => ?_)
                    clear hK KR
                    try simp only [Act.put, List.setIfInBounds_toArray, List.set_cons_zero, List.set_cons_succ]
                    clear hHeld hx2
                    refine wpAnyH_ready (rs := [8]) (by kernel_rfl) (by simp) ?_
                    refine AllReadyH.cons rfl (fun KR hK9 => ?_) AllReadyH.nil
                    go_simp
                    refine (read_down H2.out.2.2 (by have := HOPS.out; omega) hdn (nn2 : Int) (by have := HIN.out; omega)).mono ?_
                    rintro e w3 ⟨rfl, hd3, ht3⟩
                    have hx3 := ht3.box H2.out.2.1 hp
                    have H3 := Lib.hid (And.intro hd3 (below_touch2 H2.out.1 ht3))
                    clear hd3 ht3
                    refine hK9.out _ _ ((Box.cell hx3 0).trans rfl) (fun hHeld => ?_)
                    clear hK9 KR hx3
                    try simp only [Act.put, List.setIfInBounds_toArray, List.set_cons_zero, List.set_cons_succ]
                    refine take_run 9 82 (v := ?_) rfl rfl (by kernel_rfl) (by kernel_rfl) (by kernel_rfl) (fun _ _ _ h => h) (by rfl) ?_ (by assumption) ?_
                    rotate_left
                    · (intro wq hSw; have hS1 := hSw; go_simp; first | done | with_reducible rfl)
                    simp only [Act.put, List.setIfInBounds_toArray, List.set_cons_zero, List.set_cons_succ]
                    refine take_run 10 92 (v := ?_) rfl rfl (by kernel_rfl) (by kernel_rfl) (by kernel_rfl) (fun _ _ _ h => h) (by rfl) ?_ (by assumption) ?_
                    rotate_left
                    · (intro wq hSw; have hS1 := hSw; go_simp; first | done | with_reducible rfl)
                    simp only [Act.put, List.setIfInBounds_toArray, List.set_cons_zero, List.set_cons_succ]
                    refine take_run 11 93 (v := ?_) rfl rfl (by kernel_rfl) (by kernel_rfl) (by kernel_rfl) (fun _ _ _ h => h) (by rfl) ?_ (by assumption) ?_
                    rotate_left
                    · (intro wq hSw; have hS1 := hSw; go_simp; first | done | with_reducible rfl)
                    simp only [Act.put, List.setIfInBounds_toArray, List.set_cons_zero, List.set_cons_succ]
                    refine take_run 12 12 (v := ?_) rfl rfl (by kernel_rfl) (by kernel_rfl) (by kernel_rfl) (fun _ _ _ h => h) (by rfl) ?_ (by assumption) ?_
                    rotate_left
                    · (intro wq hSw; have hS1 := hSw; go_simp; first | done | with_reducible rfl)
                    simp only [Act.put, List.setIfInBounds_toArray, List.set_cons_zero, List.set_cons_succ]
                    refine take_run 13 13 (v := ?_) rfl rfl (by kernel_rfl) (by kernel_rfl) (by kernel_rfl) (fun _ _ _ h => h) (by rfl) ?_ (by assumption) ?_
                    rotate_left
                    · (intro wq hSw; have hS1 := hSw; go_simp; first | done | with_reducible rfl)
                    simp only [Act.put, List.setIfInBounds_toArray, List.set_cons_zero, List.set_cons_succ]
                    refine wpAnyH_done (by kernel_rfl) ?_ _
                    refine KK.out _ _ ?_
                    clear KK KX hHeld H2
                    have hrb := HRW.out.on H3.out.2 (fun k h => .inl h) hK hp
                    have HZ := Lib.hid (And.intro hrb.box (And.intro H3.out.1 hrb.touch))
                    clear hrb
                    go_wp2
                    try rw [Exit.noGoto_ret]
                    go_ret2
                    rw [HFI.out]
                    exact ⟨⟨none, 0, 0, [], rfl, fun h => absurd h (show ¬ (17 : Int) = 0 by decide)⟩, HZ.out⟩
                  | false =>
                    obtain ⟨B2, hB2⟩ : ∃ B, D'.blk nn2 = B := ⟨_, rfl⟩
                    go_upto_region 13 with fail
                    rename_i KX kx
                    have KK := Lib.hid kx
                    clear kx
                    refine wp_region_held_drew (S := fun u => u.cell? ⟨p, 0, none⟩ = some (.pointer (some ⟨dp, 0, none⟩))) (by kernel_rfl) ((Box.cell (show Box wr.drew p _ _ from HRW.out.box) 0).trans rfl) (fun hHeld => ?_)
                    refine take_run 0 83 (v := ?_) rfl rfl (by kernel_rfl) (by kernel_rfl) (by kernel_rfl) (fun _ _ _ h => h) (by rfl) ?_ (by assumption) ?_
                    rotate_left
                    · (intro wq hSw; have hS1 := hSw; go_simp; first | done | with_reducible rfl)
                    simp only [Act.put, List.setIfInBounds_toArray, List.set_cons_zero, List.set_cons_succ]
                    refine take_run 1 84 (v := ?_) rfl rfl (by kernel_rfl) (by kernel_rfl) (by kernel_rfl) (fun _ _ _ h => h) (by rfl) ?_ (by assumption) ?_
                    rotate_left
                    · (intro wq hSw; have hS1 := hSw; go_simp; first | done | with_reducible rfl)
                    simp only [Act.put, List.setIfInBounds_toArray, List.set_cons_zero, List.set_cons_succ]
                    refine take_run 2 85 (v := ?_) rfl rfl (by kernel_rfl) (by kernel_rfl) (by kernel_rfl) (fun _ _ _ h => h) (by rfl) ?_ (by assumption) ?_
                    rotate_left
                    · (intro wq hSw; have hS1 := hSw; go_simp; first | done | with_reducible rfl)
                    simp only [Act.put, List.setIfInBounds_toArray, List.set_cons_zero, List.set_cons_succ]
                    refine take_run 3 86 (v := ?_) rfl rfl (by kernel_rfl) (by kernel_rfl) (by kernel_rfl) (fun _ _ _ h => h) (by rfl) ?_ (by assumption) ?_
                    rotate_left
                    · (intro wq hSw; have hS1 := hSw; go_simp; first | done | with_reducible rfl)
                    simp only [Act.put, List.setIfInBounds_toArray, List.set_cons_zero, List.set_cons_succ]
                    refine take_run 4 87 (v := ?_) rfl rfl (by kernel_rfl) (by kernel_rfl) (by kernel_rfl) (fun _ _ _ h => h) (by rfl) ?_ (by assumption) ?_
                    rotate_left
                    · (intro wq hSw; have hS1 := hSw; go_simp; first | done | with_reducible rfl)
                    simp only [Act.put, List.setIfInBounds_toArray, List.set_cons_zero, List.set_cons_succ]
                    refine take_run 5 88 (v := ?_) rfl rfl (by kernel_rfl) (by kernel_rfl) (by kernel_rfl) (fun _ _ _ h => h) (by rfl) ?_ (by assumption) ?_
                    rotate_left
                    · (intro wq hSw; have hS1 := hSw; go_simp; first | done | with_reducible rfl)
                    simp only [Act.put, List.setIfInBounds_toArray, List.set_cons_zero, List.set_cons_succ]
                    refine take_run 6 89 (v := ?_) rfl rfl (by kernel_rfl) (by kernel_rfl) (by kernel_rfl) (fun _ _ _ h => h) (by rfl) ?_ (by assumption) ?_
                    rotate_left
                    · (intro wq hSw; have hS1 := hSw; go_simp; first | done | with_reducible rfl)
                    simp only [Act.put, List.setIfInBounds_toArray, List.set_cons_zero, List.set_cons_succ]
                    refine wpAnyH_ready (rs := [7]) (by kernel_rfl) (by simp) ?_
                    refine AllReadyH.cons rfl (fun KR hK => ?_) AllReadyH.nil
                    go_simp
                    refine (HPJ.out).mono ?_
                    rintro e w2 ⟨rfl, hb2⟩
                    have hb2 : Below wr.heap.size wr w2 := ⟨hb2.os, hb2.tape, hb2.output, hb2.size, hb2.block⟩
                    have hx2 := Box.below (HRW.out.box) hb2 (HRW.out.box).lt
                    have hd2 : Dev w2 K dp D' := (HC.out.dev).below hb2
                    have H2 := Lib.hid (And.intro hb2 (And.intro hx2 hd2))
                    clear hb2 hd2
                    refine hK.out _ _ ((Box.cell hx2 0).trans rfl) (fun hHeld => ?_)
                    clear hK KR
                    try simp only [Act.put, List.setIfInBounds_toArray, List.set_cons_zero, List.set_cons_succ]
                    clear hHeld hx2
                    refine wpAnyH_ready (rs := [8]) (by kernel_rfl) (by simp) ?_
                    refine AllReadyH.cons rfl (fun KR hK9 => ?_) AllReadyH.nil
                    go_simp
                    refine (read_up H2.out.2.2 (by have := HOPS.out; omega) hdn nn2 HIN.out).mono ?_
                    rintro e w3 ⟨g3, rfl, hx3g, hg3, hd3, ht3⟩
                    have hx3 := ht3.box H2.out.2.1 hp
                    have H3 := Lib.hid (And.intro hd3 (And.intro (below_touch2 H2.out.1 ht3) (And.intro hx3g (Nat.le_trans H2.out.1.size hg3))))
                    clear hx3g hg3
                    clear hd3 ht3
                    refine hK9.out _ _ ((Box.cell hx3 0).trans rfl) (fun hHeld => ?_)
                    clear hK9 KR hx3
                    try simp only [Act.put, List.setIfInBounds_toArray, List.set_cons_zero, List.set_cons_succ]
                    refine take_run 9 82 (v := ?_) rfl rfl (by kernel_rfl) (by kernel_rfl) (by kernel_rfl) (fun _ _ _ h => h) (by rfl) ?_ (by assumption) ?_
                    rotate_left
                    · (intro wq hSw; have hS1 := hSw; go_simp; first | done | with_reducible rfl)
                    simp only [Act.put, List.setIfInBounds_toArray, List.set_cons_zero, List.set_cons_succ]
                    refine take_run 10 92 (v := ?_) rfl rfl (by kernel_rfl) (by kernel_rfl) (by kernel_rfl) (fun _ _ _ h => h) (by rfl) ?_ (by assumption) ?_
                    rotate_left
                    · (intro wq hSw; have hS1 := hSw; go_simp; first | done | with_reducible rfl)
                    simp only [Act.put, List.setIfInBounds_toArray, List.set_cons_zero, List.set_cons_succ]
                    refine take_run 11 93 (v := ?_) rfl rfl (by kernel_rfl) (by kernel_rfl) (by kernel_rfl) (fun _ _ _ h => h) (by rfl) ?_ (by assumption) ?_
                    rotate_left
                    · (intro wq hSw; have hS1 := hSw; go_simp; first | done | with_reducible rfl)
                    simp only [Act.put, List.setIfInBounds_toArray, List.set_cons_zero, List.set_cons_succ]
                    refine take_run 12 12 (v := ?_) rfl rfl (by kernel_rfl) (by kernel_rfl) (by kernel_rfl) (fun _ _ _ h => h) (by rfl) ?_ (by assumption) ?_
                    rotate_left
                    · (intro wq hSw; have hS1 := hSw; go_simp; first | done | with_reducible rfl)
                    simp only [Act.put, List.setIfInBounds_toArray, List.set_cons_zero, List.set_cons_succ]
                    refine take_run 13 13 (v := ?_) rfl rfl (by kernel_rfl) (by kernel_rfl) (by kernel_rfl) (fun _ _ _ h => h) (by rfl) ?_ (by assumption) ?_
                    rotate_left
                    · (intro wq hSw; have hS1 := hSw; go_simp; first | done | with_reducible rfl)
                    simp only [Act.put, List.setIfInBounds_toArray, List.set_cons_zero, List.set_cons_succ]
                    refine wpAnyH_done (by kernel_rfl) ?_ _
                    refine KK.out _ _ ?_
                    clear KK KX hHeld H2
                    rw [hB2] at H3 HCV
                    obtain ⟨z0, hz0⟩ : ∃ z, told.getD (3 * k) 0 = z := ⟨_, rfl⟩
                    obtain ⟨z1, hz1⟩ : ∃ z, told.getD (3 * k + 1) 0 = z := ⟨_, rfl⟩
                    obtain ⟨z2, hz2⟩ : ∃ z, told.getD (3 * k + 2) 0 = z := ⟨_, rfl⟩
                    have htl := HTL.out
                    have hn3 := HN3.out
                    have hat : ∀ j z, told.getD j 0 = z → j < n → (bc told)[j]? = some (.int .u8 (z.toNat : Int)) := fun j z hj hjn => by
                      rw [bc, List.getElem?_map, List.getElem?_eq_getElem (by omega)]
                      rw [List.getD_eq_getElem?_getD, List.getElem?_eq_getElem (by omega)] at hj
                      rw [← hj]
                      rfl
                    have hl3 : Lies w3 (fun k => w.heap.size ≤ k) A n c (bc told) := by
                      have h1 := HC.out.touch.trans' H3.out.2.1 (fun k h => .inl (.inl h))
                      refine HLZ.out.keep (fun q hq hl => World.cell?_of_block (w := wz) (h1.block q.block hl (fun h => h.elim (fun a => by have := hK _ a; omega) (fun a => by omega)))) h1.size
                    obtain ⟨bt, ot, hA, hbtw, hbt, k0⟩ := hl3.at (hat (3 * k) z0 hz0 (by omega))
                    obtain ⟨bt', ot', hA', _, _, k1⟩ := hl3.at (hat (3 * k + 1) z1 hz1 (by omega))
                    obtain ⟨bt'', ot'', hA'', _, _, k2⟩ := hl3.at (hat (3 * k + 2) z2 hz2 (by omega))
                    rw [hA] at hA' hA''
                    injection hA' with hA'
                    injection hA' with hq1 hq2
                    injection hA'' with hA''
                    injection hA'' with hq3 hq4
                    subst hq1 hq2 hq3 hq4
                    obtain ⟨o3, ho3⟩ : ∃ x, ot + 3 * k = x := ⟨_, rfl⟩
                    obtain ⟨m3, hm3⟩ : ∃ x, n - 3 * k = x := ⟨_, rfl⟩
                    obtain ⟨c3, hc3⟩ : ∃ x, c - 3 * k = x := ⟨_, rfl⟩
                    have HSL : ∀ W, (Instr.sliceAt 49 (.slice A n c) (some (.int .i64 (3 * (k : Int)))) none none).run Tryz.prog W = .ok (.slice (some ⟨bt, o3, none⟩) m3 c3) W := fun W => by
                      have := sliceAt_from Tryz.underlying49 (by kernel_rfl) .i64 A n c (3 * k) (by omega) W
                      rw [show ((3 * k : Nat) : Int) = 3 * (k : Int) from by omega, cutA, if_neg (by omega), hA, hm3, hc3] at this
                      rw [hA]
                      rw [this, ← ho3]
                      simp [Addr.add_mid]
                    have hw3k : IntKind.i64.wrap (3 * (k : Int)) = 3 * (k : Int) := IntWalk.i64_in _ (by omega)
                    rw [ho3] at k0
                    rw [show ot + (3 * k + 1) = o3 + 1 by omega] at k1
                    rw [show ot + (3 * k + 2) = o3 + 2 by omega] at k2
                    have hm30 : 3 ≤ m3 := by omega
                    have y0 : 0 < m3 := by omega
                    have y1 : 1 < m3 := by omega
                    have y2 : 2 < m3 := by omega
                    have g0 : (0 : Int) < (m3 : Int) := by omega
                    have g1 : (1 : Int) < (m3 : Int) := by omega
                    have g2 : (2 : Int) < (m3 : Int) := by omega
                    have HB3 := Lib.hid (show Box w3 g3 5 (be B2).toArray from H3.out.2.2.1)
                    have HRB3 := Lib.hid (HRW.out.on H3.out.2.1 (fun k h => .inl h) hK hp)
                    have HT3 := Lib.hid (show Touch (fun b => K b ∨ wz.heap.size ≤ b) wz w3 from HC.out.touch.trans' H3.out.2.1 (fun k h => .inl (.inl h)))
                    have htab3 := H3.out.2.1.box HC.out.tab (fun h => by have := hK _ h; omega)
                    have hlie3 : ∀ y ∈ ys, y.Ok w3 (fun b => wz.heap.size < b) := fun y hy => by
                      obtain ⟨a, b, cc⟩ := HC.out.lie y hy
                      exact ⟨a, b, H3.out.2.1.lies cc (fun b hb h => by have := hK _ h; omega)⟩
                    have HTB3 := Lib.hid (And.intro htab3 hlie3)
                    have HZ3 := Lib.hid (And.intro hz0 (And.intro hz1 hz2))
                    have HD3 := Lib.hid H3.out.1
                    have HG3 := Lib.hid (show wr.heap.size ≤ g3 from H3.out.2.2.2)
                    have HKT := Lib.hid (And.intro k0 (And.intro k1 hbt))
                    clear hn3 hat hl3 hA hbtw hbt ho3 hm3 hc3 htl htab3 hlie3 hz0 hz1 hz2 k0 k1 H3
                    by_cases hhd : B2.1.headD 0 = 3
                    · have HBA := Lib.hid (bare_yes w3 (some ⟨g3, 0, none⟩) 256 B2.1 ((HB3.out.toLies (n := 256) (by rw [be_length]) (Nat.le_refl 256)).weak (fun _ _ _ => trivial)) hhd z2)
                      go_wp2_with fail
                      refine HBA.out.mono ?_
                      rintro e w7 ⟨rfl, hx7, hb7⟩
                      have H7 := Lib.hid (And.intro hx7 hb7)
                      have k0 : w7.drew.cell? ⟨bt, o3, none⟩ = some (.int .u8 (z0.toNat : Int)) := (hb7.cell (p := ⟨bt, o3, none⟩) HKT.out.2.2).trans HKT.out.1
                      have k1 : w7.drew.cell? ⟨bt, o3 + 1, none⟩ = some (.int .u8 (z1.toNat : Int)) := (hb7.cell (p := ⟨bt, o3 + 1, none⟩) HKT.out.2.2).trans HKT.out.2.1
                      clear hx7 hb7 HBA k2
                      obtain ⟨vv, hvv⟩ : ∃ v, z0.toNat * 256 + z1.toNat = v := ⟨_, rfl⟩
                      have b0 := z0.toNat_lt
                      have b1 := z1.toNat_lt
                      have r0 : IntKind.i64.wrap (z0.toNat : Int) = (z0.toNat : Int) := IntWalk.i64_in _ (by omega)
                      have r1 : IntKind.i64.wrap (z1.toNat : Int) = (z1.toNat : Int) := IntWalk.i64_in _ (by omega)
                      have r2 : IntKind.i64.wrap ((z0.toNat : Int) * 256) = (z0.toNat : Int) * 256 := IntWalk.i64_in _ (by omega)
                      have r3 : bits .or .i64 ((z0.toNat : Int) * 256) (z1.toNat : Int) = (vv : Int) := by rw [two_bytes, hvv]
                      obtain ⟨x, hx⟩ : ∃ x : Ch, (⟨(vv : Int), some ⟨w3.heap.size, 0, none⟩, 256, 256, z2 :: B2.1.drop 1⟩ : Ch) = x := ⟨_, rfl⟩
                      have hxc : #[Value.int .i64 (vv : Int), .slice (some ⟨w3.heap.size, 0, none⟩) 256 256] = (chc x).toArray := by rw [← hx]; rfl
                      have hxg : x.cg = chgAt told k B2 := by
                        rw [← hx]
                        unfold chgAt
                        rw [HZ3.out.1, HZ3.out.2.1, HZ3.out.2.2, hvv]
                        rfl
                      have hxw : 0 ≤ x.n ∧ x.b.length = 256 := by
                        rw [← hx]
                        refine ⟨by show 0 ≤ (vv : Int); omega, ?_⟩
                        show (z2 :: B2.1.drop 1).length = 256
                        simp [B2.2]
                      have htab7 := Box.below HTB3.out.1 H7.out.2 HTB3.out.1.lt
                      obtain ⟨cur, hcur⟩ : ∃ c, (fl chc (ys ++ List.replicate (mm - k) zCh)).toArray = c := ⟨_, rfl⟩
                      rw [hcur] at htab7
                      have hlenc : (ys ++ List.replicate (mm - k) zCh).length = mm := by rw [List.length_append, List.length_replicate, HC.out.len]; omega
                      have hcsz : cur.size = mm * 2 := by rw [← hcur]; simp [fl_length chc_length, hlenc]
                      obtain ⟨w8, hw8⟩ : ∃ y, w7.drew.setRow wz.heap.size (cur.toList.take (k * 2) ++ (#[Value.int .i64 (vv : Int), .slice (some ⟨w3.heap.size, 0, none⟩) 256 256] : Array Value).toList ++ cur.toList.drop (k * 2 + (#[Value.int .i64 (vv : Int), .slice (some ⟨w3.heap.size, 0, none⟩) 256 256] : Array Value).size)).toArray = y := ⟨_, rfl⟩
                      have ht8 : Touch (fun b => b = wz.heap.size) w7.drew w8 := by rw [← hw8]; exact Touch.row (K := fun b => b = wz.heap.size) rfl (Touch.refl _ _) _
                      have htab8 : Box w8 wz.heap.size 51 (fl chc ((ys ++ [x]) ++ List.replicate (mm - (k + 1)) zCh)).toArray := by
                        have h1 : Box w8 wz.heap.size 51 (cur.toList.take (k * 2) ++ (#[Value.int .i64 (vv : Int), .slice (some ⟨w3.heap.size, 0, none⟩) 256 256] : Array Value).toList ++ cur.toList.drop (k * 2 + (#[Value.int .i64 (vv : Int), .slice (some ⟨w3.heap.size, 0, none⟩) 256 256] : Array Value).size)).toArray := by
                          rw [← hw8]
                          exact setRow_heap _ _ _ _ _ _ (show Box w7.drew wz.heap.size 51 cur from htab7)
                        have h2 := fl_set chc_length (ys ++ List.replicate (mm - k) zCh) k x (by omega)
                        have h3 : (ys ++ List.replicate (mm - k) zCh).set k x = (ys ++ [x]) ++ List.replicate (mm - (k + 1)) zCh := by
                          rw [List.set_append_right _ _ (by rw [HC.out.len]; exact Nat.le_refl _), HC.out.len, Nat.sub_self, show mm - k = (mm - (k + 1)) + 1 by omega, List.replicate_succ, List.set_cons_zero, List.append_assoc]
                          rfl
                        rw [h3] at h2
                        rw [← h2]
                        have h4 : cur.toList = fl chc (ys ++ List.replicate (mm - k) zCh) := by rw [← hcur]
                        rw [h4, hxc] at h1
                        exact h1
                      have HC8 := Lib.hid (show CI K dp L told mm D1 wz (k + 1) (cs ++ [chgAt told k B2]) (ys ++ [x]) D'.call w8 from by
                        have hd7 : Dev w7.drew K dp D'.call := (HD3.out.below H7.out.2).drewN 1
                        have hw37 := H7.out.2.size
                        have hwz3 := HTB3.out.1.lt
                        refine ⟨ht8.dev hd7 (fun a h1 h2 => by have := hK _ h1; omega), (HT3.out.trans' (Touch.of_below (K := fun _ => False) H7.out.2) (fun _ h => h.elim)).drew.trans (ht8.mono (fun b hb => .inr (by omega))), htab8, fun y hy => ?_, by rw [List.map_append, List.map_cons, List.map_nil, hxg, HC.out.cg], fun y hy => ?_, by simp [HC.out.len], ?_, HC.out.calm.call⟩
                        · rcases List.mem_append.1 hy with hy | hy
                          · obtain ⟨a, b, cc⟩ := HTB3.out.2 y hy
                            exact ⟨a, b, ht8.lies (cc.below H7.out.2).drew (fun b hb h => by omega)⟩
                          · rw [List.mem_singleton] at hy
                            subst hy
                            rw [← hx]
                            refine ⟨by show _ ≤ (vv : Int); omega, by show (vv : Int) ≤ _; omega, ?_⟩
                            have h1 := H7.out.1.toLies (n := 256) (by rw [bc_length]; simp [B2.2]) (Nat.le_refl 256)
                            exact ht8.lies (h1.weak (N' := fun b => wz.heap.size < b) (fun b _ hb => by have hb' : b = w3.heap.size := hb; omega)).drew (fun b hb h => by omega)
                        · rcases List.mem_append.1 hy with hy | hy
                          · exact HC.out.wh y hy
                          · rw [List.mem_singleton] at hy
                            subst hy
                            exact hxw
                        · rw [HC.out.same, HCV.out, if_neg (by rw [hdn]; simp), if_pos hhd, Rd.pre_pre])
                      have HW8 := Lib.hid hw8
                      have HT7 := Lib.hid (show w7.drew.heap[wz.heap.size]? = some (.cells cur 51 (0, 0)) from htab7)
                      have hk2 : k * 2 + 2 ≤ cur.size := by omega
                      clear hxc hxg hxw htab7 hlenc ht8 htab8 hw8 hx hcur hvv b0 b1 hcsz
                      go_upto_region 19 with fail
                      go_still_tail 15, (by kernel_rfl)
                      change wpList _ _ _ _ _ w7.drew
                      go_wp2_with (refine wpList_store_within rfl 51 _ _ rfl wz.heap.size (k * 2) #[.int .i64 (vv : Int), .slice (some ⟨w3.heap.size, 0, none⟩) 256 256] rfl rfl 51 cur HT7.out hk2 (by kernel_rfl) (by simp [Value.oneCell']) ?_; rw [HW8.out])
                      go_roundw
                      case rel => exact ⟨k + 1, _, _, _, by go_num, by omega, HC8⟩
                      case measure => simp [intOf]; omega
                    · have HBA := Lib.hid (bare_form w3 (some ⟨g3, 0, none⟩) 256 B2.1 ((HB3.out.toLies (n := 256) (by rw [be_length]) (Nat.le_refl 256)).weak (fun _ _ _ => trivial)) hhd z2)
                      have hround : roundTo L home D = .stop D'.call := by rw [HRD.out, HC.out.same, HCV.out, if_neg (by rw [hdn]; simp), if_neg hhd]; rfl
                      have HFI := Lib.hid (show R = ⟨0, done, L, D'.call⟩ from by rw [HST.out, hround]; rfl)
                      obtain ⟨A5, c5, he, hch⟩ := HRB3.out.chs
                      injection he with he1 he2 he3
                      subst he1 he3
                      have HCH := Lib.hid hch
                      clear hround HST HRD he2 hch
                      go_wp2_with fail
                      refine HBA.out.mono ?_
                      rintro e w7 ⟨rfl, hw7⟩
                      obtain rfl : w3 = w7 := hw7.symm
                      clear hw7
                      go_wp2
                      try rw [Exit.noGoto_ret]
                      go_ret2
                      rw [HFI.out]
                      exact ⟨⟨A4, _, c4, xs, rfl, fun _ => ⟨HCH.out, H.out.cgs, H.out.wh⟩⟩, HRB3.out.box, HD3.out, HRB3.out.touch⟩
                · obtain rfl : k = mm := by omega
                  have hnl : ¬ (k : Int) < (k : Int) := by omega
                  have hcov : covTo L told k 0 D1 = .go cs D' := by rw [HC.out.same, Nat.sub_self, covTo, Rd.pre, List.append_nil]
                  have hround : roundTo L home D = if D'.call.down = true then .err D'.call else if sealedOf (L.mk8 2) (D'.blk nn2).1 = some [] ∧ rightC home cs = true then .go cs D'.call else .stop D'.call := by
                    rw [HRD.out, hcov, hnn2]
                  have HRE := Lib.hid hround
                  have htb := HC.out.tab
                  rw [Nat.sub_self, List.replicate_zero, List.append_nil] at htb
                  have HTB := Lib.hid htb
                  have hw1k : IntKind.i64.wrap (1 + (k : Int)) = 1 + (k : Int) := IntWalk.i64_in _ (by omega)
                  have HPJ := Lib.hid (show Calls Tryz.prog 83 #[.pointer (some ⟨p, 0, none⟩), .int .i64 (1 + (k : Int))] wr.drew fun e w' => e = .returned (.int .i64 (nn2 : Int)) ∧ Below wr.drew.heap.size wr.drew w' from by
                    have := jplace_says (w := wr.drew) HRW.out.box hL (1 + k) (by omega)
                    rwa [hnn2, show ((1 + k : Nat) : Int) = 1 + (k : Int) from by omega] at this)
                  clear hcov hround htb hnn2 HRD
                  cases hdn : D'.call.down with
                  | true =>
                    have hround : roundTo L home D = .err D'.call := by rw [HRE.out, if_pos hdn]
                    have HFI := Lib.hid (show R = ⟨17, done, L, D'.call⟩ from by rw [HST.out, hround]; rfl)
                    clear hround HST HRE
                    go_upto_region 21 with fail
                    rename_i KX kx
                    have KK := Lib.hid kx
                    clear kx
                    refine wp_region_held_drew (S := fun u => u.cell? ⟨p, 0, none⟩ = some (.pointer (some ⟨dp, 0, none⟩))) (by kernel_rfl) ((Box.cell (show Box wr.drew p _ _ from HRW.out.box) 0).trans rfl) (fun hHeld => ?_)
                    refine take_run 0 128 (v := ?_) rfl rfl (by kernel_rfl) (by kernel_rfl) (by kernel_rfl) (fun _ _ _ h => h) (by rfl) ?_ (by assumption) ?_
                    rotate_left
                    · (intro wq hSw; have hS1 := hSw; go_simp; first | done | with_reducible rfl)
                    simp only [Act.put, List.setIfInBounds_toArray, List.set_cons_zero, List.set_cons_succ]
                    refine take_run 1 129 (v := ?_) rfl rfl (by kernel_rfl) (by kernel_rfl) (by kernel_rfl) (fun _ _ _ h => h) (by rfl) ?_ (by assumption) ?_
                    rotate_left
                    · (intro wq hSw; have hS1 := hSw; go_simp; first | done | with_reducible rfl)
                    simp only [Act.put, List.setIfInBounds_toArray, List.set_cons_zero, List.set_cons_succ]
                    refine take_run 2 130 (v := ?_) rfl rfl (by kernel_rfl) (by kernel_rfl) (by kernel_rfl) (fun _ _ _ h => h) (by rfl) ?_ (by assumption) ?_
                    rotate_left
                    · (intro wq hSw; have hS1 := hSw; go_simp; first | done | with_reducible rfl)
                    simp only [Act.put, List.setIfInBounds_toArray, List.set_cons_zero, List.set_cons_succ]
                    refine take_run 3 131 (v := ?_) rfl rfl (by kernel_rfl) (by kernel_rfl) (by kernel_rfl) (fun _ _ _ h => h) (by rfl) ?_ (by assumption) ?_
                    rotate_left
                    · (intro wq hSw; have hS1 := hSw; go_simp; first | done | with_reducible rfl)
                    simp only [Act.put, List.setIfInBounds_toArray, List.set_cons_zero, List.set_cons_succ]
                    refine take_run 4 132 (v := ?_) rfl rfl (by kernel_rfl) (by kernel_rfl) (by kernel_rfl) (fun _ _ _ h => h) (by rfl) ?_ (by assumption) ?_
                    rotate_left
                    · (intro wq hSw; have hS1 := hSw; go_simp; first | done | with_reducible rfl)
                    simp only [Act.put, List.setIfInBounds_toArray, List.set_cons_zero, List.set_cons_succ]
                    refine take_run 5 133 (v := ?_) rfl rfl (by kernel_rfl) (by kernel_rfl) (by kernel_rfl) (fun _ _ _ h => h) (by rfl) ?_ (by assumption) ?_
                    rotate_left
                    · (intro wq hSw; have hS1 := hSw; go_simp; first | done | with_reducible rfl)
                    simp only [Act.put, List.setIfInBounds_toArray, List.set_cons_zero, List.set_cons_succ]
                    refine take_run 6 134 (v := ?_) rfl rfl (by kernel_rfl) (by kernel_rfl) (by kernel_rfl) (fun _ _ _ h => h) (by rfl) ?_ (by assumption) ?_
                    rotate_left
                    · (intro wq hSw; have hS1 := hSw; go_simp; first | done | with_reducible rfl)
                    simp only [Act.put, List.setIfInBounds_toArray, List.set_cons_zero, List.set_cons_succ]
                    refine wpAnyH_ready (rs := [7]) (by kernel_rfl) (by simp) ?_
                    refine AllReadyH.cons rfl (fun KR hK => ?_) AllReadyH.nil
                    go_simp
                    refine (HPJ.out).mono ?_
                    rintro e w2 ⟨rfl, hb2⟩
                    have hb2 : Below wr.heap.size wr w2 := ⟨hb2.os, hb2.tape, hb2.output, hb2.size, hb2.block⟩
                    have hx2 := Box.below (HRW.out.box) hb2 (HRW.out.box).lt
                    have hd2 : Dev w2 K dp D' := (HC.out.dev).below hb2
                    have H2 := Lib.hid (And.intro hb2 (And.intro hx2 hd2))
                    clear hb2 hd2
                    refine hK.out _ _ ((Box.cell hx2 0).trans rfl) (fun hHeld => ?_)
                    clear hK KR
                    try simp only [Act.put, List.setIfInBounds_toArray, List.set_cons_zero, List.set_cons_succ]
                    clear hHeld hx2
                    refine wpAnyH_ready (rs := [8]) (by kernel_rfl) (by simp) ?_
                    refine AllReadyH.cons rfl (fun KR hK9 => ?_) AllReadyH.nil
                    go_simp
                    refine (read_down H2.out.2.2 (by have := HOPS.out; omega) hdn (nn2 : Int) (by have := HIN.out; omega)).mono ?_
                    rintro e w3 ⟨rfl, hd3, ht3⟩
                    have hx3 := ht3.box H2.out.2.1 hp
                    have H3 := Lib.hid (And.intro hd3 (below_touch2 H2.out.1 ht3))
                    clear hd3 ht3
                    refine hK9.out _ _ ((Box.cell hx3 0).trans rfl) (fun hHeld => ?_)
                    clear hK9 KR hx3
                    try simp only [Act.put, List.setIfInBounds_toArray, List.set_cons_zero, List.set_cons_succ]
                    refine take_run 9 127 (v := ?_) rfl rfl (by kernel_rfl) (by kernel_rfl) (by kernel_rfl) (fun _ _ _ h => h) (by rfl) ?_ (by assumption) ?_
                    rotate_left
                    · (intro wq hSw; have hS1 := hSw; go_simp; first | done | with_reducible rfl)
                    simp only [Act.put, List.setIfInBounds_toArray, List.set_cons_zero, List.set_cons_succ]
                    refine take_run 10 137 (v := ?_) rfl rfl (by kernel_rfl) (by kernel_rfl) (by kernel_rfl) (fun _ _ _ h => h) (by rfl) ?_ (by assumption) ?_
                    rotate_left
                    · (intro wq hSw; have hS1 := hSw; go_simp; first | done | with_reducible rfl)
                    simp only [Act.put, List.setIfInBounds_toArray, List.set_cons_zero, List.set_cons_succ]
                    refine take_run 11 138 (v := ?_) rfl rfl (by kernel_rfl) (by kernel_rfl) (by kernel_rfl) (fun _ _ _ h => h) (by rfl) ?_ (by assumption) ?_
                    rotate_left
                    · (intro wq hSw; have hS1 := hSw; go_simp; first | done | with_reducible rfl)
                    simp only [Act.put, List.setIfInBounds_toArray, List.set_cons_zero, List.set_cons_succ]
                    refine take_run 12 16 (v := ?_) rfl rfl (by kernel_rfl) (by kernel_rfl) (by kernel_rfl) (fun _ _ _ h => h) (by rfl) ?_ (by assumption) ?_
                    rotate_left
                    · (intro wq hSw; have hS1 := hSw; go_simp; first | done | with_reducible rfl)
                    simp only [Act.put, List.setIfInBounds_toArray, List.set_cons_zero, List.set_cons_succ]
                    refine take_run 13 6 (v := ?_) rfl rfl (by kernel_rfl) (by kernel_rfl) (by kernel_rfl) (fun _ _ _ h => h) (by rfl) ?_ (by assumption) ?_
                    rotate_left
                    · (intro wq hSw; have hS1 := hSw; go_simp; first | done | with_reducible rfl)
                    simp only [Act.put, List.setIfInBounds_toArray, List.set_cons_zero, List.set_cons_succ]
                    refine wpAnyH_done (by kernel_rfl) ?_ _
                    refine KK.out _ _ ?_
                    clear KK KX hHeld H2
                    have hrb := HRW.out.on H3.out.2 (fun k h => .inl h) hK hp
                    have HZ := Lib.hid (And.intro hrb.box (And.intro H3.out.1 hrb.touch))
                    clear hrb
                    go_wp2
                    try rw [Exit.noGoto_ret]
                    go_ret2
                    rw [HFI.out]
                    exact ⟨⟨none, 0, 0, [], rfl, fun h => absurd h (show ¬ (17 : Int) = 0 by decide)⟩, HZ.out⟩
                  | false =>
                    obtain ⟨B2, hB2⟩ : ∃ B, D'.blk nn2 = B := ⟨_, rfl⟩
                    go_upto_region 21 with fail
                    rename_i KX kx
                    have KK := Lib.hid kx
                    clear kx
                    refine wp_region_held_drew (S := fun u => u.cell? ⟨p, 0, none⟩ = some (.pointer (some ⟨dp, 0, none⟩))) (by kernel_rfl) ((Box.cell (show Box wr.drew p _ _ from HRW.out.box) 0).trans rfl) (fun hHeld => ?_)
                    refine take_run 0 128 (v := ?_) rfl rfl (by kernel_rfl) (by kernel_rfl) (by kernel_rfl) (fun _ _ _ h => h) (by rfl) ?_ (by assumption) ?_
                    rotate_left
                    · (intro wq hSw; have hS1 := hSw; go_simp; first | done | with_reducible rfl)
                    simp only [Act.put, List.setIfInBounds_toArray, List.set_cons_zero, List.set_cons_succ]
                    refine take_run 1 129 (v := ?_) rfl rfl (by kernel_rfl) (by kernel_rfl) (by kernel_rfl) (fun _ _ _ h => h) (by rfl) ?_ (by assumption) ?_
                    rotate_left
                    · (intro wq hSw; have hS1 := hSw; go_simp; first | done | with_reducible rfl)
                    simp only [Act.put, List.setIfInBounds_toArray, List.set_cons_zero, List.set_cons_succ]
                    refine take_run 2 130 (v := ?_) rfl rfl (by kernel_rfl) (by kernel_rfl) (by kernel_rfl) (fun _ _ _ h => h) (by rfl) ?_ (by assumption) ?_
                    rotate_left
                    · (intro wq hSw; have hS1 := hSw; go_simp; first | done | with_reducible rfl)
                    simp only [Act.put, List.setIfInBounds_toArray, List.set_cons_zero, List.set_cons_succ]
                    refine take_run 3 131 (v := ?_) rfl rfl (by kernel_rfl) (by kernel_rfl) (by kernel_rfl) (fun _ _ _ h => h) (by rfl) ?_ (by assumption) ?_
                    rotate_left
                    · (intro wq hSw; have hS1 := hSw; go_simp; first | done | with_reducible rfl)
                    simp only [Act.put, List.setIfInBounds_toArray, List.set_cons_zero, List.set_cons_succ]
                    refine take_run 4 132 (v := ?_) rfl rfl (by kernel_rfl) (by kernel_rfl) (by kernel_rfl) (fun _ _ _ h => h) (by rfl) ?_ (by assumption) ?_
                    rotate_left
                    · (intro wq hSw; have hS1 := hSw; go_simp; first | done | with_reducible rfl)
                    simp only [Act.put, List.setIfInBounds_toArray, List.set_cons_zero, List.set_cons_succ]
                    refine take_run 5 133 (v := ?_) rfl rfl (by kernel_rfl) (by kernel_rfl) (by kernel_rfl) (fun _ _ _ h => h) (by rfl) ?_ (by assumption) ?_
                    rotate_left
                    · (intro wq hSw; have hS1 := hSw; go_simp; first | done | with_reducible rfl)
                    simp only [Act.put, List.setIfInBounds_toArray, List.set_cons_zero, List.set_cons_succ]
                    refine take_run 6 134 (v := ?_) rfl rfl (by kernel_rfl) (by kernel_rfl) (by kernel_rfl) (fun _ _ _ h => h) (by rfl) ?_ (by assumption) ?_
                    rotate_left
                    · (intro wq hSw; have hS1 := hSw; go_simp; first | done | with_reducible rfl)
                    simp only [Act.put, List.setIfInBounds_toArray, List.set_cons_zero, List.set_cons_succ]
                    refine wpAnyH_ready (rs := [7]) (by kernel_rfl) (by simp) ?_
                    refine AllReadyH.cons rfl (fun KR hK => ?_) AllReadyH.nil
                    go_simp
                    refine (HPJ.out).mono ?_
                    rintro e w2 ⟨rfl, hb2⟩
                    have hb2 : Below wr.heap.size wr w2 := ⟨hb2.os, hb2.tape, hb2.output, hb2.size, hb2.block⟩
                    have hx2 := Box.below (HRW.out.box) hb2 (HRW.out.box).lt
                    have hd2 : Dev w2 K dp D' := (HC.out.dev).below hb2
                    have H2 := Lib.hid (And.intro hb2 (And.intro hx2 hd2))
                    clear hb2 hd2
                    refine hK.out _ _ ((Box.cell hx2 0).trans rfl) (fun hHeld => ?_)
                    clear hK KR
                    try simp only [Act.put, List.setIfInBounds_toArray, List.set_cons_zero, List.set_cons_succ]
                    clear hHeld hx2
                    refine wpAnyH_ready (rs := [8]) (by kernel_rfl) (by simp) ?_
                    refine AllReadyH.cons rfl (fun KR hK9 => ?_) AllReadyH.nil
                    go_simp
                    refine (read_up H2.out.2.2 (by have := HOPS.out; omega) hdn nn2 HIN.out).mono ?_
                    rintro e w3 ⟨g3, rfl, hx3g, hg3, hd3, ht3⟩
                    have hx3 := ht3.box H2.out.2.1 hp
                    have H3 := Lib.hid (And.intro hd3 (And.intro (below_touch2 H2.out.1 ht3) (And.intro hx3g (Nat.le_trans H2.out.1.size hg3))))
                    clear hx3g hg3
                    clear hd3 ht3
                    refine hK9.out _ _ ((Box.cell hx3 0).trans rfl) (fun hHeld => ?_)
                    clear hK9 KR hx3
                    try simp only [Act.put, List.setIfInBounds_toArray, List.set_cons_zero, List.set_cons_succ]
                    refine take_run 9 127 (v := ?_) rfl rfl (by kernel_rfl) (by kernel_rfl) (by kernel_rfl) (fun _ _ _ h => h) (by rfl) ?_ (by assumption) ?_
                    rotate_left
                    · (intro wq hSw; have hS1 := hSw; go_simp; first | done | with_reducible rfl)
                    simp only [Act.put, List.setIfInBounds_toArray, List.set_cons_zero, List.set_cons_succ]
                    refine take_run 10 137 (v := ?_) rfl rfl (by kernel_rfl) (by kernel_rfl) (by kernel_rfl) (fun _ _ _ h => h) (by rfl) ?_ (by assumption) ?_
                    rotate_left
                    · (intro wq hSw; have hS1 := hSw; go_simp; first | done | with_reducible rfl)
                    simp only [Act.put, List.setIfInBounds_toArray, List.set_cons_zero, List.set_cons_succ]
                    refine take_run 11 138 (v := ?_) rfl rfl (by kernel_rfl) (by kernel_rfl) (by kernel_rfl) (fun _ _ _ h => h) (by rfl) ?_ (by assumption) ?_
                    rotate_left
                    · (intro wq hSw; have hS1 := hSw; go_simp; first | done | with_reducible rfl)
                    simp only [Act.put, List.setIfInBounds_toArray, List.set_cons_zero, List.set_cons_succ]
                    refine take_run 12 16 (v := ?_) rfl rfl (by kernel_rfl) (by kernel_rfl) (by kernel_rfl) (fun _ _ _ h => h) (by rfl) ?_ (by assumption) ?_
                    rotate_left
                    · (intro wq hSw; have hS1 := hSw; go_simp; first | done | with_reducible rfl)
                    simp only [Act.put, List.setIfInBounds_toArray, List.set_cons_zero, List.set_cons_succ]
                    refine take_run 13 6 (v := ?_) rfl rfl (by kernel_rfl) (by kernel_rfl) (by kernel_rfl) (fun _ _ _ h => h) (by rfl) ?_ (by assumption) ?_
                    rotate_left
                    · (intro wq hSw; have hS1 := hSw; go_simp; first | done | with_reducible rfl)
                    simp only [Act.put, List.setIfInBounds_toArray, List.set_cons_zero, List.set_cons_succ]
                    refine wpAnyH_done (by kernel_rfl) ?_ _
                    refine KK.out _ _ ?_
                    clear KK KX hHeld H2
                    rw [hB2] at H3
                    have hround : roundTo L home D = if sealedOf (L.mk8 2) B2.1 = some [] ∧ rightC home cs = true then .go cs D'.call else .stop D'.call := by rw [HRE.out, if_neg (by rw [hdn]; simp), hB2]
                    have HRF := Lib.hid hround
                    have hrb3 := HRW.out.on H3.out.2.1 (fun k h => .inl h) hK hp
                    have HSE := Lib.hid (jsealed_says hrb3.box hL.seq 2 (some ⟨g3, 0, none⟩) 256 B2.1 ((H3.out.2.2.1.toLies (n := 256) (by rw [be_length]) (Nat.le_refl 256)).weak (fun _ _ _ => trivial)))
                    have HRB3 := Lib.hid hrb3
                    have HD3 := Lib.hid H3.out.1
                    have htab3 := H3.out.2.1.box HTB.out (fun h => by have := hK _ h; omega)
                    have hlie3 : ∀ y ∈ ys, y.Ok w3 (fun b => wz.heap.size < b) := fun y hy => by
                      obtain ⟨a, b, cc⟩ := HC.out.lie y hy
                      exact ⟨a, b, H3.out.2.1.lies cc (fun b hb h => by have := hK _ h; omega)⟩
                    have HTB3 := Lib.hid (And.intro htab3 hlie3)
                    clear hround HRE hB2 hrb3 htab3 hlie3 H3
                    go_wp2_with fail
                    refine HSE.out.mono ?_
                    rintro e w8 ⟨⟨A2, n2, c2, ok, rfl, hn2, hyes, hno⟩, hb8⟩
                    rw [mk8_eq] at hyes hno
                    have HRB8 := Lib.hid (HRB3.out.on (Touch.of_below (K := fun _ => False) hb8) (fun _ h => h.elim) hK hp)
                    have HD8 := Lib.hid (HD3.out.below hb8)
                    have HTB8 := Lib.hid (show Box w8 wz.heap.size 51 (fl chc ys).toArray ∧ ∀ y ∈ ys, y.Ok w8 (fun b => wz.heap.size < b) from ⟨Box.below HTB3.out.1 hb8 HTB3.out.1.lt, fun y hy => by
                      obtain ⟨a, b, cc⟩ := HTB3.out.2 y hy
                      exact ⟨a, b, cc.below hb8⟩⟩)
                    clear hb8 HSE HRB3 HD3 HTB3
                    cases hso : sealedOf (L.mk8 2) B2.1 with
                    | none =>
                      obtain rfl := hno hso
                      have hround : roundTo L home D = .stop D'.call := by rw [HRF.out, hso, if_neg (by simp)]
                      have HFI := Lib.hid (show R = ⟨0, done, L, D'.call⟩ from by rw [HST.out, hround]; rfl)
                      obtain ⟨A5, c5, he, hch⟩ := HRB8.out.chs
                      injection he with he1 he2 he3
                      subst he1 he3
                      have HCH := Lib.hid hch
                      clear hround HST HRF he2 hch hyes hno hso
                      go_wp2
                      try rw [Exit.noGoto_ret]
                      go_ret2
                      rw [HFI.out]
                      exact ⟨⟨A4, _, c4, xs, rfl, fun _ => ⟨HCH.out, H.out.cgs, H.out.wh⟩⟩, HRB8.out.box, HD8.out, HRB8.out.touch⟩
                    | some b2 =>
                      obtain ⟨rfl, hl2⟩ := hyes b2 hso
                      have hbl : b2.length = n2 := by rw [← bc_length]; exact hl2.len
                      by_cases hz2 : n2 = 0
                      · subst hz2
                        have hb2 : b2 = [] := List.eq_nil_of_length_eq_zero hbl
                        subst hb2
                        have hchs := tab_chs HTB8.out.1 HC.out.len HTB8.out.2
                        have HRT := Lib.hid (jright_says HRB8.out.box (by omega) HD8.out (some ⟨wz.heap.size, 0, none⟩) k k ys hchs)
                        have hhm : homeOf D'.call L = home := by
                          rw [← HH.out]
                          unfold homeOf
                          have := (hcalm1.trans HC.out.calm).1
                          rw [show D'.call.bs.length = D0.bs.length from by show D'.bs.length = _; rw [this], hlg]
                        have hrw : rightB (homeOf D'.call L) ys = rightC home cs := by rw [hhm, right_whole HC.out.wh, HC.out.cg]
                        rw [hrw] at HRT
                        have HCL := Lib.hid (show 1 ≤ k ∨ rightC home cs = false from by
                          cases hq : rightC home cs with
                          | false => exact .inr rfl
                          | true =>
                            left
                            have := (rightB_fits (home := home) (xs := cs.map chOf) hq).1.1
                            rw [List.length_map, ← HC.out.cg, List.length_map, HC.out.len] at this
                            exact this)
                        clear hchs hhm hrw hl2 hyes hno hbl
                        go_upto_region 25 with fail
                        cases hrc : rightC home cs with
                        | false =>
                          rw [hrc] at HRT
                          have hround : roundTo L home D = .stop D'.call := by rw [HRF.out, hrc, if_neg (by simp)]
                          have HFI := Lib.hid (show R = ⟨0, done, L, D'.call⟩ from by rw [HST.out, hround]; rfl)
                          clear hround HST HRF HCL hso hrc
                          go_wp2_with (go_at_call 52; refine HRT.out.mono ?_; rintro e w9 ⟨rfl, hb9⟩; have HB9 := Lib.hid hb9; clear hb9)
                          have HRB9 := Lib.hid (HRB8.out.on (Touch.of_below (K := fun _ => False) HB9.out) (fun _ h => h.elim) hK hp)
                          obtain ⟨A5, c5, he, hch⟩ := HRB9.out.chs
                          injection he with he1 he2 he3
                          subst he1 he3
                          try rw [Exit.noGoto_ret]
                          go_ret2
                          rw [HFI.out]
                          exact ⟨⟨A4, _, c4, xs, rfl, fun _ => ⟨hch, H.out.cgs, H.out.wh⟩⟩, HRB9.out.box, HD8.out.below HB9.out, HRB9.out.touch⟩
                        | true =>
                          rw [hrc] at HRT
                          have hk1 : 1 ≤ k := HCL.out.elim id (fun h => by rw [hrc] at h; cases h)
                          have hround : roundTo L home D = .go cs D'.call := by rw [HRF.out, hrc, hso, if_pos ⟨rfl, rfl⟩]
                          have hlcs : cs.length = k := by rw [← HC.out.cg, List.length_map, HC.out.len]
                          have hres : R = readTo home f (L.next k) (done ++ cs) D'.call := by rw [HST.out, hround, afterRd, hlcs]
                          have HRES := Lib.hid hres
                          clear hround hres HRF HCL hso hrc
                          go_upto_region 26 with (go_at_call 52; refine HRT.out.mono ?_; rintro e w9 ⟨rfl, hb9⟩; have HB9 := Lib.hid hb9; clear hb9)
                          have HRB9 := Lib.hid (HRB8.out.on (Touch.of_below (K := fun _ => False) HB9.out) (fun _ h => h.elim) hK hp)
                          have HD9 := Lib.hid (HD8.out.below HB9.out)
                          have HTB9 := Lib.hid (show Box w9 wz.heap.size 51 (fl chc ys).toArray ∧ ∀ y ∈ ys, y.Ok w9 (fun b => wz.heap.size < b) from ⟨Box.below HTB8.out.1 HB9.out HTB8.out.1.lt, fun y hy => by
                            obtain ⟨a, b, cc⟩ := HTB8.out.2 y hy
                            exact ⟨a, b, cc.below HB9.out⟩⟩)
                          have hw9 : w.heap.size ≤ w9.heap.size := HRB9.out.touch.size
                          have hfew := H.out.few
                          have hflx : (fl chc ys).length = k * 2 := by rw [fl_length chc_length, HC.out.len]
                          clear HRB8 HD8 HTB8 HRT HB9
                          go_upto_region 27 with (at_builtin; refine wpList_append_own_at _ rfl _ _ 46 rfl w.heap.size 51 j0 _ 2 32 Tryz.underlying46 hj0 jz0 jz1 jz2 rfl (by decide) (.slice A4 xs.length c4) xs.length (fl chc xs) rfl HRB9.out.own ⟨wz.heap.size, 0, none⟩ k k (fl chc ys) rfl hflx (fun j v hv => by rw [Addr.add_mid, Box.cell HTB9.out.1, Nat.zero_add]; simpa using hv) (fl_cells chc_one ys) (by unfold maxLen; omega) (by omega) hw9 ?_; intro v10 w10 ho10 hg10 hn10 hat10; have HO10 := Lib.hid (And.intro ho10 (And.intro hg10 hat10)); clear ho10 hg10 hn10 hat10)
                          obtain ⟨ho10, hg10, hat10⟩ := HO10.out
                          have hown9 := HRB9.out.own
                          have hpw9 : p < w9.heap.size := HRB9.out.box.lt
                          have hbase : ∀ b, (Value.slice A4 xs.length c4).ownBlock = some b → w.heap.size ≤ b ∧ b < w9.heap.size := World.ownsRow.lt hown9
                          have hvz : ∀ b, (Value.slice A4 xs.length c4).ownBlock = some b → b < wz.heap.size := fun b hb => (World.ownsRow.lt HRZ.out.own b hb).2
                          have hbox10 : Box w10 p 81 (lc dp u L) := Box.grown HRB9.out.box hg10 (fun e => by have := hbase p e.symm; omega)
                          have hd10 : Dev w10 K dp D'.call := (Touch.of_grown (K := fun b => w.heap.size ≤ b) hg10 (fun b e => (hbase b e).1)).dev HD9.out (fun b h1 h2 => by have := hK b h1; omega)
                          have ht10 : Touch (fun k => K k ∨ k = p) w w10 := HRB9.out.touch.trans' (Touch.of_grown (K := fun b => w.heap.size ≤ b) hg10 (fun b e => (hbase b e).1)) (fun b h => .inr h)
                          have hlie10 : ∀ y ∈ xs ++ ys, y.Ok w10 (fun k => w.heap.size ≤ k ∧ v10.ownBlock ≠ some k) := fun y hy => by
                            have hnew : ∀ b, b < w9.heap.size → (Value.slice A4 xs.length c4).ownBlock ≠ some b → v10.ownBlock ≠ some b := fun b hb h e => by
                              rcases hat10 with q | q
                              · exact h (by rw [← q]; exact e)
                              · rw [q] at e
                                injection e with e
                                omega
                            rcases List.mem_append.1 hy with hy | hy
                            · obtain ⟨a, b, cc⟩ := HRB9.out.lie y hy
                              refine ⟨a, b, ?_⟩
                              have h1 := cc.weak (N' := fun k => (w.heap.size ≤ k ∧ (Value.slice A4 xs.length c4).ownBlock ≠ some k) ∧ v10.ownBlock ≠ some k) (fun b hb h => ⟨h, hnew b hb h.2⟩)
                              exact (h1.keep (fun q hq hl => World.cell?_of_block (w := w9) (hg10.block q.block hl (fun e => hq.1.2 e.symm))) hg10.size).weak (fun b _ h => ⟨h.1.1, h.2⟩)
                            · obtain ⟨a, b, cc⟩ := HTB9.out.2 y hy
                              refine ⟨a, b, ?_⟩
                              have hne : ∀ b, wz.heap.size < b → (Value.slice A4 xs.length c4).ownBlock ≠ some b := fun b hb e => by have := hvz b e; omega
                              have h1 := cc.weak (N' := fun k => (w.heap.size ≤ k ∧ (Value.slice A4 xs.length c4).ownBlock ≠ some k) ∧ v10.ownBlock ≠ some k) (fun b hb h => ⟨⟨by omega, hne b h⟩, hnew b hb (hne b h)⟩)
                              exact (h1.keep (fun q hq hl => World.cell?_of_block (w := w9) (hg10.block q.block hl (fun e => hq.1.2 e.symm))) hg10.size).weak (fun b _ h => ⟨h.1.1, h.2⟩)
                          have hown10 : w10.ownsRow w.heap.size 51 2 v10 (xs ++ ys).length (fl chc (xs ++ ys)) := by
                            rw [List.length_append, HC.out.len, fl_append]
                            exact ho10
                          obtain ⟨w12, hw12⟩ : ∃ y, (w10.setCell ⟨p, 6, none⟩ (.int .i64 ((L.used : Int) + ((k : Int) + 2)))).setCell ⟨p, 7, none⟩ (.int .u64 ((L.seq : Int) + 1)) = y := ⟨_, rfl⟩
                          have ht12 : Touch (fun k => k = p) w10 w12 := by rw [← hw12]; exact Touch.set (K := fun k => k = p) rfl (Touch.set (K := fun k => k = p) rfl (Touch.refl _ _) _) _
                          have hbox11 := Box.put hbox10 6 (.int .i64 ((L.used : Int) + ((k : Int) + 2)))
                          have hbox12 : Box w12 p 81 (lc dp u (L.next k)) := by
                            rw [← hw12]
                            have := Box.put hbox11 7 (.int .u64 ((L.seq : Int) + 1))
                            simpa [lc, Lg.next] using this
                          have c6 : w10.cell? ⟨p, 6, none⟩ = some (.int .i64 (L.used : Int)) := (Box.cell hbox10 6).trans rfl
                          have f6 := Box.frozen hbox10 6
                          have c7 : (w10.setCell ⟨p, 6, none⟩ (.int .i64 ((L.used : Int) + ((k : Int) + 2)))).cell? ⟨p, 7, none⟩ = some (.int .u64 (L.seq : Int)) := (Box.cell hbox11 7).trans rfl
                          have c7' : w10.cell? ⟨p, 7, none⟩ = some (.int .u64 (L.seq : Int)) := (Box.cell hbox10 7).trans rfl
                          have f7 := Box.frozen hbox11 7
                          have f7' := Box.frozen hbox10 7
                          have HW12 := Lib.hid hw12
                          have HRN := Lib.hid (show RI w K p dp u home F L0 D0 (L.next k) (done ++ cs) D'.call (xs ++ ys) f v10 w12 from by
                            have hnp : ∀ b, w.heap.size ≤ b → ¬ b = p := fun b hb e => by omega
                            refine ⟨⟨hbox12, ht10.trans (ht12.mono (fun b h => .inr h)), ?_, fun y hy => ?_⟩, ht12.dev hd10 (fun b h1 h2 => hp (h2 ▸ h1)), H.out.head, ?_, ?_, H.out.up, ?_, ?_, ?_, ?_, ?_, ?_⟩
                            · refine ⟨hown10.1, hown10.2.imp id fun ⟨g, cap, cur, e1, e2, e3, e4⟩ => ⟨g, cap, cur, e1, e2, ?_, e4⟩⟩
                              have hg := World.ownsRow.lt hown10 g (by rw [e1]; rfl)
                              exact (ht12.block g hg.2 (hnp g hg.1)).trans e3
                            · obtain ⟨a, b, cc⟩ := hlie10 y hy
                              exact ⟨a, b, ht12.lies cc (fun b hb => hnp b hb.1)⟩
                            · show ((L.used + (k + 2) : Nat) : Int) ≤ L.h.log
                              omega
                            · show L.seq + 1 ≤ L0.seq + (L.used + (k + 2))
                              have := H.out.seq
                              omega
                            · rw [List.map_append, H.out.cgs, HC.out.cg]
                            · intro y hy
                              rcases List.mem_append.1 hy with hy | hy
                              · exact H.out.wh y hy
                              · exact HC.out.wh y hy
                            · rw [HRR.out, ← HRES.out]
                            · show L.h.log.toNat ≤ f + (L.used + (k + 2))
                              have := H.out.fuel
                              omega
                            · exact ((hcalm1.trans HC.out.calm).call).mono (by show _ ≤ L.used + (k + 2); omega)
                            · rw [List.length_append, HC.out.len]
                              show xs.length + k ≤ L.used + (k + 2)
                              omega)
                          have q8 : IntKind.i64.wrap ((k : Int) + 2) = (k : Int) + 2 := IntWalk.i64_in _ (by omega)
                          have q9 : IntKind.i64.wrap ((L.used : Int) + ((k : Int) + 2)) = (L.used : Int) + ((k : Int) + 2) := IntWalk.i64_in _ (by omega)
                          have hsq1 : (L.seq : Int) + 1 ≤ 18446744073709551615 := by have := H.out.seq; omega
                          have q10 : IntKind.u64.wrap ((L.seq : Int) + 1) = (L.seq : Int) + 1 := by rw [IntKind.wrap_u64]; omega
                          have hu12 := HRN.out.rb.used
                          have HU12 := Lib.hid hu12
                          have HUO := Lib.hid husd
                          clear ho10 hg10 hat10 hown9 hbase hvz hbox10 hd10 ht10 hlie10 hown10 hw12 ht12 hbox11 hbox12 hu12 husd hsq1
                          go_wp2
                          rw [HW12.out]
                          go_roundw
                          case rel => exact ⟨L.next k, done ++ cs, D'.call, xs ++ ys, f, HRN⟩
                          case measure =>
                            rw [HU12.out, HUO.out]
                            show (L0.h.log - ((L.used + (k + 2) : Nat) : Int)).toNat < (L0.h.log - (L.used : Int)).toNat
                            omega
                      · have hround : roundTo L home D = .stop D'.call := by
                          rw [HRF.out, hso, if_neg]
                          rintro ⟨h, _⟩
                          injection h with h
                          rw [h] at hbl
                          exact hz2 hbl.symm
                        have y0 : 0 < n2 := by omega
                        have g0 : (0 : Int) < (n2 : Int) := by omega
                        have HFI := Lib.hid (show R = ⟨0, done, L, D'.call⟩ from by rw [HST.out, hround]; rfl)
                        obtain ⟨A5, c5, he, hch⟩ := HRB8.out.chs
                        injection he with he1 he2 he3
                        subst he1 he3
                        have HCH := Lib.hid hch
                        clear hround HST HRF he2 hch hyes hno hso
                        go_wp2
                        try rw [Exit.noGoto_ret]
                        go_ret2
                        rw [HFI.out]
                        exact ⟨⟨A4, _, c4, xs, rfl, fun _ => ⟨HCH.out, H.out.cgs, H.out.wh⟩⟩, HRB8.out.box, HD8.out, HRB8.out.touch⟩
          · have hround : roundTo L home D = .stop D.call := by
              rw [roundTo, if_neg (by rw [hdn]; simp), HNN.out.1, HNN.out.2, hso]
              simp only
              rw [if_pos (by rw [HTL.out]; exact .inl h3)]
            have HFI := Lib.hid (show R = ⟨0, done, L, D.call⟩ from by rw [HST.out, hround]; rfl)
            clear hround HST hso
            have l3 : ((n : Int) % 3 != 0) = true := by rw [bne_iff_ne]; omega
            refine wp_region_grows (by kernel_rfl) (by kernel_rfl) ?_
            iterate 9 quiet_step (fail)
            iterate 13 (with_reducible refine wpQuiet_no ?_ ?_; (· first | (go_simp; done) | (go_simp; simp [undef]; done)); simp only [Act.put, List.setIfInBounds_toArray, List.set_cons_zero, List.set_cons_succ])
            iterate 1 quiet_step (fail)
            refine wpQuiet_nil ?_
            rintro wz ⟨⟨_, hwz⟩, rfl⟩
            have HWZ := Lib.hid hwz
            clear hwz
            go_wp2
            try rw [Exit.noGoto_ret]
            go_ret2
            rw [HFI.out]
            exact ⟨⟨A4, _, c4, xs, rfl, fun _ => ⟨HCH.out.1.below HWZ.out, H.out.cgs, H.out.wh⟩⟩, Box.below HCH.out.2.1 HWZ.out HCH.out.2.1.lt, HCH.out.2.2.1.below HWZ.out, HCH.out.2.2.2.trans (Touch.of_below HWZ.out)⟩
    · have hfin : R = ⟨0, done, L, D⟩ := by rw [← HRR.out, H.out.same, readTo_end hgo]
      have HFI := Lib.hid hfin
      obtain ⟨A4, c4, rfl, hch⟩ := H.out.rb.chs
      have HCH := Lib.hid (And.intro hch (And.intro hbox (And.intro H.out.dev H.out.rb.touch)))
      clear hfin hch hbox
      go_upto_region 2 with fail
      refine wp_region_grows (by kernel_rfl) (by kernel_rfl) ?_
      iterate 11 quiet_step (fail)
      refine wpQuiet_nil ?_
      rintro wz ⟨⟨_, hwz⟩, rfl⟩
      have HWZ := Lib.hid hwz
      clear hwz
      go_wp2
      try rw [Exit.noGoto_ret]
      go_ret2
      rw [HFI.out]
      exact ⟨⟨A4, _, c4, xs, rfl, fun _ => ⟨HCH.out.1.below HWZ.out, H.out.cgs, H.out.wh⟩⟩, Box.below HCH.out.2.1 HWZ.out HCH.out.2.1.lt, HCH.out.2.2.1.below HWZ.out, HCH.out.2.2.2.trans (Touch.of_below HWZ.out)⟩
end
end Go.Proofs.YtclhjpageonkgaaGreat
