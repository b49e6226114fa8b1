/-
  DevKeeps, walked.
-/
import Derived.Test.YtemgphpgfdnkeaaKeepQ
import Derived.BigQuiet
namespace Go.Proofs.Ytemgphpgfdnkeaa
open Go.RowKit

set_option maxRecDepth 100000 in
set_option maxHeartbeats 8000000 in
theorem devKeeps_walk (w : World) (A0 : Option Addr) (n0 c0 : Nat) (fs : List UInt8) (h0 : Lies w (fun _ => True) A0 n0 c0 (bc fs)) (Al : Option Addr) (nl cl : Nat) (xs : List Ac) (hl : Acts w Al nl cl xs) (Ak : Option Addr) (nk ck : Nat) (keep : List Int) (hk : Lies w (fun _ => True) Ak nk ck (ics keep)) :
    Calls Try.prog 4 #[.slice A0 n0 c0, .slice Al nl cl, .slice Ak nk ck] w fun e w' => e = .returned (.bool true) ∧ Below w.heap.size w w' := by
  have hfl : fs.length = n0 := by rw [← bc_length]; exact h0.len
  have H0 := Lib.hid h0
  have HL := Lib.hid hl
  have HK := Lib.hid hk
  have HFL := Lib.hid hfl
  clear h0 hl hk hfl
  have hz := (zero_of_info mc_zero).1
  obtain ⟨M0, hM0⟩ : ∃ M : Nat → Nat → Bool, M = fun _ _ => false := ⟨_, rfl⟩
  rw [← hM0] at hz
  have HM0 := Lib.hid hM0
  clear hM0
  go_enter Try.func4, Try.ntmps4
  go_wp2_with fail
  refine (new_yes w 4 (by omega) (by omega)).mono ?_
  rintro e w1 ⟨p, rfl, hd1, hb1⟩
  have H1 := Lib.hid (show KpA w w1 p fs 0 (Dv.new 4) from ⟨hd1.weak (fun k h => h.1), hb1, ⟨rfl, rfl, rfl, Nat.le_refl _⟩, fun i hi => by
    have : i = 0 ∨ i = 1 ∨ i = 2 ∨ i = 3 := by omega
    rcases this with rfl | rfl | rfl | rfl <;> rfl⟩)
  clear hd1 hb1
  by_cases hnk : 200 < nk
  · have l1 : (200 : Int) < (nk : Int) := by omega
    go_wp2
    go_ret
    exact ⟨rfl, H1.out.2.1⟩
  have l1 : ¬ (200 : Int) < (nk : Int) := by omega
  go_wp2_with fail
  go_loopw [9] (fun v wr => ∃ j : Nat, v = .int .i64 (j : Int) ∧ j ≤ 4 ∧ j ≤ n0 ∧ ∃ D, Hid (KpA w wr p fs j D)) (fun v _ => 4 - (intOf v).toNat)
  case atStart => exact ⟨0, rfl, by omega, by omega, _, H1⟩
  case round =>
    obtain ⟨j, rfl, hj4, hjn, D, H⟩ := hrel
    by_cases hj : j < 4 ∧ j < n0
    · obtain ⟨hja, hjb⟩ := hj
      obtain ⟨z, hz'⟩ : ∃ z, fs[j]? = some z := ⟨_, List.getElem?_eq_getElem (by have := HFL.out; omega)⟩
      have hwas : wasB fs j = z := by simp [wasB, List.getD, hz']
      obtain ⟨b, off, rfl, _, hbl, hc⟩ := H0.out.at (show (bc fs)[j]? = some (.int .u8 (z.toNat : Int)) by simp [bc, hz'])
      have hc' : wr.cell? ⟨b, off + j, none⟩ = some (.int .u8 (z.toNat : Int)) := (H.out.2.1.cell (p := ⟨b, off + j, none⟩) hbl).trans hc
      have l2 : (j : Int) < 4 := by omega
      have l3 : (j : Int) < (n0 : Int) := by omega
      clear hc hz'
      go_wp2_with fail
      refine (block_says wr z).mono ?_
      rintro e wb ⟨rfl, hxb, hbb⟩
      have HB := Lib.hid (And.intro hxb hbb)
      clear hxb hbb hc'
      go_wp2_with fail
      refine (write_new H.out.2.1.size H.out.1 HB.out.2 (blkOf z) HB.out.1 (Nat.le_trans H.out.2.2.1.ops (by omega)) H.out.2.2.1.up j (by have := H.out.2.2.1.four; omega)).mono ?_
      rintro e wc ⟨rfl, hdc, hbc⟩
      rw [← hwas] at hdc
      have H2 := Lib.hid (H.out.step hja hdc hbc)
      clear hdc hbc HB H hwas
      go_wp2
      go_roundw
      case rel => exact ⟨j + 1, by go_num, by omega, by omega, _, H2⟩
      case measure => simp [intOf]; omega
    · have hout : (¬ (j : Int) < 4) ∨ ((j : Int) < 4 ∧ ¬ (j : Int) < (n0 : Int)) := by omega
      have hcont : ∀ i, i < 4 → D.blk i = blkOf (wasB fs i) := fun i hi => by
        rw [H.out.2.2.2 i hi]
        by_cases h1 : i < j
        · rw [if_pos h1]
        · rw [if_neg h1]
          have : fs[i]? = none := List.getElem?_eq_none (by have := HFL.out; omega)
          simp [wasB, List.getD, this]
      have HCO := Lib.hid hcont
      clear hcont H1
      rcases hout with l2 | ⟨l2, l3⟩
      · go_wp2_with fail
        refine (flush_up H.out.1 (Nat.le_trans H.out.2.2.1.ops (by omega)) H.out.2.2.1.up).mono ?_
        rintro e w3 ⟨rfl, hd3, ht3⟩
        obtain ⟨D3, hD3⟩ : ∃ d, D.call.flush = d := ⟨_, rfl⟩
        have hU3 : Up4 D3 5 := by rw [← hD3]; exact H.out.2.2.1.call.flush.more (by omega)
        have hw3 : D3.ws = [] := by rw [← hD3]; rfl
        have hc3 : ∀ i, i < 4 → D3.blk i = blkOf (wasB fs i) := by rw [← hD3]; exact HCO.out
        rw [hD3] at hd3
        have H3 := Lib.hid (And.intro hd3 (And.intro (H.out.2.1.trans (ht3.below (fun k h => h) H.out.2.1.size)) (And.intro hU3 (And.intro hw3 hc3))))
        clear hd3 ht3 hU3 hw3 hc3 hD3 H HCO
        go_wp2_with fail
        refine (clone_says H3.out.1 (by rw [H3.out.2.2.2.1]; simp)).mono ?_
        rintro e w4 ⟨q, rfl, hd4, hb4⟩
        have hs34 : w3.heap.size ≤ w4.heap.size := hb4.size
        obtain ⟨w5, hw5⟩ : ∃ x, w4.alloc (.cells (mc M0).toArray 54) = x := ⟨_, rfl⟩
        have hb5 : Below w4.heap.size w4 w5 := by rw [← hw5]; exact (Below.refl _ w4).alloc (Nat.le_refl _) _
        have hK5 : KpB w w5 p q w3.heap.size w4.heap.size M0 D3 D3 :=
          ⟨((H3.out.1.inside.below hb4).weak (fun k h => ⟨h.1, fun h2 => by have := h.2; omega⟩)).below hb5, hd4.below hb5, by rw [← hw5]; exact Box.made w4 _ _, H3.out.2.1.trans ((hb4.trans (hb5.mono hb4.size)).mono H3.out.2.1.size), hs34, H3.out.2.1.size⟩
        have HK5 := Lib.hid hK5
        clear hd4 hb4 hb5 hK5
        go_wp2_with fail
        go_loopw [6, 12, 13, 14] (fun _ v _ _ wr => ∃ j : Nat, v = .int .i64 (j : Int) ∧ j ≤ 4 ∧ ∃ D M, Hid (KpB w wr p q w3.heap.size w4.heap.size M D D3 ∧ Up4 D (5 + j) ∧ D.bs = D3.bs ∧ D.ws = [] ∧ ∀ i, i < j → M i (wasB fs i).toNat = true)) (fun _ v _ _ _ => 4 - (intOf v).toNat)
        case atStart => exact ⟨0, rfl, by omega, D3, M0, Lib.hid ⟨HK5.out, H3.out.2.2.1, rfl, H3.out.2.2.2.1, fun i hi => by omega⟩⟩
        case round =>
          obtain ⟨j2, rfl, hj2, D2, M2, H2⟩ := hrel
          by_cases hlt : j2 < 4
          · have l4 : (j2 : Int) < 4 := by omega
            have hbk : D2.blk j2 = blkOf (wasB fs j2) := by
              rw [Dv.blk, H2.out.2.2.1]
              exact H3.out.2.2.2.2 j2 hlt
            go_wp2_with fail
            refine (read_up H2.out.1.dev (Nat.le_trans H2.out.2.1.ops (by omega)) H2.out.2.1.up j2 (by have := H2.out.2.1.four; omega)).mono ?_
            rintro e w6 ⟨g, rfl, hx6, hg6, hd6, ht6⟩
            rw [hbk] at hx6
            obtain ⟨z, hz6⟩ : ∃ z, wasB fs j2 = z := ⟨_, rfl⟩
            rw [hz6] at hx6
            have hK6 := H2.out.1.turn hd6 ht6
            have c0 : w6.cell? ⟨g, 0, none⟩ = some (.int .u8 (z.toNat : Int)) := by
              rw [Box.cell hx6]
              simpa using be_blkOf z (show 0 < 256 by omega)
            have hz256 : z.toNat < 256 := z.toNat_lt
            have c1 := hK6.cell hlt hz256
            have f1 := hK6.frozen (j2 * 256 + z.toNat)
            have H6 := Lib.hid (show KpB w (w6.drew.setCell ⟨w4.heap.size, j2 * 256 + z.toNat, none⟩ (.bool true)) p q w3.heap.size w4.heap.size (mput M2 j2 z.toNat) D2.call D3 ∧ Up4 D2.call (5 + (j2 + 1)) ∧ D2.call.bs = D3.bs ∧ D2.call.ws = [] ∧ ∀ i, i < j2 + 1 → mput M2 j2 z.toNat i (wasB fs i).toNat = true from
              ⟨hK6.put j2 hz256, H2.out.2.1.call, H2.out.2.2.1, H2.out.2.2.2.1, fun i hi => by
                by_cases e : i = j2
                · subst e
                  rw [hz6]
                  exact mput_new _ _ _
                · exact mput_old (H2.out.2.2.2.2 i (by omega))⟩)
            have l5 : (z.toNat : Int) < 256 := by omega
            clear hx6 hg6 hd6 ht6 hK6 hbk H2 hz6
            generalize z.toNat = zn at *
            go_wp2_with fail
            go_still_tail 6, (by kernel_rfl)
            change wpList _ _ _ _ _ w6.drew
            go_wp2
            go_roundw
            case rel => exact ⟨j2 + 1, by go_num, by omega, _, _, H6⟩
            case measure => simp [intOf]; omega
          · have e4 : (j2 : Int) = 4 := by omega
            rw [e4]
            obtain rfl : j2 = 4 := by omega
            clear e4
            have hC0 : KpC w wr p q w3.heap.size w4.heap.size fs M2 D2 D3 (9 + 0) := ⟨H2.out.1, H2.out.2.1, fun i hi => by
                have : D2.base = D3.bs := by
                  rw [Dv.base, H2.out.2.2.2.1, H2.out.2.2.1]
                  rfl
                rw [this]
                exact H3.out.2.2.2.2 i hi, H2.out.2.2.2.2, fun x hx => by rw [H2.out.2.2.2.1] at hx; cases hx⟩
            have HC0 := Lib.hid hC0
            clear hC0 H2 HK5
            go_wp2_with fail
            go_loopw [6, 15, 16] (fun _ v _ wr => ∃ j : Nat, v = .int .i64 (j : Int) ∧ j ≤ 40 ∧ j ≤ nl ∧ ∃ D M, Hid (KpC w wr p q w3.heap.size w4.heap.size fs M D D3 (9 + j))) (fun _ v _ _ => 40 - (intOf v).toNat)
            case atStart => exact ⟨0, rfl, by omega, by omega, D2, M2, HC0⟩
            case round =>
              obtain ⟨j3, rfl, hj3, hj3n, D4, M4, H4⟩ := hrel
              by_cases hj : j3 < 40 ∧ j3 < nl
              · obtain ⟨hja, hjb⟩ := hj
                obtain ⟨x, bl, ol, hxj, hxm, rfl, hbl, _, k1, k2, _, _⟩ := HL.out.cells hjb
                obtain ⟨m, hm4, hm'⟩ := and_small x.n 3 4 (by decide) (by omega)
                have hm : bits .and .i64 x.n 3 = (m : Int) := hm'
                have c1 : wr.cell? ⟨bl, ol + j3 * 4 + 1, none⟩ = some (.int .i64 x.n) := (H4.out.kp.bel.cell (p := ⟨bl, ol + j3 * 4 + 1, none⟩) hbl).trans k1
                have c2 : wr.cell? ⟨bl, ol + j3 * 4 + 2, none⟩ = some (.int .u8 (x.c.toNat : Int)) := (H4.out.kp.bel.cell (p := ⟨bl, ol + j3 * 4 + 2, none⟩) hbl).trans k2
                have l4 : (j3 : Int) < 40 := by omega
                have l5 : (j3 : Int) < (nl : Int) := by omega
                have HK2 := Lib.hid k2
                clear hm' k1 k2 hxj hxm
                go_wp2_with fail
                refine (block_says wr x.c).mono ?_
                rintro e wb ⟨rfl, hxb, hbb⟩
                have HB := Lib.hid (And.intro hxb hbb)
                clear hxb hbb c1 c2
                go_wp2_with fail
                refine (write_newK H4.out.kp.new H4.out.kp.dev HB.out.2 (blkOf x.c) HB.out.1 (Nat.le_trans H4.out.up.ops (by omega)) H4.out.up.up m (by have := H4.out.up.four; omega)).mono ?_
                rintro e w6 ⟨rfl, hd6, ht6⟩
                have hK6 := H4.out.kp.turn hd6 ht6
                have hm4' : m < D4.call.bs.length := by have h4 := H4.out.up.four; show m < D4.bs.length; omega
                have c2 : w6.cell? ⟨bl, ol + j3 * 4 + 2, none⟩ = some (.int .u8 (x.c.toNat : Int)) := (hK6.bel.cell (p := ⟨bl, ol + j3 * 4 + 2, none⟩) hbl).trans HK2.out
                have hz256 : x.c.toNat < 256 := x.c.toNat_lt
                have c3 := hK6.cell hm4 hz256
                have f3 := hK6.frozen (m * 256 + x.c.toNat)
                have H6 := Lib.hid (show KpC w (w6.drew.setCell ⟨w4.heap.size, m * 256 + x.c.toNat, none⟩ (.bool true)) p q w3.heap.size w4.heap.size fs (mput M4 m x.c.toNat) (D4.call.write m (blkOf x.c)) D3 (9 + (j3 + 1)) from
                  ⟨hK6.put m hz256, H4.out.up.call.write m _, fun i hi => by rw [base_write _ hm4']; exact H4.out.base i hi, fun i hi => mput_old (H4.out.was i hi), fun y hy => by
                    rcases List.mem_append.1 hy with h | h
                    · obtain ⟨c, e1, e2⟩ := H4.out.said y h
                      exact ⟨c, e1, mput_old e2⟩
                    · rw [List.mem_singleton] at h
                      subst h
                      exact ⟨x.c, rfl, mput_new _ _ _⟩⟩)
                have l6 : (x.c.toNat : Int) < 256 := by omega
                have l7 : (m : Int) < 4 := by omega
                clear hd6 ht6 hK6 H4 HB hm4'
                generalize x.c.toNat = zn at *
                generalize x.n = xn at *
                go_wp2_with fail
                go_still_tail 8, (by kernel_rfl)
                change wpList _ _ _ _ _ w6.drew
                go_wp2
                go_roundw
                case rel => exact ⟨j3 + 1, by go_num, by omega, by omega, _, _, H6⟩
                case measure => simp [intOf]; omega
              · have hout : (¬ (j3 : Int) < (nl : Int)) ∨ ((j3 : Int) < (nl : Int) ∧ ¬ (j3 : Int) < 40) := by omega
                have H5 := Lib.hid (show KpC w wr p q w3.heap.size w4.heap.size fs M4 D4 D3 49 from ⟨H4.out.kp, H4.out.up.more (by omega), H4.out.base, H4.out.was, H4.out.said⟩)
                clear H4 HC0
                rcases hout with l4 | ⟨l4, l5⟩
                · go_wp2_with fail
                  have hkl := (HK.out.weak (N' := fun k => k < w.heap.size) (fun b hb _ => hb)).below H5.out.kp.bel
                  refine (fall_says H5.out.kp.dev (Nat.le_trans H5.out.kp.dev.1.count (Nat.le_trans H5.out.up.ops (by omega))) (fun k => k < w.heap.size) Ak nk ck keep hkl (fun k h1 h2 => by have := h2.1; omega)).mono ?_
                  rintro e w7 ⟨rfl, hd7, ht7⟩
                  have hby := H5.out.fall keep
                  have hU7 := H5.out.up.fall keep
                  have hK7 := H5.out.kp.turn hd7 ht7
                  have hws7 : (D4.fall keep).ws = [] := rfl
                  obtain ⟨D7, hD7⟩ : ∃ d, D4.fall keep = d := ⟨_, rfl⟩
                  rw [hD7] at hby hU7 hK7 hws7
                  have H7 := Lib.hid (And.intro hK7 (And.intro hU7 (And.intro hws7 hby)))
                  clear hkl hd7 ht7 hby hU7 hK7 hws7 hD7 H5
                  go_wp2_with fail
                  have hWt := waiting_says H7.out.1.dev
                  rw [H7.out.2.2.1] at hWt
                  refine hWt.mono ?_
                  rintro e wn ⟨rfl, hwn⟩
                  obtain rfl : w7 = wn := hwn.symm
                  clear hwn hWt
                  go_wp2_with fail
                  have hDn := down_says H7.out.1.dev
                  rw [H7.out.2.1.down] at hDn
                  refine hDn.mono ?_
                  rintro e wn ⟨rfl, hwn⟩
                  obtain rfl : w7 = wn := hwn.symm
                  clear hwn hDn
                  go_wp2_with fail
                  go_loopw [6, 17, 18, 19, 20, 21, 22, 23] (fun _ v _ _ _ _ _ _ wr => ∃ j : Nat, v = .int .i64 (j : Int) ∧ j ≤ 4 ∧ ∃ Dd Dc, Hid (KpB w wr p q w3.heap.size w4.heap.size M4 Dd Dc ∧ Up4 Dd (49 + j) ∧ Up4 Dc (5 + j) ∧ Dd.bs = D7.bs ∧ Dc.bs = D3.bs)) (fun _ v _ _ _ _ _ _ _ => 4 - (intOf v).toNat)
                  case atStart => exact ⟨0, rfl, by omega, D7, D3, Lib.hid ⟨H7.out.1, H7.out.2.1, H3.out.2.2.1, rfl, rfl⟩⟩
                  case round =>
                    obtain ⟨j8, rfl, hj8, Dd, Dc, H8⟩ := hrel
                    by_cases hlt8 : j8 < 4
                    · have l6 : (j8 : Int) < 4 := by omega
                      obtain ⟨y, hy⟩ : ∃ y, Dd.blk j8 = y := ⟨_, rfl⟩
                      have hyM : ∀ z ∈ y.1, M4 j8 z.toNat = true := fun z hz => by
                        rw [← hy, Dv.blk, H8.out.2.2.2.1] at hz
                        exact H7.out.2.2.2 j8 hlt8 z hz
                      obtain ⟨u, hu⟩ : ∃ u, wasB fs j8 = u := ⟨_, rfl⟩
                      have hbc : Dc.blk j8 = blkOf u := by
                        rw [Dv.blk, H8.out.2.2.2.2, ← hu]
                        exact H3.out.2.2.2.2 j8 hlt8
                      go_wp2_with fail
                      refine (read_up H8.out.1.dev (Nat.le_trans H8.out.2.1.ops (by omega)) H8.out.2.1.up j8 (by have := H8.out.2.1.four; omega)).mono ?_
                      rintro e w9 ⟨g9, rfl, hx9, hg9, hd9, ht9⟩
                      rw [hy] at hx9
                      have H9 := Lib.hid (And.intro hx9 (And.intro hg9 (H8.out.1.turn hd9 ht9)))
                      clear hx9 hg9 hd9 ht9
                      go_wp2_with fail
                      refine (read_up H9.out.2.2.cl (Nat.le_trans H8.out.2.2.1.ops (by omega)) H8.out.2.2.1.up j8 (by have := H8.out.2.2.1.four; omega)).mono ?_
                      rintro e wx ⟨gx, rfl, hxx, hgx, hdx, htx⟩
                      rw [hbc] at hxx
                      have hx9 := htx.box H9.out.1 (fun h => by have h1 := H9.out.2.1; have h2 := H8.out.1.tab.lt; have h3 := h.2; omega)
                      have HX := Lib.hid (And.intro hx9 (And.intro hxx (H9.out.2.2.turnC hdx htx)))
                      clear hx9 hxx hgx hdx htx
                      have hbelx : Below w.heap.size w wx := HX.out.2.2.bel
                      by_cases hjn8 : j8 < n0
                      · obtain ⟨z, hz'⟩ : ∃ z, fs[j8]? = some z := ⟨_, List.getElem?_eq_getElem (by have := HFL.out; omega)⟩
                        have hwas : u = z := by rw [← hu]; simp [wasB, List.getD, hz']
                        obtain ⟨b0, off0, rfl, _, hbl0, hc0⟩ := H0.out.at (show (bc fs)[j8]? = some (.int .u8 (z.toNat : Int)) by simp [bc, hz'])
                        rw [← hwas] at hc0
                        have hc' : wx.cell? ⟨b0, off0 + j8, none⟩ = some (.int .u8 (u.toNat : Int)) := (hbelx.cell (p := ⟨b0, off0 + j8, none⟩) hbl0).trans hc0
                        have l7 : (j8 : Int) < (n0 : Int) := by omega
                        have HBX := Lib.hid hbelx
                        clear hc0 hz' hwas hbelx hu hbc hy
                        go_wp2_with fail
                        go_loopw [6, 23] (fun _ v wr5 => ∃ k : Nat, v = .int .i64 (k : Int) ∧ k ≤ 256 ∧ Hid (Below wx.heap.size wx wr5)) (fun _ v _ => 256 - (intOf v).toNat)
                        case atStart => exact ⟨0, rfl, by omega, Lib.hid (Below.refl _ _)⟩
                        case round =>
                          obtain ⟨k, rfl, hk, HW⟩ := hrel
                          by_cases hk256 : k < 256
                          · obtain ⟨zz, hzm, hze⟩ := be_at y hk256
                            have m1 : wr.cell? ⟨g9, k, none⟩ = some (.int .u8 (zz.toNat : Int)) := (HW.out.cell (p := ⟨g9, k, none⟩) HX.out.1.lt).trans (by rw [Box.cell HX.out.1]; simpa using hze)
                            have m2 : wr.cell? ⟨gx, k, none⟩ = some (.int .u8 ((u.toNat : Int))) := (HW.out.cell (p := ⟨gx, k, none⟩) HX.out.2.1.lt).trans (by rw [Box.cell HX.out.2.1]; simpa using be_blkOf u hk256)
                            have hz256 : zz.toNat < 256 := zz.toNat_lt
                            have m3 : wr.cell? ⟨w4.heap.size, j8 * 256 + zz.toNat, none⟩ = some (.bool true) := (HW.out.cell (p := ⟨w4.heap.size, j8 * 256 + zz.toNat, none⟩) HX.out.2.2.tab.lt).trans ((HX.out.2.2.cell hlt8 hz256).trans (by rw [hyM zz hzm]))
                            have l8 : (k : Int) < 256 := by omega
                            have l9 : (zz.toNat : Int) < 256 := by omega
                            have HYM := Lib.hid hyM
                            clear hzm hze hyM hc'
                            generalize zz.toNat = zn at *
                            go_wp2_with fail
                            go_quiet (fail)
                            go_wp2
                            go_roundw
                            case rel => exact ⟨k + 1, by go_num, by omega, Lib.hid (below_drewN' HW.out _)⟩
                            case measure => simp [intOf]; omega
                          · have e5 : (k : Int) = 256 := by omega
                            rw [e5]
                            have H10 := Lib.hid (HX.out.2.2.below HW.out)
                            clear e5 hc'
                            go_wp2
                            go_roundw
                            case rel => exact ⟨j8 + 1, by go_num, by omega, _, _, Lib.hid ⟨H10.out, H8.out.2.1.call, H8.out.2.2.1.call, H8.out.2.2.2.1, H8.out.2.2.2.2⟩⟩
                            case measure => simp [intOf]; omega
                      · have hu0 : u = 0 := by
                          have : fs[j8]? = none := List.getElem?_eq_none (by have := HFL.out; omega)
                          rw [← hu]
                          simp [wasB, List.getD, this]
                        subst hu0
                        have l7 : ¬ (j8 : Int) < (n0 : Int) := by omega
                        have HBX := Lib.hid hbelx
                        clear hbelx hu hbc hy
                        go_wp2_with fail
                        go_loopw [6, 23] (fun _ v wr5 => ∃ k : Nat, v = .int .i64 (k : Int) ∧ k ≤ 256 ∧ Hid (Below wx.heap.size wx wr5)) (fun _ v _ => 256 - (intOf v).toNat)
                        case atStart => exact ⟨0, rfl, by omega, Lib.hid (Below.refl _ _)⟩
                        case round =>
                          obtain ⟨k, rfl, hk, HW⟩ := hrel
                          by_cases hk256 : k < 256
                          · obtain ⟨zz, hzm, hze⟩ := be_at y hk256
                            have m1 : wr.cell? ⟨g9, k, none⟩ = some (.int .u8 (zz.toNat : Int)) := (HW.out.cell (p := ⟨g9, k, none⟩) HX.out.1.lt).trans (by rw [Box.cell HX.out.1]; simpa using hze)
                            have m2 : wr.cell? ⟨gx, k, none⟩ = some (.int .u8 (0)) := (HW.out.cell (p := ⟨gx, k, none⟩) HX.out.2.1.lt).trans (by rw [Box.cell HX.out.2.1]; simpa using be_blkOf 0 hk256)
                            have hz256 : zz.toNat < 256 := zz.toNat_lt
                            have m3 : wr.cell? ⟨w4.heap.size, j8 * 256 + zz.toNat, none⟩ = some (.bool true) := (HW.out.cell (p := ⟨w4.heap.size, j8 * 256 + zz.toNat, none⟩) HX.out.2.2.tab.lt).trans ((HX.out.2.2.cell hlt8 hz256).trans (by rw [hyM zz hzm]))
                            have l8 : (k : Int) < 256 := by omega
                            have l9 : (zz.toNat : Int) < 256 := by omega
                            have HYM := Lib.hid hyM
                            clear hzm hze hyM
                            generalize zz.toNat = zn at *
                            go_wp2_with fail
                            go_quiet (fail)
                            go_wp2
                            go_roundw
                            case rel => exact ⟨k + 1, by go_num, by omega, Lib.hid (below_drewN' HW.out _)⟩
                            case measure => simp [intOf]; omega
                          · have e5 : (k : Int) = 256 := by omega
                            rw [e5]
                            have H10 := Lib.hid (HX.out.2.2.below HW.out)
                            clear e5
                            go_wp2
                            go_roundw
                            case rel => exact ⟨j8 + 1, by go_num, by omega, _, _, Lib.hid ⟨H10.out, H8.out.2.1.call, H8.out.2.2.1.call, H8.out.2.2.2.1, H8.out.2.2.2.2⟩⟩
                            case measure => simp [intOf]; omega
                    · have e6 : (j8 : Int) = 4 := by omega
                      rw [e6]
                      have HBF := Lib.hid H8.out.1.bel
                      go_wp2_with fail
                      refine (one_says _).mono ?_
                      rintro e we ⟨rfl, hbe⟩
                      have HBE := Lib.hid (HBF.out.trans (hbe.mono HBF.out.size))
                      clear hbe
                      go_wp2
                      go_ret
                      exact ⟨rfl, HBE.out⟩
                · go_wp2_with fail
                  have hkl := (HK.out.weak (N' := fun k => k < w.heap.size) (fun b hb _ => hb)).below H5.out.kp.bel
                  refine (fall_says H5.out.kp.dev (Nat.le_trans H5.out.kp.dev.1.count (Nat.le_trans H5.out.up.ops (by omega))) (fun k => k < w.heap.size) Ak nk ck keep hkl (fun k h1 h2 => by have := h2.1; omega)).mono ?_
                  rintro e w7 ⟨rfl, hd7, ht7⟩
                  have hby := H5.out.fall keep
                  have hU7 := H5.out.up.fall keep
                  have hK7 := H5.out.kp.turn hd7 ht7
                  have hws7 : (D4.fall keep).ws = [] := rfl
                  obtain ⟨D7, hD7⟩ : ∃ d, D4.fall keep = d := ⟨_, rfl⟩
                  rw [hD7] at hby hU7 hK7 hws7
                  have H7 := Lib.hid (And.intro hK7 (And.intro hU7 (And.intro hws7 hby)))
                  clear hkl hd7 ht7 hby hU7 hK7 hws7 hD7 H5
                  go_wp2_with fail
                  have hWt := waiting_says H7.out.1.dev
                  rw [H7.out.2.2.1] at hWt
                  refine hWt.mono ?_
                  rintro e wn ⟨rfl, hwn⟩
                  obtain rfl : w7 = wn := hwn.symm
                  clear hwn hWt
                  go_wp2_with fail
                  have hDn := down_says H7.out.1.dev
                  rw [H7.out.2.1.down] at hDn
                  refine hDn.mono ?_
                  rintro e wn ⟨rfl, hwn⟩
                  obtain rfl : w7 = wn := hwn.symm
                  clear hwn hDn
                  go_wp2_with fail
                  go_loopw [6, 17, 18, 19, 20, 21, 22, 23] (fun _ v _ _ _ _ _ _ wr => ∃ j : Nat, v = .int .i64 (j : Int) ∧ j ≤ 4 ∧ ∃ Dd Dc, Hid (KpB w wr p q w3.heap.size w4.heap.size M4 Dd Dc ∧ Up4 Dd (49 + j) ∧ Up4 Dc (5 + j) ∧ Dd.bs = D7.bs ∧ Dc.bs = D3.bs)) (fun _ v _ _ _ _ _ _ _ => 4 - (intOf v).toNat)
                  case atStart => exact ⟨0, rfl, by omega, D7, D3, Lib.hid ⟨H7.out.1, H7.out.2.1, H3.out.2.2.1, rfl, rfl⟩⟩
                  case round =>
                    obtain ⟨j8, rfl, hj8, Dd, Dc, H8⟩ := hrel
                    by_cases hlt8 : j8 < 4
                    · have l6 : (j8 : Int) < 4 := by omega
                      obtain ⟨y, hy⟩ : ∃ y, Dd.blk j8 = y := ⟨_, rfl⟩
                      have hyM : ∀ z ∈ y.1, M4 j8 z.toNat = true := fun z hz => by
                        rw [← hy, Dv.blk, H8.out.2.2.2.1] at hz
                        exact H7.out.2.2.2 j8 hlt8 z hz
                      obtain ⟨u, hu⟩ : ∃ u, wasB fs j8 = u := ⟨_, rfl⟩
                      have hbc : Dc.blk j8 = blkOf u := by
                        rw [Dv.blk, H8.out.2.2.2.2, ← hu]
                        exact H3.out.2.2.2.2 j8 hlt8
                      go_wp2_with fail
                      refine (read_up H8.out.1.dev (Nat.le_trans H8.out.2.1.ops (by omega)) H8.out.2.1.up j8 (by have := H8.out.2.1.four; omega)).mono ?_
                      rintro e w9 ⟨g9, rfl, hx9, hg9, hd9, ht9⟩
                      rw [hy] at hx9
                      have H9 := Lib.hid (And.intro hx9 (And.intro hg9 (H8.out.1.turn hd9 ht9)))
                      clear hx9 hg9 hd9 ht9
                      go_wp2_with fail
                      refine (read_up H9.out.2.2.cl (Nat.le_trans H8.out.2.2.1.ops (by omega)) H8.out.2.2.1.up j8 (by have := H8.out.2.2.1.four; omega)).mono ?_
                      rintro e wx ⟨gx, rfl, hxx, hgx, hdx, htx⟩
                      rw [hbc] at hxx
                      have hx9 := htx.box H9.out.1 (fun h => by have h1 := H9.out.2.1; have h2 := H8.out.1.tab.lt; have h3 := h.2; omega)
                      have HX := Lib.hid (And.intro hx9 (And.intro hxx (H9.out.2.2.turnC hdx htx)))
                      clear hx9 hxx hgx hdx htx
                      have hbelx : Below w.heap.size w wx := HX.out.2.2.bel
                      by_cases hjn8 : j8 < n0
                      · obtain ⟨z, hz'⟩ : ∃ z, fs[j8]? = some z := ⟨_, List.getElem?_eq_getElem (by have := HFL.out; omega)⟩
                        have hwas : u = z := by rw [← hu]; simp [wasB, List.getD, hz']
                        obtain ⟨b0, off0, rfl, _, hbl0, hc0⟩ := H0.out.at (show (bc fs)[j8]? = some (.int .u8 (z.toNat : Int)) by simp [bc, hz'])
                        rw [← hwas] at hc0
                        have hc' : wx.cell? ⟨b0, off0 + j8, none⟩ = some (.int .u8 (u.toNat : Int)) := (hbelx.cell (p := ⟨b0, off0 + j8, none⟩) hbl0).trans hc0
                        have l7 : (j8 : Int) < (n0 : Int) := by omega
                        have HBX := Lib.hid hbelx
                        clear hc0 hz' hwas hbelx hu hbc hy
                        go_wp2_with fail
                        go_loopw [6, 23] (fun _ v wr5 => ∃ k : Nat, v = .int .i64 (k : Int) ∧ k ≤ 256 ∧ Hid (Below wx.heap.size wx wr5)) (fun _ v _ => 256 - (intOf v).toNat)
                        case atStart => exact ⟨0, rfl, by omega, Lib.hid (Below.refl _ _)⟩
                        case round =>
                          obtain ⟨k, rfl, hk, HW⟩ := hrel
                          by_cases hk256 : k < 256
                          · obtain ⟨zz, hzm, hze⟩ := be_at y hk256
                            have m1 : wr.cell? ⟨g9, k, none⟩ = some (.int .u8 (zz.toNat : Int)) := (HW.out.cell (p := ⟨g9, k, none⟩) HX.out.1.lt).trans (by rw [Box.cell HX.out.1]; simpa using hze)
                            have m2 : wr.cell? ⟨gx, k, none⟩ = some (.int .u8 ((u.toNat : Int))) := (HW.out.cell (p := ⟨gx, k, none⟩) HX.out.2.1.lt).trans (by rw [Box.cell HX.out.2.1]; simpa using be_blkOf u hk256)
                            have hz256 : zz.toNat < 256 := zz.toNat_lt
                            have m3 : wr.cell? ⟨w4.heap.size, j8 * 256 + zz.toNat, none⟩ = some (.bool true) := (HW.out.cell (p := ⟨w4.heap.size, j8 * 256 + zz.toNat, none⟩) HX.out.2.2.tab.lt).trans ((HX.out.2.2.cell hlt8 hz256).trans (by rw [hyM zz hzm]))
                            have l8 : (k : Int) < 256 := by omega
                            have l9 : (zz.toNat : Int) < 256 := by omega
                            have HYM := Lib.hid hyM
                            clear hzm hze hyM hc'
                            generalize zz.toNat = zn at *
                            go_wp2_with fail
                            go_quiet (fail)
                            go_wp2
                            go_roundw
                            case rel => exact ⟨k + 1, by go_num, by omega, Lib.hid (below_drewN' HW.out _)⟩
                            case measure => simp [intOf]; omega
                          · have e5 : (k : Int) = 256 := by omega
                            rw [e5]
                            have H10 := Lib.hid (HX.out.2.2.below HW.out)
                            clear e5 hc'
                            go_wp2
                            go_roundw
                            case rel => exact ⟨j8 + 1, by go_num, by omega, _, _, Lib.hid ⟨H10.out, H8.out.2.1.call, H8.out.2.2.1.call, H8.out.2.2.2.1, H8.out.2.2.2.2⟩⟩
                            case measure => simp [intOf]; omega
                      · have hu0 : u = 0 := by
                          have : fs[j8]? = none := List.getElem?_eq_none (by have := HFL.out; omega)
                          rw [← hu]
                          simp [wasB, List.getD, this]
                        subst hu0
                        have l7 : ¬ (j8 : Int) < (n0 : Int) := by omega
                        have HBX := Lib.hid hbelx
                        clear hbelx hu hbc hy
                        go_wp2_with fail
                        go_loopw [6, 23] (fun _ v wr5 => ∃ k : Nat, v = .int .i64 (k : Int) ∧ k ≤ 256 ∧ Hid (Below wx.heap.size wx wr5)) (fun _ v _ => 256 - (intOf v).toNat)
                        case atStart => exact ⟨0, rfl, by omega, Lib.hid (Below.refl _ _)⟩
                        case round =>
                          obtain ⟨k, rfl, hk, HW⟩ := hrel
                          by_cases hk256 : k < 256
                          · obtain ⟨zz, hzm, hze⟩ := be_at y hk256
                            have m1 : wr.cell? ⟨g9, k, none⟩ = some (.int .u8 (zz.toNat : Int)) := (HW.out.cell (p := ⟨g9, k, none⟩) HX.out.1.lt).trans (by rw [Box.cell HX.out.1]; simpa using hze)
                            have m2 : wr.cell? ⟨gx, k, none⟩ = some (.int .u8 (0)) := (HW.out.cell (p := ⟨gx, k, none⟩) HX.out.2.1.lt).trans (by rw [Box.cell HX.out.2.1]; simpa using be_blkOf 0 hk256)
                            have hz256 : zz.toNat < 256 := zz.toNat_lt
                            have m3 : wr.cell? ⟨w4.heap.size, j8 * 256 + zz.toNat, none⟩ = some (.bool true) := (HW.out.cell (p := ⟨w4.heap.size, j8 * 256 + zz.toNat, none⟩) HX.out.2.2.tab.lt).trans ((HX.out.2.2.cell hlt8 hz256).trans (by rw [hyM zz hzm]))
                            have l8 : (k : Int) < 256 := by omega
                            have l9 : (zz.toNat : Int) < 256 := by omega
                            have HYM := Lib.hid hyM
                            clear hzm hze hyM
                            generalize zz.toNat = zn at *
                            go_wp2_with fail
                            go_quiet (fail)
                            go_wp2
                            go_roundw
                            case rel => exact ⟨k + 1, by go_num, by omega, Lib.hid (below_drewN' HW.out _)⟩
                            case measure => simp [intOf]; omega
                          · have e5 : (k : Int) = 256 := by omega
                            rw [e5]
                            have H10 := Lib.hid (HX.out.2.2.below HW.out)
                            clear e5
                            go_wp2
                            go_roundw
                            case rel => exact ⟨j8 + 1, by go_num, by omega, _, _, Lib.hid ⟨H10.out, H8.out.2.1.call, H8.out.2.2.1.call, H8.out.2.2.2.1, H8.out.2.2.2.2⟩⟩
                            case measure => simp [intOf]; omega
                    · have e6 : (j8 : Int) = 4 := by omega
                      rw [e6]
                      have HBF := Lib.hid H8.out.1.bel
                      go_wp2_with fail
                      refine (one_says _).mono ?_
                      rintro e we ⟨rfl, hbe⟩
                      have HBE := Lib.hid (HBF.out.trans (hbe.mono HBF.out.size))
                      clear hbe
                      go_wp2
                      go_ret
                      exact ⟨rfl, HBE.out⟩
      · go_wp2_with fail
        refine (flush_up H.out.1 (Nat.le_trans H.out.2.2.1.ops (by omega)) H.out.2.2.1.up).mono ?_
        rintro e w3 ⟨rfl, hd3, ht3⟩
        obtain ⟨D3, hD3⟩ : ∃ d, D.call.flush = d := ⟨_, rfl⟩
        have hU3 : Up4 D3 5 := by rw [← hD3]; exact H.out.2.2.1.call.flush.more (by omega)
        have hw3 : D3.ws = [] := by rw [← hD3]; rfl
        have hc3 : ∀ i, i < 4 → D3.blk i = blkOf (wasB fs i) := by rw [← hD3]; exact HCO.out
        rw [hD3] at hd3
        have H3 := Lib.hid (And.intro hd3 (And.intro (H.out.2.1.trans (ht3.below (fun k h => h) H.out.2.1.size)) (And.intro hU3 (And.intro hw3 hc3))))
        clear hd3 ht3 hU3 hw3 hc3 hD3 H HCO
        go_wp2_with fail
        refine (clone_says H3.out.1 (by rw [H3.out.2.2.2.1]; simp)).mono ?_
        rintro e w4 ⟨q, rfl, hd4, hb4⟩
        have hs34 : w3.heap.size ≤ w4.heap.size := hb4.size
        obtain ⟨w5, hw5⟩ : ∃ x, w4.alloc (.cells (mc M0).toArray 54) = x := ⟨_, rfl⟩
        have hb5 : Below w4.heap.size w4 w5 := by rw [← hw5]; exact (Below.refl _ w4).alloc (Nat.le_refl _) _
        have hK5 : KpB w w5 p q w3.heap.size w4.heap.size M0 D3 D3 :=
          ⟨((H3.out.1.inside.below hb4).weak (fun k h => ⟨h.1, fun h2 => by have := h.2; omega⟩)).below hb5, hd4.below hb5, by rw [← hw5]; exact Box.made w4 _ _, H3.out.2.1.trans ((hb4.trans (hb5.mono hb4.size)).mono H3.out.2.1.size), hs34, H3.out.2.1.size⟩
        have HK5 := Lib.hid hK5
        clear hd4 hb4 hb5 hK5
        go_wp2_with fail
        go_loopw [6, 12, 13, 14] (fun _ v _ _ wr => ∃ j : Nat, v = .int .i64 (j : Int) ∧ j ≤ 4 ∧ ∃ D M, Hid (KpB w wr p q w3.heap.size w4.heap.size M D D3 ∧ Up4 D (5 + j) ∧ D.bs = D3.bs ∧ D.ws = [] ∧ ∀ i, i < j → M i (wasB fs i).toNat = true)) (fun _ v _ _ _ => 4 - (intOf v).toNat)
        case atStart => exact ⟨0, rfl, by omega, D3, M0, Lib.hid ⟨HK5.out, H3.out.2.2.1, rfl, H3.out.2.2.2.1, fun i hi => by omega⟩⟩
        case round =>
          obtain ⟨j2, rfl, hj2, D2, M2, H2⟩ := hrel
          by_cases hlt : j2 < 4
          · have l4 : (j2 : Int) < 4 := by omega
            have hbk : D2.blk j2 = blkOf (wasB fs j2) := by
              rw [Dv.blk, H2.out.2.2.1]
              exact H3.out.2.2.2.2 j2 hlt
            go_wp2_with fail
            refine (read_up H2.out.1.dev (Nat.le_trans H2.out.2.1.ops (by omega)) H2.out.2.1.up j2 (by have := H2.out.2.1.four; omega)).mono ?_
            rintro e w6 ⟨g, rfl, hx6, hg6, hd6, ht6⟩
            rw [hbk] at hx6
            obtain ⟨z, hz6⟩ : ∃ z, wasB fs j2 = z := ⟨_, rfl⟩
            rw [hz6] at hx6
            have hK6 := H2.out.1.turn hd6 ht6
            have c0 : w6.cell? ⟨g, 0, none⟩ = some (.int .u8 (z.toNat : Int)) := by
              rw [Box.cell hx6]
              simpa using be_blkOf z (show 0 < 256 by omega)
            have hz256 : z.toNat < 256 := z.toNat_lt
            have c1 := hK6.cell hlt hz256
            have f1 := hK6.frozen (j2 * 256 + z.toNat)
            have H6 := Lib.hid (show KpB w (w6.drew.setCell ⟨w4.heap.size, j2 * 256 + z.toNat, none⟩ (.bool true)) p q w3.heap.size w4.heap.size (mput M2 j2 z.toNat) D2.call D3 ∧ Up4 D2.call (5 + (j2 + 1)) ∧ D2.call.bs = D3.bs ∧ D2.call.ws = [] ∧ ∀ i, i < j2 + 1 → mput M2 j2 z.toNat i (wasB fs i).toNat = true from
              ⟨hK6.put j2 hz256, H2.out.2.1.call, H2.out.2.2.1, H2.out.2.2.2.1, fun i hi => by
                by_cases e : i = j2
                · subst e
                  rw [hz6]
                  exact mput_new _ _ _
                · exact mput_old (H2.out.2.2.2.2 i (by omega))⟩)
            have l5 : (z.toNat : Int) < 256 := by omega
            clear hx6 hg6 hd6 ht6 hK6 hbk H2 hz6
            generalize z.toNat = zn at *
            go_wp2_with fail
            go_still_tail 6, (by kernel_rfl)
            change wpList _ _ _ _ _ w6.drew
            go_wp2
            go_roundw
            case rel => exact ⟨j2 + 1, by go_num, by omega, _, _, H6⟩
            case measure => simp [intOf]; omega
          · have e4 : (j2 : Int) = 4 := by omega
            rw [e4]
            obtain rfl : j2 = 4 := by omega
            clear e4
            have hC0 : KpC w wr p q w3.heap.size w4.heap.size fs M2 D2 D3 (9 + 0) := ⟨H2.out.1, H2.out.2.1, fun i hi => by
                have : D2.base = D3.bs := by
                  rw [Dv.base, H2.out.2.2.2.1, H2.out.2.2.1]
                  rfl
                rw [this]
                exact H3.out.2.2.2.2 i hi, H2.out.2.2.2.2, fun x hx => by rw [H2.out.2.2.2.1] at hx; cases hx⟩
            have HC0 := Lib.hid hC0
            clear hC0 H2 HK5
            go_wp2_with fail
            go_loopw [6, 15, 16] (fun _ v _ wr => ∃ j : Nat, v = .int .i64 (j : Int) ∧ j ≤ 40 ∧ j ≤ nl ∧ ∃ D M, Hid (KpC w wr p q w3.heap.size w4.heap.size fs M D D3 (9 + j))) (fun _ v _ _ => 40 - (intOf v).toNat)
            case atStart => exact ⟨0, rfl, by omega, by omega, D2, M2, HC0⟩
            case round =>
              obtain ⟨j3, rfl, hj3, hj3n, D4, M4, H4⟩ := hrel
              by_cases hj : j3 < 40 ∧ j3 < nl
              · obtain ⟨hja, hjb⟩ := hj
                obtain ⟨x, bl, ol, hxj, hxm, rfl, hbl, _, k1, k2, _, _⟩ := HL.out.cells hjb
                obtain ⟨m, hm4, hm'⟩ := and_small x.n 3 4 (by decide) (by omega)
                have hm : bits .and .i64 x.n 3 = (m : Int) := hm'
                have c1 : wr.cell? ⟨bl, ol + j3 * 4 + 1, none⟩ = some (.int .i64 x.n) := (H4.out.kp.bel.cell (p := ⟨bl, ol + j3 * 4 + 1, none⟩) hbl).trans k1
                have c2 : wr.cell? ⟨bl, ol + j3 * 4 + 2, none⟩ = some (.int .u8 (x.c.toNat : Int)) := (H4.out.kp.bel.cell (p := ⟨bl, ol + j3 * 4 + 2, none⟩) hbl).trans k2
                have l4 : (j3 : Int) < 40 := by omega
                have l5 : (j3 : Int) < (nl : Int) := by omega
                have HK2 := Lib.hid k2
                clear hm' k1 k2 hxj hxm
                go_wp2_with fail
                refine (block_says wr x.c).mono ?_
                rintro e wb ⟨rfl, hxb, hbb⟩
                have HB := Lib.hid (And.intro hxb hbb)
                clear hxb hbb c1 c2
                go_wp2_with fail
                refine (write_newK H4.out.kp.new H4.out.kp.dev HB.out.2 (blkOf x.c) HB.out.1 (Nat.le_trans H4.out.up.ops (by omega)) H4.out.up.up m (by have := H4.out.up.four; omega)).mono ?_
                rintro e w6 ⟨rfl, hd6, ht6⟩
                have hK6 := H4.out.kp.turn hd6 ht6
                have hm4' : m < D4.call.bs.length := by have h4 := H4.out.up.four; show m < D4.bs.length; omega
                have c2 : w6.cell? ⟨bl, ol + j3 * 4 + 2, none⟩ = some (.int .u8 (x.c.toNat : Int)) := (hK6.bel.cell (p := ⟨bl, ol + j3 * 4 + 2, none⟩) hbl).trans HK2.out
                have hz256 : x.c.toNat < 256 := x.c.toNat_lt
                have c3 := hK6.cell hm4 hz256
                have f3 := hK6.frozen (m * 256 + x.c.toNat)
                have H6 := Lib.hid (show KpC w (w6.drew.setCell ⟨w4.heap.size, m * 256 + x.c.toNat, none⟩ (.bool true)) p q w3.heap.size w4.heap.size fs (mput M4 m x.c.toNat) (D4.call.write m (blkOf x.c)) D3 (9 + (j3 + 1)) from
                  ⟨hK6.put m hz256, H4.out.up.call.write m _, fun i hi => by rw [base_write _ hm4']; exact H4.out.base i hi, fun i hi => mput_old (H4.out.was i hi), fun y hy => by
                    rcases List.mem_append.1 hy with h | h
                    · obtain ⟨c, e1, e2⟩ := H4.out.said y h
                      exact ⟨c, e1, mput_old e2⟩
                    · rw [List.mem_singleton] at h
                      subst h
                      exact ⟨x.c, rfl, mput_new _ _ _⟩⟩)
                have l6 : (x.c.toNat : Int) < 256 := by omega
                have l7 : (m : Int) < 4 := by omega
                clear hd6 ht6 hK6 H4 HB hm4'
                generalize x.c.toNat = zn at *
                generalize x.n = xn at *
                go_wp2_with fail
                go_still_tail 8, (by kernel_rfl)
                change wpList _ _ _ _ _ w6.drew
                go_wp2
                go_roundw
                case rel => exact ⟨j3 + 1, by go_num, by omega, by omega, _, _, H6⟩
                case measure => simp [intOf]; omega
              · have hout : (¬ (j3 : Int) < (nl : Int)) ∨ ((j3 : Int) < (nl : Int) ∧ ¬ (j3 : Int) < 40) := by omega
                have H5 := Lib.hid (show KpC w wr p q w3.heap.size w4.heap.size fs M4 D4 D3 49 from ⟨H4.out.kp, H4.out.up.more (by omega), H4.out.base, H4.out.was, H4.out.said⟩)
                clear H4 HC0
                rcases hout with l4 | ⟨l4, l5⟩
                · go_wp2_with fail
                  have hkl := (HK.out.weak (N' := fun k => k < w.heap.size) (fun b hb _ => hb)).below H5.out.kp.bel
                  refine (fall_says H5.out.kp.dev (Nat.le_trans H5.out.kp.dev.1.count (Nat.le_trans H5.out.up.ops (by omega))) (fun k => k < w.heap.size) Ak nk ck keep hkl (fun k h1 h2 => by have := h2.1; omega)).mono ?_
                  rintro e w7 ⟨rfl, hd7, ht7⟩
                  have hby := H5.out.fall keep
                  have hU7 := H5.out.up.fall keep
                  have hK7 := H5.out.kp.turn hd7 ht7
                  have hws7 : (D4.fall keep).ws = [] := rfl
                  obtain ⟨D7, hD7⟩ : ∃ d, D4.fall keep = d := ⟨_, rfl⟩
                  rw [hD7] at hby hU7 hK7 hws7
                  have H7 := Lib.hid (And.intro hK7 (And.intro hU7 (And.intro hws7 hby)))
                  clear hkl hd7 ht7 hby hU7 hK7 hws7 hD7 H5
                  go_wp2_with fail
                  have hWt := waiting_says H7.out.1.dev
                  rw [H7.out.2.2.1] at hWt
                  refine hWt.mono ?_
                  rintro e wn ⟨rfl, hwn⟩
                  obtain rfl : w7 = wn := hwn.symm
                  clear hwn hWt
                  go_wp2_with fail
                  have hDn := down_says H7.out.1.dev
                  rw [H7.out.2.1.down] at hDn
                  refine hDn.mono ?_
                  rintro e wn ⟨rfl, hwn⟩
                  obtain rfl : w7 = wn := hwn.symm
                  clear hwn hDn
                  go_wp2_with fail
                  go_loopw [6, 17, 18, 19, 20, 21, 22, 23] (fun _ v _ _ _ _ _ _ wr => ∃ j : Nat, v = .int .i64 (j : Int) ∧ j ≤ 4 ∧ ∃ Dd Dc, Hid (KpB w wr p q w3.heap.size w4.heap.size M4 Dd Dc ∧ Up4 Dd (49 + j) ∧ Up4 Dc (5 + j) ∧ Dd.bs = D7.bs ∧ Dc.bs = D3.bs)) (fun _ v _ _ _ _ _ _ _ => 4 - (intOf v).toNat)
                  case atStart => exact ⟨0, rfl, by omega, D7, D3, Lib.hid ⟨H7.out.1, H7.out.2.1, H3.out.2.2.1, rfl, rfl⟩⟩
                  case round =>
                    obtain ⟨j8, rfl, hj8, Dd, Dc, H8⟩ := hrel
                    by_cases hlt8 : j8 < 4
                    · have l6 : (j8 : Int) < 4 := by omega
                      obtain ⟨y, hy⟩ : ∃ y, Dd.blk j8 = y := ⟨_, rfl⟩
                      have hyM : ∀ z ∈ y.1, M4 j8 z.toNat = true := fun z hz => by
                        rw [← hy, Dv.blk, H8.out.2.2.2.1] at hz
                        exact H7.out.2.2.2 j8 hlt8 z hz
                      obtain ⟨u, hu⟩ : ∃ u, wasB fs j8 = u := ⟨_, rfl⟩
                      have hbc : Dc.blk j8 = blkOf u := by
                        rw [Dv.blk, H8.out.2.2.2.2, ← hu]
                        exact H3.out.2.2.2.2 j8 hlt8
                      go_wp2_with fail
                      refine (read_up H8.out.1.dev (Nat.le_trans H8.out.2.1.ops (by omega)) H8.out.2.1.up j8 (by have := H8.out.2.1.four; omega)).mono ?_
                      rintro e w9 ⟨g9, rfl, hx9, hg9, hd9, ht9⟩
                      rw [hy] at hx9
                      have H9 := Lib.hid (And.intro hx9 (And.intro hg9 (H8.out.1.turn hd9 ht9)))
                      clear hx9 hg9 hd9 ht9
                      go_wp2_with fail
                      refine (read_up H9.out.2.2.cl (Nat.le_trans H8.out.2.2.1.ops (by omega)) H8.out.2.2.1.up j8 (by have := H8.out.2.2.1.four; omega)).mono ?_
                      rintro e wx ⟨gx, rfl, hxx, hgx, hdx, htx⟩
                      rw [hbc] at hxx
                      have hx9 := htx.box H9.out.1 (fun h => by have h1 := H9.out.2.1; have h2 := H8.out.1.tab.lt; have h3 := h.2; omega)
                      have HX := Lib.hid (And.intro hx9 (And.intro hxx (H9.out.2.2.turnC hdx htx)))
                      clear hx9 hxx hgx hdx htx
                      have hbelx : Below w.heap.size w wx := HX.out.2.2.bel
                      by_cases hjn8 : j8 < n0
                      · obtain ⟨z, hz'⟩ : ∃ z, fs[j8]? = some z := ⟨_, List.getElem?_eq_getElem (by have := HFL.out; omega)⟩
                        have hwas : u = z := by rw [← hu]; simp [wasB, List.getD, hz']
                        obtain ⟨b0, off0, rfl, _, hbl0, hc0⟩ := H0.out.at (show (bc fs)[j8]? = some (.int .u8 (z.toNat : Int)) by simp [bc, hz'])
                        rw [← hwas] at hc0
                        have hc' : wx.cell? ⟨b0, off0 + j8, none⟩ = some (.int .u8 (u.toNat : Int)) := (hbelx.cell (p := ⟨b0, off0 + j8, none⟩) hbl0).trans hc0
                        have l7 : (j8 : Int) < (n0 : Int) := by omega
                        have HBX := Lib.hid hbelx
                        clear hc0 hz' hwas hbelx hu hbc hy
                        go_wp2_with fail
                        go_loopw [6, 23] (fun _ v wr5 => ∃ k : Nat, v = .int .i64 (k : Int) ∧ k ≤ 256 ∧ Hid (Below wx.heap.size wx wr5)) (fun _ v _ => 256 - (intOf v).toNat)
                        case atStart => exact ⟨0, rfl, by omega, Lib.hid (Below.refl _ _)⟩
                        case round =>
                          obtain ⟨k, rfl, hk, HW⟩ := hrel
                          by_cases hk256 : k < 256
                          · obtain ⟨zz, hzm, hze⟩ := be_at y hk256
                            have m1 : wr.cell? ⟨g9, k, none⟩ = some (.int .u8 (zz.toNat : Int)) := (HW.out.cell (p := ⟨g9, k, none⟩) HX.out.1.lt).trans (by rw [Box.cell HX.out.1]; simpa using hze)
                            have m2 : wr.cell? ⟨gx, k, none⟩ = some (.int .u8 ((u.toNat : Int))) := (HW.out.cell (p := ⟨gx, k, none⟩) HX.out.2.1.lt).trans (by rw [Box.cell HX.out.2.1]; simpa using be_blkOf u hk256)
                            have hz256 : zz.toNat < 256 := zz.toNat_lt
                            have m3 : wr.cell? ⟨w4.heap.size, j8 * 256 + zz.toNat, none⟩ = some (.bool true) := (HW.out.cell (p := ⟨w4.heap.size, j8 * 256 + zz.toNat, none⟩) HX.out.2.2.tab.lt).trans ((HX.out.2.2.cell hlt8 hz256).trans (by rw [hyM zz hzm]))
                            have l8 : (k : Int) < 256 := by omega
                            have l9 : (zz.toNat : Int) < 256 := by omega
                            have HYM := Lib.hid hyM
                            clear hzm hze hyM hc'
                            generalize zz.toNat = zn at *
                            go_wp2_with fail
                            go_quiet (fail)
                            go_wp2
                            go_roundw
                            case rel => exact ⟨k + 1, by go_num, by omega, Lib.hid (below_drewN' HW.out _)⟩
                            case measure => simp [intOf]; omega
                          · have e5 : (k : Int) = 256 := by omega
                            rw [e5]
                            have H10 := Lib.hid (HX.out.2.2.below HW.out)
                            clear e5 hc'
                            go_wp2
                            go_roundw
                            case rel => exact ⟨j8 + 1, by go_num, by omega, _, _, Lib.hid ⟨H10.out, H8.out.2.1.call, H8.out.2.2.1.call, H8.out.2.2.2.1, H8.out.2.2.2.2⟩⟩
                            case measure => simp [intOf]; omega
                      · have hu0 : u = 0 := by
                          have : fs[j8]? = none := List.getElem?_eq_none (by have := HFL.out; omega)
                          rw [← hu]
                          simp [wasB, List.getD, this]
                        subst hu0
                        have l7 : ¬ (j8 : Int) < (n0 : Int) := by omega
                        have HBX := Lib.hid hbelx
                        clear hbelx hu hbc hy
                        go_wp2_with fail
                        go_loopw [6, 23] (fun _ v wr5 => ∃ k : Nat, v = .int .i64 (k : Int) ∧ k ≤ 256 ∧ Hid (Below wx.heap.size wx wr5)) (fun _ v _ => 256 - (intOf v).toNat)
                        case atStart => exact ⟨0, rfl, by omega, Lib.hid (Below.refl _ _)⟩
                        case round =>
                          obtain ⟨k, rfl, hk, HW⟩ := hrel
                          by_cases hk256 : k < 256
                          · obtain ⟨zz, hzm, hze⟩ := be_at y hk256
                            have m1 : wr.cell? ⟨g9, k, none⟩ = some (.int .u8 (zz.toNat : Int)) := (HW.out.cell (p := ⟨g9, k, none⟩) HX.out.1.lt).trans (by rw [Box.cell HX.out.1]; simpa using hze)
                            have m2 : wr.cell? ⟨gx, k, none⟩ = some (.int .u8 (0)) := (HW.out.cell (p := ⟨gx, k, none⟩) HX.out.2.1.lt).trans (by rw [Box.cell HX.out.2.1]; simpa using be_blkOf 0 hk256)
                            have hz256 : zz.toNat < 256 := zz.toNat_lt
                            have m3 : wr.cell? ⟨w4.heap.size, j8 * 256 + zz.toNat, none⟩ = some (.bool true) := (HW.out.cell (p := ⟨w4.heap.size, j8 * 256 + zz.toNat, none⟩) HX.out.2.2.tab.lt).trans ((HX.out.2.2.cell hlt8 hz256).trans (by rw [hyM zz hzm]))
                            have l8 : (k : Int) < 256 := by omega
                            have l9 : (zz.toNat : Int) < 256 := by omega
                            have HYM := Lib.hid hyM
                            clear hzm hze hyM
                            generalize zz.toNat = zn at *
                            go_wp2_with fail
                            go_quiet (fail)
                            go_wp2
                            go_roundw
                            case rel => exact ⟨k + 1, by go_num, by omega, Lib.hid (below_drewN' HW.out _)⟩
                            case measure => simp [intOf]; omega
                          · have e5 : (k : Int) = 256 := by omega
                            rw [e5]
                            have H10 := Lib.hid (HX.out.2.2.below HW.out)
                            clear e5
                            go_wp2
                            go_roundw
                            case rel => exact ⟨j8 + 1, by go_num, by omega, _, _, Lib.hid ⟨H10.out, H8.out.2.1.call, H8.out.2.2.1.call, H8.out.2.2.2.1, H8.out.2.2.2.2⟩⟩
                            case measure => simp [intOf]; omega
                    · have e6 : (j8 : Int) = 4 := by omega
                      rw [e6]
                      have HBF := Lib.hid H8.out.1.bel
                      go_wp2_with fail
                      refine (one_says _).mono ?_
                      rintro e we ⟨rfl, hbe⟩
                      have HBE := Lib.hid (HBF.out.trans (hbe.mono HBF.out.size))
                      clear hbe
                      go_wp2
                      go_ret
                      exact ⟨rfl, HBE.out⟩
                · go_wp2_with fail
                  have hkl := (HK.out.weak (N' := fun k => k < w.heap.size) (fun b hb _ => hb)).below H5.out.kp.bel
                  refine (fall_says H5.out.kp.dev (Nat.le_trans H5.out.kp.dev.1.count (Nat.le_trans H5.out.up.ops (by omega))) (fun k => k < w.heap.size) Ak nk ck keep hkl (fun k h1 h2 => by have := h2.1; omega)).mono ?_
                  rintro e w7 ⟨rfl, hd7, ht7⟩
                  have hby := H5.out.fall keep
                  have hU7 := H5.out.up.fall keep
                  have hK7 := H5.out.kp.turn hd7 ht7
                  have hws7 : (D4.fall keep).ws = [] := rfl
                  obtain ⟨D7, hD7⟩ : ∃ d, D4.fall keep = d := ⟨_, rfl⟩
                  rw [hD7] at hby hU7 hK7 hws7
                  have H7 := Lib.hid (And.intro hK7 (And.intro hU7 (And.intro hws7 hby)))
                  clear hkl hd7 ht7 hby hU7 hK7 hws7 hD7 H5
                  go_wp2_with fail
                  have hWt := waiting_says H7.out.1.dev
                  rw [H7.out.2.2.1] at hWt
                  refine hWt.mono ?_
                  rintro e wn ⟨rfl, hwn⟩
                  obtain rfl : w7 = wn := hwn.symm
                  clear hwn hWt
                  go_wp2_with fail
                  have hDn := down_says H7.out.1.dev
                  rw [H7.out.2.1.down] at hDn
                  refine hDn.mono ?_
                  rintro e wn ⟨rfl, hwn⟩
                  obtain rfl : w7 = wn := hwn.symm
                  clear hwn hDn
                  go_wp2_with fail
                  go_loopw [6, 17, 18, 19, 20, 21, 22, 23] (fun _ v _ _ _ _ _ _ wr => ∃ j : Nat, v = .int .i64 (j : Int) ∧ j ≤ 4 ∧ ∃ Dd Dc, Hid (KpB w wr p q w3.heap.size w4.heap.size M4 Dd Dc ∧ Up4 Dd (49 + j) ∧ Up4 Dc (5 + j) ∧ Dd.bs = D7.bs ∧ Dc.bs = D3.bs)) (fun _ v _ _ _ _ _ _ _ => 4 - (intOf v).toNat)
                  case atStart => exact ⟨0, rfl, by omega, D7, D3, Lib.hid ⟨H7.out.1, H7.out.2.1, H3.out.2.2.1, rfl, rfl⟩⟩
                  case round =>
                    obtain ⟨j8, rfl, hj8, Dd, Dc, H8⟩ := hrel
                    by_cases hlt8 : j8 < 4
                    · have l6 : (j8 : Int) < 4 := by omega
                      obtain ⟨y, hy⟩ : ∃ y, Dd.blk j8 = y := ⟨_, rfl⟩
                      have hyM : ∀ z ∈ y.1, M4 j8 z.toNat = true := fun z hz => by
                        rw [← hy, Dv.blk, H8.out.2.2.2.1] at hz
                        exact H7.out.2.2.2 j8 hlt8 z hz
                      obtain ⟨u, hu⟩ : ∃ u, wasB fs j8 = u := ⟨_, rfl⟩
                      have hbc : Dc.blk j8 = blkOf u := by
                        rw [Dv.blk, H8.out.2.2.2.2, ← hu]
                        exact H3.out.2.2.2.2 j8 hlt8
                      go_wp2_with fail
                      refine (read_up H8.out.1.dev (Nat.le_trans H8.out.2.1.ops (by omega)) H8.out.2.1.up j8 (by have := H8.out.2.1.four; omega)).mono ?_
                      rintro e w9 ⟨g9, rfl, hx9, hg9, hd9, ht9⟩
                      rw [hy] at hx9
                      have H9 := Lib.hid (And.intro hx9 (And.intro hg9 (H8.out.1.turn hd9 ht9)))
                      clear hx9 hg9 hd9 ht9
                      go_wp2_with fail
                      refine (read_up H9.out.2.2.cl (Nat.le_trans H8.out.2.2.1.ops (by omega)) H8.out.2.2.1.up j8 (by have := H8.out.2.2.1.four; omega)).mono ?_
                      rintro e wx ⟨gx, rfl, hxx, hgx, hdx, htx⟩
                      rw [hbc] at hxx
                      have hx9 := htx.box H9.out.1 (fun h => by have h1 := H9.out.2.1; have h2 := H8.out.1.tab.lt; have h3 := h.2; omega)
                      have HX := Lib.hid (And.intro hx9 (And.intro hxx (H9.out.2.2.turnC hdx htx)))
                      clear hx9 hxx hgx hdx htx
                      have hbelx : Below w.heap.size w wx := HX.out.2.2.bel
                      by_cases hjn8 : j8 < n0
                      · obtain ⟨z, hz'⟩ : ∃ z, fs[j8]? = some z := ⟨_, List.getElem?_eq_getElem (by have := HFL.out; omega)⟩
                        have hwas : u = z := by rw [← hu]; simp [wasB, List.getD, hz']
                        obtain ⟨b0, off0, rfl, _, hbl0, hc0⟩ := H0.out.at (show (bc fs)[j8]? = some (.int .u8 (z.toNat : Int)) by simp [bc, hz'])
                        rw [← hwas] at hc0
                        have hc' : wx.cell? ⟨b0, off0 + j8, none⟩ = some (.int .u8 (u.toNat : Int)) := (hbelx.cell (p := ⟨b0, off0 + j8, none⟩) hbl0).trans hc0
                        have l7 : (j8 : Int) < (n0 : Int) := by omega
                        have HBX := Lib.hid hbelx
                        clear hc0 hz' hwas hbelx hu hbc hy
                        go_wp2_with fail
                        go_loopw [6, 23] (fun _ v wr5 => ∃ k : Nat, v = .int .i64 (k : Int) ∧ k ≤ 256 ∧ Hid (Below wx.heap.size wx wr5)) (fun _ v _ => 256 - (intOf v).toNat)
                        case atStart => exact ⟨0, rfl, by omega, Lib.hid (Below.refl _ _)⟩
                        case round =>
                          obtain ⟨k, rfl, hk, HW⟩ := hrel
                          by_cases hk256 : k < 256
                          · obtain ⟨zz, hzm, hze⟩ := be_at y hk256
                            have m1 : wr.cell? ⟨g9, k, none⟩ = some (.int .u8 (zz.toNat : Int)) := (HW.out.cell (p := ⟨g9, k, none⟩) HX.out.1.lt).trans (by rw [Box.cell HX.out.1]; simpa using hze)
                            have m2 : wr.cell? ⟨gx, k, none⟩ = some (.int .u8 ((u.toNat : Int))) := (HW.out.cell (p := ⟨gx, k, none⟩) HX.out.2.1.lt).trans (by rw [Box.cell HX.out.2.1]; simpa using be_blkOf u hk256)
                            have hz256 : zz.toNat < 256 := zz.toNat_lt
                            have m3 : wr.cell? ⟨w4.heap.size, j8 * 256 + zz.toNat, none⟩ = some (.bool true) := (HW.out.cell (p := ⟨w4.heap.size, j8 * 256 + zz.toNat, none⟩) HX.out.2.2.tab.lt).trans ((HX.out.2.2.cell hlt8 hz256).trans (by rw [hyM zz hzm]))
                            have l8 : (k : Int) < 256 := by omega
                            have l9 : (zz.toNat : Int) < 256 := by omega
                            have HYM := Lib.hid hyM
                            clear hzm hze hyM hc'
                            generalize zz.toNat = zn at *
                            go_wp2_with fail
                            go_quiet (fail)
                            go_wp2
                            go_roundw
                            case rel => exact ⟨k + 1, by go_num, by omega, Lib.hid (below_drewN' HW.out _)⟩
                            case measure => simp [intOf]; omega
                          · have e5 : (k : Int) = 256 := by omega
                            rw [e5]
                            have H10 := Lib.hid (HX.out.2.2.below HW.out)
                            clear e5 hc'
                            go_wp2
                            go_roundw
                            case rel => exact ⟨j8 + 1, by go_num, by omega, _, _, Lib.hid ⟨H10.out, H8.out.2.1.call, H8.out.2.2.1.call, H8.out.2.2.2.1, H8.out.2.2.2.2⟩⟩
                            case measure => simp [intOf]; omega
                      · have hu0 : u = 0 := by
                          have : fs[j8]? = none := List.getElem?_eq_none (by have := HFL.out; omega)
                          rw [← hu]
                          simp [wasB, List.getD, this]
                        subst hu0
                        have l7 : ¬ (j8 : Int) < (n0 : Int) := by omega
                        have HBX := Lib.hid hbelx
                        clear hbelx hu hbc hy
                        go_wp2_with fail
                        go_loopw [6, 23] (fun _ v wr5 => ∃ k : Nat, v = .int .i64 (k : Int) ∧ k ≤ 256 ∧ Hid (Below wx.heap.size wx wr5)) (fun _ v _ => 256 - (intOf v).toNat)
                        case atStart => exact ⟨0, rfl, by omega, Lib.hid (Below.refl _ _)⟩
                        case round =>
                          obtain ⟨k, rfl, hk, HW⟩ := hrel
                          by_cases hk256 : k < 256
                          · obtain ⟨zz, hzm, hze⟩ := be_at y hk256
                            have m1 : wr.cell? ⟨g9, k, none⟩ = some (.int .u8 (zz.toNat : Int)) := (HW.out.cell (p := ⟨g9, k, none⟩) HX.out.1.lt).trans (by rw [Box.cell HX.out.1]; simpa using hze)
                            have m2 : wr.cell? ⟨gx, k, none⟩ = some (.int .u8 (0)) := (HW.out.cell (p := ⟨gx, k, none⟩) HX.out.2.1.lt).trans (by rw [Box.cell HX.out.2.1]; simpa using be_blkOf 0 hk256)
                            have hz256 : zz.toNat < 256 := zz.toNat_lt
                            have m3 : wr.cell? ⟨w4.heap.size, j8 * 256 + zz.toNat, none⟩ = some (.bool true) := (HW.out.cell (p := ⟨w4.heap.size, j8 * 256 + zz.toNat, none⟩) HX.out.2.2.tab.lt).trans ((HX.out.2.2.cell hlt8 hz256).trans (by rw [hyM zz hzm]))
                            have l8 : (k : Int) < 256 := by omega
                            have l9 : (zz.toNat : Int) < 256 := by omega
                            have HYM := Lib.hid hyM
                            clear hzm hze hyM
                            generalize zz.toNat = zn at *
                            go_wp2_with fail
                            go_quiet (fail)
                            go_wp2
                            go_roundw
                            case rel => exact ⟨k + 1, by go_num, by omega, Lib.hid (below_drewN' HW.out _)⟩
                            case measure => simp [intOf]; omega
                          · have e5 : (k : Int) = 256 := by omega
                            rw [e5]
                            have H10 := Lib.hid (HX.out.2.2.below HW.out)
                            clear e5
                            go_wp2
                            go_roundw
                            case rel => exact ⟨j8 + 1, by go_num, by omega, _, _, Lib.hid ⟨H10.out, H8.out.2.1.call, H8.out.2.2.1.call, H8.out.2.2.2.1, H8.out.2.2.2.2⟩⟩
                            case measure => simp [intOf]; omega
                    · have e6 : (j8 : Int) = 4 := by omega
                      rw [e6]
                      have HBF := Lib.hid H8.out.1.bel
                      go_wp2_with fail
                      refine (one_says _).mono ?_
                      rintro e we ⟨rfl, hbe⟩
                      have HBE := Lib.hid (HBF.out.trans (hbe.mono HBF.out.size))
                      clear hbe
                      go_wp2
                      go_ret
                      exact ⟨rfl, HBE.out⟩
end Go.Proofs.Ytemgphpgfdnkeaa
