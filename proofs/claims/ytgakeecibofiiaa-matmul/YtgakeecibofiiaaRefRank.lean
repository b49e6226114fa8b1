/-
  The reference's Rank walked.
-/
import Derived.Test.YtgakeecibofiiaaRefRankA
namespace Go.Proofs.Ytgakeecibofiiaa
open Go.RowKit Go.Shelf

/-- Behind the swap: rows below i are done, row i as far as column j. -/
def elimTo (n c i j : Nat) (E1 : Gf.Mat) (iv : UInt8) (a b : Nat) : UInt8 := if n < a ∧ c ≤ b ∧ (a < i ∨ (a = i ∧ b < j)) then E1 a b ^^^ Gf.mul (Gf.mul (E1 a c) iv) (E1 n b) else E1 a b

theorem at2_wide {N L : Nat} {E : List (List UInt8)} (h : Lev N L E) {i j : Nat} (hj : L ≤ j) : at2 E i j = 0 := by
  unfold at2
  rcases Nat.lt_or_ge i N with hi | hi
  · obtain ⟨r, h1, h2, h3⟩ := h.get hi
    rw [h2, List.getD_eq_getElem?_getD, List.getElem?_eq_none (by omega)]
    rfl
  · rw [List.getD_eq_getElem?_getD (l := E), List.getElem?_eq_none (by rw [h.1]; exact hi)]
    rfl
theorem cell_some {w : World} {p q : Addr} {x v : Value} (h : w.cell? q = some v) : ∃ v', (w.setCell p x).cell? q = some v' := by
  by_cases e : p = q
  · subst e; exact ⟨x, World.cell?_setCell_same w p x h⟩
  · exact ⟨v, (World.cell?_setCell_other w p q x e).trans h⟩

set_option maxRecDepth 100000 in
set_option maxHeartbeats 8000000 in
theorem rrank_says (w : World) (A : Option Addr) (N c0 : Nat) (M : List (List UInt8)) (hM : Mtx w A N c0 M) (hr : RightM M) (hN : N ≤ 300) : Calls Try.prog 19 #[.slice A N c0] w fun e w' => e = .returned (.int .i64 (rankL M : Int)) ∧ Below w.heap.size w w' := by
  have hl := hM.len
  have hN1 : 1 ≤ N := by have := hr.1; omega
  obtain ⟨L, hL⟩ : ∃ L, colsOf M = L := ⟨_, rfl⟩
  have hlev : Lev N L M := by have := right_lev hr; rwa [hl, hL] at this
  have hL2 : 1 ≤ L ∧ L ≤ 255 := by rw [← hL]; exact right_cols hr
  have HRK := Lib.hid (show ∀ n, Gf.IsRank N L (at2 M) n → rankL M = n from fun n h => by
    have h1 := rank_right hr
    rw [hl, hL] at h1
    exact h1.unique h)
  obtain ⟨r0, hr0, _, hr0l⟩ := hlev.get (show 0 < N by omega)
  obtain ⟨ba, oa, A0, ca, hA, hba, hca, _⟩ := hM.row hr0
  rw [hr0l, Nat.add_zero] at hca
  subst hA
  have HM := Lib.hid hM
  have HLV := Lib.hid hlev
  have HCA := Lib.hid (And.intro hca hba)
  have hN0 : 0 < N := by omega
  clear hM hr hL hlev hr0 hr0l hca
  go_enter Try.func19, Try.ntmps19
  go_wp2_with fail
  go_loopw [3, 4] (fun v i wr => ∃ (k : Nat) (B C : Nat → Nat), k ≤ N ∧ i = .int .i64 (k : Int) ∧ Hid (Gath wr w.heap.size v B C (M.take k) ∧ Below w.heap.size w wr ∧ ∀ i, i < k → w.heap.size ≤ B i)) (fun _ i _ => N - (intOf i).toNat)
  case atStart => exact ⟨0, fun _ => 0, fun _ => 0, by omega, rfl, Lib.hid ⟨⟨⟨[], World.ownsRow_nil _ _ _ _, by simp, fun i r h => by simp at h⟩, ⟨fun i r h => by simp at h, fun i j h => by simp at h⟩⟩, Below.refl _ _, fun i h => by omega⟩⟩
  case round =>
    obtain ⟨k, B, C, hk, rfl, H⟩ := hrel
    by_cases hlt : k < N
    · have l1 : (k : Int) < (N : Int) := by omega
      obtain ⟨r, hr, _, hrl⟩ := HLV.out.get hlt
      obtain ⟨b', o', Ak, ck, hA, hb', hck, hlk⟩ := HM.out.row hr
      obtain ⟨rfl, rfl⟩ : ba = b' ∧ oa = o' := by
        injection hA with hA
        injection hA with h1 h2
        exact ⟨h1, h2⟩
      rw [hrl] at hck hlk
      have hal : Below wr.heap.size wr (wr.alloc (.cells #[] 5)) := (Below.refl _ wr).alloc (Nat.le_refl _) _
      have hc1 : (wr.alloc (.cells #[] 5)).cell? ⟨ba, oa + k, none⟩ = some (.slice Ak L ck) := (hal.cell (p := ⟨ba, oa + k, none⟩) (Nat.lt_of_lt_of_le hb' H.out.2.1.size)).trans ((H.out.2.1.cell (p := ⟨ba, oa + k, none⟩) hb').trans hck)
      obtain ⟨ad, hAk, _⟩ := hlk.2.2 (by omega)
      have HLK := Lib.hid ((hlk.below H.out.2.1).below hal)
      have HO8 := Lib.hid (Own.made wr (base := wr.heap.size) (Nat.le_refl _))
      have HAL := Lib.hid hal
      have HTK := Lib.hid (show M.take (k + 1) = M.take k ++ [r] from by rw [List.take_add_one, hr]; rfl)
      have HTL := Lib.hid (show (M.take k).length = k from by rw [List.length_take]; omega)
      have HLR := Lib.hid hrl
      have HNIL := Lib.hid (show Ak = none → ck = 0 from fun e => by rw [hAk] at e; cases e)
      clear hck hlk hal hr hA hrl hAk
      go_wp2_with (first
        | (at_builtin; refine wpList_bytes _ _ _ rfl rfl wr.heap.size _ [] Ak L ck r rfl rfl HO8.out HLK.out HNIL.out (by have := HLR.out; simp; omega) (by simp) ?_; intro v8 w8 ho8 hg8; have hb8 := HAL.out.trans (HO8.out.changed hg8 (by simp)); obtain ⟨b8, c8, hv8, hfr8, hbk8⟩ := (show Own w8 wr.heap.size v8 r from ho8).blk (by rw [HLR.out]; omega); rw [HLR.out] at hv8; subst hv8; have HBD := Lib.hid (H.out.1.below hb8); have HBW := Lib.hid (And.intro hbk8 (And.intro hb8 hfr8)); clear ho8 hg8 hb8 hbk8 hfr8)
        | (at_builtin; refine wpList_gath w8 _ _ rfl rfl w.heap.size u3 B C (M.take k) b8 c8 L r HLR.out rfl rfl HBD.out HBW.out.1 (fun i hi => by have h5 := (H.out.1.blks.blk i _ (List.getElem?_eq_getElem hi)).lt; have := HBW.out.2.2; omega) (by rw [HTL.out]; omega) (Nat.le_trans H.out.2.1.size HBW.out.2.1.size) ?_; intro v9 w9 hb9 hg9))
      rw [HTL.out] at hb9
      have HB9 := Lib.hid (show Gath w9 w.heap.size v9 (upd B k b8) (upd C k c8) (M.take k ++ [r]) ∧ Below w.heap.size w w9 ∧ ∀ i, i < k + 1 → w.heap.size ≤ upd B k b8 i from ⟨hb9, (H.out.2.1.trans (HBW.out.2.1.mono H.out.2.1.size)).trans hg9, fun i hi => by
        unfold upd
        split
        · exact Nat.le_trans H.out.2.1.size HBW.out.2.2
        · exact H.out.2.2 i (by omega)⟩)
      clear hb9 hg9
      go_wp2
      go_roundw
      case rel => exact ⟨k + 1, upd B k b8, upd C k c8, by omega, by go_num, by rw [HTK.out]; exact HB9⟩
      case measure => simp [intOf]; omega
    · obtain rfl : k = N := by omega
      have l1 : ¬ (k : Int) < (k : Int) := by omega
      have hga := H.out.1
      rw [List.take_of_length_le (by omega)] at hga
      obtain ⟨g, cap, hv, hbg, hcap, htab⟩ := hga.tab (by omega)
      rw [hl] at hv hcap
      subst hv
      have H0 := Lib.hid (show RkAt w wr g cap k L B C M from ⟨htab, hga.blks, ⟨hbg, H.out.2.2⟩, H.out.2.1, HLV.out⟩)
      clear hga htab H hbg
      go_wp2_with fail
      go_loopw [5, 6, 7, 8, 9, 10, 11] (fun nv cv _ _ _ _ _ wr => ∃ (n c : Nat) (B C : Nat → Nat) (E : List (List UInt8)) (piv : Nat → Nat), c ≤ L ∧ n ≤ k ∧ nv = .int .i64 (n : Int) ∧ cv = .int .i64 (c : Int) ∧ Hid (RkAt w wr g cap k L B C E ∧ Both k L (at2 M) (at2 E) ∧ Stair k c n (at2 E) piv)) (fun _ cv _ _ _ _ _ _ => L - (intOf cv).toNat)
      case atStart => exact ⟨0, 0, B, C, M, fun _ => 0, by omega, by omega, rfl, rfl, Lib.hid ⟨H0.out, ⟨fun _ hi => span_row hi, fun _ hi => span_row hi⟩, stair_zero _ _⟩⟩
      case round =>
        obtain ⟨n, c, B, C, E, piv, hc, hn, rfl, rfl, H⟩ := hrel
        clear H0
        have hcm : wr.cell? ⟨ba, oa, none⟩ = some (.slice A0 L ca) := (H.out.1.bel.cell (p := ⟨ba, oa, none⟩) HCA.out.2).trans HCA.out.1
        by_cases hcl : c < L
        · have l2 : (c : Int) < (L : Int) := by omega
          go_wp2_with fail
          go_loopw [7] (fun pv w3 => ∃ p, n ≤ p ∧ p ≤ k ∧ pv = .int .i64 (p : Int) ∧ w3 = wr ∧ Hid (∀ i, n ≤ i → i < p → at2 E i c = 0)) (fun pv _ => k - (intOf pv).toNat)
          case atStart => exact ⟨n, by omega, hn, rfl, rfl, Lib.hid (fun i h1 h2 => by omega)⟩
          case round =>
            obtain ⟨p, hnp, hpk, rfl, hww, HZ⟩ := hrel
            subst hww
            by_cases hp : p < k
            · have l3 : (p : Int) < (k : Int) := by omega
              obtain ⟨_, _, _, _, hcr, _⟩ := H.out.1.row hp
              have hcb := (H.out.1.byte hp hcl).1
              by_cases hz : at2 E p c = 0
              · rw [hz] at hcb
                have hcb0 : wr.cell? ⟨B p, c, none⟩ = some (.int .u8 0) := hcb
                clear hcb
                go_wp2
                go_roundw
                case rel => exact ⟨p + 1, by omega, by omega, by go_num, by trivial, Lib.hid (fun i h1 h2 => by
                  rcases Nat.lt_or_ge i p with h3 | h3
                  · exact HZ.out i h1 h3
                  · rw [show i = p by omega]; exact hz)⟩
                case measure => simp [intOf]; omega
              · have hzi : ¬ ((at2 E p c).toNat : Int) = 0 := fun e => hz (UInt8.toNat_inj.1 (by simpa using e))
                have hpk' : ¬ (p : Int) = (k : Int) := by omega
                obtain ⟨_, _, _, _, hcn, _⟩ := H.out.1.row (show n < k by omega)
                obtain ⟨_, _, _, _, _, hfp⟩ := H.out.1.row hp
                obtain ⟨_, _, _, _, _, hfn⟩ := H.out.1.row (show n < k by omega)
                have l4 : (n : Int) < (k : Int) := by omega
                have H1 := Lib.hid (H.out.1.swap (show n < k by omega) hp).drew
                obtain ⟨vq, hcq⟩ := cell_some (w := wr) (p := ⟨g, n, none⟩) (x := .slice (some ⟨B p, 0, none⟩) L (C p)) (q := ⟨g, p, none⟩) hcr
                go_wp2_with fail
                go_cut [8] (fun _ wx => Hid (RkAt w wx g cap k L (fun i => B (swp n p i)) (fun i => C (swp n p i)) (swapE E n p)))
                case first =>
                  refine wp_region_held_drew (S := fun _ => True) (by kernel_rfl) trivial (fun hHeld => ?_)
                  refine take_run 0 56 (v := ?_) rfl rfl (by kernel_rfl) (by kernel_rfl) (by kernel_rfl) (fun _ _ _ h => h) (by rfl) ?_ (by assumption) ?_
                  rotate_left
                  · (intro wq hSw; (try dsimp only at hSw); go_simp; first | done | with_reducible rfl)
                  simp only [Act.put, List.setIfInBounds_toArray, List.set_cons_zero, List.set_cons_succ]
                  refine take_run 1 57 (v := ?_) rfl rfl (by kernel_rfl) (by kernel_rfl) (by kernel_rfl) (fun _ _ _ h => h) (by rfl) ?_ (by assumption) ?_
                  rotate_left
                  · (intro wq hSw; (try dsimp only at hSw); go_simp; first | done | with_reducible rfl)
                  simp only [Act.put, List.setIfInBounds_toArray, List.set_cons_zero, List.set_cons_succ]
                  refine take_run 2 58 (v := ?_) rfl rfl (by kernel_rfl) (by kernel_rfl) (by kernel_rfl) (fun _ _ _ h => h) (by rfl) ?_ (by assumption) ?_
                  rotate_left
                  · (intro wq hSw; (try dsimp only at hSw); go_simp; first | done | with_reducible rfl)
                  simp only [Act.put, List.setIfInBounds_toArray, List.set_cons_zero, List.set_cons_succ]
                  refine take_run 3 59 (v := ?_) rfl rfl (by kernel_rfl) (by kernel_rfl) (by kernel_rfl) (fun _ _ _ h => h) (by rfl) ?_ (by assumption) ?_
                  rotate_left
                  · (intro wq hSw; (try dsimp only at hSw); go_simp; first | done | with_reducible rfl)
                  simp only [Act.put, List.setIfInBounds_toArray, List.set_cons_zero, List.set_cons_succ]
                  refine take_run 4 60 (v := ?_) rfl rfl (by kernel_rfl) (by kernel_rfl) (by kernel_rfl) (fun _ _ _ h => h) (by rfl) ?_ (by assumption) ?_
                  rotate_left
                  · (intro wq hSw; (try dsimp only at hSw); go_simp; first | done | with_reducible rfl)
                  simp only [Act.put, List.setIfInBounds_toArray, List.set_cons_zero, List.set_cons_succ]
                  refine take_run 5 61 (v := ?_) rfl rfl (by kernel_rfl) (by kernel_rfl) (by kernel_rfl) (fun _ _ _ h => h) (by rfl) ?_ (by assumption) ?_
                  rotate_left
                  · (intro wq hSw; (try dsimp only at hSw); go_simp; first | done | with_reducible rfl)
                  simp only [Act.put, List.setIfInBounds_toArray, List.set_cons_zero, List.set_cons_succ]
                  refine take_run 6 62 (v := ?_) rfl rfl (by kernel_rfl) (by kernel_rfl) (by kernel_rfl) (fun _ _ _ h => h) (by rfl) ?_ (by assumption) ?_
                  rotate_left
                  · (intro wq hSw; (try dsimp only at hSw); go_simp; first | done | with_reducible rfl)
                  simp only [Act.put, List.setIfInBounds_toArray, List.set_cons_zero, List.set_cons_succ]
                  refine take_run 8 64 (v := ?_) rfl rfl (by kernel_rfl) (by kernel_rfl) (by kernel_rfl) (fun _ _ _ h => h) (by rfl) ?_ (by assumption) ?_
                  rotate_left
                  · (intro wq hSw; (try dsimp only at hSw); go_simp; first | done | with_reducible rfl)
                  simp only [Act.put, List.setIfInBounds_toArray, List.set_cons_zero, List.set_cons_succ]
                  refine take_run 9 65 (v := ?_) rfl rfl (by kernel_rfl) (by kernel_rfl) (by kernel_rfl) (fun _ _ _ h => h) (by rfl) ?_ (by assumption) ?_
                  rotate_left
                  · (intro wq hSw; (try dsimp only at hSw); go_simp; first | done | with_reducible rfl)
                  simp only [Act.put, List.setIfInBounds_toArray, List.set_cons_zero, List.set_cons_succ]
                  refine take_run 10 66 (v := ?_) rfl rfl (by kernel_rfl) (by kernel_rfl) (by kernel_rfl) (fun _ _ _ h => h) (by rfl) ?_ (by assumption) ?_
                  rotate_left
                  · (intro wq hSw; (try dsimp only at hSw); go_simp; first | done | with_reducible rfl)
                  simp only [Act.put, List.setIfInBounds_toArray, List.set_cons_zero, List.set_cons_succ]
                  have hcp' : wr.drew.cell? ⟨g, p, none⟩ = some (.slice (some ⟨B p, 0, none⟩) L (C p)) := hcr
                  have hcn' : wr.drew.cell? ⟨g, n, none⟩ = some (.slice (some ⟨B n, 0, none⟩) L (C n)) := hcn
                  refine wpAnyH_ready (rs := [7, 11]) (by kernel_rfl) (by simp) ?_
                  refine AllReadyH.cons rfl (fun K hK => ?_) (AllReadyH.cons rfl (fun K hK => ?_) AllReadyH.nil)
                  · go_simp
                    refine hK.out _ _ trivial (fun hHeld => ?_)
                    clear hK K
                    refine wpAnyH_ready (rs := [11]) (by kernel_rfl) (by simp) ?_
                    refine AllReadyH.cons rfl (fun K hK => ?_) AllReadyH.nil
                    go_simp
                    refine hK.out _ _ trivial (fun hHeld => ?_)
                    clear hK K
                    refine take_run 12 68 (v := ?_) rfl rfl (by kernel_rfl) (by kernel_rfl) (by kernel_rfl) (fun _ _ _ h => h) (by rfl) ?_ (by assumption) ?_
                    rotate_left
                    · (intro wq hSw; (try dsimp only at hSw); go_simp; first | done | with_reducible rfl)
                    simp only [Act.put, List.setIfInBounds_toArray, List.set_cons_zero, List.set_cons_succ]
                    refine wpAnyH_ready (rs := [13]) (by kernel_rfl) (by simp) ?_
                    refine AllReadyH.cons rfl (fun K hK => ?_) AllReadyH.nil
                    go_simp
                    refine hK.out _ _ trivial (fun hHeld => ?_)
                    clear hK K
                    refine take_run 14 69 (v := ?_) rfl rfl (by kernel_rfl) (by kernel_rfl) (by kernel_rfl) (fun _ _ _ h => h) (by rfl) ?_ (by assumption) ?_
                    rotate_left
                    · (intro wq hSw; (try dsimp only at hSw); go_simp; first | done | with_reducible rfl)
                    simp only [Act.put, List.setIfInBounds_toArray, List.set_cons_zero, List.set_cons_succ]
                    refine wpAnyH_ready (rs := [15]) (by kernel_rfl) (by simp) ?_
                    refine AllReadyH.cons rfl (fun K hK => ?_) AllReadyH.nil
                    go_simp
                    refine hK.out _ _ trivial (fun hHeld => ?_)
                    clear hK K
                    refine wpAnyH_done (by kernel_rfl) ?_ _
                    go_wp2_with fail
                    go_meet
                    exact H1
                  · go_simp
                    refine hK.out _ _ trivial (fun hHeld => ?_)
                    clear hK K
                    refine wpAnyH_ready (rs := [7]) (by kernel_rfl) (by simp) ?_
                    refine AllReadyH.cons rfl (fun K hK => ?_) AllReadyH.nil
                    go_simp
                    refine hK.out _ _ trivial (fun hHeld => ?_)
                    clear hK K
                    refine take_run 12 68 (v := ?_) rfl rfl (by kernel_rfl) (by kernel_rfl) (by kernel_rfl) (fun _ _ _ h => h) (by rfl) ?_ (by assumption) ?_
                    rotate_left
                    · (intro wq hSw; (try dsimp only at hSw); go_simp; first | done | with_reducible rfl)
                    simp only [Act.put, List.setIfInBounds_toArray, List.set_cons_zero, List.set_cons_succ]
                    refine wpAnyH_ready (rs := [13]) (by kernel_rfl) (by simp) ?_
                    refine AllReadyH.cons rfl (fun K hK => ?_) AllReadyH.nil
                    go_simp
                    refine hK.out _ _ trivial (fun hHeld => ?_)
                    clear hK K
                    refine take_run 14 69 (v := ?_) rfl rfl (by kernel_rfl) (by kernel_rfl) (by kernel_rfl) (fun _ _ _ h => h) (by rfl) ?_ (by assumption) ?_
                    rotate_left
                    · (intro wq hSw; (try dsimp only at hSw); go_simp; first | done | with_reducible rfl)
                    simp only [Act.put, List.setIfInBounds_toArray, List.set_cons_zero, List.set_cons_succ]
                    refine wpAnyH_ready (rs := [15]) (by kernel_rfl) (by simp) ?_
                    refine AllReadyH.cons rfl (fun K hK => ?_) AllReadyH.nil
                    go_simp
                    refine hK.out _ _ trivial (fun hHeld => ?_)
                    clear hK K
                    refine wpAnyH_done (by kernel_rfl) ?_ _
                    go_wp2_with fail
                    go_meet
                    exact H1
                case rest =>
                  obtain ⟨B2, C2, E1, hE1, H2⟩ : ∃ B2 C2 E1, E1 = swapE E n p ∧ Hid (RkAt w wc g cap k L B2 C2 E1) := ⟨_, _, _, rfl, hcut⟩
                  have HE1 := Lib.hid (show ∀ i, i < k → ∀ j, at2 E1 i j = at2 E (swpN n p i) j from by subst hE1; exact fun i hi j => swapE_at H.out.1.lev (by omega) hp hi j)
                  clear hcut H1 hcr hcb hcn hfp hfn hcq hE1
                  have hnk : n < k := by omega
                  obtain ⟨_, _, _, _, hcn, _⟩ := H2.out.row hnk
                  obtain ⟨u, hu⟩ : ∃ u, at2 E1 n c = u := ⟨_, rfl⟩
                  have hcb := (H2.out.byte hnk hcl).1
                  rw [hu] at hcb
                  go_wp2_with (go_at_call 39; refine (rinv_says _ _).mono ?_; rintro e w1 ⟨rfl, hw1⟩; subst hw1)
                  go_loopw [9, 10, 11] (fun iv _ _ wx => ∃ (i : Nat) (X : List (List UInt8)), n + 1 ≤ i ∧ i ≤ k ∧ iv = .int .i64 (i : Int) ∧ Hid (RkAt w wx g cap k L B2 C2 X ∧ ∀ a, a < k → ∀ b, b < L → at2 X a b = elimTo n c i c (at2 E1) (Gf.inv u) a b)) (fun iv _ _ _ => k - (intOf iv).toNat)
                  case atStart => exact ⟨n + 1, E1, by omega, by omega, by go_num, Lib.hid ⟨by first | exact H2.out | exact H2.out.drew, fun a _ b _ => by unfold elimTo; rw [if_neg (by omega)]⟩⟩
                  case round =>
                    obtain ⟨i, X, hi1, hi2, rfl, H4⟩ := hrel
                    clear hcn hcb
                    by_cases hik : i < k
                    · have l5 : (i : Int) < (k : Int) := by omega
                      obtain ⟨_, _, _, _, hci, _⟩ := H4.out.1.row hik
                      have hcb := (H4.out.1.byte hik hcl).1
                      have hx : at2 X i c = at2 E1 i c := by rw [H4.out.2 i hik c hcl]; unfold elimTo; rw [if_neg (by omega)]
                      obtain ⟨v, hv⟩ : ∃ v, at2 E1 i c = v := ⟨_, rfl⟩
                      rw [hx, hv] at hcb
                      go_wp2_with (go_at_call 33; refine (rmul_says _ _ _).mono ?_; rintro e w1 ⟨rfl, hw1⟩; subst hw1)
                      go_loopw [11] (fun jv wy => ∃ (j : Nat) (X : List (List UInt8)), c ≤ j ∧ j ≤ L ∧ jv = .int .i64 (j : Int) ∧ Hid (RkAt w wy g cap k L B2 C2 X ∧ ∀ a, a < k → ∀ b, b < L → at2 X a b = elimTo n c i j (at2 E1) (Gf.inv u) a b)) (fun jv _ => L - (intOf jv).toNat)
                      case atStart => exact ⟨c, X, by omega, by omega, by go_num, Lib.hid ⟨by first | exact H4.out.1 | exact H4.out.1.drew, H4.out.2⟩⟩
                      case round =>
                        obtain ⟨j, Y, hj1, hj2, rfl, H5⟩ := hrel
                        clear hci hcb hcm
                        have hcm5 : wr.cell? ⟨ba, oa, none⟩ = some (.slice A0 L ca) := (H5.out.1.bel.cell (p := ⟨ba, oa, none⟩) HCA.out.2).trans HCA.out.1
                        by_cases hjl : j < L
                        · have l6 : (j : Int) < (L : Int) := by omega
                          obtain ⟨_, _, _, _, hci, _⟩ := H5.out.1.row hik
                          obtain ⟨_, _, _, _, hcn, _⟩ := H5.out.1.row hnk
                          obtain ⟨hbi, hfi⟩ := H5.out.1.byte hik hjl
                          have hbn := (H5.out.1.byte hnk hjl).1
                          have hxx : at2 Y i j = at2 E1 i j := by rw [H5.out.2 i hik j hjl]; unfold elimTo; rw [if_neg (by omega)]
                          have hyy : at2 Y n j = at2 E1 n j := by rw [H5.out.2 n hnk j hjl]; unfold elimTo; rw [if_neg (by omega)]
                          obtain ⟨x, hx0⟩ : ∃ x, at2 E1 i j = x := ⟨_, rfl⟩
                          obtain ⟨y, hy0⟩ : ∃ y, at2 E1 n j = y := ⟨_, rfl⟩
                          rw [hxx, hx0] at hbi
                          rw [hyy, hy0] at hbn
                          have hmu := rmul_says (Gf.mul v (Gf.inv u)) y wr.drew
                          obtain ⟨z, hz0⟩ : ∃ z, Gf.mul (Gf.mul v (Gf.inv u)) y = z := ⟨_, rfl⟩
                          rw [hz0] at hmu
                          have hx8 := bits_x8 x z
                          have H6 := Lib.hid (show RkAt w (wr.setCell ⟨B2 i, j, none⟩ (.int .u8 ((x ^^^ z).toNat : Int))).drew g cap k L B2 C2 (setE Y i j (x ^^^ z)) ∧ ∀ a, a < k → ∀ b, b < L → at2 (setE Y i j (x ^^^ z)) a b = elimTo n c i (j + 1) (at2 E1) (Gf.inv u) a b from ⟨(H5.out.1.put hik _).drew, fun a ha b hb => by
                            rw [setE_at H5.out.1.lev hik hjl]
                            by_cases hab : a = i ∧ b = j
                            · obtain ⟨rfl, rfl⟩ := hab
                              rw [if_pos ⟨rfl, rfl⟩]
                              unfold elimTo
                              rw [if_pos ⟨by omega, hj1, Or.inr ⟨rfl, by omega⟩⟩, hx0, hy0, hv, hz0]
                            · rw [if_neg hab, H5.out.2 a ha b hb]
                              unfold elimTo
                              congr 1
                              apply propext
                              constructor
                              · rintro ⟨h1, h2, h3⟩; exact ⟨h1, h2, by omega⟩
                              · rintro ⟨h1, h2, h3⟩; exact ⟨h1, h2, by omega⟩⟩)
                          have hilt : i < Y.length := by rw [H5.out.1.lev.1]; exact hik
                          have HSB := Lib.hid (And.intro (H5.out.1.tab.sep H5.out.1.blks hilt) (show B2 i ≠ B2 n from fun e => absurd (H5.out.1.blks.inj i n hilt (by rw [H5.out.1.lev.1]; exact hnk) e) (by omega)))
                          have HS4 := Lib.hid (show ∀ vv : Value, (wr.drew.setCell ⟨B2 i, j, none⟩ vv).cell? ⟨g, i, none⟩ = some (.slice (some ⟨B2 i, 0, none⟩) L (C2 i)) ∧ (wr.drew.setCell ⟨B2 i, j, none⟩ vv).cell? ⟨g, n, none⟩ = some (.slice (some ⟨B2 n, 0, none⟩) L (C2 n)) ∧ (wr.drew.setCell ⟨B2 i, j, none⟩ vv).cell? ⟨B2 n, j, none⟩ = some (.int .u8 (y.toNat : Int)) from fun vv => ⟨(World.cell?_setCell_far _ _ _ _ (by first | exact HSB.out.1 | exact HSB.out.1.symm)).trans hci, (World.cell?_setCell_far _ _ _ _ (by first | exact HSB.out.1 | exact HSB.out.1.symm)).trans hcn, (World.cell?_setCell_far _ _ _ _ HSB.out.2).trans hbn⟩)
                          have l7 : (n : Int) < (k : Int) := by omega
                          clear hxx hyy hx0 hy0 hz0
                          go_wp2_with fail
                          refine wp_region_held_drew (S := fun w' => w'.cell? ⟨g, i, none⟩ = some (.slice (some ⟨B2 i, 0, none⟩) L (C2 i)) ∧ w'.cell? ⟨g, n, none⟩ = some (.slice (some ⟨B2 n, 0, none⟩) L (C2 n)) ∧ w'.cell? ⟨B2 n, j, none⟩ = some (.int .u8 (y.toNat : Int))) (by kernel_rfl) ⟨hci, hcn, hbn⟩ (fun hHeld => ?_)
                          refine take_run 0 104 (v := ?_) rfl rfl (by kernel_rfl) (by kernel_rfl) (by kernel_rfl) (fun _ _ _ h => h) (by rfl) ?_ (by assumption) ?_
                          rotate_left
                          · (intro wq hSw; obtain ⟨hS1, hS2, hS3⟩ := hSw; go_simp; first | done | with_reducible rfl)
                          simp only [Act.put, List.setIfInBounds_toArray, List.set_cons_zero, List.set_cons_succ]
                          refine take_run 1 105 (v := ?_) rfl rfl (by kernel_rfl) (by kernel_rfl) (by kernel_rfl) (fun _ _ _ h => h) (by rfl) ?_ (by assumption) ?_
                          rotate_left
                          · (intro wq hSw; obtain ⟨hS1, hS2, hS3⟩ := hSw; go_simp; first | done | with_reducible rfl)
                          simp only [Act.put, List.setIfInBounds_toArray, List.set_cons_zero, List.set_cons_succ]
                          refine take_run 2 106 (v := ?_) rfl rfl (by kernel_rfl) (by kernel_rfl) (by kernel_rfl) (fun _ _ _ h => h) (by rfl) ?_ (by assumption) ?_
                          rotate_left
                          · (intro wq hSw; obtain ⟨hS1, hS2, hS3⟩ := hSw; go_simp; first | done | with_reducible rfl)
                          simp only [Act.put, List.setIfInBounds_toArray, List.set_cons_zero, List.set_cons_succ]
                          refine take_run 3 107 (v := ?_) rfl rfl (by kernel_rfl) (by kernel_rfl) (by kernel_rfl) (fun _ _ _ h => h) (by rfl) ?_ (by assumption) ?_
                          rotate_left
                          · (intro wq hSw; obtain ⟨hS1, hS2, hS3⟩ := hSw; go_simp; first | done | with_reducible rfl)
                          simp only [Act.put, List.setIfInBounds_toArray, List.set_cons_zero, List.set_cons_succ]
                          refine take_run 4 108 (v := ?_) rfl rfl (by kernel_rfl) (by kernel_rfl) (by kernel_rfl) (fun _ _ _ h => h) (by rfl) ?_ (by assumption) ?_
                          rotate_left
                          · (intro wq hSw; obtain ⟨hS1, hS2, hS3⟩ := hSw; go_simp; first | done | with_reducible rfl)
                          simp only [Act.put, List.setIfInBounds_toArray, List.set_cons_zero, List.set_cons_succ]
                          refine take_run 5 109 (v := ?_) rfl rfl (by kernel_rfl) (by kernel_rfl) (by kernel_rfl) (fun _ _ _ h => h) (by rfl) ?_ (by assumption) ?_
                          rotate_left
                          · (intro wq hSw; obtain ⟨hS1, hS2, hS3⟩ := hSw; go_simp; first | done | with_reducible rfl)
                          simp only [Act.put, List.setIfInBounds_toArray, List.set_cons_zero, List.set_cons_succ]
                          refine take_run 6 110 (v := ?_) rfl rfl (by kernel_rfl) (by kernel_rfl) (by kernel_rfl) (fun _ _ _ h => h) (by rfl) ?_ (by assumption) ?_
                          rotate_left
                          · (intro wq hSw; obtain ⟨hS1, hS2, hS3⟩ := hSw; go_simp; first | done | with_reducible rfl)
                          simp only [Act.put, List.setIfInBounds_toArray, List.set_cons_zero, List.set_cons_succ]
                          refine take_run 7 111 (v := ?_) rfl rfl (by kernel_rfl) (by kernel_rfl) (by kernel_rfl) (fun _ _ _ h => h) (by rfl) ?_ (by assumption) ?_
                          rotate_left
                          · (intro wq hSw; obtain ⟨hS1, hS2, hS3⟩ := hSw; go_simp; first | done | with_reducible rfl)
                          simp only [Act.put, List.setIfInBounds_toArray, List.set_cons_zero, List.set_cons_succ]
                          refine take_run 8 112 (v := ?_) rfl rfl (by kernel_rfl) (by kernel_rfl) (by kernel_rfl) (fun _ _ _ h => h) (by rfl) ?_ (by assumption) ?_
                          rotate_left
                          · (intro wq hSw; obtain ⟨hS1, hS2, hS3⟩ := hSw; go_simp; first | done | with_reducible rfl)
                          simp only [Act.put, List.setIfInBounds_toArray, List.set_cons_zero, List.set_cons_succ]
                          refine take_run 9 113 (v := ?_) rfl rfl (by kernel_rfl) (by kernel_rfl) (by kernel_rfl) (fun _ _ _ h => h) (by rfl) ?_ (by assumption) ?_
                          rotate_left
                          · (intro wq hSw; obtain ⟨hS1, hS2, hS3⟩ := hSw; go_simp; first | done | with_reducible rfl)
                          simp only [Act.put, List.setIfInBounds_toArray, List.set_cons_zero, List.set_cons_succ]
                          refine take_run 10 114 (v := ?_) rfl rfl (by kernel_rfl) (by kernel_rfl) (by kernel_rfl) (fun _ _ _ h => h) (by rfl) ?_ (by assumption) ?_
                          rotate_left
                          · (intro wq hSw; obtain ⟨hS1, hS2, hS3⟩ := hSw; go_simp; first | done | with_reducible rfl)
                          simp only [Act.put, List.setIfInBounds_toArray, List.set_cons_zero, List.set_cons_succ]
                          refine take_run 12 116 (v := ?_) rfl rfl (by kernel_rfl) (by kernel_rfl) (by kernel_rfl) (fun _ _ _ h => h) (by rfl) ?_ (by assumption) ?_
                          rotate_left
                          · (intro wq hSw; obtain ⟨hS1, hS2, hS3⟩ := hSw; go_simp; first | done | with_reducible rfl)
                          simp only [Act.put, List.setIfInBounds_toArray, List.set_cons_zero, List.set_cons_succ]
                          refine take_run 13 117 (v := ?_) rfl rfl (by kernel_rfl) (by kernel_rfl) (by kernel_rfl) (fun _ _ _ h => h) (by rfl) ?_ (by assumption) ?_
                          rotate_left
                          · (intro wq hSw; obtain ⟨hS1, hS2, hS3⟩ := hSw; go_simp; first | done | with_reducible rfl)
                          simp only [Act.put, List.setIfInBounds_toArray, List.set_cons_zero, List.set_cons_succ]
                          refine take_run 14 118 (v := ?_) rfl rfl (by kernel_rfl) (by kernel_rfl) (by kernel_rfl) (fun _ _ _ h => h) (by rfl) ?_ (by assumption) ?_
                          rotate_left
                          · (intro wq hSw; obtain ⟨hS1, hS2, hS3⟩ := hSw; go_simp; first | done | with_reducible rfl)
                          simp only [Act.put, List.setIfInBounds_toArray, List.set_cons_zero, List.set_cons_succ]
                          refine take_run 15 119 (v := ?_) rfl rfl (by kernel_rfl) (by kernel_rfl) (by kernel_rfl) (fun _ _ _ h => h) (by rfl) ?_ (by assumption) ?_
                          rotate_left
                          · (intro wq hSw; obtain ⟨hS1, hS2, hS3⟩ := hSw; go_simp; first | done | with_reducible rfl)
                          simp only [Act.put, List.setIfInBounds_toArray, List.set_cons_zero, List.set_cons_succ]
                          refine take_run 16 120 (v := ?_) rfl rfl (by kernel_rfl) (by kernel_rfl) (by kernel_rfl) (fun _ _ _ h => h) (by rfl) ?_ (by assumption) ?_
                          rotate_left
                          · (intro wq hSw; obtain ⟨hS1, hS2, hS3⟩ := hSw; go_simp; first | done | with_reducible rfl)
                          simp only [Act.put, List.setIfInBounds_toArray, List.set_cons_zero, List.set_cons_succ]
                          refine take_run 17 121 (v := ?_) rfl rfl (by kernel_rfl) (by kernel_rfl) (by kernel_rfl) (fun _ _ _ h => h) (by rfl) ?_ (by assumption) ?_
                          rotate_left
                          · (intro wq hSw; obtain ⟨hS1, hS2, hS3⟩ := hSw; go_simp; first | done | with_reducible rfl)
                          simp only [Act.put, List.setIfInBounds_toArray, List.set_cons_zero, List.set_cons_succ]
                          refine take_run 18 122 (v := ?_) rfl rfl (by kernel_rfl) (by kernel_rfl) (by kernel_rfl) (fun _ _ _ h => h) (by rfl) ?_ (by assumption) ?_
                          rotate_left
                          · (intro wq hSw; obtain ⟨hS1, hS2, hS3⟩ := hSw; go_simp; first | done | with_reducible rfl)
                          simp only [Act.put, List.setIfInBounds_toArray, List.set_cons_zero, List.set_cons_succ]
                          refine take_run 19 123 (v := ?_) rfl rfl (by kernel_rfl) (by kernel_rfl) (by kernel_rfl) (fun _ _ _ h => h) (by rfl) ?_ (by assumption) ?_
                          rotate_left
                          · (intro wq hSw; obtain ⟨hS1, hS2, hS3⟩ := hSw; go_simp; first | done | with_reducible rfl)
                          simp only [Act.put, List.setIfInBounds_toArray, List.set_cons_zero, List.set_cons_succ]
                          have hbi' : wr.drew.cell? ⟨B2 i, j, none⟩ = some (.int .u8 (x.toNat : Int)) := hbi
                          refine wpAnyH_ready (rs := [11, 20]) (by kernel_rfl) (by simp) ?_
                          refine AllReadyH.cons rfl (fun K hK => ?_) (AllReadyH.cons rfl (fun K hK => ?_) AllReadyH.nil)
                          · skip
                            go_simp
                            refine hK.out _ _ ⟨hci, hcn, hbn⟩ (fun hHeld => ?_)
                            clear hK K
                            refine wpAnyH_ready (rs := [20]) (by kernel_rfl) (by simp) ?_
                            refine AllReadyH.cons rfl (fun K hK => ?_) AllReadyH.nil
                            go_simp
                            refine hmu.mono ?_
                            rintro e wi ⟨rfl, hwi⟩
                            subst hwi
                            refine hK.out _ _ ⟨hci, hcn, hbn⟩ (fun hHeld => ?_)
                            clear hK K
                            refine take_run 21 125 (v := ?_) rfl rfl (by kernel_rfl) (by kernel_rfl) (by kernel_rfl) (fun _ _ _ h => h) (by rfl) ?_ (by assumption) ?_
                            rotate_left
                            · (intro wq hSw; obtain ⟨hS1, hS2, hS3⟩ := hSw; go_simp; first | done | with_reducible rfl)
                            simp only [Act.put, List.setIfInBounds_toArray, List.set_cons_zero, List.set_cons_succ]
                            refine take_run 22 126 (v := ?_) rfl rfl (by kernel_rfl) (by kernel_rfl) (by kernel_rfl) (fun _ _ _ h => h) (by rfl) ?_ (by assumption) ?_
                            rotate_left
                            · (intro wq hSw; obtain ⟨hS1, hS2, hS3⟩ := hSw; go_simp; first | done | with_reducible rfl)
                            simp only [Act.put, List.setIfInBounds_toArray, List.set_cons_zero, List.set_cons_succ]
                            refine wpAnyH_ready (rs := [23]) (by kernel_rfl) (by simp) ?_
                            refine AllReadyH.cons rfl (fun K hK => ?_) AllReadyH.nil
                            go_simp
                            refine hK.out _ _ (HS4.out _) (fun hHeld => ?_)
                            clear hK K
                            refine wpAnyH_done (by kernel_rfl) ?_ _
                            go_wp2
                            go_roundw
                            case rel => exact ⟨j + 1, setE Y i j (x ^^^ z), by omega, by omega, by go_num, H6⟩
                            case measure => simp [intOf]; omega
                          · skip
                            go_simp
                            refine hmu.mono ?_
                            rintro e wi ⟨rfl, hwi⟩
                            subst hwi
                            refine hK.out _ _ ⟨hci, hcn, hbn⟩ (fun hHeld => ?_)
                            clear hK K
                            refine wpAnyH_ready (rs := [11]) (by kernel_rfl) (by simp) ?_
                            refine AllReadyH.cons rfl (fun K hK => ?_) AllReadyH.nil
                            go_simp
                            refine hK.out _ _ ⟨hci, hcn, hbn⟩ (fun hHeld => ?_)
                            clear hK K
                            refine take_run 21 125 (v := ?_) rfl rfl (by kernel_rfl) (by kernel_rfl) (by kernel_rfl) (fun _ _ _ h => h) (by rfl) ?_ (by assumption) ?_
                            rotate_left
                            · (intro wq hSw; obtain ⟨hS1, hS2, hS3⟩ := hSw; go_simp; first | done | with_reducible rfl)
                            simp only [Act.put, List.setIfInBounds_toArray, List.set_cons_zero, List.set_cons_succ]
                            refine take_run 22 126 (v := ?_) rfl rfl (by kernel_rfl) (by kernel_rfl) (by kernel_rfl) (fun _ _ _ h => h) (by rfl) ?_ (by assumption) ?_
                            rotate_left
                            · (intro wq hSw; obtain ⟨hS1, hS2, hS3⟩ := hSw; go_simp; first | done | with_reducible rfl)
                            simp only [Act.put, List.setIfInBounds_toArray, List.set_cons_zero, List.set_cons_succ]
                            refine wpAnyH_ready (rs := [23]) (by kernel_rfl) (by simp) ?_
                            refine AllReadyH.cons rfl (fun K hK => ?_) AllReadyH.nil
                            go_simp
                            refine hK.out _ _ (HS4.out _) (fun hHeld => ?_)
                            clear hK K
                            refine wpAnyH_done (by kernel_rfl) ?_ _
                            go_wp2
                            go_roundw
                            case rel => exact ⟨j + 1, setE Y i j (x ^^^ z), by omega, by omega, by go_num, H6⟩
                            case measure => simp [intOf]; omega
                        · obtain rfl : j = L := by omega
                          have l6 : ¬ (j : Int) < (j : Int) := by omega
                          go_wp2
                          go_roundw
                          case rel => exact ⟨i + 1, Y, by omega, by omega, by go_num, Lib.hid ⟨H5.out.1, fun a ha b hb => by
                            rw [H5.out.2 a ha b hb]
                            unfold elimTo
                            congr 1
                            apply propext
                            constructor
                            · rintro ⟨h1, h2, h3⟩; exact ⟨h1, h2, by omega⟩
                            · rintro ⟨h1, h2, h3⟩; exact ⟨h1, h2, by omega⟩⟩⟩
                          case measure => simp [intOf]; omega
                    · obtain rfl : i = k := by omega
                      have l5 : ¬ (i : Int) < (i : Int) := by omega
                      have HX := Lib.hid (show ∀ a, a < i → ∀ b, at2 X a b = if n < a then at2 E (swpN n p a) b ^^^ Gf.mul (Gf.mul (at2 E (swpN n p a) c) (Gf.inv (at2 E p c))) (at2 E p b) else at2 E (swpN n p a) b from fun a ha b => by
                        have hua : u = at2 E p c := by rw [← hu, HE1.out n (by omega) c, swpN, if_pos rfl]
                        have hsw : n ≤ a → n ≤ swpN n p a ∧ swpN n p a < i := fun h => by
                          unfold swpN
                          split
                          · omega
                          · split <;> omega
                        have hsw2 : swpN n p a < i := by
                          unfold swpN
                          split
                          · omega
                          · split <;> omega
                        rcases Nat.lt_or_ge b L with hb | hb
                        · rw [H4.out.2 a ha b hb]
                          unfold elimTo
                          rw [HE1.out a ha b, HE1.out a ha c, HE1.out n (by omega) b, ← hua]
                          rw [show swpN n p n = p from by rw [swpN, if_pos rfl]]
                          by_cases hna : n < a
                          · rw [if_pos hna]
                            by_cases hcb : c ≤ b
                            · rw [if_pos ⟨hna, hcb, Or.inl ha⟩]
                            · rw [if_neg (fun h => hcb h.2.1), H.out.2.2.zero p (by omega) hp b (by omega), Gf.mul_zero, H.out.2.2.zero _ (hsw (by omega)).1 (hsw (by omega)).2 b (by omega)]
                              rfl
                          · rw [if_neg hna, if_neg (fun h => hna h.1)]
                        · rw [at2_wide H4.out.1.lev hb, at2_wide H.out.1.lev hb, at2_wide H.out.1.lev hb, Gf.mul_zero]
                          split <;> rfl)
                      go_wp2
                      go_roundw
                      case rel =>
                        have hne : at2 E p c ≠ 0 := hz
                        obtain ⟨piv', hst⟩ := stair_step H.out.2.2 ⟨hnp, hp⟩ hne HX.out
                        exact ⟨n + 1, c + 1, B2, C2, X, piv', by omega, by omega, by go_num, by go_num, Lib.hid ⟨H4.out.1, H.out.2.1.trans (step_both ⟨hnp, hp⟩ HX.out), hst⟩⟩
                      case measure => simp [intOf]; omega
            · obtain rfl : p = k := by omega
              have l3 : ¬ (p : Int) < (p : Int) := by omega
              go_wp2
              go_roundw
              case rel => exact ⟨n, c + 1, B, C, E, piv, by omega, hn, rfl, by go_num, Lib.hid ⟨H.out.1, H.out.2.1, stair_none H.out.2.2 (fun i h1 h2 => HZ.out i h1 h2)⟩⟩
              case measure => simp [intOf]; omega
        · obtain rfl : c = L := by omega
          have l2 : ¬ (c : Int) < (c : Int) := by omega
          have HRES := Lib.hid (HRK.out n (H.out.2.1.rank H.out.2.2))
          go_wp2
          go_ret
          refine ⟨?_, H.out.1.bel⟩
          rw [HRES.out]
          rfl
end Go.Proofs.Ytgakeecibofiiaa
