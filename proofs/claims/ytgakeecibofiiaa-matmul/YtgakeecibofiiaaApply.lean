/-
  Apply and Mul of package mat.
-/
import Derived.Test.YtgakeecibofiiaaRowsO
import Derived.Test.YtgakeecibofiiaaGfSum
import Derived.Test.YtgakeecibofiiaaMakes
import Derived.Test.YtgakeecibofiiaaTurn
import Derived.Test.YtgakeecibofiiaaHeld
import Derived.Deep.RegionHeld3
import Derived.Deep.DeepCutAuto
import Derived.Deep.CutBlock
namespace Go.Proofs.Ytgakeecibofiiaa
open Go.RowKit Go.Shelf

/-- What t shards, each times the row's number of its place, come to. -/
def accTo (X : List (List UInt8)) (q : Nat) (r : List UInt8) : Nat → List UInt8
  | 0 => List.replicate q 0
  | t + 1 => Gf.padd (accTo X q r t) ((X.getD t []).map (fun y => Gf.mul y (r.getD t 0)))
theorem accTo_length {X : List (List UInt8)} {q m : Nat} (hX : Lev m q X) (r : List UInt8) : ∀ t, t ≤ m → (accTo X q r t).length = q
  | 0, _ => by simp [accTo]
  | t + 1, h => by
    obtain ⟨x, _, h2, h3⟩ := hX.get (show t < m by omega)
    rw [accTo, Gf.padd_length, accTo_length hX r t (by omega), h2, List.length_map, h3]
    exact Nat.max_self q
/-- What a matrix makes of shards. -/
def appL (M X : List (List UInt8)) : List (List UInt8) := M.map (fun r => accTo X (X.headD []).length r X.length)
theorem set_last (D : List (List UInt8)) (a b : List UInt8) (k : Nat) (hk : D.length = k) : (D ++ [a]).set k b = D ++ [b] := by
  subst hk
  rw [List.set_append_right _ _ (Nat.le_refl _), Nat.sub_self]
  rfl
theorem last_at (D : List (List UInt8)) (a : List UInt8) (k : Nat) (hk : D.length = k) : (D ++ [a])[k]? = some a := by
  subst hk
  simp

set_option maxRecDepth 100000 in
set_option maxHeartbeats 4000000 in
theorem apply_yes (P : Option Addr) (w : World) (A : Option Addr) (n c : Nat) (M : List (List UInt8)) (hM : Mtx w A n c M) (B : Option Addr) (m d : Nat) (X : List (List UInt8)) (hX : Mtx w B m d X) (hr : RightM M) (hm : m = colsOf M) (q : Nat) (hlev : Lev m q X) (hq : q ≤ 1000) :
    Calls Try.prog 16 #[.pointer P, .slice A n c, .slice B m d] w (GivesE w (appL M X) 0) := by
  have hl := hM.len
  have hn1 := hr.1
  have hn2 := hr.2.1
  have hm1 := right_cols hr
  obtain ⟨i0, hi0, hz0, hz1, hz2⟩ := info_parts Try.byteInfo
  obtain ⟨j0, hj0, jz0, jz1, jz2⟩ := info_parts rowInfo
  have HRI := Lib.hid (by have := right_says w A n c M hM (by omega); rwa [decide_eq_true hr] at this)
  have hlb : levelB X = true := by
    unfold levelB
    rw [List.all_eq_true]
    intro r hr'
    have h1 := hlev.2 r hr'
    cases X with
    | nil => cases hr'
    | cons a t => simp [h1, hlev.2 a (List.mem_cons_self ..)]
  have hhd : (X.headD []).length = q := by
    cases X with
    | nil => have := hX.len; simp at this; omega
    | cons a t => exact hlev.2 a (List.mem_cons_self ..)
  have HLE := Lib.hid (fun W (hW : Below w.heap.size w W) => (by have := level_says W B m d X (hX.below hW) (by omega); rwa [hlb] at this : Calls Try.prog 34 #[.slice B m d] W fun e w' => e = .returned (.bool true) ∧ Below W.heap.size W w'))
  obtain ⟨r0, hr0⟩ : ∃ r, M[0]? = some r := ⟨_, List.getElem?_eq_getElem (by omega)⟩
  obtain ⟨ba, oa, A0, c0, hA, hba, hc0, _⟩ := hM.row hr0
  rw [right_row hr hr0, ← hm, Nat.add_zero] at hc0
  obtain ⟨x0, hx0, _, hx0l⟩ := hlev.get (show 0 < m by omega)
  obtain ⟨bx, ox, B0, d0, hB, hbx, hd0, _⟩ := hX.row hx0
  rw [hx0l, Nat.add_zero] at hd0
  subst hA hB
  have HM := Lib.hid hM
  have HX := Lib.hid hX
  have HL := Lib.hid hlev
  have HRR := Lib.hid hr
  have HHD := Lib.hid hhd
  have HCO := Lib.hid hm
  have hn0 : 0 < n := by omega
  have hm0 : 0 < m := by omega
  have hm255 : m ≤ 255 := by omega
  have hnn : (0 : Int) < (n : Int) := by omega
  have hmm : (0 : Int) < (m : Int) := by omega
  clear hM hX hlev hlb hr hr0 hx0 hx0l hhd hm
  go_enter Try.func16, Try.ntmps16
  go_upto_region 4 with (first
    | (go_at_call 20; refine HRI.out.mono ?_; rintro e w1 ⟨rfl, hb1⟩; have hca := (hb1.cell (p := ⟨ba, oa, none⟩) hba).trans hc0; have HB1 := Lib.hid hb1; clear hb1)
    | (go_at_call 34; refine (HLE.out _ HB1.out).mono ?_; rintro e w2 ⟨rfl, hb2⟩; have HB2 := Lib.hid (HB1.out.trans (hb2.mono HB1.out.size)); clear hb2)
    | (at_make; refine wpList_make_full w2 rfl _ _ 22 rfl w2.heap.size 31 j0 _ 1 Try.underlying22 hj0 jz0 jz1 _ _ _ _ n rfl rfl rfl rfl (by rw [jz2]; omega) (by unfold maxLen; omega) (Nat.le_refl _) ?_; intro w3 hown3 hg3))
  have HB3 := Lib.hid (And.intro (rows_made (fun b => b ≠ w2.heap.size) hown3) (HB2.out.trans (((Below.refl w2.heap.size w2).grown hg3 (Nat.le_refl _) (fun k hk => by cases hk)).mono HB2.out.size)))
  have hgw : w.heap.size ≤ w2.heap.size := HB2.out.size
  generalize w2.heap.size = g at HB3 hgw
  clear hown3 hg3 hca HB1 HB2 HRI HLE
  go_wp2_with fail
  go_loopw [9, 10, 35] (fun _ _ i wr => ∃ (k : Nat), k ≤ n ∧ i = .int .i64 (k : Int) ∧ Hid (RowsN wr g n (fun b => b ≠ g) ((M.take k).map (fun r => accTo X q r m)) ∧ Below w.heap.size w wr)) (fun _ _ i _ => n - (intOf i).toNat)
  case atStart => exact ⟨0, by omega, rfl, by simpa using HB3⟩
  case round =>
    obtain ⟨k, hk, rfl, H⟩ := hrel
    by_cases hlt : k < n
    · have l1 : (k : Int) < (n : Int) := by omega
      obtain ⟨r, hrk⟩ : ∃ r, M[k]? = some r := ⟨_, List.getElem?_eq_getElem (by omega)⟩
      have hrl := right_row HRR.out hrk
      rw [← HCO.out] at hrl
      obtain ⟨b', o', Ak, ck, hA, hb', hck, hlk⟩ := HM.out.row hrk
      obtain ⟨rfl, rfl⟩ : ba = b' ∧ oa = o' := by
        injection hA with hA
        injection hA with h1 h2
        exact ⟨h1, h2⟩
      rw [hrl] at hck hlk
      have hc1 : wr.cell? ⟨ba, oa + k, none⟩ = some (.slice Ak m ck) := (H.out.2.cell (p := ⟨ba, oa + k, none⟩) hba).trans hck
      have hc2 : wr.cell? ⟨bx, ox, none⟩ = some (.slice B0 q d0) := (H.out.2.cell (p := ⟨bx, ox, none⟩) hbx).trans hd0
      obtain ⟨D, hD⟩ : ∃ D, (M.take k).map (fun r => accTo X q r m) = D := ⟨_, rfl⟩
      have hDl : D.length = k := by rw [← hD]; simp; omega
      have HD1 := Lib.hid (show (M.take (k + 1)).map (fun r => accTo X q r m) = D ++ [accTo X q r m] from by rw [← hD, List.take_add_one, hrk]; simp)
      rw [hD] at H
      have HLK := Lib.hid hlk
      have HRL := Lib.hid hrl
      have HDL := Lib.hid hDl
      clear hD hrk hck hlk hA hrl
      go_upto_region 8 with (at_make; refine wpList_make_full wr rfl _ _ 31 rfl wr.heap.size 5 i0 _ 1 Try.underlying31 hi0 hz0 hz1 _ _ _ _ q rfl rfl rfl rfl (by rw [hz2]; omega) (by unfold maxLen; omega) (Nat.le_refl _) ?_; intro w4 hown4 hg4; rw [zero_made] at hown4; have hB4 := (Below.refl wr.heap.size wr).grown hg4 (Nat.le_refl _) (fun k hk => by cases hk); have hR4 := H.out.1.below hB4; obtain ⟨⟨v0, hv0⟩, hf0⟩ := hR4.place hlt; have HX4 := Lib.hid (And.intro (box_own hown4) (And.intro hB4 hR4)); clear hown4 hg4 hB4 hR4)
      generalize hw5 : w4.setCell (⟨g, k, none⟩ : Addr) (Value.slice (some ⟨wr.heap.size, 0, none⟩) q q) = w5
      have H5 := Lib.hid (show RowsN w5 g n (fun b => b ≠ g) (D ++ [accTo X q r 0]) ∧ Below w.heap.size w w5 from by
        subst hw5
        have hgl := H.out.1.lt
        have h1 := HX4.out.2.2.push (A := some ⟨wr.heap.size, 0, none⟩) (c := q) (m := q) (l := accTo X q r 0) (fun e => e rfl) (by omega) (by simp [accTo]) (lies_box HX4.out.1 (by omega) (by simp))
        rw [hDl] at h1
        exact ⟨h1, (H.out.2.trans (HX4.out.2.1.mono H.out.2.size)).setCell (p := ⟨g, k, none⟩) hgw _⟩)
      clear hw5 hv0 hf0 HX4 H hc1 hc2
      go_wp2_with fail
      go_loopw [11, 12, 50] (fun _ _ j wr => ∃ (t : Nat), t ≤ m ∧ j = .int .i64 (t : Int) ∧ Hid (RowsN wr g n (fun b => b ≠ g) (D ++ [accTo X q r t]) ∧ Below w.heap.size w wr)) (fun _ _ j _ => m - (intOf j).toNat)
      case atStart => exact ⟨0, by omega, rfl, H5⟩
      case round =>
        obtain ⟨t, ht, rfl, H⟩ := hrel
        by_cases hlt2 : t < m
        · have l2 : (t : Int) < (m : Int) := by omega
          obtain ⟨u, hu⟩ : ∃ u, r[t]? = some u := ⟨_, List.getElem?_eq_getElem (by have := HRL.out; omega)⟩
          obtain ⟨b3, o3, hA3, _, hb3, hc3⟩ := HLK.out.at (j := t) (u := .int .u8 (u.toNat : Int)) (by simp [bc, hu])
          subst hA3
          have hcu : wr.cell? ⟨b3, o3 + t, none⟩ = some (.int .u8 (u.toNat : Int)) := (H.out.2.cell (p := ⟨b3, o3 + t, none⟩) hb3).trans hc3
          obtain ⟨x, hx, hx2, hxl⟩ := HL.out.get hlt2
          obtain ⟨b4, o4, Bt, dt, hB4, hb4, hct, hlt4⟩ := HX.out.row hx
          obtain ⟨rfl, rfl⟩ : bx = b4 ∧ ox = o4 := by
            injection hB4 with hB4
            injection hB4 with h1 h2
            exact ⟨h1, h2⟩
          rw [hxl] at hct hlt4
          have hcx : wr.cell? ⟨bx, ox + t, none⟩ = some (.slice Bt q dt) := (H.out.2.cell (p := ⟨bx, ox + t, none⟩) hbx).trans hct
          obtain ⟨a, ha⟩ : ∃ a, accTo X q r t = a := ⟨_, rfl⟩
          have hal : a.length = q := by rw [← ha]; exact accTo_length HL.out r t (by omega)
          have HAC := Lib.hid (show accTo X q r (t + 1) = Gf.padd a (x.map (fun y => Gf.mul y u)) from by rw [accTo, ha, hx2]; simp [List.getD_eq_getElem?_getD, hu])
          rw [ha] at H
          obtain ⟨Ao, co, hco, hlo⟩ := H.out.1.row (last_at D a k HDL.out)
          rw [hal] at hco hlo
          have HLO := Lib.hid hlo
          have HLX := Lib.hid (hlt4.below H.out.2)
          have HAL := Lib.hid hal
          have hgl := H.out.1.lt
          clear hu hc3 hx hx2 hxl hct hlt4 hB4 ha hal hlo
          go_wp2_with fail
          refine wp_region_held_drew (S := fun w' => w'.cell? ⟨bx, ox + t, none⟩ = some (.slice Bt q dt)) (by kernel_rfl) hcx (fun hHeld => ?_)
          refine take_run 0 55 (v := ?_) rfl rfl (by kernel_rfl) (by kernel_rfl) (by kernel_rfl) (fun _ _ _ h => h) (by rfl) ?_ (by assumption) ?_
          rotate_left
          · (intro wq hSw; (try dsimp only at hSw); go_simp; first | done | with_reducible rfl)
          simp only [Act.put, List.setIfInBounds_toArray, List.set_cons_zero, List.set_cons_succ]
          refine take_run 1 56 (v := ?_) rfl rfl (by kernel_rfl) (by kernel_rfl) (by kernel_rfl) (fun _ _ _ h => h) (by rfl) ?_ (by assumption) ?_
          rotate_left
          · (intro wq hSw; (try dsimp only at hSw); go_simp; first | done | with_reducible rfl)
          simp only [Act.put, List.setIfInBounds_toArray, List.set_cons_zero, List.set_cons_succ]
          refine take_run 2 57 (v := ?_) rfl rfl (by kernel_rfl) (by kernel_rfl) (by kernel_rfl) (fun _ _ _ h => h) (by rfl) ?_ (by assumption) ?_
          rotate_left
          · (intro wq hSw; (try dsimp only at hSw); go_simp; first | done | with_reducible rfl)
          simp only [Act.put, List.setIfInBounds_toArray, List.set_cons_zero, List.set_cons_succ]
          refine take_run 3 58 (v := ?_) rfl rfl (by kernel_rfl) (by kernel_rfl) (by kernel_rfl) (fun _ _ _ h => h) (by rfl) ?_ (by assumption) ?_
          rotate_left
          · (intro wq hSw; (try dsimp only at hSw); go_simp; first | done | with_reducible rfl)
          simp only [Act.put, List.setIfInBounds_toArray, List.set_cons_zero, List.set_cons_succ]
          refine take_run 4 59 (v := ?_) rfl rfl (by kernel_rfl) (by kernel_rfl) (by kernel_rfl) (fun _ _ _ h => h) (by rfl) ?_ (by assumption) ?_
          rotate_left
          · (intro wq hSw; (try dsimp only at hSw); go_simp; first | done | with_reducible rfl)
          simp only [Act.put, List.setIfInBounds_toArray, List.set_cons_zero, List.set_cons_succ]
          refine take_run 5 60 (v := ?_) rfl rfl (by kernel_rfl) (by kernel_rfl) (by kernel_rfl) (fun _ _ _ h => h) (by rfl) ?_ (by assumption) ?_
          rotate_left
          · (intro wq hSw; (try dsimp only at hSw); go_simp; first | done | with_reducible rfl)
          simp only [Act.put, List.setIfInBounds_toArray, List.set_cons_zero, List.set_cons_succ]
          refine take_run 7 62 (v := ?_) rfl rfl (by kernel_rfl) (by kernel_rfl) (by kernel_rfl) (fun _ _ _ h => h) (by rfl) ?_ (by assumption) ?_
          rotate_left
          · (intro wq hSw; (try dsimp only at hSw); go_simp; first | done | with_reducible rfl)
          simp only [Act.put, List.setIfInBounds_toArray, List.set_cons_zero, List.set_cons_succ]
          refine take_run 8 63 (v := ?_) rfl rfl (by kernel_rfl) (by kernel_rfl) (by kernel_rfl) (fun _ _ _ h => h) (by rfl) ?_ (by assumption) ?_
          rotate_left
          · (intro wq hSw; (try dsimp only at hSw); go_simp; first | done | with_reducible rfl)
          simp only [Act.put, List.setIfInBounds_toArray, List.set_cons_zero, List.set_cons_succ]
          refine take_run 9 64 (v := ?_) rfl rfl (by kernel_rfl) (by kernel_rfl) (by kernel_rfl) (fun _ _ _ h => h) (by rfl) ?_ (by assumption) ?_
          rotate_left
          · (intro wq hSw; (try dsimp only at hSw); go_simp; first | done | with_reducible rfl)
          simp only [Act.put, List.setIfInBounds_toArray, List.set_cons_zero, List.set_cons_succ]
          refine take_run 10 65 (v := ?_) rfl rfl (by kernel_rfl) (by kernel_rfl) (by kernel_rfl) (fun _ _ _ h => h) (by rfl) ?_ (by assumption) ?_
          rotate_left
          · (intro wq hSw; (try dsimp only at hSw); go_simp; first | done | with_reducible rfl)
          simp only [Act.put, List.setIfInBounds_toArray, List.set_cons_zero, List.set_cons_succ]
          refine take_run 11 66 (v := ?_) rfl rfl (by kernel_rfl) (by kernel_rfl) (by kernel_rfl) (fun _ _ _ h => h) (by rfl) ?_ (by assumption) ?_
          rotate_left
          · (intro wq hSw; (try dsimp only at hSw); go_simp; first | done | with_reducible rfl)
          simp only [Act.put, List.setIfInBounds_toArray, List.set_cons_zero, List.set_cons_succ]
          refine take_run 12 67 (v := ?_) rfl rfl (by kernel_rfl) (by kernel_rfl) (by kernel_rfl) (fun _ _ _ h => h) (by rfl) ?_ (by assumption) ?_
          rotate_left
          · (intro wq hSw; (try dsimp only at hSw); go_simp; first | done | with_reducible rfl)
          simp only [Act.put, List.setIfInBounds_toArray, List.set_cons_zero, List.set_cons_succ]
          refine wpAnyH_ready (rs := [6, 13]) (by kernel_rfl) (by simp) ?_
          refine AllReadyH.cons rfl (fun K hK => ?_) (AllReadyH.cons rfl (fun K hK => ?_) AllReadyH.nil)
          · go_simp
            refine hK.out _ _ hcx (fun _ => ?_)
            clear hK K
            refine wpAnyH_ready (rs := [13]) (by kernel_rfl) (by simp) ?_
            refine AllReadyH.cons rfl (fun K hK => ?_) AllReadyH.nil
            go_simp
            refine (scale_of gfB P Bt q dt x u wr.drew (HLX.out.weak (fun _ _ _ => trivial)) (by omega)).mono ?_
            rintro e w6 ⟨B6, n6, c6, rfl, hl6, hb6⟩
            obtain rfl : q = n6 := by rw [← hl6.len, bc_length, List.length_map, ← bc_length]; exact HLX.out.len.symm
            have HL6 := Lib.hid hl6
            have HB6 := Lib.hid (show Below wr.heap.size wr w6 from (Below.refl _ wr).drew.trans hb6)
            clear hl6 hb6
            refine hK.out _ _ ((HB6.out.cell (p := ⟨bx, ox + t, none⟩) (Nat.lt_of_lt_of_le hbx H.out.2.size)).trans hcx) (fun hHeld => ?_)
            clear hK K
            refine wpAnyH_ready (rs := [14]) (by kernel_rfl) (by simp) ?_
            refine AllReadyH.cons rfl (fun K hK => ?_) AllReadyH.nil
            go_simp
            refine (sum_of gfB P Ao q co a B6 q c6 _ w6 ((HLO.out.below HB6.out).weak (fun _ _ _ => trivial)) (HL6.out.weak (fun _ _ _ => trivial)) (by omega) (by omega)).mono ?_
            rintro e w7 ⟨B7, n7, c7, rfl, hl7, hb7⟩
            rw [← HAC.out] at hl7
            have hn7 : (accTo X q r (t + 1)).length = q := accTo_length HL.out r (t + 1) (by omega)
            obtain rfl : q = n7 := by rw [← hl7.len, bc_length]; exact hn7.symm
            have hB7 : Below wr.heap.size wr w7 := HB6.out.trans (hb7.mono HB6.out.size)
            have HL7 := Lib.hid (show Lies w7 (fun b => b ≠ g) B7 q c7 (bc (accTo X q r (t + 1))) from hl7.weak (fun b _ hb => by have := HB6.out.size; have hb' : w6.heap.size ≤ b := hb; omega))
            have hR7 := H.out.1.below hB7
            obtain ⟨⟨v7, hc7⟩, hf7⟩ := hR7.place (i := k) (by omega)
            have HR7 := Lib.hid (And.intro hR7 (And.intro hB7 hn7))
            clear hl7 hb7 hR7 hB7 hn7
            refine hK.out _ _ ((HR7.out.2.1.cell (p := ⟨bx, ox + t, none⟩) (Nat.lt_of_lt_of_le hbx H.out.2.size)).trans hcx) (fun hHeld => ?_)
            clear hK K
            refine take_run 15 70 (v := ?_) rfl rfl (by kernel_rfl) (by kernel_rfl) (by kernel_rfl) (fun _ _ _ h => h) (by rfl) ?_ (by assumption) ?_
            rotate_left
            · (intro wq hSw; (try dsimp only at hSw); go_simp; first | done | with_reducible rfl)
            simp only [Act.put, List.setIfInBounds_toArray, List.set_cons_zero, List.set_cons_succ]
            refine wpAnyH_ready (rs := [16]) (by kernel_rfl) (by simp) ?_
            refine AllReadyH.cons rfl (fun K hK => ?_) AllReadyH.nil
            go_simp
            refine hK.out _ _ ?_ (fun _ => ?_)
            · exact (World.cell?_setCell_other _ _ _ _ (fun e => by injection e with e; omega)).trans hHeld
            clear hK K
            refine wpAnyH_done (by kernel_rfl) ?_ _
            go_wp2
            go_roundw
            case rel =>
              refine ⟨t + 1, by omega, by go_num, Lib.hid ⟨?_, ?_⟩⟩
              · have h1 := HR7.out.1.put (i := k) (fun e => e rfl) HR7.out.2.2 HL7.out
                rwa [set_last D _ _ k HDL.out] at h1
              · exact (H.out.2.trans (HR7.out.2.1.mono H.out.2.size)).setCell (p := ⟨g, k, none⟩) hgw _
            case measure => simp [intOf]; omega
          · go_simp
            refine (scale_of gfB P Bt q dt x u wr.drew (HLX.out.weak (fun _ _ _ => trivial)) (by omega)).mono ?_
            rintro e w6 ⟨B6, n6, c6, rfl, hl6, hb6⟩
            obtain rfl : q = n6 := by rw [← hl6.len, bc_length, List.length_map, ← bc_length]; exact HLX.out.len.symm
            have HL6 := Lib.hid hl6
            have HB6 := Lib.hid (show Below wr.heap.size wr w6 from (Below.refl _ wr).drew.trans hb6)
            clear hl6 hb6
            refine hK.out _ _ ((HB6.out.cell (p := ⟨bx, ox + t, none⟩) (Nat.lt_of_lt_of_le hbx H.out.2.size)).trans hcx) (fun hHeld => ?_)
            clear hK K
            have hco6 := (HB6.out.cell (p := ⟨g, k, none⟩) hgl).trans hco
            refine wpAnyH_ready (rs := [6]) (by kernel_rfl) (by simp) ?_
            refine AllReadyH.cons rfl (fun K hK => ?_) AllReadyH.nil
            go_simp
            refine hK.out _ _ hHeld (fun _ => ?_)
            clear hK K
            clear hco6
            refine wpAnyH_ready (rs := [14]) (by kernel_rfl) (by simp) ?_
            refine AllReadyH.cons rfl (fun K hK => ?_) AllReadyH.nil
            go_simp
            refine (sum_of gfB P Ao q co a B6 q c6 _ w6 ((HLO.out.below HB6.out).weak (fun _ _ _ => trivial)) (HL6.out.weak (fun _ _ _ => trivial)) (by omega) (by omega)).mono ?_
            rintro e w7 ⟨B7, n7, c7, rfl, hl7, hb7⟩
            rw [← HAC.out] at hl7
            have hn7 : (accTo X q r (t + 1)).length = q := accTo_length HL.out r (t + 1) (by omega)
            obtain rfl : q = n7 := by rw [← hl7.len, bc_length]; exact hn7.symm
            have hB7 : Below wr.heap.size wr w7 := HB6.out.trans (hb7.mono HB6.out.size)
            have HL7 := Lib.hid (show Lies w7 (fun b => b ≠ g) B7 q c7 (bc (accTo X q r (t + 1))) from hl7.weak (fun b _ hb => by have := HB6.out.size; have hb' : w6.heap.size ≤ b := hb; omega))
            have hR7 := H.out.1.below hB7
            obtain ⟨⟨v7, hc7⟩, hf7⟩ := hR7.place (i := k) (by omega)
            have HR7 := Lib.hid (And.intro hR7 (And.intro hB7 hn7))
            clear hl7 hb7 hR7 hB7 hn7
            refine hK.out _ _ ((HR7.out.2.1.cell (p := ⟨bx, ox + t, none⟩) (Nat.lt_of_lt_of_le hbx H.out.2.size)).trans hcx) (fun hHeld => ?_)
            clear hK K
            refine take_run 15 70 (v := ?_) rfl rfl (by kernel_rfl) (by kernel_rfl) (by kernel_rfl) (fun _ _ _ h => h) (by rfl) ?_ (by assumption) ?_
            rotate_left
            · (intro wq hSw; (try dsimp only at hSw); go_simp; first | done | with_reducible rfl)
            simp only [Act.put, List.setIfInBounds_toArray, List.set_cons_zero, List.set_cons_succ]
            refine wpAnyH_ready (rs := [16]) (by kernel_rfl) (by simp) ?_
            refine AllReadyH.cons rfl (fun K hK => ?_) AllReadyH.nil
            go_simp
            refine hK.out _ _ ?_ (fun _ => ?_)
            · exact (World.cell?_setCell_other _ _ _ _ (fun e => by injection e with e; omega)).trans hHeld
            clear hK K
            refine wpAnyH_done (by kernel_rfl) ?_ _
            go_wp2
            go_roundw
            case rel =>
              refine ⟨t + 1, by omega, by go_num, Lib.hid ⟨?_, ?_⟩⟩
              · have h1 := HR7.out.1.put (i := k) (fun e => e rfl) HR7.out.2.2 HL7.out
                rwa [set_last D _ _ k HDL.out] at h1
              · exact (H.out.2.trans (HR7.out.2.1.mono H.out.2.size)).setCell (p := ⟨g, k, none⟩) hgw _
            case measure => simp [intOf]; omega
        · obtain rfl : t = m := by omega
          have l2 : ¬ (t : Int) < (t : Int) := by omega
          go_wp2
          go_roundw
          case rel => exact ⟨k + 1, by omega, by go_num, by rw [HD1.out]; exact H⟩
          case measure => simp [intOf]; omega
    · obtain rfl : k = n := by omega
      have l1 : ¬ (k : Int) < (k : Int) := by omega
      have HE := Lib.hid (show (M.take k).map (fun r => accTo X q r m) = appL M X from by rw [List.take_of_length_le (by omega), appL, HHD.out, HL.out.1])
      go_wp2
      go_ret2
      refine ⟨_, _, _, rfl, ?_, H.out.2⟩
      rw [← HE.out]
      exact H.out.1.mtx (by simp; omega) (Nat.le_refl _)
end Go.Proofs.Ytgakeecibofiiaa
