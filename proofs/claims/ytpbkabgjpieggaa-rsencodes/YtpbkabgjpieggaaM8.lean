/-
  Apply and Mul of package mat.
  Apply where it is refused, and Mul, of package mat.
  Matrices as lists of rows, and as functions: products, turned ones, ranks.
  The statements' small play, and Few.
-/
import Derived.Test.YtpbkabgjpieggaaM1
import Derived.Test.YtpbkabgjpieggaaM5
import Derived.Test.YtpbkabgjpieggaaM6
import Derived.Test.YtpbkabgjpieggaaM7
import Derived.Deep.RegionHeld3
import Derived.Deep.DeepCutAuto
import Derived.Deep.CutBlock
import Derived.Test.YtpbkabgjpieggaaM4

namespace Go.Proofs.Ytpbkabgjpieggaa
open Go.RowKit Go.Shelf

/-- What t shards, each times the row's number of its place, come to. -/
def accTo (X : List (List UInt8)) (q : Nat) (r : List UInt8) : Nat → List UInt8
  | 0 => List.replicate q 0
  | t + 1 => Gf.padd (accTo X q r t) ((X.getD t []).map (fun y => Gf.mul y (r.getD t 0)))
theorem accTo_length {X : List (List UInt8)} {q m : Nat} (hX : Lev m q X) (r : List UInt8) : ∀ t, t ≤ m → (accTo X q r t).length = q
  | 0, _ => by simp [accTo]
  | t + 1, h => by
    obtain ⟨x, _, h2, h3⟩ := hX.get (show t < m by omega)
    rw [accTo, Gf.padd_length, accTo_length hX r t (by omega), h2, List.length_map, h3]
    exact Nat.max_self q
/-- What a matrix makes of shards. -/
def appL (M X : List (List UInt8)) : List (List UInt8) := M.map (fun r => accTo X (X.headD []).length r X.length)
theorem set_last (D : List (List UInt8)) (a b : List UInt8) (k : Nat) (hk : D.length = k) : (D ++ [a]).set k b = D ++ [b] := by
  subst hk
  rw [List.set_append_right _ _ (Nat.le_refl _), Nat.sub_self]
  rfl
theorem last_at (D : List (List UInt8)) (a : List UInt8) (k : Nat) (hk : D.length = k) : (D ++ [a])[k]? = some a := by
  subst hk
  simp

set_option maxRecDepth 100000 in
/-- Rows handed back in a new block, with an error. -/
def GivesO (w : World) (M : List (List UInt8)) (f : Int) (e : Ending) (w' : World) : Prop := ∃ g n, e = .returned (.tuple #[.slice (some ⟨g, 0, none⟩) n n, .int .i64 f]) ∧ w.heap.size ≤ g ∧ M.length = n ∧ RowsN w' g n (fun b => b ≠ g ∧ w.heap.size ≤ b) M ∧ Below w.heap.size w w'
set_option maxHeartbeats 4000000 in
theorem apply_new (P : Option Addr) (w : World) (A : Option Addr) (n c : Nat) (M : List (List UInt8)) (hM : Mtx w A n c M) (B : Option Addr) (m d : Nat) (X : List (List UInt8)) (hX : Mtx w B m d X) (hr : RightM M) (hm : m = colsOf M) (q : Nat) (hlev : Lev m q X) (hq : q ≤ 1000) :
    Calls Try.prog 37 #[.pointer P, .slice A n c, .slice B m d] w (GivesO w (appL M X) 0) := by
  have hl := hM.len
  have hn1 := hr.1
  have hn2 := hr.2.1
  have hm1 := right_cols hr
  obtain ⟨i0, hi0, hz0, hz1, hz2⟩ := info_parts Try.byteInfo
  obtain ⟨j0, hj0, jz0, jz1, jz2⟩ := info_parts rowInfo
  have HRI := Lib.hid (by have := right_says w A n c M hM (by omega); rwa [decide_eq_true hr] at this)
  have hlb : levelB X = true := by
    unfold levelB
    rw [List.all_eq_true]
    intro r hr'
    have h1 := hlev.2 r hr'
    cases X with
    | nil => cases hr'
    | cons a t => simp [h1, hlev.2 a (List.mem_cons_self ..)]
  have hhd : (X.headD []).length = q := by
    cases X with
    | nil => have := hX.len; simp at this; omega
    | cons a t => exact hlev.2 a (List.mem_cons_self ..)
  have HLE := Lib.hid (fun W (hW : Below w.heap.size w W) => (by have := level_says W B m d X (hX.below hW) (by omega); rwa [hlb] at this : Calls Try.prog 48 #[.slice B m d] W fun e w' => e = .returned (.bool true) ∧ Below W.heap.size W w'))
  obtain ⟨r0, hr0⟩ : ∃ r, M[0]? = some r := ⟨_, List.getElem?_eq_getElem (by omega)⟩
  obtain ⟨ba, oa, A0, c0, hA, hba, hc0, _⟩ := hM.row hr0
  rw [right_row hr hr0, ← hm, Nat.add_zero] at hc0
  obtain ⟨x0, hx0, _, hx0l⟩ := hlev.get (show 0 < m by omega)
  obtain ⟨bx, ox, B0, d0, hB, hbx, hd0, _⟩ := hX.row hx0
  rw [hx0l, Nat.add_zero] at hd0
  subst hA hB
  have HM := Lib.hid hM
  have HX := Lib.hid hX
  have HL := Lib.hid hlev
  have HRR := Lib.hid hr
  have HHD := Lib.hid hhd
  have HCO := Lib.hid hm
  have hn0 : 0 < n := by omega
  have hm0 : 0 < m := by omega
  have hm255 : m ≤ 255 := by omega
  have hnn : (0 : Int) < (n : Int) := by omega
  have hmm : (0 : Int) < (m : Int) := by omega
  clear hM hX hlev hlb hr hr0 hx0 hx0l hhd hm
  go_enter Try.func37, Try.ntmps37
  go_upto_region 4 with (first
    | (go_at_call 47; refine HRI.out.mono ?_; rintro e w1 ⟨rfl, hb1⟩; have hca := (hb1.cell (p := ⟨ba, oa, none⟩) hba).trans hc0; have HB1 := Lib.hid hb1; clear hb1)
    | (go_at_call 48; refine (HLE.out _ HB1.out).mono ?_; rintro e w2 ⟨rfl, hb2⟩; have HB2 := Lib.hid (HB1.out.trans (hb2.mono HB1.out.size)); clear hb2)
    | (at_make; refine wpList_make_full w2 rfl _ _ 22 rfl w2.heap.size 31 j0 _ 1 Try.underlying22 hj0 jz0 jz1 _ _ _ _ n rfl rfl rfl rfl (by rw [jz2]; omega) (by unfold maxLen; omega) (Nat.le_refl _) ?_; intro w3 hown3 hg3))
  have HB3 := Lib.hid (And.intro (rows_made (fun b => b ≠ w2.heap.size ∧ w.heap.size ≤ b) hown3) (HB2.out.trans (((Below.refl w2.heap.size w2).grown hg3 (Nat.le_refl _) (fun k hk => by cases hk)).mono HB2.out.size)))
  have hgw : w.heap.size ≤ w2.heap.size := HB2.out.size
  generalize w2.heap.size = g at HB3 hgw
  clear hown3 hg3 hca HB1 HB2 HRI HLE
  go_wp2_with fail
  go_loopw [9, 10, 35] (fun _ _ i wr => ∃ (k : Nat), k ≤ n ∧ i = .int .i64 (k : Int) ∧ Hid (RowsN wr g n (fun b => b ≠ g ∧ w.heap.size ≤ b) ((M.take k).map (fun r => accTo X q r m)) ∧ Below w.heap.size w wr)) (fun _ _ i _ => n - (intOf i).toNat)
  case atStart => exact ⟨0, by omega, rfl, by simpa using HB3⟩
  case round =>
    obtain ⟨k, hk, rfl, H⟩ := hrel
    by_cases hlt : k < n
    · have l1 : (k : Int) < (n : Int) := by omega
      obtain ⟨r, hrk⟩ : ∃ r, M[k]? = some r := ⟨_, List.getElem?_eq_getElem (by omega)⟩
      have hrl := right_row HRR.out hrk
      rw [← HCO.out] at hrl
      obtain ⟨b', o', Ak, ck, hA, hb', hck, hlk⟩ := HM.out.row hrk
      obtain ⟨rfl, rfl⟩ : ba = b' ∧ oa = o' := by
        injection hA with hA
        injection hA with h1 h2
        exact ⟨h1, h2⟩
      rw [hrl] at hck hlk
      have hc1 : wr.cell? ⟨ba, oa + k, none⟩ = some (.slice Ak m ck) := (H.out.2.cell (p := ⟨ba, oa + k, none⟩) hba).trans hck
      have hc2 : wr.cell? ⟨bx, ox, none⟩ = some (.slice B0 q d0) := (H.out.2.cell (p := ⟨bx, ox, none⟩) hbx).trans hd0
      obtain ⟨D, hD⟩ : ∃ D, (M.take k).map (fun r => accTo X q r m) = D := ⟨_, rfl⟩
      have hDl : D.length = k := by rw [← hD]; simp; omega
      have HD1 := Lib.hid (show (M.take (k + 1)).map (fun r => accTo X q r m) = D ++ [accTo X q r m] from by rw [← hD, List.take_add_one, hrk]; simp)
      rw [hD] at H
      have HLK := Lib.hid hlk
      have HRL := Lib.hid hrl
      have HDL := Lib.hid hDl
      clear hD hrk hck hlk hA hrl
      go_upto_region 8 with (at_make; refine wpList_make_full wr rfl _ _ 31 rfl wr.heap.size 5 i0 _ 1 Try.underlying31 hi0 hz0 hz1 _ _ _ _ q rfl rfl rfl rfl (by rw [hz2]; omega) (by unfold maxLen; omega) (Nat.le_refl _) ?_; intro w4 hown4 hg4; rw [zero_made] at hown4; have hB4 := (Below.refl wr.heap.size wr).grown hg4 (Nat.le_refl _) (fun k hk => by cases hk); have hR4 := H.out.1.below hB4; obtain ⟨⟨v0, hv0⟩, hf0⟩ := hR4.place hlt; have HX4 := Lib.hid (And.intro (box_own hown4) (And.intro hB4 hR4)); clear hown4 hg4 hB4 hR4)
      generalize hw5 : w4.setCell (⟨g, k, none⟩ : Addr) (Value.slice (some ⟨wr.heap.size, 0, none⟩) q q) = w5
      have H5 := Lib.hid (show RowsN w5 g n (fun b => b ≠ g ∧ w.heap.size ≤ b) (D ++ [accTo X q r 0]) ∧ Below w.heap.size w w5 from by
        subst hw5
        have hgl := H.out.1.lt
        have h1 := HX4.out.2.2.push (A := some ⟨wr.heap.size, 0, none⟩) (c := q) (m := q) (l := accTo X q r 0) (fun e => e.1 rfl) (by omega) (by simp [accTo]) (lies_box HX4.out.1 ⟨by omega, H.out.2.size⟩ (by simp))
        rw [hDl] at h1
        exact ⟨h1, (H.out.2.trans (HX4.out.2.1.mono H.out.2.size)).setCell (p := ⟨g, k, none⟩) hgw _⟩)
      clear hw5 hv0 hf0 HX4 H hc1 hc2
      go_wp2_with fail
      go_loopw [11, 12, 50] (fun _ _ j wr => ∃ (t : Nat), t ≤ m ∧ j = .int .i64 (t : Int) ∧ Hid (RowsN wr g n (fun b => b ≠ g ∧ w.heap.size ≤ b) (D ++ [accTo X q r t]) ∧ Below w.heap.size w wr)) (fun _ _ j _ => m - (intOf j).toNat)
      case atStart => exact ⟨0, by omega, rfl, H5⟩
      case round =>
        obtain ⟨t, ht, rfl, H⟩ := hrel
        by_cases hlt2 : t < m
        · have l2 : (t : Int) < (m : Int) := by omega
          obtain ⟨u, hu⟩ : ∃ u, r[t]? = some u := ⟨_, List.getElem?_eq_getElem (by have := HRL.out; omega)⟩
          obtain ⟨b3, o3, hA3, _, hb3, hc3⟩ := HLK.out.at (j := t) (u := .int .u8 (u.toNat : Int)) (by simp [bc, hu])
          subst hA3
          have hcu : wr.cell? ⟨b3, o3 + t, none⟩ = some (.int .u8 (u.toNat : Int)) := (H.out.2.cell (p := ⟨b3, o3 + t, none⟩) hb3).trans hc3
          obtain ⟨x, hx, hx2, hxl⟩ := HL.out.get hlt2
          obtain ⟨b4, o4, Bt, dt, hB4, hb4, hct, hlt4⟩ := HX.out.row hx
          obtain ⟨rfl, rfl⟩ : bx = b4 ∧ ox = o4 := by
            injection hB4 with hB4
            injection hB4 with h1 h2
            exact ⟨h1, h2⟩
          rw [hxl] at hct hlt4
          have hcx : wr.cell? ⟨bx, ox + t, none⟩ = some (.slice Bt q dt) := (H.out.2.cell (p := ⟨bx, ox + t, none⟩) hbx).trans hct
          obtain ⟨a, ha⟩ : ∃ a, accTo X q r t = a := ⟨_, rfl⟩
          have hal : a.length = q := by rw [← ha]; exact accTo_length HL.out r t (by omega)
          have HAC := Lib.hid (show accTo X q r (t + 1) = Gf.padd a (x.map (fun y => Gf.mul y u)) from by rw [accTo, ha, hx2]; simp [List.getD_eq_getElem?_getD, hu])
          rw [ha] at H
          obtain ⟨Ao, co, hco, hlo⟩ := H.out.1.row (last_at D a k HDL.out)
          rw [hal] at hco hlo
          have HLO := Lib.hid hlo
          have HLX := Lib.hid (hlt4.below H.out.2)
          have HAL := Lib.hid hal
          have hgl := H.out.1.lt
          clear hu hc3 hx hx2 hxl hct hlt4 hB4 ha hal hlo
          go_wp2_with fail
          refine wp_region_held_drew (S := fun w' => w'.cell? ⟨bx, ox + t, none⟩ = some (.slice Bt q dt)) (by kernel_rfl) hcx (fun hHeld => ?_)
          refine take_run 0 55 (v := ?_) rfl rfl (by kernel_rfl) (by kernel_rfl) (by kernel_rfl) (fun _ _ _ h => h) (by rfl) ?_ (by assumption) ?_
          rotate_left
          · (intro wq hSw; (try dsimp only at hSw); go_simp; first | done | with_reducible rfl)
          simp only [Act.put, List.setIfInBounds_toArray, List.set_cons_zero, List.set_cons_succ]
          refine take_run 1 56 (v := ?_) rfl rfl (by kernel_rfl) (by kernel_rfl) (by kernel_rfl) (fun _ _ _ h => h) (by rfl) ?_ (by assumption) ?_
          rotate_left
          · (intro wq hSw; (try dsimp only at hSw); go_simp; first | done | with_reducible rfl)
          simp only [Act.put, List.setIfInBounds_toArray, List.set_cons_zero, List.set_cons_succ]
          refine take_run 2 57 (v := ?_) rfl rfl (by kernel_rfl) (by kernel_rfl) (by kernel_rfl) (fun _ _ _ h => h) (by rfl) ?_ (by assumption) ?_
          rotate_left
          · (intro wq hSw; (try dsimp only at hSw); go_simp; first | done | with_reducible rfl)
          simp only [Act.put, List.setIfInBounds_toArray, List.set_cons_zero, List.set_cons_succ]
          refine take_run 3 58 (v := ?_) rfl rfl (by kernel_rfl) (by kernel_rfl) (by kernel_rfl) (fun _ _ _ h => h) (by rfl) ?_ (by assumption) ?_
          rotate_left
          · (intro wq hSw; (try dsimp only at hSw); go_simp; first | done | with_reducible rfl)
          simp only [Act.put, List.setIfInBounds_toArray, List.set_cons_zero, List.set_cons_succ]
          refine take_run 4 59 (v := ?_) rfl rfl (by kernel_rfl) (by kernel_rfl) (by kernel_rfl) (fun _ _ _ h => h) (by rfl) ?_ (by assumption) ?_
          rotate_left
          · (intro wq hSw; (try dsimp only at hSw); go_simp; first | done | with_reducible rfl)
          simp only [Act.put, List.setIfInBounds_toArray, List.set_cons_zero, List.set_cons_succ]
          refine take_run 5 60 (v := ?_) rfl rfl (by kernel_rfl) (by kernel_rfl) (by kernel_rfl) (fun _ _ _ h => h) (by rfl) ?_ (by assumption) ?_
          rotate_left
          · (intro wq hSw; (try dsimp only at hSw); go_simp; first | done | with_reducible rfl)
          simp only [Act.put, List.setIfInBounds_toArray, List.set_cons_zero, List.set_cons_succ]
          refine take_run 7 62 (v := ?_) rfl rfl (by kernel_rfl) (by kernel_rfl) (by kernel_rfl) (fun _ _ _ h => h) (by rfl) ?_ (by assumption) ?_
          rotate_left
          · (intro wq hSw; (try dsimp only at hSw); go_simp; first | done | with_reducible rfl)
          simp only [Act.put, List.setIfInBounds_toArray, List.set_cons_zero, List.set_cons_succ]
          refine take_run 8 63 (v := ?_) rfl rfl (by kernel_rfl) (by kernel_rfl) (by kernel_rfl) (fun _ _ _ h => h) (by rfl) ?_ (by assumption) ?_
          rotate_left
          · (intro wq hSw; (try dsimp only at hSw); go_simp; first | done | with_reducible rfl)
          simp only [Act.put, List.setIfInBounds_toArray, List.set_cons_zero, List.set_cons_succ]
          refine take_run 9 64 (v := ?_) rfl rfl (by kernel_rfl) (by kernel_rfl) (by kernel_rfl) (fun _ _ _ h => h) (by rfl) ?_ (by assumption) ?_
          rotate_left
          · (intro wq hSw; (try dsimp only at hSw); go_simp; first | done | with_reducible rfl)
          simp only [Act.put, List.setIfInBounds_toArray, List.set_cons_zero, List.set_cons_succ]
          refine take_run 10 65 (v := ?_) rfl rfl (by kernel_rfl) (by kernel_rfl) (by kernel_rfl) (fun _ _ _ h => h) (by rfl) ?_ (by assumption) ?_
          rotate_left
          · (intro wq hSw; (try dsimp only at hSw); go_simp; first | done | with_reducible rfl)
          simp only [Act.put, List.setIfInBounds_toArray, List.set_cons_zero, List.set_cons_succ]
          refine take_run 11 66 (v := ?_) rfl rfl (by kernel_rfl) (by kernel_rfl) (by kernel_rfl) (fun _ _ _ h => h) (by rfl) ?_ (by assumption) ?_
          rotate_left
          · (intro wq hSw; (try dsimp only at hSw); go_simp; first | done | with_reducible rfl)
          simp only [Act.put, List.setIfInBounds_toArray, List.set_cons_zero, List.set_cons_succ]
          refine take_run 12 67 (v := ?_) rfl rfl (by kernel_rfl) (by kernel_rfl) (by kernel_rfl) (fun _ _ _ h => h) (by rfl) ?_ (by assumption) ?_
          rotate_left
          · (intro wq hSw; (try dsimp only at hSw); go_simp; first | done | with_reducible rfl)
          simp only [Act.put, List.setIfInBounds_toArray, List.set_cons_zero, List.set_cons_succ]
          refine wpAnyH_ready (rs := [6, 13]) (by kernel_rfl) (by simp) ?_
          refine AllReadyH.cons rfl (fun K hK => ?_) (AllReadyH.cons rfl (fun K hK => ?_) AllReadyH.nil)
          · go_simp
            refine hK.out _ _ hcx (fun _ => ?_)
            clear hK K
            refine wpAnyH_ready (rs := [13]) (by kernel_rfl) (by simp) ?_
            refine AllReadyH.cons rfl (fun K hK => ?_) AllReadyH.nil
            go_simp
            refine (scale_of gfB P Bt q dt x u wr.drew (HLX.out.weak (fun _ _ _ => trivial)) (by omega)).mono ?_
            rintro e w6 ⟨B6, n6, c6, rfl, hl6, hb6⟩
            obtain rfl : q = n6 := by rw [← hl6.len, bc_length, List.length_map, ← bc_length]; exact HLX.out.len.symm
            have HL6 := Lib.hid hl6
            have HB6 := Lib.hid (show Below wr.heap.size wr w6 from (Below.refl _ wr).drew.trans hb6)
            clear hl6 hb6
            refine hK.out _ _ ((HB6.out.cell (p := ⟨bx, ox + t, none⟩) (Nat.lt_of_lt_of_le hbx H.out.2.size)).trans hcx) (fun hHeld => ?_)
            clear hK K
            refine wpAnyH_ready (rs := [14]) (by kernel_rfl) (by simp) ?_
            refine AllReadyH.cons rfl (fun K hK => ?_) AllReadyH.nil
            go_simp
            refine (sum_of gfB P Ao q co a B6 q c6 _ w6 ((HLO.out.below HB6.out).weak (fun _ _ _ => trivial)) (HL6.out.weak (fun _ _ _ => trivial)) (by omega) (by omega)).mono ?_
            rintro e w7 ⟨B7, n7, c7, rfl, hl7, hb7⟩
            rw [← HAC.out] at hl7
            have hn7 : (accTo X q r (t + 1)).length = q := accTo_length HL.out r (t + 1) (by omega)
            obtain rfl : q = n7 := by rw [← hl7.len, bc_length]; exact hn7.symm
            have hB7 : Below wr.heap.size wr w7 := HB6.out.trans (hb7.mono HB6.out.size)
            have HL7 := Lib.hid (show Lies w7 (fun b => b ≠ g ∧ w.heap.size ≤ b) B7 q c7 (bc (accTo X q r (t + 1))) from hl7.weak (fun b _ hb => by have := HB6.out.size; have hb' : w6.heap.size ≤ b := hb; have hs := H.out.2.size; exact ⟨by omega, by omega⟩))
            have hR7 := H.out.1.below hB7
            obtain ⟨⟨v7, hc7⟩, hf7⟩ := hR7.place (i := k) (by omega)
            have HR7 := Lib.hid (And.intro hR7 (And.intro hB7 hn7))
            clear hl7 hb7 hR7 hB7 hn7
            refine hK.out _ _ ((HR7.out.2.1.cell (p := ⟨bx, ox + t, none⟩) (Nat.lt_of_lt_of_le hbx H.out.2.size)).trans hcx) (fun hHeld => ?_)
            clear hK K
            refine take_run 15 70 (v := ?_) rfl rfl (by kernel_rfl) (by kernel_rfl) (by kernel_rfl) (fun _ _ _ h => h) (by rfl) ?_ (by assumption) ?_
            rotate_left
            · (intro wq hSw; (try dsimp only at hSw); go_simp; first | done | with_reducible rfl)
            simp only [Act.put, List.setIfInBounds_toArray, List.set_cons_zero, List.set_cons_succ]
            refine wpAnyH_ready (rs := [16]) (by kernel_rfl) (by simp) ?_
            refine AllReadyH.cons rfl (fun K hK => ?_) AllReadyH.nil
            go_simp
            refine hK.out _ _ ?_ (fun _ => ?_)
            · exact (World.cell?_setCell_other _ _ _ _ (fun e => by injection e with e; omega)).trans hHeld
            clear hK K
            refine wpAnyH_done (by kernel_rfl) ?_ _
            go_wp2
            go_roundw
            case rel =>
              refine ⟨t + 1, by omega, by go_num, Lib.hid ⟨?_, ?_⟩⟩
              · have h1 := HR7.out.1.put (i := k) (fun e => e.1 rfl) HR7.out.2.2 HL7.out
                rwa [set_last D _ _ k HDL.out] at h1
              · exact (H.out.2.trans (HR7.out.2.1.mono H.out.2.size)).setCell (p := ⟨g, k, none⟩) hgw _
            case measure => simp [intOf]; omega
          · go_simp
            refine (scale_of gfB P Bt q dt x u wr.drew (HLX.out.weak (fun _ _ _ => trivial)) (by omega)).mono ?_
            rintro e w6 ⟨B6, n6, c6, rfl, hl6, hb6⟩
            obtain rfl : q = n6 := by rw [← hl6.len, bc_length, List.length_map, ← bc_length]; exact HLX.out.len.symm
            have HL6 := Lib.hid hl6
            have HB6 := Lib.hid (show Below wr.heap.size wr w6 from (Below.refl _ wr).drew.trans hb6)
            clear hl6 hb6
            refine hK.out _ _ ((HB6.out.cell (p := ⟨bx, ox + t, none⟩) (Nat.lt_of_lt_of_le hbx H.out.2.size)).trans hcx) (fun hHeld => ?_)
            clear hK K
            have hco6 := (HB6.out.cell (p := ⟨g, k, none⟩) hgl).trans hco
            refine wpAnyH_ready (rs := [6]) (by kernel_rfl) (by simp) ?_
            refine AllReadyH.cons rfl (fun K hK => ?_) AllReadyH.nil
            go_simp
            refine hK.out _ _ hHeld (fun _ => ?_)
            clear hK K
            clear hco6
            refine wpAnyH_ready (rs := [14]) (by kernel_rfl) (by simp) ?_
            refine AllReadyH.cons rfl (fun K hK => ?_) AllReadyH.nil
            go_simp
            refine (sum_of gfB P Ao q co a B6 q c6 _ w6 ((HLO.out.below HB6.out).weak (fun _ _ _ => trivial)) (HL6.out.weak (fun _ _ _ => trivial)) (by omega) (by omega)).mono ?_
            rintro e w7 ⟨B7, n7, c7, rfl, hl7, hb7⟩
            rw [← HAC.out] at hl7
            have hn7 : (accTo X q r (t + 1)).length = q := accTo_length HL.out r (t + 1) (by omega)
            obtain rfl : q = n7 := by rw [← hl7.len, bc_length]; exact hn7.symm
            have hB7 : Below wr.heap.size wr w7 := HB6.out.trans (hb7.mono HB6.out.size)
            have HL7 := Lib.hid (show Lies w7 (fun b => b ≠ g ∧ w.heap.size ≤ b) B7 q c7 (bc (accTo X q r (t + 1))) from hl7.weak (fun b _ hb => by have := HB6.out.size; have hb' : w6.heap.size ≤ b := hb; have hs := H.out.2.size; exact ⟨by omega, by omega⟩))
            have hR7 := H.out.1.below hB7
            obtain ⟨⟨v7, hc7⟩, hf7⟩ := hR7.place (i := k) (by omega)
            have HR7 := Lib.hid (And.intro hR7 (And.intro hB7 hn7))
            clear hl7 hb7 hR7 hB7 hn7
            refine hK.out _ _ ((HR7.out.2.1.cell (p := ⟨bx, ox + t, none⟩) (Nat.lt_of_lt_of_le hbx H.out.2.size)).trans hcx) (fun hHeld => ?_)
            clear hK K
            refine take_run 15 70 (v := ?_) rfl rfl (by kernel_rfl) (by kernel_rfl) (by kernel_rfl) (fun _ _ _ h => h) (by rfl) ?_ (by assumption) ?_
            rotate_left
            · (intro wq hSw; (try dsimp only at hSw); go_simp; first | done | with_reducible rfl)
            simp only [Act.put, List.setIfInBounds_toArray, List.set_cons_zero, List.set_cons_succ]
            refine wpAnyH_ready (rs := [16]) (by kernel_rfl) (by simp) ?_
            refine AllReadyH.cons rfl (fun K hK => ?_) AllReadyH.nil
            go_simp
            refine hK.out _ _ ?_ (fun _ => ?_)
            · exact (World.cell?_setCell_other _ _ _ _ (fun e => by injection e with e; omega)).trans hHeld
            clear hK K
            refine wpAnyH_done (by kernel_rfl) ?_ _
            go_wp2
            go_roundw
            case rel =>
              refine ⟨t + 1, by omega, by go_num, Lib.hid ⟨?_, ?_⟩⟩
              · have h1 := HR7.out.1.put (i := k) (fun e => e.1 rfl) HR7.out.2.2 HL7.out
                rwa [set_last D _ _ k HDL.out] at h1
              · exact (H.out.2.trans (HR7.out.2.1.mono H.out.2.size)).setCell (p := ⟨g, k, none⟩) hgw _
            case measure => simp [intOf]; omega
        · obtain rfl : t = m := by omega
          have l2 : ¬ (t : Int) < (t : Int) := by omega
          go_wp2
          go_roundw
          case rel => exact ⟨k + 1, by omega, by go_num, by rw [HD1.out]; exact H⟩
          case measure => simp [intOf]; omega
    · obtain rfl : k = n := by omega
      have l1 : ¬ (k : Int) < (k : Int) := by omega
      have HE := Lib.hid (show (M.take k).map (fun r => accTo X q r m) = appL M X from by rw [List.take_of_length_le (by omega), appL, HHD.out, HL.out.1])
      go_wp2
      go_ret2
      refine ⟨_, _, rfl, hgw, ?_, ?_, H.out.2⟩
      · rw [← HE.out]; simp; omega
      · rw [← HE.out]; exact H.out.1
theorem GivesO.weak {w : World} {M : List (List UInt8)} {f : Int} {e : Ending} {w' : World} (h : GivesO w M f e w') : GivesE w M f e w' := by
  obtain ⟨g, n, h1, _, h3, h4, h5⟩ := h
  exact ⟨_, _, _, h1, h4.mtx h3 (Nat.le_refl _), h5⟩
theorem apply_yes (P : Option Addr) (w : World) (A : Option Addr) (n c : Nat) (M : List (List UInt8)) (hM : Mtx w A n c M) (B : Option Addr) (m d : Nat) (X : List (List UInt8)) (hX : Mtx w B m d X) (hr : RightM M) (hm : m = colsOf M) (q : Nat) (hlev : Lev m q X) (hq : q ≤ 1000) :
    Calls Try.prog 37 #[.pointer P, .slice A n c, .slice B m d] w (GivesE w (appL M X) 0) := (apply_new P w A n c M hM B m d X hX hr hm q hlev hq).mono fun _ _ h => h.weak
end Go.Proofs.Ytpbkabgjpieggaa


namespace Go.Proofs.Ytpbkabgjpieggaa
open Go.RowKit Go.Shelf

/-- Shards that go with a matrix. -/
def fitA (M X : List (List UInt8)) : Prop := RightM M ∧ X.length = colsOf M ∧ levelB X = true
instance (M X : List (List UInt8)) : Decidable (fitA M X) := by unfold fitA; exact inferInstance
set_option maxRecDepth 100000 in
set_option maxHeartbeats 1000000 in
theorem apply_no (P : Option Addr) (w : World) (A : Option Addr) (n c : Nat) (M : List (List UInt8)) (hM : Mtx w A n c M) (B : Option Addr) (m d : Nat) (X : List (List UInt8)) (hX : Mtx w B m d X) (hno : ¬ fitA M X) (hn : n ≤ 2000) (hm : m ≤ 2000) :
    Calls Try.prog 37 #[.pointer P, .slice A n c, .slice B m d] w (GivesE w [] 2) := by
  have hl := hM.len
  have hlX := hX.len
  have hri := right_says w A n c M hM hn
  by_cases hr : RightM M
  · rw [decide_eq_true hr] at hri
    have HRI := Lib.hid hri
    have hn1 := hr.1
    obtain ⟨r0, hr0⟩ : ∃ r, M[0]? = some r := ⟨_, List.getElem?_eq_getElem (by omega)⟩
    obtain ⟨ba, oa, A0, c0, hA, hba, hc0, _⟩ := hM.row hr0
    rw [right_row hr hr0, Nat.add_zero] at hc0
    subst hA
    have hn0 : 0 < n := by omega
    have hnn : (0 : Int) < (n : Int) := by omega
    by_cases hmc : m = colsOf M
    · have hlb : levelB X = false := by
        cases h : levelB X with
        | false => rfl
        | true => exact absurd ⟨hr, by omega, h⟩ hno
      have HLE := Lib.hid (fun W (hW : Below w.heap.size w W) => (by have := level_says W B m d X (hX.below hW) hm; rwa [hlb] at this : Calls Try.prog 48 #[.slice B m d] W fun e w' => e = .returned (.bool false) ∧ Below W.heap.size W w'))
      rw [← hmc] at hc0
      clear hM hX hri hr hr0 hlb hno hmc
      go_enter Try.func37, Try.ntmps37
      go_wp2_with (first
        | (go_at_call 47; refine HRI.out.mono ?_; rintro e w1 ⟨rfl, hb1⟩; have hca := (hb1.cell (p := ⟨ba, oa, none⟩) hba).trans hc0; have HB1 := Lib.hid hb1; clear hb1)
        | (go_at_call 48; refine (HLE.out _ HB1.out).mono ?_; rintro e w2 ⟨rfl, hb2⟩; have HB2 := Lib.hid (HB1.out.trans (hb2.mono HB1.out.size)); clear hb2))
      go_ret2
      exact ⟨_, _, _, rfl, Mtx.nil _ _ _, HB2.out⟩
    · have hmc' : ((m : Int) != (colsOf M : Int)) = true := by simp; omega
      generalize colsOf M = k at hc0 hmc'
      clear hM hX hri hr hr0 hno hmc
      go_enter Try.func37, Try.ntmps37
      go_wp2_with (go_at_call 47; refine HRI.out.mono ?_; rintro e w1 ⟨rfl, hb1⟩; have hca := (hb1.cell (p := ⟨ba, oa, none⟩) hba).trans hc0; have HB1 := Lib.hid hb1; clear hb1)
      go_ret2
      exact ⟨_, _, _, rfl, Mtx.nil _ _ _, HB1.out⟩
  · rw [decide_eq_false hr] at hri
    have HRI := Lib.hid hri
    clear hM hX hri hr hno
    go_enter Try.func37, Try.ntmps37
    go_wp2_with (go_at_call 47; refine HRI.out.mono ?_; rintro e w1 ⟨rfl, hb1⟩; have HB1 := Lib.hid hb1; clear hb1)
    go_ret2
    exact ⟨_, _, _, rfl, Mtx.nil _ _ _, HB1.out⟩
theorem level_lev {X : List (List UInt8)} (h : levelB X = true) : Lev X.length (X.headD []).length X := ⟨rfl, fun r hr => by
  have := (List.all_eq_true.1 h) r hr
  simpa using this⟩
theorem right_level {X : List (List UInt8)} (h : RightM X) : levelB X = true := List.all_eq_true.2 (fun r hr => by
  have := (h.2.2 r hr).1
  simpa using this)
/-- What Apply tells. -/
def appR (M X : List (List UInt8)) : List (List UInt8) × Int := if fitA M X then (appL M X, 0) else ([], 2)
theorem apply_says (P : Option Addr) (w : World) (A : Option Addr) (n c : Nat) (M : List (List UInt8)) (hM : Mtx w A n c M) (B : Option Addr) (m d : Nat) (X : List (List UInt8)) (hX : Mtx w B m d X) (hn : n ≤ 2000) (hm : m ≤ 2000) (hq : ∀ r ∈ X, r.length ≤ 1000) :
    Calls Try.prog 37 #[.pointer P, .slice A n c, .slice B m d] w (GivesE w (appR M X).1 (appR M X).2) := by
  unfold appR
  by_cases h : fitA M X
  · rw [if_pos h]
    refine apply_yes P w A n c M hM B m d X hX h.1 (by rw [← hX.len]; exact h.2.1) (X.headD []).length (by rw [← hX.len]; exact level_lev h.2.2) ?_
    cases X with
    | nil => simp
    | cons a t => exact hq a (List.mem_cons_self ..)
  · rw [if_neg h]
    exact apply_no P w A n c M hM B m d X hX h hn hm
/-- What Mul tells. -/
def mulR (M X : List (List UInt8)) : List (List UInt8) × Int := if RightM X then appR M X else ([], 2)
end Go.Proofs.Ytpbkabgjpieggaa


namespace Go.Proofs.Ytpbkabgjpieggaa
open Gf (mul inv sum idm mm Eqm IsRank tr)

theorem row_ext {r s : List UInt8} {L : Nat} (hr : r.length = L) (hs : s.length = L) (h : ∀ j, j < L → r.getD j 0 = s.getD j 0) : r = s := by
  apply List.ext_getElem (by rw [hr, hs])
  intro j h1 h2
  have := h j (by omega)
  simpa [List.getD_eq_getElem?_getD, List.getElem?_eq_getElem h1, List.getElem?_eq_getElem h2] using this
theorem mat_ext {n L : Nat} {M N : List (List UInt8)} (hM : Lev n L M) (hN : Lev n L N) (h : ∀ i, i < n → ∀ j, j < L → at2 M i j = at2 N i j) : M = N := by
  apply List.ext_getElem (by rw [hM.1, hN.1])
  intro i h1 h2
  obtain ⟨r, hr, hr2, hr3⟩ := hM.get (show i < n by rw [← hM.1]; exact h1)
  obtain ⟨s, hs, hs2, hs3⟩ := hN.get (show i < n by rw [← hM.1]; exact h1)
  rw [List.getElem?_eq_getElem h1] at hr
  rw [List.getElem?_eq_getElem h2] at hs
  rw [Option.some.inj hr, Option.some.inj hs]
  refine row_ext hr3 hs3 (fun j hj => ?_)
  have := h i (by rw [← hM.1]; exact h1) j hj
  unfold at2 at this
  rwa [hr2, hs2] at this
theorem matBy_lev (n L : Nat) (F : Nat → Nat → UInt8) : Lev n L (matBy n L F) := ⟨matBy_length _ _ _, fun r hr => by
  obtain ⟨i, _, rfl⟩ := List.mem_map.1 hr
  exact byRule_length _ _⟩
theorem matBy_at2 {n L : Nat} {F : Nat → Nat → UInt8} {i j : Nat} (hi : i < n) (hj : j < L) : at2 (matBy n L F) i j = F i j := at2_of (matBy_at n L F hi) (byRule_at L (F i) j hj)
theorem lev_right {n L : Nat} {M : List (List UInt8)} (h : Lev n L M) (hn : 1 ≤ n ∧ n ≤ 255) (hL : 1 ≤ L ∧ L ≤ 255) : RightM M ∧ colsOf M = L := by
  have hc : colsOf M = L := by
    cases M with
    | nil => have := h.1; simp at this; omega
    | cons a t => exact h.2 a (List.mem_cons_self ..)
  refine ⟨⟨by rw [h.1]; exact hn.1, by rw [h.1]; exact hn.2, fun r hr => ⟨?_, ?_⟩⟩, hc⟩
  · rw [h.2 r hr]; exact hc.symm
  · rw [h.2 r hr]; exact hL
theorem right_dims {M : List (List UInt8)} (h : RightM M) : (1 ≤ M.length ∧ M.length ≤ 255) ∧ (1 ≤ colsOf M ∧ colsOf M ≤ 255) := ⟨⟨h.1, h.2.1⟩, right_cols h⟩

theorem acc_at (X : List (List UInt8)) (q : Nat) (r : List UInt8) (j : Nat) : ∀ t, (accTo X q r t).getD j 0 = sum t (fun s => mul (r.getD s 0) (at2 X s j))
  | 0 => by
    show (List.replicate q (0 : UInt8)).getD j 0 = 0
    rw [List.getD_eq_getElem?_getD, List.getElem?_replicate]
    split <;> rfl
  | t + 1 => by
    rw [accTo, Gf.padd_get, acc_at X q r j t, getD_map_mul, Gf.sum_succ, Gf.mul_comm]
    rfl
theorem app_lev {n m q : Nat} {M X : List (List UInt8)} (hM : M.length = n) (hX : Lev m q X) (hm : 1 ≤ m) : Lev n q (appL M X) := by
  have hq : (X.headD []).length = q := by
    cases X with
    | nil => have := hX.1; simp at this; omega
    | cons a t => exact hX.2 a (List.mem_cons_self ..)
  refine ⟨by simpa [appL] using hM, fun r hr => ?_⟩
  obtain ⟨s, _, rfl⟩ := List.mem_map.1 hr
  rw [hq, hX.1]
  exact accTo_length hX s m (Nat.le_refl _)
theorem app_at {M X : List (List UInt8)} {i : Nat} (hi : i < M.length) (j : Nat) : at2 (appL M X) i j = mm X.length (at2 M) (at2 X) i j := by
  have h1 : (appL M X).getD i [] = accTo X (X.headD []).length (M.getD i []) X.length := by
    simp [appL, List.getD_eq_getElem?_getD, List.getElem?_map, List.getElem?_eq_getElem hi]
  show ((appL M X).getD i []).getD j 0 = _
  rw [h1, acc_at]
  rfl
theorem rowL_at {N : List (List UInt8)} {r : List UInt8} {q j : Nat} (hj : j < q) : (rowL N r q).getD j 0 = sum N.length (fun t => mul (r.getD t 0) (at2 N t j)) := by
  simp [rowL, List.getD_eq_getElem?_getD, hj, placeL, at2]
/-- The reference's product is the same. -/
theorem app_mul {n m q : Nat} {M X : List (List UInt8)} (hM : M.length = n) (hX : Lev m q X) (hm : 1 ≤ m) : appL M X = mulL M X := by
  have hq : (X.headD []).length = q := by
    cases X with
    | nil => have := hX.1; simp at this; omega
    | cons a t => exact hX.2 a (List.mem_cons_self ..)
  have h2 : Lev n q (mulL M X) := by
    refine ⟨by simpa [mulL] using hM, fun r hr => ?_⟩
    obtain ⟨s, _, rfl⟩ := List.mem_map.1 hr
    rw [hq]
    simp [rowL]
  refine mat_ext (app_lev hM hX hm) h2 (fun i hi j hj => ?_)
  rw [app_at (by omega)]
  have h1 : (mulL M X).getD i [] = rowL X (M.getD i []) q := by
    simp [mulL, List.getD_eq_getElem?_getD, List.getElem?_map, List.getElem?_eq_getElem (show i < M.length by omega), ← hq]
  show _ = ((mulL M X).getD i []).getD j 0
  rw [h1, rowL_at hj]
  rfl

theorem turn_right {M : List (List UInt8)} (h : RightM M) : turnL M = matBy (colsOf M) M.length (fun i j => at2 M j i) := by rw [turnL, if_pos h]
theorem turn_lev {M : List (List UInt8)} (h : RightM M) : Lev (colsOf M) M.length (turnL M) := by
  rw [turn_right h]
  exact matBy_lev _ _ _
theorem turn_is {M : List (List UInt8)} (h : RightM M) : RightM (turnL M) ∧ colsOf (turnL M) = M.length := lev_right (turn_lev h) (right_dims h).2 (right_dims h).1
theorem turn_at {M : List (List UInt8)} (h : RightM M) {i j : Nat} (hi : i < colsOf M) (hj : j < M.length) : at2 (turnL M) i j = at2 M j i := by
  rw [turn_right h]
  exact matBy_at2 hi hj
theorem turn_twice {M : List (List UInt8)} (h : RightM M) : turnL (turnL M) = M := by
  have h1 := turn_is h
  have h2 := turn_lev h1.1
  rw [h1.2, (turn_lev h).1] at h2
  refine mat_ext h2 (right_lev h) (fun i hi j hj => ?_)
  rw [turn_at h1.1 (by rw [h1.2]; exact hi) (by rw [(turn_lev h).1]; exact hj), turn_at h hj hi]
theorem rank_turn {M : List (List UInt8)} (h : RightM M) : rankL (turnL M) = rankL M := by
  have h1 := turn_is h
  have h2 := rank_right h1.1
  rw [h1.2, (turn_lev h).1] at h2
  have h3 := (rank_right h).turn
  exact h2.unique (h3.congr (fun i hi j hj => (turn_at h hi hj).symm))
theorem fit_dims {M X : List (List UInt8)} (h : fitA M X) (hX : RightM X) : RightM (appL M X) ∧ colsOf (appL M X) = colsOf X ∧ Lev M.length (colsOf X) (appL M X) := by
  have h1 := app_lev rfl (right_lev hX) hX.1 (M := M)
  have h2 := lev_right h1 (right_dims h.1).1 (right_dims hX).2
  exact ⟨h2.1, h2.2, h1⟩
theorem turn_fit {M X : List (List UInt8)} (h : fitA M X) (hX : RightM X) : fitA (turnL X) (turnL M) := ⟨(turn_is hX).1, by rw [(turn_lev h.1).1, (turn_is hX).2]; exact h.2.1.symm, right_level (turn_is h.1).1⟩
/-- A product that is turned is that of the two turned, the other way round. -/
theorem turn_app {M X : List (List UInt8)} (h : fitA M X) (hX : RightM X) : turnL (appL M X) = appL (turnL X) (turnL M) := by
  obtain ⟨h1, h2, h3⟩ := fit_dims h hX
  have h4 := turn_lev h1
  rw [h2, h3.1] at h4
  have hML := turn_lev h.1
  have hXL := turn_lev hX
  have h5 := app_lev hXL.1 hML (right_cols h.1).1
  refine mat_ext h4 h5 (fun i hi j hj => ?_)
  rw [turn_at h1 (by rw [h2]; exact hi) (by rw [h3.1]; exact hj), app_at hj, app_at (by rw [hXL.1]; exact hi), hML.1, h.2.1]
  exact Gf.sum_congr (fun k hk => by rw [turn_at hX hi (by rw [h.2.1]; exact hk), turn_at h.1 hk hj, Gf.mul_comm])
end Go.Proofs.Ytpbkabgjpieggaa


namespace Go.Proofs.Ytpbkabgjpieggaa
open Go.RowKit Go.Shelf

theorem lit_row (W : World) (l : List UInt8) (n : Nat) (hn : l.length = n) : Lies (W.alloc (.cells (bc l).toArray 5)) (fun _ => True) (some ⟨W.heap.size, 0, none⟩) n n (bc l) := lies_box (Box.made W 5 _) trivial hn
theorem lit_one (W : World) (A : Option Addr) (l : List UInt8) (n c : Nat) (hn : l.length = n) (h : Lies W (fun _ => True) A n c (bc l)) : Mtx (W.alloc (.cells #[.slice A n c] 31)) (some ⟨W.heap.size, 0, none⟩) 1 1 [l] := by
  subst hn
  refine ⟨rfl, Nat.le_refl _, fun _ => ⟨W.heap.size, 0, rfl, by simp, fun i l' hl => ?_⟩⟩
  have hi : i = 0 := by
    have := (List.getElem?_eq_some_iff.1 hl).1
    simp at this
    exact this
  subst hi
  simp at hl
  subst hl
  exact ⟨A, c, cell_one_new W _ _ 0 _ rfl, h.below ((Below.refl _ W).alloc (Nat.le_refl _) _)⟩
theorem lit_two (W : World) (A B : Option Addr) (l m : List UInt8) (n c k d : Nat) (hn : l.length = n) (hk : m.length = k) (h : Lies W (fun _ => True) A n c (bc l)) (h2 : Lies W (fun _ => True) B k d (bc m)) : Mtx (W.alloc (.cells #[.slice A n c, .slice B k d] 31)) (some ⟨W.heap.size, 0, none⟩) 2 2 [l, m] := by
  subst hn hk
  have hb := (Below.refl _ W).alloc (Nat.le_refl _) (.cells #[.slice A l.length c, .slice B m.length d] 31)
  have hbx := Box.made W 31 #[.slice A l.length c, .slice B m.length d]
  refine ⟨rfl, Nat.le_refl _, fun _ => ⟨W.heap.size, 0, rfl, by simp, fun i l' hl => ?_⟩⟩
  have hi : i < 2 := (List.getElem?_eq_some_iff.1 hl).1
  rcases i with _ | _ | i
  · simp at hl
    subst hl
    exact ⟨A, c, by rw [hbx.cell]; rfl, h.below hb⟩
  · simp at hl
    subst hl
    exact ⟨B, d, by rw [hbx.cell]; rfl, h2.below hb⟩
  · omega
theorem lit_a (W : World) : Mtx ((W.alloc (.cells #[.int .u8 1] 5)).alloc (.cells #[.slice (some ⟨W.heap.size, 0, none⟩) 1 1] 31)) (some ⟨W.heap.size + 1, 0, none⟩) 1 1 [[1]] := by
  have h := lit_one (W.alloc (.cells #[.int .u8 1] 5)) _ [1] 1 1 rfl (lit_row W [1] 1 rfl)
  simpa using h
theorem lit_b (W : World) (x y z u : UInt8) : Mtx (((W.alloc (.cells #[.int .u8 (x.toNat : Int), .int .u8 (y.toNat : Int)] 5)).alloc (.cells #[.int .u8 (z.toNat : Int), .int .u8 (u.toNat : Int)] 5)).alloc (.cells #[.slice (some ⟨W.heap.size, 0, none⟩) 2 2, .slice (some ⟨W.heap.size + 1, 0, none⟩) 2 2] 31)) (some ⟨W.heap.size + 2, 0, none⟩) 2 2 [[x, y], [z, u]] := by
  have h1 : Lies (W.alloc (.cells #[.int .u8 (x.toNat : Int), .int .u8 (y.toNat : Int)] 5)) (fun _ => True) (some ⟨W.heap.size, 0, none⟩) 2 2 (bc [x, y]) := lit_row W [x, y] 2 rfl
  have h2 := lit_row (W.alloc (.cells #[.int .u8 (x.toNat : Int), .int .u8 (y.toNat : Int)] 5)) [z, u] 2 rfl
  have h := lit_two _ _ _ [x, y] [z, u] 2 2 2 2 rfl rfl (h1.below ((Below.refl _ _).alloc (Nat.le_refl _) (.cells #[.int .u8 (z.toNat : Int), .int .u8 (u.toNat : Int)] 5))) h2
  simpa [Nat.add_assoc] using h
theorem fact_a : (decide (RightM (matBy 1 1 (cauF 1))) && (decide (RightM [[1]]) && decide (matBy 1 1 (cauF 1) = [[1]]))) = true := by decide +kernel
theorem fact_b : (decide (RightM (matBy 2 2 oneF)) && (decide (RightM [[1, 0], [0, 1]]) && decide (matBy 2 2 oneF = [[1, 0], [0, 1]]))) = true := by decide +kernel
theorem fact_c : rankL [[1, 2], [1, 2]] = 1 := by decide +kernel

/-- Small enough to be looked through. -/
def fewB (M : List (List UInt8)) (most : Nat) : Prop := M.length ≤ most ∧ ∀ r ∈ M, r.length ≤ most
instance (M : List (List UInt8)) (most : Nat) : Decidable (fewB M most) := by unfold fewB; exact inferInstance
set_option maxRecDepth 100000 in
set_option maxHeartbeats 1000000 in
theorem few_says (w : World) (A : Option Addr) (n c : Nat) (M : List (List UInt8)) (hM : Mtx w A n c M) (most : Nat) (hm : most ≤ 100) : Calls Try.prog 8 #[.slice A n c, .int .i64 (most : Int)] w fun e w' => e = .returned (.int .i64 (if fewB M most then 1 else 0)) ∧ w' = w := by
  have hl := hM.len
  have HM := Lib.hid hM
  clear hM
  by_cases h1 : most < n
  · have h1' : (most : Int) < (n : Int) := by omega
    rw [if_neg (fun h => by have := h.1; omega)]
    go_enter Try.func8, Try.ntmps8
    go_wp2
    go_ret
    exact ⟨rfl, rfl⟩
  have h1' : ¬ (most : Int) < (n : Int) := by omega
  go_enter Try.func8, Try.ntmps8
  go_wp2_with fail
  go_loopw [5] (fun i wr => ∃ k : Nat, k ≤ n ∧ i = .int .i64 (k : Int) ∧ Hid (wr = w ∧ ∀ (j : Nat) (r : List UInt8), j < k → M[j]? = some r → r.length ≤ most)) (fun i _ => n - (intOf i).toNat)
  case atStart => exact ⟨0, by omega, rfl, Lib.hid ⟨rfl, fun j r h => by omega⟩⟩
  case round =>
    obtain ⟨k, hk, rfl, H⟩ := hrel
    have hw' : w = wr := H.out.1.symm
    subst hw'
    have HH := Lib.hid H.out.2
    clear H
    by_cases hlt : k < n
    · have l1 : (k : Int) < (n : Int) := by omega
      obtain ⟨r, hr⟩ : ∃ r, M[k]? = some r := ⟨_, List.getElem?_eq_getElem (by omega)⟩
      obtain ⟨b, off, Ak, ck, hA, hb, hck, _⟩ := HM.out.row hr
      subst hA
      have HR := Lib.hid hr
      clear hr
      obtain ⟨lr, hlr⟩ : ∃ t, r.length = t := ⟨_, rfl⟩
      rw [hlr] at hck
      have HLR := Lib.hid hlr
      clear hlr
      by_cases h2 : most < lr
      · have h2' : (most : Int) < (lr : Int) := by omega
        have HN := Lib.hid (show ¬ fewB M most from fun h => by have := h.2 r (List.mem_of_getElem? HR.out); have := HLR.out; omega)
        go_wp2
        go_ret
        refine ⟨?_, rfl⟩
        first | rfl | (rw [if_neg HN.out]; rfl)
      · have h2' : ¬ (most : Int) < (lr : Int) := by omega
        go_wp2
        go_roundw
        case rel =>
          refine ⟨k + 1, by omega, by go_num, Lib.hid ⟨trivial, fun j s hj hs => ?_⟩⟩
          rcases Nat.lt_or_ge j k with h3 | h3
          · exact HH.out j s h3 hs
          · rw [show j = k by omega, HR.out] at hs
            cases hs
            rw [HLR.out]
            omega
        case measure => simp [intOf]; omega
    · obtain rfl : k = n := by omega
      have l1 : ¬ (k : Int) < (k : Int) := by omega
      have HY := Lib.hid (show fewB M most from ⟨by omega, fun r hr => by
        obtain ⟨j, hj⟩ := List.getElem?_of_mem hr
        exact HH.out j r (by have := (List.getElem?_eq_some_iff.1 hj).1; omega) hj⟩)
      go_wp2
      go_ret
      refine ⟨?_, rfl⟩
      first | rfl | (rw [if_pos HY.out]; rfl)
end Go.Proofs.Ytpbkabgjpieggaa

