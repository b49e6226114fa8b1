/-
  GfLists, walked, given what package gf tells.
-/
import Derived.Test.YtnkcpchdjgedoaaGfWalks
import Derived.BigQuiet
namespace Go.Proofs.Ytnkcpchdjgedoaa
open Go.RowKit

/-- The sum of the products, as far as k. -/
def dotToW (a b : List UInt8) (k : Nat) : UInt8 := Gf.sum k (fun i => Gf.mul (a.getD i 0) (b.getD i 0))
theorem dot_allW : ∀ (a b : List UInt8), dotToW a b (max a.length b.length) = dotL a b
  | [], b => by
    rw [dotL, List.zip_nil_left, Gf.lsum_nil]
    exact Gf.sum_zero (fun k _ => by simp [Gf.zero_mul])
  | a :: l, [] => by
    rw [dotL, List.zip_nil_right, Gf.lsum_nil]
    exact Gf.sum_zero (fun k _ => by simp [Gf.mul_zero])
  | a :: l, b :: r => by
    have ih := dot_allW l r
    rw [dotL, List.zip_cons_cons, Gf.lsum_cons, List.length_cons, List.length_cons, show max (l.length + 1) (r.length + 1) = max l.length r.length + 1 by omega, dotToW, Gf.sum_front]
    rw [show Gf.lsum (l.zip r) (fun p => Gf.mul p.1 p.2) = dotToW l r (max l.length r.length) from ih.symm]
    rfl
theorem cell_dr {w : World} {p : Addr} {v : Value} (n : Nat) (h : w.cell? p = some v) : (w.drewN n).cell? p = some v := h
theorem below_dr (w : World) (B q : Nat) : Below B w (w.drewN q) := ⟨rfl, rfl, rfl, Nat.le_refl _, fun _ _ => rfl⟩
/-- A byte of a list, in a later world. -/
theorem byte_at {w w' : World} {A : Option Addr} {n c k : Nat} {l : List UInt8} (h : Lies w (fun _ => True) A n c (bc l)) (hb : Below w.heap.size w w') (hk : k < n) : ∃ b off, A = some ⟨b, off, none⟩ ∧ b < w.heap.size ∧ w'.cell? ⟨b, off + k, none⟩ = some (.int .u8 ((l.getD k 0).toNat : Int)) := by
  have hl : l.length = n := by rw [← bc_length]; exact h.len
  obtain ⟨b, off, h1, _, h3, h4⟩ := h.at (j := k) (u := .int .u8 ((l.getD k 0).toNat : Int)) (by simp [bc, List.getD_eq_getElem?_getD, List.getElem?_eq_getElem (show k < l.length by omega)])
  exact ⟨b, off, h1, h3, (hb.cell (p := ⟨b, off + k, none⟩) h3).trans h4⟩
theorem getD_out {l : List UInt8} {k : Nat} (h : ¬ k < l.length) : l.getD k 0 = 0 := by
  rw [List.getD_eq_getElem?_getD, List.getElem?_eq_none (by omega)]
  rfl
theorem map_getD_mul (a : List UInt8) (x : UInt8) (k : Nat) (h : k < a.length) : (a.map (fun y => Gf.mul y x)).getD k 0 = Gf.mul (a.getD k 0) x := by
  simp [List.getD_eq_getElem?_getD, List.getElem?_eq_getElem h]

set_option maxRecDepth 100000 in
set_option maxHeartbeats 4000000 in
theorem gfLists_walk (C : GfC) (A : Option Addr) (n c : Nat) (a : List UInt8) (w : World) (ha : Lies w (fun _ => True) A n c (bc a)) (B : Option Addr) (m d : Nat) (b : List UInt8) (hb : Lies w (fun _ => True) B m d (bc b)) (x : UInt8) :
    Calls Try.prog 5 #[.slice A n c, .slice B m d, .int .u8 (x.toNat : Int)] w fun e w' => e = .returned (.bool true) ∧ Below w.heap.size w w' := by
  by_cases h3 : 300 < n
  · have h3' : (300 : Int) < (n : Int) := by omega
    go_enter Try.func5, Try.ntmps5
    go_wp2
    go_ret
    exact ⟨rfl, Below.refl _ _⟩
  have h3' : ¬ (300 : Int) < (n : Int) := by omega
  by_cases h4 : 300 < m
  · have h4' : (300 : Int) < (m : Int) := by omega
    go_enter Try.func5, Try.ntmps5
    go_wp2
    go_ret
    exact ⟨rfl, Below.refl _ _⟩
  have h4' : ¬ (300 : Int) < (m : Int) := by omega
  have hla : a.length = n := by rw [← bc_length]; exact ha.len
  have hlb : b.length = m := by rw [← bc_length]; exact hb.len
  have HA := Lib.hid ha
  have HBB := Lib.hid hb
  have HC := Lib.hid C
  clear ha hb
  go_enter Try.func5, Try.ntmps5
  go_wp2_with fail
  refine (HC.out.new w).mono ?_
  rintro e w1 ⟨P, rfl, hb1⟩
  have HB1 := Lib.hid hb1
  clear hb1
  go_wp2_with fail
  refine (HC.out.sum P A n c a B m d b w1 (HA.out.below HB1.out) (HBB.out.below HB1.out) (by omega) (by omega)).mono ?_
  rintro e w2 ⟨AS, ns, cs, rfl, hs2, hb2⟩
  have HS2 := Lib.hid hs2
  have HB2 := Lib.hid (HB1.out.trans (hb2.mono HB1.out.size))
  have hns : ns = max n m := by rw [← hs2.len, bc_length, Gf.padd_length, hla, hlb]
  clear hs2 hb2
  go_wp2_with fail
  refine (HC.out.scale P A n c a x w2 (HA.out.below HB2.out) (by omega)).mono ?_
  rintro e w3 ⟨AT, nt, ct, rfl, ht3, hb3⟩
  have HT3 := Lib.hid ht3
  have HS3 := Lib.hid (HS2.out.below hb3)
  have HB3 := Lib.hid (HB2.out.trans (hb3.mono HB2.out.size))
  have hnt : nt = n := by rw [← ht3.len, bc_length, List.length_map, hla]
  subst hnt
  clear ht3 hb3 HS2
  have HNS := Lib.hid hns
  have hns3 : ns ≤ 300 := by omega
  have hmax4 : (if nt < m then (m : Int) else (nt : Int)) = (ns : Int) := by split <;> omega
  have hmax5 : (if m < nt then (nt : Int) else (m : Int)) = (ns : Int) := by split <;> omega
  have hge1 : nt ≤ ns := by omega
  have hge2 : m ≤ ns := by omega
  have hor : ∀ k, k < ns → k < nt ∨ k < m := fun k hk => by omega
  have HOR := Lib.hid hor
  clear hns hor
  go_wp2_with fail
  go_loopw [10, 11] (fun dv i wr => ∃ (k : Nat) (z : UInt8), k ≤ ns ∧ i = .int .i64 (k : Int) ∧ dv = .int .u8 (z.toNat : Int) ∧ Hid (z = dotToW a b k ∧ Below w.heap.size w wr) ∧ Hid (Below w3.heap.size w3 wr)) (fun _ i _ => ns - (intOf i).toNat)
  case atStart => exact ⟨0, 0, by omega, rfl, rfl, Lib.hid ⟨rfl, HB3.out⟩, Lib.hid (Below.refl _ _)⟩
  case round =>
    obtain ⟨k, z, hk, rfl, rfl, H, HW3⟩ := hrel
    by_cases hlt : k < ns
    · have l1 : (k : Int) < (ns : Int) := by omega
      obtain ⟨bs, os, hS, hbs, cs0⟩ := byte_at HS3.out HW3.out hlt
      subst hS
      by_cases hka : k < nt
      · by_cases hkb : k < m
        · obtain ⟨ba, oa, hA, hba, ca0⟩ := byte_at HA.out H.out.2 hka
          subst hA
          have la : (k : Int) < (nt : Int) := by omega
          obtain ⟨bt, ot, hT, hbt, ct0⟩ := byte_at HT3.out HW3.out hka
          subst hT
          obtain ⟨bb, ob, hBv, hbb, cb0⟩ := byte_at HBB.out H.out.2 hkb
          subst hBv
          have lb : (k : Int) < (m : Int) := by omega
          obtain ⟨u, hu⟩ : ∃ u, a.getD k 0 = u := ⟨_, rfl⟩
          obtain ⟨v, hv⟩ : ∃ v, b.getD k 0 = v := ⟨_, rfl⟩
          rw [map_getD_mul a x k (by omega), hu] at ct0
          rw [hu] at ca0
          rw [hv] at cb0
          rw [Gf.padd_get, hu, hv] at cs0
          obtain ⟨uv, huv⟩ : ∃ z, Gf.mul u v = z := ⟨_, rfl⟩
          have HST := Lib.hid (show dotToW a b (k + 1) = z ^^^ uv from by rw [dotToW, Gf.sum_succ, hu, hv, huv, H.out.1]; rfl)
          have HMU : Hid (∀ w : World, Calls Try.prog 10 #[.int .u8 (u.toNat : Int), .int .u8 (v.toNat : Int)] w fun e w' => e = .returned (.int .u8 (uv.toNat : Int)) ∧ w' = w) := Lib.hid (fun w => by have h := rmul_says u v w; rw [huv] at h; exact h)
          have hx1 := bits_x8 z uv
          have hx2 := bits_x8 u v
          clear hu hv huv
          obtain ⟨ux, hux⟩ : ∃ t, Gf.mul u x = t := ⟨_, rfl⟩
          rw [hux] at ct0
          have HUX : ∀ q : Nat, Calls Try.prog 10 #[.int .u8 (u.toNat : Int), .int .u8 (x.toNat : Int)] (wr.drewN q) fun e w' => e = .returned (.int .u8 (ux.toNat : Int)) ∧ ∃ m, w' = wr.drewN m := fun q => by have h := rmul_says u x (wr.drewN q); rw [hux] at h; exact h.mono fun _ _ hh => ⟨hh.1, q, hh.2⟩
          clear hux
          go_wp2_with fail
          go_quiet ((go_at_call 10; exact HUX _))
          clear HUX ct0 ca0
          have cb1 := cell_dr nq cb0
          have cs1 := cell_dr nq cs0
          have HWq := Lib.hid (And.intro (H.out.2.trans (below_dr wr w.heap.size nq)) (HW3.out.trans (below_dr wr w3.heap.size nq)))
          generalize wr.drewN nq = wq at cs1 HWq cb1 ⊢
          clear cs0 cb0
          go_wp2_with (go_at_call 10; refine (HMU.out _).mono ?_; rintro e wn ⟨rfl, hwn⟩; obtain rfl := hwn.symm)
          go_roundw
          case rel => exact ⟨k + 1, z ^^^ uv, by omega, by go_num, rfl, Lib.hid ⟨HST.out.symm, HWq.out.1⟩, Lib.hid HWq.out.2⟩
          case measure => simp [intOf]; omega
        · obtain ⟨ba, oa, hA, hba, ca0⟩ := byte_at HA.out H.out.2 hka
          subst hA
          have la : (k : Int) < (nt : Int) := by omega
          obtain ⟨bt, ot, hT, hbt, ct0⟩ := byte_at HT3.out HW3.out hka
          subst hT
          have lb : ¬ (k : Int) < (m : Int) := by omega
          obtain ⟨u, hu⟩ : ∃ u, a.getD k 0 = u := ⟨_, rfl⟩
          obtain ⟨v, hv⟩ : ∃ v, b.getD k 0 = v := ⟨_, rfl⟩
          have hv0 : v = 0 := by rw [← hv]; exact getD_out (by omega)
          subst hv0
          rw [map_getD_mul a x k (by omega), hu] at ct0
          rw [hu] at ca0
          rw [Gf.padd_get, hu, hv] at cs0
          obtain ⟨uv, huv⟩ : ∃ z, Gf.mul u 0 = z := ⟨_, rfl⟩
          have HST := Lib.hid (show dotToW a b (k + 1) = z ^^^ uv from by rw [dotToW, Gf.sum_succ, hu, hv, huv, H.out.1]; rfl)
          have HMU : Hid (∀ w : World, Calls Try.prog 10 #[.int .u8 (u.toNat : Int), .int .u8 0] w fun e w' => e = .returned (.int .u8 (uv.toNat : Int)) ∧ w' = w) := Lib.hid (fun w => by have h := rmul_says u 0 w; rw [huv] at h; exact h)
          have hx1 := bits_x8 z uv
          have hx2 := bits_x8 u 0
          have hx2' : bits .xor .u8 (u.toNat : Int) 0 = ((u ^^^ 0).toNat : Int) := hx2
          clear hx2
          clear hu hv huv
          obtain ⟨ux, hux⟩ : ∃ t, Gf.mul u x = t := ⟨_, rfl⟩
          rw [hux] at ct0
          have HUX : ∀ q : Nat, Calls Try.prog 10 #[.int .u8 (u.toNat : Int), .int .u8 (x.toNat : Int)] (wr.drewN q) fun e w' => e = .returned (.int .u8 (ux.toNat : Int)) ∧ ∃ m, w' = wr.drewN m := fun q => by have h := rmul_says u x (wr.drewN q); rw [hux] at h; exact h.mono fun _ _ hh => ⟨hh.1, q, hh.2⟩
          clear hux
          go_wp2_with fail
          go_quiet ((go_at_call 10; exact HUX _))
          clear HUX ct0 ca0
          have cs1 := cell_dr nq cs0
          have HWq := Lib.hid (And.intro (H.out.2.trans (below_dr wr w.heap.size nq)) (HW3.out.trans (below_dr wr w3.heap.size nq)))
          generalize wr.drewN nq = wq at cs1 HWq ⊢
          clear cs0
          go_wp2_with (go_at_call 10; refine (HMU.out _).mono ?_; rintro e wn ⟨rfl, hwn⟩; obtain rfl := hwn.symm)
          go_roundw
          case rel => exact ⟨k + 1, z ^^^ uv, by omega, by go_num, rfl, Lib.hid ⟨HST.out.symm, HWq.out.1⟩, Lib.hid HWq.out.2⟩
          case measure => simp [intOf]; omega
      · have hkb : k < m := (HOR.out k hlt).resolve_left hka
        have la : ¬ (k : Int) < (nt : Int) := by omega
        obtain ⟨bb, ob, hBv, hbb, cb0⟩ := byte_at HBB.out H.out.2 hkb
        subst hBv
        have lb : (k : Int) < (m : Int) := by omega
        obtain ⟨u, hu⟩ : ∃ u, a.getD k 0 = u := ⟨_, rfl⟩
        obtain ⟨v, hv⟩ : ∃ v, b.getD k 0 = v := ⟨_, rfl⟩
        have hu0 : u = 0 := by rw [← hu]; exact getD_out (by omega)
        subst hu0
        rw [hv] at cb0
        rw [Gf.padd_get, hu, hv] at cs0
        obtain ⟨uv, huv⟩ : ∃ z, Gf.mul 0 v = z := ⟨_, rfl⟩
        have HST := Lib.hid (show dotToW a b (k + 1) = z ^^^ uv from by rw [dotToW, Gf.sum_succ, hu, hv, huv, H.out.1]; rfl)
        have HMU : Hid (∀ w : World, Calls Try.prog 10 #[.int .u8 0, .int .u8 (v.toNat : Int)] w fun e w' => e = .returned (.int .u8 (uv.toNat : Int)) ∧ w' = w) := Lib.hid (fun w => by have h := rmul_says 0 v w; rw [huv] at h; exact h)
        have hx1 := bits_x8 z uv
        have hx2 := bits_x8 0 v
        have hx2' : bits .xor .u8 0 (v.toNat : Int) = ((0 ^^^ v).toNat : Int) := hx2
        clear hx2
        clear hu hv huv
        go_wp2_with fail
        have cs1 := cs0
        have HWq := Lib.hid (And.intro H.out.2 HW3.out)
        go_wp2_with (go_at_call 10; refine (HMU.out _).mono ?_; rintro e wn ⟨rfl, hwn⟩; obtain rfl := hwn.symm)
        go_roundw
        case rel => exact ⟨k + 1, z ^^^ uv, by omega, by go_num, rfl, Lib.hid ⟨HST.out.symm, HWq.out.1⟩, Lib.hid HWq.out.2⟩
        case measure => simp [intOf]; omega
    · obtain rfl : k = ns := by omega
      have l1 : ¬ (k : Int) < (k : Int) := by omega
      have HD : Hid (∀ w' : World, Below w.heap.size w w' → Calls Try.prog 25 #[.pointer P, .slice A nt c, .slice B m d] w' fun e w'' => e = .returned (.int .u8 (z.toNat : Int)) ∧ Below w'.heap.size w' w'') := Lib.hid (fun w' hb => by
        have h := HC.out.dot P A nt c a B m d b w' (HA.out.below hb) (HBB.out.below hb) (by omega) (by omega)
        rw [← dot_allW a b, hla, hlb, ← HNS.out, ← H.out.1] at h
        exact h)
      go_wp2_with fail
      refine (HD.out wr H.out.2).mono ?_
      rintro e w5 ⟨rfl, hb5⟩
      have HB5 := Lib.hid (H.out.2.trans (hb5.mono H.out.2.size))
      clear hb5
      go_wp2_with fail
      refine (gone_says HC.out w5).mono ?_
      rintro e w6 ⟨rfl, hb6⟩
      have HB6 := Lib.hid (HB5.out.trans (hb6.mono HB5.out.size))
      clear hb6
      go_wp2
      go_ret
      exact ⟨rfl, HB6.out⟩
end Go.Proofs.Ytnkcpchdjgedoaa
