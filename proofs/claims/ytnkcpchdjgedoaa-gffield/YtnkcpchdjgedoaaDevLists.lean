/-
  Eval and Dot of package gf, given what Add and Mul tell.
-/
import Derived.Test.YtnkcpchdjgedoaaGfC
namespace Go.Proofs.Ytnkcpchdjgedoaa
open Go.RowKit

/-- What the field's sums, products and quotients tell. -/
structure GfB : Prop where
  add : ∀ (P : Option Addr) (a b : UInt8) (w : World), Calls Try.prog 11 #[.pointer P, .int .u8 (a.toNat : Int), .int .u8 (b.toNat : Int)] w fun e w' => e = .returned (.int .u8 ((a ^^^ b).toNat : Int)) ∧ Below w.heap.size w w'
  mul : ∀ (P : Option Addr) (a b : UInt8) (w : World), Calls Try.prog 9 #[.pointer P, .int .u8 (a.toNat : Int), .int .u8 (b.toNat : Int)] w fun e w' => e = .returned (.int .u8 ((Gf.mul a b).toNat : Int)) ∧ Below w.heap.size w w'
  div : ∀ (P : Option Addr) (a b : UInt8) (w : World), Calls Try.prog 12 #[.pointer P, .int .u8 (a.toNat : Int), .int .u8 (b.toNat : Int)] w fun e w' => e = .returned (.int .u8 ((Gf.mul a (Gf.inv b)).toNat : Int)) ∧ Below w.heap.size w w'

theorem GfB.addG (C : GfB) (P : Option Addr) (a b : UInt8) {wr : World} (q : Grows wr) : Calls Try.prog 11 #[.pointer P, .int .u8 (a.toNat : Int), .int .u8 (b.toNat : Int)] q.val fun e w'' => e = .returned (.int .u8 ((a ^^^ b).toNat : Int)) ∧ ∃ p' : Grows wr, w'' = p'.val :=
  (C.add P a b q.val).mono fun _ w'' hh => ⟨hh.1, ⟨w'', q.prop.trans (hh.2.mono q.prop.size)⟩, rfl⟩
theorem GfB.mulG (C : GfB) (P : Option Addr) (a b : UInt8) {wr : World} (q : Grows wr) : Calls Try.prog 9 #[.pointer P, .int .u8 (a.toNat : Int), .int .u8 (b.toNat : Int)] q.val fun e w'' => e = .returned (.int .u8 ((Gf.mul a b).toNat : Int)) ∧ ∃ p' : Grows wr, w'' = p'.val :=
  (C.mul P a b q.val).mono fun _ w'' hh => ⟨hh.1, ⟨w'', q.prop.trans (hh.2.mono q.prop.size)⟩, rfl⟩

theorem ev_drop (p : List UInt8) (x : UInt8) (j : Nat) (u : UInt8) (hu : p[j]? = some u) : Gf.ev (p.drop j) x = Gf.mul (Gf.ev (p.drop (j + 1)) x) x ^^^ u := by
  obtain ⟨h1, rfl⟩ := List.getElem?_eq_some_iff.mp hu
  rw [List.drop_eq_getElem_cons h1, Gf.ev, Gf.mul_comm, UInt8.xor_comm]

set_option maxRecDepth 100000 in
set_option maxHeartbeats 1000000 in
theorem eval_of (C : GfB) (P : Option Addr) (A : Option Addr) (n c : Nat) (p : List UInt8) (x : UInt8) (w : World) (hp : Lies w (fun _ => True) A n c (bc p)) (hn : n ≤ 2000) : Calls Try.prog 21 #[.pointer P, .slice A n c, .int .u8 (x.toNat : Int)] w fun e w' => e = .returned (.int .u8 ((Gf.ev p x).toNat : Int)) ∧ Below w.heap.size w w' := by
  have HP := Lib.hid hp
  have hl : p.length = n := by rw [← bc_length]; exact hp.len
  clear hp
  go_enter Try.func21, Try.ntmps21
  go_wp2_with fail
  go_loopw [7, 8] (fun s i wr => ∃ (k : Nat) (y : UInt8), k ≤ n ∧ i = .int .i64 ((k : Int) - 1) ∧ s = .int .u8 (y.toNat : Int) ∧ Hid (y = Gf.ev (p.drop k) x ∧ Below w.heap.size w wr)) (fun _ i _ => (intOf i + 1).toNat)
  case atStart => exact ⟨n, 0, by omega, by go_num, rfl, Lib.hid ⟨by rw [List.drop_of_length_le (by omega)]; rfl, Below.refl _ _⟩⟩
  case round =>
    obtain ⟨k, y, hk, rfl, rfl, H⟩ := hrel
    rcases k with _ | j
    · have e0 : ((0 : Nat) : Int) - 1 = -1 := by omega
      rw [e0]
      go_wp2
      go_ret
      refine ⟨?_, H.out.2⟩
      rw [H.out.1]
      rfl
    · have e0 : ((j + 1 : Nat) : Int) - 1 = (j : Int) := by omega
      rw [e0]
      have l1 : (0 : Int) ≤ (j : Int) := by omega
      have l2 : (j : Int) < (n : Int) := by omega
      obtain ⟨u, hu⟩ : ∃ u, p[j]? = some u := ⟨_, List.getElem?_eq_getElem (by omega)⟩
      obtain ⟨b, off, hA, _, hb, hc0⟩ := HP.out.at (j := j) (u := .int .u8 (u.toNat : Int)) (by simp [bc, hu])
      subst hA
      have hc : wr.cell? ⟨b, off + j, none⟩ = some (.int .u8 (u.toNat : Int)) := (H.out.2.cell (p := ⟨b, off + j, none⟩) hb).trans hc0
      have hcg : ∀ q : Grows wr, q.val.cell? ⟨b, off + j, none⟩ = some (.int .u8 (u.toNat : Int)) := fun q => (q.prop.cell (p := ⟨b, off + j, none⟩) (Nat.lt_of_lt_of_le hb H.out.2.size)).trans hc
      obtain ⟨z, hz⟩ : ∃ z, Gf.mul y x = z := ⟨_, rfl⟩
      have hmu : ∀ q : Grows wr, _ := fun q => C.mulG P y x q
      have had : ∀ q : Grows wr, _ := fun q => C.addG P z u q
      rw [hz] at hmu
      have HST := Lib.hid (show z ^^^ u = Gf.ev (p.drop j) x from by rw [ev_drop p x j u hu, ← hz, H.out.1])
      clear hc0 hb hu hz
      go_wp2_with fail
      refine wp_region_grows (by kernel_rfl) (by kernel_rfl) ?_
      repeat (first
        | quiet_step (first | (go_at_call 9; exact hmu _) | (go_at_call 11; exact had _)))
      refine wpQuiet_nil ?_
      rintro w2 ⟨⟨_, hw2⟩, rfl⟩
      have HW := Lib.hid (H.out.2.trans (hw2.mono H.out.2.size))
      clear hw2 hmu had hcg hc
      go_wp2
      go_roundw
      case rel => exact ⟨j, z ^^^ u, by omega, by go_num, rfl, Lib.hid ⟨HST.out, HW.out⟩⟩
      case measure => simp [intOf]

theorem dot_take (a b : List UInt8) (k : Nat) (u v : UInt8) (hu : a[k]? = some u) (hv : b[k]? = some v) : dotL (a.take (k + 1)) (b.take (k + 1)) = dotL (a.take k) (b.take k) ^^^ Gf.mul u v := by
  obtain ⟨h1, rfl⟩ := List.getElem?_eq_some_iff.mp hu
  obtain ⟨h2, rfl⟩ := List.getElem?_eq_some_iff.mp hv
  unfold dotL
  have e : ∀ j, (a.take j).zip (b.take j) = (a.zip b).take j := fun j => by unfold List.zip; rw [List.take_zipWith]
  rw [e, e, List.take_succ_eq_append_getElem (by simp; omega), Gf.lsum_append, Gf.lsum_cons, Gf.lsum_nil, UInt8.xor_zero]
  simp
theorem dot_all (a b : List UInt8) (k : Nat) (h : k = min a.length b.length) : dotL (a.take k) (b.take k) = dotL a b := by
  unfold dotL
  rw [show (a.take k).zip (b.take k) = (a.zip b).take k from by unfold List.zip; rw [List.take_zipWith], List.take_of_length_le (by simp; omega)]

set_option maxRecDepth 100000 in
set_option maxHeartbeats 1000000 in
theorem dot_of (C : GfB) (P : Option Addr) (A : Option Addr) (n c : Nat) (a : List UInt8) (B : Option Addr) (m d : Nat) (b : List UInt8) (w : World) (hp : Lies w (fun _ => True) A n c (bc a)) (hq : Lies w (fun _ => True) B m d (bc b)) (hn : n ≤ 2000) (hm : m ≤ 2000) : Calls Try.prog 25 #[.pointer P, .slice A n c, .slice B m d] w fun e w' => e = .returned (.int .u8 ((dotL a b).toNat : Int)) ∧ Below w.heap.size w w' := by
  have HP := Lib.hid hp
  have HQ := Lib.hid hq
  have hl : a.length = n := by rw [← bc_length]; exact hp.len
  have hl2 : b.length = m := by rw [← bc_length]; exact hq.len
  clear hp hq
  rcases Nat.lt_or_ge m n with hd | hd
  · have hdi : (m : Int) < (n : Int) := by omega
    go_enter Try.func25, Try.ntmps25
    go_wp2_with fail
    go_loopw [7, 8, 14] (fun s _ i wr => ∃ (k : Nat) (y : UInt8), k ≤ m ∧ i = .int .i64 (k : Int) ∧ s = .int .u8 (y.toNat : Int) ∧ Hid (y = dotL (a.take k) (b.take k) ∧ Below w.heap.size w wr)) (fun _ _ i _ => m - (intOf i).toNat)
    case atStart => exact ⟨0, 0, by omega, rfl, rfl, Lib.hid ⟨rfl, Below.refl _ _⟩⟩
    case round =>
      obtain ⟨k, y, hk, rfl, rfl, H⟩ := hrel
      by_cases hlt : k < m
      · have l1 : (k : Int) < (m : Int) := by omega
        have l2 : (k : Int) < (n : Int) := by omega
        have l3 : (k : Int) < (m : Int) := by omega
        obtain ⟨u, hu⟩ : ∃ u, a[k]? = some u := ⟨_, List.getElem?_eq_getElem (by omega)⟩
        obtain ⟨v, hv⟩ : ∃ u, b[k]? = some u := ⟨_, List.getElem?_eq_getElem (by omega)⟩
        obtain ⟨g, off, hA, _, hb, hc0⟩ := HP.out.at (j := k) (u := .int .u8 (u.toNat : Int)) (by simp [bc, hu])
        obtain ⟨g2, off2, hB, _, hb2, hc2⟩ := HQ.out.at (j := k) (u := .int .u8 (v.toNat : Int)) (by simp [bc, hv])
        subst hA hB
        have hc : wr.cell? ⟨g, off + k, none⟩ = some (.int .u8 (u.toNat : Int)) := (H.out.2.cell (p := ⟨g, off + k, none⟩) hb).trans hc0
        have hcg : ∀ q : Grows wr, q.val.cell? ⟨g, off + k, none⟩ = some (.int .u8 (u.toNat : Int)) := fun q => (q.prop.cell (p := ⟨g, off + k, none⟩) (Nat.lt_of_lt_of_le hb H.out.2.size)).trans hc
        have hd2 : wr.cell? ⟨g2, off2 + k, none⟩ = some (.int .u8 (v.toNat : Int)) := (H.out.2.cell (p := ⟨g2, off2 + k, none⟩) hb2).trans hc2
        have hdg : ∀ q : Grows wr, q.val.cell? ⟨g2, off2 + k, none⟩ = some (.int .u8 (v.toNat : Int)) := fun q => (q.prop.cell (p := ⟨g2, off2 + k, none⟩) (Nat.lt_of_lt_of_le hb2 H.out.2.size)).trans hd2
        obtain ⟨z, hz⟩ : ∃ z, Gf.mul u v = z := ⟨_, rfl⟩
        have hmu : ∀ q : Grows wr, _ := fun q => C.mulG P u v q
        have had : ∀ q : Grows wr, _ := fun q => C.addG P y z q
        rw [hz] at hmu
        have HST := Lib.hid (show y ^^^ z = dotL (a.take (k + 1)) (b.take (k + 1)) from by rw [dot_take a b k u v hu hv, hz, H.out.1])
        clear hc0 hb hu hz hv hc2 hb2
        go_wp2_with fail
        refine wp_region_grows (by kernel_rfl) (by kernel_rfl) ?_
        repeat (first
          | quiet_step (first | (go_at_call 9; exact hmu _) | (go_at_call 11; exact had _)))
        refine wpQuiet_nil ?_
        rintro w2 ⟨⟨_, hw2⟩, rfl⟩
        have HW := Lib.hid (H.out.2.trans (hw2.mono H.out.2.size))
        clear hw2 hmu had hcg hc hd2 hdg
        go_wp2
        go_roundw
        case rel => exact ⟨k + 1, y ^^^ z, by omega, by go_num, rfl, Lib.hid ⟨HST.out, HW.out⟩⟩
        case measure => simp [intOf]; omega
      · obtain rfl : k = m := by omega
        have l1 : ¬ (k : Int) < (k : Int) := by omega
        go_wp2
        go_ret
        refine ⟨?_, H.out.2⟩
        rw [H.out.1, dot_all a b k (by omega)]
        rfl
  · have hdn : ¬ m < n := by omega
    have hdi : ¬ (m : Int) < (n : Int) := by omega
    go_enter Try.func25, Try.ntmps25
    go_wp2_with fail
    go_loopw [7, 8, 14] (fun s _ i wr => ∃ (k : Nat) (y : UInt8), k ≤ n ∧ i = .int .i64 (k : Int) ∧ s = .int .u8 (y.toNat : Int) ∧ Hid (y = dotL (a.take k) (b.take k) ∧ Below w.heap.size w wr)) (fun _ _ i _ => n - (intOf i).toNat)
    case atStart => exact ⟨0, 0, by omega, rfl, rfl, Lib.hid ⟨rfl, Below.refl _ _⟩⟩
    case round =>
      obtain ⟨k, y, hk, rfl, rfl, H⟩ := hrel
      by_cases hlt : k < n
      · have l1 : (k : Int) < (n : Int) := by omega
        have l2 : (k : Int) < (n : Int) := by omega
        have l3 : (k : Int) < (m : Int) := by omega
        obtain ⟨u, hu⟩ : ∃ u, a[k]? = some u := ⟨_, List.getElem?_eq_getElem (by omega)⟩
        obtain ⟨v, hv⟩ : ∃ u, b[k]? = some u := ⟨_, List.getElem?_eq_getElem (by omega)⟩
        obtain ⟨g, off, hA, _, hb, hc0⟩ := HP.out.at (j := k) (u := .int .u8 (u.toNat : Int)) (by simp [bc, hu])
        obtain ⟨g2, off2, hB, _, hb2, hc2⟩ := HQ.out.at (j := k) (u := .int .u8 (v.toNat : Int)) (by simp [bc, hv])
        subst hA hB
        have hc : wr.cell? ⟨g, off + k, none⟩ = some (.int .u8 (u.toNat : Int)) := (H.out.2.cell (p := ⟨g, off + k, none⟩) hb).trans hc0
        have hcg : ∀ q : Grows wr, q.val.cell? ⟨g, off + k, none⟩ = some (.int .u8 (u.toNat : Int)) := fun q => (q.prop.cell (p := ⟨g, off + k, none⟩) (Nat.lt_of_lt_of_le hb H.out.2.size)).trans hc
        have hd2 : wr.cell? ⟨g2, off2 + k, none⟩ = some (.int .u8 (v.toNat : Int)) := (H.out.2.cell (p := ⟨g2, off2 + k, none⟩) hb2).trans hc2
        have hdg : ∀ q : Grows wr, q.val.cell? ⟨g2, off2 + k, none⟩ = some (.int .u8 (v.toNat : Int)) := fun q => (q.prop.cell (p := ⟨g2, off2 + k, none⟩) (Nat.lt_of_lt_of_le hb2 H.out.2.size)).trans hd2
        obtain ⟨z, hz⟩ : ∃ z, Gf.mul u v = z := ⟨_, rfl⟩
        have hmu : ∀ q : Grows wr, _ := fun q => C.mulG P u v q
        have had : ∀ q : Grows wr, _ := fun q => C.addG P y z q
        rw [hz] at hmu
        have HST := Lib.hid (show y ^^^ z = dotL (a.take (k + 1)) (b.take (k + 1)) from by rw [dot_take a b k u v hu hv, hz, H.out.1])
        clear hc0 hb hu hz hv hc2 hb2
        go_wp2_with fail
        refine wp_region_grows (by kernel_rfl) (by kernel_rfl) ?_
        repeat (first
          | quiet_step (first | (go_at_call 9; exact hmu _) | (go_at_call 11; exact had _)))
        refine wpQuiet_nil ?_
        rintro w2 ⟨⟨_, hw2⟩, rfl⟩
        have HW := Lib.hid (H.out.2.trans (hw2.mono H.out.2.size))
        clear hw2 hmu had hcg hc hd2 hdg
        go_wp2
        go_roundw
        case rel => exact ⟨k + 1, y ^^^ z, by omega, by go_num, rfl, Lib.hid ⟨HST.out, HW.out⟩⟩
        case measure => simp [intOf]; omega
      · obtain rfl : k = n := by omega
        have l1 : ¬ (k : Int) < (k : Int) := by omega
        go_wp2
        go_ret
        refine ⟨?_, H.out.2⟩
        rw [H.out.1, dot_all a b k (by omega)]
        rfl
end Go.Proofs.Ytnkcpchdjgedoaa
