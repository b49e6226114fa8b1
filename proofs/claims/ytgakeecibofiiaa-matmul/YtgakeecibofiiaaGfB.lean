/-
  Eval of package gf, given what Add and Mul tell.
-/
import Derived.Test.YtgakeecibofiiaaGfNums
import Derived.Test.YtgakeecibofiiaaMem
import Derived.Test.YtgakeecibofiiaaGrows
namespace Go.Proofs.Ytgakeecibofiiaa
open Go.RowKit

/-- A list of bytes handed back, in new memory. -/
def GivesN (w : World) (l : List UInt8) (e : Ending) (w' : World) : Prop := ∃ A n c, e = .returned (.slice A n c) ∧ Lies w' (fun b => w.heap.size ≤ b) A n c (bc l) ∧ Below w.heap.size w w'
theorem Below.of_eq {w w' : World} (h : w' = w) : Below w.heap.size w w' := h ▸ Below.refl _ _
/-- What the field's sums and products tell. -/
structure GfB : Prop where
  add : ∀ (P : Option Addr) (a b : UInt8) (w : World), Calls Try.prog 47 #[.pointer P, .int .u8 (a.toNat : Int), .int .u8 (b.toNat : Int)] w fun e w' => e = .returned (.int .u8 ((a ^^^ b).toNat : Int)) ∧ Below w.heap.size w w'
  mul : ∀ (P : Option Addr) (a b : UInt8) (w : World), Calls Try.prog 55 #[.pointer P, .int .u8 (a.toNat : Int), .int .u8 (b.toNat : Int)] w fun e w' => e = .returned (.int .u8 ((Gf.mul a b).toNat : Int)) ∧ Below w.heap.size w w'

theorem GfB.addG (C : GfB) (P : Option Addr) (a b : UInt8) {wr : World} (q : Grows wr) : Calls Try.prog 47 #[.pointer P, .int .u8 (a.toNat : Int), .int .u8 (b.toNat : Int)] q.val fun e w'' => e = .returned (.int .u8 ((a ^^^ b).toNat : Int)) ∧ ∃ p' : Grows wr, w'' = p'.val :=
  (C.add P a b q.val).mono fun _ w'' hh => ⟨hh.1, ⟨w'', q.prop.trans (hh.2.mono q.prop.size)⟩, rfl⟩
theorem GfB.mulG (C : GfB) (P : Option Addr) (a b : UInt8) {wr : World} (q : Grows wr) : Calls Try.prog 55 #[.pointer P, .int .u8 (a.toNat : Int), .int .u8 (b.toNat : Int)] q.val fun e w'' => e = .returned (.int .u8 ((Gf.mul a b).toNat : Int)) ∧ ∃ p' : Grows wr, w'' = p'.val :=
  (C.mul P a b q.val).mono fun _ w'' hh => ⟨hh.1, ⟨w'', q.prop.trans (hh.2.mono q.prop.size)⟩, rfl⟩

theorem ev_drop (p : List UInt8) (x : UInt8) (j : Nat) (u : UInt8) (hu : p[j]? = some u) : Gf.ev (p.drop j) x = Gf.mul (Gf.ev (p.drop (j + 1)) x) x ^^^ u := by
  obtain ⟨h1, rfl⟩ := List.getElem?_eq_some_iff.mp hu
  rw [List.drop_eq_getElem_cons h1, Gf.ev, Gf.mul_comm, UInt8.xor_comm]

set_option maxRecDepth 100000 in
set_option maxHeartbeats 1000000 in
theorem eval_of (C : GfB) (P : Option Addr) (A : Option Addr) (n c : Nat) (p : List UInt8) (x : UInt8) (w : World) (hp : Lies w (fun _ => True) A n c (bc p)) (hn : n ≤ 2000) : Calls Try.prog 32 #[.pointer P, .slice A n c, .int .u8 (x.toNat : Int)] w fun e w' => e = .returned (.int .u8 ((Gf.ev p x).toNat : Int)) ∧ Below w.heap.size w w' := by
  have HP := Lib.hid hp
  have hl : p.length = n := by rw [← bc_length]; exact hp.len
  clear hp
  go_enter Try.func32, Try.ntmps32
  go_wp2_with fail
  go_loopw [7, 8] (fun s i wr => ∃ (k : Nat) (y : UInt8), k ≤ n ∧ i = .int .i64 ((k : Int) - 1) ∧ s = .int .u8 (y.toNat : Int) ∧ Hid (y = Gf.ev (p.drop k) x ∧ Below w.heap.size w wr)) (fun _ i _ => (intOf i + 1).toNat)
  case atStart => exact ⟨n, 0, by omega, by go_num, rfl, Lib.hid ⟨by rw [List.drop_of_length_le (by omega)]; rfl, Below.refl _ _⟩⟩
  case round =>
    obtain ⟨k, y, hk, rfl, rfl, H⟩ := hrel
    rcases k with _ | j
    · have e0 : ((0 : Nat) : Int) - 1 = -1 := by omega
      rw [e0]
      go_wp2
      go_ret
      refine ⟨?_, H.out.2⟩
      rw [H.out.1]
      rfl
    · have e0 : ((j + 1 : Nat) : Int) - 1 = (j : Int) := by omega
      rw [e0]
      have l1 : (0 : Int) ≤ (j : Int) := by omega
      have l2 : (j : Int) < (n : Int) := by omega
      obtain ⟨u, hu⟩ : ∃ u, p[j]? = some u := ⟨_, List.getElem?_eq_getElem (by omega)⟩
      obtain ⟨b, off, hA, _, hb, hc0⟩ := HP.out.at (j := j) (u := .int .u8 (u.toNat : Int)) (by simp [bc, hu])
      subst hA
      have hc : wr.cell? ⟨b, off + j, none⟩ = some (.int .u8 (u.toNat : Int)) := (H.out.2.cell (p := ⟨b, off + j, none⟩) hb).trans hc0
      have hcg : ∀ q : Grows wr, q.val.cell? ⟨b, off + j, none⟩ = some (.int .u8 (u.toNat : Int)) := fun q => (q.prop.cell (p := ⟨b, off + j, none⟩) (Nat.lt_of_lt_of_le hb H.out.2.size)).trans hc
      obtain ⟨z, hz⟩ : ∃ z, Gf.mul y x = z := ⟨_, rfl⟩
      have hmu : ∀ q : Grows wr, _ := fun q => C.mulG P y x q
      have had : ∀ q : Grows wr, _ := fun q => C.addG P z u q
      rw [hz] at hmu
      have HST := Lib.hid (show z ^^^ u = Gf.ev (p.drop j) x from by rw [ev_drop p x j u hu, ← hz, H.out.1])
      clear hc0 hb hu hz
      go_wp2_with fail
      refine wp_region_grows (by kernel_rfl) (by kernel_rfl) ?_
      repeat (first
        | quiet_step (first | (go_at_call 55; exact hmu _) | (go_at_call 47; exact had _)))
      refine wpQuiet_nil ?_
      rintro w2 ⟨⟨_, hw2⟩, rfl⟩
      have HW := Lib.hid (H.out.2.trans (hw2.mono H.out.2.size))
      clear hw2 hmu had hcg hc
      go_wp2
      go_roundw
      case rel => exact ⟨j, z ^^^ u, by omega, by go_num, rfl, Lib.hid ⟨HST.out, HW.out⟩⟩
      case measure => simp [intOf]

/-- The code as it landed. -/
theorem gfB : GfB := ⟨fun P a b w => (add_says P a b w).mono fun _ _ h => ⟨h.1, Below.of_eq h.2⟩, fun P a b w => (mul_says P a b w).mono fun _ _ h => ⟨h.1, Below.of_eq h.2⟩⟩
end Go.Proofs.Ytgakeecibofiiaa
