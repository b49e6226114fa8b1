/-
  DevKeeps: what holds along its loops.
-/
import Derived.Test.YtemgphpgfdnkeaaKeepP
namespace Go.Proofs.Ytemgphpgfdnkeaa
open Go.RowKit

/-- Which byte block i is of, behind the first writes. -/
def wasB (fs : List UInt8) (i : Nat) : UInt8 := fs.getD i 0
/-- Behind j first writes. -/
def KpA (w wr : World) (p : Nat) (fs : List UInt8) (j : Nat) (D : Dv) : Prop :=
  Dev wr (fun k => w.heap.size ≤ k) p D ∧ Below w.heap.size w wr ∧ Up4 D j ∧ ∀ i, i < 4 → D.blk i = blkOf (if i < j then wasB fs i else 0)
theorem KpA.step {w wr : World} {p : Nat} {fs : List UInt8} {j : Nat} {D : Dv} (h : KpA w wr p fs j D) (hj : j < 4) {w' : World} (hd : Dev w' (fun k => w.heap.size ≤ k) p (D.call.write j (blkOf (wasB fs j)))) (hb : Below w.heap.size wr w') : KpA w w' p fs (j + 1) (D.call.write j (blkOf (wasB fs j))) := by
  refine ⟨hd, h.2.1.trans hb, h.2.2.1.call.write j _, fun i hi => ?_⟩
  have h4 : D.call.bs.length = 4 := h.2.2.1.four
  have hbs : (D.call.write j (blkOf (wasB fs j))).blk i = (D.call.bs.set j (blkOf (wasB fs j))).getD i default := rfl
  rw [hbs, List.getD]
  by_cases e : j = i
  · subst e
    rw [List.getElem?_set_self (by omega), if_pos (by omega)]
    rfl
  · rw [List.getElem?_set_ne e]
    have := h.2.2.2 i hi
    rw [show (if i < j + 1 then wasB fs i else 0) = (if i < j then wasB fs i else 0) by by_cases h1 : i < j <;> simp [h1] <;> omega]
    exact this
/-- Blocks of the device's own, but for what was made between. -/
def kd (B a b : Nat) (k : Nat) : Prop := B ≤ k ∧ ¬ (a ≤ k ∧ k ≤ b)
def kc (a b : Nat) (k : Nat) : Prop := a ≤ k ∧ k < b
/-- The device, its clone, and the table of bytes that may be. -/
structure KpB (w wr : World) (p q a b : Nat) (M : Nat → Nat → Bool) (Dd Dc : Dv) : Prop where
  dev : Dev wr (kd w.heap.size a b) p Dd
  cl : Dev wr (kc a b) q Dc
  tab : Box wr b 54 (mc M).toArray
  bel : Below w.heap.size w wr
  ab : a ≤ b
  wa : w.heap.size ≤ a
section
variable {w wr w' : World} {p q a b : Nat} {M : Nat → Nat → Bool} {Dd Dc : Dv}
/-- What touches the device alone. -/
theorem KpB.turn (h : KpB w wr p q a b M Dd Dc) {D' : Dv} (hd : Dev w' (kd w.heap.size a b) p D') (ht : Touch (kd w.heap.size a b) wr w') : KpB w w' p q a b M D' Dc :=
  ⟨hd, ht.dev h.cl (fun _ h1 h2 => h2.2 ⟨h1.1, Nat.le_of_lt h1.2⟩), ht.box h.tab (fun h2 => h2.2 ⟨h.ab, Nat.le_refl _⟩), h.bel.trans (ht.below (fun _ h => h.1) h.bel.size), h.ab, h.wa⟩
/-- What touches the clone alone. -/
theorem KpB.turnC (h : KpB w wr p q a b M Dd Dc) {D' : Dv} (hd : Dev w' (kc a b) q D') (ht : Touch (kc a b) wr w') : KpB w w' p q a b M Dd D' :=
  ⟨ht.dev h.dev (fun _ h1 h2 => h1.2 ⟨h2.1, Nat.le_of_lt h2.2⟩), hd, ht.box h.tab (fun h2 => absurd h2.2 (Nat.lt_irrefl _)), h.bel.trans (ht.below (fun _ hk => Nat.le_trans h.wa hk.1) h.bel.size), h.ab, h.wa⟩
theorem KpB.put (h : KpB w wr p q a b M Dd Dc) (i : Nat) {v : Nat} (hv : v < 256) : KpB w (wr.drew.setCell ⟨b, i * 256 + v, none⟩ (.bool true)) p q a b (mput M i v) Dd Dc := by
  have hg : wr.grownBy (wr.drew.setCell ⟨b, i * 256 + v, none⟩ (.bool true)) (some b) := grown_set (grown_drew (grown_refl wr _)) _ _
  have ht : Touch (fun k => k = b) wr (wr.drew.setCell ⟨b, i * 256 + v, none⟩ (.bool true)) := Touch.of_grown hg (fun k e => by injection e with e; exact e.symm)
  refine ⟨ht.dev h.dev (fun k h1 h2 => h1.2 ⟨by rw [h2]; exact h.ab, by omega⟩), ht.dev h.cl (fun k h1 h2 => by have := h1.2; omega), ?_, h.bel.trans (ht.below (fun k e => by rw [e]; exact Nat.le_trans h.wa h.ab) h.bel.size), h.ab, h.wa⟩
  have := Box.put (w := wr.drew) h.tab (i * 256 + v) (.bool true)
  rwa [mc_put M hv] at this
theorem KpB.drew (h : KpB w wr p q a b M Dd Dc) : KpB w wr.drew p q a b M Dd Dc := ⟨h.dev, h.cl, h.tab, h.bel.drew, h.ab, h.wa⟩
theorem KpB.cell (h : KpB w wr p q a b M Dd Dc) {i v : Nat} (hi : i < 4) (hv : v < 256) : wr.cell? ⟨b, i * 256 + v, none⟩ = some (.bool (M i v)) := by
  rw [Box.cell h.tab]
  simpa using mc_at M hi hv
theorem KpB.frozen (h : KpB w wr p q a b M Dd Dc) (j : Nat) : wr.frozen? ⟨b, j, none⟩ = false := Box.frozen h.tab j
theorem KpB.new (h : KpB w wr p q a b M Dd Dc) : ∀ k, wr.heap.size ≤ k → kd w.heap.size a b k := fun k hk => ⟨Nat.le_trans h.bel.size hk, fun h2 => by have := h.tab.lt; omega⟩
end
theorem be_blkOf (z : UInt8) {k : Nat} (hk : k < 256) : (be (blkOf z))[k]? = some (.int .u8 (z.toNat : Int)) := by
  show (bc (List.replicate 256 z))[k]? = _
  rw [bc, List.map_replicate, List.getElem?_replicate, if_pos hk]
theorem be_at (x : Bk) {k : Nat} (hk : k < 256) : ∃ z ∈ x.1, (be x)[k]? = some (.int .u8 (z.toNat : Int)) := by
  have hl := x.2
  refine ⟨x.1[k]'(by omega), List.getElem_mem _, ?_⟩
  simp [be, bc, show k < x.1.length by omega]
theorem KpB.below {w wr w' : World} {p q a b : Nat} {M : Nat → Nat → Bool} {Dd Dc : Dv} (h : KpB w wr p q a b M Dd Dc) (hb : Below wr.heap.size wr w') : KpB w w' p q a b M Dd Dc :=
  ⟨h.dev.below hb, h.cl.below hb, Box.below h.tab hb h.tab.lt, h.bel.trans (hb.mono h.bel.size), h.ab, h.wa⟩
theorem below_drewN' {B : Nat} {a b : World} (h : Below B a b) (n : Nat) : Below B a (b.drewN n) := ⟨h.os, h.tape, h.output, h.size, h.block⟩
theorem and_small (x : Int) (k m : Nat) (hk : k < 4611686018427387904) (hm : k < m) : ∃ a : Nat, a < m ∧ bits .and .i64 x (k : Int) = (a : Int) := by
  have h : bits .and .i64 x (k : Int) = IntKind.i64.wrap (((BitVec.ofInt 64 x &&& BitVec.ofInt 64 (k : Int)).toNat : Nat) : Int) := rfl
  have e : (BitVec.ofInt 64 (k : Int)).toNat = k := by
    rw [BitVec.toNat_ofInt]
    omega
  have h2 : (BitVec.ofInt 64 x &&& BitVec.ofInt 64 (k : Int)).toNat ≤ k := by
    rw [BitVec.toNat_and, e]
    exact Nat.and_le_right
  refine ⟨_, Nat.lt_of_le_of_lt h2 hm, ?_⟩
  rw [h]
  exact IntWalk.i64_in _ (by omega)
/-- A step's cells. -/
theorem Acts.cells {w : World} {A : Option Addr} {n c : Nat} {xs : List Ac} (h : Acts w A n c xs) {j : Nat} (hj : j < n) : ∃ x b off, xs[j]? = some x ∧ x ∈ xs ∧ A = some ⟨b, off, none⟩ ∧ b < w.heap.size ∧ w.cell? ⟨b, off + j * 4, none⟩ = some (.int .i64 x.kind) ∧ w.cell? ⟨b, off + j * 4 + 1, none⟩ = some (.int .i64 x.n) ∧ w.cell? ⟨b, off + j * 4 + 2, none⟩ = some (.int .u8 (x.c.toNat : Int)) ∧ w.cell? ⟨b, off + j * 4 + 3, none⟩ = some (.slice x.ka x.kn x.kc) ∧ w.rangeAt b (off + j * 4) (ac x) := by
  obtain ⟨h1, h2, h3, h4⟩ := h
  obtain ⟨b, off, hA, hb, hr⟩ := h3 (by omega)
  obtain ⟨x, hx⟩ : ∃ x, xs[j]? = some x := ⟨_, List.getElem?_eq_getElem (by omega)⟩
  have hat : w.rangeAt b (off + j * 4) (ac x) := fun i v hv => by rw [Nat.add_assoc]; exact hr _ v (fl_at ac_length xs j x hx i v hv)
  exact ⟨x, b, off, hx, List.mem_of_getElem? hx, hA, hb, hat 0 _ rfl, hat 1 _ rfl, hat 2 _ rfl, hat 3 _ rfl, hat⟩
/-- Behind j writes more. -/
structure KpC (w wr : World) (p q a b : Nat) (fs : List UInt8) (M : Nat → Nat → Bool) (Dd Dc : Dv) (N : Nat) : Prop where
  kp : KpB w wr p q a b M Dd Dc
  up : Up4 Dd N
  base : ∀ i, i < 4 → Dd.base.getD i default = blkOf (wasB fs i)
  was : ∀ i, i < 4 → M i (wasB fs i).toNat = true
  said : ∀ x ∈ Dd.ws, ∃ c : UInt8, x.is = blkOf c ∧ M x.n c.toNat = true
theorem KpC.fall {w wr : World} {p q a b : Nat} {fs : List UInt8} {M : Nat → Nat → Bool} {Dd Dc : Dv} {N : Nat} (h : KpC w wr p q a b fs M Dd Dc N) (keep : List Int) : ∀ i, i < 4 → ∀ z ∈ ((Dd.fall keep).bs.getD i default).1, M i z.toNat = true := by
  have h4 : Dd.base.length = 4 := by rw [base_length]; exact h.up.four
  intro i hi z hz
  refine redo_bytes (fun i z => M i z.toNat = true) keep Dd.base Dd.ws (fun i hi z hz => ?_) (fun x hx z hz => ?_) Dd.ws.length (Nat.le_refl _) i (by omega) z hz
  · rw [h.base i (by omega)] at hz
    rw [mem_blkOf hz]
    exact h.was i (by omega)
  · obtain ⟨c, hc, hM⟩ := h.said x hx
    rw [hc] at hz
    rw [mem_blkOf hz]
    exact hM
end Go.Proofs.Ytemgphpgfdnkeaa
