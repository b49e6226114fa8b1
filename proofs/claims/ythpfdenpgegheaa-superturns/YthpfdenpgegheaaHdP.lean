/-
  Heads in plain words: their blocks, and what a block's head is. No statement about the program stands here.
-/
import Derived.Test.YthpfdenpgegheaaOpenP
import Derived.Test.YthpfdenpgegheaaSealS
import Derived.Test.YthpfdenpgegheaaLText
import Derived.Test.YthpfdenpgegheaaLPutNums
namespace Go.Proofs.Ythpfdenpgegheaa
open Go.RowKit

/-- A head. -/
structure Hd where
  gen : Nat
  epoch : Nat
  pos : Int
  seq : Nat
  log : Int
  hg : gen < 18446744073709551616
  he : epoch < 18446744073709551616
  hs : seq < 18446744073709551616
  hp : -9223372036854775808 ≤ pos ∧ pos ≤ 9223372036854775807
  hl : -9223372036854775808 ≤ log ∧ log ≤ 9223372036854775807
theorem Hd.ext' {h k : Hd} (h1 : h.gen = k.gen) (h2 : h.epoch = k.epoch) (h3 : h.pos = k.pos) (h4 : h.seq = k.seq) (h5 : h.log = k.log) : h = k := by
  obtain ⟨a, b, c, d, e, _, _, _, _, _⟩ := h
  obtain ⟨a', b', c', d', e', _, _, _, _, _⟩ := k
  subst h1 h2 h3 h4 h5
  rfl
instance : DecidableEq Hd := fun h k =>
  if e : h.gen = k.gen ∧ h.epoch = k.epoch ∧ h.pos = k.pos ∧ h.seq = k.seq ∧ h.log = k.log then isTrue (Hd.ext' e.1 e.2.1 e.2.2.1 e.2.2.2.1 e.2.2.2.2) else isFalse (fun q => e (by subst q; exact ⟨rfl, rfl, rfl, rfl, rfl⟩))
/-- Its cells. -/
def hv (h : Hd) : Array Value := #[.int .u64 (h.gen : Int), .int .u64 (h.epoch : Int), .int .i64 h.pos, .int .u64 (h.seq : Int), .int .i64 h.log]
def hvl (h : Hd) : List Value := [.int .u64 (h.gen : Int), .int .u64 (h.epoch : Int), .int .i64 h.pos, .int .u64 (h.seq : Int), .int .i64 h.log]
theorem hv_size (h : Hd) : (hv h).size = 5 := rfl
theorem hv_one (h : Hd) : (hv h).all (·.oneCell') = true := by simp [hv, Value.oneCell']
theorem hd_range {w : World} {g : Nat} {t : TypeId} {h : Hd} (hb : Box w g t (hv h)) : w.rangeAt g 0 (hvl h) := fun j v hj => by
  rw [Box.cell hb, Nat.zero_add]
  simpa [hv, hvl] using hj
/-- The head of nobody. -/
def Hd.zero : Hd := ⟨0, 0, 0, 0, 0, by omega, by omega, by omega, by omega, by omega⟩
/-- A number that is counted from 1 on. -/
def cnt (n : Nat) : Bool := decide (1 ≤ n) && decide (n ≤ 4611686018427387904)
theorem cnt_iff {n : Nat} : cnt n = true ↔ 1 ≤ n ∧ n ≤ 4611686018427387904 := by simp [cnt]
/-- Whether it may be, on a device of so many blocks. -/
def Hd.rightB (h : Hd) (blocks : Int) : Bool := cnt h.gen && cnt h.epoch && cnt h.seq && decide (3 ≤ h.log ∧ h.log ≤ max blocks 3 - 3 ∧ 0 ≤ h.pos ∧ h.pos < h.log)
theorem Hd.right_iff {h : Hd} {blocks : Int} : h.rightB blocks = true ↔ (1 ≤ h.gen ∧ h.gen ≤ 4611686018427387904) ∧ (1 ≤ h.epoch ∧ h.epoch ≤ 4611686018427387904) ∧ (1 ≤ h.seq ∧ h.seq ≤ 4611686018427387904) ∧ 3 ≤ h.log ∧ h.log ≤ max blocks 3 - 3 ∧ 0 ≤ h.pos ∧ h.pos < h.log := by
  simp only [Hd.rightB, Bool.and_eq_true, cnt_iff, decide_eq_true_eq, and_assoc]
/-- Its mark. -/
def mk9 (g : Nat) (h : g < 18446744073709551616) : Mk := ⟨9, g, g, h, h⟩
theorem mk9_may (g : Nat) (h) : (mk9 g h).may = true := rfl
/-- Its bytes. -/
def Hd.bytes (h : Hd) : List UInt8 := Lay.encNum h.epoch ++ (Lay.encNum h.pos.toNat ++ (Lay.encNum h.seq ++ Lay.encNum h.log.toNat))
theorem encNum_le9 (x : Nat) (h : x < 18446744073709551616) : (Lay.encNum x).length ≤ 9 := by
  have := Lay.many_le x h
  rw [Lay.encNum_length]
  omega
theorem Hd.bytes_length (h : Hd) : h.bytes.length ≤ 36 := by
  have h1 := encNum_le9 h.epoch h.he
  have h2 := encNum_le9 h.pos.toNat (by have := h.hp; omega)
  have h3 := encNum_le9 h.seq h.hs
  have h4 := encNum_le9 h.log.toNat (by have := h.hl; omega)
  simp only [Hd.bytes, List.length_append]
  omega
/-- Its block. -/
def Hd.block (h : Hd) : List UInt8 := sealed (mk9 h.gen h.hg) h.bytes
theorem Hd.block_length (h : Hd) : h.block.length = 256 := sealed_length _ _ (by have := h.bytes_length; omega)
/-- What is read of bytes as a head's numbers. -/
def rq0 (b : List UInt8) : Lay.St := (b, 0)
def rq1 (b : List UInt8) : Lay.St := Lay.stNum (rq0 b)
def rq2 (b : List UInt8) : Lay.St := Lay.stSmall 9223372036854775807 (rq1 b)
def rq3 (b : List UInt8) : Lay.St := Lay.stNum (rq2 b)
def rq4 (b : List UInt8) : Lay.St := Lay.stSmall 9223372036854775807 (rq3 b)
theorem small_le (q : Lay.St) (m : Int) (hm : 0 ≤ m) : ((Lay.stSmallV m q : Nat) : Int) ≤ m := by
  unfold Lay.stSmallV Lay.tooBig
  split
  · split
    · exact hm
    · rename_i h
      simp at h
      omega
  · exact hm
def headFrom (g : Nat) (hg : g < 18446744073709551616) (b : List UInt8) : Hd :=
  ⟨g, Lay.stNumV (rq0 b), ((Lay.stSmallV 9223372036854775807 (rq1 b) : Nat) : Int), Lay.stNumV (rq2 b), ((Lay.stSmallV 9223372036854775807 (rq3 b) : Nat) : Int), hg, Lay.stNumV_lt _, Lay.stNumV_lt _,
    ⟨by omega, small_le _ _ (by omega)⟩, ⟨by omega, small_le _ _ (by omega)⟩⟩
/-- The head of a block, or none. -/
def headOf (l : List UInt8) (blocks : Int) : Option Hd :=
  match opens l with
  | some (m, b) => if (m.kind = 9 ∧ m.epoch = m.seq) ∧ Lay.stEnd (rq4 b) = 0 ∧ (headFrom m.epoch m.he b).rightB blocks = true then some (headFrom m.epoch m.he b) else none
  | none => none
theorem st_enc (x : Nat) (t : List UInt8) (hx : x < 18446744073709551616) : Lay.stNum (Lay.encNum x ++ t, 0) = (t, 0) ∧ Lay.stNumV (Lay.encNum x ++ t, 0) = x := by
  obtain ⟨h1, _, h3, h4⟩ := Lay.numErr_enc x hx t
  refine ⟨?_, ?_⟩
  · simp only [Lay.stNum, if_true, h1, h4]
  · simp only [Lay.stNumV, if_true, h3]
theorem sm_enc (x : Nat) (t : List UInt8) (m : Int) (h0 : (x : Int) ≤ m) (hm : m ≤ 9223372036854775807) : Lay.stSmall m (Lay.encNum x ++ t, 0) = (t, 0) ∧ Lay.stSmallV m (Lay.encNum x ++ t, 0) = x := by
  obtain ⟨h1, h2⟩ := st_enc x t (by omega)
  have ht : Lay.tooBig m x = false := by simp [Lay.tooBig]; omega
  refine ⟨?_, ?_⟩
  · simp only [Lay.stSmall, h1, h2, ht, if_true]; rfl
  · simp only [Lay.stSmallV, h1, h2, ht, if_true]; rfl
theorem read_bytes (h : Hd) (hp : 0 ≤ h.pos) (hl : 0 ≤ h.log) (g : Nat) (hg : g < 18446744073709551616) (e : g = h.gen) : headFrom g hg h.bytes = h ∧ Lay.stEnd (rq4 h.bytes) = 0 := by
  obtain ⟨a1, a2⟩ := st_enc h.epoch (Lay.encNum h.pos.toNat ++ (Lay.encNum h.seq ++ Lay.encNum h.log.toNat)) h.he
  obtain ⟨b1, b2⟩ := sm_enc h.pos.toNat (Lay.encNum h.seq ++ Lay.encNum h.log.toNat) 9223372036854775807 (by have := h.hp; omega) (by omega)
  obtain ⟨c1, c2⟩ := st_enc h.seq (Lay.encNum h.log.toNat) h.hs
  obtain ⟨d1, d2⟩ := sm_enc h.log.toNat [] 9223372036854775807 (by have := h.hl; omega) (by omega)
  rw [List.append_nil] at d1 d2
  have q1 : rq1 h.bytes = (Lay.encNum h.pos.toNat ++ (Lay.encNum h.seq ++ Lay.encNum h.log.toNat), 0) := a1
  have q2 : rq2 h.bytes = (Lay.encNum h.seq ++ Lay.encNum h.log.toNat, 0) := by rw [rq2, q1]; exact b1
  have q3 : rq3 h.bytes = (Lay.encNum h.log.toNat, 0) := by rw [rq3, q2]; exact c1
  have q4 : rq4 h.bytes = ([], 0) := by rw [rq4, q3]; exact d1
  refine ⟨Hd.ext' e a2 ?_ ?_ ?_, by rw [q4]; rfl⟩
  · show ((Lay.stSmallV 9223372036854775807 (rq1 h.bytes) : Nat) : Int) = h.pos
    rw [q1, b2]
    omega
  · show Lay.stNumV (rq2 h.bytes) = h.seq
    rw [q2, c2]
  · show ((Lay.stSmallV 9223372036854775807 (rq3 h.bytes) : Nat) : Int) = h.log
    rw [q3, d2]
    omega
theorem headOf_block (h : Hd) (n : Int) (hr : h.rightB n = true) : headOf h.block n = some h := by
  have hq := Hd.right_iff.1 hr
  obtain ⟨e1, e2⟩ := read_bytes h (by omega) (by omega) h.gen h.hg rfl
  rw [headOf, Hd.block, opens_sealed _ _ (by have := h.bytes_length; omega) (mk9_may _ _)]
  simp only
  rw [if_pos ⟨⟨rfl, rfl⟩, e2, by rw [show headFrom (mk9 h.gen h.hg).epoch (mk9 h.gen h.hg).he h.bytes = h from e1]; exact hr⟩]
  exact congrArg some e1
theorem headOf_none {l : List UInt8} {n : Int} (h : opens l = none) : headOf l n = none := by rw [headOf, h]
theorem opens_zero : opens (List.replicate 256 0) = none := by
  rw [opens, if_neg]
  rintro ⟨h, _⟩
  rw [twin, Bool.and_eq_true] at h
  have : (markAt (List.replicate 256 0)).may = false := rfl
  rw [this] at h
  exact Bool.noConfusion h.2
end Go.Proofs.Ythpfdenpgegheaa
