/-
  Marks and sealed blocks in plain words: numbers as bytes, the highest first; no statement about the program stands here.
-/
import Derived.Test.YthpfdenpgegheaaBase
namespace Go.Proofs.Ythpfdenpgegheaa

/-- A number as k bytes, the highest first. -/
def beN : Nat → Nat → List UInt8
  | 0, _ => []
  | k + 1, n => beN k (n / 256) ++ [UInt8.ofNat (n % 256)]
theorem beN_length : ∀ k n, (beN k n).length = k
  | 0, _ => rfl
  | k + 1, n => by rw [beN, List.length_append, beN_length k]; rfl
theorem beVal_beN : ∀ k n, n < 256 ^ k → beVal (beN k n) = n
  | 0, n, h => by
    simp at h
    subst h
    rfl
  | k + 1, n, h => by
    have h2 : n / 256 < 256 ^ k := by
      rw [Nat.div_lt_iff_lt_mul (by omega)]
      rwa [Nat.pow_succ] at h
    rw [beN, beVal_snoc, beVal_beN k _ h2, UInt8.toNat_ofNat']
    omega
theorem byte_of_mod (v : Nat) (b : UInt8) : UInt8.ofNat ((v * 256 + b.toNat) % 256) = b := by
  apply UInt8.toNat_inj.1
  have := b.toNat_lt
  rw [UInt8.toNat_ofNat']
  omega
theorem beN_beVal_rev : ∀ r : List UInt8, beN r.length (beVal r.reverse) = r.reverse
  | [] => rfl
  | b :: r => by
    have := b.toNat_lt
    rw [List.length_cons, List.reverse_cons, beVal_snoc, beN, byte_of_mod, show (beVal r.reverse * 256 + b.toNat) / 256 = beVal r.reverse by omega, beN_beVal_rev r]
theorem beN_beVal (l : List UInt8) : beN l.length (beVal l) = l := by
  have := beN_beVal_rev l.reverse
  rwa [List.length_reverse, List.reverse_reverse] at this
theorem beVal_inj {l m : List UInt8} (hl : l.length = m.length) (h : beVal l = beVal m) : l = m := by
  rw [← beN_beVal l, ← beN_beVal m, hl, h]

/-- A mark. -/
structure Mk where
  kind : UInt8
  epoch : Nat
  seq : Nat
  he : epoch < 18446744073709551616
  hs : seq < 18446744073709551616
theorem Mk.ext' {m o : Mk} (h1 : m.kind = o.kind) (h2 : m.epoch = o.epoch) (h3 : m.seq = o.seq) : m = o := by
  obtain ⟨a, b, c, _, _⟩ := m
  obtain ⟨a', b', c', _, _⟩ := o
  subst h1 h2 h3
  rfl
instance : DecidableEq Mk := fun m o =>
  if h : m.kind = o.kind ∧ m.epoch = o.epoch ∧ m.seq = o.seq then isTrue (Mk.ext' h.1 h.2.1 h.2.2) else isFalse (fun e => h (by subst e; exact ⟨rfl, rfl, rfl⟩))
/-- The mark of nobody. -/
def Mk.zero : Mk := ⟨0, 0, 0, by omega, by omega⟩
/-- Its cells. -/
def mv (m : Mk) : Array Value := #[.int .u8 (m.kind.toNat : Int), .int .u64 (m.epoch : Int), .int .u64 (m.seq : Int)]
/-- Whether a sealed block may have it. -/
def Mk.may (m : Mk) : Bool := m.kind != 0 && m.kind != 3
/-- Its bytes. -/
def Mk.bytes (m : Mk) : List UInt8 := m.kind :: (beN 8 m.epoch ++ beN 8 m.seq)
theorem Mk.bytes_length (m : Mk) : m.bytes.length = 17 := by simp [Mk.bytes, beN_length]
theorem beVal_lt8 (l : List UInt8) (h : l.length ≤ 8) : beVal l < 18446744073709551616 := by
  have h1 := beVal_lt l
  have h2 : 256 ^ l.length ≤ 256 ^ 8 := Nat.pow_le_pow_right (by omega) h
  have h3 : (256 : Nat) ^ 8 = 18446744073709551616 := by decide
  omega
/-- The mark that bytes begin with. -/
def markAt (l : List UInt8) : Mk := ⟨l.headD 0, beVal ((l.drop 1).take 8), beVal ((l.drop 9).take 8), beVal_lt8 _ (by rw [List.length_take]; omega), beVal_lt8 _ (by rw [List.length_take]; omega)⟩
theorem pow8 : (256 : Nat) ^ 8 = 18446744073709551616 := by decide
theorem markAt_bytes (m : Mk) (r : List UInt8) : markAt (m.bytes ++ r) = m := by
  have h1 := beN_length 8 m.epoch
  have h2 := beN_length 8 m.seq
  refine Mk.ext' rfl ?_ ?_
  · show beVal ((beN 8 m.epoch ++ beN 8 m.seq ++ r).take 8) = _
    rw [List.append_assoc, List.take_append_of_le_length (by omega), List.take_of_length_le (by omega), beVal_beN _ _ (by rw [pow8]; exact m.he)]
  · show beVal (((beN 8 m.epoch ++ beN 8 m.seq ++ r).drop 8).take 8) = _
    rw [List.append_assoc, List.drop_append, List.drop_eq_nil_of_le (by omega), h1, List.nil_append, List.drop_zero, List.take_append_of_le_length (by omega), List.take_of_length_le (by omega), beVal_beN _ _ (by rw [pow8]; exact m.hs)]
theorem bytes_markAt (l : List UInt8) (h : 17 ≤ l.length) : (markAt l).bytes = l.take 17 := by
  match l, h with
  | k :: r, h =>
    simp only [List.length_cons] at h
    have e1 := beN_beVal (r.take 8)
    have e2 := beN_beVal ((r.drop 8).take 8)
    rw [List.length_take, Nat.min_eq_left (by omega)] at e1
    rw [List.length_take, List.length_drop, Nat.min_eq_left (by omega)] at e2
    show k :: (beN 8 (beVal (r.take 8)) ++ beN 8 (beVal ((r.drop 8).take 8))) = k :: r.take 16
    rw [e1, e2, ← List.take_add]
/-- A list with others laid in from a place on. -/
def laid (l : List UInt8) (o : Nat) (xs : List UInt8) : List UInt8 := l.take o ++ xs ++ l.drop (o + xs.length)
theorem laid_length {l : List UInt8} {o : Nat} {xs : List UInt8} (h : o + xs.length ≤ l.length) : (laid l o xs).length = l.length := by
  simp only [laid, List.length_append, List.length_take, List.length_drop]
  omega
/-- The sealed block. -/
def sealed (m : Mk) (b : List UInt8) : List UInt8 := m.bytes ++ (beN 2 b.length ++ (b ++ (List.replicate (220 - b.length) 0 ++ m.bytes)))
theorem sealed_length (m : Mk) (b : List UInt8) (h : b.length ≤ 220) : (sealed m b).length = 256 := by
  simp only [sealed, List.length_append, Mk.bytes_length, beN_length, List.length_replicate]
  omega
/-- What seals in steps. -/
theorem sealed_steps (m : Mk) (b : List UInt8) (h : b.length ≤ 220) : laid (laid (laid (laid (List.replicate 256 0) 0 m.bytes) 17 (beN 2 b.length)) 19 b) 239 m.bytes = sealed m b := by
  have hm := m.bytes_length
  have h2 := beN_length 2 b.length
  have e1 : laid (List.replicate 256 0) 0 m.bytes = m.bytes ++ List.replicate 239 0 := by rw [laid, List.take_zero, List.nil_append, hm, List.drop_replicate]
  have e2 : laid (m.bytes ++ List.replicate 239 0) 17 (beN 2 b.length) = m.bytes ++ (beN 2 b.length ++ List.replicate 237 0) := by
    rw [laid, h2, List.take_append_of_le_length (by omega), List.take_of_length_le (by omega), List.drop_append, List.drop_eq_nil_of_le (by omega), hm, List.nil_append, List.drop_replicate, List.append_assoc]
  have e3 : laid (m.bytes ++ (beN 2 b.length ++ List.replicate 237 0)) 19 b = m.bytes ++ (beN 2 b.length ++ (b ++ List.replicate (237 - b.length) 0)) := by
    rw [← List.append_assoc, laid, List.take_append_of_le_length (by simp; omega), List.take_of_length_le (by simp; omega), List.drop_append, List.drop_eq_nil_of_le (by simp; omega), List.nil_append, List.drop_replicate]
    simp only [List.length_append, hm, h2, List.append_assoc]
    rw [show 237 - (19 + b.length - (17 + 2)) = 237 - b.length by omega]
  have e4 : List.replicate (237 - b.length) (0 : UInt8) = List.replicate (220 - b.length) 0 ++ List.replicate 17 0 := by rw [List.replicate_append_replicate]; congr 1; omega
  rw [e1, e2, e3, e4]
  have e5 : (m.bytes ++ (beN 2 b.length ++ (b ++ (List.replicate (220 - b.length) 0 ++ List.replicate 17 0)))) = (m.bytes ++ (beN 2 b.length ++ (b ++ List.replicate (220 - b.length) 0))) ++ List.replicate 17 (0 : UInt8) := by simp only [List.append_assoc]
  have hl : (m.bytes ++ (beN 2 b.length ++ (b ++ List.replicate (220 - b.length) (0 : UInt8)))).length = 239 := by simp only [List.length_append, hm, h2, List.length_replicate]; omega
  rw [e5, laid, List.take_append_of_le_length (by omega), List.take_of_length_le (by omega), List.drop_append, List.drop_eq_nil_of_le (by omega), List.nil_append, List.drop_replicate, hl, hm, show 17 - (239 + 17 - 239) = 0 by omega, List.replicate_zero, List.append_nil]
  simp only [sealed, List.append_assoc]
end Go.Proofs.Ythpfdenpgegheaa
