/-
  Words for memory, and plain mathematics, that the contracts of package lay are stated in. No statement about the program stands here.
  Marks and sealed blocks in plain words: numbers as bytes, the highest first; no statement about the program stands here.
  What opening a block comes to, in plain words; torn blocks. No statement about the program stands here.
-/
import Derived.WalkKit
import Derived.WalkSpells
import Derived.Lib.AppendStr
import Derived.Lib.Strings
import Derived.Lib.Hide
namespace Go.Proofs.YtnhondkdkjehaaaGreat
open Go.RowKit

/-- Block g is just the cells cs, of element type t; nothing of it is frozen. -/
def Box (w : World) (g : Nat) (t : TypeId) (cs : Array Value) : Prop := w.heap[g]? = some (.cells cs t (0, 0))

section
variable {w w' : World} {g : Nat} {t : TypeId} {cs : Array Value}
theorem Box.lt (h : Box w g t cs) : g < w.heap.size := by
  rcases Nat.lt_or_ge g w.heap.size with h1 | h1
  · exact h1
  · exfalso
    unfold Box at h
    rw [Array.getElem?_eq_none h1] at h
    cases h
theorem Box.cell (h : Box w g t cs) (i : Nat) : w.cell? ⟨g, i, none⟩ = cs[i]? := by
  unfold Box at h
  simp [World.cell?, h]
theorem Box.frozen (h : Box w g t cs) (i : Nat) : w.frozen? ⟨g, i, none⟩ = false := by
  unfold Box at h
  simp [World.frozen?, h]
theorem Box.made (w : World) (t : TypeId) (cs : Array Value) : Box (w.alloc (.cells cs t)) w.heap.size t cs := heap_alloc_new w _
theorem Box.alloc (h : Box w g t cs) (o : Obj) : Box (w.alloc o) g t cs := (Below.heap_alloc w o g h.lt).trans h
theorem Box.put (h : Box w g t cs) (i : Nat) (u : Value) : Box (w.setCell ⟨g, i, none⟩ u) g t (cs.setIfInBounds i u) := by
  unfold Box at h ⊢
  simp [World.setCell, Array.getElem?_modify, h]
theorem Box.below {B : Nat} (h : Box w g t cs) (hb : Below B w w') (hg : g < B) : Box w' g t cs := (hb.block g hg).trans h
theorem Box.grown {row : Option Nat} (h : Box w g t cs) (hb : w.grownBy w' row) (hg : some g ≠ row) : Box w' g t cs := (hb.block g h.lt hg).trans h
/-- A row of the call's own, of another element type, lies elsewhere. -/
theorem Box.apart (h : Box w g t cs) {base : Nat} {e : TypeId} {size n : Nat} {v : Value} {xs : List Value} (ho : w.ownsRow base e size v n xs) (hne : e ≠ t) : v.ownBlock ≠ some g := by
  rcases ho.2 with ⟨rfl, _⟩ | ⟨g', cap, cur, rfl, _, hh, _⟩
  · simp [Value.ownBlock]
  · intro he
    have hgg : g' = g := by simpa [Value.ownBlock] using he
    subst hgg
    unfold Box at h
    rw [h] at hh
    injection hh with hh
    injection hh with _ ht
    exact hne ht.symm
end

section
variable {a b c : World}
theorem grown_refl (a : World) (row : Option Nat) : a.grownBy a row := ⟨rfl, rfl, rfl, Nat.le_refl _, fun _ _ _ => rfl⟩
theorem grown_set {g : Nat} (h : a.grownBy b (some g)) (i : Nat) (u : Value) : a.grownBy (b.setCell ⟨g, i, none⟩ u) (some g) :=
  ⟨h.os, h.tape, h.output, by simpa [World.setCell] using h.size, fun k hk hne => (Below.heap_setCell b _ u k (fun e => hne (by rw [e]))).trans (h.block k hk hne)⟩
theorem grown_below {row : Option Nat} (h : a.grownBy b row) (hb : Below b.heap.size b c) : a.grownBy c row :=
  ⟨hb.os.trans h.os, hb.tape.trans h.tape, hb.output.trans h.output, Nat.le_trans h.size hb.size, fun k hk hne => (hb.block k (Nat.lt_of_lt_of_le hk h.size)).trans (h.block k hk hne)⟩
/-- What only turns one block of the call's own turns nothing below. -/
theorem below_grown {B g : Nat} (h : Below B a b) (hg : b.grownBy c (some g)) (hB : B ≤ g) (hs : B ≤ b.heap.size) : Below B a c :=
  h.grown hg hs (fun k hk => by injection hk with hk; omega)
end

/-- The value of bytes, the highest first. -/
def beVal (l : List UInt8) : Nat := l.foldl (fun v b => v * 256 + b.toNat) 0
theorem beVal_nil : beVal [] = 0 := rfl
theorem beVal_snoc (l : List UInt8) (b : UInt8) : beVal (l ++ [b]) = beVal l * 256 + b.toNat := by simp [beVal, List.foldl_append]
theorem beVal_lt_from : ∀ (l : List UInt8) (v : Nat), l.foldl (fun v b => v * 256 + b.toNat) v < (v + 1) * 256 ^ l.length
  | [], v => by simp
  | b :: l, v => by
    have h := beVal_lt_from l (v * 256 + b.toNat)
    have hb := b.toNat_lt
    have h2 : (v * 256 + b.toNat + 1) * 256 ^ l.length ≤ ((v + 1) * 256) * 256 ^ l.length := Nat.mul_le_mul_right _ (by omega)
    rw [List.foldl_cons, List.length_cons, Nat.pow_succ, Nat.mul_comm (256 ^ l.length) 256, ← Nat.mul_assoc]
    omega
theorem beVal_lt (l : List UInt8) : beVal l < 256 ^ l.length := by
  have h := beVal_lt_from l 0
  simpa [beVal] using h

/-- What reading a number of bytes comes to: its error (0: none). -/
def numErr : List UInt8 → Int
  | [] => 10
  | h :: t => if 8 < h.toNat then 11 else if t.length < h.toNat then 10 else if 0 < h.toNat ∧ t.head? = some 0 then 11 else 0
/-- The number, where there is no error; what is left. -/
def numVal (l : List UInt8) : Nat := if numErr l = 0 then beVal ((l.drop 1).take (l.headD 0).toNat) else 0
def numRest (l : List UInt8) : List UInt8 := if numErr l = 0 then l.drop (1 + (l.headD 0).toNat) else []

end Go.Proofs.YtnhondkdkjehaaaGreat
namespace Go.Proofs.YtnhondkdkjehaaaGreat

/-- A number as k bytes, the highest first. -/
def beN : Nat → Nat → List UInt8
  | 0, _ => []
  | k + 1, n => beN k (n / 256) ++ [UInt8.ofNat (n % 256)]
theorem beN_length : ∀ k n, (beN k n).length = k
  | 0, _ => rfl
  | k + 1, n => by rw [beN, List.length_append, beN_length k]; rfl
theorem beVal_beN : ∀ k n, n < 256 ^ k → beVal (beN k n) = n
  | 0, n, h => by
    simp at h
    subst h
    rfl
  | k + 1, n, h => by
    have h2 : n / 256 < 256 ^ k := by
      rw [Nat.div_lt_iff_lt_mul (by omega)]
      rwa [Nat.pow_succ] at h
    rw [beN, beVal_snoc, beVal_beN k _ h2, UInt8.toNat_ofNat']
    omega
theorem byte_of_mod (v : Nat) (b : UInt8) : UInt8.ofNat ((v * 256 + b.toNat) % 256) = b := by
  apply UInt8.toNat_inj.1
  have := b.toNat_lt
  rw [UInt8.toNat_ofNat']
  omega
theorem beN_beVal_rev : ∀ r : List UInt8, beN r.length (beVal r.reverse) = r.reverse
  | [] => rfl
  | b :: r => by
    have := b.toNat_lt
    rw [List.length_cons, List.reverse_cons, beVal_snoc, beN, byte_of_mod, show (beVal r.reverse * 256 + b.toNat) / 256 = beVal r.reverse by omega, beN_beVal_rev r]
theorem beN_beVal (l : List UInt8) : beN l.length (beVal l) = l := by
  have := beN_beVal_rev l.reverse
  rwa [List.length_reverse, List.reverse_reverse] at this
theorem beVal_inj {l m : List UInt8} (hl : l.length = m.length) (h : beVal l = beVal m) : l = m := by
  rw [← beN_beVal l, ← beN_beVal m, hl, h]

/-- A mark. -/
structure Mk where
  kind : UInt8
  epoch : Nat
  seq : Nat
  he : epoch < 18446744073709551616
  hs : seq < 18446744073709551616
theorem Mk.ext' {m o : Mk} (h1 : m.kind = o.kind) (h2 : m.epoch = o.epoch) (h3 : m.seq = o.seq) : m = o := by
  obtain ⟨a, b, c, _, _⟩ := m
  obtain ⟨a', b', c', _, _⟩ := o
  subst h1 h2 h3
  rfl
instance : DecidableEq Mk := fun m o =>
  if h : m.kind = o.kind ∧ m.epoch = o.epoch ∧ m.seq = o.seq then isTrue (Mk.ext' h.1 h.2.1 h.2.2) else isFalse (fun e => h (by subst e; exact ⟨rfl, rfl, rfl⟩))
/-- The mark of nobody. -/
def Mk.zero : Mk := ⟨0, 0, 0, by omega, by omega⟩
/-- Its cells. -/
def mv (m : Mk) : Array Value := #[.int .u8 (m.kind.toNat : Int), .int .u64 (m.epoch : Int), .int .u64 (m.seq : Int)]
/-- Whether a sealed block may have it. -/
def Mk.may (m : Mk) : Bool := m.kind != 0 && m.kind != 3
/-- Its bytes. -/
def Mk.bytes (m : Mk) : List UInt8 := m.kind :: (beN 8 m.epoch ++ beN 8 m.seq)
theorem Mk.bytes_length (m : Mk) : m.bytes.length = 17 := by simp [Mk.bytes, beN_length]
theorem beVal_lt8 (l : List UInt8) (h : l.length ≤ 8) : beVal l < 18446744073709551616 := by
  have h1 := beVal_lt l
  have h2 : 256 ^ l.length ≤ 256 ^ 8 := Nat.pow_le_pow_right (by omega) h
  have h3 : (256 : Nat) ^ 8 = 18446744073709551616 := by decide
  omega
/-- The mark that bytes begin with. -/
def markAt (l : List UInt8) : Mk := ⟨l.headD 0, beVal ((l.drop 1).take 8), beVal ((l.drop 9).take 8), beVal_lt8 _ (by rw [List.length_take]; omega), beVal_lt8 _ (by rw [List.length_take]; omega)⟩
theorem pow8 : (256 : Nat) ^ 8 = 18446744073709551616 := by decide
theorem markAt_bytes (m : Mk) (r : List UInt8) : markAt (m.bytes ++ r) = m := by
  have h1 := beN_length 8 m.epoch
  have h2 := beN_length 8 m.seq
  refine Mk.ext' rfl ?_ ?_
  · show beVal ((beN 8 m.epoch ++ beN 8 m.seq ++ r).take 8) = _
    rw [List.append_assoc, List.take_append_of_le_length (by omega), List.take_of_length_le (by omega), beVal_beN _ _ (by rw [pow8]; exact m.he)]
  · show beVal (((beN 8 m.epoch ++ beN 8 m.seq ++ r).drop 8).take 8) = _
    rw [List.append_assoc, List.drop_append, List.drop_eq_nil_of_le (by omega), h1, List.nil_append, List.drop_zero, List.take_append_of_le_length (by omega), List.take_of_length_le (by omega), beVal_beN _ _ (by rw [pow8]; exact m.hs)]
theorem bytes_markAt (l : List UInt8) (h : 17 ≤ l.length) : (markAt l).bytes = l.take 17 := by
  match l, h with
  | k :: r, h =>
    simp only [List.length_cons] at h
    have e1 := beN_beVal (r.take 8)
    have e2 := beN_beVal ((r.drop 8).take 8)
    rw [List.length_take, Nat.min_eq_left (by omega)] at e1
    rw [List.length_take, List.length_drop, Nat.min_eq_left (by omega)] at e2
    show k :: (beN 8 (beVal (r.take 8)) ++ beN 8 (beVal ((r.drop 8).take 8))) = k :: r.take 16
    rw [e1, e2, ← List.take_add]
/-- A list with others laid in from a place on. -/
def laid (l : List UInt8) (o : Nat) (xs : List UInt8) : List UInt8 := l.take o ++ xs ++ l.drop (o + xs.length)
theorem laid_length {l : List UInt8} {o : Nat} {xs : List UInt8} (h : o + xs.length ≤ l.length) : (laid l o xs).length = l.length := by
  simp only [laid, List.length_append, List.length_take, List.length_drop]
  omega
/-- The sealed block. -/
def sealed (m : Mk) (b : List UInt8) : List UInt8 := m.bytes ++ (beN 2 b.length ++ (b ++ (List.replicate (220 - b.length) 0 ++ m.bytes)))
theorem sealed_length (m : Mk) (b : List UInt8) (h : b.length ≤ 220) : (sealed m b).length = 256 := by
  simp only [sealed, List.length_append, Mk.bytes_length, beN_length, List.length_replicate]
  omega
/-- What seals in steps. -/
theorem sealed_steps (m : Mk) (b : List UInt8) (h : b.length ≤ 220) : laid (laid (laid (laid (List.replicate 256 0) 0 m.bytes) 17 (beN 2 b.length)) 19 b) 239 m.bytes = sealed m b := by
  have hm := m.bytes_length
  have h2 := beN_length 2 b.length
  have e1 : laid (List.replicate 256 0) 0 m.bytes = m.bytes ++ List.replicate 239 0 := by rw [laid, List.take_zero, List.nil_append, hm, List.drop_replicate]
  have e2 : laid (m.bytes ++ List.replicate 239 0) 17 (beN 2 b.length) = m.bytes ++ (beN 2 b.length ++ List.replicate 237 0) := by
    rw [laid, h2, List.take_append_of_le_length (by omega), List.take_of_length_le (by omega), List.drop_append, List.drop_eq_nil_of_le (by omega), hm, List.nil_append, List.drop_replicate, List.append_assoc]
  have e3 : laid (m.bytes ++ (beN 2 b.length ++ List.replicate 237 0)) 19 b = m.bytes ++ (beN 2 b.length ++ (b ++ List.replicate (237 - b.length) 0)) := by
    rw [← List.append_assoc, laid, List.take_append_of_le_length (by simp; omega), List.take_of_length_le (by simp; omega), List.drop_append, List.drop_eq_nil_of_le (by simp; omega), List.nil_append, List.drop_replicate]
    simp only [List.length_append, hm, h2, List.append_assoc]
    rw [show 237 - (19 + b.length - (17 + 2)) = 237 - b.length by omega]
  have e4 : List.replicate (237 - b.length) (0 : UInt8) = List.replicate (220 - b.length) 0 ++ List.replicate 17 0 := by rw [List.replicate_append_replicate]; congr 1; omega
  rw [e1, e2, e3, e4]
  have e5 : (m.bytes ++ (beN 2 b.length ++ (b ++ (List.replicate (220 - b.length) 0 ++ List.replicate 17 0)))) = (m.bytes ++ (beN 2 b.length ++ (b ++ List.replicate (220 - b.length) 0))) ++ List.replicate 17 (0 : UInt8) := by simp only [List.append_assoc]
  have hl : (m.bytes ++ (beN 2 b.length ++ (b ++ List.replicate (220 - b.length) (0 : UInt8)))).length = 239 := by simp only [List.length_append, hm, h2, List.length_replicate]; omega
  rw [e5, laid, List.take_append_of_le_length (by omega), List.take_of_length_le (by omega), List.drop_append, List.drop_eq_nil_of_le (by omega), List.nil_append, List.drop_replicate, hl, hm, show 17 - (239 + 17 - 239) = 0 by omega, List.replicate_zero, List.append_nil]
  simp only [sealed, List.append_assoc]
end Go.Proofs.YtnhondkdkjehaaaGreat
namespace Go.Proofs.YtnhondkdkjehaaaGreat

theorem beN_two (n : Nat) (h : n < 65536) : beVal (beN 2 n) = n := beVal_beN 2 n (by simpa using h)
/-- How many bytes a block says that it has. -/
def longOf (l : List UInt8) : Nat := beVal ((l.drop 17).take 2)
/-- Whether both its marks are the same, of a kind that may be. -/
def twin (l : List UInt8) : Bool := decide (markAt l = markAt (l.drop 239)) && (markAt l).may
/-- Whether the rest behind its bytes is empty. -/
def rest0 (l : List UInt8) : Bool := ((l.drop (19 + longOf l)).take (220 - longOf l)).all (· == 0)
/-- What opening comes to. -/
def opens (l : List UInt8) : Option (Mk × List UInt8) :=
  if twin l = true ∧ longOf l ≤ 220 ∧ rest0 l = true then some (markAt l, (l.drop 19).take (longOf l)) else none
theorem sealed_parts (m : Mk) (b : List UInt8) (hb : b.length ≤ 220) :
    markAt (sealed m b) = m ∧ markAt ((sealed m b).drop 239) = m ∧ longOf (sealed m b) = b.length ∧ ((sealed m b).drop 19).take b.length = b ∧ ((sealed m b).drop (19 + b.length)).take (220 - b.length) = List.replicate (220 - b.length) 0 := by
  have hm := m.bytes_length
  have h2 := beN_length 2 b.length
  have d17 : (sealed m b).drop 17 = beN 2 b.length ++ (b ++ (List.replicate (220 - b.length) 0 ++ m.bytes)) := by
    rw [sealed, List.drop_append, List.drop_eq_nil_of_le (by omega), hm, List.nil_append, Nat.sub_self, List.drop_zero]
  have d19 : (sealed m b).drop 19 = b ++ (List.replicate (220 - b.length) 0 ++ m.bytes) := by
    rw [show 19 = 17 + 2 by omega, ← List.drop_drop, d17, List.drop_append, List.drop_eq_nil_of_le (by omega), h2, List.nil_append, Nat.sub_self, List.drop_zero]
  have db : (sealed m b).drop (19 + b.length) = List.replicate (220 - b.length) 0 ++ m.bytes := by
    rw [← List.drop_drop, d19, List.drop_append, List.drop_eq_nil_of_le (by omega), List.nil_append, Nat.sub_self, List.drop_zero]
  have d239 : (sealed m b).drop 239 = m.bytes := by
    rw [show 239 = 19 + b.length + (220 - b.length) by omega, ← List.drop_drop, db, List.drop_append, List.drop_eq_nil_of_le (by simp), List.length_replicate, List.nil_append, Nat.sub_self, List.drop_zero]
  refine ⟨markAt_bytes m _, ?_, ?_, ?_, ?_⟩
  · rw [d239]
    have := markAt_bytes m []
    rwa [List.append_nil] at this
  · rw [longOf, d17, List.take_append_of_le_length (by omega), List.take_of_length_le (by omega), beN_two _ (by omega)]
  · rw [d19, List.take_append_of_le_length (by omega), List.take_of_length_le (by omega)]
  · rw [db, List.take_append_of_le_length (by simp), List.take_of_length_le (by simp)]
theorem opens_sealed (m : Mk) (b : List UInt8) (hb : b.length ≤ 220) (hm : m.may = true) : opens (sealed m b) = some (m, b) := by
  obtain ⟨h1, h2, h3, h4, h5⟩ := sealed_parts m b hb
  have ht : twin (sealed m b) = true := by rw [twin, h1, h2, hm]; simp
  have hr : rest0 (sealed m b) = true := by rw [rest0, h3, h5]; simp
  rw [opens, if_pos ⟨ht, by rw [h3]; exact hb, hr⟩, h1, h3, h4]
theorem all_zero {l : List UInt8} (h : l.all (· == 0) = true) : l = List.replicate l.length 0 := by
  apply List.eq_replicate_iff.2
  refine ⟨rfl, fun b hb => ?_⟩
  have := List.all_eq_true.1 h b hb
  simpa using this
theorem opens_some {l : List UInt8} (hl : l.length = 256) {m : Mk} {b : List UInt8} (h : opens l = some (m, b)) : m.may = true ∧ b.length ≤ 220 ∧ l = sealed m b := by
  rw [opens] at h
  split at h
  · rename_i hc
    obtain ⟨ht, hk, hr⟩ := hc
    injection h with h
    injection h with h1 h2
    rw [twin, Bool.and_eq_true, decide_eq_true_iff] at ht
    have hbl : b.length = longOf l := by rw [← h2, List.length_take, List.length_drop]; omega
    refine ⟨by rw [← h1]; exact ht.2, by omega, ?_⟩
    have e1 : m.bytes = l.take 17 := by rw [← h1]; exact bytes_markAt l (by omega)
    have e2 : m.bytes = l.drop 239 := by
      rw [← h1, ht.1, bytes_markAt _ (by rw [List.length_drop]; omega), List.take_of_length_le (by rw [List.length_drop]; omega)]
    have e3 : beN 2 b.length = (l.drop 17).take 2 := by
      have := beN_beVal ((l.drop 17).take 2)
      rw [List.length_take, List.length_drop, Nat.min_eq_left (by omega)] at this
      rw [hbl]
      exact this
    have e4 : List.replicate (220 - b.length) 0 = (l.drop (19 + b.length)).take (220 - b.length) := by
      have := all_zero hr
      rw [List.length_take, List.length_drop, Nat.min_eq_left (by omega)] at this
      rw [hbl]
      exact this.symm
    have e5 : b = (l.drop 19).take b.length := by rw [hbl]; exact h2.symm
    have p1 : l.take 17 ++ l.drop 17 = l := List.take_append_drop 17 l
    have p2 : (l.drop 17).take 2 ++ l.drop 19 = l.drop 17 := by
      have := List.take_append_drop 2 (l.drop 17)
      rwa [List.drop_drop] at this
    have p3 : (l.drop 19).take b.length ++ l.drop (19 + b.length) = l.drop 19 := by
      have := List.take_append_drop b.length (l.drop 19)
      rwa [List.drop_drop] at this
    have p4 : (l.drop (19 + b.length)).take (220 - b.length) ++ l.drop 239 = l.drop (19 + b.length) := by
      have := List.take_append_drop (220 - b.length) (l.drop (19 + b.length))
      rwa [List.drop_drop, show 19 + b.length + (220 - b.length) = 239 by omega] at this
    rw [sealed]
    conv => lhs; rw [← p1, ← p2, ← p3, ← p4]
    rw [← e1, ← e2, ← e3, ← e4, ← e5]
  · cases h
/-- The first bytes of the one ahead of those of the other. -/
def torn (x y : List UInt8) (k : Nat) : List UInt8 := x.take k ++ y.drop k
theorem torn_length {x y : List UInt8} (hx : x.length = 256) (hy : y.length = 256) (k : Nat) (hk : k ≤ 256) : (torn x y k).length = 256 := by
  rw [torn, List.length_append, List.length_take, List.length_drop]
  omega
theorem markAt_take {x y : List UInt8} (h : x.take 17 = y.take 17) (hx : 17 ≤ x.length) (hy : 17 ≤ y.length) : markAt x = markAt y := by
  have h1 := bytes_markAt x hx
  have h2 := bytes_markAt y hy
  have e : (markAt x).bytes = (markAt y).bytes := by rw [h1, h2, h]
  have a1 := markAt_bytes (markAt x) []
  have a2 := markAt_bytes (markAt y) []
  rw [e] at a1
  exact a1.symm.trans a2
theorem bytes_inj {m o : Mk} (h : m.bytes = o.bytes) : m = o := by
  have a1 := markAt_bytes m []
  have a2 := markAt_bytes o []
  rw [h] at a1
  exact a1.symm.trans a2
/-- The last bytes of a block: its second mark. -/
theorem sealed_tail (m : Mk) (b : List UInt8) (hb : b.length ≤ 220) : (sealed m b).drop 239 = m.bytes ∧ (sealed m b).take 17 = m.bytes := by
  have hm := m.bytes_length
  refine ⟨?_, ?_⟩
  · rw [sealed, ← List.append_assoc, ← List.append_assoc, ← List.append_assoc, List.drop_append, List.drop_eq_nil_of_le (by simp [hm, beN_length]; omega)]
    simp only [List.length_append, hm, beN_length, List.length_replicate, List.nil_append]
    rw [show 239 - (17 + 2 + b.length + (220 - b.length)) = 0 by omega, List.drop_zero]
  · rw [sealed, List.take_append_of_le_length (by omega), List.take_of_length_le (by omega)]
/-- A torn block of two that are unlike in their marks, or of one and a block of bytes 0, is sealed just if it is one of the two. -/
theorem torn_opens {m : Mk} {b y : List UInt8} (hb : b.length ≤ 220) (hyl : y.length = 256) (hy : y = List.replicate 256 0 ∨ ∃ o c, c.length ≤ 220 ∧ o ≠ m ∧ y = sealed o c) (k : Nat) (hk : k ≤ 255)
    {z : Mk} {s : List UInt8} (h : opens (torn (sealed m b) y k) = some (z, s)) : torn (sealed m b) y k = sealed m b ∨ torn (sealed m b) y k = y := by
  obtain ⟨x, hx⟩ : ∃ x, sealed m b = x := ⟨_, rfl⟩
  have hxl : x.length = 256 := by rw [← hx]; exact sealed_length m b hb
  have hxt : x.take 17 = m.bytes := by rw [← hx]; exact (sealed_tail m b hb).2
  have hxd : x.drop 239 = m.bytes := by rw [← hx]; exact (sealed_tail m b hb).1
  rw [hx] at h ⊢
  obtain ⟨hz, hs, he⟩ := opens_some (torn_length hxl hyl k (by omega)) h
  have ht1 : (torn x y k).take 17 = z.bytes := by rw [he]; exact (sealed_tail z s hs).2
  have ht2 : (torn x y k).drop 239 = z.bytes := by rw [he]; exact (sealed_tail z s hs).1
  -- the second mark of what is torn
  by_cases h239 : k ≤ 239
  · -- it is y's own
    have hyd : y.drop 239 = z.bytes := by
      have e0 : (x.take k).drop 239 = [] := List.drop_eq_nil_of_le (by rw [List.length_take]; omega)
      rw [← ht2, torn, List.drop_append, e0, List.nil_append, List.length_take, List.drop_drop, Nat.min_eq_left (by omega), show k + (239 - k) = 239 by omega]
    rcases hy with hy | ⟨o, c, hc, hom, hy⟩
    · exfalso
      have hk0 : z.kind = 0 := by
        have h0 : z.bytes.head? = some z.kind := rfl
        rw [← hyd, hy, List.drop_replicate] at h0
        simpa using h0.symm
      rw [Mk.may, hk0] at hz
      simp at hz
    · have hoz : o = z := by
        rw [hy, (sealed_tail o c hc).1] at hyd
        exact bytes_inj hyd
      subst hoz
      by_cases h17 : k < 17
      · right
        have hyt : y.take 17 = o.bytes := by rw [hy]; exact (sealed_tail o c hc).2
        have e : x.take k = y.take k := by
          have e1 : (torn x y k).take k = x.take k := by
            rw [torn, List.take_append_of_le_length (by rw [List.length_take]; omega), List.take_of_length_le (by rw [List.length_take]; omega)]
          have e2 : (torn x y k).take k = o.bytes.take k := by rw [← ht1, List.take_take, Nat.min_eq_left (by omega)]
          have e3 : y.take k = o.bytes.take k := by rw [← hyt, List.take_take, Nat.min_eq_left (by omega)]
          rw [← e1, e2, e3]
        rw [torn, e, List.take_append_drop]
      · exfalso
        apply hom
        apply bytes_inj
        rw [← ht1, ← hxt, torn, List.take_append_of_le_length (by rw [List.length_take]; omega), List.take_take, Nat.min_eq_left (by omega)]
  · -- its first mark is x's own
    left
    have hmz : m = z := by
      apply bytes_inj
      rw [← ht1, ← hxt, torn, List.take_append_of_le_length (by rw [List.length_take]; omega), List.take_take, Nat.min_eq_left (by omega)]
    subst hmz
    have e1 : torn x y k = (torn x y k).take 239 ++ (torn x y k).drop 239 := (List.take_append_drop 239 _).symm
    have e2 : (torn x y k).take 239 = x.take 239 := by
      rw [torn, List.take_append_of_le_length (by rw [List.length_take]; omega), List.take_take, Nat.min_eq_left (by omega)]
    rw [e1, e2, ht2, ← hxd, List.take_append_drop]
end Go.Proofs.YtnhondkdkjehaaaGreat
