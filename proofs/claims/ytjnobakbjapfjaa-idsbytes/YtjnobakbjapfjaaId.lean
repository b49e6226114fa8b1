/-
  Ids: 32 bytes; how they stand in an order; lists of them, as cells.
-/
import Derived.Test.YtjnobakbjapfjaaMem
import Derived.Sort.Row
import Derived.Sort.Grow
import Derived.Sort.Statements
import Derived.Lib.Bytealg
namespace Go.Proofs.Ytjnobakbjapfjaa
open Go.RowKit Go.Sort

/-- An id: 32 bytes. -/
abbrev Id := { l : List UInt8 // l.length = 32 }
instance : Inhabited Id := ⟨⟨List.replicate 32 0, by simp⟩⟩
/-- Its cells. -/
def enc (x : Id) : List Value := bc x.1
theorem enc_length (x : Id) : (enc x).length = 32 := by rw [enc, bc_length]; exact x.2
theorem enc_one (x : Id) : ∀ v ∈ enc x, v.oneCell' = true := bc_one x.1
theorem enc_size (x : Id) : (enc x).toArray.size = 32 := by simp [enc_length]
theorem enc_all (x : Id) : (enc x).toArray.all (·.oneCell') = true := all_oneCell_toArray (enc_one x)

/-- How two ids stand: below 0, 0, or above. -/
def cmpId (x y : Id) : Int := Lib.compareBytes x.1 y.1
/-- The first one is ahead. -/
def ltId (x y : Id) : Bool := decide (cmpId x y < 0)

theorem compareBytes_self : ∀ l : List UInt8, Lib.compareBytes l l = 0
  | [] => rfl
  | a :: l => by simp [Lib.compareBytes, compareBytes_self l]
/-- Lists of bytes in their order. -/
def ltB : List UInt8 → List UInt8 → Prop
  | [], [] => False
  | [], _ :: _ => True
  | _ :: _, [] => False
  | a :: l, b :: m => a < b ∨ a = b ∧ ltB l m
theorem compareBytes_lt : ∀ l m : List UInt8, Lib.compareBytes l m < 0 ↔ ltB l m
  | [], [] => by simp [Lib.compareBytes, ltB]
  | [], _ :: _ => by simp [Lib.compareBytes, ltB]
  | _ :: _, [] => by simp [Lib.compareBytes, ltB]
  | a :: l, b :: m => by
    have ih := compareBytes_lt l m
    rw [Lib.compareBytes, ltB]
    by_cases h1 : a < b
    · simp [h1]
    · by_cases h2 : b < a
      · have : ¬ a = b := fun e => by subst e; exact h1 h2
        simp [h1, h2, this]
      · have : a = b := UInt8.le_antisymm (UInt8.not_lt.1 h2) (UInt8.not_lt.1 h1)
        simp [this, ih]
theorem ltB_irrefl : ∀ l : List UInt8, ¬ ltB l l
  | [] => id
  | a :: l => by
    rw [ltB]
    rintro (h | ⟨_, h⟩)
    · exact UInt8.lt_irrefl a h
    · exact ltB_irrefl l h
theorem ltB_trans : ∀ {l m n : List UInt8}, ltB l m → ltB m n → ltB l n
  | [], [], _, h, _ => h.elim
  | [], _ :: _, [], _, h => h.elim
  | [], _ :: _, _ :: _, _, _ => trivial
  | _ :: _, [], _, h, _ => h.elim
  | _ :: _, _ :: _, [], _, h => h.elim
  | a :: l, b :: m, c :: n, h1, h2 => by
    rw [ltB] at h1 h2 ⊢
    rcases h1 with h1 | ⟨rfl, h1⟩
    · rcases h2 with h2 | ⟨rfl, _⟩
      · exact .inl (UInt8.lt_trans h1 h2)
      · exact .inl h1
    · rcases h2 with h2 | ⟨rfl, h2⟩
      · exact .inl h2
      · exact .inr ⟨rfl, ltB_trans h1 h2⟩
theorem ltB_total : ∀ {l m : List UInt8}, ¬ ltB l m → ¬ ltB m l → l = m
  | [], [], _, _ => rfl
  | [], _ :: _, h, _ => absurd trivial h
  | _ :: _, [], _, h => absurd trivial h
  | a :: l, b :: m, h1, h2 => by
    rw [ltB] at h1 h2
    have h3 : ¬ a < b := fun h => h1 (.inl h)
    have h4 : ¬ b < a := fun h => h2 (.inl h)
    have h5 : a = b := UInt8.le_antisymm (UInt8.not_lt.1 h4) (UInt8.not_lt.1 h3)
    subst h5
    rw [ltB_total (fun h => h1 (.inr ⟨rfl, h⟩)) (fun h => h2 (.inr ⟨rfl, h⟩))]
theorem ltId_iff (x y : Id) : ltId x y = true ↔ ltB x.1 y.1 := by rw [ltId, decide_eq_true_iff, cmpId, compareBytes_lt]
theorem ltId_false (x y : Id) : ltId x y = false ↔ ¬ ltB x.1 y.1 := by rw [← ltId_iff]; simp
theorem ltId_irrefl (x : Id) : ltId x x = false := (ltId_false _ _).2 (ltB_irrefl _)
theorem ltId_trans {x y z : Id} (h1 : ltId x y = true) (h2 : ltId y z = true) : ltId x z = true := (ltId_iff _ _).2 (ltB_trans ((ltId_iff _ _).1 h1) ((ltId_iff _ _).1 h2))
theorem ltId_total {x y : Id} (h1 : ltId x y = false) (h2 : ltId y x = false) : x = y := Subtype.ext (ltB_total ((ltId_false _ _).1 h1) ((ltId_false _ _).1 h2))
theorem ltId_swo : SWO ltId where
  irrefl := ltId_irrefl
  trans _ _ _ h1 h2 := ltId_trans h1 h2
  ntrans x y z h1 h2 := by
    cases h : ltId x z with
    | false => rfl
    | true =>
      exfalso
      cases h3 : ltId z y with
      | true =>
        have := ltId_trans h h3
        rw [this] at h1
        cases h1
      | false =>
        have := ltId_total h2 h3
        subst this
        rw [h] at h1
        cases h1

/-- The bytes of ids, one behind the other. -/
def fb (xs : List Id) : List UInt8 := xs.flatMap (·.1)
theorem fb_nil : fb [] = [] := rfl
theorem fb_cons (x : Id) (xs : List Id) : fb (x :: xs) = x.1 ++ fb xs := by simp [fb]
theorem fb_append (xs ys : List Id) : fb (xs ++ ys) = fb xs ++ fb ys := by simp [fb]
theorem fb_length : ∀ xs : List Id, (fb xs).length = xs.length * 32
  | [] => rfl
  | x :: xs => by rw [fb_cons, List.length_append, fb_length xs, x.2, List.length_cons]; omega
/-- The cells of ids. -/
def ec (xs : List Id) : List Value := bc (fb xs)
theorem ec_length (xs : List Id) : (ec xs).length = xs.length * 32 := by rw [ec, bc_length, fb_length]
theorem ec_cons (x : Id) (xs : List Id) : ec (x :: xs) = enc x ++ ec xs := by rw [ec, fb_cons, bc_append]; rfl
theorem ec_append (xs ys : List Id) : ec (xs ++ ys) = ec xs ++ ec ys := by rw [ec, fb_append, bc_append]; rfl
theorem ec_one (x : Id) : ec [x] = enc x := by rw [ec_cons]; simp [ec, fb, bc]
theorem ec_cells (xs : List Id) : ∀ v ∈ ec xs, v.oneCell' = true := bc_one _
theorem ec_drop : ∀ (xs : List Id) (k : Nat), (ec xs).drop (k * 32) = ec (xs.drop k)
  | [], k => by simp [ec, fb, bc]
  | x :: xs, 0 => by simp
  | x :: xs, k + 1 => by
    rw [ec_cons, show (k + 1) * 32 = (enc x).length + k * 32 by rw [enc_length]; omega, List.drop_append, List.drop_eq_nil_of_le (by omega), List.nil_append, Nat.add_sub_cancel_left, ec_drop xs k]
    rfl
theorem ec_take : ∀ (xs : List Id) (k : Nat), (ec xs).take (k * 32) = ec (xs.take k)
  | [], k => by simp [ec, fb, bc]
  | x :: xs, 0 => by simp [ec, fb, bc]
  | x :: xs, k + 1 => by
    rw [ec_cons, show (k + 1) * 32 = (enc x).length + k * 32 by rw [enc_length]; omega, List.take_append, List.take_of_length_le (by omega), Nat.add_sub_cancel_left, ec_take xs k, List.take_succ_cons, ec_cons]
/-- Id j's cells among all. -/
theorem ec_at (xs : List Id) (j : Nat) (x : Id) (h : xs[j]? = some x) (i : Nat) (v : Value) (hv : (enc x)[i]? = some v) : (ec xs)[j * 32 + i]? = some v := by
  rw [← List.getElem?_drop, ec_drop]
  have hj : j < xs.length := (List.getElem?_eq_some_iff.1 h).1
  rw [List.getElem?_eq_getElem hj] at h
  injection h with h
  rw [List.drop_eq_getElem_cons hj, ec_cons, h, List.getElem?_append_left (List.getElem?_eq_some_iff.1 hv).1]
  exact hv
theorem ec_set (xs : List Id) (j : Nat) (x : Id) (h : j < xs.length) : (ec xs).take (j * 32) ++ enc x ++ (ec xs).drop (j * 32 + 32) = ec (xs.set j x) := by
  rw [ec_take, show j * 32 + 32 = (j + 1) * 32 by omega, ec_drop, List.set_eq_take_append_cons_drop, if_pos h, ec_append, ec_cons, List.append_assoc]

/-- A slice that reads as ids. -/
def Ids (w : World) (A : Option Addr) (n c : Nat) (xs : List Id) : Prop :=
  xs.length = n ∧ n ≤ c ∧ (0 < n → ∃ b off, A = some ⟨b, off, none⟩ ∧ b < w.heap.size ∧ w.rangeAt b off (ec xs))
section
variable {w w' : World} {A : Option Addr} {n c : Nat} {xs : List Id}
theorem Ids.len (h : Ids w A n c xs) : xs.length = n := h.1
theorem Ids.le (h : Ids w A n c xs) : n ≤ c := h.2.1
theorem Ids.below {B : Nat} (h : Ids w A n c xs) (hb : Below B w w') (hB : w.heap.size ≤ B) : Ids w' A n c xs := by
  refine ⟨h.1, h.2.1, fun h0 => ?_⟩
  obtain ⟨b, off, h1, h2, h3⟩ := h.2.2 h0
  exact ⟨b, off, h1, Nat.lt_of_lt_of_le h2 hb.size, fun j v hv => (hb.cell (p := ⟨b, off + j, none⟩) (Nat.lt_of_lt_of_le h2 hB)).trans (h3 j v hv)⟩
theorem Ids.drewN (h : Ids w A n c xs) (k : Nat) : Ids (w.drewN k) A n c xs := h
theorem Ids.nil (w : World) (A : Option Addr) (c : Nat) : Ids w A 0 c [] := ⟨rfl, Nat.zero_le _, fun h => absurd h (Nat.lt_irrefl _)⟩
theorem Ids.first (h : Ids w A n c xs) {m : Nat} (hm : m ≤ n) : Ids w A m c (xs.take m) := by
  refine ⟨by rw [List.length_take, h.1, Nat.min_eq_left hm], Nat.le_trans hm h.2.1, fun h0 => ?_⟩
  obtain ⟨b, off, h1, h2, h3⟩ := h.2.2 (by omega)
  refine ⟨b, off, h1, h2, fun j v hv => h3 j v ?_⟩
  rw [← ec_take, List.getElem?_take] at hv
  split at hv
  · exact hv
  · cases hv
/-- Where a cut from m on begins. -/
def cutI (A : Option Addr) (c m : Nat) : Option Addr := if c = m then A else A.map (·.add (m * 32))
theorem Ids.from (h : Ids w A n c xs) (m : Nat) (hm : m ≤ n) : Ids w (cutI A c m) (n - m) (c - m) (xs.drop m) := by
  refine ⟨by rw [List.length_drop, h.1], by have := h.2.1; omega, fun h0 => ?_⟩
  obtain ⟨b, off, h1, h2, h3⟩ := h.2.2 (by omega)
  have hc : ¬ c = m := by have := h.2.1; omega
  refine ⟨b, off + m * 32, ?_, h2, fun j v hv => ?_⟩
  · rw [cutI, if_neg hc, h1]
    simp [Addr.add_mid]
  · rw [Nat.add_assoc]
    exact h3 _ v (by rw [← ec_drop, List.getElem?_drop] at hv; exact hv)
/-- Id j's own cells. -/
theorem Ids.at (h : Ids w A n c xs) {j : Nat} {x : Id} (hx : xs[j]? = some x) : ∃ b off, A = some ⟨b, off, none⟩ ∧ b < w.heap.size ∧ w.rangeAt b (off + j * 32) (enc x) := by
  have hj : j < xs.length := (List.getElem?_eq_some_iff.1 hx).1
  obtain ⟨b, off, h1, h2, h3⟩ := h.2.2 (by rw [← h.1]; omega)
  exact ⟨b, off, h1, h2, fun i v hv => by rw [Nat.add_assoc]; exact h3 _ v (ec_at xs j x hx i v hv)⟩
end
section
variable {P : Program}
theorem sizeOf_32 {e : TypeId} (hi : (P.info? e).map (·.size) = some 32) (w : World) : (sizeOf e).run P w = .ok 32 w := by
  cases hq : P.info? e with
  | none => simp [hq] at hi
  | some i =>
    have : i.size = 32 := by simpa [hq] using hi
    simp [sizeOf, typeInfo, hq, this]
/-- 'x[m:]'. -/
theorem sliceI_from {t e : TypeId} (ht : P.underlying t = some (.slice e)) (hi : (P.info? e).map (·.size) = some 32) (k : IntKind) (A : Option Addr) (n c m : Nat) (h : m ≤ n) (w : World) :
    (Instr.sliceAt t (.slice A n c) (some (.int k (m : Int))) none none).run P w = .ok (.slice (cutI A c m) (n - m) (c - m)) w := by
  obtain ⟨h1, h2⟩ := elem_of ht
  rw [run_sliceAt_slice w t _ _ _ _ h1, run_slice_l w t A n c h1 k (m : Int) (by omega) (by omega), h2, sizeOf_32 hi w]
  simp [Result.andThen, sliced, cutI]
/-- 'x[:m]'. -/
theorem sliceI_to {t e : TypeId} (ht : P.underlying t = some (.slice e)) (hi : (P.info? e).map (·.size) = some 32) (k : IntKind) (A : Option Addr) (n c m : Nat) (h : m ≤ c) (w : World) :
    (Instr.sliceAt t (.slice A n c) none (some (.int k (m : Int))) none).run P w = .ok (.slice A m c) w := by
  obtain ⟨h1, h2⟩ := elem_of ht
  rw [run_sliceAt_slice w t _ _ _ _ h1, run_slice_h w t A n c h1 k (m : Int) (by omega) (by omega), h2, sizeOf_32 hi w]
  have : (A.map fun a => a.add 0) = A := by cases A <;> simp [add_zero']
  simp [Result.andThen, sliced, this]
end
end Go.Proofs.Ytjnobakbjapfjaa
