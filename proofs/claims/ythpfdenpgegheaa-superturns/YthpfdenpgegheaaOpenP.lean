/-
  What opening a block comes to, in plain words; torn blocks. No statement about the program stands here.
-/
import Derived.Test.YthpfdenpgegheaaPure
namespace Go.Proofs.Ythpfdenpgegheaa

theorem beN_two (n : Nat) (h : n < 65536) : beVal (beN 2 n) = n := beVal_beN 2 n (by simpa using h)
/-- How many bytes a block says that it has. -/
def longOf (l : List UInt8) : Nat := beVal ((l.drop 17).take 2)
/-- Whether both its marks are the same, of a kind that may be. -/
def twin (l : List UInt8) : Bool := decide (markAt l = markAt (l.drop 239)) && (markAt l).may
/-- Whether the rest behind its bytes is empty. -/
def rest0 (l : List UInt8) : Bool := ((l.drop (19 + longOf l)).take (220 - longOf l)).all (· == 0)
/-- What opening comes to. -/
def opens (l : List UInt8) : Option (Mk × List UInt8) :=
  if twin l = true ∧ longOf l ≤ 220 ∧ rest0 l = true then some (markAt l, (l.drop 19).take (longOf l)) else none
theorem sealed_parts (m : Mk) (b : List UInt8) (hb : b.length ≤ 220) :
    markAt (sealed m b) = m ∧ markAt ((sealed m b).drop 239) = m ∧ longOf (sealed m b) = b.length ∧ ((sealed m b).drop 19).take b.length = b ∧ ((sealed m b).drop (19 + b.length)).take (220 - b.length) = List.replicate (220 - b.length) 0 := by
  have hm := m.bytes_length
  have h2 := beN_length 2 b.length
  have d17 : (sealed m b).drop 17 = beN 2 b.length ++ (b ++ (List.replicate (220 - b.length) 0 ++ m.bytes)) := by
    rw [sealed, List.drop_append, List.drop_eq_nil_of_le (by omega), hm, List.nil_append, Nat.sub_self, List.drop_zero]
  have d19 : (sealed m b).drop 19 = b ++ (List.replicate (220 - b.length) 0 ++ m.bytes) := by
    rw [show 19 = 17 + 2 by omega, ← List.drop_drop, d17, List.drop_append, List.drop_eq_nil_of_le (by omega), h2, List.nil_append, Nat.sub_self, List.drop_zero]
  have db : (sealed m b).drop (19 + b.length) = List.replicate (220 - b.length) 0 ++ m.bytes := by
    rw [← List.drop_drop, d19, List.drop_append, List.drop_eq_nil_of_le (by omega), List.nil_append, Nat.sub_self, List.drop_zero]
  have d239 : (sealed m b).drop 239 = m.bytes := by
    rw [show 239 = 19 + b.length + (220 - b.length) by omega, ← List.drop_drop, db, List.drop_append, List.drop_eq_nil_of_le (by simp), List.length_replicate, List.nil_append, Nat.sub_self, List.drop_zero]
  refine ⟨markAt_bytes m _, ?_, ?_, ?_, ?_⟩
  · rw [d239]
    have := markAt_bytes m []
    rwa [List.append_nil] at this
  · rw [longOf, d17, List.take_append_of_le_length (by omega), List.take_of_length_le (by omega), beN_two _ (by omega)]
  · rw [d19, List.take_append_of_le_length (by omega), List.take_of_length_le (by omega)]
  · rw [db, List.take_append_of_le_length (by simp), List.take_of_length_le (by simp)]
theorem opens_sealed (m : Mk) (b : List UInt8) (hb : b.length ≤ 220) (hm : m.may = true) : opens (sealed m b) = some (m, b) := by
  obtain ⟨h1, h2, h3, h4, h5⟩ := sealed_parts m b hb
  have ht : twin (sealed m b) = true := by rw [twin, h1, h2, hm]; simp
  have hr : rest0 (sealed m b) = true := by rw [rest0, h3, h5]; simp
  rw [opens, if_pos ⟨ht, by rw [h3]; exact hb, hr⟩, h1, h3, h4]
theorem all_zero {l : List UInt8} (h : l.all (· == 0) = true) : l = List.replicate l.length 0 := by
  apply List.eq_replicate_iff.2
  refine ⟨rfl, fun b hb => ?_⟩
  have := List.all_eq_true.1 h b hb
  simpa using this
theorem opens_some {l : List UInt8} (hl : l.length = 256) {m : Mk} {b : List UInt8} (h : opens l = some (m, b)) : m.may = true ∧ b.length ≤ 220 ∧ l = sealed m b := by
  rw [opens] at h
  split at h
  · rename_i hc
    obtain ⟨ht, hk, hr⟩ := hc
    injection h with h
    injection h with h1 h2
    rw [twin, Bool.and_eq_true, decide_eq_true_iff] at ht
    have hbl : b.length = longOf l := by rw [← h2, List.length_take, List.length_drop]; omega
    refine ⟨by rw [← h1]; exact ht.2, by omega, ?_⟩
    have e1 : m.bytes = l.take 17 := by rw [← h1]; exact bytes_markAt l (by omega)
    have e2 : m.bytes = l.drop 239 := by
      rw [← h1, ht.1, bytes_markAt _ (by rw [List.length_drop]; omega), List.take_of_length_le (by rw [List.length_drop]; omega)]
    have e3 : beN 2 b.length = (l.drop 17).take 2 := by
      have := beN_beVal ((l.drop 17).take 2)
      rw [List.length_take, List.length_drop, Nat.min_eq_left (by omega)] at this
      rw [hbl]
      exact this
    have e4 : List.replicate (220 - b.length) 0 = (l.drop (19 + b.length)).take (220 - b.length) := by
      have := all_zero hr
      rw [List.length_take, List.length_drop, Nat.min_eq_left (by omega)] at this
      rw [hbl]
      exact this.symm
    have e5 : b = (l.drop 19).take b.length := by rw [hbl]; exact h2.symm
    have p1 : l.take 17 ++ l.drop 17 = l := List.take_append_drop 17 l
    have p2 : (l.drop 17).take 2 ++ l.drop 19 = l.drop 17 := by
      have := List.take_append_drop 2 (l.drop 17)
      rwa [List.drop_drop] at this
    have p3 : (l.drop 19).take b.length ++ l.drop (19 + b.length) = l.drop 19 := by
      have := List.take_append_drop b.length (l.drop 19)
      rwa [List.drop_drop] at this
    have p4 : (l.drop (19 + b.length)).take (220 - b.length) ++ l.drop 239 = l.drop (19 + b.length) := by
      have := List.take_append_drop (220 - b.length) (l.drop (19 + b.length))
      rwa [List.drop_drop, show 19 + b.length + (220 - b.length) = 239 by omega] at this
    rw [sealed]
    conv => lhs; rw [← p1, ← p2, ← p3, ← p4]
    rw [← e1, ← e2, ← e3, ← e4, ← e5]
  · cases h
/-- The first bytes of the one ahead of those of the other. -/
def torn (x y : List UInt8) (k : Nat) : List UInt8 := x.take k ++ y.drop k
theorem torn_length {x y : List UInt8} (hx : x.length = 256) (hy : y.length = 256) (k : Nat) (hk : k ≤ 256) : (torn x y k).length = 256 := by
  rw [torn, List.length_append, List.length_take, List.length_drop]
  omega
theorem markAt_take {x y : List UInt8} (h : x.take 17 = y.take 17) (hx : 17 ≤ x.length) (hy : 17 ≤ y.length) : markAt x = markAt y := by
  have h1 := bytes_markAt x hx
  have h2 := bytes_markAt y hy
  have e : (markAt x).bytes = (markAt y).bytes := by rw [h1, h2, h]
  have a1 := markAt_bytes (markAt x) []
  have a2 := markAt_bytes (markAt y) []
  rw [e] at a1
  exact a1.symm.trans a2
theorem bytes_inj {m o : Mk} (h : m.bytes = o.bytes) : m = o := by
  have a1 := markAt_bytes m []
  have a2 := markAt_bytes o []
  rw [h] at a1
  exact a1.symm.trans a2
/-- The last bytes of a block: its second mark. -/
theorem sealed_tail (m : Mk) (b : List UInt8) (hb : b.length ≤ 220) : (sealed m b).drop 239 = m.bytes ∧ (sealed m b).take 17 = m.bytes := by
  have hm := m.bytes_length
  refine ⟨?_, ?_⟩
  · rw [sealed, ← List.append_assoc, ← List.append_assoc, ← List.append_assoc, List.drop_append, List.drop_eq_nil_of_le (by simp [hm, beN_length]; omega)]
    simp only [List.length_append, hm, beN_length, List.length_replicate, List.nil_append]
    rw [show 239 - (17 + 2 + b.length + (220 - b.length)) = 0 by omega, List.drop_zero]
  · rw [sealed, List.take_append_of_le_length (by omega), List.take_of_length_le (by omega)]
/-- A torn block of two that are unlike in their marks, or of one and a block of bytes 0, is sealed just if it is one of the two. -/
theorem torn_opens {m : Mk} {b y : List UInt8} (hb : b.length ≤ 220) (hyl : y.length = 256) (hy : y = List.replicate 256 0 ∨ ∃ o c, c.length ≤ 220 ∧ o ≠ m ∧ y = sealed o c) (k : Nat) (hk : k ≤ 255)
    {z : Mk} {s : List UInt8} (h : opens (torn (sealed m b) y k) = some (z, s)) : torn (sealed m b) y k = sealed m b ∨ torn (sealed m b) y k = y := by
  obtain ⟨x, hx⟩ : ∃ x, sealed m b = x := ⟨_, rfl⟩
  have hxl : x.length = 256 := by rw [← hx]; exact sealed_length m b hb
  have hxt : x.take 17 = m.bytes := by rw [← hx]; exact (sealed_tail m b hb).2
  have hxd : x.drop 239 = m.bytes := by rw [← hx]; exact (sealed_tail m b hb).1
  rw [hx] at h ⊢
  obtain ⟨hz, hs, he⟩ := opens_some (torn_length hxl hyl k (by omega)) h
  have ht1 : (torn x y k).take 17 = z.bytes := by rw [he]; exact (sealed_tail z s hs).2
  have ht2 : (torn x y k).drop 239 = z.bytes := by rw [he]; exact (sealed_tail z s hs).1
  -- the second mark of what is torn
  by_cases h239 : k ≤ 239
  · -- it is y's own
    have hyd : y.drop 239 = z.bytes := by
      have e0 : (x.take k).drop 239 = [] := List.drop_eq_nil_of_le (by rw [List.length_take]; omega)
      rw [← ht2, torn, List.drop_append, e0, List.nil_append, List.length_take, List.drop_drop, Nat.min_eq_left (by omega), show k + (239 - k) = 239 by omega]
    rcases hy with hy | ⟨o, c, hc, hom, hy⟩
    · exfalso
      have hk0 : z.kind = 0 := by
        have h0 : z.bytes.head? = some z.kind := rfl
        rw [← hyd, hy, List.drop_replicate] at h0
        simpa using h0.symm
      rw [Mk.may, hk0] at hz
      simp at hz
    · have hoz : o = z := by
        rw [hy, (sealed_tail o c hc).1] at hyd
        exact bytes_inj hyd
      subst hoz
      by_cases h17 : k < 17
      · right
        have hyt : y.take 17 = o.bytes := by rw [hy]; exact (sealed_tail o c hc).2
        have e : x.take k = y.take k := by
          have e1 : (torn x y k).take k = x.take k := by
            rw [torn, List.take_append_of_le_length (by rw [List.length_take]; omega), List.take_of_length_le (by rw [List.length_take]; omega)]
          have e2 : (torn x y k).take k = o.bytes.take k := by rw [← ht1, List.take_take, Nat.min_eq_left (by omega)]
          have e3 : y.take k = o.bytes.take k := by rw [← hyt, List.take_take, Nat.min_eq_left (by omega)]
          rw [← e1, e2, e3]
        rw [torn, e, List.take_append_drop]
      · exfalso
        apply hom
        apply bytes_inj
        rw [← ht1, ← hxt, torn, List.take_append_of_le_length (by rw [List.length_take]; omega), List.take_take, Nat.min_eq_left (by omega)]
  · -- its first mark is x's own
    left
    have hmz : m = z := by
      apply bytes_inj
      rw [← ht1, ← hxt, torn, List.take_append_of_le_length (by rw [List.length_take]; omega), List.take_take, Nat.min_eq_left (by omega)]
    subst hmz
    have e1 : torn x y k = (torn x y k).take 239 ++ (torn x y k).drop 239 := (List.take_append_drop 239 _).symm
    have e2 : (torn x y k).take 239 = x.take 239 := by
      rw [torn, List.take_append_of_le_length (by rw [List.length_take]; omega), List.take_take, Nat.min_eq_left (by omega)]
    rw [e1, e2, ht2, ← hxd, List.take_append_drop]
end Go.Proofs.Ythpfdenpgegheaa
