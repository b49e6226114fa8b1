/-
  Numbers and texts by turns, laid and read back: plain lists.
-/
import Derived.Test.YteabpbmecdenjaaOneForm
namespace Go.Proofs.Yteabpbmecdenjaa
open Go.RowKit

/-- What the i-th number, and the i-th text, are laid as. -/
def numAt (vs : List Nat) (i : Nat) : List UInt8 := match vs[i]? with | some x => encNum x | none => []
def textAt (ts : List ByteArray) (i : Nat) : List UInt8 := match ts[i]? with | some t => encText t.data.toList | none => []
def part (vs : List Nat) (ts : List ByteArray) (i : Nat) : List UInt8 := numAt vs i ++ textAt ts i
def upto (vs : List Nat) (ts : List ByteArray) (i : Nat) : List UInt8 := (List.range i).flatMap (part vs ts)
def top (vs : List Nat) (ts : List ByteArray) : Nat := max vs.length ts.length
def behind (vs : List Nat) (ts : List ByteArray) (i : Nat) : List UInt8 := (List.range' i (top vs ts - i)).flatMap (part vs ts)

section
variable {vs : List Nat} {ts : List ByteArray}
theorem numAt_lt {i : Nat} (h : i < vs.length) : numAt vs i = encNum vs[i] := by simp [numAt, h]
theorem numAt_ge {i : Nat} (h : vs.length ≤ i) : numAt vs i = [] := by simp [numAt, h]
theorem textAt_lt {i : Nat} (h : i < ts.length) : textAt ts i = encText ts[i].data.toList := by simp [textAt, h]
theorem textAt_ge {i : Nat} (h : ts.length ≤ i) : textAt ts i = [] := by simp [textAt, h]
theorem upto_zero : upto vs ts 0 = [] := rfl
theorem upto_succ (i : Nat) : upto vs ts (i + 1) = upto vs ts i ++ numAt vs i ++ textAt ts i := by
  unfold upto part
  rw [List.range_succ, List.flatMap_append, List.append_assoc]
  simp
theorem behind_step {i : Nat} (h : i < top vs ts) : behind vs ts i = numAt vs i ++ (textAt ts i ++ behind vs ts (i + 1)) := by
  unfold behind
  have e : top vs ts - i = (top vs ts - (i + 1)) + 1 := by omega
  rw [e, List.range'_succ, List.flatMap_cons, part, List.append_assoc]
theorem behind_top {i : Nat} (h : top vs ts ≤ i) : behind vs ts i = [] := by
  unfold behind
  rw [show top vs ts - i = 0 by omega]
  rfl
theorem behind_zero : behind vs ts 0 = upto vs ts (top vs ts) := by
  unfold behind upto
  rw [Nat.sub_zero, List.range_eq_range']
theorem encNum_ne (x : Nat) (t : List UInt8) : encNum x ++ t ≠ [] := by simp [encNum]
theorem encText_ne (s t : List UInt8) : encText s ++ t ≠ [] := by simp [encText, encNum]
end

/-- A reader over the bytes of what is behind, cut by no byte or by one. -/
def Back (cut : Nat) (rem : List UInt8) (q : St) (same : Bool) : Prop :=
  (cut = 0 ∧ q = (rem, 0) ∧ same = true) ∨ (cut = 1 ∧ rem ≠ [] ∧ q = (rem.dropLast, 0) ∧ same = true) ∨ (cut = 1 ∧ rem = [] ∧ q.2 ≠ 0)

theorem stNum_enc (x : Nat) (h : x < 18446744073709551616) (t : List UInt8) : stNum (encNum x ++ t, 0) = (t, 0) ∧ stNumV (encNum x ++ t, 0) = x := by
  obtain ⟨h1, h2, h3, h4⟩ := numErr_enc x h t
  simp only [stNum, stNumV, if_true, h1, h3, h4, and_self]

theorem stRaw_enc (s t : List UInt8) : stRaw (s.length : Int) (s ++ t, 0) = (t, 0) ∧ stRawV (s.length : Int) (s ++ t, 0) = s := by
  have h0 : ¬ ((s.length : Int) < 0) := by omega
  have h1 : ¬ (((s ++ t).length : Int) < (s.length : Int)) := by
    rw [List.length_append]
    omega
  simp only [stRaw, stRawV, if_true, if_neg h0, if_neg h1, Int.toNat_natCast]
  simp

theorem stText_enc (s t : List UInt8) (hs : s.length ≤ 1000) : stText 1000 (encText s ++ t, 0) = (t, 0) ∧ stTextV 1000 (encText s ++ t, 0) = s := by
  obtain ⟨h1, h2⟩ := stNum_enc s.length (by omega) (s ++ t)
  have e : encText s ++ t = encNum s.length ++ (s ++ t) := by rw [encText, List.append_assoc]
  have hb : tooBig 1000 s.length = false := by
    unfold tooBig
    simp
    omega
  have h3 : stSmall 1000 (encText s ++ t, 0) = (s ++ t, 0) ∧ stSmallV 1000 (encText s ++ t, 0) = s.length := by
    unfold stSmall stSmallV
    rw [e, h1, h2, hb]
    simp
  unfold stText stTextV
  rw [h3.1, h3.2]
  exact stRaw_enc s t

/-- A number cut by its last byte is an error. -/
theorem stNum_cut (x : Nat) (h : x < 18446744073709551616) : (stNum ((encNum x).dropLast, 0)).2 ≠ 0 := by
  have h8 := many_le x h
  unfold stNum
  rw [if_pos rfl]
  show numErr (encNum x).dropLast ≠ 0
  unfold encNum
  rcases hm : many x with _ | m
  · rw [encTail]
    simp [numErr]
  · rw [List.dropLast_cons_of_ne_nil (by rw [encTail]; simp)]
    simp only [numErr, ofNat_toNat]
    rw [if_neg (by omega), if_pos (by rw [List.length_dropLast, encTail_length]; omega)]
    decide

theorem stText_cut (s : List UInt8) (hs : s.length ≤ 1000) : (stText 1000 ((encText s).dropLast, 0)).2 ≠ 0 := by
  rcases s with _ | ⟨a, s⟩
  · have h1 := stNum_cut 0 (by decide)
    have e : encText [] = encNum 0 := by simp [encText]
    have h2 : (stSmall 1000 ((encText []).dropLast, 0)).2 ≠ 0 := by
      unfold stSmall
      rw [e, if_neg h1]
      exact h1
    unfold stText stRaw
    rw [if_neg h2]
    exact h2
  · have hne : a :: s ≠ [] := by simp
    have e : (encText (a :: s)).dropLast = encNum (a :: s).length ++ (a :: s).dropLast := by
      unfold encText
      rw [List.dropLast_append_of_ne_nil hne]
    obtain ⟨h1, h2⟩ := stNum_enc (a :: s).length (by omega) (a :: s).dropLast
    have hb : tooBig 1000 (a :: s).length = false := by
      unfold tooBig
      simp only [Bool.or_eq_false_iff, decide_eq_false_iff_not]
      omega
    have h3 : stSmall 1000 ((encText (a :: s)).dropLast, 0) = ((a :: s).dropLast, 0) ∧ stSmallV 1000 ((encText (a :: s)).dropLast, 0) = (a :: s).length := by
      unfold stSmall stSmallV
      rw [e, h1, h2, hb]
      simp
    unfold stText
    rw [h3.1, h3.2]
    unfold stRaw
    rw [if_pos rfl, if_neg (by omega), if_pos (by simp only [List.length_dropLast, List.length_cons]; omega)]
    decide

/-- A number is read back, or it was the last one, and cut. -/
theorem Back.num {cut : Nat} {x : Nat} {t : List UInt8} {q : St} (hx : x < 18446744073709551616) (h : Back cut (encNum x ++ t) q true) :
    (t ≠ [] ∨ cut = 0 → stNumV q = x ∧ Back cut t (stNum q) true) ∧ (∀ b, ¬ (t ≠ [] ∨ cut = 0) → Back cut t (stNum q) b) := by
  obtain ⟨h1, h2⟩ := stNum_enc x hx t
  rcases h with ⟨rfl, rfl, _⟩ | ⟨rfl, hne, rfl, _⟩ | ⟨_, hne, _⟩
  · refine ⟨fun _ => ⟨h2, ?_⟩, fun b hb => absurd (.inr rfl) hb⟩
    rw [h1]
    exact .inl ⟨rfl, rfl, rfl⟩
  · refine ⟨fun ht => ?_, fun b ht => ?_⟩
    · have ht' : t ≠ [] := by
        rcases ht with h | h
        · exact h
        · cases h
      rw [List.dropLast_append_of_ne_nil ht']
      obtain ⟨h3, h4⟩ := stNum_enc x hx t.dropLast
      rw [h3, h4]
      exact ⟨rfl, .inr (.inl ⟨rfl, ht', rfl, rfl⟩)⟩
    · have ht' : t = [] := by
        rcases Classical.em (t = []) with h | h
        · exact h
        · exact absurd (.inl h) ht
      subst ht'
      rw [List.append_nil]
      exact .inr (.inr ⟨rfl, rfl, stNum_cut x hx⟩)
  · exact absurd hne (encNum_ne x t)

theorem Back.text {cut : Nat} {s t : List UInt8} {q : St} (hs : s.length ≤ 1000) (h : Back cut (encText s ++ t) q true) :
    (t ≠ [] ∨ cut = 0 → stTextV 1000 q = s ∧ Back cut t (stText 1000 q) true) ∧ (∀ b, ¬ (t ≠ [] ∨ cut = 0) → Back cut t (stText 1000 q) b) := by
  obtain ⟨h1, h2⟩ := stText_enc s t hs
  rcases h with ⟨rfl, rfl, _⟩ | ⟨rfl, hne, rfl, _⟩ | ⟨_, hne, _⟩
  · refine ⟨fun _ => ⟨h2, ?_⟩, fun b hb => absurd (.inr rfl) hb⟩
    rw [h1]
    exact .inl ⟨rfl, rfl, rfl⟩
  · refine ⟨fun ht => ?_, fun b ht => ?_⟩
    · have ht' : t ≠ [] := by
        rcases ht with h | h
        · exact h
        · cases h
      rw [List.dropLast_append_of_ne_nil ht']
      obtain ⟨h3, h4⟩ := stText_enc s t.dropLast hs
      rw [h3, h4]
      exact ⟨rfl, .inr (.inl ⟨rfl, ht', rfl, rfl⟩)⟩
    · have ht' : t = [] := by
        rcases Classical.em (t = []) with h | h
        · exact h
        · exact absurd (.inl h) ht
      subst ht'
      rw [List.append_nil]
      exact .inr (.inr ⟨rfl, rfl, stText_cut s hs⟩)
  · exact absurd hne (encText_ne s t)

/-- In the middle of what is behind nothing was unlike yet. -/
theorem Back.same_true {cut : Nat} {rem : List UInt8} {q : St} {b : Bool} (h : Back cut rem q b) (hne : rem ≠ []) : b = true := by
  rcases h with ⟨_, _, h⟩ | ⟨_, _, _, h⟩ | ⟨_, h, _⟩
  · exact h
  · exact h
  · exact absurd h hne

theorem Own.arg {w : World} {base : Nat} {v : Value} {l : List UInt8} (h : Own w base v l) : ∃ A c, v = .slice A l.length c ∧ Arg w A l.length c (bc l) := by
  have hlt := World.ownsRow.lt h
  rcases h.2 with ⟨hv, hn⟩ | ⟨g, cap, cur, hv, _, _, hnc, _⟩
  · have hl : l = [] := List.eq_nil_of_length_eq_zero hn
    subst hl
    exact ⟨none, 0, hv, .inl ⟨rfl, rfl, rfl, rfl⟩⟩
  · subst hv
    exact ⟨_, cap, rfl, .inr ⟨⟨g, 0, none⟩, rfl, hnc, bc_length l, fun j u hu => ⟨(hlt g rfl).2, World.ownsRow.cells h (g := g) rfl j u hu⟩⟩⟩

theorem Arg.below {w w' : World} {A : Option Addr} {n c : Nat} {xs : List Value} (h : Arg w A n c xs) (hb : Below w.heap.size w w') : Arg w' A n c xs := by
  rcases h with h | ⟨ad, rfl, hn, hl, hc⟩
  · exact .inl h
  · refine .inr ⟨ad, rfl, hn, hl, fun j u hu => ?_⟩
    obtain ⟨h1, h2⟩ := hc j u hu
    exact ⟨Nat.lt_of_lt_of_le h1 hb.size, (hb.cell (by rw [add_block]; exact h1)).trans h2⟩
end Go.Proofs.Yteabpbmecdenjaa
