/-
  What any ids make: in order, each once. The contract of ids.Of.
-/
import Derived.Test.YtjnobakbjapfjaaCompact
namespace Go.Proofs.Ytjnobakbjapfjaa
open Go.RowKit Go.Sort Go.Shelf

/-- A call that hands back a list of ids, all that lay being as it was. -/
def GivesIds (w : World) (xs : List Id) (e : Ending) (w' : World) : Prop := ∃ A m c, e = .returned (.slice A m c) ∧ Ids w' A m c xs ∧ Below w.heap.size w w'

/-- A list that rises. -/
def Rises (xs : List Id) : Prop := xs.Pairwise fun x y => ltId x y = true
/-- What any ids make. -/
def ofL (xs : List Id) : List Id := cmpTo (sortL xs) xs.length
theorem sortL_length (xs : List Id) : (sortL xs).length = xs.length := by simp [sortL]
theorem sortL_mem (xs : List Id) (x : Id) : x ∈ sortL xs ↔ x ∈ xs := by simp [sortL]
theorem sortL_sorted (xs : List Id) : (sortL xs).Pairwise fun x y => ltId y x = false := by
  have h := List.pairwise_mergeSort (le := fun x y : Id => !ltId y x) (by
    intro a b c h1 h2
    simp only [Bool.not_eq_true'] at h1 h2 ⊢
    exact ltId_swo.ntrans c b a h2 h1) (by
    intro a b
    simp only [Bool.or_eq_true, Bool.not_eq_true']
    cases h1 : ltId b a with
    | false => exact .inl rfl
    | true =>
      right
      cases h2 : ltId a b with
      | false => rfl
      | true =>
        have := ltId_trans h1 h2
        rw [ltId_irrefl] at this
        cases this) xs
  exact h.imp (by simp)
/-- What the first j ids of a list in order come to: it rises, its last one is theirs, and it has just those. -/
theorem cmpTo_rises (xs : List Id) (hs : xs.Pairwise fun x y => ltId y x = false) : ∀ j, j ≤ xs.length → Rises (cmpTo xs j) ∧ (∀ x, x ∈ cmpTo xs j ↔ x ∈ xs.take j) ∧ (0 < j → ∀ x ∈ cmpTo xs j, ltId x xs[j - 1]! = true ∨ x = xs[j - 1]!)
  | 0, _ => ⟨List.Pairwise.nil, by simp [cmpTo], by omega⟩
  | j + 1, hj => by
    obtain ⟨h1, h2, h3⟩ := cmpTo_rises xs hs j (by omega)
    have hg : xs[j]! = xs[j]'(by omega) := getElem!_pos xs j (by omega)
    have ht : xs.take (j + 1) = xs.take j ++ [xs[j]!] := by
      rw [List.take_add_one, List.getElem?_eq_getElem (by omega), hg]
      rfl
    have hle : 0 < j → ltId xs[j]! xs[j - 1]! = false := fun h0 => by
      rw [hg, getElem!_pos xs (j - 1) (by omega)]
      exact List.pairwise_iff_getElem.1 hs (j - 1) j (by omega) (by omega) (by omega)
    rw [cmpTo, Nat.add_sub_cancel]
    split
    · rename_i hh
      refine ⟨h1, fun x => ?_, fun _ x hx => ?_⟩
      · rw [h2, ht, List.mem_append, List.mem_singleton]
        refine ⟨.inl, ?_⟩
        rintro (h | rfl)
        · exact h
        · rw [hh.2, getElem!_pos xs (j - 1) (by omega)]
          exact List.mem_take_iff_getElem.2 ⟨j - 1, by omega, rfl⟩
      · rw [hh.2]
        exact h3 hh.1 x hx
    · rename_i hh
      have hlt : ∀ x ∈ cmpTo xs j, ltId x xs[j]! = true := fun x hx => by
        have h0 : 0 < j := by
          rcases Nat.eq_zero_or_pos j with h | h
          · subst h
            simp [cmpTo] at hx
          · exact h
        have hn : ltId xs[j - 1]! xs[j]! = true := by
          cases h : ltId xs[j - 1]! xs[j]! with
          | true => rfl
          | false => exact absurd ⟨h0, ltId_total (hle h0) h⟩ hh
        rcases h3 h0 x hx with h | h
        · exact ltId_trans h hn
        · rw [h]
          exact hn
      refine ⟨?_, fun x => ?_, fun _ x hx => ?_⟩
      · unfold Rises
        rw [List.pairwise_append]
        exact ⟨h1, List.pairwise_singleton _ _, fun a ha b hb => by rw [List.mem_singleton] at hb; subst hb; exact hlt a ha⟩
      · rw [List.mem_append, ht, List.mem_append, h2]
      · rw [List.mem_append, List.mem_singleton] at hx
        rcases hx with h | h
        · exact .inl (hlt x h)
        · exact .inr h
theorem ofL_rises (xs : List Id) : Rises (ofL xs) := (cmpTo_rises _ (sortL_sorted xs) _ (by rw [sortL_length]; exact Nat.le_refl _)).1
theorem ofL_mem (xs : List Id) (x : Id) : x ∈ ofL xs ↔ x ∈ xs := by
  rw [ofL, (cmpTo_rises _ (sortL_sorted xs) _ (by rw [sortL_length]; exact Nat.le_refl _)).2.1, List.take_of_length_le (by rw [sortL_length]; exact Nat.le_refl _), sortL_mem]
theorem ofL_length (xs : List Id) : (ofL xs).length ≤ xs.length := cmpTo_le _ _
/-- Two lists that rise and have the same ids are one. -/
theorem rises_ext : ∀ {xs ys : List Id}, Rises xs → Rises ys → (∀ x, x ∈ xs ↔ x ∈ ys) → xs = ys
  | [], [], _, _, _ => rfl
  | [], y :: ys, _, _, h => absurd ((h y).2 (by simp)) (by simp)
  | x :: xs, [], _, _, h => absurd ((h x).1 (by simp)) (by simp)
  | x :: xs, y :: ys, h1, h2, h => by
    have hx := (List.pairwise_cons.1 h1)
    have hy := (List.pairwise_cons.1 h2)
    have e : x = y := by
      rcases List.mem_cons.1 ((h x).1 (by simp)) with e | e
      · exact e
      · rcases List.mem_cons.1 ((h y).2 (by simp)) with e' | e'
        · exact e'.symm
        · have := ltId_trans (hx.1 y e') (hy.1 x e)
          rw [ltId_irrefl] at this
          cases this
    subst e
    rw [rises_ext hx.2 hy.2 (fun z => ?_)]
    have hz := h z
    simp only [List.mem_cons] at hz
    constructor
    · intro hm
      rcases hz.1 (.inr hm) with e | e
      · subst e
        have := hx.1 z hm
        rw [ltId_irrefl] at this
        cases this
      · exact e
    · intro hm
      rcases hz.2 (.inr hm) with e | e
      · subst e
        have := hy.1 z hm
        rw [ltId_irrefl] at this
        cases this
      · exact e
theorem ofL_self {xs : List Id} (h : Rises xs) : ofL xs = xs := rises_ext (ofL_rises xs) h (ofL_mem xs)

set_option maxHeartbeats 1000000 in
/-- ids.Of. -/
theorem of_says (w : World) (A : Option Addr) (n c : Nat) (xs : List Id) (hx : Ids w A n c xs) (hn : n ≤ 1000) : Calls Try.prog 19 #[.slice A n c] w (GivesIds w (ofL xs)) := by
  have hl := hx.len
  have h1 := copied_says w A n c xs hx hn
  have h2 := fun w' => sort_says w' w.heap.size n n xs
  have h3 := fun w' => compact_says w' w.heap.size n n (sortL xs)
  clear hx
  go_enter Try.func19, Try.ntmps19
  go_wp2_with (first
    | (go_at_call 41; refine h1.mono ?_; rintro e w1 ⟨rfl, hr1, hb1⟩; have HR1 := Lib.hid hr1; have HB1 := Lib.hid hb1; clear hr1 hb1)
    | (go_at_call 42; refine (h2 w1 HR1.out hl hn).mono ?_; rintro e w2 ⟨rfl, hr2, hb2⟩; have HR2 := Lib.hid hr2; have HB2 := Lib.hid hb2; clear hr2 hb2)
    | (go_at_call 43; refine (h3 w2 HR2.out (by rw [sortL_length]; exact hl) (Nat.le_refl _) hn).mono ?_; rintro e w3 ⟨m, rfl, hr3, hb3⟩; have HR3 := Lib.hid hr3; have HB3 := Lib.hid hb3; clear hr3 hb3))
  go_ret
  have hle := HB1.out.size
  have hle2 := HB2.out.size
  refine ⟨_, m, n, rfl, ?_, below_grown (below_grown HB1.out HB2.out (Nat.le_refl _) hle) HB3.out (Nat.le_refl _) (by omega)⟩
  unfold ofL
  rw [hl]
  exact HR3.out
end Go.Proofs.Ytjnobakbjapfjaa
