/-
  Two lists that rise gone through at once: what is taken of them, in plain mathematics; and the law of an append of one id to a row of ids of the call's own.
-/
import Derived.Test.YtjnobakbjapfjaaRight
import Derived.Test.YtjnobakbjapfjaaIdsOne
namespace Go.Proofs.Ytjnobakbjapfjaa
open Go.RowKit Go.Sort Go.Shelf

/-- The ids of two lists that are wanted, told whose they are. -/
def chosenL (f : Bool → Bool → Bool) (S O : List Id) : List Id := ofL ((S ++ O).filter fun x => f (decide (x ∈ S)) (decide (x ∈ O)))
theorem chosen_mem (f : Bool → Bool → Bool) (S O : List Id) (x : Id) : x ∈ chosenL f S O ↔ (x ∈ S ∨ x ∈ O) ∧ f (decide (x ∈ S)) (decide (x ∈ O)) = true := by
  rw [chosenL, ofL_mem, List.mem_filter, List.mem_append]
theorem chosen_rises (f : Bool → Bool → Bool) (S O : List Id) : Rises (chosenL f S O) := ofL_rises _
theorem chosen_length (f : Bool → Bool → Bool) (S O : List Id) : (chosenL f S O).length ≤ S.length + O.length := by
  refine Nat.le_trans (ofL_length _) (Nat.le_trans (List.length_filter_le _ _) ?_)
  rw [List.length_append]
  exact Nat.le_refl _
theorem chosen_of (f : Bool → Bool → Bool) (S O : List Id) : chosenL f (ofL S) (ofL O) = chosenL f S O :=
  rises_ext (chosen_rises _ _ _) (chosen_rises _ _ _) (fun x => by rw [chosen_mem, chosen_mem]; simp only [ofL_mem])

/-- What is taken so far, s and o being left. -/
def Cho (f : Bool → Bool → Bool) (S O s o acc : List Id) : Prop :=
  ∃ p q, S = p ++ s ∧ O = q ++ o ∧ (∀ x, x ∈ p ∨ x ∈ q → ∀ y, y ∈ s ∨ y ∈ o → ltId x y = true) ∧ Rises acc ∧ ∀ x, x ∈ acc ↔ (x ∈ p ∨ x ∈ q) ∧ f (decide (x ∈ S)) (decide (x ∈ O)) = true
theorem Cho.start (f : Bool → Bool → Bool) (S O : List Id) : Cho f S O S O [] :=
  ⟨[], [], rfl, rfl, fun x h => by simp at h, List.Pairwise.nil, fun x => by simp⟩
theorem Cho.done {f : Bool → Bool → Bool} {S O acc : List Id} (h : Cho f S O [] [] acc) : acc = chosenL f S O := by
  obtain ⟨p, q, rfl, rfl, _, h2, h3⟩ := h
  refine rises_ext h2 (chosen_rises _ _ _) (fun x => ?_)
  rw [h3, chosen_mem]
  simp
theorem Cho.length {f : Bool → Bool → Bool} {S O s o acc : List Id} (h : Cho f S O s o acc) (hS : S.length ≤ 1000) (hO : O.length ≤ 1000) : acc.length ≤ 2000 := by
  obtain ⟨p, q, rfl, rfl, _, h2, h3⟩ := h
  have hsub : acc = ofL ((p ++ q).filter fun x => f (decide (x ∈ p ++ s)) (decide (x ∈ q ++ o))) := by
    refine rises_ext h2 (ofL_rises _) (fun x => ?_)
    rw [h3, ofL_mem, List.mem_filter]
    exact and_congr_left' List.mem_append.symm
  rw [hsub]
  refine Nat.le_trans (ofL_length _) (Nat.le_trans (List.length_filter_le _ _) ?_)
  simp only [List.length_append] at hS hO ⊢
  omega
/-- One id more. -/
theorem Cho.step {f : Bool → Bool → Bool} {S O s o acc s' o' : List Id} {x : Id} {m t : Bool} (h : Cho f S O s o acc) (hs : s = if m then x :: s' else s') (ho : o = if t then x :: o' else o') (hmt : m = true ∨ t = true)
    (hx : ∀ y, y ∈ s' ∨ y ∈ o' → ltId x y = true) : Cho f S O s' o' (if f m t then acc ++ [x] else acc) := by
  obtain ⟨p, q, hp, hq, h1, h2, h3⟩ := h
  have hin : x ∈ s ∨ x ∈ o := by
    rcases hmt with rfl | rfl
    · left; rw [hs]; simp
    · right; rw [ho]; simp
  have hlt : ∀ z, z ∈ p ∨ z ∈ q → ltId z x = true := fun z hz => h1 z hz x hin
  have hirr : ∀ z, ltId z z = true → False := fun z hz => by rw [ltId_irrefl] at hz; cases hz
  have hmS : decide (x ∈ S) = m := by
    cases m with
    | true => rw [decide_eq_true_iff, hp, hs]; simp
    | false =>
      rw [decide_eq_false_iff_not, hp, hs]
      simp only [Bool.false_eq_true, if_false, List.mem_append]
      rintro (h | h)
      · exact hirr x (hlt x (.inl h))
      · exact hirr x (hx x (.inl h))
  have htO : decide (x ∈ O) = t := by
    cases t with
    | true => rw [decide_eq_true_iff, hq, ho]; simp
    | false =>
      rw [decide_eq_false_iff_not, hq, ho]
      simp only [Bool.false_eq_true, if_false, List.mem_append]
      rintro (h | h)
      · exact hirr x (hlt x (.inr h))
      · exact hirr x (hx x (.inr h))
  refine ⟨if m then p ++ [x] else p, if t then q ++ [x] else q, ?_, ?_, ?_, ?_, ?_⟩
  · rw [hp, hs]; cases m <;> simp
  · rw [hq, ho]; cases t <;> simp
  · intro z hz y hy
    have hy' : y ∈ s ∨ y ∈ o := by
      rcases hy with h | h
      · left; rw [hs]; cases m <;> simp [h]
      · right; rw [ho]; cases t <;> simp [h]
    have hz' : (z ∈ p ∨ z ∈ q) ∨ z = x := by
      rcases hz with h | h
      · cases m with
        | true => rw [if_pos rfl, List.mem_append, List.mem_singleton] at h; exact h.elim (fun h => .inl (.inl h)) .inr
        | false => exact .inl (.inl h)
      · cases t with
        | true => rw [if_pos rfl, List.mem_append, List.mem_singleton] at h; exact h.elim (fun h => .inl (.inr h)) .inr
        | false => exact .inl (.inr h)
    rcases hz' with h | rfl
    · exact h1 z h y hy'
    · exact hx y hy
  · split
    · unfold Rises
      rw [List.pairwise_append]
      refine ⟨h2, List.pairwise_singleton _ _, fun a ha b hb => ?_⟩
      rw [List.mem_singleton] at hb
      subst hb
      exact hlt a ((h3 a).1 ha).1
    · exact h2
  · intro z
    have hz' : (z ∈ (if m then p ++ [x] else p) ∨ z ∈ (if t then q ++ [x] else q)) ↔ (z ∈ p ∨ z ∈ q) ∨ z = x := by
      cases m <;> cases t <;> simp at hmt <;> simp
      · exact ⟨fun h => h.elim (fun h => .inl (.inl h)) (fun h => h.elim (fun h => .inl (.inr h)) .inr), fun h => h.elim (fun h => h.elim .inl (fun h => .inr (.inl h))) (fun h => .inr (.inr h))⟩
      · exact ⟨fun h => h.elim (fun h => h.elim (fun h => .inl (.inl h)) .inr) (fun h => .inl (.inr h)), fun h => h.elim (fun h => h.elim (fun h => .inl (.inl h)) .inr) (fun h => .inl (.inr h))⟩
      · exact ⟨fun h => h.elim (fun h => h.elim (fun h => .inl (.inl h)) .inr) (fun h => h.elim (fun h => .inl (.inr h)) .inr), fun h => h.elim (fun h => h.elim (fun h => .inl (.inl h)) (fun h => .inr (.inl h))) (fun h => .inl (.inr h))⟩
    rw [hz']
    by_cases hzx : z = x
    · subst hzx
      rw [hmS, htO]
      have hn : ¬ z ∈ acc := fun h => hirr z (hlt z ((h3 z).1 h).1)
      cases hf : f m t with
      | true => simp
      | false => simp [hn]
    · have : z ∈ (if f m t then acc ++ [x] else acc) ↔ z ∈ acc := by
        split
        · simp [hzx]
        · exact Iff.rfl
      rw [this, h3]
      simp [hzx]

/-- A row of ids of the call's own. -/
def OwnI (w : World) (base : Nat) (v : Value) (xs : List Id) : Prop := w.ownsRow base 23 32 v xs.length (ec xs)
section
variable {w w' : World} {base : Nat} {v : Value} {xs : List Id}
theorem OwnI.nil (w : World) (base : Nat) : OwnI w base (.slice none 0 0) [] := World.ownsRow_nil w base _ 32
theorem OwnI.changed (h : OwnI w base v xs) (hg : w.grownBy w' v.ownBlock) (hb : base ≤ w.heap.size) : Below base w w' :=
  (Below.refl base w).grown hg hb (fun k hk => (World.ownsRow.lt h k hk).1)
theorem OwnI.below (h : OwnI w base v xs) (hb : Below w.heap.size w w') : OwnI w' base v xs :=
  World.ownsRow.kept h (grown_of_below hb none) (by cases hv : v.ownBlock <;> simp)
theorem OwnI.grown {g : Nat} (h : OwnI w base v xs) (hb : w.grownBy w' (some g)) (hne : v.ownBlock ≠ some g) : OwnI w' base v xs := World.ownsRow.kept h hb (.inr hne)
theorem OwnI.lt (h : OwnI w base v xs) {g : Nat} (hg : v.ownBlock = some g) : g < w.heap.size := (World.ownsRow.lt h g hg).2
theorem OwnI.ids (h : OwnI w base v xs) : ∃ A c, v = .slice A xs.length c ∧ Ids w A xs.length c xs := by
  have hlt := World.ownsRow.lt h
  rcases h.2 with ⟨hv, hn⟩ | ⟨g, cap, cur, hv, _, _, hnc, _⟩
  · have hl : xs = [] := List.eq_nil_of_length_eq_zero hn
    subst hl
    exact ⟨none, 0, hv, Ids.nil _ _ _⟩
  · subst hv
    exact ⟨_, cap, rfl, rfl, hnc, fun _ => ⟨g, 0, rfl, (hlt g rfl).2, fun j u hu => by
      have := World.ownsRow.cells h (g := g) rfl j u hu
      rwa [Addr.add_mid] at this⟩⟩
end
/-- 'append(out, i)', at the operation. -/
theorem wpList_append_id {ops : Array Oper} {rest : List Oper} {o : Oper} {a : Act} {Q : Exit → Act → World → Prop} (w : World) (s x : Operand) (hgd : o.guard = none)
    (hop : o.op = .call { callee := .builtin .append, args := #[s, x], argTypes := #[35, 35] })
    (base : Nat) (v : Value) (xs : List Id) (g : Nat) (i : Id) (hs : a.eval s = v) (hx : a.eval x = .slice (some ⟨g, 0, none⟩) 1 1) (hown : OwnI w base v xs) (hr : Row w g [i])
    (hz : xs.length ≤ 100000) (hb : base ≤ w.heap.size)
    (K : ∀ v' w', OwnI w' base v' (xs ++ [i]) → w.grownBy w' v.ownBlock → wpList Try.prog ops Q rest (a.put o.dst v') w') : wpList Try.prog ops Q (o :: rest) a w := by
  obtain ⟨i0, hi, hz0, hz1, hz2⟩ := info_parts idInfo
  refine wpList_append_own _ hgd s x 35 hop base 23 i0 _ 32 32 Try.underlying35 hi hz0 hz1 hz2 (enc_size _) (by decide) v xs.length (ec xs) hs hown ⟨g, 0, none⟩ 1 1 (ec [i]) hx (by rw [ec_length]; rfl)
    (fun j u hu => by
      rw [Addr.add_mid, Nat.zero_add, Box.cell hr]
      simpa using hu) (ec_cells _) (by unfold maxLen; omega) (by omega) hb ?_
  intro v' w' h1 h2 _
  refine K v' w' ?_ h2
  unfold OwnI
  rw [List.length_append, ec_append]
  exact h1

set_option maxHeartbeats 400000 in
theorem wants_less (m t : Bool) (w : World) : Calls Try.prog 47 #[.bool m, .bool t] w fun e w' => e = .returned (.bool (m && !t)) ∧ Below w.heap.size w w' := by
  go_enter Try.func47, Try.ntmps47
  cases m <;> cases t <;> (go_wp2; go_ret; exact ⟨rfl, Below.refl _ _⟩)
set_option maxHeartbeats 400000 in
theorem wants_or (m t : Bool) (w : World) : Calls Try.prog 48 #[.bool m, .bool t] w fun e w' => e = .returned (.bool (m || t)) ∧ Below w.heap.size w w' := by
  go_enter Try.func48, Try.ntmps48
  cases m <;> cases t <;> (go_wp2; go_ret; exact ⟨rfl, Below.refl _ _⟩)
set_option maxHeartbeats 400000 in
theorem wants_and (m t : Bool) (w : World) : Calls Try.prog 49 #[.bool m, .bool t] w fun e w' => e = .returned (.bool (m && t)) ∧ Below w.heap.size w w' := by
  go_enter Try.func49, Try.ntmps49
  cases m <;> cases t <;> (go_wp2; go_ret; exact ⟨rfl, Below.refl _ _⟩)
end Go.Proofs.Ytjnobakbjapfjaa
