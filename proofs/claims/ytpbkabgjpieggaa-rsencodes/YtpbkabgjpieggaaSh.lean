/-
  Shards: slices of which some are nil; what package rs tells of them; a coder.
-/
import Derived.Test.YtpbkabgjpieggaaM9
import Derived.Test.YtpbkabgjpieggaaM3
namespace Go.Proofs.Ytpbkabgjpieggaa
open Go.RowKit

/-- A shard: nil, or bytes that lie. -/
def ShRow (w : World) (v : Value) : Option (List UInt8) → Prop
  | none => v = .slice none 0 0
  | some l => ∃ ad ci, v = .slice (some ad) l.length ci ∧ Lies w (fun _ => True) (some ad) l.length ci (bc l)
theorem ShRow.below {w w' : World} {v : Value} {s : Option (List UInt8)} (h : ShRow w v s) (hb : Below w.heap.size w w') : ShRow w' v s := by
  cases s with
  | none => exact h
  | some l => obtain ⟨ad, ci, h1, h2⟩ := h; exact ⟨ad, ci, h1, h2.below hb⟩
theorem ShRow.lies {w : World} {v : Value} {s : Option (List UInt8)} (h : ShRow w v s) : ∃ A c, v = .slice A (s.getD []).length c ∧ Lies w (fun _ => True) A (s.getD []).length c (bc (s.getD [])) ∧ A.isNone = s.isNone ∧ (A = none → c = 0) := by
  cases s with
  | none => exact ⟨none, 0, h, Lies.nil _ _, rfl, fun _ => rfl⟩
  | some l => obtain ⟨ad, ci, h1, h2⟩ := h; exact ⟨some ad, ci, h1, h2, rfl, fun e => by cases e⟩
/-- A slice of shards. -/
def Shd (w : World) (A : Option Addr) (n c : Nat) (S : List (Option (List UInt8))) : Prop :=
  S.length = n ∧ n ≤ c ∧ (0 < n → ∃ b off, A = some ⟨b, off, none⟩ ∧ b < w.heap.size ∧ ∀ (i : Nat) (s : Option (List UInt8)), S[i]? = some s → ∃ v, w.cell? ⟨b, off + i, none⟩ = some v ∧ ShRow w v s)
/-- Their bytes. -/
def bytesOf (S : List (Option (List UInt8))) : List (List UInt8) := S.map (·.getD [])
theorem bytesOf_length (S : List (Option (List UInt8))) : (bytesOf S).length = S.length := by simp [bytesOf]
theorem bytesOf_some (M : List (List UInt8)) : bytesOf (M.map some) = M := by simp [bytesOf, Function.comp_def]
section
variable {w w' : World} {A : Option Addr} {n c : Nat} {S : List (Option (List UInt8))}
theorem Shd.len (h : Shd w A n c S) : S.length = n := h.1
theorem Shd.le (h : Shd w A n c S) : n ≤ c := h.2.1
theorem Shd.below (h : Shd w A n c S) (hb : Below w.heap.size w w') : Shd w' A n c S := by
  refine ⟨h.1, h.2.1, fun h0 => ?_⟩
  obtain ⟨b, off, h1, h2, h3⟩ := h.2.2 h0
  refine ⟨b, off, h1, Nat.lt_of_lt_of_le h2 hb.size, fun i s hs => ?_⟩
  obtain ⟨v, h4, h5⟩ := h3 i s hs
  exact ⟨v, (hb.cell (p := ⟨b, off + i, none⟩) h2).trans h4, h5.below hb⟩
theorem Shd.row (h : Shd w A n c S) {i : Nat} {s : Option (List UInt8)} (hs : S[i]? = some s) : ∃ b off v, A = some ⟨b, off, none⟩ ∧ b < w.heap.size ∧ w.cell? ⟨b, off + i, none⟩ = some v ∧ ShRow w v s := by
  have hi : i < S.length := (List.getElem?_eq_some_iff.1 hs).1
  obtain ⟨b, off, h1, h2, h3⟩ := h.2.2 (by rw [← h.1]; omega)
  obtain ⟨v, h4, h5⟩ := h3 i s hs
  exact ⟨b, off, v, h1, h2, h4, h5⟩
theorem Shd.mtx (h : Shd w A n c S) : Mtx w A n c (bytesOf S) := by
  refine ⟨by rw [bytesOf_length]; exact h.1, h.2.1, fun h0 => ?_⟩
  obtain ⟨b, off, h1, h2, h3⟩ := h.2.2 h0
  refine ⟨b, off, h1, h2, fun i l hl => ?_⟩
  obtain ⟨s, hs, rfl⟩ : ∃ s, S[i]? = some s ∧ s.getD [] = l := by
    simp only [bytesOf, List.getElem?_map] at hl
    cases hr : S[i]? with
    | none => rw [hr] at hl; cases hl
    | some x => rw [hr] at hl; exact ⟨x, rfl, by simpa using hl⟩
  obtain ⟨v, h4, h5⟩ := h3 i s hs
  obtain ⟨Ai, ci, h6, h7, _⟩ := h5.lies
  exact ⟨Ai, ci, by rw [h4, h6], h7⟩
theorem Shd.first (h : Shd w A n c S) {k : Nat} (hk : k ≤ n) : Shd w A k c (S.take k) := by
  refine ⟨by rw [List.length_take, h.1]; omega, Nat.le_trans hk h.2.1, fun h0 => ?_⟩
  obtain ⟨b, off, h1, h2, h3⟩ := h.2.2 (by omega)
  refine ⟨b, off, h1, h2, fun i s hs => h3 i s ?_⟩
  have hi := (List.getElem?_eq_some_iff.1 hs).1
  rw [List.length_take] at hi
  rwa [List.getElem?_take_of_lt (by omega)] at hs
theorem Shd.tail (h : Shd w A n c S) {k : Nat} (hk : k ≤ n) : Shd w (cutA A c k) (n - k) (c - k) (S.drop k) := by
  have hle := h.2.1
  refine ⟨by rw [List.length_drop, h.1], by omega, fun h0 => ?_⟩
  obtain ⟨b, off, h1, h2, h3⟩ := h.2.2 (by omega)
  refine ⟨b, off + k, ?_, h2, fun i s hs => ?_⟩
  · rw [cutA, if_neg (by omega), h1]
    simp [Addr.add]
  · rw [List.getElem?_drop] at hs
    obtain ⟨v, h4, h5⟩ := h3 (k + i) s hs
    exact ⟨v, by rw [Nat.add_assoc]; exact h4, h5⟩
theorem Mtx.shd {M : List (List UInt8)} (h : Mtx w A n c M) (hr : ∀ r ∈ M, 1 ≤ r.length) : Shd w A n c (M.map some) := by
  refine ⟨by simpa using h.1, h.2.1, fun h0 => ?_⟩
  obtain ⟨b, off, h1, h2, h3⟩ := h.2.2 h0
  refine ⟨b, off, h1, h2, fun i s hs => ?_⟩
  obtain ⟨l, hl, rfl⟩ : ∃ l, M[i]? = some l ∧ some l = s := by
    simp only [List.getElem?_map] at hs
    cases hr : M[i]? with
    | none => rw [hr] at hs; cases hs
    | some x => rw [hr] at hs; exact ⟨x, rfl, by simpa using hs⟩
  obtain ⟨Ai, ci, h4, h5⟩ := h3 i l hl
  refine ⟨_, h4, ?_⟩
  obtain ⟨ad, rfl, _⟩ := h5.2.2 (hr l (List.mem_of_getElem? hl))
  exact ⟨ad, ci, rfl, h5⟩
theorem shd_of_rows (h : LiesRows w A n c) : ∃ S, Shd w A n c S := by
  obtain ⟨xs, h1, h2⟩ := h
  have h' : ∀ k, ∃ s : Option (List UInt8), k < n → ∃ v, xs[k]? = some v ∧ ShRow w v s := fun k => by
    by_cases hk : k < n
    · obtain ⟨A', n', c', l, e1, e2, e3⟩ := h2 k hk
      have hl : n' = l.length := by rw [← e2.len, bc_length]
      subst hl
      cases A' with
      | none =>
        obtain rfl := e3 rfl
        have := e2.le
        exact ⟨none, fun _ => ⟨_, e1, by show Value.slice none _ _ = _; rw [show l.length = 0 by omega]⟩⟩
      | some ad => exact ⟨some l, fun _ => ⟨_, e1, ad, c', rfl, e2⟩⟩
    · exact ⟨none, fun h => absurd h hk⟩
  refine ⟨(List.range n).map (fun k => Classical.choose (h' k)), by simp, h1.le, fun h0 => ?_⟩
  obtain ⟨ad, hA, _, hlt, hc⟩ := h1.2.2 h0
  obtain ⟨x0, hx0⟩ : ∃ x, xs[0]? = some x := ⟨_, List.getElem?_eq_getElem (by rw [h1.len]; exact h0)⟩
  obtain ⟨b, off, hA2, _, hb, _⟩ := h1.at hx0
  refine ⟨b, off, hA2, hb, fun i s hs => ?_⟩
  have hi : i < n := by
    have := (List.getElem?_eq_some_iff.1 hs).1
    simpa using this
  rw [List.getElem?_map, List.getElem?_range hi] at hs
  simp at hs
  obtain ⟨v, e1, e2⟩ := Classical.choose_spec (h' i) hi
  rw [hs] at e2
  refine ⟨v, ?_, e2⟩
  rw [hA2] at hA
  cases hA
  have := hc i _ e1
  rwa [Addr.add_mid] at this
end
theorem open_shd {H : Type} {enc : TypeId × Value → H} {W : World} {A : Option Addr} {n c : Nat} {d : DataW H} {p : List MemPlace} (h : DataW.Trod enc Try.prog W 0 (fun _ => true) true 22 (.slice A n c) d p) : ∃ S, Shd W A n c S := shd_of_rows (open_rows h)

/-- A slice of bytes that is held against nil. -/
theorem eqlNil (w : World) (a : Option Addr) (n c n' c' : Nat) : (binOp .eql 31 (.slice a n c) (.slice none n' c')).run Try.prog w = .ok (.bool a.isNone) w := Lib.run_eql_slice_nil w _ _ a n c n' c' Try.underlying31
theorem missing_says (a : Option Addr) (n c : Nat) (w : World) : Calls Try.prog 22 #[.slice a n c] w fun e w' => e = .returned (.bool a.isNone) ∧ w' = w := by
  have q22 := eqlNil
  go_enter Try.func22, Try.ntmps22
  go_wp2
  go_ret
  exact ⟨rfl, rfl⟩
/-- Values of shards, as the library asks for them. -/
def encS (x : Option Addr × Nat × Nat) : Value := .slice x.1 x.2.1 x.2.2
theorem missing_at (w : World) : PredAt Try.prog 22 #[] encS (fun x => x.1.isNone) w := fun W x _ => by
  show Calls Try.prog 22 #[.slice x.1 x.2.1 x.2.2] W _
  exact (missing_says x.1 x.2.1 x.2.2 W).mono fun _ _ h => ⟨h.1, 0, h.2⟩
theorem missing_over (blk off size : Nat) (w : World) : PredOver Try.prog 22 #[] encS (fun x => x.1.isNone) blk off size w := fun m os dk x _ => by
  show Calls Try.prog 22 #[.slice x.1 x.2.1 x.2.2] _ _
  exact (missing_says x.1 x.2.1 x.2.2 _).mono fun _ _ h => ⟨h.1, 0, h.2⟩
theorem enters_missing : ∀ args w, (callFunc 22 args).run Try.prog w = .ok (.enter 22 args) w := enters_of Try.func22 (by kernel_rfl) rfl
/-- The values of shards. -/
theorem Shd.vals {w : World} {A : Option Addr} {n c : Nat} {S : List (Option (List UInt8))} (h : Shd w A n c S) (h0 : 0 < n) : ∃ b off, ∃ zs : List (Option Addr × Nat × Nat), A = some ⟨b, off, none⟩ ∧ b < w.heap.size ∧ zs.length = n ∧ (∀ j, j < zs.length → w.cell? ⟨b, off + j, none⟩ = some (encS zs[j]!)) ∧ (∀ (j : Nat) (s : Option (List UInt8)), S[j]? = some s → ShRow w (encS zs[j]!) s ∧ zs[j]!.1.isNone = s.isNone) := by
  obtain ⟨b, off, h1, h2, h3⟩ := h.2.2 h0
  have h' : ∀ k, ∃ x : Option Addr × Nat × Nat, ∀ s, S[k]? = some s → w.cell? ⟨b, off + k, none⟩ = some (encS x) ∧ ShRow w (encS x) s ∧ x.1.isNone = s.isNone := fun k => by
    cases hk : S[k]? with
    | none => exact ⟨(none, 0, 0), fun s hs => by cases hs⟩
    | some s =>
      obtain ⟨v, h4, h5⟩ := h3 k s hk
      obtain ⟨Ai, ci, rfl, h7, h8, _⟩ := h5.lies
      exact ⟨(Ai, _, ci), fun s' hs => by cases hs; exact ⟨h4, h5, h8⟩⟩
  have hg : ∀ j, j < n → ((List.range n).map (fun k => Classical.choose (h' k)))[j]! = Classical.choose (h' j) := fun j hj => by simp [hj]
  refine ⟨b, off, (List.range n).map (fun k => Classical.choose (h' k)), h1, h2, by simp, fun j hj => ?_, fun j s hs => ?_⟩
  · have hj' : j < n := by simpa using hj
    rw [hg j hj']
    exact (Classical.choose_spec (h' j) _ (List.getElem?_eq_getElem (by rw [h.1]; exact hj'))).1
  · have hj' : j < n := by rw [← h.1]; exact (List.getElem?_eq_some_iff.1 hs).1
    rw [hg j hj']
    exact (Classical.choose_spec (h' j) s hs).2
theorem vals_any {S : List (Option (List UInt8))} {zs : List (Option Addr × Nat × Nat)} (hl : zs.length = S.length) (h : ∀ (j : Nat) (s : Option (List UInt8)), S[j]? = some s → zs[j]!.1.isNone = s.isNone) : zs.map (fun x => x.1.isNone) = S.map (fun s => s.isNone) := by
  apply List.ext_getElem?
  intro j
  rcases Nat.lt_or_ge j S.length with hj | hj
  · have h1 := h j _ (List.getElem?_eq_getElem hj)
    rw [getElem!_pos zs j (by omega)] at h1
    simp [List.getElem?_eq_getElem hj, List.getElem?_eq_getElem (show j < zs.length by omega), h1]
  · rw [List.getElem?_eq_none (by simp; omega), List.getElem?_eq_none (by simp; omega)]
theorem containsM_says (w : World) (A : Option Addr) (n c : Nat) (S : List (Option (List UInt8))) (h : Shd w A n c S) (hn : n ≤ 2000) :
    Calls Try.prog 21 #[.slice A n c, .func (.func 22) #[] #[]] w fun e w' => e = .returned (.bool (S.any (·.isNone))) ∧ Below w.heap.size w w' := by
  rcases Nat.eq_zero_or_pos n with h0 | h0
  · subst h0
    obtain rfl : S = [] := List.eq_nil_of_length_eq_zero h.1
    exact (AnyE.slices_ContainsFunc_empty Try.containsL A c _ w).mono fun _ _ h => ⟨h.1, h.2 ▸ Below.refl _ _⟩
  · obtain ⟨b, off, zs, rfl, hb, hl, hc, hs⟩ := h.vals h0
    refine (AnyE.slices_ContainsFunc Try.containsL encS (fun x => x.1.isNone) 22 #[] enters_missing b off n c zs w (missing_at w) (by omega) (by omega) hc).mono ?_
    rintro e w' ⟨rfl, q, rfl⟩
    refine ⟨?_, ⟨rfl, rfl, rfl, Nat.le_refl _, fun _ _ => rfl⟩⟩
    rw [List.take_of_length_le (by omega)]
    have h1 := vals_any (by rw [hl, h.1]) (fun j s hj => (hs j s hj).2)
    have h2 : zs.any (fun x => x.1.isNone) = (zs.map (fun x => x.1.isNone)).any id := by rw [List.any_map]; rfl
    have h3 : S.any (fun s => s.isNone) = (S.map (fun s => s.isNone)).any id := by rw [List.any_map]; rfl
    rw [h2, h1, ← h3]
end Go.Proofs.Ytpbkabgjpieggaa
