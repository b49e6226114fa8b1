/-
  Rows of older memory, gathered in a row of the call's own: 'append' of matrices, slices.Clone.
-/
import Derived.Test.YtgakeecibofiiaaRowsN
import Derived.Laws.AppendOwnNone
namespace Go.Proofs.Ytgakeecibofiiaa
open Go.RowKit

/-- Places whose rows lie in memory older than base. -/
def OldAt (w : World) (base : Nat) (vals : List Value) (M : List (List UInt8)) : Prop :=
  vals.length = M.length ∧ ∀ (i : Nat) (l : List UInt8), M[i]? = some l → ∃ (Ai : Option Addr) (ci : Nat), vals[i]? = some (Value.slice Ai l.length ci) ∧ Lies w (fun b => b < base) Ai l.length ci (bc l)
/-- Rows of older memory in a row of the call's own. -/
def RowsO (w : World) (base : Nat) (v : Value) (M : List (List UInt8)) : Prop := ∃ vals : List Value, w.ownsRow base 31 1 v vals.length vals ∧ OldAt w base vals M
section
variable {w w' : World} {base : Nat} {v : Value} {M X : List (List UInt8)} {vals news : List Value}
theorem OldAt.keep (h : OldAt w base vals M) (hb : Below base w w') : OldAt w' base vals M := by
  refine ⟨h.1, fun i l hl => ?_⟩
  obtain ⟨Ai, ci, h1, h2⟩ := h.2 i l hl
  exact ⟨Ai, ci, h1, lies_below h2 hb (fun _ hb => hb)⟩
theorem OldAt.append (h : OldAt w base vals M) (k : OldAt w base news X) : OldAt w base (vals ++ news) (M ++ X) := by
  refine ⟨by simp [h.1, k.1], fun i l hl => ?_⟩
  rcases Nat.lt_or_ge i M.length with hi | hi
  · rw [List.getElem?_append_left hi] at hl
    obtain ⟨Ai, ci, h1, h2⟩ := h.2 i l hl
    exact ⟨Ai, ci, by rw [List.getElem?_append_left (by rw [h.1]; exact hi)]; exact h1, h2⟩
  · rw [List.getElem?_append_right hi] at hl
    obtain ⟨Ai, ci, h1, h2⟩ := k.2 _ l hl
    exact ⟨Ai, ci, by rw [List.getElem?_append_right (by rw [h.1]; exact hi), h.1]; exact h1, h2⟩
theorem OldAt.one (h : OldAt w base vals M) : ∀ u ∈ vals, u.oneCell' = true := by
  intro u hu
  obtain ⟨i, hi⟩ := List.getElem?_of_mem hu
  have hlt := (List.getElem?_eq_some_iff.1 hi).1
  obtain ⟨l, hl⟩ : ∃ l, M[i]? = some l := ⟨_, List.getElem?_eq_getElem (by rw [← h.1]; exact hlt)⟩
  obtain ⟨Ai, ci, h1, _⟩ := h.2 i l hl
  rw [h1] at hi
  cases hi
  rfl
theorem RowsO.below (h : RowsO w base v M) (hb : Below w.heap.size w w') (hbs : base ≤ w.heap.size) : RowsO w' base v M := by
  obtain ⟨vals, h1, h2⟩ := h
  exact ⟨vals, World.ownsRow.kept h1 (grown_of_below hb none) (by cases hv : v.ownBlock <;> simp), h2.keep (hb.mono hbs)⟩
theorem RowsO.made (w : World) (hb : base ≤ w.heap.size) : RowsO (w.alloc (.cells #[] 31)) base (.slice (some ⟨w.heap.size, 0, none⟩) 0 0) [] :=
  ⟨[], World.ownsRow_made w #[] 0 hb (Nat.zero_le _) rfl, rfl, fun i l h => by simp at h⟩
theorem RowsO.nil (w : World) (base : Nat) : RowsO w base (.slice none 0 0) [] := ⟨[], World.ownsRow_nil w base _ 1, rfl, fun i l h => by simp at h⟩
theorem RowsO.mtx (h : RowsO w base v M) : ∃ A c, v = .slice A M.length c ∧ Mtx w A M.length c M := by
  obtain ⟨vals, h1, h2, h3⟩ := h
  have hlt := World.ownsRow.lt h1
  rcases h1.2 with ⟨hv, hn⟩ | ⟨g, cap, cur, hv, _, _, hnc, _⟩
  · have hl : M = [] := List.eq_nil_of_length_eq_zero (by omega)
    subst hl
    exact ⟨none, 0, hv, Mtx.nil _ _ _⟩
  · refine ⟨some ⟨g, 0, none⟩, cap, by rw [hv, h2], rfl, by omega, fun _ => ⟨g, 0, rfl, (hlt g (by rw [hv]; rfl)).2, fun i l hl => ?_⟩⟩
    obtain ⟨Ai, ci, h4, h5⟩ := h3 i l hl
    refine ⟨Ai, ci, ?_, h5.weak (fun _ _ _ => trivial)⟩
    subst hv
    have := World.ownsRow.cells h1 (g := g) rfl i _ h4
    rwa [Addr.add_mid] at this
/-- As a block whose places are written. -/
theorem RowsO.rows (h : RowsO w base v M) (h0 : 0 < M.length) : ∃ g cap, v = .slice (some ⟨g, 0, none⟩) M.length cap ∧ base ≤ g ∧ M.length ≤ cap ∧ RowsN w g cap (fun b => b ≠ g) M := by
  obtain ⟨vals, h1, h2, h3⟩ := h
  rcases h1.2 with ⟨hv, hn⟩ | ⟨g, cap, cur, hv, hbg, hh, hnc, _, hcs, htk⟩
  · omega
  · refine ⟨g, cap, by rw [hv, h2], hbg, by omega, cur.toList, ?_, by simpa using hcs, by omega, fun i l hl => ?_⟩
    · simpa [Box] using hh
    · obtain ⟨Ai, ci, h4, h5⟩ := h3 i l hl
      refine ⟨Ai, ci, ?_, h5.weak (fun b _ hb => by omega)⟩
      rw [← htk, Nat.mul_one] at h4
      have hi := (List.getElem?_eq_some_iff.1 h4).1
      rw [List.getElem?_take_of_lt (by simp at hi; omega)] at h4
      exact h4
end
/-- The places of a matrix that is read. -/
theorem Mtx.old {w : World} {A : Option Addr} {n c : Nat} {M : List (List UInt8)} (h : Mtx w A n c M) {base : Nat} (hb : w.heap.size ≤ base) {ad : Addr} (hA : A = some ad) : ∃ vals, OldAt w base vals M ∧ ∀ (j : Nat) (u : Value), vals[j]? = some u → w.cell? (ad.add j) = some u := by
  subst hA
  refine ⟨(List.range n).map (fun i => (w.cell? (ad.add i)).getD undef), ⟨by simp [h.len], fun i l hl => ?_⟩, fun j u hu => ?_⟩
  · obtain ⟨b, off, Ai, ci, hA, _, hc, hl2⟩ := h.row hl
    cases hA
    have hi : i < n := by rw [← h.len]; exact (List.getElem?_eq_some_iff.1 hl).1
    refine ⟨Ai, ci, ?_, ?_⟩
    · simp [hi, Addr.add_mid, hc]
    · refine ⟨hl2.1, hl2.2.1, fun h0 => ?_⟩
      obtain ⟨ad', e1, _, e3, e4⟩ := hl2.2.2 h0
      exact ⟨ad', e1, Nat.lt_of_lt_of_le e3 hb, e3, e4⟩
  · have hj : j < n := by
      have := (List.getElem?_eq_some_iff.1 hu).1
      simpa using this
    obtain ⟨l, hl⟩ : ∃ l, M[j]? = some l := ⟨_, List.getElem?_eq_getElem (by rw [h.len]; exact hj)⟩
    obtain ⟨b, off, Ai, ci, hA, _, hc, _⟩ := h.row hl
    cases hA
    simp [hj, Addr.add_mid, hc] at hu
    subst hu
    rw [Addr.add_mid]
    exact hc
/-- 'append(all, rows...)', at the operation, the rows being older than base. -/
theorem wpList_append_old {ops : Array Oper} {rest : List Oper} {o : Oper} {a : Act} {Q : Exit → Act → World → Prop} (w : World) (s x : Operand) (hgd : o.guard = none)
    (hop : o.op = .call { callee := .builtin .append, args := #[s, x], argTypes := #[26, 26] })
    (base : Nat) (v : Value) (M X : List (List UInt8)) (ad : Addr) (m c : Nat) (news : List Value) (hs : a.eval s = v) (hx : a.eval x = .slice (some ad) m c) (hr : RowsO w base v M) (hn : OldAt w base news X) (hm : X.length = m) (hcell : ∀ (j : Nat) (u : Value), news[j]? = some u → w.cell? (ad.add j) = some u) (hz : M.length + X.length ≤ 100000) (hb : base ≤ w.heap.size)
    (K : ∀ v' w', RowsO w' base v' (M ++ X) → Below base w w' → wpList Try.prog ops Q rest (a.put o.dst v') w') : wpList Try.prog ops Q (o :: rest) a w := by
  obtain ⟨i0, hi, hz0, hz1, hz2⟩ := info_parts rowInfo
  obtain ⟨vals, h1, h2⟩ := hr
  have hlv := h2.1
  have hln := hn.1
  refine wpList_append_own _ hgd s x 26 hop base 31 i0 (.slice none 0 0) 1 24 Try.underlying26 hi hz0 hz1 hz2 rfl (by decide) v vals.length vals hs h1 ad m c news hx (by omega)
    hcell hn.one (by unfold maxLen; omega) (by omega) hb ?_
  intro v' w' r1 r2 _
  have hlt := World.ownsRow.lt h1
  have hB : Below base w w' := (Below.refl base w).grown r2 hb (fun k hk => (hlt k hk).1)
  refine K v' w' ⟨vals ++ news, ?_, (h2.append hn).keep hB⟩ hB
  rw [List.length_append, show news.length = m by omega]
  exact r1
end Go.Proofs.Ytgakeecibofiiaa
