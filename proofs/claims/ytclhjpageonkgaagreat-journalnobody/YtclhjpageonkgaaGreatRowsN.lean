/-
  Rows of bytes in a block of the call's own, whose places are written.
-/
import Derived.Test.YtclhjpageonkgaaGreatMtx
import Derived.Test.YtclhjpageonkgaaGreatSlB
namespace Go.Proofs.YtclhjpageonkgaaGreat
open Go.RowKit

theorem box_own' {w : World} {base g n : Nat} {t : TypeId} {xs : List Value} (h : w.ownsRow base t 1 (.slice (some ⟨g, 0, none⟩) n n) n xs) : Box w g t xs.toArray := by
  obtain ⟨h1, h2 | ⟨g', cap, cur, h2, _, h3, _, _, h4, h5⟩⟩ := h
  · simp at h2
  · simp at h2
    obtain ⟨rfl, rfl⟩ := h2
    rw [List.take_of_length_le (by rw [Array.length_toList, h4]; exact Nat.le_refl _)] at h5
    subst h5
    simpa [Box] using h3
theorem zero_rows (n : Nat) : (madeCells (Value.slice none 0 0).cells (n * 1)).toList = List.replicate n (.slice none 0 0) := by
  rw [show (Value.slice none 0 0).cells = #[Value.slice none 0 0] from rfl, Nat.mul_one, toList_madeCells_one]
theorem box_off {w : World} {g : Nat} {t : TypeId} {cs : Array Value} (h : Box w g t cs) {p : Addr} (hp : g ≠ p.block) (u : Value) : Box (w.setCell p u) g t cs := (Below.heap_setCell w p u g hp).trans h
theorem lies_set {w : World} {N : Nat → Prop} {A : Option Addr} {n c : Nat} {xs : List Value} (h : Lies w N A n c xs) {p : Addr} (hp : ¬ N p.block) (u : Value) : Lies (w.setCell p u) N A n c xs :=
  h.keep (fun q hq _ => by
    apply World.cell?_setCell_other
    intro e
    exact hp (by rw [e]; exact hq)) (by simp)
theorem lies_below {w w' : World} {N : Nat → Prop} {A : Option Addr} {n c B : Nat} {xs : List Value} (h : Lies w N A n c xs) (hb : Below B w w') (hN : ∀ b, N b → b < B) : Lies w' N A n c xs :=
  h.keep (fun _ hq _ => hb.cell (hN _ hq)) hb.size

/-- Block g is n places; the first ones are rows that read as M, in blocks that fit N. -/
def RowsN (w : World) (g n : Nat) (N : Nat → Prop) (M : List (List UInt8)) : Prop :=
  ∃ cur : List Value, Box w g 49 cur.toArray ∧ cur.length = n ∧ M.length ≤ n ∧ ∀ (i : Nat) (l : List UInt8), M[i]? = some l → ∃ (Ai : Option Addr) (ci : Nat), cur[i]? = some (Value.slice Ai l.length ci) ∧ Lies w N Ai l.length ci (bc l)
section
variable {w w' : World} {g n : Nat} {N N' : Nat → Prop} {M : List (List UInt8)}
theorem RowsN.lt (h : RowsN w g n N M) : g < w.heap.size := h.choose_spec.1.lt
theorem RowsN.le (h : RowsN w g n N M) : M.length ≤ n := h.choose_spec.2.2.1
theorem RowsN.below (h : RowsN w g n N M) (hb : Below w.heap.size w w') : RowsN w' g n N M := by
  obtain ⟨cur, h1, h2, h3, h4⟩ := h
  refine ⟨cur, h1.below hb h1.lt, h2, h3, fun i l hl => ?_⟩
  obtain ⟨Ai, ci, h5, h6⟩ := h4 i l hl
  exact ⟨Ai, ci, h5, h6.below hb⟩
theorem RowsN.weak (h : RowsN w g n N M) (hN : ∀ b, b < w.heap.size → N b → N' b) : RowsN w g n N' M := by
  obtain ⟨cur, h1, h2, h3, h4⟩ := h
  refine ⟨cur, h1, h2, h3, fun i l hl => ?_⟩
  obtain ⟨Ai, ci, h5, h6⟩ := h4 i l hl
  exact ⟨Ai, ci, h5, h6.weak hN⟩
theorem RowsN.off (h : RowsN w g n N M) {p : Addr} (hp : ¬ N p.block) (hg : g ≠ p.block) (u : Value) : RowsN (w.setCell p u) g n N M := by
  obtain ⟨cur, h1, h2, h3, h4⟩ := h
  refine ⟨cur, box_off h1 hg u, h2, h3, fun i l hl => ?_⟩
  obtain ⟨Ai, ci, h5, h6⟩ := h4 i l hl
  exact ⟨Ai, ci, h5, lies_set h6 hp u⟩
/-- A row is read. -/
theorem RowsN.row (h : RowsN w g n N M) {i : Nat} {l : List UInt8} (hl : M[i]? = some l) : ∃ (Ai : Option Addr) (ci : Nat), w.cell? ⟨g, i, none⟩ = some (.slice Ai l.length ci) ∧ Lies w N Ai l.length ci (bc l) := by
  obtain ⟨cur, h1, h2, h3, h4⟩ := h
  obtain ⟨Ai, ci, h5, h6⟩ := h4 i l hl
  exact ⟨Ai, ci, by rw [h1.cell]; simpa using h5, h6⟩
/-- Some place there. -/
theorem RowsN.place (h : RowsN w g n N M) {i : Nat} (hi : i < n) : (∃ v, w.cell? ⟨g, i, none⟩ = some v) ∧ w.frozen? ⟨g, i, none⟩ = false := by
  obtain ⟨cur, h1, h2, h3, h4⟩ := h
  refine ⟨⟨cur[i]'(by omega), ?_⟩, h1.frozen i⟩
  rw [h1.cell]
  simp
/-- A place behind them is written. -/
theorem RowsN.beyond (h : RowsN w g n N M) (hg : ¬ N g) {i : Nat} (hi : M.length ≤ i) (u : Value) : RowsN (w.setCell ⟨g, i, none⟩ u) g n N M := by
  obtain ⟨cur, h1, h2, h3, h4⟩ := h
  refine ⟨cur.set i u, ?_, by simpa using h2, h3, fun k l hl => ?_⟩
  · have := h1.put i u
    rwa [List.setIfInBounds_toArray] at this
  · obtain ⟨Ai, ci, h5, h6⟩ := h4 k l hl
    have := (List.getElem?_eq_some_iff.1 hl).1
    exact ⟨Ai, ci, by rw [List.getElem?_set_ne (by omega)]; exact h5, lies_set h6 hg _⟩
/-- A row is put behind. -/
theorem RowsN.push (h : RowsN w g n N M) (hg : ¬ N g) (hlt : M.length < n) {A : Option Addr} {c m : Nat} {l : List UInt8} (hm : l.length = m) (hl : Lies w N A m c (bc l)) : RowsN (w.setCell ⟨g, M.length, none⟩ (.slice A m c)) g n N (M ++ [l]) := by
  subst hm
  obtain ⟨cur, h1, h2, h3, h4⟩ := h
  refine ⟨cur.set M.length (.slice A l.length c), ?_, by simpa using h2, by simp; omega, fun i l' hl' => ?_⟩
  · have := h1.put M.length (.slice A l.length c)
    rwa [List.setIfInBounds_toArray] at this
  · rcases Nat.lt_or_ge i M.length with hi | hi
    · rw [List.getElem?_append_left hi] at hl'
      obtain ⟨Ai, ci, h5, h6⟩ := h4 i l' hl'
      exact ⟨Ai, ci, by rw [List.getElem?_set_ne (by omega)]; exact h5, lies_set h6 hg _⟩
    · rw [List.getElem?_append_right hi] at hl'
      have hi0 : i = M.length := by
        have := (List.getElem?_eq_some_iff.1 hl').1
        simp at this
        omega
      subst hi0
      simp at hl'
      subst hl'
      exact ⟨A, c, by rw [List.getElem?_set_self (by omega)], lies_set hl hg _⟩
/-- A row that stands there already is one more. -/
theorem RowsN.more (h : RowsN w g n N M) (hlt : M.length < n) {A : Option Addr} {c m : Nat} {l : List UInt8} (hm : l.length = m) (hc : w.cell? ⟨g, M.length, none⟩ = some (.slice A m c)) (hl : Lies w N A m c (bc l)) : RowsN w g n N (M ++ [l]) := by
  subst hm
  obtain ⟨cur, h1, h2, h3, h4⟩ := h
  refine ⟨cur, h1, h2, by simp; omega, fun i l' hl' => ?_⟩
  rcases Nat.lt_or_ge i M.length with hi | hi
  · rw [List.getElem?_append_left hi] at hl'
    exact h4 i l' hl'
  · rw [List.getElem?_append_right hi] at hl'
    have hi0 : i = M.length := by
      have := (List.getElem?_eq_some_iff.1 hl').1
      simp at this
      omega
    subst hi0
    simp at hl'
    subst hl'
    rw [h1.cell] at hc
    exact ⟨A, c, by simpa using hc, hl⟩
/-- A row is put in another one's place. -/
theorem RowsN.put (h : RowsN w g n N M) (hg : ¬ N g) {i : Nat} {A : Option Addr} {c m : Nat} {l : List UInt8} (hm : l.length = m) (hl : Lies w N A m c (bc l)) : RowsN (w.setCell ⟨g, i, none⟩ (.slice A m c)) g n N (M.set i l) := by
  subst hm
  obtain ⟨cur, h1, h2, h3, h4⟩ := h
  refine ⟨cur.set i (.slice A l.length c), ?_, by simpa using h2, by simpa using h3, fun k l' hl' => ?_⟩
  · have := h1.put i (.slice A l.length c)
    rwa [List.setIfInBounds_toArray] at this
  · by_cases hk : i = k
    · subst hk
      have hi : i < M.length := by
        have := (List.getElem?_eq_some_iff.1 hl').1
        simpa using this
      rw [List.getElem?_set_self hi] at hl'
      cases hl'
      exact ⟨A, c, by rw [List.getElem?_set_self (by omega)], lies_set hl hg _⟩
    · rw [List.getElem?_set_ne hk] at hl'
      obtain ⟨Ai, ci, h5, h6⟩ := h4 k l' hl'
      exact ⟨Ai, ci, by rw [List.getElem?_set_ne hk]; exact h5, lies_set h6 hg _⟩
theorem RowsN.mtx (h : RowsN w g n N M) {m c : Nat} (hm : M.length = m) (hc : m ≤ c) : Mtx w (some ⟨g, 0, none⟩) m c M := by
  refine ⟨hm, hc, fun _ => ⟨g, 0, rfl, h.lt, fun i l hl => ?_⟩⟩
  obtain ⟨Ai, ci, h5, h6⟩ := h.row hl
  exact ⟨Ai, ci, by rw [Nat.zero_add]; exact h5, h6.weak (fun _ _ _ => trivial)⟩
end
/-- A new block of n places. -/
theorem rows_made {w : World} {base g n : Nat} (N : Nat → Prop) (h : w.ownsRow base 49 1 (.slice (some ⟨g, 0, none⟩) n n) n (madeCells (Value.slice none 0 0).cells (n * 1)).toList) : RowsN w g n N [] := by
  rw [zero_rows] at h
  exact ⟨List.replicate n (.slice none 0 0), box_own' h, by simp, by simp, fun i l hl => by simp at hl⟩
/-- A matrix handed back. -/
def GivesM (w : World) (M : List (List UInt8)) (e : Ending) (w' : World) : Prop := ∃ A n c, e = .returned (.slice A n c) ∧ Mtx w' A n c M ∧ Below w.heap.size w w'
/-- A matrix made by a rule. -/
def matBy (rows cols : Nat) (F : Nat → Nat → UInt8) : List (List UInt8) := (List.range rows).map (fun i => byRule cols (F i))
theorem matBy_succ (k cols : Nat) (F : Nat → Nat → UInt8) : matBy (k + 1) cols F = matBy k cols F ++ [byRule cols (F k)] := by simp [matBy, List.range_succ]
theorem matBy_length (k cols : Nat) (F : Nat → Nat → UInt8) : (matBy k cols F).length = k := by simp [matBy]
theorem matBy_at (k cols : Nat) (F : Nat → Nat → UInt8) {i : Nat} (hi : i < k) : (matBy k cols F)[i]? = some (byRule cols (F i)) := by simp [matBy, hi]
end Go.Proofs.YtclhjpageonkgaaGreat
