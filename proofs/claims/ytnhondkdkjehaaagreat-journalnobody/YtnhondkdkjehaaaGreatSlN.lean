/-
  Lists of lists of bytes: those that are read, and those that a call builds, row by row.
  Rows of bytes in a block of the call's own, whose places are written.
-/
import Derived.Test.YtnhondkdkjehaaaGreatSlB
import Derived.Maps.AppendAt
namespace Go.Proofs.YtnhondkdkjehaaaGreat
open Go.RowKit

/-- A slice that reads as rows of bytes. -/
def Mtx (w : World) (A : Option Addr) (n c : Nat) (M : List (List UInt8)) : Prop :=
  M.length = n ∧ n ≤ c ∧ (0 < n → ∃ b off, A = some ⟨b, off, none⟩ ∧ b < w.heap.size ∧ ∀ (i : Nat) (l : List UInt8), M[i]? = some l → ∃ Ai ci, w.cell? ⟨b, off + i, none⟩ = some (.slice Ai l.length ci) ∧ Lies w (fun _ => True) Ai l.length ci (bc l))
section
variable {w w' : World} {A : Option Addr} {n c : Nat} {M : List (List UInt8)}
theorem Mtx.len (h : Mtx w A n c M) : M.length = n := h.1
theorem Mtx.le (h : Mtx w A n c M) : n ≤ c := h.2.1
theorem Mtx.below (h : Mtx w A n c M) (hb : Below w.heap.size w w') : Mtx w' A n c M := by
  refine ⟨h.1, h.2.1, fun h0 => ?_⟩
  obtain ⟨b, off, h1, h2, h3⟩ := h.2.2 h0
  refine ⟨b, off, h1, Nat.lt_of_lt_of_le h2 hb.size, fun i l hl => ?_⟩
  obtain ⟨Ai, ci, h4, h5⟩ := h3 i l hl
  exact ⟨Ai, ci, (hb.cell (p := ⟨b, off + i, none⟩) h2).trans h4, h5.below hb⟩
theorem Mtx.nil (w : World) (A : Option Addr) (c : Nat) : Mtx w A 0 c [] := ⟨rfl, Nat.zero_le _, fun h => absurd h (Nat.lt_irrefl _)⟩
theorem Mtx.row (h : Mtx w A n c M) {i : Nat} {l : List UInt8} (hl : M[i]? = some l) : ∃ b off Ai ci, A = some ⟨b, off, none⟩ ∧ b < w.heap.size ∧ w.cell? ⟨b, off + i, none⟩ = some (.slice Ai l.length ci) ∧ Lies w (fun _ => True) Ai l.length ci (bc l) := by
  have hi : i < M.length := (List.getElem?_eq_some_iff.1 hl).1
  obtain ⟨b, off, h1, h2, h3⟩ := h.2.2 (by rw [← h.1]; omega)
  obtain ⟨Ai, ci, h4, h5⟩ := h3 i l hl
  exact ⟨b, off, Ai, ci, h1, h2, h4, h5⟩
end

/-- A block of bytes. -/
def Nb (w : World) (b : Nat) : Prop := ∃ cur fz, w.heap[b]? = some (.cells cur 5 fz)
theorem Lies.nb {w w' : World} {A : Option Addr} {n c : Nat} {xs : List Value} (h : Lies w (Nb w) A n c xs) (hb : Below w.heap.size w w') : Lies w' (Nb w') A n c xs := by
  have h1 := h.below hb
  refine ⟨h1.1, h1.2.1, fun hn => ?_⟩
  obtain ⟨ad, e1, ⟨cur, fz, e2⟩, e3, e4⟩ := h.2.2 hn
  exact ⟨ad, e1, ⟨cur, fz, (hb.block _ e3).trans e2⟩, Nat.lt_of_lt_of_le e3 hb.size, fun j u hu => (hb.cell (by rw [add_block]; exact e3)).trans (e4 j u hu)⟩
theorem Lies.nb_grown {w w' : World} {A : Option Addr} {n c g : Nat} {xs : List Value} {cur : Array Value} {t : TypeId} (h : Lies w (Nb w) A n c xs) (hg : w.grownBy w' (some g)) (hgt : w.heap[g]? = some (.cells cur t (0, 0))) (ht : t ≠ 5) : Lies w' (Nb w') A n c xs := by
  refine ⟨h.1, h.2.1, fun hn => ?_⟩
  obtain ⟨ad, e1, ⟨cur', fz, e2⟩, e3, e4⟩ := h.2.2 hn
  have hne : ad.block ≠ g := fun e => by
    rw [e, hgt] at e2
    injection e2 with e2
    injection e2 with _ e2
    exact ht e2
  have hbl : w'.heap[ad.block]? = w.heap[ad.block]? := hg.block _ e3 (fun e => hne (Option.some.inj e))
  exact ⟨ad, e1, ⟨cur', fz, hbl.trans e2⟩, Nat.lt_of_lt_of_le e3 hg.size, fun j u hu => (World.cell?_of_block (w := w) (by rw [add_block]; exact hbl)).trans (e4 j u hu)⟩
theorem Own.liesN {w : World} {base : Nat} {v : Value} {l : List UInt8} (h : Own w base v l) : ∃ A c, v = .slice A l.length c ∧ Lies w (Nb w) A l.length c (bc l) := by
  have hlt := World.ownsRow.lt h
  rcases h.2 with ⟨hv, hn⟩ | ⟨g, cap, cur, hv, _, hh, hnc, _⟩
  · have hl : l = [] := List.eq_nil_of_length_eq_zero hn
    subst hl
    exact ⟨none, 0, hv, Lies.nil _ _⟩
  · subst hv
    exact ⟨_, cap, rfl, bc_length l, hnc, fun _ => ⟨⟨g, 0, none⟩, rfl, ⟨cur, _, hh⟩, (hlt g rfl).2, fun j u hu => World.ownsRow.cells h (g := g) rfl j u hu⟩⟩

/-- Rows that a call builds. -/
def Bld (w : World) (base : Nat) (v : Value) (M : List (List UInt8)) : Prop :=
  ∃ vals : List Value, w.ownsRow base 49 1 v vals.length vals ∧ vals.length = M.length ∧ ∀ (i : Nat) (l : List UInt8), M[i]? = some l → ∃ (Ai : Option Addr) (ci : Nat), vals[i]? = some (Value.slice Ai l.length ci) ∧ Lies w (Nb w) Ai l.length ci (bc l)
section
variable {w w' : World} {base : Nat} {v : Value} {M : List (List UInt8)}
theorem Bld.nil (w : World) (base : Nat) : Bld w base (.slice none 0 0) [] := ⟨[], World.ownsRow_nil w base _ 1, rfl, fun i l h => by simp at h⟩
theorem Bld.below (h : Bld w base v M) (hb : Below w.heap.size w w') : Bld w' base v M := by
  obtain ⟨vals, h1, h2, h3⟩ := h
  refine ⟨vals, World.ownsRow.kept h1 (grown_of_below hb none) (by cases hv : v.ownBlock <;> simp), h2, fun i l hl => ?_⟩
  obtain ⟨Ai, ci, h4, h5⟩ := h3 i l hl
  exact ⟨Ai, ci, h4, h5.nb hb⟩
theorem Bld.mtx (h : Bld w base v M) : ∃ A c, v = .slice A M.length c ∧ Mtx w A M.length c M := by
  obtain ⟨vals, h1, h2, h3⟩ := h
  have hlt := World.ownsRow.lt h1
  rcases h1.2 with ⟨hv, hn⟩ | ⟨g, cap, cur, hv, _, _, hnc, _⟩
  · have hl : M = [] := List.eq_nil_of_length_eq_zero (by omega)
    subst hl
    exact ⟨none, 0, hv, Mtx.nil _ _ _⟩
  · refine ⟨some ⟨g, 0, none⟩, cap, by rw [hv, h2], rfl, by omega, fun _ => ⟨g, 0, rfl, (hlt g (by rw [hv]; rfl)).2, fun i l hl => ?_⟩⟩
    obtain ⟨Ai, ci, h4, h5⟩ := h3 i l hl
    refine ⟨Ai, ci, ?_, h5.weak (fun _ _ _ => trivial)⟩
    subst hv
    have := World.ownsRow.cells h1 (g := g) rfl i _ h4
    rwa [Addr.add_mid] at this
end
theorem rowInfo : (Tryz.prog.info? 49).map (fun i => (i.zero, i.size, i.bytes)) = some (some (.slice none 0 0), 1, 24) := by kernel_rfl
/-- 'append(out, row)', at the operation. -/
theorem wpList_append_row {ops : Array Oper} {rest : List Oper} {o : Oper} {a : Act} {Q : Exit → Act → World → Prop} (w : World) (s x : Operand) (hgd : o.guard = none)
    (hop : o.op = .call { callee := .builtin .append, args := #[s, x], argTypes := #[129, 129] })
    (base : Nat) (v : Value) (M : List (List UInt8)) (A : Option Addr) (c : Nat) (l : List UInt8) (hs : a.eval s = v) (hx : a.eval x = .slice (some ⟨w.heap.size, 0, none⟩) 1 1) (hbl : Bld w base v M) (hl : Lies w (Nb w) A l.length c (bc l)) (hz : M.length ≤ 100000) (hb : base ≤ w.heap.size)
    (K : ∀ v' w', Bld w' base v' (M ++ [l]) → Below base w w' → wpList Tryz.prog ops Q rest (a.put o.dst v') w') : wpList Tryz.prog ops Q (o :: rest) a (w.alloc (.cells #[.slice A l.length c] 49)) := by
  obtain ⟨i0, hi, hz0, hz1, hz2⟩ := info_parts rowInfo
  have hb0 : Below w.heap.size w (w.alloc (.cells #[.slice A l.length c] 49)) := (Below.refl _ w).alloc (Nat.le_refl _) _
  obtain ⟨vals, h1, h2, h3⟩ := hbl.below hb0
  have hl0 := hl.nb hb0
  refine wpList_append_own _ hgd s x 129 hop base 49 i0 (.slice none 0 0) 1 24 Tryz.underlying129 hi hz0 hz1 hz2 rfl (by decide) v vals.length vals hs h1 ⟨w.heap.size, 0, none⟩ 1 1 [.slice A l.length c] hx rfl
    (cell_one_new w _ _) (by simp [Value.oneCell']) (by unfold maxLen; omega) (by omega) (by simp; omega) ?_
  intro v' w' r1 r2 _
  have hA : Below base w (w.alloc (.cells #[.slice A l.length c] 49)) := (Below.refl base w).alloc hb _
  have hlt := World.ownsRow.lt h1
  have keep : ∀ {A' : Option Addr} {n' c' : Nat} {xs : List Value}, Lies (w.alloc (.cells #[.slice A l.length c] 49)) (Nb _) A' n' c' xs → Lies w' (Nb w') A' n' c' xs := fun {A' n' c' xs} hh => by
    rcases h1.2 with ⟨hv, _⟩ | ⟨g, cap, cur, hv, _, hgt, _⟩
    · rw [hv] at r2
      have hbb : Below (w.alloc (.cells #[.slice A l.length c] 49)).heap.size (w.alloc (.cells #[.slice A l.length c] 49)) w' := (Below.refl _ _).grown r2 (Nat.le_refl _) (fun k hk => by cases hk)
      exact hh.nb hbb
    · rw [hv] at r2
      exact hh.nb_grown (g := g) r2 hgt (by decide)
  refine K v' w' ⟨vals ++ [.slice A l.length c], ?_, by simp [h2], fun i l' hl' => ?_⟩ (hA.trans ((Below.refl base _).grown r2 (by simp; omega) (fun k hk => (hlt k hk).1)))
  · rw [List.length_append]
    exact r1
  · rcases Nat.lt_or_ge i M.length with hi' | hi'
    · rw [List.getElem?_append_left hi'] at hl'
      obtain ⟨Ai, ci, h4, h5⟩ := h3 i l' hl'
      exact ⟨Ai, ci, by rw [List.getElem?_append_left (by omega)]; exact h4, keep h5⟩
    · rw [List.getElem?_append_right hi'] at hl'
      have hi0 : i - M.length = 0 := by
        have := (List.getElem?_eq_some_iff.1 hl').1
        simp at this
        omega
      rw [hi0] at hl'
      simp at hl'
      subst hl'
      refine ⟨A, c, ?_, keep hl0⟩
      rw [List.getElem?_append_right (by omega), show i - vals.length = 0 by omega]
      rfl
/-- One byte in a new block. -/
theorem lies_one (w : World) (u : UInt8) : Lies (w.alloc (.cells #[.int .u8 (u.toNat : Int)] 5)) (fun _ => True) (some ⟨w.heap.size, 0, none⟩) 1 1 (bc [u]) := by
  refine ⟨rfl, Nat.le_refl _, fun _ => ⟨_, rfl, trivial, by simp, fun j v hv => ?_⟩⟩
  exact cell_one_new w _ _ j v hv
end Go.Proofs.YtnhondkdkjehaaaGreat
namespace Go.Proofs.YtnhondkdkjehaaaGreat
open Go.RowKit

theorem box_own' {w : World} {base g n : Nat} {t : TypeId} {xs : List Value} (h : w.ownsRow base t 1 (.slice (some ⟨g, 0, none⟩) n n) n xs) : Box w g t xs.toArray := by
  obtain ⟨h1, h2 | ⟨g', cap, cur, h2, _, h3, _, _, h4, h5⟩⟩ := h
  · simp at h2
  · simp at h2
    obtain ⟨rfl, rfl⟩ := h2
    rw [List.take_of_length_le (by rw [Array.length_toList, h4]; exact Nat.le_refl _)] at h5
    subst h5
    simpa [Box] using h3
theorem zero_rows (n : Nat) : (madeCells (Value.slice none 0 0).cells (n * 1)).toList = List.replicate n (.slice none 0 0) := by
  rw [show (Value.slice none 0 0).cells = #[Value.slice none 0 0] from rfl, Nat.mul_one, toList_madeCells_one]
theorem box_off {w : World} {g : Nat} {t : TypeId} {cs : Array Value} (h : Box w g t cs) {p : Addr} (hp : g ≠ p.block) (u : Value) : Box (w.setCell p u) g t cs := (Below.heap_setCell w p u g hp).trans h
theorem lies_set {w : World} {N : Nat → Prop} {A : Option Addr} {n c : Nat} {xs : List Value} (h : Lies w N A n c xs) {p : Addr} (hp : ¬ N p.block) (u : Value) : Lies (w.setCell p u) N A n c xs :=
  h.keep (fun q hq _ => by
    apply World.cell?_setCell_other
    intro e
    exact hp (by rw [e]; exact hq)) (by simp)
theorem lies_below {w w' : World} {N : Nat → Prop} {A : Option Addr} {n c B : Nat} {xs : List Value} (h : Lies w N A n c xs) (hb : Below B w w') (hN : ∀ b, N b → b < B) : Lies w' N A n c xs :=
  h.keep (fun _ hq _ => hb.cell (hN _ hq)) hb.size

/-- Block g is n places; the first ones are rows that read as M, in blocks that fit N. -/
def RowsN (w : World) (g n : Nat) (N : Nat → Prop) (M : List (List UInt8)) : Prop :=
  ∃ cur : List Value, Box w g 49 cur.toArray ∧ cur.length = n ∧ M.length ≤ n ∧ ∀ (i : Nat) (l : List UInt8), M[i]? = some l → ∃ (Ai : Option Addr) (ci : Nat), cur[i]? = some (Value.slice Ai l.length ci) ∧ Lies w N Ai l.length ci (bc l)
section
variable {w w' : World} {g n : Nat} {N N' : Nat → Prop} {M : List (List UInt8)}
theorem RowsN.lt (h : RowsN w g n N M) : g < w.heap.size := h.choose_spec.1.lt
theorem RowsN.le (h : RowsN w g n N M) : M.length ≤ n := h.choose_spec.2.2.1
theorem RowsN.below (h : RowsN w g n N M) (hb : Below w.heap.size w w') : RowsN w' g n N M := by
  obtain ⟨cur, h1, h2, h3, h4⟩ := h
  refine ⟨cur, h1.below hb h1.lt, h2, h3, fun i l hl => ?_⟩
  obtain ⟨Ai, ci, h5, h6⟩ := h4 i l hl
  exact ⟨Ai, ci, h5, h6.below hb⟩
theorem RowsN.weak (h : RowsN w g n N M) (hN : ∀ b, b < w.heap.size → N b → N' b) : RowsN w g n N' M := by
  obtain ⟨cur, h1, h2, h3, h4⟩ := h
  refine ⟨cur, h1, h2, h3, fun i l hl => ?_⟩
  obtain ⟨Ai, ci, h5, h6⟩ := h4 i l hl
  exact ⟨Ai, ci, h5, h6.weak hN⟩
theorem RowsN.off (h : RowsN w g n N M) {p : Addr} (hp : ¬ N p.block) (hg : g ≠ p.block) (u : Value) : RowsN (w.setCell p u) g n N M := by
  obtain ⟨cur, h1, h2, h3, h4⟩ := h
  refine ⟨cur, box_off h1 hg u, h2, h3, fun i l hl => ?_⟩
  obtain ⟨Ai, ci, h5, h6⟩ := h4 i l hl
  exact ⟨Ai, ci, h5, lies_set h6 hp u⟩
/-- A row is read. -/
theorem RowsN.row (h : RowsN w g n N M) {i : Nat} {l : List UInt8} (hl : M[i]? = some l) : ∃ (Ai : Option Addr) (ci : Nat), w.cell? ⟨g, i, none⟩ = some (.slice Ai l.length ci) ∧ Lies w N Ai l.length ci (bc l) := by
  obtain ⟨cur, h1, h2, h3, h4⟩ := h
  obtain ⟨Ai, ci, h5, h6⟩ := h4 i l hl
  exact ⟨Ai, ci, by rw [h1.cell]; simpa using h5, h6⟩
/-- Some place there. -/
theorem RowsN.place (h : RowsN w g n N M) {i : Nat} (hi : i < n) : (∃ v, w.cell? ⟨g, i, none⟩ = some v) ∧ w.frozen? ⟨g, i, none⟩ = false := by
  obtain ⟨cur, h1, h2, h3, h4⟩ := h
  refine ⟨⟨cur[i]'(by omega), ?_⟩, h1.frozen i⟩
  rw [h1.cell]
  simp
/-- A place behind them is written. -/
theorem RowsN.beyond (h : RowsN w g n N M) (hg : ¬ N g) {i : Nat} (hi : M.length ≤ i) (u : Value) : RowsN (w.setCell ⟨g, i, none⟩ u) g n N M := by
  obtain ⟨cur, h1, h2, h3, h4⟩ := h
  refine ⟨cur.set i u, ?_, by simpa using h2, h3, fun k l hl => ?_⟩
  · have := h1.put i u
    rwa [List.setIfInBounds_toArray] at this
  · obtain ⟨Ai, ci, h5, h6⟩ := h4 k l hl
    have := (List.getElem?_eq_some_iff.1 hl).1
    exact ⟨Ai, ci, by rw [List.getElem?_set_ne (by omega)]; exact h5, lies_set h6 hg _⟩
/-- A row is put behind. -/
theorem RowsN.push (h : RowsN w g n N M) (hg : ¬ N g) (hlt : M.length < n) {A : Option Addr} {c m : Nat} {l : List UInt8} (hm : l.length = m) (hl : Lies w N A m c (bc l)) : RowsN (w.setCell ⟨g, M.length, none⟩ (.slice A m c)) g n N (M ++ [l]) := by
  subst hm
  obtain ⟨cur, h1, h2, h3, h4⟩ := h
  refine ⟨cur.set M.length (.slice A l.length c), ?_, by simpa using h2, by simp; omega, fun i l' hl' => ?_⟩
  · have := h1.put M.length (.slice A l.length c)
    rwa [List.setIfInBounds_toArray] at this
  · rcases Nat.lt_or_ge i M.length with hi | hi
    · rw [List.getElem?_append_left hi] at hl'
      obtain ⟨Ai, ci, h5, h6⟩ := h4 i l' hl'
      exact ⟨Ai, ci, by rw [List.getElem?_set_ne (by omega)]; exact h5, lies_set h6 hg _⟩
    · rw [List.getElem?_append_right hi] at hl'
      have hi0 : i = M.length := by
        have := (List.getElem?_eq_some_iff.1 hl').1
        simp at this
        omega
      subst hi0
      simp at hl'
      subst hl'
      exact ⟨A, c, by rw [List.getElem?_set_self (by omega)], lies_set hl hg _⟩
/-- A row that stands there already is one more. -/
theorem RowsN.more (h : RowsN w g n N M) (hlt : M.length < n) {A : Option Addr} {c m : Nat} {l : List UInt8} (hm : l.length = m) (hc : w.cell? ⟨g, M.length, none⟩ = some (.slice A m c)) (hl : Lies w N A m c (bc l)) : RowsN w g n N (M ++ [l]) := by
  subst hm
  obtain ⟨cur, h1, h2, h3, h4⟩ := h
  refine ⟨cur, h1, h2, by simp; omega, fun i l' hl' => ?_⟩
  rcases Nat.lt_or_ge i M.length with hi | hi
  · rw [List.getElem?_append_left hi] at hl'
    exact h4 i l' hl'
  · rw [List.getElem?_append_right hi] at hl'
    have hi0 : i = M.length := by
      have := (List.getElem?_eq_some_iff.1 hl').1
      simp at this
      omega
    subst hi0
    simp at hl'
    subst hl'
    rw [h1.cell] at hc
    exact ⟨A, c, by simpa using hc, hl⟩
/-- A row is put in another one's place. -/
theorem RowsN.put (h : RowsN w g n N M) (hg : ¬ N g) {i : Nat} {A : Option Addr} {c m : Nat} {l : List UInt8} (hm : l.length = m) (hl : Lies w N A m c (bc l)) : RowsN (w.setCell ⟨g, i, none⟩ (.slice A m c)) g n N (M.set i l) := by
  subst hm
  obtain ⟨cur, h1, h2, h3, h4⟩ := h
  refine ⟨cur.set i (.slice A l.length c), ?_, by simpa using h2, by simpa using h3, fun k l' hl' => ?_⟩
  · have := h1.put i (.slice A l.length c)
    rwa [List.setIfInBounds_toArray] at this
  · by_cases hk : i = k
    · subst hk
      have hi : i < M.length := by
        have := (List.getElem?_eq_some_iff.1 hl').1
        simpa using this
      rw [List.getElem?_set_self hi] at hl'
      cases hl'
      exact ⟨A, c, by rw [List.getElem?_set_self (by omega)], lies_set hl hg _⟩
    · rw [List.getElem?_set_ne hk] at hl'
      obtain ⟨Ai, ci, h5, h6⟩ := h4 k l' hl'
      exact ⟨Ai, ci, by rw [List.getElem?_set_ne hk]; exact h5, lies_set h6 hg _⟩
theorem RowsN.mtx (h : RowsN w g n N M) {m c : Nat} (hm : M.length = m) (hc : m ≤ c) : Mtx w (some ⟨g, 0, none⟩) m c M := by
  refine ⟨hm, hc, fun _ => ⟨g, 0, rfl, h.lt, fun i l hl => ?_⟩⟩
  obtain ⟨Ai, ci, h5, h6⟩ := h.row hl
  exact ⟨Ai, ci, by rw [Nat.zero_add]; exact h5, h6.weak (fun _ _ _ => trivial)⟩
end
/-- A new block of n places. -/
theorem rows_made {w : World} {base g n : Nat} (N : Nat → Prop) (h : w.ownsRow base 49 1 (.slice (some ⟨g, 0, none⟩) n n) n (madeCells (Value.slice none 0 0).cells (n * 1)).toList) : RowsN w g n N [] := by
  rw [zero_rows] at h
  exact ⟨List.replicate n (.slice none 0 0), box_own' h, by simp, by simp, fun i l hl => by simp at hl⟩
/-- A matrix handed back. -/
def GivesM (w : World) (M : List (List UInt8)) (e : Ending) (w' : World) : Prop := ∃ A n c, e = .returned (.slice A n c) ∧ Mtx w' A n c M ∧ Below w.heap.size w w'
/-- A matrix made by a rule. -/
def matBy (rows cols : Nat) (F : Nat → Nat → UInt8) : List (List UInt8) := (List.range rows).map (fun i => byRule cols (F i))
theorem matBy_succ (k cols : Nat) (F : Nat → Nat → UInt8) : matBy (k + 1) cols F = matBy k cols F ++ [byRule cols (F k)] := by simp [matBy, List.range_succ]
theorem matBy_length (k cols : Nat) (F : Nat → Nat → UInt8) : (matBy k cols F).length = k := by simp [matBy]
theorem matBy_at (k cols : Nat) (F : Nat → Nat → UInt8) {i : Nat} (hi : i < k) : (matBy k cols F)[i]? = some (byRule cols (F i)) := by simp [matBy, hi]
end Go.Proofs.YtnhondkdkjehaaaGreat
