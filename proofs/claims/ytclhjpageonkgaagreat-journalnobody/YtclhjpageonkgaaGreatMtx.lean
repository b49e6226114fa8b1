/-
  Lists of lists of bytes: those that are read, and those that a call builds, row by row.
-/
import Derived.Test.YtclhjpageonkgaaGreatSlB
import Derived.Maps.AppendAt
namespace Go.Proofs.YtclhjpageonkgaaGreat
open Go.RowKit

/-- A slice that reads as rows of bytes. -/
def Mtx (w : World) (A : Option Addr) (n c : Nat) (M : List (List UInt8)) : Prop :=
  M.length = n ∧ n ≤ c ∧ (0 < n → ∃ b off, A = some ⟨b, off, none⟩ ∧ b < w.heap.size ∧ ∀ (i : Nat) (l : List UInt8), M[i]? = some l → ∃ Ai ci, w.cell? ⟨b, off + i, none⟩ = some (.slice Ai l.length ci) ∧ Lies w (fun _ => True) Ai l.length ci (bc l))
section
variable {w w' : World} {A : Option Addr} {n c : Nat} {M : List (List UInt8)}
theorem Mtx.len (h : Mtx w A n c M) : M.length = n := h.1
theorem Mtx.le (h : Mtx w A n c M) : n ≤ c := h.2.1
theorem Mtx.below (h : Mtx w A n c M) (hb : Below w.heap.size w w') : Mtx w' A n c M := by
  refine ⟨h.1, h.2.1, fun h0 => ?_⟩
  obtain ⟨b, off, h1, h2, h3⟩ := h.2.2 h0
  refine ⟨b, off, h1, Nat.lt_of_lt_of_le h2 hb.size, fun i l hl => ?_⟩
  obtain ⟨Ai, ci, h4, h5⟩ := h3 i l hl
  exact ⟨Ai, ci, (hb.cell (p := ⟨b, off + i, none⟩) h2).trans h4, h5.below hb⟩
theorem Mtx.nil (w : World) (A : Option Addr) (c : Nat) : Mtx w A 0 c [] := ⟨rfl, Nat.zero_le _, fun h => absurd h (Nat.lt_irrefl _)⟩
theorem Mtx.row (h : Mtx w A n c M) {i : Nat} {l : List UInt8} (hl : M[i]? = some l) : ∃ b off Ai ci, A = some ⟨b, off, none⟩ ∧ b < w.heap.size ∧ w.cell? ⟨b, off + i, none⟩ = some (.slice Ai l.length ci) ∧ Lies w (fun _ => True) Ai l.length ci (bc l) := by
  have hi : i < M.length := (List.getElem?_eq_some_iff.1 hl).1
  obtain ⟨b, off, h1, h2, h3⟩ := h.2.2 (by rw [← h.1]; omega)
  obtain ⟨Ai, ci, h4, h5⟩ := h3 i l hl
  exact ⟨b, off, Ai, ci, h1, h2, h4, h5⟩
end

/-- A block of bytes. -/
def Nb (w : World) (b : Nat) : Prop := ∃ cur fz, w.heap[b]? = some (.cells cur 5 fz)
theorem Lies.nb {w w' : World} {A : Option Addr} {n c : Nat} {xs : List Value} (h : Lies w (Nb w) A n c xs) (hb : Below w.heap.size w w') : Lies w' (Nb w') A n c xs := by
  have h1 := h.below hb
  refine ⟨h1.1, h1.2.1, fun hn => ?_⟩
  obtain ⟨ad, e1, ⟨cur, fz, e2⟩, e3, e4⟩ := h.2.2 hn
  exact ⟨ad, e1, ⟨cur, fz, (hb.block _ e3).trans e2⟩, Nat.lt_of_lt_of_le e3 hb.size, fun j u hu => (hb.cell (by rw [add_block]; exact e3)).trans (e4 j u hu)⟩
theorem Lies.nb_grown {w w' : World} {A : Option Addr} {n c g : Nat} {xs : List Value} {cur : Array Value} {t : TypeId} (h : Lies w (Nb w) A n c xs) (hg : w.grownBy w' (some g)) (hgt : w.heap[g]? = some (.cells cur t (0, 0))) (ht : t ≠ 5) : Lies w' (Nb w') A n c xs := by
  refine ⟨h.1, h.2.1, fun hn => ?_⟩
  obtain ⟨ad, e1, ⟨cur', fz, e2⟩, e3, e4⟩ := h.2.2 hn
  have hne : ad.block ≠ g := fun e => by
    rw [e, hgt] at e2
    injection e2 with e2
    injection e2 with _ e2
    exact ht e2
  have hbl : w'.heap[ad.block]? = w.heap[ad.block]? := hg.block _ e3 (fun e => hne (Option.some.inj e))
  exact ⟨ad, e1, ⟨cur', fz, hbl.trans e2⟩, Nat.lt_of_lt_of_le e3 hg.size, fun j u hu => (World.cell?_of_block (w := w) (by rw [add_block]; exact hbl)).trans (e4 j u hu)⟩
theorem Own.liesN {w : World} {base : Nat} {v : Value} {l : List UInt8} (h : Own w base v l) : ∃ A c, v = .slice A l.length c ∧ Lies w (Nb w) A l.length c (bc l) := by
  have hlt := World.ownsRow.lt h
  rcases h.2 with ⟨hv, hn⟩ | ⟨g, cap, cur, hv, _, hh, hnc, _⟩
  · have hl : l = [] := List.eq_nil_of_length_eq_zero hn
    subst hl
    exact ⟨none, 0, hv, Lies.nil _ _⟩
  · subst hv
    exact ⟨_, cap, rfl, bc_length l, hnc, fun _ => ⟨⟨g, 0, none⟩, rfl, ⟨cur, _, hh⟩, (hlt g rfl).2, fun j u hu => World.ownsRow.cells h (g := g) rfl j u hu⟩⟩

/-- Rows that a call builds. -/
def Bld (w : World) (base : Nat) (v : Value) (M : List (List UInt8)) : Prop :=
  ∃ vals : List Value, w.ownsRow base 49 1 v vals.length vals ∧ vals.length = M.length ∧ ∀ (i : Nat) (l : List UInt8), M[i]? = some l → ∃ (Ai : Option Addr) (ci : Nat), vals[i]? = some (Value.slice Ai l.length ci) ∧ Lies w (Nb w) Ai l.length ci (bc l)
section
variable {w w' : World} {base : Nat} {v : Value} {M : List (List UInt8)}
theorem Bld.nil (w : World) (base : Nat) : Bld w base (.slice none 0 0) [] := ⟨[], World.ownsRow_nil w base _ 1, rfl, fun i l h => by simp at h⟩
theorem Bld.below (h : Bld w base v M) (hb : Below w.heap.size w w') : Bld w' base v M := by
  obtain ⟨vals, h1, h2, h3⟩ := h
  refine ⟨vals, World.ownsRow.kept h1 (grown_of_below hb none) (by cases hv : v.ownBlock <;> simp), h2, fun i l hl => ?_⟩
  obtain ⟨Ai, ci, h4, h5⟩ := h3 i l hl
  exact ⟨Ai, ci, h4, h5.nb hb⟩
theorem Bld.mtx (h : Bld w base v M) : ∃ A c, v = .slice A M.length c ∧ Mtx w A M.length c M := by
  obtain ⟨vals, h1, h2, h3⟩ := h
  have hlt := World.ownsRow.lt h1
  rcases h1.2 with ⟨hv, hn⟩ | ⟨g, cap, cur, hv, _, _, hnc, _⟩
  · have hl : M = [] := List.eq_nil_of_length_eq_zero (by omega)
    subst hl
    exact ⟨none, 0, hv, Mtx.nil _ _ _⟩
  · refine ⟨some ⟨g, 0, none⟩, cap, by rw [hv, h2], rfl, by omega, fun _ => ⟨g, 0, rfl, (hlt g (by rw [hv]; rfl)).2, fun i l hl => ?_⟩⟩
    obtain ⟨Ai, ci, h4, h5⟩ := h3 i l hl
    refine ⟨Ai, ci, ?_, h5.weak (fun _ _ _ => trivial)⟩
    subst hv
    have := World.ownsRow.cells h1 (g := g) rfl i _ h4
    rwa [Addr.add_mid] at this
end
theorem rowInfo : (Tryz.prog.info? 49).map (fun i => (i.zero, i.size, i.bytes)) = some (some (.slice none 0 0), 1, 24) := by kernel_rfl
/-- 'append(out, row)', at the operation. -/
theorem wpList_append_row {ops : Array Oper} {rest : List Oper} {o : Oper} {a : Act} {Q : Exit → Act → World → Prop} (w : World) (s x : Operand) (hgd : o.guard = none)
    (hop : o.op = .call { callee := .builtin .append, args := #[s, x], argTypes := #[138, 138] })
    (base : Nat) (v : Value) (M : List (List UInt8)) (A : Option Addr) (c : Nat) (l : List UInt8) (hs : a.eval s = v) (hx : a.eval x = .slice (some ⟨w.heap.size, 0, none⟩) 1 1) (hbl : Bld w base v M) (hl : Lies w (Nb w) A l.length c (bc l)) (hz : M.length ≤ 100000) (hb : base ≤ w.heap.size)
    (K : ∀ v' w', Bld w' base v' (M ++ [l]) → Below base w w' → wpList Tryz.prog ops Q rest (a.put o.dst v') w') : wpList Tryz.prog ops Q (o :: rest) a (w.alloc (.cells #[.slice A l.length c] 49)) := by
  obtain ⟨i0, hi, hz0, hz1, hz2⟩ := info_parts rowInfo
  have hb0 : Below w.heap.size w (w.alloc (.cells #[.slice A l.length c] 49)) := (Below.refl _ w).alloc (Nat.le_refl _) _
  obtain ⟨vals, h1, h2, h3⟩ := hbl.below hb0
  have hl0 := hl.nb hb0
  refine wpList_append_own _ hgd s x 138 hop base 49 i0 (.slice none 0 0) 1 24 Tryz.underlying138 hi hz0 hz1 hz2 rfl (by decide) v vals.length vals hs h1 ⟨w.heap.size, 0, none⟩ 1 1 [.slice A l.length c] hx rfl
    (cell_one_new w _ _) (by simp [Value.oneCell']) (by unfold maxLen; omega) (by omega) (by simp; omega) ?_
  intro v' w' r1 r2 _
  have hA : Below base w (w.alloc (.cells #[.slice A l.length c] 49)) := (Below.refl base w).alloc hb _
  have hlt := World.ownsRow.lt h1
  have keep : ∀ {A' : Option Addr} {n' c' : Nat} {xs : List Value}, Lies (w.alloc (.cells #[.slice A l.length c] 49)) (Nb _) A' n' c' xs → Lies w' (Nb w') A' n' c' xs := fun {A' n' c' xs} hh => by
    rcases h1.2 with ⟨hv, _⟩ | ⟨g, cap, cur, hv, _, hgt, _⟩
    · rw [hv] at r2
      have hbb : Below (w.alloc (.cells #[.slice A l.length c] 49)).heap.size (w.alloc (.cells #[.slice A l.length c] 49)) w' := (Below.refl _ _).grown r2 (Nat.le_refl _) (fun k hk => by cases hk)
      exact hh.nb hbb
    · rw [hv] at r2
      exact hh.nb_grown (g := g) r2 hgt (by decide)
  refine K v' w' ⟨vals ++ [.slice A l.length c], ?_, by simp [h2], fun i l' hl' => ?_⟩ (hA.trans ((Below.refl base _).grown r2 (by simp; omega) (fun k hk => (hlt k hk).1)))
  · rw [List.length_append]
    exact r1
  · rcases Nat.lt_or_ge i M.length with hi' | hi'
    · rw [List.getElem?_append_left hi'] at hl'
      obtain ⟨Ai, ci, h4, h5⟩ := h3 i l' hl'
      exact ⟨Ai, ci, by rw [List.getElem?_append_left (by omega)]; exact h4, keep h5⟩
    · rw [List.getElem?_append_right hi'] at hl'
      have hi0 : i - M.length = 0 := by
        have := (List.getElem?_eq_some_iff.1 hl').1
        simp at this
        omega
      rw [hi0] at hl'
      simp at hl'
      subst hl'
      refine ⟨A, c, ?_, keep hl0⟩
      rw [List.getElem?_append_right (by omega), show i - vals.length = 0 by omega]
      rfl
/-- One byte in a new block. -/
theorem lies_one (w : World) (u : UInt8) : Lies (w.alloc (.cells #[.int .u8 (u.toNat : Int)] 5)) (fun _ => True) (some ⟨w.heap.size, 0, none⟩) 1 1 (bc [u]) := by
  refine ⟨rfl, Nat.le_refl _, fun _ => ⟨_, rfl, trivial, by simp, fun j v hv => ?_⟩⟩
  exact cell_one_new w _ _ j v hv
end Go.Proofs.YtclhjpageonkgaaGreat
