/-
  The reference's Rank: rows are copied, and taken away in place.
-/
import Derived.Test.YtgakeecibofiiaaRowsW
import Derived.Test.YtgakeecibofiiaaRankP
import Derived.Test.YtgakeecibofiiaaRankM
import Derived.Test.YtgakeecibofiiaaMatL
import Derived.Test.YtgakeecibofiiaaRefRight
import Derived.Test.YtgakeecibofiiaaHeld
import Derived.Deep.RegionHeld3
namespace Go.Proofs.Ytgakeecibofiiaa
open Go.RowKit Go.Shelf

/-- Rows in blocks of their own, gathered by append. -/
structure Gath (w : World) (base : Nat) (v : Value) (B C : Nat → Nat) (M : List (List UInt8)) : Prop where
  own : ∃ vals : List Value, w.ownsRow base 31 1 v vals.length vals ∧ vals.length = M.length ∧ ∀ (i : Nat) (r : List UInt8), M[i]? = some r → vals[i]? = some (Value.slice (some ⟨B i, 0, none⟩) r.length (C i))
  blks : Blks w B C M
/-- A function, another number at k. -/
def upd (f : Nat → Nat) (k x i : Nat) : Nat := if i = k then x else f i
theorem Gath.below {w w' : World} {base : Nat} {v : Value} {B C : Nat → Nat} {M : List (List UInt8)} (h : Gath w base v B C M) (hb : Below w.heap.size w w') : Gath w' base v B C M := by
  obtain ⟨⟨vals, h1, h2⟩, h3⟩ := h
  exact ⟨⟨vals, World.ownsRow.kept h1 (grown_of_below hb none) (by cases hv : v.ownBlock <;> simp), h2⟩, h3.keep (fun i hi => hb.block _ (h3.blk i _ (List.getElem?_eq_getElem hi)).lt)⟩
theorem wpList_gath {ops : Array Oper} {rest : List Oper} {o : Oper} {a : Act} {Q : Exit → Act → World → Prop} (w : World) (s x : Operand) (hgd : o.guard = none)
    (hop : o.op = .call { callee := .builtin .append, args := #[s, x], argTypes := #[22, 22] })
    (base : Nat) (v : Value) (B C : Nat → Nat) (M : List (List UInt8)) (b c n : Nat) (l : List UInt8) (hn : l.length = n) (hs : a.eval s = v) (hx : a.eval x = .slice (some ⟨w.heap.size, 0, none⟩) 1 1) (hbl : Gath w base v B C M) (hl : RowBlk w b c l) (hfr : ∀ i, i < M.length → B i ≠ b) (hz : M.length ≤ 100000) (hb : base ≤ w.heap.size)
    (K : ∀ v' w', Gath w' base v' (upd B M.length b) (upd C M.length c) (M ++ [l]) → Below base w w' → wpList Try.prog ops Q rest (a.put o.dst v') w') : wpList Try.prog ops Q (o :: rest) a (w.alloc (.cells #[.slice (some ⟨b, 0, none⟩) n c] 31)) := by
  subst hn
  obtain ⟨i0, hi, hz0, hz1, hz2⟩ := info_parts rowInfo
  have hb0 : Below w.heap.size w (w.alloc (.cells #[.slice (some ⟨b, 0, none⟩) l.length c] 31)) := (Below.refl _ w).alloc (Nat.le_refl _) _
  obtain ⟨⟨vals, h1, h2, h3⟩, hk⟩ := hbl.below hb0
  have hl0 : RowBlk (w.alloc (.cells #[.slice (some ⟨b, 0, none⟩) l.length c] 31)) b c l := hl.keep (hb0.block _ hl.lt)
  refine wpList_append_own _ hgd s x 22 hop base 31 i0 (.slice none 0 0) 1 24 Try.underlying22 hi hz0 hz1 hz2 rfl (by decide) v vals.length vals hs h1 ⟨w.heap.size, 0, none⟩ 1 1 [.slice (some ⟨b, 0, none⟩) l.length c] hx rfl
    (cell_one_new w _ _) (by simp [Value.oneCell']) (by unfold maxLen; omega) (by omega) (by simp; omega) ?_
  intro v' w' r1 r2 _
  have hlt := World.ownsRow.lt h1
  have hA : Below base w (w.alloc (.cells #[.slice (some ⟨b, 0, none⟩) l.length c] 31)) := (Below.refl base w).alloc hb _
  -- a block of bytes is not the one of the places
  have hne : ∀ (y : Nat) (arr : Array Value), (w.alloc (.cells #[.slice (some ⟨b, 0, none⟩) l.length c] 31)).heap[y]? = some (.cells arr 5 (0, 0)) → some y ≠ v.ownBlock := fun y arr hy e => by
    rcases h1.2 with ⟨hv, _⟩ | ⟨g, cap, cur, hv, _, hgt, _⟩
    · rw [hv] at e; cases e
    · rw [hv] at e
      have hg : y = g := by simpa [Value.ownBlock] using e
      rw [hg, hgt] at hy
      injection hy with hy
      injection hy with _ hy
      exact absurd hy (by decide)
  have keepB : ∀ {y cc : Nat} {r : List UInt8}, RowBlk (w.alloc (.cells #[.slice (some ⟨b, 0, none⟩) l.length c] 31)) y cc r → RowBlk w' y cc r := fun {y cc r} hh => by
    have hh2 := hh
    obtain ⟨_, arr, hy, _⟩ := hh2
    exact hh.keep (r2.block y hh.lt (hne y arr hy))
  refine K v' w' ⟨⟨vals ++ [.slice (some ⟨b, 0, none⟩) l.length c], by rw [List.length_append]; exact r1, by simp [h2], fun i r hr => ?_⟩, ⟨fun i r hr => ?_, fun i j hi hj he => ?_⟩⟩ (hA.trans ((Below.refl base _).grown r2 (by simp; omega) (fun k hk => (hlt k hk).1)))
  · rcases Nat.lt_or_ge i M.length with h | h
    · rw [List.getElem?_append_left h] at hr
      rw [List.getElem?_append_left (by omega), h3 i r hr, upd, upd, if_neg (by omega), if_neg (by omega)]
    · have hi0 : i = M.length := by
        have := (List.getElem?_eq_some_iff.1 hr).1
        simp at this
        omega
      subst hi0
      simp at hr
      subst hr
      rw [← h2]
      simp [upd]
  · rcases Nat.lt_or_ge i M.length with h | h
    · rw [List.getElem?_append_left h] at hr
      rw [upd, upd, if_neg (by omega), if_neg (by omega)]
      exact keepB (hk.blk i r hr)
    · have hi0 : i = M.length := by
        have := (List.getElem?_eq_some_iff.1 hr).1
        simp at this
        omega
      subst hi0
      simp at hr
      subst hr
      simp only [upd, if_true]
      exact keepB hl0
  · simp at hi hj
    unfold upd at he
    split at he <;> split at he
    · omega
    · exact absurd he.symm (hfr j (by omega))
    · exact absurd he (hfr i (by omega))
    · exact hk.inj i j (by omega) (by omega) he
theorem Gath.tab {w : World} {base : Nat} {v : Value} {B C : Nat → Nat} {M : List (List UInt8)} (h : Gath w base v B C M) (h0 : 1 ≤ M.length) : ∃ g cap, v = .slice (some ⟨g, 0, none⟩) M.length cap ∧ base ≤ g ∧ M.length ≤ cap ∧ Tab w g cap B C M := by
  obtain ⟨⟨vals, h1, h2, h3⟩, _⟩ := h
  rcases h1.2 with ⟨hv, hn⟩ | ⟨g, cap, cur, hv, hbg, hh, hnc, _, hcs, htk⟩
  · omega
  · refine ⟨g, cap, by rw [hv, h2], hbg, by omega, cur.toList, by simpa [Box] using hh, by simpa using hcs, by omega, fun i r hr => ?_⟩
    have h4 := h3 i r hr
    rw [← htk, Nat.mul_one] at h4
    have hi := (List.getElem?_eq_some_iff.1 h4).1
    rw [List.getElem?_take_of_lt (by simp at hi; omega)] at h4
    exact h4

/-- The rows as they stand. -/
structure RkAt (w wr : World) (g cap N L : Nat) (B C : Nat → Nat) (E : List (List UInt8)) : Prop where
  tab : Tab wr g cap B C E
  blks : Blks wr B C E
  low : w.heap.size ≤ g ∧ ∀ i, i < N → w.heap.size ≤ B i
  bel : Below w.heap.size w wr
  lev : Lev N L E
section
variable {w wr : World} {g cap N L : Nat} {B C : Nat → Nat} {E : List (List UInt8)}
theorem RkAt.drew (h : RkAt w wr g cap N L B C E) : RkAt w wr.drew g cap N L B C E := ⟨h.tab, ⟨fun i r hr => h.blks.blk i r hr, h.blks.inj⟩, h.low, h.bel.drew, h.lev⟩
theorem RkAt.row (h : RkAt w wr g cap N L B C E) {i : Nat} (hi : i < N) : ∃ r, E[i]? = some r ∧ r.length = L ∧ E.getD i [] = r ∧ wr.cell? ⟨g, i, none⟩ = some (.slice (some ⟨B i, 0, none⟩) L (C i)) ∧ wr.frozen? ⟨g, i, none⟩ = false := by
  obtain ⟨r, h1, h2, h3⟩ := h.lev.get hi
  have h4 := h.tab.at h1
  rw [h3] at h4
  exact ⟨r, h1, h3, h2, h4⟩
theorem RkAt.byte (h : RkAt w wr g cap N L B C E) {i j : Nat} (hi : i < N) (hj : j < L) : wr.cell? ⟨B i, j, none⟩ = some (.int .u8 ((at2 E i j).toNat : Int)) ∧ wr.frozen? ⟨B i, j, none⟩ = false := by
  obtain ⟨r, h1, h2, h3, _⟩ := h.row hi
  obtain ⟨u, hu⟩ : ∃ u, r[j]? = some u := ⟨_, List.getElem?_eq_getElem (by omega)⟩
  rw [at2_of h1 hu]
  exact (h.blks.blk i r h1).cell hu
/-- A place is written. -/
def setE (E : List (List UInt8)) (i j : Nat) (z : UInt8) : List (List UInt8) := E.set i ((E.getD i []).set j z)
theorem RkAt.put (h : RkAt w wr g cap N L B C E) {i j : Nat} (hi : i < N) (z : UInt8) : RkAt w (wr.setCell ⟨B i, j, none⟩ (.int .u8 (z.toNat : Int))) g cap N L B C (setE E i j z) := by
  obtain ⟨r, h1, h2, h3, _⟩ := h.row hi
  have hlt : i < E.length := by rw [h.lev.1]; exact hi
  unfold setE
  rw [h3]
  refine ⟨?_, h.blks.set h1 j z, h.low, h.bel.setCell (p := ⟨B i, j, none⟩) (h.low.2 i hi) _, h.lev.set i (by simpa using h2)⟩
  refine (h.tab.keep (Below.heap_setCell _ _ _ _ (h.tab.sep h.blks hlt).symm)).same (by simp) (fun k a b ha hb => ?_)
  by_cases hk : i = k
  · subst hk
    rw [List.getElem?_set_self hlt] at hb
    cases hb
    rw [h1] at ha
    cases ha
    simp
  · rw [List.getElem?_set_ne hk] at hb
    rw [hb] at ha
    cases ha
    rfl
theorem setE_at {E : List (List UInt8)} {N L : Nat} (h : Lev N L E) {i j : Nat} (hi : i < N) (hj : j < L) (z : UInt8) (a b : Nat) : at2 (setE E i j z) a b = if a = i ∧ b = j then z else at2 E a b := by
  obtain ⟨r, h1, h2, h3⟩ := h.get hi
  have hlt : i < E.length := by rw [h.1]; exact hi
  unfold setE at2
  rw [h2]
  simp only [List.getD_eq_getElem?_getD]
  by_cases ha : a = i
  · subst ha
    rw [List.getElem?_set_self hlt, Option.getD_some, h1, Option.getD_some]
    by_cases hb : b = j
    · subst hb
      rw [List.getElem?_set_self (by omega), if_pos ⟨rfl, rfl⟩]
      rfl
    · rw [List.getElem?_set_ne (fun e => hb e.symm), if_neg (fun e => hb e.2)]
  · rw [List.getElem?_set_ne (fun e => ha e.symm), if_neg (fun e => ha e.1)]
/-- Two rows swapped. -/
def swapE (E : List (List UInt8)) (a b : Nat) : List (List UInt8) := (E.set a (E.getD b [])).set b (E.getD a [])
theorem RkAt.swap (h : RkAt w wr g cap N L B C E) {a b : Nat} (ha : a < N) (hb : b < N) : RkAt w ((wr.setCell ⟨g, a, none⟩ (.slice (some ⟨B b, 0, none⟩) L (C b))).setCell ⟨g, b, none⟩ (.slice (some ⟨B a, 0, none⟩) L (C a))) g cap N L (fun i => B (swp a b i)) (fun i => C (swp a b i)) (swapE E a b) := by
  obtain ⟨ra, h1, h2, h3, _⟩ := h.row ha
  obtain ⟨rb, k1, k2, k3, _⟩ := h.row hb
  have ht := h.tab.swap h1 k1
  have hk := h.blks.swap h1 k1
  rw [h2, k2] at ht
  unfold swapE
  rw [h3, k3]
  refine ⟨ht, hk.keep (fun i hi => ?_), ⟨h.low.1, fun i hi => h.low.2 _ ?_⟩, (h.bel.setCell (p := ⟨g, a, none⟩) h.low.1 _).setCell (p := ⟨g, b, none⟩) h.low.1 _, (h.lev.set a k2).set b h2⟩
  · have hi' : swp a b i < E.length := by
      have : i < E.length := by simpa using hi
      have := h.lev.1
      unfold swp
      split
      · omega
      · split <;> omega
    have hs := h.tab.sep h.blks hi'
    rw [Below.heap_setCell _ _ _ _ hs, Below.heap_setCell _ _ _ _ hs]
  · unfold swp
    split
    · exact hb
    · split <;> omega
theorem swapE_at {E : List (List UInt8)} {N L : Nat} (h : Lev N L E) {a b : Nat} (ha : a < N) (hb : b < N) {i : Nat} (hi : i < N) (j : Nat) : at2 (swapE E a b) i j = at2 E (swpN a b i) j := by
  have hla : a < E.length := by rw [h.1]; exact ha
  have hlb : b < E.length := by rw [h.1]; exact hb
  have he : (swapE E a b).getD i [] = E.getD (swpN a b i) [] := by
    unfold swapE swpN
    simp only [List.getD_eq_getElem?_getD]
    by_cases hib : b = i
    · subst hib
      rw [List.getElem?_set_self (by simpa using hlb)]
      by_cases e : b = a
      · rw [if_pos e, e]; rfl
      · rw [if_neg e, if_pos rfl]; rfl
    · rw [List.getElem?_set_ne hib]
      by_cases hia : a = i
      · subst hia
        rw [List.getElem?_set_self hla, if_pos rfl]; rfl
      · rw [List.getElem?_set_ne hia, if_neg (fun e => hia e.symm), if_neg (fun e => hib e.symm)]
  unfold at2
  rw [he]
end
end Go.Proofs.Ytgakeecibofiiaa
