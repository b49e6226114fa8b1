/-
  Rows of bytes that are written: each in a block of its own, another one each.
-/
import Derived.Test.YtgakeecibofiiaaRowsN
namespace Go.Proofs.Ytgakeecibofiiaa
open Go.RowKit

/-- Block b begins with the bytes r. -/
def RowBlk (w : World) (b c : Nat) (r : List UInt8) : Prop := r.length ≤ c ∧ ∃ arr : Array Value, w.heap[b]? = some (.cells arr 5 (0, 0)) ∧ r.length ≤ arr.size ∧ ∀ (j : Nat) (u : UInt8), r[j]? = some u → arr[j]? = some (.int .u8 (u.toNat : Int))
section
variable {w w' : World} {b c : Nat} {r : List UInt8}
theorem RowBlk.lt (h : RowBlk w b c r) : b < w.heap.size := by
  obtain ⟨_, arr, h1, _⟩ := h
  exact (Array.getElem?_eq_some_iff.1 h1).1
theorem RowBlk.keep (h : RowBlk w b c r) (hk : w'.heap[b]? = w.heap[b]?) : RowBlk w' b c r := by
  obtain ⟨h0, arr, h1, h2, h3⟩ := h
  exact ⟨h0, arr, hk.trans h1, h2, h3⟩
theorem RowBlk.cell (h : RowBlk w b c r) {j : Nat} {u : UInt8} (hu : r[j]? = some u) : w.cell? ⟨b, j, none⟩ = some (.int .u8 (u.toNat : Int)) ∧ w.frozen? ⟨b, j, none⟩ = false := by
  obtain ⟨h0, arr, h1, h2, h3⟩ := h
  have hb : Box w b 5 arr := h1
  exact ⟨by rw [hb.cell]; exact h3 j u hu, hb.frozen j⟩
theorem RowBlk.set (h : RowBlk w b c r) (j : Nat) (z : UInt8) : RowBlk (w.setCell ⟨b, j, none⟩ (.int .u8 (z.toNat : Int))) b c (r.set j z) := by
  obtain ⟨h0, arr, h1, h2, h3⟩ := h
  have hb : Box w b 5 arr := h1
  refine ⟨by simpa using h0, _, hb.put j _, by simpa using h2, fun k u hu => ?_⟩
  by_cases hk : j = k
  · subst hk
    have hj : j < r.length := by
      have := (List.getElem?_eq_some_iff.1 hu).1
      simpa using this
    rw [List.getElem?_set_self hj] at hu
    cases hu
    rw [Array.getElem?_setIfInBounds_self_of_lt (by omega)]
  · rw [List.getElem?_set_ne hk] at hu
    rw [Array.getElem?_setIfInBounds_ne hk]
    exact h3 k u hu
theorem RowBlk.lies (h : RowBlk w b c r) : Lies w (fun _ => True) (some ⟨b, 0, none⟩) r.length c (bc r) :=
  ⟨bc_length r, h.1, fun _ => ⟨⟨b, 0, none⟩, rfl, trivial, h.lt, fun j u hu => by
    obtain ⟨x, hx, rfl⟩ : ∃ x, r[j]? = some x ∧ u = .int .u8 (x.toNat : Int) := by
      simp only [bc, List.getElem?_map] at hu
      cases hr : r[j]? with
      | none => rw [hr] at hu; cases hu
      | some x => rw [hr] at hu; exact ⟨x, rfl, by simpa using hu.symm⟩
    rw [Addr.add_mid, Nat.zero_add]
    exact (h.cell hx).1⟩⟩
end
theorem Own.blk {w : World} {base : Nat} {v : Value} {r : List UInt8} (h : Own w base v r) (h0 : 1 ≤ r.length) : ∃ b c, v = .slice (some ⟨b, 0, none⟩) r.length c ∧ base ≤ b ∧ RowBlk w b c r := by
  rcases h.2 with ⟨_, hn⟩ | ⟨g, cap, cur, hv, hbg, hh, hnc, _, hcs, htk⟩
  · omega
  · refine ⟨g, cap, hv, hbg, hnc, cur, hh, by omega, fun j u hu => ?_⟩
    have hj := (List.getElem?_eq_some_iff.1 hu).1
    have h2 : (bc r)[j]? = some (.int .u8 (u.toNat : Int)) := by simp [bc, hu]
    rw [← htk, Nat.mul_one, List.getElem?_take_of_lt hj] at h2
    simpa using h2

/-- The rows' blocks B, whose room is C: each another one. -/
structure Blks (w : World) (B C : Nat → Nat) (M : List (List UInt8)) : Prop where
  blk : ∀ (i : Nat) (r : List UInt8), M[i]? = some r → RowBlk w (B i) (C i) r
  inj : ∀ i j, i < M.length → j < M.length → B i = B j → i = j
section
variable {w w' : World} {B C : Nat → Nat} {M : List (List UInt8)}
theorem Blks.keep (h : Blks w B C M) (hk : ∀ i, i < M.length → w'.heap[B i]? = w.heap[B i]?) : Blks w' B C M :=
  ⟨fun i r hr => (h.blk i r hr).keep (hk i (List.getElem?_eq_some_iff.1 hr).1), h.inj⟩
theorem Blks.set (h : Blks w B C M) {i : Nat} {r : List UInt8} (hr : M[i]? = some r) (j : Nat) (z : UInt8) : Blks (w.setCell ⟨B i, j, none⟩ (.int .u8 (z.toNat : Int))) B C (M.set i (r.set j z)) := by
  have hi := (List.getElem?_eq_some_iff.1 hr).1
  refine ⟨fun k s hs => ?_, fun a b ha hb => h.inj a b (by simpa using ha) (by simpa using hb)⟩
  by_cases hk : i = k
  · subst hk
    rw [List.getElem?_set_self hi] at hs
    cases hs
    exact (h.blk i r hr).set j z
  · rw [List.getElem?_set_ne hk] at hs
    have hkl := (List.getElem?_eq_some_iff.1 hs).1
    exact (h.blk k s hs).keep (Below.heap_setCell _ _ _ _ (fun e => hk (h.inj i k hi hkl e.symm)))
end
/-- Block g's places are these rows. -/
def Tab (w : World) (g cap : Nat) (B C : Nat → Nat) (M : List (List UInt8)) : Prop := ∃ cur : List Value, Box w g 31 cur.toArray ∧ cur.length = cap ∧ M.length ≤ cap ∧ ∀ (i : Nat) (r : List UInt8), M[i]? = some r → cur[i]? = some (Value.slice (some ⟨B i, 0, none⟩) r.length (C i))
section
variable {w w' : World} {g cap : Nat} {B C : Nat → Nat} {M : List (List UInt8)}
theorem Tab.lt (h : Tab w g cap B C M) : g < w.heap.size := h.choose_spec.1.lt
theorem Tab.keep (h : Tab w g cap B C M) (hk : w'.heap[g]? = w.heap[g]?) : Tab w' g cap B C M := by
  obtain ⟨cur, h1, h2⟩ := h
  exact ⟨cur, hk.trans h1, h2⟩
theorem Tab.at (h : Tab w g cap B C M) {i : Nat} {r : List UInt8} (hr : M[i]? = some r) : w.cell? ⟨g, i, none⟩ = some (.slice (some ⟨B i, 0, none⟩) r.length (C i)) ∧ w.frozen? ⟨g, i, none⟩ = false := by
  obtain ⟨cur, h1, h2, h3, h4⟩ := h
  exact ⟨by rw [h1.cell]; simpa using h4 i r hr, h1.frozen i⟩
theorem Tab.same (h : Tab w g cap B C M) {N : List (List UInt8)} (hl : N.length = M.length) (hN : ∀ (i : Nat) (r s : List UInt8), M[i]? = some r → N[i]? = some s → r.length = s.length) : Tab w g cap B C N := by
  obtain ⟨cur, h1, h2, h3, h4⟩ := h
  refine ⟨cur, h1, h2, by omega, fun i s hs => ?_⟩
  have hi := (List.getElem?_eq_some_iff.1 hs).1
  have hr : M[i]? = some (M[i]'(by omega)) := List.getElem?_eq_getElem _
  rw [← hN i _ s hr hs]
  exact h4 i _ hr
/-- No row lies in g: it has another element type. -/
theorem Tab.sep (h : Tab w g cap B C M) (k : Blks w B C M) {i : Nat} (hi : i < M.length) : B i ≠ g := fun e => by
  obtain ⟨cur, h1, _⟩ := h
  obtain ⟨_, arr, h2, _⟩ := k.blk i _ (List.getElem?_eq_getElem hi)
  rw [e] at h2
  unfold Box at h1
  rw [h1] at h2
  injection h2 with h2
  injection h2 with _ h2
  exact absurd h2 (by decide)
/-- Two numbers are swapped. -/
def swp (a b i : Nat) : Nat := if i = a then b else if i = b then a else i
/-- Two rows are swapped. -/
theorem Tab.swap (h : Tab w g cap B C M) {a b : Nat} {ra rb : List UInt8} (ha : M[a]? = some ra) (hb : M[b]? = some rb) :
    Tab ((w.setCell ⟨g, a, none⟩ (.slice (some ⟨B b, 0, none⟩) rb.length (C b))).setCell ⟨g, b, none⟩ (.slice (some ⟨B a, 0, none⟩) ra.length (C a))) g cap (fun i => B (swp a b i)) (fun i => C (swp a b i)) ((M.set a rb).set b ra) := by
  obtain ⟨cur, h1, h2, h3, h4⟩ := h
  have hal := (List.getElem?_eq_some_iff.1 ha).1
  have hbl := (List.getElem?_eq_some_iff.1 hb).1
  refine ⟨(cur.set a (.slice (some ⟨B b, 0, none⟩) rb.length (C b))).set b (.slice (some ⟨B a, 0, none⟩) ra.length (C a)), ?_, by simpa using h2, by simpa using h3, fun i r hr => ?_⟩
  · have e1 := (h1.put a (.slice (some ⟨B b, 0, none⟩) rb.length (C b))).put b (.slice (some ⟨B a, 0, none⟩) ra.length (C a))
    rwa [List.setIfInBounds_toArray, List.setIfInBounds_toArray] at e1
  · by_cases hib : b = i
    · subst hib
      rw [List.getElem?_set_self (by simpa using hbl)] at hr
      cases hr
      rw [List.getElem?_set_self (by simp; omega)]
      have : swp a b b = a := by unfold swp; by_cases e : b = a <;> simp [e]
      simp only [this]
    · rw [List.getElem?_set_ne hib] at hr
      rw [List.getElem?_set_ne hib]
      by_cases hia : a = i
      · subst hia
        rw [List.getElem?_set_self hal] at hr
        cases hr
        rw [List.getElem?_set_self (by omega)]
        have : swp a b a = b := by unfold swp; simp
        simp only [this]
      · rw [List.getElem?_set_ne hia] at hr
        rw [List.getElem?_set_ne hia]
        have : swp a b i = i := by unfold swp; rw [if_neg (fun e => hia e.symm), if_neg (fun e => hib e.symm)]
        simp only [this]
        exact h4 i r hr
end
theorem Blks.swap {w : World} {B C : Nat → Nat} {M : List (List UInt8)} (h : Blks w B C M) {a b : Nat} {ra rb : List UInt8} (ha : M[a]? = some ra) (hb : M[b]? = some rb) : Blks w (fun i => B (swp a b i)) (fun i => C (swp a b i)) ((M.set a rb).set b ra) := by
  have hal := (List.getElem?_eq_some_iff.1 ha).1
  have hbl := (List.getElem?_eq_some_iff.1 hb).1
  refine ⟨fun i r hr => ?_, fun i j hi hj he => ?_⟩
  · by_cases hib : b = i
    · subst hib
      rw [List.getElem?_set_self (by simpa using hbl)] at hr
      cases hr
      have : swp a b b = a := by unfold swp; by_cases e : b = a <;> simp [e]
      simp only [this]
      exact h.blk a ra ha
    · rw [List.getElem?_set_ne hib] at hr
      by_cases hia : a = i
      · subst hia
        rw [List.getElem?_set_self hal] at hr
        cases hr
        have : swp a b a = b := by unfold swp; simp
        simp only [this]
        exact h.blk b rb hb
      · rw [List.getElem?_set_ne hia] at hr
        have : swp a b i = i := by unfold swp; rw [if_neg (fun e => hia e.symm), if_neg (fun e => hib e.symm)]
        simp only [this]
        exact h.blk i r hr
  · have hs : ∀ i, i < M.length → swp a b i < M.length := fun i hi => by
      unfold swp
      split
      · exact hbl
      · split <;> omega
    have hi' : i < M.length := by simpa using hi
    have hj' : j < M.length := by simpa using hj
    have e := h.inj _ _ (hs i hi') (hs j hj') he
    unfold swp at e
    split at e <;> split at e <;> first | omega | (split at e <;> first | omega | (split at e <;> omega))
end Go.Proofs.Ytgakeecibofiiaa
