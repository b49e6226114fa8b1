/-
  Shards that are let go: rows of a table are put to nil.
-/
import Derived.Test.YtpbkabgjpieggaaCutsWalk
namespace Go.Proofs.Ytpbkabgjpieggaa
open Go.RowKit Go.Shelf

/-- The low bits of a whole number. -/
theorem and_small (x : Int) (k m : Nat) (hk : k < 4611686018427387904) (hm : k < m) : ∃ a : Nat, a < m ∧ bits .and .i64 x (k : Int) = (a : Int) := by
  have h : bits .and .i64 x (k : Int) = IntKind.i64.wrap (((BitVec.ofInt 64 x &&& BitVec.ofInt 64 (k : Int)).toNat : Nat) : Int) := rfl
  have e := ofInt64 k hk
  have h2 : (BitVec.ofInt 64 x &&& BitVec.ofInt 64 (k : Int)).toNat ≤ k := by
    rw [BitVec.toNat_and, e]
    exact Nat.and_le_right
  refine ⟨_, Nat.lt_of_le_of_lt h2 hm, ?_⟩
  rw [h]
  exact IntWalk.i64_in _ (by omega)
/-- A slice of bytes that is held against nil. -/
theorem neqNil (w : World) (a : Option Addr) (n c n' c' : Nat) : (binOp .neq 31 (.slice a n c) (.slice none n' c')).run Try.prog w = .ok (.bool (!a.isNone)) w := by
  simp only [binOp]
  simp [Op.equal, Op.maxDepth, Lib.run_equalIn_slice_nil w 9999 31 _ a n c n' c' Try.underlying31]
/-- A shard of a table: nil, or bytes that lie in no block g. -/
def ShRowN (w : World) (g : Nat) (v : Value) : Option (List UInt8) → Prop
  | none => v = .slice none 0 0
  | some l => ∃ ad ci, v = .slice (some ad) l.length ci ∧ Lies w (fun b => b ≠ g) (some ad) l.length ci (bc l)
/-- Block g's places are these shards. -/
def ShTab (w : World) (g n : Nat) (S : List (Option (List UInt8))) : Prop := ∃ cur : List Value, Box w g 31 cur.toArray ∧ cur.length = n ∧ S.length = n ∧ ∀ (i : Nat) (s : Option (List UInt8)), S[i]? = some s → ∃ v, cur[i]? = some v ∧ ShRowN w g v s
theorem ShRowN.row {w : World} {g : Nat} {v : Value} {s : Option (List UInt8)} (h : ShRowN w g v s) : ShRow w v s := by
  cases s with
  | none => exact h
  | some l => obtain ⟨ad, ci, h1, h2⟩ := h; exact ⟨ad, ci, h1, h2.weak (fun _ _ _ => trivial)⟩
section
variable {w w0 : World} {g n : Nat} {S : List (Option (List UInt8))}
theorem ShTab.lt (h : ShTab w g n S) : g < w.heap.size := h.choose_spec.1.lt
theorem ShTab.shd (h : ShTab w g n S) : Shd w (some ⟨g, 0, none⟩) n n S := by
  obtain ⟨cur, h1, h2, h3, h4⟩ := h
  refine ⟨h3, Nat.le_refl _, fun _ => ⟨g, 0, rfl, h1.lt, fun i s hs => ?_⟩⟩
  obtain ⟨v, h5, h6⟩ := h4 i s hs
  exact ⟨v, by rw [Nat.zero_add, h1.cell]; simpa using h5, h6.row⟩
theorem ShTab.at (h : ShTab w g n S) {i : Nat} {s : Option (List UInt8)} (hs : S[i]? = some s) : ∃ v, w.cell? ⟨g, i, none⟩ = some v ∧ w.frozen? ⟨g, i, none⟩ = false ∧ ShRowN w g v s := by
  obtain ⟨cur, h1, h2, h3, h4⟩ := h
  obtain ⟨v, h5, h6⟩ := h4 i s hs
  exact ⟨v, by rw [h1.cell]; simpa using h5, h1.frozen i, h6⟩
theorem ShTab.clear (h : ShTab w g n S) (p : Nat) : ShTab (w.setCell ⟨g, p, none⟩ (.slice none 0 0)) g n (S.set p none) := by
  obtain ⟨cur, h1, h2, h3, h4⟩ := h
  refine ⟨cur.set p (.slice none 0 0), ?_, by simpa using h2, by simpa using h3, fun i s hs => ?_⟩
  · have := h1.put p (.slice none 0 0)
    rwa [List.setIfInBounds_toArray] at this
  · by_cases hp : p = i
    · subst hp
      have hl := (List.getElem?_eq_some_iff.1 hs).1
      rw [List.length_set] at hl
      rw [List.getElem?_set_self hl] at hs
      cases hs
      exact ⟨_, List.getElem?_set_self (by omega), rfl⟩
    · rw [List.getElem?_set_ne hp] at hs
      rw [List.getElem?_set_ne hp]
      obtain ⟨v, h5, h6⟩ := h4 i s hs
      refine ⟨v, h5, ?_⟩
      cases s with
      | none => exact h6
      | some l =>
        obtain ⟨ad, ci, h7, h8⟩ := h6
        exact ⟨ad, ci, h7, lies_set h8 (p := ⟨g, p, none⟩) (fun e => e rfl) _⟩
theorem FillS.shtab {q : Nat} {B : Nat → Nat} {M : List (List UInt8)} (h : FillS w0 w g n q B M) (hn : M.length = n) : ShTab w g n (M.map some) := by
  obtain ⟨cur, c1, c2, c3, c4⟩ := h.tab
  refine ⟨cur, c1, c2, by simpa using hn, fun i s hs => ?_⟩
  obtain ⟨l, hl, rfl⟩ : ∃ l, M[i]? = some l ∧ some l = s := by
    simp only [List.getElem?_map] at hs
    cases hr : M[i]? with
    | none => rw [hr] at hs; cases hs
    | some x => rw [hr] at hs; exact ⟨x, rfl, by simpa using hs⟩
  have hil := (List.getElem?_eq_some_iff.1 hl).1
  have hsep := h.tab.sep h.blk hil
  have hb := (h.blk.blk i l hl).lies
  refine ⟨_, c4 i l hl, _, _, rfl, hb.1, hb.2.1, fun h0 => ?_⟩
  obtain ⟨ad, e1, _, e3, e4⟩ := hb.2.2 h0
  cases e1
  exact ⟨_, rfl, hsep, e3, e4⟩
theorem there_set {p : Nat} {r : List UInt8} (h : S[p]? = some (some r)) : (thereL S).length = (thereL (S.set p none)).length + 1 := by
  have hp := (List.getElem?_eq_some_iff.1 h).1
  have h1 : S = S.take p ++ some r :: S.drop (p + 1) := by
    conv => lhs; rw [← List.take_append_drop p S]
    rw [List.drop_eq_getElem_cons hp]
    have : S[p] = some r := (List.getElem?_eq_some_iff.1 h).2
    rw [this]
  have h2 : S.set p none = S.take p ++ none :: S.drop (p + 1) := by rw [List.set_eq_take_append_cons_drop, if_pos hp]
  rw [h2]
  conv => lhs; rw [h1]
  unfold thereL
  simp
  omega
theorem there_all (M : List (List UInt8)) : thereL (M.map some) = M := by
  unfold thereL
  rw [List.filterMap_map]
  simp
theorem there_lev {k q : Nat} {E : List (List UInt8)} (hE : Lev k q E) (hS : ∀ (i : Nat) (r : List UInt8), S[i]? = some (some r) → E[i]? = some r) : Lev (thereL S).length q (thereL S) := ⟨rfl, fun r hr => by
  rw [thereL, List.mem_filterMap] at hr
  obtain ⟨s, hs, he⟩ := hr
  cases s with
  | none => cases he
  | some r' =>
    cases he
    obtain ⟨i, hi⟩ := List.getElem?_of_mem hs
    exact hE.at (hS i r hi)⟩
end
end Go.Proofs.Ytpbkabgjpieggaa
