/-
  How many bytes of a write are kept: dev.kept; and what a fall comes to, in plain words.
-/
import Derived.Test.YthpfdenpgegheaaLaws
import Derived.Test.YthpfdenpgegheaaInts
namespace Go.Proofs.Ythpfdenpgegheaa
open Go.RowKit

/-- How many bytes are kept of the write at place i. -/
def keepAt (keep : List Int) (i : Nat) : Nat := min (keep.getD i 0).toNat 256
theorem keepAt_le (keep : List Int) (i : Nat) : keepAt keep i ≤ 256 := Nat.min_le_right _ _
set_option maxHeartbeats 1000000 in
theorem kept_says (w : World) (N : Nat → Prop) (A : Option Addr) (n c : Nat) (keep : List Int) (hl : Lies w N A n c (ics keep)) (i : Nat) :
    Calls Try.prog 49 #[.slice A n c, .int .i64 (i : Int)] w fun e w' => e = .returned (.int .i64 (keepAt keep i : Int)) ∧ w' = w := by
  have hkl : keep.length = n := by rw [← ics_length]; exact hl.len
  by_cases hi : i < n
  · obtain ⟨x, hx⟩ : ∃ x, keep[i]? = some x := ⟨_, List.getElem?_eq_getElem (by omega)⟩
    obtain ⟨b, off, rfl, _, _, hc⟩ := hl.at (ics_at hx)
    have hk : keepAt keep i = min x.toNat 256 := by simp [keepAt, List.getD, hx]
    rw [hk]
    have l1 : ¬ (i : Int) ≥ (n : Int) := by omega
    have l2 : (i : Int) < (n : Int) := by omega
    clear hl hx hk hkl
    go_enter Try.func49, Try.ntmps49
    rcases Int.lt_or_le x 0 with h | h
    · have h1 : ¬ 0 < x := by omega
      have h2 : x ≤ 0 := by omega
      rw [show min x.toNat 256 = 0 by omega]
      go_wp2
      go_ret
      exact ⟨rfl, rfl⟩
    · rcases Int.lt_or_le 256 x with h' | h'
      · have h1 : ¬ x < 0 := by omega
        have h2 : ¬ x ≤ 256 := by omega
        have h3 : ¬ x < 256 := by omega
        rw [show min x.toNat 256 = 256 by omega]
        go_wp2
        go_ret
        exact ⟨rfl, rfl⟩
      · have h1 : ¬ x < 0 := by omega
        have h2 : ¬ 256 < x := by omega
        rw [show ((min x.toNat 256 : Nat) : Int) = x by omega]
        go_wp2
        go_ret
        exact ⟨rfl, rfl⟩
  · have hk : keepAt keep i = 0 := by simp [keepAt, List.getD, List.getElem?_eq_none (show keep.length ≤ i by omega)]
    rw [hk]
    have l1 : (i : Int) ≥ (n : Int) := by omega
    clear hl hk hkl
    go_enter Try.func49, Try.ntmps49
    go_wp2
    go_ret
    exact ⟨rfl, rfl⟩

/-- The first m bytes of a, then b's. -/
def part (a b : Bk) (m : Nat) : Bk := ⟨a.1.take m ++ b.1.drop m, by simp [a.2, b.2]; omega⟩
/-- Blocks with writes taken back. -/
def undo (bs : List Bk) (l : List Wr) : List Bk := l.foldl (fun bs x => bs.set x.n x.was) bs
theorem undo_snoc (bs : List Bk) (l : List Wr) (x : Wr) : undo bs (l ++ [x]) = (undo bs l).set x.n x.was := by simp [undo]
theorem undo_length (bs : List Bk) : ∀ (l : List Wr), (undo bs l).length = bs.length := fun l => by
  induction l generalizing bs with
  | nil => rfl
  | cons x l ih => rw [undo, List.foldl_cons]; exact (ih _).trans (by simp)
/-- Blocks with the first k writes laid again, as much of each as is kept. -/
def redo (keep : List Int) (bs : List Bk) (ws : List Wr) : Nat → List Bk
  | 0 => bs
  | k + 1 => (redo keep bs ws k).set (ws.getD k default).n (part (ws.getD k default).is ((redo keep bs ws k).getD (ws.getD k default).n default) (keepAt keep k))
theorem redo_length (keep : List Int) (bs : List Bk) (ws : List Wr) : ∀ k, (redo keep bs ws k).length = bs.length
  | 0 => rfl
  | k + 1 => by rw [redo, List.length_set, redo_length keep bs ws k]
/-- A device that fell, and is up again. -/
def Dv.fall (D : Dv) (keep : List Int) : Dv := ⟨redo keep (undo D.bs D.ws.reverse) D.ws D.ws.length, [], D.ops, -1, false⟩
theorem Dv.fall_ok {D : Dv} (h : D.Ok) (keep : List Int) : (D.fall keep).Ok :=
  ⟨by simp [Dv.fall, redo_length, undo_length, h.pos], by simp [Dv.fall, redo_length, undo_length, h.most], fun x hx => by simp [Dv.fall] at hx, by simp [Dv.fall], by simp [Dv.fall], by simp [Dv.fall]⟩
end Go.Proofs.Ythpfdenpgegheaa
