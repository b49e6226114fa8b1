/-
  MatRows: what its walks share.
-/
import Derived.Test.YtgakeecibofiiaaLawOne
import Derived.Test.YtgakeecibofiiaaJoin
import Derived.Test.YtgakeecibofiiaaSweep
namespace Go.Proofs.Ytgakeecibofiiaa
open Go.RowKit Go.Shelf

theorem Mtx.first {w : World} {A : Option Addr} {n c : Nat} {M : List (List UInt8)} (h : Mtx w A n c M) {k : Nat} (hk : k ≤ n) : Mtx w A k c (M.take k) := by
  refine ⟨by rw [List.length_take, h.len]; omega, Nat.le_trans hk h.le, fun h0 => ?_⟩
  obtain ⟨b, off, h1, h2, h3⟩ := h.2.2 (by omega)
  refine ⟨b, off, h1, h2, fun i l hl => h3 i l ?_⟩
  have hi := (List.getElem?_eq_some_iff.1 hl).1
  rw [List.length_take] at hi
  rwa [List.getElem?_take_of_lt (by omega)] at hl
theorem Mtx.tail {w : World} {A : Option Addr} {n c : Nat} {M : List (List UInt8)} (h : Mtx w A n c M) {k : Nat} (hk : k ≤ n) : Mtx w (cutA A c k) (n - k) (c - k) (M.drop k) := by
  refine ⟨by rw [List.length_drop, h.len], by have := h.le; omega, fun h0 => ?_⟩
  obtain ⟨b, off, h1, h2, h3⟩ := h.2.2 (by omega)
  have hc := h.le
  refine ⟨b, off + k, by rw [cutA, if_neg (by omega), h1, Option.map_some, Addr.add_mid], h2, fun i l hl => ?_⟩
  rw [List.getElem?_drop] at hl
  obtain ⟨Ai, ci, h4, h5⟩ := h3 _ l hl
  exact ⟨Ai, ci, by rw [show off + k + i = off + (k + i) by omega]; exact h4, h5⟩
theorem rrightG (w : World) (A : Option Addr) (n c : Nat) (M : List (List UInt8)) (hM : Mtx w A n c M) (bb : Bool) (h : decide (RightM M) = bb) (q : Grows w) : Calls Try.prog 13 #[.slice A n c] q.val fun e w'' => e = .returned (.bool bb) ∧ ∃ p' : Grows w, w'' = p'.val := by
  have h1 := rright_says q.val A n c M (hM.below q.prop)
  rw [h] at h1
  exact h1.mono fun _ w'' hh => ⟨hh.1, ⟨w'', q.prop.trans (hh.2.mono q.prop.size)⟩, rfl⟩
/-- All numbers are rows'. -/
def okB (n : Nat) (l : List Int) : Bool := l.all (fun x => decide (0 ≤ x) && decide (x < (n : Int)))
theorem okB_iff (n : Nat) (l : List Int) : okB n l = true ↔ okIdx n l := by
  unfold okB okIdx
  rw [List.all_eq_true]
  simp
theorem okB_succ {n : Nat} {l : List Int} {k : Nat} {x : Int} (h : l[k]? = some x) : okB n (l.take (k + 1)) = (okB n (l.take k) && (decide (0 ≤ x) && decide (x < (n : Int)))) := by
  rw [List.take_add_one, h]
  simp [okB]
theorem few20 {w : World} {A : Option Addr} {n c : Nat} {M : List (List UInt8)} (h : Mtx w A n c M) {k : Nat} (hf : fewB M k) : n ≤ k := by rw [← h.len]; exact hf.1
end Go.Proofs.Ytgakeecibofiiaa
