/-
  A slice of what is asked, opened: two cells for each.
-/
import Derived.Test.YteabpbmecdenjaaReadsWalk
import Derived.Test.YteabpbmecdenjaaOpen
import Derived.Deep.SlicePairs
namespace Go.Proofs.Yteabpbmecdenjaa
open Go.ChangeShapes Go.WideShapes Go.ChangeAt Go.RowKit Go.Deep

section
variable {H : Type} {enc : TypeId × Value → H} {W : World} {A : Option Addr} {n c : Nat} {d : DataW H} {p : List MemPlace}

theorem open_asks (h : DataW.Trod enc Try.prog W 0 (fun _ => true) true 32 (.slice A n c) d p) : ∃ qs : List (Int × Int), qs.length = n ∧ Asks W W.heap.size A qs := by
  obtain ⟨fuel, hf⟩ := h
  rcases open_slice_pairs Try.underlying32 Try.underlying38 (by kernel_rfl) rfl rfl (by kernel_rfl) (by kernel_rfl) hf with ⟨hcs, _⟩ | ⟨a, len, cap, m, n', V0, V1, D0, D1, P0, P1, hcs, _, hl, hm, hmm, _, hx⟩
  · simp [Value.cells] at hcs
    obtain ⟨rfl, rfl, rfl⟩ := hcs
    exact ⟨[], rfl, fun j p hj => by simp at hj⟩
  · simp [Value.cells] at hcs
    obtain ⟨rfl, rfl, rfl⟩ := hcs
    have hm' : m = c := by simpa using hmm
    subst hm'
    refine ⟨(List.range n).map fun i => (intOf (V0 i), intOf (V1 i)), by simp, fun j p hj => ?_⟩
    have hjn : j < n := by
      rcases Nat.lt_or_ge j n with h1 | h1
      · exact h1
      · rw [List.getElem?_eq_none (by simpa using h1)] at hj
        cases hj
    obtain ⟨h0, h1, t0, t1⟩ := hx j (by omega)
    obtain ⟨z0, e0, _, _⟩ := DataW.trod_int Try.underlying3 t0
    obtain ⟨z1, e1, _, w1⟩ := DataW.trod_int Try.underlying3 t1
    simp at e0 e1
    have hp : p = (z0, z1) := by
      have hj' : ((List.range n).map fun i => (intOf (V0 i), intOf (V1 i)))[j]? = some (intOf (V0 j), intOf (V1 j)) := by simp [hjn]
      rw [hj'] at hj
      injection hj with hj
      rw [← hj, e0, e1]
      rfl
    subst hp
    obtain ⟨b, off, spot⟩ := a
    have hs : spot = none := by
      have h00 := (hx 0 (by omega)).1
      simpa [Addr.add] using World.cell?_spot h00
    subst hs
    have q0 : (⟨b, off, none⟩ : Addr).add (j * 2) = ⟨b, off + j * 2, none⟩ := add_plain _ _ _
    have q1 : (⟨b, off, none⟩ : Addr).add (j * 2 + 1) = ⟨b, off + j * 2 + 1, none⟩ := add_plain _ _ _
    rw [q0, e0] at h0
    rw [q1, e1] at h1
    exact ⟨b, off, rfl, World.block_lt_of_cell? W _ h0, h0, h1, (bounds_i64 w1).2⟩
end

theorem reads_walk (A0 : Option Addr) (n0 c0 : Nat) (l : List UInt8) (w : World) (h0 : Arg w A0 n0 c0 (bc l)) (A1 : Option Addr) (n1 c1 : Nat) (qs : List (Int × Int)) (h1 : qs.length = n1 ∧ Asks w w.heap.size A1 qs) :
    Calls Try.prog 4 #[.slice A0 n0 c0, .slice A1 n1 c1] w (Yes w) := by
  by_cases b0 : (2000 : Int) < (n0 : Int)
  · go_enter Try.func4, Try.ntmps4
    go_wp2
    go_ret
    exact ⟨rfl, Below.refl _ _⟩
  · exact reads_main A0 A1 n0 c0 n1 c1 l qs w h0 h1.2 h1.1 (by omega)
end Go.Proofs.Yteabpbmecdenjaa
