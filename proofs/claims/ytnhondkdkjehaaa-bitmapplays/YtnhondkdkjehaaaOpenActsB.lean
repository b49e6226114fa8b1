/-
  Arguments of the laws, opened: steps (a run is in use, or not).
-/
import Derived.Test.YtnhondkdkjehaaaArgs
import Derived.Deep.Slices
namespace Go.Proofs.Ytnhondkdkjehaaa
open Go.ChangeShapes Go.WideShapes Go.ChangeAt Go.RowKit

theorem i64_wf' {a : Int} (wf : (Lit.int .i64 a).wf = true) : -9223372036854775808 ≤ a ∧ a ≤ 9223372036854775807 := by
  unfold Lit.wf at wf
  rw [Bool.and_eq_true, decide_eq_true_eq, decide_eq_true_eq, show IntKind.i64.min = -9223372036854775808 from by decide, show IntKind.i64.max = 9223372036854775807 from by decide] at wf
  exact wf
/-- A step. -/
structure Ab where
  f : Int
  m : Int
  u : Bool
instance : Inhabited Ab := ⟨⟨0, 0, false⟩⟩
structure Ab.Ok (x : Ab) : Prop where
  f0 : -9223372036854775808 ≤ x.f
  f1 : x.f ≤ 9223372036854775807
  m0 : -9223372036854775808 ≤ x.m
  m1 : x.m ≤ 9223372036854775807
/-- A slice that reads as steps. -/
def ActsB (W : World) (A : Option Addr) (n : Nat) (xs : List Ab) : Prop :=
  xs.length = n ∧ (∀ x ∈ xs, x.Ok) ∧ (0 < n → ∃ b off, A = some ⟨b, off, none⟩ ∧ b < W.heap.size ∧ ∀ i x, xs[i]? = some x → W.cell? ⟨b, off + i * 3, none⟩ = some (.int .i64 x.f) ∧ W.cell? ⟨b, off + i * 3 + 1, none⟩ = some (.int .i64 x.m) ∧ W.cell? ⟨b, off + i * 3 + 2, none⟩ = some (.bool x.u))
section
variable {H : Type} {enc' : TypeId × Value → H} {W : World} {A : Option Addr} {n c : Nat} {d : DataW H} {p : List MemPlace}
theorem actb_of_cells {fuel : Nat} {cs : List Value} {x : DataW H × List MemPlace} (h : DataW.trod enc' Try.prog W 0 (fun _ => true) true fuel 33 cs = some x) : ∃ y : Ab, cs = [.int .i64 y.f, .int .i64 y.m, .bool y.u] ∧ y.Ok := by
  have hc4 : Try.prog.cellsOf 33 = 3 := by kernel_rfl
  have hc1 : Try.prog.cellsOf 3 = 1 := by kernel_rfl
  have hc2 : Try.prog.cellsOf 4 = 1 := by kernel_rfl
  obtain ⟨xs, m, _, rfl, hl, hlen, hf⟩ := DataW.trod_struct Try.underlying33 h
  rw [hc4] at hl
  match cs, hl, xs, hlen with
  | [c0, c1, c2], _, [y0, y1, y2], _ =>
    have f0 : DataW.trod enc' Try.prog W 0 (fun _ => true) true m 3 [c0] = some y0 := by
      have := hf 0 _ rfl
      change DataW.trod enc' Try.prog W 0 (fun _ => true) true m 3 (List.take (Try.prog.cellsOf 3) (List.drop 0 [c0, c1, c2])) = _ at this
      rw [hc1] at this
      exact this
    have f1 : DataW.trod enc' Try.prog W 0 (fun _ => true) true m 3 [c1] = some y1 := by
      have := hf 1 _ rfl
      change DataW.trod enc' Try.prog W 0 (fun _ => true) true m 3 (List.take (Try.prog.cellsOf 3) (List.drop 1 [c0, c1, c2])) = _ at this
      rw [hc1] at this
      exact this
    have f2 : DataW.trod enc' Try.prog W 0 (fun _ => true) true m 4 [c2] = some y2 := by
      have := hf 2 _ rfl
      change DataW.trod enc' Try.prog W 0 (fun _ => true) true m 4 (List.take (Try.prog.cellsOf 4) (List.drop 2 [c0, c1, c2])) = _ at this
      rw [hc2] at this
      exact this
    obtain ⟨k, hk, _, hkw⟩ := DataW.trod_int Try.underlying3 f0
    obtain ⟨n, hn, _, hnw⟩ := DataW.trod_int Try.underlying3 f1
    obtain ⟨b, hb, _⟩ := DataW.trod_bool Try.underlying4 f2
    injection hk with hk
    injection hn with hn
    injection hb with hb
    subst hk hn hb
    exact ⟨⟨k, n, b⟩, rfl, (i64_wf' hkw).1, (i64_wf' hkw).2, (i64_wf' hnw).1, (i64_wf' hnw).2⟩
theorem open_actsB (h : DataW.Trod enc' Try.prog W 0 (fun _ => true) true 23 (.slice A n c) d p) : ∃ xs : List Ab, ActsB W A n xs := by
  have hc2 : Try.prog.cellsOf 33 = 3 := by kernel_rfl
  obtain ⟨fuel, hf⟩ := h
  rcases Go.Deep.open_slice Try.underlying23 hf with ⟨hcs, _⟩ | ⟨a, len, cap, m, f, D, Pl, hcs, _, hl, hm, hmm, _, hx⟩
  · simp [Value.cells] at hcs
    obtain ⟨rfl, rfl, rfl⟩ := hcs
    exact ⟨[], rfl, fun x hx => by simp at hx, fun h => absurd h (Nat.lt_irrefl _)⟩
  · simp [Value.cells] at hcs
    obtain ⟨rfl, rfl, rfl⟩ := hcs
    simp at hmm
    subst hmm
    rw [hc2] at hx
    have hi : ∀ i, i < n → ∃ x : Ab, x.Ok ∧ W.cell? (a.add (i * 3)) = some (.int .i64 x.f) ∧ W.cell? (a.add (i * 3 + 1)) = some (.int .i64 x.m) ∧ W.cell? (a.add (i * 3 + 2)) = some (.bool x.u) := fun i hi => by
      obtain ⟨cs', h1, h2⟩ := hx i (by omega)
      obtain ⟨x, rfl, hok⟩ := actb_of_cells h2
      obtain ⟨_, h3, h4⟩ := World.cells?_some h1
      refine ⟨x, hok, ?_, ?_, ?_⟩
      · have := h4 0 (by omega)
        rw [add_add'] at this
        exact this
      · have := h4 1 (by omega)
        rw [add_add'] at this
        exact this
      · have := h4 2 (by omega)
        rw [add_add'] at this
        exact this
    have hch : ∃ f : Nat → Ab, ∀ i, i < n → (f i).Ok ∧ W.cell? (a.add (i * 3)) = some (.int .i64 (f i).f) ∧ W.cell? (a.add (i * 3 + 1)) = some (.int .i64 (f i).m) ∧ W.cell? (a.add (i * 3 + 2)) = some (.bool (f i).u) :=
      ⟨fun i => if h : i < n then Classical.choose (hi i h) else default, fun i h => by
        simp only [h, dif_pos]
        exact Classical.choose_spec (hi i h)⟩
    obtain ⟨f, hf⟩ := hch
    refine ⟨(List.range n).map f, by simp, fun x hx' => ?_, fun h0 => ?_⟩
    · obtain ⟨i, hi, rfl⟩ := List.mem_map.1 hx'
      exact (hf i (List.mem_range.1 hi)).1
    · obtain ⟨b, off, spot⟩ := a
      have h00 := (hf 0 h0).2.1
      have hs : spot = none := by simpa [Addr.add] using World.cell?_spot h00
      subst hs
      have hlt := World.block_lt_of_cell? W _ h00
      rw [add_block] at hlt
      refine ⟨b, off, rfl, hlt, fun i x hx => ?_⟩
      rw [List.getElem?_map] at hx
      have hj' : i < n := by
        rcases Nat.lt_or_ge i n with h1 | h1
        · exact h1
        · rw [List.getElem?_eq_none (by simpa using h1)] at hx
          cases hx
      rw [List.getElem?_range hj'] at hx
      simp at hx
      subst hx
      obtain ⟨_, g1, g2, g3⟩ := hf i hj'
      rw [Addr.add_mid] at g1 g2 g3
      exact ⟨g1, by rw [Nat.add_assoc]; exact g2, by rw [Nat.add_assoc]; exact g3⟩
end
theorem ActsB.below {w w' : World} {A : Option Addr} {n : Nat} {xs : List Ab} (h : ActsB w A n xs) (hb : Below w.heap.size w w') : ActsB w' A n xs := by
  refine ⟨h.1, h.2.1, fun h0 => ?_⟩
  obtain ⟨b, off, rfl, hlt, hc⟩ := h.2.2 h0
  exact ⟨b, off, rfl, Nat.lt_of_lt_of_le hlt hb.size, fun i x hx => ⟨(hb.cell (p := ⟨b, off + i * 3, none⟩) hlt).trans (hc i x hx).1, (hb.cell (p := ⟨b, off + i * 3 + 1, none⟩) hlt).trans (hc i x hx).2.1, (hb.cell (p := ⟨b, off + i * 3 + 2, none⟩) hlt).trans (hc i x hx).2.2⟩⟩
end Go.Proofs.Ytnhondkdkjehaaa
