/-
  Arguments of the laws, opened: slices of bytes.
  Arguments of the laws, opened: slices of slices of bytes.
  An argument that is a slice of slices of bytes, as a matrix.
  A nil row of an argument has no room.
  Slices of whole numbers that are read.
  An argument that is a byte.
-/
import Derived.Test.YtpbkabgjpieggaaM1
import Derived.Test.YtpbkabgjpieggaaProg
import Derived.WalkKit
import Derived.ProofKit
import Derived.OpenShut
import Derived.ShutString
import Derived.ChangeOld
import Derived.Deep.Slices
import Derived.Test.YtpbkabgjpieggaaM4

namespace Go.Proofs.Ytpbkabgjpieggaa
open Go.ChangeShapes Go.WideShapes Go.ChangeAt Go.RowKit

section
variable {H : Type} {enc : TypeId × Value → H} {W : World} {A : Option Addr} {n c : Nat} {d : DataW H} {p : List MemPlace}

theorem lies_of {x : Addr} {xs : List Value} (hl : n ≤ c) (hx : xs.length = n) (hc : ∀ j u, xs[j]? = some u → W.cell? (x.add j) = some u) : Lies W (fun _ => True) (some x) n c xs := by
  refine ⟨hx, hl, fun h0 => ⟨x, rfl, trivial, ?_, hc⟩⟩
  have h1 := hc 0 (xs[0]'(by omega)) (List.getElem?_eq_getElem (by omega))
  have := World.block_lt_of_cell? W _ h1
  rwa [add_block] at this

theorem map_getD {α : Type} (f : α → Value) (d : α) (zs : List α) (j : Nat) (u : Value) (h : (zs.map f)[j]? = some u) : j < zs.length ∧ u = f (zs.getD j d) := by
  rw [List.getElem?_map] at h
  rcases hz : zs[j]? with _ | z
  · rw [hz] at h
    cases h
  · rw [hz] at h
    have hj : j < zs.length := by
      rcases Nat.lt_or_ge j zs.length with h1 | h1
      · exact h1
      · rw [List.getElem?_eq_none h1] at hz
        cases hz
    refine ⟨hj, ?_⟩
    simp only [List.getD, hz, Option.getD_some]
    simpa using h.symm

/-- A slice of bytes that came in. -/
theorem open_bytes (h : DataW.Trod enc Try.prog W 0 (fun _ => true) true 31 (.slice A n c) d p) : ∃ l : List UInt8, Lies W (fun _ => True) A n c (bc l) := by
  obtain ⟨fuel, hf⟩ := h
  rcases open_ints Try.underlying31 Try.underlying5 (by kernel_rfl) hf with ⟨hcs, _⟩ | ⟨x, l, cc, zs, hcs, _, hl, hm, hz, _, hcell, hwz⟩
  · simp [Value.cells] at hcs
    obtain ⟨rfl, rfl, rfl⟩ := hcs
    exact ⟨[], Lies.nil _ _⟩
  · simp [Value.cells] at hcs
    obtain ⟨rfl, rfl, rfl⟩ := hcs
    have hz' : zs.length = c := by simpa using hz
    refine ⟨(zs.take n).map fun z => UInt8.ofNat z.toNat, ?_⟩
    have e : bc ((zs.take n).map fun z => UInt8.ofNat z.toNat) = (zs.take n).map (Value.int .u8) := by
      unfold bc
      rw [List.map_map]
      apply List.map_congr_left
      intro z hzm
      have hb := bounds_u8 (hwz z (List.mem_of_mem_take hzm))
      simp only [Function.comp, UInt8.toNat_ofNat']
      congr 1
      omega
    rw [e]
    refine lies_of hl (by rw [List.length_map, List.length_take]; omega) (fun j u hu => ?_)
    obtain ⟨hj, rfl⟩ := map_getD (Value.int .u8) 0 _ j u hu
    rw [List.length_take] at hj
    rw [hcell j (by omega)]
    simp [List.getD, show j < n by omega]
end
end Go.Proofs.Ytpbkabgjpieggaa


namespace Go.Proofs.Ytpbkabgjpieggaa
open Go.ChangeShapes Go.WideShapes Go.ChangeAt Go.RowKit

/-- A slice whose elements are slices of bytes. -/
def LiesRows (W : World) (A : Option Addr) (n c : Nat) : Prop :=
  ∃ xs : List Value, Lies W (fun _ => True) A n c xs ∧ ∀ k, k < n → ∃ A' n' c' l, xs[k]? = some (.slice A' n' c') ∧ Lies W (fun _ => True) A' n' c' (bc l) ∧ (A' = none → c' = 0)

section
variable {H : Type} {enc : TypeId × Value → H} {W : World} {A : Option Addr} {n c : Nat} {d : DataW H} {p : List MemPlace}
theorem bytes_of_trod {fuel : Nat} {v : Value} {x : DataW H × List MemPlace} (h : DataW.trod enc Try.prog W 0 (fun _ => true) true fuel 31 [v] = some x) : ∃ A' n' c' l, v = .slice A' n' c' ∧ Lies W (fun _ => True) A' n' c' (bc l) ∧ (A' = none → c' = 0) := by
  have h' := h
  rcases open_ints Try.underlying31 Try.underlying5 (by kernel_rfl) h with ⟨hcs, _⟩ | ⟨a, l, cc, zs, hcs, _⟩
  · injection hcs with hcs
    subst hcs
    exact ⟨none, 0, 0, [], rfl, Lies.nil _ _, fun _ => rfl⟩
  · injection hcs with hcs
    subst hcs
    obtain ⟨l', hl'⟩ := open_bytes (A := some a) (n := l) (c := cc) (d := x.1) (p := x.2) ⟨fuel, h'⟩
    exact ⟨_, _, _, l', rfl, hl', fun e => by cases e⟩
theorem open_rows (h : DataW.Trod enc Try.prog W 0 (fun _ => true) true 22 (.slice A n c) d p) : LiesRows W A n c := by
  obtain ⟨fuel, hf⟩ := h
  rcases Go.Deep.open_slice1 Try.underlying22 (by kernel_rfl) hf with ⟨hcs, _⟩ | ⟨a, len, cap, m, f, V, D, Pl, hcs, _, hl, hm, hmm, _, hx⟩
  · simp [Value.cells] at hcs
    obtain ⟨rfl, rfl, rfl⟩ := hcs
    exact ⟨[], Lies.nil _ _, fun k hk => absurd hk (Nat.not_lt_zero _)⟩
  · simp [Value.cells] at hcs
    obtain ⟨rfl, rfl, rfl⟩ := hcs
    simp at hmm
    subst hmm
    refine ⟨(List.range n).map V, lies_of hl (by simp) (fun j u hu => ?_), fun k hk => ?_⟩
    · rw [List.getElem?_map] at hu
      have hj : j < n := by
        rcases Nat.lt_or_ge j n with h1 | h1
        · exact h1
        · rw [List.getElem?_eq_none (by simpa using h1)] at hu
          cases hu
      rw [List.getElem?_range hj] at hu
      rw [(hx j (by omega)).1]
      simpa using hu
    · obtain ⟨A', n', c', l, hv, h1, h2⟩ := bytes_of_trod (hx k (by omega)).2
      exact ⟨A', n', c', l, by rw [List.getElem?_map, List.getElem?_range hk, ← hv]; rfl, h1, h2⟩
end
end Go.Proofs.Ytpbkabgjpieggaa


namespace Go.Proofs.Ytpbkabgjpieggaa
open Go.ChangeShapes Go.WideShapes Go.ChangeAt Go.RowKit

theorem mtx_of_rows {W : World} {A : Option Addr} {n c : Nat} (h : LiesRows W A n c) : ∃ M, Mtx W A n c M := by
  obtain ⟨xs, h1, h2⟩ := h
  have h' : ∀ k, ∃ l : List UInt8, k < n → ∃ A' c', xs[k]? = some (.slice A' l.length c') ∧ Lies W (fun _ => True) A' l.length c' (bc l) := fun k => by
    by_cases hk : k < n
    · obtain ⟨A', n', c', l, e1, e2, _⟩ := h2 k hk
      have hl : n' = l.length := by rw [← e2.len, bc_length]
      subst hl
      exact ⟨l, fun _ => ⟨A', c', e1, e2⟩⟩
    · exact ⟨[], fun h => absurd h hk⟩
  refine ⟨(List.range n).map (fun k => Classical.choose (h' k)), by simp, h1.le, fun h0 => ?_⟩
  obtain ⟨ad, hA, _, hlt, hc⟩ := h1.2.2 h0
  obtain ⟨x0, hx0⟩ : ∃ x, xs[0]? = some x := ⟨_, List.getElem?_eq_getElem (by rw [h1.len]; exact h0)⟩
  obtain ⟨b, off, hA2, _, hb, _⟩ := h1.at hx0
  refine ⟨b, off, hA2, hb, fun i l hl => ?_⟩
  have hi : i < n := by
    have := (List.getElem?_eq_some_iff.1 hl).1
    simpa using this
  rw [List.getElem?_map, List.getElem?_range hi] at hl
  simp at hl
  obtain ⟨A', c', e1, e2⟩ := Classical.choose_spec (h' i) hi
  rw [hl] at e1 e2
  refine ⟨A', c', ?_, e2⟩
  rw [hA2] at hA
  cases hA
  have := hc i _ e1
  rwa [Addr.add_mid] at this
theorem open_mtx {H : Type} {enc : TypeId × Value → H} {W : World} {A : Option Addr} {n c : Nat} {d : DataW H} {p : List MemPlace} (h : DataW.Trod enc Try.prog W 0 (fun _ => true) true 22 (.slice A n c) d p) : ∃ M, Mtx W A n c M := mtx_of_rows (open_rows h)
end Go.Proofs.Ytpbkabgjpieggaa


namespace Go.Proofs.Ytpbkabgjpieggaa
open Go.ChangeShapes Go.WideShapes Go.ChangeAt Go.RowKit

/-- A row that is nil has no room. -/
def Caps (w : World) (A : Option Addr) (n : Nat) : Prop := ∀ (b off i : Nat) (Ai : Option Addr) (ni ci : Nat), A = some ⟨b, off, none⟩ → i < n → w.cell? ⟨b, off + i, none⟩ = some (.slice Ai ni ci) → Ai = none → ci = 0
theorem caps_of_rows {W : World} {A : Option Addr} {n c : Nat} (h : LiesRows W A n c) : Caps W A n := by
  obtain ⟨xs, h1, h2⟩ := h
  intro b off i Ai ni ci hA hi hc hn
  obtain ⟨A', n', c', l, e1, _, e3⟩ := h2 i hi
  obtain ⟨b', off', hA', _, _, hc'⟩ := h1.at e1
  rw [hA] at hA'
  cases hA'
  rw [hc] at hc'
  cases hc'
  exact e3 hn
theorem open_caps {H : Type} {enc : TypeId × Value → H} {W : World} {A : Option Addr} {n c : Nat} {d : DataW H} {p : List MemPlace} (h : DataW.Trod enc Try.prog W 0 (fun _ => true) true 22 (.slice A n c) d p) : Caps W A n := caps_of_rows (open_rows h)
end Go.Proofs.Ytpbkabgjpieggaa


namespace Go.Proofs.Ytpbkabgjpieggaa
open Go.ChangeShapes Go.WideShapes Go.ChangeAt Go.RowKit

/-- Whole numbers as cells. -/
def ics (l : List Int) : List Value := l.map (Value.int .i64)
theorem ics_length (l : List Int) : (ics l).length = l.length := by simp [ics]
theorem ics_at {l : List Int} {k : Nat} {x : Int} (h : l[k]? = some x) : (ics l)[k]? = some (.int .i64 x) := by simp [ics, h]
/-- A slice of whole numbers that came in. -/
theorem open_whole {H : Type} {enc : TypeId × Value → H} {W : World} {A : Option Addr} {n c : Nat} {d : DataW H} {p : List MemPlace} (h : DataW.Trod enc Try.prog W 0 (fun _ => true) true 44 (.slice A n c) d p) : ∃ l : List Int, Lies W (fun _ => True) A n c (ics l) := by
  obtain ⟨fuel, hf⟩ := h
  rcases open_ints Try.underlying44 Try.underlying3 (by kernel_rfl) hf with ⟨hcs, _⟩ | ⟨x, l, cc, zs, hcs, _, hl, hm, hz, _, hcell, hwz⟩
  · simp [Value.cells] at hcs
    obtain ⟨rfl, rfl, rfl⟩ := hcs
    exact ⟨[], Lies.nil _ _⟩
  · simp [Value.cells] at hcs
    obtain ⟨rfl, rfl, rfl⟩ := hcs
    have hz' : zs.length = c := by simpa using hz
    refine ⟨zs.take n, ?_⟩
    refine lies_of hl (by rw [ics_length, List.length_take]; omega) (fun j u hu => ?_)
    obtain ⟨hj, rfl⟩ := map_getD (Value.int .i64) 0 _ j u hu
    rw [List.length_take] at hj
    rw [hcell j (by omega)]
    simp [List.getD, show j < n by omega]
end Go.Proofs.Ytpbkabgjpieggaa


namespace Go.Proofs.Ytpbkabgjpieggaa
open Go.RowKit

theorem byte_of {v : Value} {a : Int} (wf : (Lit.int .u8 a).wf = true) (e : v = .int .u8 a) : ∃ b : UInt8, v = .int .u8 (b.toNat : Int) := by
  have h : 0 ≤ a ∧ a ≤ 255 := by
    unfold Lit.wf at wf
    rw [Bool.and_eq_true, decide_eq_true_eq, decide_eq_true_eq, show IntKind.u8.min = 0 from by decide, show IntKind.u8.max = 255 from by decide] at wf
    exact wf
  refine ⟨UInt8.ofNat a.toNat, ?_⟩
  rw [e, Gf.ofNat_toNat' _ (by omega), Int.toNat_of_nonneg h.1]
theorem i64_wf {a : Int} (wf : (Lit.int .i64 a).wf = true) : -9223372036854775808 ≤ a ∧ a ≤ 9223372036854775807 := by
  unfold Lit.wf at wf
  rw [Bool.and_eq_true, decide_eq_true_eq, decide_eq_true_eq, show IntKind.i64.min = -9223372036854775808 from by decide, show IntKind.i64.max = 9223372036854775807 from by decide] at wf
  exact wf
end Go.Proofs.Ytpbkabgjpieggaa

