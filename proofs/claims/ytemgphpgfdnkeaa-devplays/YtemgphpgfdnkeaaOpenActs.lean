/-
  Arguments of the laws, opened: steps.
-/
import Derived.Test.YtemgphpgfdnkeaaInts
import Derived.Test.YtemgphpgfdnkeaaBlk
import Derived.Deep.Slices
namespace Go.Proofs.Ytemgphpgfdnkeaa
open Go.ChangeShapes Go.WideShapes Go.ChangeAt Go.RowKit

theorem byte_of' {a : Int} (wf : (Lit.int .u8 a).wf = true) : ∃ b : UInt8, a = (b.toNat : Int) := by
  have h := bounds_u8 wf
  refine ⟨UInt8.ofNat a.toNat, ?_⟩
  simp only [UInt8.toNat_ofNat']
  omega
theorem i64_wf' {a : Int} (wf : (Lit.int .i64 a).wf = true) : -9223372036854775808 ≤ a ∧ a ≤ 9223372036854775807 := by
  unfold Lit.wf at wf
  rw [Bool.and_eq_true, decide_eq_true_eq, decide_eq_true_eq, show IntKind.i64.min = -9223372036854775808 from by decide, show IntKind.i64.max = 9223372036854775807 from by decide] at wf
  exact wf
/-- A step. -/
structure Ac where
  kind : Int
  n : Int
  c : UInt8
  ka : Option Addr
  kn : Nat
  kc : Nat
  keep : List Int
instance : Inhabited Ac := ⟨⟨0, 0, 0, none, 0, 0, []⟩⟩
/-- Its cells. -/
def ac (x : Ac) : List Value := [.int .i64 x.kind, .int .i64 x.n, .int .u8 (x.c.toNat : Int), .slice x.ka x.kn x.kc]
theorem ac_length (x : Ac) : (ac x).length = 4 := rfl
/-- What its numbers keep to; its list lies. -/
structure Ac.Ok (W : World) (x : Ac) : Prop where
  low : -9223372036854775808 ≤ x.n
  high : x.n ≤ 9223372036854775807
  lies : Lies W (fun _ => True) x.ka x.kn x.kc (ics x.keep)
/-- A slice that reads as steps. -/
def Acts (W : World) (A : Option Addr) (n c : Nat) (xs : List Ac) : Prop :=
  xs.length = n ∧ n ≤ c ∧ (0 < n → ∃ b off, A = some ⟨b, off, none⟩ ∧ b < W.heap.size ∧ W.rangeAt b off (fl ac xs)) ∧ ∀ x ∈ xs, x.Ok W

section
variable {H : Type} {enc' : TypeId × Value → H} {W : World} {A : Option Addr} {n c : Nat} {d : DataW H} {p : List MemPlace}
theorem ints_of_trod {fuel : Nat} {v : Value} {x : DataW H × List MemPlace} (h : DataW.trod enc' Try.prog W 0 (fun _ => true) true fuel 28 [v] = some x) : ∃ A' n' c' l, v = .slice A' n' c' ∧ Lies W (fun _ => True) A' n' c' (ics l) := by
  have h' := h
  rcases open_ints Try.underlying28 Try.underlying3 (by kernel_rfl) h with ⟨hcs, _⟩ | ⟨a, l, cc, zs, hcs, _⟩
  · injection hcs with hcs
    subst hcs
    exact ⟨none, 0, 0, [], rfl, Lies.nil _ _⟩
  · injection hcs with hcs
    subst hcs
    obtain ⟨l', hl'⟩ := open_whole (A := some a) (n := l) (c := cc) (d := x.1) (p := x.2) ⟨fuel, h'⟩
    exact ⟨_, _, _, l', rfl, hl'⟩
theorem act_of_cells {fuel : Nat} {cs : List Value} {x : DataW H × List MemPlace} (h : DataW.trod enc' Try.prog W 0 (fun _ => true) true fuel 36 cs = some x) : ∃ y : Ac, cs = ac y ∧ y.Ok W := by
  have hc4 : Try.prog.cellsOf 36 = 4 := by kernel_rfl
  have hc1 : Try.prog.cellsOf 3 = 1 := by kernel_rfl
  have hc2 : Try.prog.cellsOf 5 = 1 := by kernel_rfl
  have hc3 : Try.prog.cellsOf 28 = 1 := by kernel_rfl
  obtain ⟨xs, m, _, rfl, hl, hlen, hf⟩ := DataW.trod_struct Try.underlying36 h
  rw [hc4] at hl
  match cs, hl, xs, hlen with
  | [c0, c1, c2, c3], _, [y0, y1, y2, y3], _ =>
    have f0 : DataW.trod enc' Try.prog W 0 (fun _ => true) true m 3 [c0] = some y0 := by
      have := hf 0 _ rfl
      change DataW.trod enc' Try.prog W 0 (fun _ => true) true m 3 (List.take (Try.prog.cellsOf 3) (List.drop 0 [c0, c1, c2, c3])) = _ at this
      rw [hc1] at this
      exact this
    have f1 : DataW.trod enc' Try.prog W 0 (fun _ => true) true m 3 [c1] = some y1 := by
      have := hf 1 _ rfl
      change DataW.trod enc' Try.prog W 0 (fun _ => true) true m 3 (List.take (Try.prog.cellsOf 3) (List.drop 1 [c0, c1, c2, c3])) = _ at this
      rw [hc1] at this
      exact this
    have f2 : DataW.trod enc' Try.prog W 0 (fun _ => true) true m 5 [c2] = some y2 := by
      have := hf 2 _ rfl
      change DataW.trod enc' Try.prog W 0 (fun _ => true) true m 5 (List.take (Try.prog.cellsOf 5) (List.drop 2 [c0, c1, c2, c3])) = _ at this
      rw [hc2] at this
      exact this
    have f3 : DataW.trod enc' Try.prog W 0 (fun _ => true) true m 28 [c3] = some y3 := by
      have := hf 3 _ rfl
      change DataW.trod enc' Try.prog W 0 (fun _ => true) true m 28 (List.take (Try.prog.cellsOf 28) (List.drop 3 [c0, c1, c2, c3])) = _ at this
      rw [hc3] at this
      exact this
    obtain ⟨k, hk, _, _⟩ := DataW.trod_int Try.underlying3 f0
    obtain ⟨n, hn, _, hnw⟩ := DataW.trod_int Try.underlying3 f1
    obtain ⟨z, hz, _, hzw⟩ := DataW.trod_int Try.underlying5 f2
    obtain ⟨ka, kn, kc, keep, hv, hL⟩ := ints_of_trod f3
    obtain ⟨b, rfl⟩ := byte_of' hzw
    injection hk with hk
    injection hn with hn
    injection hz with hz
    subst hk hn hz hv
    exact ⟨⟨k, n, b, ka, kn, kc, keep⟩, rfl, (i64_wf' hnw).1, (i64_wf' hnw).2, hL⟩
/-- Steps one by one are steps one behind the other. -/
theorem acts_range (w : World) (b off : Nat) : ∀ (xs : List Ac) (k : Nat), (∀ j x, xs[j]? = some x → w.rangeAt b (off + (k + j) * 4) (ac x)) → w.rangeAt b (off + k * 4) (fl ac xs)
  | [], _, _ => fun j v hv => by simp [fl] at hv
  | x :: xs, k, h => by
    have h0 := h 0 x rfl
    have ih := acts_range w b off xs (k + 1) (fun j y hj => by
      have := h (j + 1) y (by simpa using hj)
      rwa [show k + (j + 1) = k + 1 + j by omega] at this)
    intro j v hv
    rw [fl_cons] at hv
    by_cases hj : j < 4
    · rw [List.getElem?_append_left (by rw [ac_length]; exact hj)] at hv
      exact h0 j v hv
    · rw [List.getElem?_append_right (by rw [ac_length]; omega), ac_length] at hv
      have := ih (j - 4) v hv
      rwa [show off + (k + 1) * 4 + (j - 4) = off + k * 4 + j by omega] at this
theorem open_acts (h : DataW.Trod enc' Try.prog W 0 (fun _ => true) true 22 (.slice A n c) d p) : ∃ xs : List Ac, Acts W A n c xs := by
  have hc2 : Try.prog.cellsOf 36 = 4 := by kernel_rfl
  obtain ⟨fuel, hf⟩ := h
  rcases Go.Deep.open_slice Try.underlying22 hf with ⟨hcs, _⟩ | ⟨a, len, cap, m, f, D, Pl, hcs, _, hl, hm, hmm, _, hx⟩
  · simp [Value.cells] at hcs
    obtain ⟨rfl, rfl, rfl⟩ := hcs
    exact ⟨[], rfl, Nat.le_refl _, fun h => absurd h (Nat.lt_irrefl _), fun x hx => by simp at hx⟩
  · simp [Value.cells] at hcs
    obtain ⟨rfl, rfl, rfl⟩ := hcs
    simp at hmm
    subst hmm
    rw [hc2] at hx
    have hi : ∀ i, i < n → ∃ x : Ac, x.Ok W ∧ ∀ j v, (ac x)[j]? = some v → W.cell? (a.add (i * 4 + j)) = some v := fun i hi => by
      obtain ⟨cs', h1, h2⟩ := hx i (by omega)
      obtain ⟨x, rfl, hok⟩ := act_of_cells h2
      obtain ⟨_, h3, h4⟩ := World.cells?_some h1
      refine ⟨x, hok, fun j v hv => ?_⟩
      have hj : j < 4 := by rw [← ac_length x]; exact (List.getElem?_eq_some_iff.1 hv).1
      rw [← add_add', h4 j hj]
      exact hv
    have hch : ∃ f : Nat → Ac, ∀ i, i < n → (f i).Ok W ∧ ∀ j v, (ac (f i))[j]? = some v → W.cell? (a.add (i * 4 + j)) = some v :=
      ⟨fun i => if h : i < n then Classical.choose (hi i h) else default, fun i h => by
        simp only [h, dif_pos]
        exact Classical.choose_spec (hi i h)⟩
    obtain ⟨f, hf⟩ := hch
    refine ⟨(List.range n).map f, by simp, hl, fun h0 => ?_, fun x hx' => ?_⟩
    · obtain ⟨b, off, spot⟩ := a
      have h00 := (hf 0 h0).2 0 (.int .i64 (f 0).kind) rfl
      have hs : spot = none := by simpa [Addr.add] using World.cell?_spot h00
      subst hs
      have hlt := World.block_lt_of_cell? W _ h00
      rw [add_block] at hlt
      refine ⟨b, off, rfl, hlt, ?_⟩
      have := acts_range W b off ((List.range n).map f) 0 (fun j x hj t v hv => ?_)
      · simpa using this
      · rw [List.getElem?_map] at hj
        have hj' : j < n := by
          rcases Nat.lt_or_ge j n with h1 | h1
          · exact h1
          · rw [List.getElem?_eq_none (by simpa using h1)] at hj
            cases hj
        rw [List.getElem?_range hj'] at hj
        simp at hj
        subst hj
        have := (hf j hj').2 t v hv
        rw [Addr.add_mid] at this
        rw [Nat.zero_add, Nat.add_assoc]
        exact this
    · obtain ⟨i, hi', rfl⟩ := List.mem_map.1 hx'
      exact (hf i (by simpa using hi')).1
end
end Go.Proofs.Ytemgphpgfdnkeaa
