/-
  The device and the reference's, side by side in memory.
-/
import Derived.Test.YtemgphpgfdnkeaaPlayP
namespace Go.Proofs.Ytemgphpgfdnkeaa
open Go.RowKit

/-- The reference's six cells read as R. -/
def RfC (w : World) (N : Nat → Prop) (cs : Array Value) (R : Rv) : Prop :=
  ∃ A1 c1 A2 c2 A3 c3, cs = #[.slice A1 R.kept.length c1, .slice A2 R.at'.length c2, .slice A3 R.at'.length c3, .int .i64 R.arm, .bool R.down, .int .i64 (R.ops : Int)] ∧
    Rd w N A1 R.kept.length c1 (scs R.kept) ∧ Rd w N A2 R.at'.length c2 (ncs R.at') ∧ Rd w N A3 R.at'.length c3 (scs R.bs)
section
variable {w w' : World} {N N' : Nat → Prop} {cs : Array Value} {R : Rv}
theorem RfC.below (h : RfC w N cs R) (hb : Below w.heap.size w w') : RfC w' N cs R := by
  obtain ⟨A1, c1, A2, c2, A3, c3, h1, h2, h3, h4⟩ := h
  exact ⟨A1, c1, A2, c2, A3, c3, h1, h2.below hb, h3.below hb, h4.below hb⟩
theorem RfC.weak (h : RfC w N cs R) (hN : ∀ b, b < w.heap.size → N b → N' b) : RfC w N' cs R := by
  obtain ⟨A1, c1, A2, c2, A3, c3, h1, h2, h3, h4⟩ := h
  exact ⟨A1, c1, A2, c2, A3, c3, h1, h2.weak hN, h3.weak hN, h4.weak hN⟩
theorem RfC.touch {K : Nat → Prop} (h : RfC w N cs R) (ht : Touch K w w') (hN : ∀ b, N b → ¬ K b) : RfC w' N cs R := by
  obtain ⟨A1, c1, A2, c2, A3, c3, h1, h2, h3, h4⟩ := h
  exact ⟨A1, c1, A2, c2, A3, c3, h1, h2.touch ht hN, h3.touch ht hN, h4.touch ht hN⟩
theorem RfC.size (h : RfC w N cs R) : cs.size = 6 := by
  obtain ⟨A1, c1, A2, c2, A3, c3, rfl, _⟩ := h
  rfl
theorem RfC.one (h : RfC w N cs R) : cs.all (·.oneCell') = true := by
  obtain ⟨A1, c1, A2, c2, A3, c3, rfl, _⟩ := h
  simp [Value.oneCell']
end
/-- The device, and the reference's in its box; N: what is the reference's own. -/
structure Jm (w wr : World) (p rb : Nat) (N : Nat → Prop) (D : Dv) (R : Rv) : Prop where
  dev : Dev wr (fun k => w.heap.size ≤ k ∧ ¬ N k) p D
  box : ∃ cs, Box wr rb 30 cs ∧ RfC wr (fun k => N k ∧ k ≠ rb) cs R
  rb' : N rb
  new : ∀ k, N k → w.heap.size ≤ k ∧ k < wr.heap.size
  bel : Below w.heap.size w wr
section
variable {w wr w' : World} {p rb : Nat} {N : Nat → Prop} {D D' : Dv} {R R' : Rv}
/-- The device alone is turned. -/
theorem Jm.turn (h : Jm w wr p rb N D R) (hd : Dev w' (fun k => w.heap.size ≤ k ∧ ¬ N k) p D') (ht : Touch (fun k => w.heap.size ≤ k ∧ ¬ N k) wr w') : Jm w w' p rb N D' R := by
  obtain ⟨cs, hb, hr⟩ := h.box
  exact ⟨hd, ⟨cs, ht.box hb (fun h2 => h2.2 h.rb'), hr.touch ht (fun b h1 h2 => h2.2 h1.1)⟩, h.rb', fun k hk => ⟨(h.new k hk).1, Nat.lt_of_lt_of_le (h.new k hk).2 ht.size⟩, h.bel.trans (ht.below (fun _ h => h.1) h.bel.size)⟩
/-- Something is made besides. -/
theorem Jm.grow (h : Jm w wr p rb N D R) (hb : Below wr.heap.size wr w') : Jm w w' p rb N D R := by
  obtain ⟨cs, hx, hr⟩ := h.box
  exact ⟨h.dev.below hb, ⟨cs, Box.below hx hb hx.lt, hr.below hb⟩, h.rb', fun k hk => ⟨(h.new k hk).1, Nat.lt_of_lt_of_le (h.new k hk).2 hb.size⟩, h.bel.trans (hb.mono h.bel.size)⟩
/-- Something is made that the device shall not touch. -/
theorem Jm.hold (h : Jm w wr p rb N D R) (hb : Below wr.heap.size wr w') : Jm w w' p rb (fun k => N k ∨ (wr.heap.size ≤ k ∧ k < w'.heap.size)) D R := by
  obtain ⟨cs, hx, hr⟩ := h.box
  refine ⟨(h.dev.inside.below hb).weak (fun k hk => ⟨hk.1.1, fun h2 => h2.elim hk.1.2 (fun h3 => by have := hk.2; omega)⟩), ⟨cs, Box.below hx hb hx.lt, (hr.below hb).weak (fun b _ h1 => ⟨.inl h1.1, h1.2⟩)⟩, .inl h.rb', fun k hk => ?_, h.bel.trans (hb.mono h.bel.size)⟩
  rcases hk with hk | ⟨h1, h2⟩
  · exact ⟨(h.new k hk).1, Nat.lt_of_lt_of_le (h.new k hk).2 hb.size⟩
  · exact ⟨Nat.le_trans h.bel.size h1, h2⟩
/-- What is new fits the device. -/
theorem Jm.fresh (h : Jm w wr p rb N D R) : ∀ k, wr.heap.size ≤ k → w.heap.size ≤ k ∧ ¬ N k := fun k hk => ⟨Nat.le_trans h.bel.size hk, fun hn => by have := (h.new k hn).2; omega⟩
/-- A call of the reference's, and its answer laid into the box. -/
theorem Jm.ref (h : Jm w wr p rb N D R) (hb : Below wr.heap.size wr w') (cs' : Array Value) (hr : RfC w' (fun k => (N k ∧ k ≠ rb) ∨ wr.heap.size ≤ k) cs' R') :
    Jm w (w'.setRow rb cs') p rb (fun k => N k ∨ (wr.heap.size ≤ k ∧ k < w'.heap.size)) D R' := by
  obtain ⟨cs, hx, _⟩ := h.box
  have hrl := (h.new rb h.rb').2
  have hx' := Box.below hx hb hx.lt
  have hg : w'.grownBy (w'.setRow rb cs') (some rb) := grown_row (grown_refl _ _) _
  have ht : Touch (fun k => k = rb) w' (w'.setRow rb cs') := Touch.of_grown hg (fun k e => by injection e with e; exact e.symm)
  have hd := (h.dev.inside.below hb).weak (K' := fun k => w.heap.size ≤ k ∧ ¬ (N k ∨ (wr.heap.size ≤ k ∧ k < w'.heap.size))) (fun k hk => ⟨hk.1.1, fun h2 => h2.elim hk.1.2 (fun h3 => by have := hk.2; omega)⟩)
  refine ⟨ht.dev hd (fun k h1 h2 => h1.2 (.inl (by rw [h2]; exact h.rb'))), ⟨cs', setRow_heap _ _ _ _ _ _ hx', ?_⟩, .inl h.rb', ?_, ?_⟩
  · refine (hr.weak (N' := fun k => (N k ∨ (wr.heap.size ≤ k ∧ k < w'.heap.size)) ∧ k ≠ rb) (fun b hb2 h1 => ?_)).touch ht (fun b h1 h2 => h1.2 h2)
    rcases h1 with ⟨h1, h2⟩ | h1
    · exact ⟨.inl h1, h2⟩
    · exact ⟨.inr ⟨h1, hb2⟩, by omega⟩
  · intro k hk
    rw [setRow_size]
    rcases hk with hk | ⟨h1, h2⟩
    · exact ⟨(h.new k hk).1, Nat.lt_of_lt_of_le (h.new k hk).2 hb.size⟩
    · exact ⟨Nat.le_trans h.bel.size h1, h2⟩
  · have hb2 := h.bel.trans (hb.mono h.bel.size)
    exact hb2.trans (ht.below (fun k e => by rw [e]; exact (h.new rb h.rb').1) hb2.size)
/-- What the reference's box tells. -/
theorem Jm.cells (h : Jm w wr p rb N D R) : (∃ A c, wr.cell? ⟨rb, 1, none⟩ = some (.slice A R.at'.length c)) ∧ wr.cell? ⟨rb, 3, none⟩ = some (.int .i64 R.arm) ∧ wr.cell? ⟨rb, 4, none⟩ = some (.bool R.down) ∧ wr.cell? ⟨rb, 5, none⟩ = some (.int .i64 (R.ops : Int)) ∧ wr.frozen? ⟨rb, 3, none⟩ = false := by
  obtain ⟨cs, hx, A1, c1, A2, c2, A3, c3, rfl, _⟩ := h.box
  exact ⟨⟨A2, c2, (Box.cell hx 1).trans rfl⟩, (Box.cell hx 3).trans rfl, (Box.cell hx 4).trans rfl, (Box.cell hx 5).trans rfl, Box.frozen hx 3⟩
/-- The reference's is armed. -/
theorem Jm.armed (h : Jm w wr p rb N D R) (a : Int) : Jm w (wr.setCell ⟨rb, 3, none⟩ (.int .i64 a)) p rb N D { R with arm := a } := by
  obtain ⟨cs, hx, A1, c1, A2, c2, A3, c3, rfl, h2, h3, h4⟩ := h.box
  have hg : wr.grownBy (wr.setCell ⟨rb, 3, none⟩ (.int .i64 a)) (some rb) := grown_set (grown_refl _ _) _ _
  have ht : Touch (fun k => k = rb) wr (wr.setCell ⟨rb, 3, none⟩ (.int .i64 a)) := Touch.of_grown hg (fun k e => by injection e with e; exact e.symm)
  have hb := Box.put hx 3 (.int .i64 a)
  simp only [List.setIfInBounds_toArray, List.set_cons_zero, List.set_cons_succ] at hb
  exact ⟨ht.dev h.dev (fun k h1 h2 => h1.2 (by rw [h2]; exact h.rb')), ⟨_, hb, A1, c1, A2, c2, A3, c3, rfl, h2.touch ht (fun b h1 e => h1.2 e), h3.touch ht (fun b h1 e => h1.2 e), h4.touch ht (fun b h1 e => h1.2 e)⟩, h.rb', fun k hk => ⟨(h.new k hk).1, Nat.lt_of_lt_of_le (h.new k hk).2 ht.size⟩, h.bel.trans (ht.below (fun k e => by rw [e]; exact (h.new rb h.rb').1) h.bel.size)⟩
end
end Go.Proofs.Ytemgphpgfdnkeaa
