/-
  A row of bytes of the call's own that grows by 'append(all, b...)'.
-/
import Derived.Test.YtnhondkdkjehaaaProg
import Derived.Test.YtnhondkdkjehaaaHeld
import Derived.Laws.AppendOwn
import Derived.Laws.AppendOwnNone
import Derived.OwnWalk
namespace Go.Proofs.Ytnhondkdkjehaaa
open Go.RowKit

theorem Try.byteInfo : (Try.prog.info? 5).map (fun i => (i.zero, i.size, i.bytes)) = some (some (.int .u8 0), 1, 1) := by kernel_rfl

theorem grown_of_below {w w' : World} (h : Below w.heap.size w w') (row : Option Nat) : w.grownBy w' row := ⟨h.os, h.tape, h.output, h.size, fun k hk _ => h.block k hk⟩

/-- A row of bytes of the call's own. -/
def Own (w : World) (base : Nat) (v : Value) (l : List UInt8) : Prop := w.ownsRow base 5 1 v l.length (bc l)
section
variable {w w' : World} {base : Nat} {v : Value} {l : List UInt8}
theorem Own.nil (w : World) (base : Nat) : Own w base (.slice none 0 0) [] := World.ownsRow_nil w base _ 1
theorem Own.changed (h : Own w base v l) (hg : w.grownBy w' v.ownBlock) (hb : base ≤ w.heap.size) : Below base w w' :=
  (Below.refl base w).grown hg hb (fun k hk => (World.ownsRow.lt h k hk).1)
theorem Own.below (h : Own w base v l) (hb : Below w.heap.size w w') : Own w' base v l :=
  World.ownsRow.kept h (grown_of_below hb none) (by cases hv : v.ownBlock <;> simp)
theorem Own.grown {g : Nat} (h : Own w base v l) (hb : w.grownBy w' (some g)) (hne : v.ownBlock ≠ some g) : Own w' base v l := World.ownsRow.kept h hb (.inr hne)
theorem Own.ne {g : Nat} (h : Own w base v l) (hg : g < base) : v.ownBlock ≠ some g := fun e => by
  have := (World.ownsRow.lt h g e).1
  omega
theorem Own.drew (h : Own w base v l) : Own w.drew base v l := h
theorem Own.lies (h : Own w base v l) : ∃ A c, v = .slice A l.length c ∧ Lies w (fun _ => True) A l.length c (bc l) := by
  have hlt := World.ownsRow.lt h
  rcases h.2 with ⟨hv, hn⟩ | ⟨g, cap, cur, hv, _, _, hnc, _⟩
  · have hl : l = [] := List.eq_nil_of_length_eq_zero hn
    subst hl
    exact ⟨none, 0, hv, Lies.nil _ _⟩
  · subst hv
    exact ⟨_, cap, rfl, bc_length l, hnc, fun _ => ⟨⟨g, 0, none⟩, rfl, trivial, (hlt g rfl).2, fun j u hu => World.ownsRow.cells h (g := g) rfl j u hu⟩⟩
end

/-- 'append(all, b...)', at the operation. -/
theorem wpList_bytes {ops : Array Oper} {rest : List Oper} {o : Oper} {a : Act} {Q : Exit → Act → World → Prop} (w : World) (s x : Operand) (hgd : o.guard = none)
    (hop : o.op = .call { callee := .builtin .append, args := #[s, x], argTypes := #[22, 22] })
    {N : Nat → Prop} (base : Nat) (v : Value) (l : List UInt8) (A : Option Addr) (m c : Nat) (news : List UInt8) (hs : a.eval s = v) (hx : a.eval x = .slice A m c) (hown : Own w base v l) (hl : Lies w N A m c (bc news)) (hnil : A = none → c = 0)
    (hz : l.length + news.length ≤ 8589934592) (hb : base ≤ w.heap.size)
    (K : ∀ v' w', Own w' base v' (l ++ news) → w.grownBy w' v.ownBlock → wpList Try.prog ops Q rest (a.put o.dst v') w') : wpList Try.prog ops Q (o :: rest) a w := by
  obtain ⟨i0, hi, hz0, hz1, hz2⟩ := info_parts Try.byteInfo
  have hm : news.length = m := by rw [← bc_length]; exact hl.len
  rcases A with _ | ad
  · have hc := hnil rfl
    have hle := hl.le
    obtain rfl : m = 0 := by omega
    subst hc
    obtain rfl : news = [] := List.eq_nil_of_length_eq_zero hm
    refine wpList_append_own_none hgd s x 22 hop base 5 i0 1 Try.underlying22 hi v l.length (bc l) hs hown hx ?_
    refine K v w ?_ (grown_refl w _)
    rw [List.append_nil]
    exact hown
  · refine wpList_append_own _ hgd s x 22 hop base 5 i0 (.int .u8 0) 1 1 Try.underlying22 hi hz0 hz1 hz2 rfl (by decide) v l.length (bc l) hs hown ad m c (bc news) hx (by rw [bc_length, hm, Nat.mul_one])
      (fun j u hu => ?_) (bc_one news) (by unfold maxLen; omega) (by omega) hb ?_
    · have hj : 0 < m := by
        have := (List.getElem?_eq_some_iff.1 hu).1
        rw [bc_length] at this
        omega
      obtain ⟨ad', he, _, _, h4⟩ := hl.2.2 hj
      obtain rfl := Option.some.inj he
      exact h4 j u hu
    · intro v' w' h1 h2 _
      refine K v' w' ?_ h2
      unfold Own
      rw [List.length_append, bc_append, hm]
      exact h1

end Go.Proofs.Ytnhondkdkjehaaa
