/-
  Copies of lists of ids: the built-in copy at elements of 32 cells, and the contract of ids.copied.
-/
import Derived.Test.YtjnobakbjapfjaaCompare
import Derived.Laws.OwnMore
import Derived.OwnWalk
namespace Go.Proofs.Ytjnobakbjapfjaa
open Go.RowKit Go.Sort Go.Shelf

theorem idInfo : (Try.prog.info? 23).map (fun i => (i.zero, i.size, i.bytes)) = some (some (.agg (enc default).toArray), 32, 32) := by kernel_rfl
theorem infoId' : (Try.prog.info? 23).map (·.size) = some 32 := by kernel_rfl
/-- 'copy(dst, src)' of ids into a block of the call's own. -/
theorem wpList_copy_ids {w : World} {ops : Array Oper} {rest : List Oper} {o : Oper} {a : Act} {Q : Exit → Act → World → Prop} (hgd : o.guard = none) (d s : Operand) (dT sT : TypeId)
    (ho : o.op = .call { callee := .builtin .copy, args := #[d, s], argTypes := #[dT, sT] }) (hu : Try.prog.underlying dT = some (.slice 23))
    (g n c n' : Nat) (A : Option Addr) (hd : a.eval d = .slice (some ⟨g, 0, none⟩) n n') (hs : a.eval s = .slice A n c)
    (cur : Array Value) (hg : Box w g 23 cur) (xs : List Id) (hx : Ids w A n c xs) (hfit : cur.size = n * 32)
    (h : ∀ w', Box w' g 23 (ec xs).toArray → w.grownBy w' (some g) → wpList Try.prog ops Q rest (a.put o.dst (goInt n)) w') : wpList Try.prog ops Q (o :: rest) a w := by
  refine wpList_plain hgd fun K hK => ?_
  have hrun : (Builtin.copy_ #[dT, sT] o.type #[.slice (some ⟨g, 0, none⟩) n n', .slice A n c]).run Try.prog w = .ok (goInt n) (w.setRow g (ec xs).toArray) := by
    have hst := run_storeCells_at Try.prog g 0 23 (ec xs) 0 cur w hg (by rw [ec_length, hx.len, hfit]; omega) (ec_cells xs)
    have hdr : cur.toList.drop (n * 32) = [] := List.drop_eq_nil_of_le (by simp [hfit])
    simp only [Nat.add_zero, ec_length, hx.len, List.take_zero, List.nil_append, Nat.zero_add, hdr, List.append_nil] at hst
    have hld : (Builtin.firstCells 32 n (.slice A n c)).run Try.prog w = .ok (ec xs).toArray w := by
      rcases Nat.eq_zero_or_pos n with h0 | h0
      · subst h0
        obtain rfl : xs = [] := List.eq_nil_of_length_eq_zero hx.len
        cases A <;> simp [Builtin.firstCells, loadCells, loadCellsFrom, ec, fb, bc]
      · obtain ⟨b, off, rfl, _, hr⟩ := hx.2.2 h0
        have := run_loadCells_list (P := Try.prog) w ⟨b, off, none⟩ (ec xs) (fun j v hv => by rw [Addr.add_mid]; exact hr j v hv)
        rw [ec_length, hx.len] at this
        simp [Builtin.firstCells, this]
    simp [Builtin.copy_, run_underlying hu, Builtin.lenOf, sizeOf_32 infoId', hld, hst]
  unfold Oper.wp
  simp [execOp, ho, resolve, invoke, builtin, hd, hs, hrun, Result.andThen]
  refine hK _ _ (h _ ?_ ?_)
  · exact setRow_heap w g _ _ 23 _ hg
  · exact grown_row (grown_refl w _) _

theorem own_box {w : World} {base g n : Nat} {e : TypeId} {xs : List Value} (h : w.ownsRow base e 32 (.slice (some ⟨g, 0, none⟩) n n) n xs) : xs.toArray.size = n * 32 ∧ Box w g e xs.toArray := by
  obtain ⟨h1, h2 | ⟨g', cap, cur, h2, _, h3, _, _, h4, h5⟩⟩ := h
  · simp at h2
  · simp at h2
    obtain ⟨rfl, rfl⟩ := h2
    rw [List.take_of_length_le (by rw [Array.length_toList, h4]; exact Nat.le_refl _)] at h5
    subst h5
    exact ⟨by simpa using h4, by simpa [Box] using h3⟩

/-- A list of ids in a block of its own, known whole. -/
def Row (w : World) (g : Nat) (xs : List Id) : Prop := Box w g 23 (ec xs).toArray
theorem Row.ids {w : World} {g : Nat} {xs : List Id} (h : Row w g xs) {n c : Nat} (hn : xs.length = n) (hc : n ≤ c) : Ids w (some ⟨g, 0, none⟩) n c xs :=
  ⟨hn, hc, fun _ => ⟨g, 0, rfl, Box.lt h, fun j v hv => by rw [Box.cell h]; simpa using hv⟩⟩

set_option maxHeartbeats 1000000 in
/-- ids.copied. -/
theorem copied_says (w : World) (A : Option Addr) (n c : Nat) (xs : List Id) (hx : Ids w A n c xs) (hn : n ≤ 1000) :
    Calls Try.prog 41 #[.slice A n c] w fun e w' => e = .returned (.slice (some ⟨w.heap.size, 0, none⟩) n n) ∧ Row w' w.heap.size xs ∧ Below w.heap.size w w' := by
  obtain ⟨i0, hi, hz0, hz1, hz2⟩ := info_parts idInfo
  have HX := Lib.hid hx
  clear hx
  go_enter Try.func41, Try.ntmps41
  go_wp2_with (first
    | (at_make; refine wpList_make_full _ rfl _ _ 35 rfl w.heap.size 23 i0 _ 32 Try.underlying35 hi hz0 hz1 _ _ _ _ n rfl rfl rfl rfl (by rw [hz2]; omega) (by unfold maxLen; omega) (Nat.le_refl _) ?_; intro w1 hown1 hg1)
    | (refine wpList_copy_ids rfl _ _ _ _ rfl Try.underlying35 w.heap.size n c n A rfl rfl _ (own_box hown1).2 xs (HX.out.below ((Below.refl _ w).grown hg1 (Nat.le_refl _) (fun k hk => by cases hk)) (Nat.le_refl _)) (own_box hown1).1 ?_; intro w2 hb2 hg2))
  go_ret
  exact ⟨rfl, hb2, ((Below.refl _ w).grown hg1 (Nat.le_refl _) (fun k hk => by cases hk)).trans ((Below.refl _ w1).grown hg2 hg1.size (fun k hk => by cases hk; exact Nat.le_refl _))⟩
end Go.Proofs.Ytjnobakbjapfjaa
