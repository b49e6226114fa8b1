/-
  The iterator of a set (ids.Set.All), inside a fence: what it hands on, one by one, for every loop body that keeps what lay.
-/
import Derived.Test.YtjnobakbjapfjaaCopied
import Derived.Test.YtjnobakbjapfjaaOwn
import Derived.RangeFuncNested
import Derived.RangeFuncLeaves
import Derived.Shelf.Abstract
import Derived.WalkKit
import Derived.OwnWalkIn
import Derived.TacticsInMore
import Derived.LoopNIn
import Derived.LoopIn
import Derived.Deep.WholeRow
namespace Go.Proofs.Ytjnobakbjapfjaa
open Go.RowKit Go.Sort Go.Shelf

attribute [local go_sem] Oper.semAt_some

theorem wpListIn_load_mid {F : Fence} {n : Nat} {P : Program} {ops : Array Oper} {rest : List Oper} {o : Oper} {a : Act} {w : World} {Q : Exit → Act → World → Prop} (hgd : o.guard = none) (ty : TypeId) (x : Operand) (ho : o.op = .load ty x)
    (b off : Nat) (hx : a.eval x = .pointer (some ⟨b, off, none⟩)) (cs : List Value) (d : TypeDesc) (hc : w.rangeAt b off cs) (hu : P.underlying ty = some d) (hrow : d.isRow = true) (hsz : (P.info? ty).map (·.size) = some cs.length)
    (h : wpListIn F n P ops Q rest (a.put o.dst (.agg cs.toArray)) w) : wpListIn F n P ops Q (o :: rest) a w := by
  refine wpListIn_plain hgd fun K hK => ?_
  unfold Oper.wpIn
  refine ⟨?_, ?_⟩
  · simp [Oper.about, ho]
  · rw [Oper.semAt_plain F _ _ (by rw [ho]; intro c hc'; cases hc')]
    simp only [execOp, ho, hx, Sem.run_bind, Result.andThen_ok, run_loadAt_mid w b off ty cs d hc hu hrow hsz, Sem.run_pure, Oper.uponIn_value]
    exact hK _ _ h
theorem wpListIn_store_row {F : Fence} {n : Nat} {P : Program} {ops : Array Oper} {rest : List Oper} {o : Oper} {a : Act} {w : World} {Q : Exit → Act → World → Prop} (hgd : o.guard = none) (ty : TypeId) (x y : Operand) (ho : o.op = .store ty x y)
    (g : Nat) (cells : Array Value) (hx : a.eval x = .pointer (some ⟨g, 0, none⟩)) (hy : a.eval y = .agg cells)
    (t : TypeId) (old : Array Value) (hg : w.heap[g]? = some (.cells old t (0, 0))) (hi : (P.info? ty).map (·.size) = some cells.size) (hold : old.size = cells.size) (h1 : cells.all (·.oneCell') = true)
    (h : wpListIn F n P ops Q rest (a.put o.dst undef) (w.setRow g cells)) : wpListIn F n P ops Q (o :: rest) a w := by
  refine wpListIn_plain hgd fun K hK => ?_
  unfold Oper.wpIn
  refine ⟨?_, ?_⟩
  · simp [Oper.about, ho]
  · rw [Oper.semAt_plain F _ _ (by rw [ho]; intro c hc'; cases hc')]
    simp only [execOp, ho, hx, hy, Instr.storeAt, Instr.sureAddr, Sem.run_bind, Sem.run_pure, Result.andThen_ok, run_storeVar_row w g t ty old cells hg hi hold h1]
    exact hK _ _ h
/-- An id into its own box, inside a fence. -/
theorem wpListIn_store_box {F : Fence} {n : Nat} {ops : Array Oper} {rest : List Oper} {o : Oper} {a : Act} {w : World} {Q : Exit → Act → World → Prop} (hgd : o.guard = none) (p q : Operand) (ho : o.op = .store 23 p q) (g : Nat) (x y : Id) (hp : a.eval p = .pointer (some ⟨g, 0, none⟩)) (hq : a.eval q = .agg (enc x).toArray)
    (hr : Box w g 23 (enc y).toArray) (h : ∀ w', Box w' g 23 (enc x).toArray → w.grownBy w' (some g) → wpListIn F n Try.prog ops Q rest (a.put o.dst undef) w') : wpListIn F n Try.prog ops Q (o :: rest) a w := by
  refine wpListIn_store_row hgd 23 p q ho g (enc x).toArray hp hq 23 (enc y).toArray hr (by rw [enc_size]; exact infoId') (by rw [enc_size, enc_size]) (enc_all x) (h _ ?_ ?_)
  · exact setRow_heap w g _ _ 23 _ hr
  · exact grown_row (grown_refl w _) _

theorem idZero' : (Try.prog.info? 23).map (fun i => (i.zero, i.size)) = some (some (.agg (enc default).toArray), 32) := by kernel_rfl
theorem range_box {w : World} {g : Nat} {t : TypeId} {cs : List Value} (h : Box w g t cs.toArray) : w.rangeAt g 0 cs := fun j v hv => by
  rw [Box.cell h]
  simpa using hv
/-- A block laid, and written: all that lay lies. -/
theorem grown_new {w w' : World} {o : Obj} (h : (w.alloc o).grownBy w' (some w.heap.size)) : w.grownBy w' none :=
  ⟨h.os, h.tape, h.output, by have := h.size; simp at this; omega, fun k hk _ => (h.block k (by simp; omega) (by simp; omega)).trans (Below.heap_alloc w o k hk)⟩

/-- 'yield == nil'. -/
theorem run_equalIn_yield (d l : Nat) (w : World) : (Op.equalIn (d + 1) 54 (.func (.yield l) #[] #[]) .nilFunc).run Try.prog w = .ok false w := by
  rw [Op.equalIn]
  simp [run_underlying Try.underlying54]
theorem run_eql_yield (l : Nat) (w : World) : (binOp .eql 54 (.func (.yield l) #[] #[]) .nilFunc).run Try.prog w = .ok (.bool false) w := by
  have h := run_equalIn_yield 9999 l w
  simp only [binOp, Op.equal, Op.maxDepth]
  rw [show (10000 : Nat) = 9999 + 1 from rfl]
  generalize 9999 + 1 = d at h ⊢
  simp [h]

/-- What block g holds is kept. -/
structure KeptAt (g : Nat) (A B : World) : Prop where
  size : A.heap.size ≤ B.heap.size
  same : B.heap[g]? = A.heap[g]?
theorem KeptAt.refl (g : Nat) (A : World) : KeptAt g A A := ⟨Nat.le_refl _, rfl⟩
theorem KeptAt.trans {g : Nat} {A B C : World} (h : KeptAt g A B) (k : KeptAt g B C) : KeptAt g A C := ⟨Nat.le_trans h.size k.size, k.same.trans h.same⟩
theorem KeptAt.grown {g : Nat} {A B : World} {row : Option Nat} (h : A.grownBy B row) (hg : g < A.heap.size) (hne : some g ≠ row) : KeptAt g A B := ⟨h.size, h.block g hg hne⟩
theorem KeptAt.range {g : Nat} {A B : World} (h : KeptAt g A B) {o : Nat} {cs : List Value} (hr : A.rangeAt g o cs) : B.rangeAt g o cs := fun j v hv => (World.cell?_of_block (w := A) (a := ⟨g, o + j, none⟩) h.same).trans (hr j v hv)
theorem KeptAt.below {g B : Nat} {X Y : World} (h : Below B X Y) (hg : g < B) : KeptAt g X Y := ⟨h.size, h.block g hg⟩

set_option maxRecDepth 100000 in
set_option maxHeartbeats 2000000 in
theorem all1_in (F : Fence) (n : Nat) (h61 : F.fn 61) (hro : F.round = none) (hn : 1 ≤ n) (l Bs N0 b len cap : Nat) (xs : List Id) (hlen : xs.length = len) (hl : len ≤ 1000) (J Jx : List Id → World → Prop) (hJ : AbidesFrom N0 J)
    (hY : ∀ pre x W, J pre W → pre.length < len → YieldAt F (n - 1) Try.prog l #[.agg (enc x).toArray] W fun e W' =>
      (e = .returned (.bool true) ∧ J (pre ++ [x]) W' ∧ KeptAt b W W') ∨ (e = .returned (.bool false) ∧ Jx (pre ++ [x]) W'))
    (W : World) (hBs : W.cell? ⟨Bs, 0, none⟩ = some (.slice (some ⟨b, 0, none⟩) len cap)) (hr : W.rangeAt b 0 (ec xs)) (hb : b < W.heap.size) (h0 : J [] W) :
    CallsIn F n Try.prog 61 #[.func (.yield l) #[] #[], .pointer (some ⟨Bs, 0, none⟩)] W fun e W' => (∃ v, e = .returned v) ∧
      ((∃ ys, ys = xs ∧ J ys W') ∨ (∃ pre, pre <+: xs ∧ Jx pre W')) := by
  have hz := (zero_of_info idZero').1
  have hza := enc_size (default : Id)
  obtain ⟨zi, hzi⟩ : ∃ z : Id, z = default := ⟨_, rfl⟩
  rw [← hzi] at hz hza
  clear hzi
  have HR := Lib.hid hr
  clear hr
  have hey := run_eql_yield l
  refine callsIn_of_wp Try.func61 rfl h61 ?_ hro
  simp only [Try.ntmps61, List.size_toArray, List.length_cons, List.length_nil, Nat.reduceAdd, Nat.reduceSub, Array.replicate_succ, Array.replicate_zero, List.push_toArray, List.append_toArray, List.nil_append, List.cons_append]
  gi_wp2
  gi_loopw [9] (fun i wr => ∃ k : Nat, k ≤ len ∧ i = .int .i64 k ∧ J (xs.take k) wr ∧ KeptAt b W wr) (fun i _ => len - (intOf i).toNat)
  case atStart => exact ⟨0, Nat.zero_le _, rfl, by simpa using h0, KeptAt.refl _ _⟩
  case round =>
    obtain ⟨k, hk, rfl, hJs, hnx⟩ := hrel
    by_cases hlt : k < len
    · obtain ⟨x, hx⟩ : ∃ x, xs[k]? = some x := ⟨_, List.getElem?_eq_getElem (by omega)⟩
      have hrx : wr.rangeAt b (k * 32) (enc x) := fun i v hv => by have := hnx.range HR.out _ v (ec_at xs k x hx i v hv); rwa [Nat.zero_add] at this
      have htk : xs.take (k + 1) = xs.take k ++ [x] := by
        rw [List.take_add_one, hx]
        rfl
      have hpre : xs.take k ++ [x] <+: xs := by rw [← htk]; exact List.take_prefix _ _
      have hlk : (xs.take k).length < len := by rw [List.length_take]; omega
      have HTK := Lib.hid htk
      have HPRE := Lib.hid hpre
      have HRX := Lib.hid hrx
      have HNX := Lib.hid hnx
      have HJS := Lib.hid hJs
      clear htk hpre hrx hnx hJs hx
      gi_wp2_with (first
        | (refine wpListIn_load_mid rfl 23 _ rfl b (k * 32) rfl (enc x) _ HRX.out Try.underlying23 rfl (infoId _) ?_)
        | (refine wpListIn_store_box rfl _ _ rfl wr.heap.size x zi rfl rfl (Box.made wr _ _) ?_; intro w2 hb2 hg2; have HB2 := Lib.hid hb2; have HG2 := Lib.hid (grown_new hg2); clear hb2 hg2; obtain ⟨fn, tmps, assign, body, hy, hR⟩ := hY _ x w2 (hJ _ _ _ _ HJS.out HG2.out (fun r e => by cases e)) hlk)
        | (refine wpListIn_load_mid rfl 23 _ rfl wr.heap.size 0 rfl (enc x) _ (range_box HB2.out) Try.underlying23 rfl (infoId _) ?_))
      refine hR.mono ?_
      rintro e W3 (⟨rfl, hJ3, hk3⟩ | ⟨rfl, hJx3⟩)
      · have HJ3 := Lib.hid hJ3
        have HK3 := Lib.hid (HNX.out.trans ((KeptAt.grown HG2.out (Nat.lt_of_lt_of_le hb HNX.out.size) (by simp)).trans hk3))
        clear hJ3 hk3 hy hR
        gi_wp2
        go_roundw
        case rel => exact ⟨k + 1, by omega, by simp, by rw [HTK.out]; exact HJ3.out, HK3.out⟩
        case measure => simp [intOf]; omega
      · clear hy hR
        gi_wp2
        refine bodyPost_ret (results_none rfl _ _ _) rfl ?_
        exact ⟨⟨_, rfl⟩, .inr ⟨_, HPRE.out, hJx3⟩⟩
    · obtain rfl : k = len := by omega
      gi_wp2
      go_end0
      exact ⟨⟨_, rfl⟩, .inl ⟨_, by rw [← hlen, List.take_length], hJs⟩⟩

set_option maxHeartbeats 1000000 in
/-- All: a copy of the list, boxed; the function that it hands back has the box. -/
theorem all_in (w : World) (A : Option Addr) (n c : Nat) (xs : List Id) (hx : Ids w A n c xs) (hn : n ≤ 1000) :
    Calls Try.prog 39 #[.slice A n c] w fun e w' => ∃ B, e = .returned (.func (.func 61) #[] #[.pointer (some ⟨B, 0, none⟩)]) ∧ w.heap.size < B ∧ Row w' w.heap.size xs ∧
      Boxed w' B 35 (.slice (some ⟨w.heap.size, 0, none⟩) n n) ∧ Below w.heap.size w w' := by
  have hC := copied_says w A n c xs hx hn
  clear hx
  go_enter Try.func39, Try.ntmps39
  go_wp2_with fail
  refine hC.mono ?_
  rintro e w1 ⟨rfl, hr1, hb1⟩
  have HR := Lib.hid hr1
  have HB := Lib.hid hb1
  clear hr1 hb1
  go_wp2
  go_ret
  exact ⟨w1.heap.size, rfl, Box.lt HR.out, Box.alloc HR.out _, Boxed.new w1 _ _, HB.out.alloc HB.out.size _⟩

/-- All's answer hands on all of xs in order, or the first ones, if it is left. -/
theorem all_stops (F : Fence) (n : Nat) (h61 : F.fn 61) (hro : F.round = none) (hn : 1 ≤ n) (Bs b len cap : Nat) (xs : List Id) (hlen : xs.length = len) (hl : len ≤ 1000) (w : World) (hBs : Bs < w.heap.size) (hb : b < w.heap.size)
    (hc : w.cell? ⟨Bs, 0, none⟩ = some (.slice (some ⟨b, 0, none⟩) len cap)) (hr : w.rangeAt b 0 (ec xs)) :
    SeqStopsK F n Try.prog 61 #[.pointer (some ⟨Bs, 0, none⟩)] (fun x : Id => #[Value.agg (enc x).toArray]) (KeptAt b) (fun ys => ys = xs) (fun pre => pre <+: xs) len w := fun l J Jx W hW hJ _ hY h0 =>
  all1_in F n h61 hro hn l Bs W.heap.size b len cap xs hlen hl J Jx hJ hY W ((hW.cell (p := ⟨Bs, 0, none⟩) hBs).trans hc) ((KeptAt.below hW hb).range hr) (Nat.lt_of_lt_of_le hb hW.size) h0
end Go.Proofs.Ytjnobakbjapfjaa
