/-
  Laws for ranges over functions, inside a fence: loads and stores of many cells, what is kept between rounds.
  slices.Backward, inside a fence: what it hands on, one by one, for every loop body that keeps what lay.
  A region that draws its order, within a round of a range over a function, no fence around it: walked as outside.
  Arguments of the laws, opened: slices of bytes.
  Slices of whole numbers that are read.
  How many bytes of a write are kept: dev.kept; and what a fall comes to, in plain words.
-/
import Derived.Test.YtnhondkdkjehaaaGreatLaws
import Derived.RangeFuncNested
import Derived.RangeFuncLeaves
import Derived.Shelf.Abstract
import Derived.WalkKit
import Derived.OwnWalkIn
import Derived.TacticsInMore
import Derived.LoopNIn
import Derived.LoopIn
import Derived.Deep.WholeRow
import Derived.Test.YtnhondkdkjehaaaGreatSlB
import Derived.Test.YtnhondkdkjehaaaGreatProg
import Derived.ProofKit
import Derived.OpenShut
import Derived.ShutString
import Derived.ChangeOld
namespace Go.Proofs.YtnhondkdkjehaaaGreat
open Go.RowKit Go.Shelf

attribute [local go_sem] Oper.semAt_some

theorem wpListIn_load_mid {F : Fence} {n : Nat} {P : Program} {ops : Array Oper} {rest : List Oper} {o : Oper} {a : Act} {w : World} {Q : Exit → Act → World → Prop} (hgd : o.guard = none) (ty : TypeId) (x : Operand) (ho : o.op = .load ty x)
    (b off : Nat) (hx : a.eval x = .pointer (some ⟨b, off, none⟩)) (cs : List Value) (d : TypeDesc) (hc : w.rangeAt b off cs) (hu : P.underlying ty = some d) (hrow : d.isRow = true) (hsz : (P.info? ty).map (·.size) = some cs.length)
    (h : wpListIn F n P ops Q rest (a.put o.dst (.agg cs.toArray)) w) : wpListIn F n P ops Q (o :: rest) a w := by
  refine wpListIn_plain hgd fun K hK => ?_
  unfold Oper.wpIn
  refine ⟨?_, ?_⟩
  · simp [Oper.about, ho]
  · rw [Oper.semAt_plain F _ _ (by rw [ho]; intro c hc'; cases hc')]
    simp only [execOp, ho, hx, Sem.run_bind, Result.andThen_ok, run_loadAt_mid w b off ty cs d hc hu hrow hsz, Sem.run_pure, Oper.uponIn_value]
    exact hK _ _ h
theorem wpListIn_store_row {F : Fence} {n : Nat} {P : Program} {ops : Array Oper} {rest : List Oper} {o : Oper} {a : Act} {w : World} {Q : Exit → Act → World → Prop} (hgd : o.guard = none) (ty : TypeId) (x y : Operand) (ho : o.op = .store ty x y)
    (g : Nat) (cells : Array Value) (hx : a.eval x = .pointer (some ⟨g, 0, none⟩)) (hy : a.eval y = .agg cells)
    (t : TypeId) (old : Array Value) (hg : w.heap[g]? = some (.cells old t (0, 0))) (hi : (P.info? ty).map (·.size) = some cells.size) (hold : old.size = cells.size) (h1 : cells.all (·.oneCell') = true)
    (h : wpListIn F n P ops Q rest (a.put o.dst undef) (w.setRow g cells)) : wpListIn F n P ops Q (o :: rest) a w := by
  refine wpListIn_plain hgd fun K hK => ?_
  unfold Oper.wpIn
  refine ⟨?_, ?_⟩
  · simp [Oper.about, ho]
  · rw [Oper.semAt_plain F _ _ (by rw [ho]; intro c hc'; cases hc')]
    simp only [execOp, ho, hx, hy, Instr.storeAt, Instr.sureAddr, Sem.run_bind, Sem.run_pure, Result.andThen_ok, run_storeVar_row w g t ty old cells hg hi hold h1]
    exact hK _ _ h
/-- A block laid, and written: all that lay lies. -/
theorem grown_new {w w' : World} {o : Obj} (h : (w.alloc o).grownBy w' (some w.heap.size)) : w.grownBy w' none :=
  ⟨h.os, h.tape, h.output, by have := h.size; simp at this; omega, fun k hk _ => (h.block k (by simp; omega) (by simp; omega)).trans (Below.heap_alloc w o k hk)⟩

/-- What block g holds is kept. -/
structure KeptAt (g : Nat) (A B : World) : Prop where
  size : A.heap.size ≤ B.heap.size
  same : B.heap[g]? = A.heap[g]?
theorem KeptAt.refl (g : Nat) (A : World) : KeptAt g A A := ⟨Nat.le_refl _, rfl⟩
theorem KeptAt.trans {g : Nat} {A B C : World} (h : KeptAt g A B) (k : KeptAt g B C) : KeptAt g A C := ⟨Nat.le_trans h.size k.size, k.same.trans h.same⟩
theorem KeptAt.grown {g : Nat} {A B : World} {row : Option Nat} (h : A.grownBy B row) (hg : g < A.heap.size) (hne : some g ≠ row) : KeptAt g A B := ⟨h.size, h.block g hg hne⟩
theorem KeptAt.range {g : Nat} {A B : World} (h : KeptAt g A B) {o : Nat} {cs : List Value} (hr : A.rangeAt g o cs) : B.rangeAt g o cs := fun j v hv => (World.cell?_of_block (w := A) (a := ⟨g, o + j, none⟩) h.same).trans (hr j v hv)
theorem KeptAt.below {g B : Nat} {X Y : World} (h : Below B X Y) (hg : g < B) : KeptAt g X Y := ⟨h.size, h.block g hg⟩

theorem opIn_run {F : Fence} {n : Nat} {P : Program} {ops : Array Oper} {Q : Exit → Act → World → Prop} {o : Oper} {a : Act} {w w' : World} {K : Act → World → Prop} (v : Value) (hg : o.guard = none) (hd : ∀ c, o.op ≠ .defer c) (ha : o.about P w a.eval = none)
    (hrun : (execOp a.eval o).run P w = .ok (.value v) w') (h : K (a.put o.dst v) w') : if Region.wanted o (yielded ops a.tmps) = true then o.wpIn F n P a w K Q else (∀ f, o.about P w a.eval = some f → F.fn f) ∧ K (a.put o.dst undef) w := by
  have hw : Region.wanted o (yielded ops a.tmps) = true := by simp [Region.wanted, hg]
  rw [if_pos hw]
  unfold Oper.wpIn
  refine ⟨fun f hf => (by rw [ha] at hf; cases hf), ?_⟩
  rw [Oper.semAt_plain F _ _ hd, hrun]
  rw [Oper.uponIn_value]
  exact h

/-- The same for a store. -/
theorem opIn_store {F : Fence} {n : Nat} {P : Program} {ops : Array Oper} {Q : Exit → Act → World → Prop} {o : Oper} {a : Act} {w w' : World} {K : Act → World → Prop} (hg : o.guard = none) (hd : ∀ c, o.op ≠ .defer c) (ha : o.about P w a.eval = none)
    (hrun : (execOp a.eval o).run P w = .ok .skip w') (h : K (a.put o.dst undef) w') : if Region.wanted o (yielded ops a.tmps) = true then o.wpIn F n P a w K Q else (∀ f, o.about P w a.eval = some f → F.fn f) ∧ K (a.put o.dst undef) w := by
  have hw : Region.wanted o (yielded ops a.tmps) = true := by simp [Region.wanted, hg]
  rw [if_pos hw]
  unfold Oper.wpIn
  refine ⟨fun f hf => (by rw [ha] at hf; cases hf), ?_⟩
  rw [Oper.semAt_plain F _ _ hd, hrun, Oper.uponIn_skip]
  exact h

end Go.Proofs.YtnhondkdkjehaaaGreat
namespace Go.Proofs.YtnhondkdkjehaaaGreat
open Go.RowKit Go.Shelf

attribute [local go_sem] Oper.semAt_some

/-- The write at a place. -/
def wAt (ws : List Wr) (i : Nat) : Wr := ws.getD i default
theorem wAt_at {ws : List Wr} {i : Nat} (h : i < ws.length) : ws[i]? = some (wAt ws i) := by simp [wAt, h]
/-- Places, the last first. -/
def backL (ws : List Wr) : List Nat := (List.range ws.length).reverse
theorem backL_length (ws : List Wr) : (backL ws).length = ws.length := by simp [backL]
theorem backL_at (ws : List Wr) {j m : Nat} (h : ws.length = m + 1 + j) : (backL ws)[j]? = some m := by
  rw [backL, List.getElem?_reverse (by simp; omega), List.length_range, List.getElem?_range (by omega)]
  simp [show ws.length - 1 - j = m by omega]
theorem backL_writes (ws : List Wr) : (backL ws).map (wAt ws) = ws.reverse := by
  apply List.ext_getElem?
  intro j
  by_cases hj : j < ws.length
  · obtain ⟨m, hm⟩ : ∃ m, ws.length = m + 1 + j := ⟨ws.length - 1 - j, by omega⟩
    rw [List.getElem?_map, backL_at ws hm, List.getElem?_reverse hj, show ws.length - 1 - j = m by omega]
    simp [wAt, show m < ws.length by omega]
  · rw [List.getElem?_eq_none (by simp [backL]; omega), List.getElem?_eq_none (by simp; omega)]
def kp2 (g B : Nat) (X Y : World) : Prop := KeptAt g X Y ∧ KeptAt B X Y
theorem kp2.refl (g B : Nat) (X : World) : kp2 g B X X := ⟨KeptAt.refl _ _, KeptAt.refl _ _⟩
theorem kp2.trans {g B : Nat} {X Y Z : World} (h : kp2 g B X Y) (k : kp2 g B Y Z) : kp2 g B X Z := ⟨h.1.trans k.1, h.2.trans k.2⟩
def encW (ws : List Wr) (i : Nat) : Array Value := #[.int .i64 (i : Int), .agg (we (wAt ws i)).toArray]

set_option maxRecDepth 100000 in
set_option maxHeartbeats 2000000 in
theorem back1_in (F : Fence) (n : Nat) (hf : F.fn 112) (hro : F.round = none) (hn : 1 ≤ n) (l Bs g len cap : Nat) (A : Option Addr) (ws : List Wr) (hlen : ws.length = len) (hl : len ≤ 1000000) (J Jx : List Nat → World → Prop)
    (hY : ∀ pre x W, J pre W → pre.length < len → YieldAt F (n - 1) Tryz.prog l (encW ws x) W fun e W' =>
      (e = .returned (.bool true) ∧ J (pre ++ [x]) W' ∧ kp2 g Bs W W') ∨ (e = .returned (.bool false) ∧ Jx (pre ++ [x]) W'))
    (W : World) (hBs : W.cell? ⟨Bs, 0, none⟩ = some (.slice A len cap)) (hA : 0 < len → A = some ⟨g, 0, none⟩) (hr : W.rangeAt g 0 (fl we ws)) (h0 : J [] W) :
    CallsIn F n Tryz.prog 112 #[.func (.yield l) #[] #[], .pointer (some ⟨Bs, 0, none⟩)] W fun e W' => (∃ v, e = .returned v) ∧
      ((∃ ys, ys = backL ws ∧ J ys W') ∨ (∃ pre, pre <+: backL ws ∧ Jx pre W')) := by
  have HR := Lib.hid hr
  have HA := Lib.hid hA
  clear hr hA
  have q0 : IntKind.i64.wrap ((len : Int) - 1) = (len : Int) - 1 := IntWalk.i64_in _ (by omega)
  refine callsIn_of_wp Tryz.func112 rfl hf ?_ hro
  simp only [Tryz.ntmps112, List.size_toArray, List.length_cons, List.length_nil, Nat.reduceAdd, Nat.reduceSub, Array.replicate_succ, Array.replicate_zero, List.push_toArray, List.append_toArray, List.nil_append, List.cons_append]
  gi_wp2
  gi_loopw [3] (fun i wr => ∃ j : Nat, j ≤ len ∧ i = .int .i64 ((len : Int) - 1 - (j : Int)) ∧ Hid (J ((backL ws).take j) wr ∧ kp2 g Bs W wr)) (fun i _ => (intOf i + 1).toNat)
  case atStart => exact ⟨0, Nat.zero_le _, by simp, Lib.hid ⟨by simpa using h0, kp2.refl _ _ _⟩⟩
  case round =>
    obtain ⟨j, hj, rfl, H⟩ := hrel
    by_cases hlt : j < len
    · obtain ⟨m, hm⟩ : ∃ m, len = m + 1 + j := ⟨len - 1 - j, by omega⟩
      have e1 : (len : Int) - 1 - (j : Int) = (m : Int) := by omega
      rw [e1]
      obtain ⟨x, hx⟩ : ∃ x, wAt ws m = x := ⟨_, rfl⟩
      have hbl := backL_at ws (show ws.length = m + 1 + j by omega)
      have hxm : ws[m]? = some x := by rw [← hx]; exact wAt_at (by omega)
      obtain ⟨hJs, hkp⟩ := H.out
      have hrx : wr.rangeAt g (m * 513) (we x) := fun i v hv => by have := hkp.1.range HR.out _ v (fl_at we_length ws m x hxm i v hv); rwa [Nat.zero_add] at this
      have hcb : wr.cell? ⟨Bs, 0, none⟩ = some (.slice (some ⟨g, 0, none⟩) len cap) := by
        rw [← HA.out (by omega)]
        exact (World.cell?_of_block (w := W) (a := ⟨Bs, 0, none⟩) hkp.2.same).trans hBs
      have htk : (backL ws).take (j + 1) = (backL ws).take j ++ [m] := by
        rw [List.take_add_one, hbl]
        rfl
      have hpre : (backL ws).take j ++ [m] <+: backL ws := by rw [← htk]; exact List.take_prefix _ _
      have hlk : ((backL ws).take j).length < len := by rw [List.length_take, backL_length]; omega
      obtain ⟨fn, tmps, assign, body, hy, hR⟩ := hY _ m wr hJs hlk
      have hy' : (Instr.yield l #[.int .i64 (m : Int), .agg (we x).toArray]).run Tryz.prog wr = .ok (.round l fn tmps assign body) wr := by rw [← hx]; exact hy
      have HTK := Lib.hid htk
      have HPRE := Lib.hid hpre
      have HRX := Lib.hid hrx
      have HKP := Lib.hid hkp
      have l1 : (m : Int) < (len : Int) := by omega
      have l2 : m < len := by omega
      have q1 : IntKind.i64.wrap ((m : Int) - 1) = (m : Int) - 1 := IntWalk.i64_in _ (by omega)
      have HM := Lib.hid hm
      clear htk hpre hrx hJs hkp hbl hxm H hx hy hm e1
      gi_wp2_with (first
        | (refine wpListIn_load_mid rfl 122 _ rfl g (m * 513) rfl (we x) _ HRX.out Tryz.underlying122 rfl (by rw [we_length]; exact infoWr) ?_))
      refine hR.mono ?_
      rintro e W3 (⟨rfl, hJ3, hk3⟩ | ⟨rfl, hJx3⟩)
      · have HJ3 := Lib.hid hJ3
        have HK3 := Lib.hid (HKP.out.trans hk3)
        clear hJ3 hk3 hy' hR
        gi_wp2
        go_roundw
        case rel => exact ⟨j + 1, by omega, by have := HM.out; congr 1; omega, Lib.hid ⟨by rw [HTK.out]; exact HJ3.out, HK3.out⟩⟩
        case measure => simp [intOf]
      · clear hy' hR
        gi_wp2
        refine bodyPost_ret (results_none rfl _ _ _) rfl ?_
        exact ⟨⟨_, rfl⟩, .inr ⟨_, HPRE.out, hJx3⟩⟩
    · obtain rfl : j = len := by omega
      have e1 : (j : Int) - 1 - (j : Int) = -1 := by omega
      rw [e1]
      gi_wp2
      go_end0
      exact ⟨⟨_, rfl⟩, .inl ⟨_, by rw [← hlen, ← backL_length, List.take_length], H.out.1⟩⟩

/-- Its answer: a function that has the slice, boxed. -/
theorem back_says (w : World) (A : Option Addr) (n c : Nat) :
    Calls Tryz.prog 89 #[.slice A n c] w fun e w' => e = .returned (.func (.func 112) #[] #[.pointer (some ⟨w.heap.size, 0, none⟩)]) ∧
      Box w' w.heap.size 109 #[.slice A n c] ∧ Below w.heap.size w w' := by
  go_enter Tryz.func89, Tryz.ntmps89
  go_wp2
  go_ret
  exact ⟨rfl, Box.made w _ _, (Below.refl _ w).alloc (Nat.le_refl _) _⟩

theorem back_stops (F : Fence) (n : Nat) (hf : F.fn 112) (hro : F.round = none) (hn : 1 ≤ n) (Bs g len cap : Nat) (A : Option Addr) (ws : List Wr) (hlen : ws.length = len) (hl : len ≤ 1000000) (w : World) (hBs : Bs < w.heap.size) (hg : g < w.heap.size)
    (hc : w.cell? ⟨Bs, 0, none⟩ = some (.slice A len cap)) (hA : 0 < len → A = some ⟨g, 0, none⟩) (hr : w.rangeAt g 0 (fl we ws)) :
    SeqStopsK F n Tryz.prog 112 #[.pointer (some ⟨Bs, 0, none⟩)] (encW ws) (kp2 g Bs) (fun ys => ys = backL ws) (fun pre => pre <+: backL ws) len w := fun l J Jx W hW _ _ hY h0 =>
  back1_in F n hf hro hn l Bs g len cap A ws hlen hl J Jx hY W ((hW.cell (p := ⟨Bs, 0, none⟩) hBs).trans hc) hA ((KeptAt.below hW hg).range hr) h0
end Go.Proofs.YtnhondkdkjehaaaGreat
namespace Go.Proofs.YtnhondkdkjehaaaGreat
open Go.RowKit

section
variable {P : Program} {ops : Array Oper} {Q : Exit → Act → World → Prop} {n r : Nat}
theorem upon_round {o : Oper} {a : Act} {next : Act → World → Prop} : ∀ (x : Result Next), o.upon P a next Q x → o.uponIn (Fence.wide.inRound r) n P a next Q x
  | .ok (.value _) _, h => h
  | .ok .skip _, h => h
  | .ok (.defer _) _, h => h
  | .ok (.enter _ _) _, h => ⟨fun e => by simp [Fence.wide, Fence.inRound] at e, callsIn_wide.2 h⟩
  | .ok (.row _ _) _, h => ⟨fun e => by simp [Fence.wide, Fence.inRound] at e, fun c cs _ => let ⟨v, w', q, s⟩ := h c cs; ⟨v, w', q, stepsIn_wide.2 s⟩⟩
  | .halt (.panic _) _, h => h
theorem wpOps_round (hd : ∀ (i : Nat) (o : Oper) c, ops[i]? = some o → o.op ≠ .defer c) (hQ : ¬ LetsOut Q) : ∀ (l : List Nat) (a : Act) (w : World), wpOps P ops Q l a w → wpOpsIn (Fence.wide.inRound r) n P ops Q l a w
  | [], _, _, h => h
  | i :: l, a, w, h => by
    rw [wpOpsIn]
    rw [wpOps] at h
    cases ho : ops[i]? with
    | none =>
      rw [ho] at h
      exact wpOps_round hd hQ l a w h
    | some o =>
      rw [ho] at h
      simp only at h ⊢
      by_cases hw : Region.wanted o (yielded ops a.tmps) = true
      · rw [if_pos hw] at h ⊢
        have h := h.resolve_right (fun hh => hQ hh.2)
        refine Oper.wpIn_mono (fun a' w' => wpOps_round hd hQ l a' w') ?_
        refine ⟨fun f _ => trivial, ?_⟩
        rw [Oper.semAt_plain _ _ _ (fun c => hd i o c ho)]
        exact upon_round _ h
      · rw [if_neg hw] at h ⊢
        exact ⟨fun f _ => trivial, wpOps_round hd hQ l _ w h⟩
theorem wpIn_region_round {S : World → Prop} {id : Nat} {a : Act} {w : World} (hm : P.follows .mixedOrders = true) (hd : ∀ (i : Nat) (o : Oper) c, ops[i]? = some o → o.op ≠ .defer c) (hQ : ¬ LetsOut Q) (hS : S w.drew)
    (h : S w.drew → wpAnyH P .any ops Q S ops.size (Array.replicate ops.size false) a w.drew) : (Code.region id ops true).wpIn (Fence.wide.inRound r) n P Q a w :=
  wpIn_region_draw fun t => by
    simp only [Region.schedule, hm, Bool.true_or, if_true]
    exact wpOps_round hd hQ _ _ _ (wpAny_sound ops.size t _ a _ (wpAny_of_held _ _ _ _ (h hS)))
/-- No operation among these is a deferred call. -/
def noDefer (ops : Array Oper) : Bool := ops.toList.all fun o => match o.op with | .defer _ => false | _ => true
theorem noDefer_spec (h : noDefer ops = true) : ∀ (i : Nat) (o : Oper) c, ops[i]? = some o → o.op ≠ .defer c := fun i o c ho he => by
  have := List.all_eq_true.1 h o (by rw [Array.mem_toList_iff]; exact Array.mem_of_getElem? ho)
  rw [he] at this
  cases this
end
end Go.Proofs.YtnhondkdkjehaaaGreat
namespace Go.Proofs.YtnhondkdkjehaaaGreat
open Go.ChangeShapes Go.WideShapes Go.ChangeAt Go.RowKit

section
variable {H : Type} {enc : TypeId × Value → H} {W : World} {A : Option Addr} {n c : Nat} {d : DataW H} {p : List MemPlace}

theorem lies_of {x : Addr} {xs : List Value} (hl : n ≤ c) (hx : xs.length = n) (hc : ∀ j u, xs[j]? = some u → W.cell? (x.add j) = some u) : Lies W (fun _ => True) (some x) n c xs := by
  refine ⟨hx, hl, fun h0 => ⟨x, rfl, trivial, ?_, hc⟩⟩
  have h1 := hc 0 (xs[0]'(by omega)) (List.getElem?_eq_getElem (by omega))
  have := World.block_lt_of_cell? W _ h1
  rwa [add_block] at this

theorem map_getD {α : Type} (f : α → Value) (d : α) (zs : List α) (j : Nat) (u : Value) (h : (zs.map f)[j]? = some u) : j < zs.length ∧ u = f (zs.getD j d) := by
  rw [List.getElem?_map] at h
  rcases hz : zs[j]? with _ | z
  · rw [hz] at h
    cases h
  · rw [hz] at h
    have hj : j < zs.length := by
      rcases Nat.lt_or_ge j zs.length with h1 | h1
      · exact h1
      · rw [List.getElem?_eq_none h1] at hz
        cases hz
    refine ⟨hj, ?_⟩
    simp only [List.getD, hz, Option.getD_some]
    simpa using h.symm

/-- A slice of bytes that came in. -/
theorem open_bytes (h : DataW.Trod enc Tryz.prog W 0 (fun _ => true) true 49 (.slice A n c) d p) : ∃ l : List UInt8, Lies W (fun _ => True) A n c (bc l) := by
  obtain ⟨fuel, hf⟩ := h
  rcases open_ints Tryz.underlying49 Tryz.underlying5 (by kernel_rfl) hf with ⟨hcs, _⟩ | ⟨x, l, cc, zs, hcs, _, hl, hm, hz, _, hcell, hwz⟩
  · simp [Value.cells] at hcs
    obtain ⟨rfl, rfl, rfl⟩ := hcs
    exact ⟨[], Lies.nil _ _⟩
  · simp [Value.cells] at hcs
    obtain ⟨rfl, rfl, rfl⟩ := hcs
    have hz' : zs.length = c := by simpa using hz
    refine ⟨(zs.take n).map fun z => UInt8.ofNat z.toNat, ?_⟩
    have e : bc ((zs.take n).map fun z => UInt8.ofNat z.toNat) = (zs.take n).map (Value.int .u8) := by
      unfold bc
      rw [List.map_map]
      apply List.map_congr_left
      intro z hzm
      have hb := bounds_u8 (hwz z (List.mem_of_mem_take hzm))
      simp only [Function.comp, UInt8.toNat_ofNat']
      congr 1
      omega
    rw [e]
    refine lies_of hl (by rw [List.length_map, List.length_take]; omega) (fun j u hu => ?_)
    obtain ⟨hj, rfl⟩ := map_getD (Value.int .u8) 0 _ j u hu
    rw [List.length_take] at hj
    rw [hcell j (by omega)]
    simp [List.getD, show j < n by omega]
end
end Go.Proofs.YtnhondkdkjehaaaGreat
namespace Go.Proofs.YtnhondkdkjehaaaGreat
open Go.ChangeShapes Go.WideShapes Go.ChangeAt Go.RowKit

/-- Whole numbers as cells. -/
def ics (l : List Int) : List Value := l.map (Value.int .i64)
theorem ics_length (l : List Int) : (ics l).length = l.length := by simp [ics]
theorem ics_at {l : List Int} {k : Nat} {x : Int} (h : l[k]? = some x) : (ics l)[k]? = some (.int .i64 x) := by simp [ics, h]
/-- A slice of whole numbers that came in. -/
theorem open_whole {H : Type} {enc : TypeId × Value → H} {W : World} {A : Option Addr} {n c : Nat} {d : DataW H} {p : List MemPlace} (h : DataW.Trod enc Tryz.prog W 0 (fun _ => true) true 29 (.slice A n c) d p) : ∃ l : List Int, Lies W (fun _ => True) A n c (ics l) := by
  obtain ⟨fuel, hf⟩ := h
  rcases open_ints Tryz.underlying29 Tryz.underlying3 (by kernel_rfl) hf with ⟨hcs, _⟩ | ⟨x, l, cc, zs, hcs, _, hl, hm, hz, _, hcell, hwz⟩
  · simp [Value.cells] at hcs
    obtain ⟨rfl, rfl, rfl⟩ := hcs
    exact ⟨[], Lies.nil _ _⟩
  · simp [Value.cells] at hcs
    obtain ⟨rfl, rfl, rfl⟩ := hcs
    have hz' : zs.length = c := by simpa using hz
    refine ⟨zs.take n, ?_⟩
    refine lies_of hl (by rw [ics_length, List.length_take]; omega) (fun j u hu => ?_)
    obtain ⟨hj, rfl⟩ := map_getD (Value.int .i64) 0 _ j u hu
    rw [List.length_take] at hj
    rw [hcell j (by omega)]
    simp [List.getD, show j < n by omega]
end Go.Proofs.YtnhondkdkjehaaaGreat
namespace Go.Proofs.YtnhondkdkjehaaaGreat
open Go.RowKit

/-- How many bytes are kept of the write at place i. -/
def keepAt (keep : List Int) (i : Nat) : Nat := min (keep.getD i 0).toNat 256
theorem keepAt_le (keep : List Int) (i : Nat) : keepAt keep i ≤ 256 := Nat.min_le_right _ _
set_option maxHeartbeats 1000000 in
theorem kept_says (w : World) (N : Nat → Prop) (A : Option Addr) (n c : Nat) (keep : List Int) (hl : Lies w N A n c (ics keep)) (i : Nat) :
    Calls Tryz.prog 90 #[.slice A n c, .int .i64 (i : Int)] w fun e w' => e = .returned (.int .i64 (keepAt keep i : Int)) ∧ w' = w := by
  have hkl : keep.length = n := by rw [← ics_length]; exact hl.len
  by_cases hi : i < n
  · obtain ⟨x, hx⟩ : ∃ x, keep[i]? = some x := ⟨_, List.getElem?_eq_getElem (by omega)⟩
    obtain ⟨b, off, rfl, _, _, hc⟩ := hl.at (ics_at hx)
    have hk : keepAt keep i = min x.toNat 256 := by simp [keepAt, List.getD, hx]
    rw [hk]
    have l1 : ¬ (i : Int) ≥ (n : Int) := by omega
    have l2 : (i : Int) < (n : Int) := by omega
    clear hl hx hk hkl
    go_enter Tryz.func90, Tryz.ntmps90
    rcases Int.lt_or_le x 0 with h | h
    · have h1 : ¬ 0 < x := by omega
      have h2 : x ≤ 0 := by omega
      rw [show min x.toNat 256 = 0 by omega]
      go_wp2
      go_ret
      exact ⟨rfl, rfl⟩
    · rcases Int.lt_or_le 256 x with h' | h'
      · have h1 : ¬ x < 0 := by omega
        have h2 : ¬ x ≤ 256 := by omega
        have h3 : ¬ x < 256 := by omega
        rw [show min x.toNat 256 = 256 by omega]
        go_wp2
        go_ret
        exact ⟨rfl, rfl⟩
      · have h1 : ¬ x < 0 := by omega
        have h2 : ¬ 256 < x := by omega
        rw [show ((min x.toNat 256 : Nat) : Int) = x by omega]
        go_wp2
        go_ret
        exact ⟨rfl, rfl⟩
  · have hk : keepAt keep i = 0 := by simp [keepAt, List.getD, List.getElem?_eq_none (show keep.length ≤ i by omega)]
    rw [hk]
    have l1 : (i : Int) ≥ (n : Int) := by omega
    clear hl hk hkl
    go_enter Tryz.func90, Tryz.ntmps90
    go_wp2
    go_ret
    exact ⟨rfl, rfl⟩

/-- The first m bytes of a, then b's. -/
def part (a b : Bk) (m : Nat) : Bk := ⟨a.1.take m ++ b.1.drop m, by simp [a.2, b.2]; omega⟩
/-- Blocks with writes taken back. -/
def undo (bs : List Bk) (l : List Wr) : List Bk := l.foldl (fun bs x => bs.set x.n x.was) bs
theorem undo_snoc (bs : List Bk) (l : List Wr) (x : Wr) : undo bs (l ++ [x]) = (undo bs l).set x.n x.was := by simp [undo]
theorem undo_length (bs : List Bk) : ∀ (l : List Wr), (undo bs l).length = bs.length := fun l => by
  induction l generalizing bs with
  | nil => rfl
  | cons x l ih => rw [undo, List.foldl_cons]; exact (ih _).trans (by simp)
/-- Blocks with the first k writes laid again, as much of each as is kept. -/
def redo (keep : List Int) (bs : List Bk) (ws : List Wr) : Nat → List Bk
  | 0 => bs
  | k + 1 => (redo keep bs ws k).set (ws.getD k default).n (part (ws.getD k default).is ((redo keep bs ws k).getD (ws.getD k default).n default) (keepAt keep k))
theorem redo_length (keep : List Int) (bs : List Bk) (ws : List Wr) : ∀ k, (redo keep bs ws k).length = bs.length
  | 0 => rfl
  | k + 1 => by rw [redo, List.length_set, redo_length keep bs ws k]
/-- A device that fell, and is up again. -/
def Dv.fall (D : Dv) (keep : List Int) : Dv := ⟨redo keep (undo D.bs D.ws.reverse) D.ws D.ws.length, [], D.ops, -1, false⟩
theorem Dv.fall_ok {D : Dv} (h : D.Ok) (keep : List Int) : (D.fall keep).Ok :=
  ⟨by simp [Dv.fall, redo_length, undo_length, h.pos], by simp [Dv.fall, redo_length, undo_length, h.most], fun x hx => by simp [Dv.fall] at hx, by simp [Dv.fall], by simp [Dv.fall], by simp [Dv.fall]⟩
end Go.Proofs.YtnhondkdkjehaaaGreat
