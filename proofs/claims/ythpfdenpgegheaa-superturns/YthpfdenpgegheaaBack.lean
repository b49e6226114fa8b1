/-
  slices.Backward, inside a fence: what it hands on, one by one, for every loop body that keeps what lay.
-/
import Derived.Test.YthpfdenpgegheaaIter
namespace Go.Proofs.Ythpfdenpgegheaa
open Go.RowKit Go.Shelf

attribute [local go_sem] Oper.semAt_some

/-- The write at a place. -/
def wAt (ws : List Wr) (i : Nat) : Wr := ws.getD i default
theorem wAt_at {ws : List Wr} {i : Nat} (h : i < ws.length) : ws[i]? = some (wAt ws i) := by simp [wAt, h]
/-- Places, the last first. -/
def backL (ws : List Wr) : List Nat := (List.range ws.length).reverse
theorem backL_length (ws : List Wr) : (backL ws).length = ws.length := by simp [backL]
theorem backL_at (ws : List Wr) {j m : Nat} (h : ws.length = m + 1 + j) : (backL ws)[j]? = some m := by
  rw [backL, List.getElem?_reverse (by simp; omega), List.length_range, List.getElem?_range (by omega)]
  simp [show ws.length - 1 - j = m by omega]
theorem backL_writes (ws : List Wr) : (backL ws).map (wAt ws) = ws.reverse := by
  apply List.ext_getElem?
  intro j
  by_cases hj : j < ws.length
  · obtain ⟨m, hm⟩ : ∃ m, ws.length = m + 1 + j := ⟨ws.length - 1 - j, by omega⟩
    rw [List.getElem?_map, backL_at ws hm, List.getElem?_reverse hj, show ws.length - 1 - j = m by omega]
    simp [wAt, show m < ws.length by omega]
  · rw [List.getElem?_eq_none (by simp [backL]; omega), List.getElem?_eq_none (by simp; omega)]
def kp2 (g B : Nat) (X Y : World) : Prop := KeptAt g X Y ∧ KeptAt B X Y
theorem kp2.refl (g B : Nat) (X : World) : kp2 g B X X := ⟨KeptAt.refl _ _, KeptAt.refl _ _⟩
theorem kp2.trans {g B : Nat} {X Y Z : World} (h : kp2 g B X Y) (k : kp2 g B Y Z) : kp2 g B X Z := ⟨h.1.trans k.1, h.2.trans k.2⟩
def encW (ws : List Wr) (i : Nat) : Array Value := #[.int .i64 (i : Int), .agg (we (wAt ws i)).toArray]

set_option maxRecDepth 100000 in
set_option maxHeartbeats 2000000 in
theorem back1_in (F : Fence) (n : Nat) (hf : F.fn 60) (hro : F.round = none) (hn : 1 ≤ n) (l Bs g len cap : Nat) (A : Option Addr) (ws : List Wr) (hlen : ws.length = len) (hl : len ≤ 1000000) (J Jx : List Nat → World → Prop)
    (hY : ∀ pre x W, J pre W → pre.length < len → YieldAt F (n - 1) Try.prog l (encW ws x) W fun e W' =>
      (e = .returned (.bool true) ∧ J (pre ++ [x]) W' ∧ kp2 g Bs W W') ∨ (e = .returned (.bool false) ∧ Jx (pre ++ [x]) W'))
    (W : World) (hBs : W.cell? ⟨Bs, 0, none⟩ = some (.slice A len cap)) (hA : 0 < len → A = some ⟨g, 0, none⟩) (hr : W.rangeAt g 0 (fl we ws)) (h0 : J [] W) :
    CallsIn F n Try.prog 60 #[.func (.yield l) #[] #[], .pointer (some ⟨Bs, 0, none⟩)] W fun e W' => (∃ v, e = .returned v) ∧
      ((∃ ys, ys = backL ws ∧ J ys W') ∨ (∃ pre, pre <+: backL ws ∧ Jx pre W')) := by
  have HR := Lib.hid hr
  have HA := Lib.hid hA
  clear hr hA
  have q0 : IntKind.i64.wrap ((len : Int) - 1) = (len : Int) - 1 := IntWalk.i64_in _ (by omega)
  refine callsIn_of_wp Try.func60 rfl hf ?_ hro
  simp only [Try.ntmps60, List.size_toArray, List.length_cons, List.length_nil, Nat.reduceAdd, Nat.reduceSub, Array.replicate_succ, Array.replicate_zero, List.push_toArray, List.append_toArray, List.nil_append, List.cons_append]
  gi_wp2
  gi_loopw [3] (fun i wr => ∃ j : Nat, j ≤ len ∧ i = .int .i64 ((len : Int) - 1 - (j : Int)) ∧ Hid (J ((backL ws).take j) wr ∧ kp2 g Bs W wr)) (fun i _ => (intOf i + 1).toNat)
  case atStart => exact ⟨0, Nat.zero_le _, by simp, Lib.hid ⟨by simpa using h0, kp2.refl _ _ _⟩⟩
  case round =>
    obtain ⟨j, hj, rfl, H⟩ := hrel
    by_cases hlt : j < len
    · obtain ⟨m, hm⟩ : ∃ m, len = m + 1 + j := ⟨len - 1 - j, by omega⟩
      have e1 : (len : Int) - 1 - (j : Int) = (m : Int) := by omega
      rw [e1]
      obtain ⟨x, hx⟩ : ∃ x, wAt ws m = x := ⟨_, rfl⟩
      have hbl := backL_at ws (show ws.length = m + 1 + j by omega)
      have hxm : ws[m]? = some x := by rw [← hx]; exact wAt_at (by omega)
      obtain ⟨hJs, hkp⟩ := H.out
      have hrx : wr.rangeAt g (m * 513) (we x) := fun i v hv => by have := hkp.1.range HR.out _ v (fl_at we_length ws m x hxm i v hv); rwa [Nat.zero_add] at this
      have hcb : wr.cell? ⟨Bs, 0, none⟩ = some (.slice (some ⟨g, 0, none⟩) len cap) := by
        rw [← HA.out (by omega)]
        exact (World.cell?_of_block (w := W) (a := ⟨Bs, 0, none⟩) hkp.2.same).trans hBs
      have htk : (backL ws).take (j + 1) = (backL ws).take j ++ [m] := by
        rw [List.take_add_one, hbl]
        rfl
      have hpre : (backL ws).take j ++ [m] <+: backL ws := by rw [← htk]; exact List.take_prefix _ _
      have hlk : ((backL ws).take j).length < len := by rw [List.length_take, backL_length]; omega
      obtain ⟨fn, tmps, assign, body, hy, hR⟩ := hY _ m wr hJs hlk
      have hy' : (Instr.yield l #[.int .i64 (m : Int), .agg (we x).toArray]).run Try.prog wr = .ok (.round l fn tmps assign body) wr := by rw [← hx]; exact hy
      have HTK := Lib.hid htk
      have HPRE := Lib.hid hpre
      have HRX := Lib.hid hrx
      have HKP := Lib.hid hkp
      have l1 : (m : Int) < (len : Int) := by omega
      have l2 : m < len := by omega
      have q1 : IntKind.i64.wrap ((m : Int) - 1) = (m : Int) - 1 := IntWalk.i64_in _ (by omega)
      have HM := Lib.hid hm
      clear htk hpre hrx hJs hkp hbl hxm H hx hy hm e1
      gi_wp2_with (first
        | (refine wpListIn_load_mid rfl 84 _ rfl g (m * 513) rfl (we x) _ HRX.out Try.underlying84 rfl (by rw [we_length]; exact infoWr) ?_))
      refine hR.mono ?_
      rintro e W3 (⟨rfl, hJ3, hk3⟩ | ⟨rfl, hJx3⟩)
      · have HJ3 := Lib.hid hJ3
        have HK3 := Lib.hid (HKP.out.trans hk3)
        clear hJ3 hk3 hy' hR
        gi_wp2
        go_roundw
        case rel => exact ⟨j + 1, by omega, by have := HM.out; congr 1; omega, Lib.hid ⟨by rw [HTK.out]; exact HJ3.out, HK3.out⟩⟩
        case measure => simp [intOf]
      · clear hy' hR
        gi_wp2
        refine bodyPost_ret (results_none rfl _ _ _) rfl ?_
        exact ⟨⟨_, rfl⟩, .inr ⟨_, HPRE.out, hJx3⟩⟩
    · obtain rfl : j = len := by omega
      have e1 : (j : Int) - 1 - (j : Int) = -1 := by omega
      rw [e1]
      gi_wp2
      go_end0
      exact ⟨⟨_, rfl⟩, .inl ⟨_, by rw [← hlen, ← backL_length, List.take_length], H.out.1⟩⟩

/-- Its answer: a function that has the slice, boxed. -/
theorem back_says (w : World) (A : Option Addr) (n c : Nat) :
    Calls Try.prog 48 #[.slice A n c] w fun e w' => e = .returned (.func (.func 60) #[] #[.pointer (some ⟨w.heap.size, 0, none⟩)]) ∧
      Box w' w.heap.size 73 #[.slice A n c] ∧ Below w.heap.size w w' := by
  go_enter Try.func48, Try.ntmps48
  go_wp2
  go_ret
  exact ⟨rfl, Box.made w _ _, (Below.refl _ w).alloc (Nat.le_refl _) _⟩

theorem back_stops (F : Fence) (n : Nat) (hf : F.fn 60) (hro : F.round = none) (hn : 1 ≤ n) (Bs g len cap : Nat) (A : Option Addr) (ws : List Wr) (hlen : ws.length = len) (hl : len ≤ 1000000) (w : World) (hBs : Bs < w.heap.size) (hg : g < w.heap.size)
    (hc : w.cell? ⟨Bs, 0, none⟩ = some (.slice A len cap)) (hA : 0 < len → A = some ⟨g, 0, none⟩) (hr : w.rangeAt g 0 (fl we ws)) :
    SeqStopsK F n Try.prog 60 #[.pointer (some ⟨Bs, 0, none⟩)] (encW ws) (kp2 g Bs) (fun ys => ys = backL ws) (fun pre => pre <+: backL ws) len w := fun l J Jx W hW _ _ hY h0 =>
  back1_in F n hf hro hn l Bs g len cap A ws hlen hl J Jx hY W ((hW.cell (p := ⟨Bs, 0, none⟩) hBs).trans hc) hA ((KeptAt.below hW hg).range hr) h0
end Go.Proofs.Ythpfdenpgegheaa
