/-
  The reference's block: the state behind 64 bytes is sha's.
-/
import Derived.Test.YtjdepjanijambaaDoorRefConsts
import Derived.Test.YtjdepjanijambaaDoorMem
namespace Go.Proofs.YtjdepjanijambaaDoor
open Go.RowKit

def byteAt (l : List UInt8) (i : Nat) : Nat := (l.getD i 0).toNat
theorem index_str (l : List UInt8) (i : Nat) (h : i < l.length) (x : Int) (hx : x = (i : Int)) (w : World) : (Instr.index 9 (.string ⟨l.toArray⟩) (.int .i64 x)).run Tryd.prog w = .ok (.int .u8 (byteAt l i : Int)) w := by
  subst hx
  have hs : (⟨l.toArray⟩ : ByteArray)[i]? = some (l.getD i 0) := by
    have : (⟨l.toArray⟩ : ByteArray)[i]? = l.toArray[i]? := rfl
    rw [this, List.getElem?_toArray, List.getD, List.getElem?_eq_getElem h]
    rfl
  simp [Instr.index, asIntOf, run_underlying Tryd.underlying9, hs, byteAt]
theorem rturn_still (x : Nat) (n : Int) (h : turnsB n = true) (w : World) : Calls Tryd.prog 29 #[.int .u32 x, .int .i64 n] w fun e w' => e = .returned (.int .u32 (rot x n.toNat)) ∧ w' = w :=
  (rturn_any x n h w).mono fun _ _ hh => ⟨hh.1, hh.2.symm⟩

/-- The call's blocks: constants, state, answer, words. -/
def RB (s : S8) (w : World) (l : List Nat) (wr : World) : Prop :=
  Box wr w.heap.size 28 (u32s constV 72).toArray ∧ Box wr (w.heap.size + 1) 25 (s8s s).toArray ∧ Box wr (w.heap.size + 1 + 1) 25 (s8s ⟨0, 0, 0, 0, 0, 0, 0, 0⟩).toArray ∧ Box wr (w.heap.size + 1 + 1 + 1) 23 (wcells l).toArray ∧ Below w.heap.size w wr
theorem RB.drewN {s : S8} {w wr : World} {l : List Nat} (h : RB s w l wr) (n : Nat) : RB s w l (wr.drewN n) := ⟨h.1.drewN n, h.2.1.drewN n, h.2.2.1.drewN n, h.2.2.2.1.drewN n, below_drewN' h.2.2.2.2 n⟩
theorem RB.next {s : S8} {w wr : World} {B : Nat → Nat} {k x : Nat} (h : RB s w (wordsN B k) wr) (hk : k < 64) (hx : x = if k < 16 then word4 B k else nextW (wordsN B k)) : RB s w (wordsN B (k + 1)) (wr.setCell ⟨w.heap.size + 1 + 1 + 1, k, none⟩ (.int .u32 (x : Int))).drew := by
  obtain ⟨h1, h2, h3, h4, h5⟩ := h
  refine ⟨(h1.other _ _ (by show w.heap.size ≠ w.heap.size + 1 + 1 + 1; omega)).drew, (h2.other _ _ (by show w.heap.size + 1 ≠ w.heap.size + 1 + 1 + 1; omega)).drew, (h3.other _ _ (by show w.heap.size + 1 + 1 ≠ w.heap.size + 1 + 1 + 1; omega)).drew, ?_, (h5.setCell (by show w.heap.size ≤ w.heap.size + 1 + 1 + 1; omega) _).drew⟩
  have h6 := h4.put k (.int .u32 (x : Int))
  have hl := wordsN_length B k
  have e := wcells_snoc (wordsN B k) x (by omega)
  rw [hl] at e
  rw [e] at h6
  rw [show wordsN B (k + 1) = wordsN B k ++ [x] by rw [hx]; rfl]
  exact h6
theorem box3 (w : World) (o o' o'' : Obj) (t : TypeId) (cs : Array Value) : Box ((((w.alloc o).alloc o').alloc o'').alloc (.cells cs t)) (w.heap.size + 1 + 1 + 1) t cs := by
  have := Box.made (((w.alloc o).alloc o').alloc o'') t cs
  simpa using this
theorem below4 (w : World) (o o' o'' o3 : Obj) : Below w.heap.size w ((((w.alloc o).alloc o').alloc o'').alloc o3) := (below3 w o o' o'').alloc (by simp; omega) _
theorem sum4' (a b c d : Nat) : ((a : Int) + (b : Int) + (c : Int) + (d : Int)) % 4294967296 = ((a32 (a32 (a32 a c) b) d : Nat) : Int) := by
  unfold a32
  omega

theorem RB.alloc {s : S8} {w wr : World} {l : List Nat} (h : RB s w l wr) (o : Obj) : RB s w l (wr.alloc o) := ⟨h.1.alloc o, h.2.1.alloc o, h.2.2.1.alloc o, h.2.2.2.1.alloc o, h.2.2.2.2.alloc (by have := h.2.2.2.1.lt; omega) o⟩
/-- The blocks while the rounds go on: their state lies in block g. -/
def RB2 (s : S8) (w : World) (l : List Nat) (st : S8) (g : Nat) (wr : World) : Prop := RB s w l wr ∧ Box wr g 25 (s8s st).toArray ∧ w.heap.size + 1 + 1 + 1 < g
theorem RB2.drewN {s st : S8} {w wr : World} {l : List Nat} {g : Nat} (h : RB2 s w l st g wr) (n : Nat) : RB2 s w l st g (wr.drewN n) := ⟨h.1.drewN n, h.2.1.drewN n, h.2.2⟩

theorem RB.row {s : S8} {w wr : World} {l : List Nat} {g : Nat} (h : RB s w l wr) (hg : w.heap.size + 1 + 1 + 1 < g) (cs : Array Value) : RB s w l (wr.setRow g cs) :=
  ⟨(setRow_other _ _ _ _ (by omega)).trans h.1, (setRow_other _ _ _ _ (by omega)).trans h.2.1, (setRow_other _ _ _ _ (by omega)).trans h.2.2.1, (setRow_other _ _ _ _ (by omega)).trans h.2.2.2.1, below_setRow h.2.2.2.2 (by omega) _⟩
def wAt (s : S8) (k : Nat) : Nat := s.list.getD k 0
/-- The first k words of v are added to those of s. -/
def ad (s v : S8) (k j : Nat) : Nat := if j < k then a32 (wAt s j) (wAt v j) else wAt s j
theorem ad_start (s v : S8) : u32s (ad s v 0) 8 = s8s s := rfl
theorem wAt_get (s : S8) (k : Nat) (h : k < 8) : (s8s s).toArray[k]? = some (.int .u32 (wAt s k : Int)) := by
  have hc : k = 0 ∨ k = 1 ∨ k = 2 ∨ k = 3 ∨ k = 4 ∨ k = 5 ∨ k = 6 ∨ k = 7 := by omega
  rcases hc with rfl | rfl | rfl | rfl | rfl | rfl | rfl | rfl <;> rfl
theorem ad_next (s v : S8) (k : Nat) : (u32s (ad s v k) 8).toArray.setIfInBounds k (.int .u32 ((a32 (wAt s k) (wAt v k) : Nat) : Int)) = (u32s (ad s v (k + 1)) 8).toArray := by
  rw [u32s_put]
  refine congrArg List.toArray (u32s_congr fun i _ => ?_)
  unfold ad
  by_cases e : i = k
  · subst e
    rw [if_pos rfl, if_pos (by omega)]
  · rw [if_neg e]
    by_cases hl : i < k
    · rw [if_pos hl, if_pos (by omega)]
    · rw [if_neg hl, if_neg (by omega)]
theorem info8u (B : Nat → Nat) : (Tryd.prog.info? 25).map (·.size) = some (u32s B 8).toArray.size := by kernel_rfl
def RB3 (s v : S8) (w : World) (g k : Nat) (wr : World) : Prop :=
  Box wr w.heap.size 28 (u32s constV 72).toArray ∧ Box wr (w.heap.size + 1) 25 (u32s (ad s v k) 8).toArray ∧ Box wr (w.heap.size + 1 + 1) 25 (s8s ⟨0, 0, 0, 0, 0, 0, 0, 0⟩).toArray ∧ Box wr g 25 (s8s v).toArray ∧ w.heap.size + 1 + 1 + 1 < g ∧ Below w.heap.size w wr
theorem RB3.next {s v : S8} {w wr : World} {g k x y : Nat} (h : RB3 s v w g k wr) (hx : x = wAt s k) (hy : y = wAt v k) : RB3 s v w g (k + 1) (wr.setCell ⟨w.heap.size + 1, k, none⟩ (.int .u32 ((a32 x y : Nat) : Int))).drew := by
  obtain ⟨h1, h2, h3, h4, h5, h6⟩ := h
  refine ⟨(h1.other _ _ (by show w.heap.size ≠ w.heap.size + 1; omega)).drew, ?_, (h3.other _ _ (by show w.heap.size + 1 + 1 ≠ w.heap.size + 1; omega)).drew, (h4.other _ _ (by show g ≠ w.heap.size + 1; omega)).drew, h5, (h6.setCell (by show w.heap.size ≤ w.heap.size + 1; omega) _).drew⟩
  rw [← ad_next, hx, hy]
  exact (h2.put k _).drew
theorem t2_int (a b c d e f g h : Nat) : (bits BinOp.xor IntKind.u32 (bits BinOp.xor IntKind.u32 (rot a 2 : Int) (rot a 13 : Int)) (rot a 22 : Int) + bits BinOp.xor IntKind.u32 (bits BinOp.xor IntKind.u32 (bits BinOp.and IntKind.u32 (a : Int) (b : Int)) (bits BinOp.and IntKind.u32 (a : Int) (c : Int))) (bits BinOp.and IntKind.u32 (b : Int) (c : Int))) % 4294967296 = ((t2N ⟨a, b, c, d, e, f, g, h⟩ : Nat) : Int) := by
  rw [bits_x32, bits_x32, bits_n32, bits_n32, bits_n32, bits_x32, bits_x32]
  have ht : t2N ⟨a, b, c, d, e, f, g, h⟩ = a32 (x32 (x32 (rot a 2) (rot a 13)) (rot a 22)) (x32 (x32 (n32 a b) (n32 a c)) (n32 b c)) := rfl
  rw [ht]
  generalize x32 (x32 (rot a 2) (rot a 13)) (rot a 22) = p
  generalize x32 (x32 (n32 a b) (n32 a c)) (n32 b c) = q
  unfold a32
  omega

set_option maxRecDepth 100000 in
set_option maxHeartbeats 1000000 in
theorem rblock_any (s : S8) (l : List UInt8) (hl : l.length = 64) (w : World) :
    Calls Tryd.prog 25 #[.agg (u32s constV 72).toArray, .agg (s8s s).toArray, .string ⟨l.toArray⟩] w fun e w' => e = .returned (.agg (s8s (mixN s (byteAt l))).toArray) ∧ Below w.heap.size w w' := by
  have HL := Lib.hid hl
  clear hl
  go_enter Tryd.func25, Tryd.ntmps25
  go_wp2
  go_loopw [8] (fun i wr => ∃ k : Nat, k ≤ 64 ∧ i = .int .i64 (k : Int) ∧ RB s w (wordsN (byteAt l) k) wr) (fun i _ => 64 - (intOf i).toNat)
  case atStart => exact ⟨0, by omega, rfl, (((Box.made w _ _).alloc _).alloc _).alloc _, ((box1 w _ _ _).alloc _).alloc _, (box2 w _ _ _ _).alloc _, by rw [show wordsN (byteAt l) 0 = [] from rfl, wcells_nil]; exact box3 w _ _ _ _ _, below4 w _ _ _ _⟩
  case round =>
    obtain ⟨k, hk, rfl, hr⟩ := hrel
    have HR := Lib.hid hr
    clear hr
    by_cases hlt : k < 64
    · have cw := (HR.out.2.2.2.1.cell k).trans (wcells_get (wordsN (byteAt l) k) k hlt)
      have fw := HR.out.2.2.2.1.frozen k
      have l4 : (k : Int) < 64 := by omega
      by_cases h16 : k < 16
      · have l16 : (k : Int) < 16 := by omega
        have i0 := fun wq => index_str l (4 * k) (by rw [HL.out]; omega) (4 * (k : Int)) (by omega) wq
        have i1 := fun wq => index_str l (4 * k + 1) (by rw [HL.out]; omega) (4 * (k : Int) + 1) (by omega) wq
        have i2 := fun wq => index_str l (4 * k + 2) (by rw [HL.out]; omega) (4 * (k : Int) + 2) (by omega) wq
        have i3 := fun wq => index_str l (4 * k + 3) (by rw [HL.out]; omega) (4 * (k : Int) + 3) (by omega) wq
        have e0 : IntKind.i64.wrap (4 * (k : Int)) = 4 * (k : Int) := IntWalk.i64_in _ (by omega)
        have e1 : IntKind.i64.wrap (4 * (k : Int) + 1) = 4 * (k : Int) + 1 := IntWalk.i64_in _ (by omega)
        have e2 : IntKind.i64.wrap (4 * (k : Int) + 2) = 4 * (k : Int) + 2 := IntWalk.i64_in _ (by omega)
        have e3 : IntKind.i64.wrap (4 * (k : Int) + 3) = 4 * (k : Int) + 3 := IntWalk.i64_in _ (by omega)
        go_wp2
        go_still_tail 31, (by kernel_rfl)
        change wpList _ _ _ _ _ wr.drew
        go_wp2
        go_roundw
        case rel =>
          refine ⟨k + 1, by omega, by go_num, ?_⟩
          rw [word4_int]
          exact HR.out.next hlt (by rw [if_pos h16])
        case measure => simp [intOf]; omega
      · have l16 : ¬ (k : Int) < 16 := by omega
        obtain ⟨x16, h16'⟩ : ∃ x : Nat, x = (wordsN (byteAt l) k).getD (k - 16) 0 := ⟨_, rfl⟩
        obtain ⟨x15, h15⟩ : ∃ x : Nat, x = (wordsN (byteAt l) k).getD (k - 15) 0 := ⟨_, rfl⟩
        obtain ⟨x7, h7⟩ : ∃ x : Nat, x = (wordsN (byteAt l) k).getD (k - 7) 0 := ⟨_, rfl⟩
        obtain ⟨x2, h2⟩ : ∃ x : Nat, x = (wordsN (byteAt l) k).getD (k - 2) 0 := ⟨_, rfl⟩
        have c16 := (HR.out.2.2.2.1.cell (k - 16)).trans (wcells_get (wordsN (byteAt l) k) (k - 16) (by omega))
        have c15 := (HR.out.2.2.2.1.cell (k - 15)).trans (wcells_get (wordsN (byteAt l) k) (k - 15) (by omega))
        have c7 := (HR.out.2.2.2.1.cell (k - 7)).trans (wcells_get (wordsN (byteAt l) k) (k - 7) (by omega))
        have c2 := (HR.out.2.2.2.1.cell (k - 2)).trans (wcells_get (wordsN (byteAt l) k) (k - 2) (by omega))
        rw [← h16'] at c16
        rw [← h15] at c15
        rw [← h7] at c7
        rw [← h2] at c2
        have H16 := Lib.hid h16'
        have H15 := Lib.hid h15
        have H7 := Lib.hid h7
        have H2 := Lib.hid h2
        clear h16' h15 h7 h2
        have e0 : IntKind.i64.wrap ((k : Int) - 16) = (k : Int) - 16 := IntWalk.i64_in _ (by omega)
        have e1 : IntKind.i64.wrap ((k : Int) - 15) = (k : Int) - 15 := IntWalk.i64_in _ (by omega)
        have e2 : IntKind.i64.wrap ((k : Int) - 7) = (k : Int) - 7 := IntWalk.i64_in _ (by omega)
        have e3 : IntKind.i64.wrap ((k : Int) - 2) = (k : Int) - 2 := IntWalk.i64_in _ (by omega)
        have l0 : (k : Int) - 16 < 64 := by omega
        have l1 : (k : Int) - 15 < 64 := by omega
        have l2 : (k : Int) - 7 < 64 := by omega
        have l3 : (k : Int) - 2 < 64 := by omega
        have p0 : 0 ≤ (k : Int) - 16 := by omega
        have p1 : 0 ≤ (k : Int) - 15 := by omega
        have p2 : 0 ≤ (k : Int) - 7 := by omega
        have p3 : 0 ≤ (k : Int) - 2 := by omega
        have p4 : (16 : Int) ≤ (k : Int) := by omega
        have p5 : (15 : Int) ≤ (k : Int) := by omega
        have p6 : (7 : Int) ≤ (k : Int) := by omega
        have p7 : (2 : Int) ≤ (k : Int) := by omega
        have q0 : ((k : Int) - 16).toNat = k - 16 := by omega
        have q1 : ((k : Int) - 15).toNat = k - 15 := by omega
        have q2 : ((k : Int) - 7).toNat = k - 7 := by omega
        have q3 : ((k : Int) - 2).toNat = k - 2 := by omega
        go_wp2
        go_quiet (fail)
        go_wp2_with fail
        have d16 := cell_drewN nq c16
        have d7 := cell_drewN nq c7
        have dw := cell_drewN nq cw
        have df := frozen_drewN nq fw
        have HR2 := Lib.hid (HR.out.drewN nq)
        clear HR c16 c15 c7 c2 cw fw
        generalize wr.drewN nq = w2 at d16 d7 dw df HR2 ⊢
        go_still_tail 29, (by kernel_rfl)
        still_call (rturn_still _ 7 rfl _)
        repeat still_step
        still_call (rturn_still _ 18 rfl _)
        repeat still_step
        still_call (rturn_still _ 17 rfl _)
        repeat still_step
        still_call (rturn_still _ 19 rfl _)
        repeat still_step
        refine wpStill_nil ?_
        change wpList _ _ _ _ _ w2.drew
        go_wp2
        go_roundw
        case rel =>
          refine ⟨k + 1, by omega, by go_num, ?_⟩
          rw [sg0_int, sg1_int, sum4']
          have hl := wordsN_length (byteAt l) k
          refine HR2.out.next hlt ?_
          rw [if_neg h16]
          exact next_int x16 x7 x15 x2 (wordsN (byteAt l) k) (by rw [hl]; exact H16.out) (by rw [hl]; exact H7.out) (by rw [hl]; exact H15.out) (by rw [hl]; exact H2.out)
        case measure => simp [intOf]; omega
    · obtain rfl : k = 64 := by omega
      go_wp2_with (first | (refine wpList_load_row rfl 25 _ rfl (w.heap.size + 1) rfl 25 _ (0, 0) _ HR.out.2.1 Tryd.underlying25 rfl (info8s s) ?_) | (refine wpList_store_row rfl 25 _ _ rfl wr.heap.size (s8s s).toArray rfl rfl 25 _ (heap_alloc_new wr _) (info8s s) rfl (s8s_one s) ?_))
      rw [World.setRow_alloc_new]
      have HR2 := Lib.hid (show RB2 s w (wordsN (byteAt l) 64) s wr.heap.size (wr.alloc (.cells (s8s s).toArray 25)) from ⟨HR.out.alloc _, Box.made _ _ _, HR.out.2.2.2.1.lt⟩)
      generalize wr.heap.size = g at HR2 ⊢
      generalize wr.alloc (.cells (s8s s).toArray 25) = w3 at HR2 ⊢
      clear HR
      go_wp2
      go_loopw [12] (fun i wr => ∃ (k : Nat) (a b c d e f g' h8 : Nat), k ≤ 64 ∧ i = .int .i64 (k : Int) ∧ Hid (runN Kat (fun t => (wordsN (byteAt l) 64).getD t 0) k s = ⟨a, b, c, d, e, f, g', h8⟩) ∧ RB2 s w (wordsN (byteAt l) 64) ⟨a, b, c, d, e, f, g', h8⟩ g wr) (fun i _ => 64 - (intOf i).toNat)
      case atStart => exact ⟨0, s.a, s.b, s.c, s.d, s.e, s.f, s.g, s.h, by omega, rfl, Lib.hid rfl, HR2.out⟩
      case round =>
        clear HR2
        obtain ⟨k, a, b, c, d, e, f, g', h8, hk, rfl, HRUN, hr⟩ := hrel
        have HR := Lib.hid hr
        clear hr
        by_cases hlt : k < 64
        · obtain ⟨kt, hkt⟩ : ∃ x : Nat, x = Kat k := ⟨_, rfl⟩
          obtain ⟨wt, hwt⟩ : ∃ x : Nat, x = (wordsN (byteAt l) 64).getD k 0 := ⟨_, rfl⟩
          have HKT := Lib.hid hkt
          have HWT := Lib.hid hwt
          clear hkt hwt
          have l4 : (k : Int) < 64 := by omega
          have c0 := (HR.out.2.1.cell 0).trans (show _ = some (Value.int .u32 (a : Int)) from rfl)
          have c1 := (HR.out.2.1.cell 1).trans (show _ = some (Value.int .u32 (b : Int)) from rfl)
          have c2 := (HR.out.2.1.cell 2).trans (show _ = some (Value.int .u32 (c : Int)) from rfl)
          have c3 := (HR.out.2.1.cell 3).trans (show _ = some (Value.int .u32 (d : Int)) from rfl)
          have c4 := (HR.out.2.1.cell 4).trans (show _ = some (Value.int .u32 (e : Int)) from rfl)
          have c5 := (HR.out.2.1.cell 5).trans (show _ = some (Value.int .u32 (f : Int)) from rfl)
          have c6 := (HR.out.2.1.cell 6).trans (show _ = some (Value.int .u32 (g' : Int)) from rfl)
          have c7 := (HR.out.2.1.cell 7).trans (show _ = some (Value.int .u32 (h8 : Int)) from rfl)
          go_wp2_with fail
          go_quiet (fail)
          have HRa := Lib.hid (HR.out.drewN nq)
          clear HR c0 c1 c2 c3 c4 c5 c6 c7
          generalize wr.drewN nq = w4 at HRa ⊢
          clear nq
          have c0 := (HRa.out.2.1.cell 0).trans (show _ = some (Value.int .u32 (a : Int)) from rfl)
          have c1 := (HRa.out.2.1.cell 1).trans (show _ = some (Value.int .u32 (b : Int)) from rfl)
          have c2 := (HRa.out.2.1.cell 2).trans (show _ = some (Value.int .u32 (c : Int)) from rfl)
          have c3 := (HRa.out.2.1.cell 3).trans (show _ = some (Value.int .u32 (d : Int)) from rfl)
          have c4 := (HRa.out.2.1.cell 4).trans (show _ = some (Value.int .u32 (e : Int)) from rfl)
          have c5 := (HRa.out.2.1.cell 5).trans (show _ = some (Value.int .u32 (f : Int)) from rfl)
          have c6 := (HRa.out.2.1.cell 6).trans (show _ = some (Value.int .u32 (g' : Int)) from rfl)
          have c7 := (HRa.out.2.1.cell 7).trans (show _ = some (Value.int .u32 (h8 : Int)) from rfl)
          have ck := (HRa.out.1.1.cell k).trans (u32s_get constV 72 k (by omega))
          rw [const_k k hlt, ← HKT.out] at ck
          have cwt := (HRa.out.1.2.2.2.1.cell k).trans (wcells_get (wordsN (byteAt l) 64) k hlt)
          rw [← HWT.out] at cwt
          go_wp2_with fail
          go_quiet ((go_at_call 29; exact rturn_quiet _ _ rfl _ _))
          rw [t1_int a b c d e f g' h8 kt wt]
          obtain ⟨t1, ht1⟩ : ∃ x : Nat, x = t1N ⟨a, b, c, d, e, f, g', h8⟩ kt wt := ⟨_, rfl⟩
          rw [← ht1]
          have HT1 := Lib.hid ht1
          clear ht1
          have HRb := Lib.hid (HRa.out.drewN nq)
          clear HRa c0 c1 c2 c3 c4 c5 c6 c7 ck cwt
          generalize w4.drewN nq = w5 at HRb ⊢
          clear nq
          have c0 := (HRb.out.2.1.cell 0).trans (show _ = some (Value.int .u32 (a : Int)) from rfl)
          have c1 := (HRb.out.2.1.cell 1).trans (show _ = some (Value.int .u32 (b : Int)) from rfl)
          have c2 := (HRb.out.2.1.cell 2).trans (show _ = some (Value.int .u32 (c : Int)) from rfl)
          have c3 := (HRb.out.2.1.cell 3).trans (show _ = some (Value.int .u32 (d : Int)) from rfl)
          have c4 := (HRb.out.2.1.cell 4).trans (show _ = some (Value.int .u32 (e : Int)) from rfl)
          have c5 := (HRb.out.2.1.cell 5).trans (show _ = some (Value.int .u32 (f : Int)) from rfl)
          have c6 := (HRb.out.2.1.cell 6).trans (show _ = some (Value.int .u32 (g' : Int)) from rfl)
          have c7 := (HRb.out.2.1.cell 7).trans (show _ = some (Value.int .u32 (h8 : Int)) from rfl)
          go_wp2_with fail
          go_quiet ((go_at_call 29; exact rturn_quiet _ _ rfl _ _))
          rw [t2_int a b c d e f g' h8]
          obtain ⟨t2, ht2⟩ : ∃ x : Nat, x = t2N ⟨a, b, c, d, e, f, g', h8⟩ := ⟨_, rfl⟩
          rw [← ht2]
          have HT2 := Lib.hid ht2
          clear ht2
          have HRc := Lib.hid (HRb.out.drewN nq)
          clear HRb c0 c1 c2 c3 c4 c5 c6 c7
          generalize w5.drewN nq = w6 at HRc ⊢
          clear nq
          have c0 := (HRc.out.2.1.cell 0).trans (show _ = some (Value.int .u32 (a : Int)) from rfl)
          have c1 := (HRc.out.2.1.cell 1).trans (show _ = some (Value.int .u32 (b : Int)) from rfl)
          have c2 := (HRc.out.2.1.cell 2).trans (show _ = some (Value.int .u32 (c : Int)) from rfl)
          have c3 := (HRc.out.2.1.cell 3).trans (show _ = some (Value.int .u32 (d : Int)) from rfl)
          have c4 := (HRc.out.2.1.cell 4).trans (show _ = some (Value.int .u32 (e : Int)) from rfl)
          have c5 := (HRc.out.2.1.cell 5).trans (show _ = some (Value.int .u32 (f : Int)) from rfl)
          have c6 := (HRc.out.2.1.cell 6).trans (show _ = some (Value.int .u32 (g' : Int)) from rfl)
          have c7 := (HRc.out.2.1.cell 7).trans (show _ = some (Value.int .u32 (h8 : Int)) from rfl)
          go_wp2_with (refine wpList_store_row rfl 25 _ _ rfl g _ rfl rfl 25 _ HRc.out.2.1 (by kernel_rfl) (by kernel_rfl) (by kernel_rfl) ?_)
          go_roundw
          case rel =>
            refine ⟨k + 1, a32 t1 t2, a, b, c, a32 d t1, e, f, g', by omega, by go_num, Lib.hid ?_, ?_⟩
            · rw [show runN Kat (fun t => (wordsN (byteAt l) 64).getD t 0) (k + 1) s = stepN (runN Kat (fun t => (wordsN (byteAt l) 64).getD t 0) k s) (Kat k) ((wordsN (byteAt l) 64).getD k 0) from rfl, HRUN.out, ← HKT.out, ← HWT.out, HT1.out, HT2.out]
              rfl
            · rw [add_int, add_int]
              exact ⟨HRc.out.1.row HRc.out.2.2 _, setRow_heap _ _ _ _ _ _ HRc.out.2.1, HRc.out.2.2⟩
          case measure => simp [intOf]; omega
        · obtain rfl : k = 64 := by omega
          obtain ⟨v, hv⟩ : ∃ v : S8, v = ⟨a, b, c, d, e, f, g', h8⟩ := ⟨_, rfl⟩
          have HR3 := Lib.hid (show RB3 s v w g 0 wr from by rw [hv]; exact ⟨HR.out.1.1, by rw [ad_start]; exact HR.out.1.2.1, HR.out.1.2.2.1, HR.out.2.1, HR.out.2.2, HR.out.1.2.2.2.2⟩)
          have HV := Lib.hid hv
          clear hv HR
          go_wp2
          go_loopw [17] (fun i wr => ∃ k : Nat, k ≤ 8 ∧ i = .int .i64 (k : Int) ∧ RB3 s v w g k wr) (fun i _ => 8 - (intOf i).toNat)
          case atStart => exact ⟨0, by omega, rfl, HR3.out⟩
          case round =>
            clear HR3
            obtain ⟨k, hk, rfl, hr⟩ := hrel
            have HR := Lib.hid hr
            clear hr
            by_cases hlt : k < 8
            · obtain ⟨x, hx⟩ : ∃ x : Nat, x = wAt s k := ⟨_, rfl⟩
              obtain ⟨y, hy⟩ : ∃ y : Nat, y = wAt v k := ⟨_, rfl⟩
              have cs := (HR.out.2.1.cell k).trans (u32s_get (ad s v k) 8 k hlt)
              have fs := HR.out.2.1.frozen k
              have cv := (HR.out.2.2.2.1.cell k).trans (wAt_get v k hlt)
              rw [ad, if_neg (by omega), ← hx] at cs
              rw [← hy] at cv
              have HX := Lib.hid hx
              have HY := Lib.hid hy
              clear hx hy
              have l5 : (k : Int) < 8 := by omega
              go_wp2
              go_still_tail 9, (by kernel_rfl)
              change wpList _ _ _ _ _ wr.drew
              go_wp2
              go_roundw
              case rel =>
                repeat apply Exists.intro
                refine ⟨⟨k + 1, by omega, by go_num, ?_⟩, rfl⟩
                rw [add_int]
                exact HR.out.next HX.out HY.out
              case measure => simp [intOf]; omega
            · obtain rfl : k = 8 := by omega
              go_wp2_with (first | (refine wpList_load_row rfl 25 _ rfl (w.heap.size + 1) rfl 25 _ (0, 0) _ HR.out.2.1 Tryd.underlying25 rfl (info8u _) ?_) | (refine wpList_store_row rfl 25 _ _ rfl (w.heap.size + 1 + 1) (u32s (ad s v 8) 8).toArray rfl rfl 25 _ HR.out.2.2.1 (info8u _) rfl (u32s_one _ _) ?_))
              refine bodyPost_ret (v := .agg (s8s (mixN s (byteAt l))).toArray) (results_cell_row (P := Tryd.prog) (p := 6) (ty := 25) Tryd.results25 _ _ (w.heap.size + 1 + 1) 25 _ (0, 0) _ rfl ?_ Tryd.underlying25 rfl (info8s _)) rfl ⟨rfl, ?_⟩
              · have e : s8s (mixN s (byteAt l)) = u32s (ad s v 8) 8 := by
                  unfold mixN
                  rw [HRUN.out, HV.out]
                  rfl
                rw [e]
                exact setRow_heap _ _ _ _ _ _ HR.out.2.2.1
              · exact below_setRow HR.out.2.2.2.2.2 (by omega) _
end Go.Proofs.YtjdepjanijambaaDoor
