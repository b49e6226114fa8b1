/-
  The contract of mixing a block into a state.
-/
import Derived.Test.YtjdepjanijambaaDoorSpread
import Derived.Deep.WholeRow
namespace Go.Proofs.YtjdepjanijambaaDoor
open Go.RowKit

def Kat (t : Nat) : Nat := Ktab.getD t 0
/-- The state behind a block of bytes. -/
def mixN (s : S8) (B : Nat → Nat) : S8 := addN s (runN Kat (fun t => (wordsN B 64).getD t 0) 64 s)

/-- The call's blocks while the rounds go on: the words lie in block g. -/
def Mx (s : S8) (l : List Nat) (w : World) (g : Nat) (wr : World) : Prop :=
  Box wr w.heap.size 25 (s8s s).toArray ∧ Box wr (w.heap.size + 1 + 1) 25 (s8s ⟨0, 0, 0, 0, 0, 0, 0, 0⟩).toArray ∧ Box wr g 23 (wcells l).toArray ∧ Tabs wr ∧ Below w.heap.size w wr
def MixRel (s : S8) (l : List Nat) (w : World) (g : Nat) (va vb vc vd ve vf vg vh i : Value) (wr : World) : Prop :=
  ∃ (k : Nat) (a b c d e f g' h : Nat), k ≤ 64 ∧ i = .int .i64 (k : Int) ∧ runN Kat (fun t => l.getD t 0) k s = ⟨a, b, c, d, e, f, g', h⟩ ∧ va = .int .u32 (a : Int) ∧ vb = .int .u32 (b : Int) ∧ vc = .int .u32 (c : Int) ∧ vd = .int .u32 (d : Int) ∧ ve = .int .u32 (e : Int) ∧ vf = .int .u32 (f : Int) ∧ vg = .int .u32 (g' : Int) ∧ vh = .int .u32 (h : Int) ∧ Mx s l w g wr
theorem mx_drewN {s : S8} {l : List Nat} {w : World} {g : Nat} {wr : World} (h : Mx s l w g wr) (n : Nat) : Mx s l w g (wr.drewN n) := ⟨h.1.drewN n, h.2.1.drewN n, h.2.2.1.drewN n, h.2.2.2.1, below_drewN' h.2.2.2.2 n⟩

theorem mx_start (s : S8) (l : List Nat) (w : World) (o : Obj) (w1 : World) (ht : Tabs w) (hb : Below (((w.alloc (.cells (s8s s).toArray 25)).alloc o).alloc (.cells (s8s ⟨0, 0, 0, 0, 0, 0, 0, 0⟩).toArray 25)).heap.size (((w.alloc (.cells (s8s s).toArray 25)).alloc o).alloc (.cells (s8s ⟨0, 0, 0, 0, 0, 0, 0, 0⟩).toArray 25)) w1) :
    Mx s l w w1.heap.size (w1.alloc (.cells (wcells l).toArray 23)) := by
  have hz := hb.size
  simp at hz
  have h2 := ht.two
  have hB : Below w.heap.size w w1 := (below3 w _ _ _).trans (hb.mono (by simp; omega))
  refine ⟨((((Box.made w _ _).alloc _).alloc _).below hb (by simp; omega)).alloc _, ((box2 w _ _ _ _).below hb (by simp)).alloc _, Box.made _ _ _, ?_, hB.alloc (by omega) _⟩
  exact (ht.below (hB.alloc (by omega) _) h2)
theorem tab_cell {w : World} (h : Tabs w) (k : Nat) (hk : k < 64) : w.cell? ⟨0, k, none⟩ = some (.int .u32 (Kat k : Int)) := by
  have := h.1 k (.int .u32 (Kat k : Int)) (by simp [u32s, hk, Kat])
  simpa using this

theorem info8 : (Tryd.prog.info? 25).map (·.size) = some 8 := by kernel_rfl
theorem info8s (s : S8) : (Tryd.prog.info? 25).map (·.size) = some (s8s s).toArray.size := by kernel_rfl
theorem infoB : (Tryd.prog.info? 47).map (·.size) = some 64 := by kernel_rfl
theorem infoBs (B : Nat → Nat) : (Tryd.prog.info? 47).map (·.size) = some (u8s B 64).toArray.size := by
  rw [List.size_toArray, u8s_length]
  exact infoB

theorem t1_int (a b c d e f g h k w : Nat) : ((((h : Int) + bits BinOp.xor IntKind.u32 (bits BinOp.xor IntKind.u32 (rot e 6 : Int) (rot e 11 : Int)) (rot e 25 : Int) + bits BinOp.xor IntKind.u32 (bits BinOp.and IntKind.u32 (e : Int) (f : Int)) (bits BinOp.and IntKind.u32 (bits BinOp.xor IntKind.u32 (if IntKind.u32.signed = true then -1 else IntKind.u32.max) (e : Int)) (g : Int)) + (k : Int)) % 4294967296 + (w : Int)) % 4294967296) = ((t1N ⟨a, b, c, d, e, f, g, h⟩ k w : Nat) : Int) := by
  have e1 : (if IntKind.u32.signed = true then -1 else IntKind.u32.max) = 4294967295 := by decide
  rw [e1, bits_c32, bits_x32, bits_x32, bits_n32, bits_n32, bits_x32]
  have ht : t1N ⟨a, b, c, d, e, f, g, h⟩ k w = a32 (a32 (a32 (a32 h (x32 (x32 (rot e 6) (rot e 11)) (rot e 25))) (x32 (n32 e f) (n32 (c32 e) g))) k) w := rfl
  rw [ht]
  generalize x32 (x32 (rot e 6) (rot e 11)) (rot e 25) = p
  generalize x32 (n32 e f) (n32 (c32 e) g) = q
  unfold a32
  omega
theorem a_int (a b c d e f g h t1 : Nat) : ((t1 : Int) + (bits BinOp.xor IntKind.u32 (bits BinOp.xor IntKind.u32 (rot a 2 : Int) (rot a 13 : Int)) (rot a 22 : Int) + bits BinOp.xor IntKind.u32 (bits BinOp.xor IntKind.u32 (bits BinOp.and IntKind.u32 (a : Int) (b : Int)) (bits BinOp.and IntKind.u32 (a : Int) (c : Int))) (bits BinOp.and IntKind.u32 (b : Int) (c : Int))) % 4294967296) % 4294967296 = ((a32 t1 (t2N ⟨a, b, c, d, e, f, g, h⟩) : Nat) : Int) := by
  rw [bits_x32, bits_x32, bits_n32, bits_n32, bits_n32, bits_x32, bits_x32]
  have ht : t2N ⟨a, b, c, d, e, f, g, h⟩ = a32 (x32 (x32 (rot a 2) (rot a 13)) (rot a 22)) (x32 (x32 (n32 a b) (n32 a c)) (n32 b c)) := rfl
  rw [ht]
  generalize x32 (x32 (rot a 2) (rot a 13)) (rot a 22) = p
  generalize x32 (x32 (n32 a b) (n32 a c)) (n32 b c) = q
  unfold a32
  omega
theorem add_int (a b : Nat) : ((a : Int) + (b : Int)) % 4294967296 = ((a32 a b : Nat) : Int) := by
  unfold a32
  omega

set_option maxRecDepth 100000 in
set_option maxHeartbeats 1000000 in
theorem mix_any (s : S8) (B : Nat → Nat) (w : World) (ht : Tabs w) :
    Calls Tryd.prog 22 #[.agg (s8s s).toArray, .agg (u8s B 64).toArray] w fun e w' => e = .returned (.agg (s8s (mixN s B)).toArray) ∧ Below w.heap.size w w' := by
  have HT := Lib.hid ht
  clear ht
  go_enter Tryd.func22, Tryd.ntmps22
  go_wp2_with (refine wpList_load_row rfl 47 _ rfl (w.heap.size + 1) rfl 47 _ (0, 0) _ ((box1 w _ _ _).alloc _) Tryd.underlying47 rfl (infoBs _) ?_)
  refine (spread_any B _).mono ?_
  rintro e w1 ⟨rfl, hb1⟩
  have HB1 := Lib.hid hb1
  clear hb1
  go_wp2_with (refine wpList_store_row rfl 23 _ _ rfl w1.heap.size (wcells (wordsN B 64)).toArray rfl rfl 23 _ (heap_alloc_new w1 _) (infoW _) (by simp [wcells_length]) (wcells_one _) ?_)
  rw [World.setRow_alloc_new]
  have HM := Lib.hid (mx_start s (wordsN B 64) w _ w1 HT.out HB1.out)
  clear HT HB1
  generalize w1.heap.size = g at HM ⊢
  generalize w1.alloc (Obj.cells (wcells (wordsN B 64)).toArray 23) = w2 at HM ⊢
  have hs := HM.out.1
  have c0 := (hs.cell 0).trans (show _ = some (Value.int .u32 (s.a : Int)) from rfl)
  have c1 := (hs.cell 1).trans (show _ = some (Value.int .u32 (s.b : Int)) from rfl)
  have c2 := (hs.cell 2).trans (show _ = some (Value.int .u32 (s.c : Int)) from rfl)
  have c3 := (hs.cell 3).trans (show _ = some (Value.int .u32 (s.d : Int)) from rfl)
  have c4 := (hs.cell 4).trans (show _ = some (Value.int .u32 (s.e : Int)) from rfl)
  have c5 := (hs.cell 5).trans (show _ = some (Value.int .u32 (s.f : Int)) from rfl)
  have c6 := (hs.cell 6).trans (show _ = some (Value.int .u32 (s.g : Int)) from rfl)
  have c7 := (hs.cell 7).trans (show _ = some (Value.int .u32 (s.h : Int)) from rfl)
  clear hs
  go_quiet (fail)
  have d4 := cell_drewN nq c4
  have d5 := cell_drewN nq c5
  have d6 := cell_drewN nq c6
  have d7 := cell_drewN nq c7
  have HN := Lib.hid (mx_drewN HM.out nq)
  clear c0 c1 c2 c3 c4 c5 c6 c7 HM
  generalize w2.drewN nq = w3 at d4 d5 d6 d7 HN ⊢
  clear nq
  go_wp2_with fail
  go_quiet (fail)
  have HM := Lib.hid (mx_drewN HN.out nq)
  clear d4 d5 d6 d7 HN
  generalize w3.drewN nq = w4 at HM ⊢
  go_wp2
  go_loopw [6, 7, 8, 9, 10, 11, 12, 13, 35] (fun va vb vc vd ve vf vg vh i wr => MixRel s (wordsN B 64) w g va vb vc vd ve vf vg vh i wr) (fun _ _ _ _ _ _ _ _ i _ => 64 - (intOf i).toNat)
  case atStart => exact ⟨0, s.a, s.b, s.c, s.d, s.e, s.f, s.g, s.h, by omega, rfl, rfl, rfl, rfl, rfl, rfl, rfl, rfl, rfl, rfl, HM.out⟩
  case round =>
    clear HM
    obtain ⟨k, a, b, c, d, e, f, g', h, hk, rfl, hrun, rfl, rfl, rfl, rfl, rfl, rfl, rfl, rfl, hm⟩ := hrel
    have HM := Lib.hid hm
    have HR := Lib.hid hrun
    clear hm hrun
    by_cases hlt : k < 64
    · obtain ⟨kt, hkt⟩ : ∃ x : Nat, x = Kat k := ⟨_, rfl⟩
      obtain ⟨wt, hwt⟩ : ∃ x : Nat, x = (wordsN B 64).getD k 0 := ⟨_, rfl⟩
      have ck := tab_cell HM.out.2.2.2.1 k hlt
      have cw := (HM.out.2.2.1.cell k).trans (wcells_get (wordsN B 64) k hlt)
      rw [← hkt] at ck
      rw [← hwt] at cw
      have HKT := Lib.hid hkt
      have HWT := Lib.hid hwt
      clear hkt hwt
      have l4 : (k : Int) < 64 := by omega
      go_wp2_with fail
      go_quiet ((go_at_call 27; exact turn_quiet _ _ rfl _ _))
      rw [t1_int a b c d e f g' h kt wt]
      obtain ⟨t1, ht1⟩ : ∃ x : Nat, x = t1N ⟨a, b, c, d, e, f, g', h⟩ kt wt := ⟨_, rfl⟩
      rw [← ht1]
      have HT1 := Lib.hid ht1
      clear ht1
      have HM2 := Lib.hid (mx_drewN HM.out nq)
      clear HM ck cw
      generalize wr.drewN nq = w5 at HM2 ⊢
      go_wp2_with (refine (turn_any _ _ rfl _).mono ?_; rintro e w' ⟨rfl, rfl⟩)
      go_roundw
      case rel =>
        refine ⟨k + 1, a32 t1 (t2N ⟨a, b, c, d, e, f, g', h⟩), a, b, c, a32 d t1, e, f, g', by omega, by go_num, ?_, ?_, rfl, rfl, rfl, ?_, rfl, rfl, rfl, HM2.out⟩
        · rw [show runN Kat (fun t => (wordsN B 64).getD t 0) (k + 1) s = stepN (runN Kat (fun t => (wordsN B 64).getD t 0) k s) (Kat k) ((wordsN B 64).getD k 0) from rfl, HR.out, ← HKT.out, ← HWT.out, HT1.out]
          rfl
        · rw [a_int a b c d e f g' h t1]
        · rw [add_int]
      case measure => simp [intOf]; omega
    · obtain rfl : k = 64 := by omega
      have hs := HM.out.1
      have c0 := (hs.cell 0).trans (show _ = some (Value.int .u32 (s.a : Int)) from rfl)
      have c1 := (hs.cell 1).trans (show _ = some (Value.int .u32 (s.b : Int)) from rfl)
      have c2 := (hs.cell 2).trans (show _ = some (Value.int .u32 (s.c : Int)) from rfl)
      have c3 := (hs.cell 3).trans (show _ = some (Value.int .u32 (s.d : Int)) from rfl)
      have c4 := (hs.cell 4).trans (show _ = some (Value.int .u32 (s.e : Int)) from rfl)
      have c5 := (hs.cell 5).trans (show _ = some (Value.int .u32 (s.f : Int)) from rfl)
      have c6 := (hs.cell 6).trans (show _ = some (Value.int .u32 (s.g : Int)) from rfl)
      have c7 := (hs.cell 7).trans (show _ = some (Value.int .u32 (s.h : Int)) from rfl)
      clear hs
      go_wp2_with (refine wpList_store_row rfl 25 _ _ rfl (w.heap.size + 1 + 1) _ rfl rfl 25 _ HM.out.2.1 (by kernel_rfl) (by kernel_rfl) (by kernel_rfl) ?_)
      rw [add_int, add_int, add_int, add_int, add_int, add_int, add_int, add_int]
      refine bodyPost_ret (v := .agg (s8s (mixN s B)).toArray) (results_cell_row (P := Tryd.prog) (p := 4) (ty := 25) Tryd.results22 _ _ (w.heap.size + 1 + 1) 25 _ (0, 0) _ rfl ?_ Tryd.underlying25 rfl (info8s _)) rfl ⟨rfl, ?_⟩
      · have e : (s8s (mixN s B)).toArray = #[.int .u32 ((a32 s.a a : Nat) : Int), .int .u32 ((a32 s.b b : Nat) : Int), .int .u32 ((a32 s.c c : Nat) : Int), .int .u32 ((a32 s.d d : Nat) : Int), .int .u32 ((a32 s.e e : Nat) : Int), .int .u32 ((a32 s.f f : Nat) : Int), .int .u32 ((a32 s.g g' : Nat) : Int), .int .u32 ((a32 s.h h : Nat) : Int)] := by
          unfold mixN
          rw [HR.out]
          rfl
        rw [e]
        exact setRow_heap _ _ _ _ _ _ HM.out.2.1
      · exact below_setRow HM.out.2.2.2.2 (by omega) _
end Go.Proofs.YtjdepjanijambaaDoor
