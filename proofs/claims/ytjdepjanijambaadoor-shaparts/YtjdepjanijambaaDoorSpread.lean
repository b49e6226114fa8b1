/-
  The contract of spreading a block to its words.
-/
import Derived.Test.YtjdepjanijambaaDoorTurn
import Derived.Test.YtjdepjanijambaaDoorWords
import Derived.StillTailTactics
import Derived.Deep.QuietTactic
import Derived.BigQuiet
import Derived.IntWalk
import Derived.Laws.CopyOwn
namespace Go.Proofs.YtjdepjanijambaaDoor
open Go.RowKit

/-- The call's blocks while the words are made. -/
def Sp (B : Nat → Nat) (w : World) (k : Nat) (wr : World) : Prop :=
  Box wr w.heap.size 47 (u8s B 64).toArray ∧ Box wr (w.heap.size + 1) 23 (wcells []).toArray ∧ Box wr (w.heap.size + 1 + 1) 23 (wcells (wordsN B k)).toArray ∧ Below w.heap.size w wr

theorem word4_int (B : Nat → Nat) (k : Nat) : bits BinOp.or IntKind.u32 (bits BinOp.or IntKind.u32 (bits BinOp.or IntKind.u32 ((B (4 * k) : Int) % 4294967296 * 16777216 % 4294967296) ((B (4 * k + 1) : Int) % 4294967296 * 65536 % 4294967296)) ((B (4 * k + 2) : Int) % 4294967296 * 256 % 4294967296)) ((B (4 * k + 3) : Int) % 4294967296) = ((word4 B k : Nat) : Int) := by
  have h1 : (B (4 * k) : Int) % 4294967296 * 16777216 % 4294967296 = ((l32 (B (4 * k)) 24 : Nat) : Int) := by unfold l32; omega
  have h2 : (B (4 * k + 1) : Int) % 4294967296 * 65536 % 4294967296 = ((l32 (B (4 * k + 1)) 16 : Nat) : Int) := by unfold l32; omega
  have h3 : (B (4 * k + 2) : Int) % 4294967296 * 256 % 4294967296 = ((l32 (B (4 * k + 2)) 8 : Nat) : Int) := by unfold l32; omega
  have h4 : (B (4 * k + 3) : Int) % 4294967296 = ((B (4 * k + 3) % 4294967296 : Nat) : Int) := by omega
  rw [h1, h2, h3, h4, bits_o32, bits_o32, bits_o32, o32_mod]
  rfl

theorem sp_next {B : Nat → Nat} {w wr : World} {k x : Nat} (h : Sp B w k wr) (hk : k < 64) (hx : x = if k < 16 then word4 B k else nextW (wordsN B k)) : Sp B w (k + 1) (wr.setCell ⟨w.heap.size + 1 + 1, k, none⟩ (.int .u32 (x : Int))).drew := by
  obtain ⟨h1, h2, h3, h4⟩ := h
  refine ⟨(h1.other _ _ (by show w.heap.size ≠ w.heap.size + 1 + 1; omega)).drew, (h2.other _ _ (by show w.heap.size + 1 ≠ w.heap.size + 1 + 1; omega)).drew, ?_, (h4.setCell (by show w.heap.size ≤ w.heap.size + 1 + 1; omega) _).drew⟩
  have h5 := h3.put k (.int .u32 (x : Int))
  have hl := wordsN_length B k
  have e := wcells_snoc (wordsN B k) x (by omega)
  rw [hl] at e
  rw [e] at h5
  rw [show wordsN B (k + 1) = wordsN B k ++ [x] by rw [hx]; rfl]
  exact h5

theorem sp_drewN {B : Nat → Nat} {w wr : World} {k : Nat} (h : Sp B w k wr) (n : Nat) : Sp B w k (wr.drewN n) := ⟨h.1.drewN n, h.2.1.drewN n, h.2.2.1.drewN n, below_drewN' h.2.2.2 n⟩
theorem next_int (x16 x7 x15 x2 : Nat) (l : List Nat) (h16 : x16 = l.getD (l.length - 16) 0) (h7 : x7 = l.getD (l.length - 7) 0) (h15 : x15 = l.getD (l.length - 15) 0) (h2 : x2 = l.getD (l.length - 2) 0) :
    a32 (a32 (a32 x16 (sg0 x15)) x7) (sg1 x2) = nextW l := by rw [h16, h7, h15, h2]; rfl

theorem sg0_int (x : Nat) : bits BinOp.xor IntKind.u32 (bits BinOp.xor IntKind.u32 (rot x 7 : Int) (rot x 18 : Int)) ((x : Int) / 8) = ((sg0 x : Nat) : Int) := by
  have e : (x : Int) / 8 = ((s32 x 3 : Nat) : Int) := by unfold s32; omega
  rw [e, bits_x32, bits_x32]
  rfl
theorem sg1_int (x : Nat) : bits BinOp.xor IntKind.u32 (bits BinOp.xor IntKind.u32 (rot x 17 : Int) (rot x 19 : Int)) ((x : Int) / 1024) = ((sg1 x : Nat) : Int) := by
  have e : (x : Int) / 1024 = ((s32 x 10 : Nat) : Int) := by unfold s32; omega
  rw [e, bits_x32, bits_x32]
  rfl
theorem sum4 (a b c d : Nat) : ((a : Int) + (b : Int) + (c : Int) + (d : Int)) % 4294967296 = ((a32 (a32 (a32 a b) c) d : Nat) : Int) := by
  unfold a32
  omega
theorem info64 : (Tryd.prog.info? 23).map (·.size) = some 64 := by kernel_rfl
theorem infoW (l : List Nat) : (Tryd.prog.info? 23).map (·.size) = some (wcells l).toArray.size := by
  rw [List.size_toArray, wcells_length]
  exact info64

set_option maxRecDepth 100000 in
set_option maxHeartbeats 1000000 in
theorem spread_any (B : Nat → Nat) (w : World) :
    Calls Tryd.prog 26 #[.agg (u8s B 64).toArray] w fun e w' => e = .returned (.agg (wcells (wordsN B 64)).toArray) ∧ Below w.heap.size w w' := by
  go_enter Tryd.func26, Tryd.ntmps26
  go_wp2
  go_loopw [10] (fun i wr => ∃ k : Nat, k ≤ 16 ∧ i = .int .i64 (k : Int) ∧ Sp B w k wr) (fun i _ => 16 - (intOf i).toNat)
  case atStart =>
    exact ⟨0, by omega, rfl, ((Box.made w _ _).alloc _).alloc _, by rw [wcells_nil]; exact (box1 w _ _ _).alloc _, by rw [show wordsN B 0 = [] from rfl, wcells_nil]; exact box2 w _ _ _ _, below3 w _ _ _⟩
  case round =>
    obtain ⟨k, hk, rfl, hsp⟩ := hrel
    have HS := Lib.hid hsp
    by_cases hlt : k < 16
    · obtain ⟨hB, hR, hW, hb⟩ := hsp
      have c0 := (hB.cell (4 * k)).trans (u8s_get B 64 (4 * k) (by omega))
      have c1 := (hB.cell (4 * k + 1)).trans (u8s_get B 64 (4 * k + 1) (by omega))
      have c2 := (hB.cell (4 * k + 2)).trans (u8s_get B 64 (4 * k + 2) (by omega))
      have c3 := (hB.cell (4 * k + 3)).trans (u8s_get B 64 (4 * k + 3) (by omega))
      have cw := (hW.cell k).trans (wcells_get (wordsN B k) k (by omega))
      have fw := hW.frozen k
      clear hB hR hW hb
      have e0 : IntKind.i64.wrap (4 * (k : Int)) = 4 * (k : Int) := IntWalk.i64_in _ (by omega)
      have e1 : IntKind.i64.wrap (4 * (k : Int) + 1) = 4 * (k : Int) + 1 := IntWalk.i64_in _ (by omega)
      have e2 : IntKind.i64.wrap (4 * (k : Int) + 2) = 4 * (k : Int) + 2 := IntWalk.i64_in _ (by omega)
      have e3 : IntKind.i64.wrap (4 * (k : Int) + 3) = 4 * (k : Int) + 3 := IntWalk.i64_in _ (by omega)
      have l0 : 4 * (k : Int) < 64 := by omega
      have l1 : 4 * (k : Int) + 1 < 64 := by omega
      have l2 : 4 * (k : Int) + 2 < 64 := by omega
      have l3 : 4 * (k : Int) + 3 < 64 := by omega
      have p0 : 0 ≤ 4 * (k : Int) := by omega
      have p1 : 0 ≤ 4 * (k : Int) + 1 := by omega
      have p2 : 0 ≤ 4 * (k : Int) + 2 := by omega
      have p3 : 0 ≤ 4 * (k : Int) + 3 := by omega
      have q0 : (4 * (k : Int)).toNat = 4 * k := by omega
      have q1 : (4 * (k : Int) + 1).toNat = 4 * k + 1 := by omega
      have q2 : (4 * (k : Int) + 2).toNat = 4 * k + 2 := by omega
      have q3 : (4 * (k : Int) + 3).toNat = 4 * k + 3 := by omega
      have l4 : (k : Int) < 64 := by omega
      go_wp2
      go_still_tail 31, (by kernel_rfl)
      change wpList _ _ _ _ _ wr.drew
      go_wp2
      go_roundw
      case rel =>
        refine ⟨k + 1, by omega, by go_num, ?_⟩
        rw [word4_int]
        exact sp_next HS.out (by omega) (by rw [if_pos hlt])
      case measure => simp [intOf]; omega
    · obtain rfl : k = 16 := by omega
      clear hsp
      go_wp2
      go_loopw [5] (fun i wr => ∃ k : Nat, 16 ≤ k ∧ k ≤ 64 ∧ i = .int .i64 (k : Int) ∧ Sp B w k wr) (fun i _ => 64 - (intOf i).toNat)
      case atStart => exact ⟨16, by omega, by omega, rfl, HS.out⟩
      case round =>
        clear HS
        obtain ⟨k, hk16, hk, rfl, hsp⟩ := hrel
        have HS := Lib.hid hsp
        by_cases hlt : k < 64
        · obtain ⟨hB, hR, hW, hb⟩ := hsp
          obtain ⟨x16, h16⟩ : ∃ x : Nat, x = (wordsN B k).getD (k - 16) 0 := ⟨_, rfl⟩
          obtain ⟨x15, h15⟩ : ∃ x : Nat, x = (wordsN B k).getD (k - 15) 0 := ⟨_, rfl⟩
          obtain ⟨x7, h7⟩ : ∃ x : Nat, x = (wordsN B k).getD (k - 7) 0 := ⟨_, rfl⟩
          obtain ⟨x2, h2⟩ : ∃ x : Nat, x = (wordsN B k).getD (k - 2) 0 := ⟨_, rfl⟩
          have c16 := (hW.cell (k - 16)).trans (wcells_get (wordsN B k) (k - 16) (by omega))
          have c15 := (hW.cell (k - 15)).trans (wcells_get (wordsN B k) (k - 15) (by omega))
          have c7 := (hW.cell (k - 7)).trans (wcells_get (wordsN B k) (k - 7) (by omega))
          have c2 := (hW.cell (k - 2)).trans (wcells_get (wordsN B k) (k - 2) (by omega))
          have cw := (hW.cell k).trans (wcells_get (wordsN B k) k (by omega))
          have fw := hW.frozen k
          rw [← h16] at c16
          rw [← h15] at c15
          rw [← h7] at c7
          rw [← h2] at c2
          have H16 := Lib.hid h16
          have H15 := Lib.hid h15
          have H7 := Lib.hid h7
          have H2 := Lib.hid h2
          clear hB hR hW hb h16 h15 h7 h2
          have e0 : IntKind.i64.wrap ((k : Int) - 16) = (k : Int) - 16 := IntWalk.i64_in _ (by omega)
          have e1 : IntKind.i64.wrap ((k : Int) - 15) = (k : Int) - 15 := IntWalk.i64_in _ (by omega)
          have e2 : IntKind.i64.wrap ((k : Int) - 7) = (k : Int) - 7 := IntWalk.i64_in _ (by omega)
          have e3 : IntKind.i64.wrap ((k : Int) - 2) = (k : Int) - 2 := IntWalk.i64_in _ (by omega)
          have l0 : (k : Int) - 16 < 64 := by omega
          have l1 : (k : Int) - 15 < 64 := by omega
          have l2 : (k : Int) - 7 < 64 := by omega
          have l3 : (k : Int) - 2 < 64 := by omega
          have p0 : 0 ≤ (k : Int) - 16 := by omega
          have p1 : 0 ≤ (k : Int) - 15 := by omega
          have p2 : 0 ≤ (k : Int) - 7 := by omega
          have p3 : 0 ≤ (k : Int) - 2 := by omega
          have p4 : (16 : Int) ≤ (k : Int) := by omega
          have p5 : (15 : Int) ≤ (k : Int) := by omega
          have p6 : (7 : Int) ≤ (k : Int) := by omega
          have p7 : (2 : Int) ≤ (k : Int) := by omega
          have q0 : ((k : Int) - 16).toNat = k - 16 := by omega
          have q1 : ((k : Int) - 15).toNat = k - 15 := by omega
          have q2 : ((k : Int) - 7).toNat = k - 7 := by omega
          have q3 : ((k : Int) - 2).toNat = k - 2 := by omega
          have l4 : (k : Int) < 64 := by omega
          go_wp2
          go_quiet (fail)
          go_wp2_with (first | ((with_reducible refine (turn7 _ _).mono ?_); rintro e w' ⟨rfl, rfl⟩) | ((with_reducible refine (turn18 _ _).mono ?_); rintro e w' ⟨rfl, rfl⟩) | ((with_reducible refine (turn17 _ _).mono ?_); rintro e w' ⟨rfl, rfl⟩) | ((with_reducible refine (turn19 _ _).mono ?_); rintro e w' ⟨rfl, rfl⟩))
          have d16 := cell_drewN nq c16
          have d7 := cell_drewN nq c7
          have dw := cell_drewN nq cw
          have df := frozen_drewN nq fw
          have HS2 := Lib.hid (sp_drewN HS.out nq)
          clear HS c16 c15 c7 c2 cw fw
          generalize wr.drewN nq = w2 at d16 d7 dw df HS2 ⊢
          go_still_tail 15, (by kernel_rfl)
          change wpList _ _ _ _ _ w2.drew
          go_wp2
          go_roundw
          case rel =>
            repeat apply Exists.intro
            refine ⟨⟨k + 1, by omega, by omega, by go_num, ?_⟩, rfl⟩
            rw [sg0_int, sg1_int, sum4]
            have hl := wordsN_length B k
            refine sp_next HS2.out hlt ?_
            rw [if_neg (by omega)]
            exact next_int x16 x7 x15 x2 (wordsN B k) (by rw [hl]; exact H16.out) (by rw [hl]; exact H7.out) (by rw [hl]; exact H15.out) (by rw [hl]; exact H2.out)
          case measure => simp [intOf]; omega
        · obtain rfl : k = 64 := by omega
          clear hsp
          obtain ⟨_, hR, hW, hb⟩ := HS.out
          have HR := Lib.hid hR
          have HW := Lib.hid hW
          have HB := Lib.hid hb
          clear hR hW hb
          go_wp2_with (first | (refine wpList_load_row rfl 23 _ rfl (w.heap.size + 1 + 1) rfl 23 _ (0, 0) _ HW.out Tryd.underlying23 rfl (infoW _) ?_) | (refine wpList_store_row rfl 23 _ _ rfl (w.heap.size + 1) (wcells (wordsN B 64)).toArray rfl rfl 23 _ HR.out (infoW _) (by simp [wcells_length]) (wcells_one _) ?_))
          refine bodyPost_ret (v := .agg (wcells (wordsN B 64)).toArray) (results_cell_row (P := Tryd.prog) (p := 2) (ty := 23) Tryd.results26 _ _ (w.heap.size + 1) 23 _ (0, 0) _ rfl (setRow_heap _ _ _ _ _ _ HR.out) Tryd.underlying23 rfl (infoW _)) rfl ⟨rfl, ?_⟩
          exact below_setRow HB.out (by omega) _
end Go.Proofs.YtjdepjanijambaaDoor
