/-
  Shards that are all of one length; a coder, and what New and Counts tell.
-/
import Derived.Test.YtpbkabgjpieggaaSh
namespace Go.Proofs.Ytpbkabgjpieggaa
open Go.RowKit

set_option maxRecDepth 100000 in
set_option maxHeartbeats 1000000 in
theorem rlevel1_says (W : World) (g : Nat) (A : Option Addr) (n c : Nat) (M : List (List UInt8)) (hg : W.cell? ⟨g, 0, none⟩ = some (.slice A n c)) (hM : Mtx W A n c M) (Ai : Option Addr) (ci : Nat) (l : List UInt8) (hl : l ∈ M) :
    Calls Try.prog 35 #[.slice Ai l.length ci, .pointer (some ⟨g, 0, none⟩)] W fun e w' => e = .returned (.bool (l.length != (M.headD []).length)) ∧ Below W.heap.size W w' := by
  have hn : 0 < n := by
    rw [← hM.len]
    exact List.length_pos_of_mem hl
  obtain ⟨r0, hr0⟩ : ∃ r, M[0]? = some r := ⟨_, List.getElem?_eq_getElem (by rw [hM.len]; exact hn)⟩
  have hhd : M.headD [] = r0 := by
    cases M with
    | nil => simp at hr0
    | cons a t => simpa using hr0
  obtain ⟨b, off, A0, c0, hA, hb, hc0, _⟩ := hM.row hr0
  subst hA
  rw [hhd, Nat.add_zero] at *
  have hn' : (0 : Int) < (n : Int) := by omega
  have he : (l.length != r0.length) = ((l.length : Int) != (r0.length : Int)) := by
    rcases Nat.lt_trichotomy l.length r0.length with h | h | h
    · rw [show (l.length != r0.length) = true by simp; omega, show ((l.length : Int) != (r0.length : Int)) = true by simp; omega]
    · rw [h]; simp
    · rw [show (l.length != r0.length) = true by simp; omega, show ((l.length : Int) != (r0.length : Int)) = true by simp; omega]
  rw [he]
  generalize l.length = x
  generalize r0.length = y at hc0 ⊢
  clear hM hr0 hl hhd he
  go_enter Try.func35, Try.ntmps35
  go_wp2
  go_ret
  exact ⟨rfl, Below.refl _ _⟩

set_option maxRecDepth 100000 in
set_option maxHeartbeats 1000000 in
theorem rlevel_says (w : World) (A : Option Addr) (n c : Nat) (M : List (List UInt8)) (hM : Mtx w A n c M) (hn : n ≤ 2000) : Calls Try.prog 23 #[.slice A n c] w fun e w' => e = .returned (.bool (levelB M)) ∧ Below w.heap.size w w' := by
  rw [← level_any]
  have hb1 : Below w.heap.size w (w.alloc (.cells #[.slice A n c] 22)) := (Below.refl _ w).alloc (Nat.le_refl _) _
  have hF : RowFn (w.alloc (.cells #[.slice A n c] 22)) 35 (.pointer (some ⟨w.heap.size, 0, none⟩)) M (fun r => r.length != (M.headD []).length) := fun W Ai ci l hW hl _ =>
    rlevel1_says W w.heap.size A n c M ((hW.cell (p := ⟨w.heap.size, 0, none⟩) (by simp)).trans (cell_one_new w _ _ 0 _ rfl)) ((hM.below hb1).below hW) Ai ci l hl
  have HC := Lib.hid (contains_says _ A n c M (hM.below hb1) _ _ _ (enters_of Try.func35 (by kernel_rfl) rfl) hF hn)
  have HB := Lib.hid hb1
  clear hM hb1 hF
  generalize (M.any fun r => r.length != (M.headD []).length) = bb at HC ⊢
  go_enter Try.func23, Try.ntmps23
  go_wp2_with (go_at_call 21; refine HC.out.mono ?_; rintro e wn ⟨rfl, hbn⟩; have HBN := Lib.hid hbn; clear hbn)
  go_ret
  exact ⟨rfl, HB.out.trans (HBN.out.mono HB.out.size)⟩


/-- A coder of k shards of data, and m more. -/
def Cod (w : World) (p k m : Nat) : Prop := w.cell? ⟨p, 0, none⟩ = some (.int .i64 (k : Int)) ∧ w.cell? ⟨p, 1, none⟩ = some (.int .i64 (m : Int)) ∧ p < w.heap.size
theorem Cod.below {w w' : World} {p k m : Nat} (h : Cod w p k m) (hb : Below w.heap.size w w') : Cod w' p k m := ⟨(hb.cell (p := ⟨p, 0, none⟩) h.2.2).trans h.1, (hb.cell (p := ⟨p, 1, none⟩) h.2.2).trans h.2.1, Nat.lt_of_lt_of_le h.2.2 hb.size⟩
theorem made_yes (w : World) (p k m : Nat) (h : Cod w p k m) (hk : 1 ≤ k) : Calls Try.prog 20 #[.pointer (some ⟨p, 0, none⟩)] w fun e w' => e = .returned (.bool true) ∧ w' = w := by
  have hc := h.1
  have hk' : (0 : Int) < (k : Int) := by omega
  go_enter Try.func20, Try.ntmps20
  go_wp2
  go_ret
  exact ⟨by simp; omega, rfl⟩
theorem made_nil (w : World) : Calls Try.prog 20 #[.pointer none] w fun e w' => e = .returned (.bool false) ∧ w' = w := by
  go_enter Try.func20, Try.ntmps20
  go_wp2
  go_ret
  exact ⟨rfl, rfl⟩
theorem made_bare (w : World) (p m : Nat) (h : Cod w p 0 m) : Calls Try.prog 20 #[.pointer (some ⟨p, 0, none⟩)] w fun e w' => e = .returned (.bool false) ∧ w' = w := by
  have hc := h.1
  have hk' : ¬ (0 : Int) < ((0 : Nat) : Int) := by omega
  go_enter Try.func20, Try.ntmps20
  go_wp2
  go_ret
  exact ⟨by simp, rfl⟩
theorem counts_made (w : World) (p k m : Nat) (h : Cod w p k m) (hk : 1 ≤ k) : Calls Try.prog 11 #[.pointer (some ⟨p, 0, none⟩)] w fun e w' => e = .returned (.tuple #[.int .i64 (k : Int), .int .i64 (m : Int)]) ∧ Below w.heap.size w w' := by
  have hc := h.1
  have hd := h.2.1
  have HM := Lib.hid (made_yes w p k m h hk)
  go_enter Try.func11, Try.ntmps11
  go_wp2_with (go_at_call 20; refine HM.out.mono ?_; rintro e wn ⟨rfl, hwn⟩; obtain rfl : w = wn := hwn.symm)
  go_quiet (fail)
  go_wp2
  go_ret2
  exact ⟨rfl, below_drewN' (Below.refl _ _) _⟩
/-- Those numbers that New takes. -/
def newOk (k m : Int) : Prop := 1 ≤ k ∧ 0 ≤ m ∧ m ≤ 255 - k
instance (k m : Int) : Decidable (newOk k m) := by unfold newOk; exact inferInstance
theorem rnew_yes (w : World) (k m : Nat) (h1 : 1 ≤ k) (h2 : k + m ≤ 255) : Calls Try.prog 9 #[.int .i64 (k : Int), .int .i64 (m : Int)] w fun e w' => ∃ p, e = .returned (.tuple #[.pointer (some ⟨p, 0, none⟩), .int .i64 0]) ∧ Cod w' p k m ∧ w.heap.size ≤ p ∧ Below w.heap.size w w' := by
  have l1 : ¬ (k : Int) < 1 := by omega
  have l2 : ¬ (m : Int) < 0 := by omega
  have l3 : IntKind.i64.wrap (255 - (k : Int)) = 255 - (k : Int) := IntWalk.i64_in _ (by omega)
  have l4 : ¬ (255 - (k : Int)) < (m : Int) := by omega
  go_enter Try.func9, Try.ntmps9
  go_wp2
  go_ret2
  refine ⟨_, rfl, ⟨?_, ?_, by simp⟩, Nat.le_refl _, (Below.refl _ w).alloc (Nat.le_refl _) _⟩
  · simp
  · simp
theorem rnew_no (w : World) (k m : Int) (hk : -9223372036854775808 ≤ k ∧ k ≤ 9223372036854775807) (hm : -9223372036854775808 ≤ m ∧ m ≤ 9223372036854775807) (h : ¬ newOk k m) : Calls Try.prog 9 #[.int .i64 k, .int .i64 m] w fun e w' => e = .returned (.tuple #[.pointer none, .int .i64 2]) ∧ w' = w := by
  by_cases l1 : k < 1
  · go_enter Try.func9, Try.ntmps9
    go_wp2
    go_ret2
    exact ⟨rfl, rfl⟩
  · by_cases l2 : m < 0
    · go_enter Try.func9, Try.ntmps9
      go_wp2
      go_ret2
      exact ⟨rfl, rfl⟩
    · have l3 : IntKind.i64.wrap (255 - k) = 255 - k := IntWalk.i64_in _ (by omega)
      have l4 : (255 - k) < m := by unfold newOk at h; omega
      go_enter Try.func9, Try.ntmps9
      go_wp2
      go_ret2
      exact ⟨rfl, rfl⟩
end Go.Proofs.Ytpbkabgjpieggaa
