/-
  The reference's device: how it lies, and its Call.
-/
import Derived.Test.YtemgphpgfdnkeaaKeepP
namespace Go.Proofs.Ytemgphpgfdnkeaa
open Go.RowKit

/-- The reference's device, in plain words. -/
structure Rv where
  kept : List Bk
  at' : List Nat
  bs : List Bk
  arm : Int
  down : Bool
  ops : Nat
/-- A block as a text. -/
def sc (x : Bk) : Value := .string ⟨x.1.toArray⟩
/-- Its six cells. -/
def rcell (s1 s2 s3 : Value) (arm : Int) (down : Bool) (ops : Nat) : Array Value := #[s1, s2, s3, .int .i64 arm, .bool down, .int .i64 (ops : Int)]
theorem refInfo : (Try.prog.info? 30).map (fun i => (i.zero, i.size, i.bytes)) = some (some (.agg #[.slice none 0 0, .slice none 0 0, .slice none 0 0, .int .i64 0, .bool false, .int .i64 0]), 6, 96) := by kernel_rfl
/-- A call begins. -/
def rArm (arm : Int) : Int := if arm ≥ 0 then arm - 1 else arm

set_option maxRecDepth 100000 in
set_option maxHeartbeats 2000000 in
theorem rcall_low (w : World) (A1 A2 A3 : Option Addr) (n1 c1 n2 c2 n3 c3 : Nat) (arm : Int) (down : Bool) (ops : Nat) (h0 : ops ≤ 100000) (hl : -1 ≤ arm) (hh : arm ≤ 9223372036854775807) :
    Calls Try.prog 17 #[.agg #[.slice A1 n1 c1, .slice A2 n2 c2, .slice A3 n3 c3, .int .i64 arm, .bool down, .int .i64 (ops : Int)]] w fun e w' =>
      e = .returned (.tuple #[.agg #[.slice A1 n1 c1, .slice A2 n2 c2, .slice A3 n3 c3, .int .i64 (rArm arm), .bool (down || decide (arm = 0)), .int .i64 ((ops + 1 : Nat) : Int)], .bool (!(down || decide (arm = 0)))]) ∧ Below w.heap.size w w' := by
  have hnot : ∀ (x : Bool) (w : World), (Op.unary .not (.bool x)).run Try.prog w = .ok (.bool (!x)) w := fun _ _ => rfl
  obtain ⟨w1, hw1⟩ : ∃ x, w.alloc (.cells #[.slice A1 n1 c1, .slice A2 n2 c2, .slice A3 n3 c3, .int .i64 arm, .bool down, .int .i64 (ops : Int)] 30) = x := ⟨_, rfl⟩
  have hB1 : Below w.heap.size w w1 := by rw [← hw1]; exact (Below.refl _ w).alloc (Nat.le_refl _) _
  have hx1 := Box.made w 30 #[.slice A1 n1 c1, .slice A2 n2 c2, .slice A3 n3 c3, .int .i64 arm, .bool down, .int .i64 (ops : Int)]
  rw [hw1] at hx1
  have hs1 : w1.heap.size = w.heap.size + 1 := by rw [← hw1]; simp
  obtain ⟨w2, hw2⟩ : ∃ x, w1.alloc (.cells #[.slice none 0 0, .slice none 0 0, .slice none 0 0, .int .i64 0, .bool false, .int .i64 0] 30) = x := ⟨_, rfl⟩
  have hB2 : Below w.heap.size w w2 := by rw [← hw2]; exact hB1.alloc hB1.size _
  have hx2 := Box.alloc hx1 (.cells #[.slice none 0 0, .slice none 0 0, .slice none 0 0, .int .i64 0, .bool false, .int .i64 0] 30)
  rw [hw2] at hx2
  have hy2 := Box.made w1 30 #[.slice none 0 0, .slice none 0 0, .slice none 0 0, .int .i64 0, .bool false, .int .i64 0]
  rw [hw2, hs1] at hy2
  have k5 : w2.cell? ⟨w.heap.size, 5, none⟩ = some (.int .i64 (ops : Int)) := (Box.cell hx2 5).trans rfl
  have g5 := Box.frozen hx2 5
  have hadd : IntKind.i64.wrap ((ops : Int) + 1) = ((ops + 1 : Nat) : Int) := by
    rw [show (ops : Int) + 1 = ((ops + 1 : Nat) : Int) by omega]
    exact IntWalk.i64_in _ (by omega)
  obtain ⟨w3, hw3⟩ : ∃ x, w2.setCell ⟨w.heap.size, 5, none⟩ (.int .i64 ((ops : Int) + 1)) = x := ⟨_, rfl⟩
  have hx3 := Box.put hx2 5 (.int .i64 ((ops : Int) + 1))
  rw [hw3] at hx3
  simp only [List.setIfInBounds_toArray, List.set_cons_zero, List.set_cons_succ] at hx3
  have hy3 := Box.grown hy2 (grown_set (grown_refl w2 (some w.heap.size)) 5 (.int .i64 ((ops : Int) + 1))) (fun e => by injection e; omega)
  rw [hw3] at hy3
  have hB3 : Below w.heap.size w w3 := by rw [← hw3]; exact hB2.setCell (p := ⟨w.heap.size, 5, none⟩) (Nat.le_refl _) _
  have k3 : w3.cell? ⟨w.heap.size, 3, none⟩ = some (.int .i64 arm) := (Box.cell hx3 3).trans rfl
  have k4 : w3.cell? ⟨w.heap.size, 4, none⟩ = some (.bool down) := (Box.cell hx3 4).trans rfl
  have g3 := Box.frozen hx3 3
  have g4 := Box.frozen hx3 4
  have H3 := Lib.hid (And.intro hx3 (And.intro hy3 hB3))
  clear hx1 hx2 hy2 hx3 hy3 hB1 hB2 hB3
  rcases Int.lt_trichotomy arm 0 with h | h | h
  · obtain rfl : arm = -1 := by omega
    rw [show (rArm (-1)) = -1 from rfl, show decide ((-1 : Int) = 0) = false from rfl, Bool.or_false]
    go_enter Try.func17, Try.ntmps17
    go_upto_region 6 with fail
    obtain ⟨cs, hcs⟩ : ∃ cs : List Value, cs = [.slice A1 n1 c1, .slice A2 n2 c2, .slice A3 n3 c3, .int .i64 (-1), .bool (down), .int .i64 ((ops : Int) + 1)] := ⟨_, rfl⟩
    have hX : Box w3 w.heap.size 30 cs.toArray := by rw [hcs]; exact H3.out.1
    have hY := H3.out.2.1
    have hB := H3.out.2.2
    have hcl : cs.length = 6 := by rw [hcs]; rfl
    have hc1 : cs.toArray.all (·.oneCell') = true := by rw [hcs]; simp [Value.oneCell']
    obtain ⟨x9, hx9⟩ : ∃ x, w3.drew.setRow (w.heap.size + 1) cs.toArray = x := ⟨_, rfl⟩
    have hY9 : Box x9 (w.heap.size + 1) 30 cs.toArray := by rw [← hx9]; exact setRow_heap w3.drew _ _ _ _ _ hY
    have hB9 : Below w.heap.size w x9 := hB.trans ((Below.refl _ w3).drew.trans (by rw [← hx9]; exact (Below.refl _ w3.drew).grown (grown_row (grown_refl _ (some (w.heap.size + 1))) _) hB.size (fun k e => by injection e with e; omega)))
    have hX9 : Box x9 w.heap.size 30 cs.toArray := by rw [← hx9]; exact Box.grown (w := w3.drew) hX (grown_row (grown_refl _ (some (w.heap.size + 1))) _) (fun e => by injection e; omega)
    have S0 : w3.drew.rangeAt w.heap.size 0 cs ∧ w3.drew.cell? ⟨w.heap.size, 4, none⟩ = some (.bool (down)) := ⟨range_box hX, (Box.cell hX 4).trans (by rw [hcs]; rfl)⟩
    have S9 : x9.rangeAt w.heap.size 0 cs ∧ x9.cell? ⟨w.heap.size, 4, none⟩ = some (.bool (down)) := ⟨range_box hX9, (Box.cell hX9 4).trans (by rw [hcs]; rfl)⟩
    have HF := Lib.hid (And.intro hY9 (And.intro hB9 (And.intro hx9 (And.intro hY (And.intro hcs hcl)))))
    clear hX hY hB hcs hY9 hB9 hX9 hx9 hcl
    refine wp_region_held_drew (S := fun w' => w'.rangeAt w.heap.size 0 cs ∧ w'.cell? ⟨w.heap.size, 4, none⟩ = some (.bool (down))) (by kernel_rfl) S0 (fun hHeld => ?_)
    refine take_load 0 19 30 _ w.heap.size 0 cs _ rfl rfl rfl (by kernel_rfl) (by kernel_rfl) (by kernel_rfl) (fun _ _ _ h => h) (by rfl) rfl (fun _ h => h.1) Try.underlying30 rfl (by rw [HF.out.2.2.2.2.2]; kernel_rfl) (by assumption) ?_
    simp only [Act.put, List.setIfInBounds_toArray, List.set_cons_zero, List.set_cons_succ]
    refine take_run 1 20 (v := ?_) rfl rfl (by kernel_rfl) (by kernel_rfl) (by kernel_rfl) (fun _ _ _ h => h) (by rfl) ?_ (by assumption) ?_
    rotate_left
    · (intro wq hSw; obtain ⟨hS1, hS2⟩ := hSw; go_simp; first | done | with_reducible rfl)
    simp only [Act.put, List.setIfInBounds_toArray, List.set_cons_zero, List.set_cons_succ]
    refine take_run 2 21 (v := ?_) rfl rfl (by kernel_rfl) (by kernel_rfl) (by kernel_rfl) (fun _ _ _ h => h) (by rfl) ?_ (by assumption) ?_
    rotate_left
    · (intro wq hSw; obtain ⟨hS1, hS2⟩ := hSw; go_simp; first | done | with_reducible rfl)
    simp only [Act.put, List.setIfInBounds_toArray, List.set_cons_zero, List.set_cons_succ]
    refine take_run 3 22 (v := ?_) rfl rfl (by kernel_rfl) (by kernel_rfl) (by kernel_rfl) (fun _ _ _ h => h) (by rfl) ?_ (by assumption) ?_
    rotate_left
    · (intro wq hSw; obtain ⟨hS1, hS2⟩ := hSw; go_simp; first | done | with_reducible rfl)
    simp only [Act.put, List.setIfInBounds_toArray, List.set_cons_zero, List.set_cons_succ]
    refine wpAnyH_ready (rs := [4]) (by kernel_rfl) (by simp) ?_
    refine AllReadyH.cons rfl (fun K1 hK1 => ?_) AllReadyH.nil
    refine step_skip (w' := x9) rfl rfl ((exec_storeW (x := .tmp 2) (y := .tmp 19) (off := 0) (ty := 30) rfl rfl rfl (show Box w3.drew (w.heap.size + 1) 30 _ from HF.out.2.2.2.1) (by simp [HF.out.2.2.2.2.2]) (by simp only [List.size_toArray, HF.out.2.2.2.2.2]; kernel_rfl) hc1).trans (congrArg (fun z => Result.ok Next.skip z) (by rw [← HF.out.2.2.1]; simp [HF.out.2.2.2.2.2]))) ?_
    refine hK1.out _ _ S9 (fun hHeld => ?_)
    clear hK1 K1
    refine take_run 5 3 (v := ?_) rfl rfl (by kernel_rfl) (by kernel_rfl) (by kernel_rfl) (fun _ _ _ h => h) (by rfl) ?_ (by assumption) ?_
    rotate_left
    · (intro wq hSw; obtain ⟨hS1, hS2⟩ := hSw; go_simp; first | done | with_reducible rfl)
    simp only [Act.put, List.setIfInBounds_toArray, List.set_cons_zero, List.set_cons_succ]
    refine wpAnyH_done (by kernel_rfl) ?_ _
    clear hHeld S0 S9
    obtain ⟨hY9, hB9, _, _, hcs, _⟩ := HF.out
    have r0 := fun i => Box.cell hY9 i
    rw [hcs] at r0
    have q0 := r0 0
    have q1 := r0 1
    have q2 := r0 2
    have q3 := r0 3
    have q4 := r0 4
    have q5 := r0 5
    clear r0 hY9 HF hcs
    simp only [List.getElem?_toArray, List.getElem?_cons_zero, List.getElem?_cons_succ] at q0 q1 q2 q3 q4 q5
    go_wp2
    exact bodyPost_ret (v := .tuple #[.agg #[.slice A1 n1 c1, .slice A2 n2 c2, .slice A3 n3 c3, .int .i64 (-1), .bool (down), .int .i64 ((ops + 1 : Nat) : Int)], .bool (!(down))]) (by simp [results, Try.results17, go_sem, q0, q1, q2, q3, q4, q5]) rfl ⟨rfl, hB9⟩
  · subst h
    rw [show (rArm 0) = -1 from rfl, show decide ((0 : Int) = 0) = true from rfl, Bool.or_true]
    obtain ⟨w4, hw4⟩ : ∃ x, w3.setCell ⟨w.heap.size, 4, none⟩ (.bool true) = x := ⟨_, rfl⟩
    have hx4 := Box.put H3.out.1 4 (.bool true)
    rw [hw4] at hx4
    simp only [List.setIfInBounds_toArray, List.set_cons_zero, List.set_cons_succ] at hx4
    have k34 : w4.cell? ⟨w.heap.size, 3, none⟩ = some (.int .i64 0) := (Box.cell hx4 3).trans rfl
    have g34 := Box.frozen hx4 3
    obtain ⟨w5, hw5⟩ : ∃ x, w4.setCell ⟨w.heap.size, 3, none⟩ (.int .i64 (-1)) = x := ⟨_, rfl⟩
    have hx5 := Box.put hx4 3 (.int .i64 (-1))
    rw [hw5] at hx5
    simp only [List.setIfInBounds_toArray, List.set_cons_zero, List.set_cons_succ] at hx5
    have hg5 : w3.grownBy w5 (some w.heap.size) := by rw [← hw5, ← hw4]; exact grown_set (grown_set (grown_refl _ _) 4 _) 3 _
    have hy5 := Box.grown H3.out.2.1 hg5 (fun e => by injection e; omega)
    have hB5 : Below w.heap.size w w5 := H3.out.2.2.trans ((Below.refl _ w3).grown hg5 H3.out.2.2.size (fun k e => by injection e with e; omega))
    have H5 := Lib.hid (And.intro hx5 (And.intro hy5 hB5))
    clear hx4 hx5 hy5 hB5 hg5
    go_enter Try.func17, Try.ntmps17
    go_upto_region 6 with fail
    obtain ⟨cs, hcs⟩ : ∃ cs : List Value, cs = [.slice A1 n1 c1, .slice A2 n2 c2, .slice A3 n3 c3, .int .i64 (-1), .bool (true), .int .i64 ((ops : Int) + 1)] := ⟨_, rfl⟩
    have hX : Box w5 w.heap.size 30 cs.toArray := by rw [hcs]; exact H5.out.1
    have hY := H5.out.2.1
    have hB := H5.out.2.2
    have hcl : cs.length = 6 := by rw [hcs]; rfl
    have hc1 : cs.toArray.all (·.oneCell') = true := by rw [hcs]; simp [Value.oneCell']
    obtain ⟨x9, hx9⟩ : ∃ x, w5.drew.setRow (w.heap.size + 1) cs.toArray = x := ⟨_, rfl⟩
    have hY9 : Box x9 (w.heap.size + 1) 30 cs.toArray := by rw [← hx9]; exact setRow_heap w5.drew _ _ _ _ _ hY
    have hB9 : Below w.heap.size w x9 := hB.trans ((Below.refl _ w5).drew.trans (by rw [← hx9]; exact (Below.refl _ w5.drew).grown (grown_row (grown_refl _ (some (w.heap.size + 1))) _) hB.size (fun k e => by injection e with e; omega)))
    have hX9 : Box x9 w.heap.size 30 cs.toArray := by rw [← hx9]; exact Box.grown (w := w5.drew) hX (grown_row (grown_refl _ (some (w.heap.size + 1))) _) (fun e => by injection e; omega)
    have S0 : w5.drew.rangeAt w.heap.size 0 cs ∧ w5.drew.cell? ⟨w.heap.size, 4, none⟩ = some (.bool (true)) := ⟨range_box hX, (Box.cell hX 4).trans (by rw [hcs]; rfl)⟩
    have S9 : x9.rangeAt w.heap.size 0 cs ∧ x9.cell? ⟨w.heap.size, 4, none⟩ = some (.bool (true)) := ⟨range_box hX9, (Box.cell hX9 4).trans (by rw [hcs]; rfl)⟩
    have HF := Lib.hid (And.intro hY9 (And.intro hB9 (And.intro hx9 (And.intro hY (And.intro hcs hcl)))))
    clear hX hY hB hcs hY9 hB9 hX9 hx9 hcl
    refine wp_region_held_drew (S := fun w' => w'.rangeAt w.heap.size 0 cs ∧ w'.cell? ⟨w.heap.size, 4, none⟩ = some (.bool (true))) (by kernel_rfl) S0 (fun hHeld => ?_)
    refine take_load 0 19 30 _ w.heap.size 0 cs _ rfl rfl rfl (by kernel_rfl) (by kernel_rfl) (by kernel_rfl) (fun _ _ _ h => h) (by rfl) rfl (fun _ h => h.1) Try.underlying30 rfl (by rw [HF.out.2.2.2.2.2]; kernel_rfl) (by assumption) ?_
    simp only [Act.put, List.setIfInBounds_toArray, List.set_cons_zero, List.set_cons_succ]
    refine take_run 1 20 (v := ?_) rfl rfl (by kernel_rfl) (by kernel_rfl) (by kernel_rfl) (fun _ _ _ h => h) (by rfl) ?_ (by assumption) ?_
    rotate_left
    · (intro wq hSw; obtain ⟨hS1, hS2⟩ := hSw; go_simp; first | done | with_reducible rfl)
    simp only [Act.put, List.setIfInBounds_toArray, List.set_cons_zero, List.set_cons_succ]
    refine take_run 2 21 (v := ?_) rfl rfl (by kernel_rfl) (by kernel_rfl) (by kernel_rfl) (fun _ _ _ h => h) (by rfl) ?_ (by assumption) ?_
    rotate_left
    · (intro wq hSw; obtain ⟨hS1, hS2⟩ := hSw; go_simp; first | done | with_reducible rfl)
    simp only [Act.put, List.setIfInBounds_toArray, List.set_cons_zero, List.set_cons_succ]
    refine take_run 3 22 (v := ?_) rfl rfl (by kernel_rfl) (by kernel_rfl) (by kernel_rfl) (fun _ _ _ h => h) (by rfl) ?_ (by assumption) ?_
    rotate_left
    · (intro wq hSw; obtain ⟨hS1, hS2⟩ := hSw; go_simp; first | done | with_reducible rfl)
    simp only [Act.put, List.setIfInBounds_toArray, List.set_cons_zero, List.set_cons_succ]
    refine wpAnyH_ready (rs := [4]) (by kernel_rfl) (by simp) ?_
    refine AllReadyH.cons rfl (fun K1 hK1 => ?_) AllReadyH.nil
    refine step_skip (w' := x9) rfl rfl ((exec_storeW (x := .tmp 2) (y := .tmp 19) (off := 0) (ty := 30) rfl rfl rfl (show Box w5.drew (w.heap.size + 1) 30 _ from HF.out.2.2.2.1) (by simp [HF.out.2.2.2.2.2]) (by simp only [List.size_toArray, HF.out.2.2.2.2.2]; kernel_rfl) hc1).trans (congrArg (fun z => Result.ok Next.skip z) (by rw [← HF.out.2.2.1]; simp [HF.out.2.2.2.2.2]))) ?_
    refine hK1.out _ _ S9 (fun hHeld => ?_)
    clear hK1 K1
    refine take_run 5 3 (v := ?_) rfl rfl (by kernel_rfl) (by kernel_rfl) (by kernel_rfl) (fun _ _ _ h => h) (by rfl) ?_ (by assumption) ?_
    rotate_left
    · (intro wq hSw; obtain ⟨hS1, hS2⟩ := hSw; go_simp; first | done | with_reducible rfl)
    simp only [Act.put, List.setIfInBounds_toArray, List.set_cons_zero, List.set_cons_succ]
    refine wpAnyH_done (by kernel_rfl) ?_ _
    clear hHeld S0 S9
    obtain ⟨hY9, hB9, _, _, hcs, _⟩ := HF.out
    have r0 := fun i => Box.cell hY9 i
    rw [hcs] at r0
    have q0 := r0 0
    have q1 := r0 1
    have q2 := r0 2
    have q3 := r0 3
    have q4 := r0 4
    have q5 := r0 5
    clear r0 hY9 HF hcs
    simp only [List.getElem?_toArray, List.getElem?_cons_zero, List.getElem?_cons_succ] at q0 q1 q2 q3 q4 q5
    go_wp2
    exact bodyPost_ret (v := .tuple #[.agg #[.slice A1 n1 c1, .slice A2 n2 c2, .slice A3 n3 c3, .int .i64 (-1), .bool (true), .int .i64 ((ops + 1 : Nat) : Int)], .bool (!(true))]) (by simp [results, Try.results17, go_sem, q0, q1, q2, q3, q4, q5]) rfl ⟨rfl, hB9⟩
  · have e1 : (arm == 0) = false := by simp; omega
    have e2 : arm ≥ 0 := by omega
    have e3 : decide (arm = 0) = false := by simp; omega
    have e4 : IntKind.i64.wrap (arm - 1) = arm - 1 := IntWalk.i64_in _ (by omega)
    rw [show rArm arm = arm - 1 from if_pos e2, e3, Bool.or_false]
    clear e3
    obtain ⟨w5, hw5⟩ : ∃ x, w3.setCell ⟨w.heap.size, 3, none⟩ (.int .i64 (arm - 1)) = x := ⟨_, rfl⟩
    have hx5 := Box.put H3.out.1 3 (.int .i64 (arm - 1))
    rw [hw5] at hx5
    simp only [List.setIfInBounds_toArray, List.set_cons_zero, List.set_cons_succ] at hx5
    have hg5 : w3.grownBy w5 (some w.heap.size) := by rw [← hw5]; exact grown_set (grown_refl _ _) 3 _
    have hy5 := Box.grown H3.out.2.1 hg5 (fun e => by injection e; omega)
    have hB5 : Below w.heap.size w w5 := H3.out.2.2.trans ((Below.refl _ w3).grown hg5 H3.out.2.2.size (fun k e => by injection e with e; omega))
    have H5 := Lib.hid (And.intro hx5 (And.intro hy5 hB5))
    clear hx5 hy5 hB5 hg5
    go_enter Try.func17, Try.ntmps17
    go_upto_region 6 with fail
    obtain ⟨cs, hcs⟩ : ∃ cs : List Value, cs = [.slice A1 n1 c1, .slice A2 n2 c2, .slice A3 n3 c3, .int .i64 (arm - 1), .bool (down), .int .i64 ((ops : Int) + 1)] := ⟨_, rfl⟩
    have hX : Box w5 w.heap.size 30 cs.toArray := by rw [hcs]; exact H5.out.1
    have hY := H5.out.2.1
    have hB := H5.out.2.2
    have hcl : cs.length = 6 := by rw [hcs]; rfl
    have hc1 : cs.toArray.all (·.oneCell') = true := by rw [hcs]; simp [Value.oneCell']
    obtain ⟨x9, hx9⟩ : ∃ x, w5.drew.setRow (w.heap.size + 1) cs.toArray = x := ⟨_, rfl⟩
    have hY9 : Box x9 (w.heap.size + 1) 30 cs.toArray := by rw [← hx9]; exact setRow_heap w5.drew _ _ _ _ _ hY
    have hB9 : Below w.heap.size w x9 := hB.trans ((Below.refl _ w5).drew.trans (by rw [← hx9]; exact (Below.refl _ w5.drew).grown (grown_row (grown_refl _ (some (w.heap.size + 1))) _) hB.size (fun k e => by injection e with e; omega)))
    have hX9 : Box x9 w.heap.size 30 cs.toArray := by rw [← hx9]; exact Box.grown (w := w5.drew) hX (grown_row (grown_refl _ (some (w.heap.size + 1))) _) (fun e => by injection e; omega)
    have S0 : w5.drew.rangeAt w.heap.size 0 cs ∧ w5.drew.cell? ⟨w.heap.size, 4, none⟩ = some (.bool (down)) := ⟨range_box hX, (Box.cell hX 4).trans (by rw [hcs]; rfl)⟩
    have S9 : x9.rangeAt w.heap.size 0 cs ∧ x9.cell? ⟨w.heap.size, 4, none⟩ = some (.bool (down)) := ⟨range_box hX9, (Box.cell hX9 4).trans (by rw [hcs]; rfl)⟩
    have HF := Lib.hid (And.intro hY9 (And.intro hB9 (And.intro hx9 (And.intro hY (And.intro hcs hcl)))))
    clear hX hY hB hcs hY9 hB9 hX9 hx9 hcl
    refine wp_region_held_drew (S := fun w' => w'.rangeAt w.heap.size 0 cs ∧ w'.cell? ⟨w.heap.size, 4, none⟩ = some (.bool (down))) (by kernel_rfl) S0 (fun hHeld => ?_)
    refine take_load 0 19 30 _ w.heap.size 0 cs _ rfl rfl rfl (by kernel_rfl) (by kernel_rfl) (by kernel_rfl) (fun _ _ _ h => h) (by rfl) rfl (fun _ h => h.1) Try.underlying30 rfl (by rw [HF.out.2.2.2.2.2]; kernel_rfl) (by assumption) ?_
    simp only [Act.put, List.setIfInBounds_toArray, List.set_cons_zero, List.set_cons_succ]
    refine take_run 1 20 (v := ?_) rfl rfl (by kernel_rfl) (by kernel_rfl) (by kernel_rfl) (fun _ _ _ h => h) (by rfl) ?_ (by assumption) ?_
    rotate_left
    · (intro wq hSw; obtain ⟨hS1, hS2⟩ := hSw; go_simp; first | done | with_reducible rfl)
    simp only [Act.put, List.setIfInBounds_toArray, List.set_cons_zero, List.set_cons_succ]
    refine take_run 2 21 (v := ?_) rfl rfl (by kernel_rfl) (by kernel_rfl) (by kernel_rfl) (fun _ _ _ h => h) (by rfl) ?_ (by assumption) ?_
    rotate_left
    · (intro wq hSw; obtain ⟨hS1, hS2⟩ := hSw; go_simp; first | done | with_reducible rfl)
    simp only [Act.put, List.setIfInBounds_toArray, List.set_cons_zero, List.set_cons_succ]
    refine take_run 3 22 (v := ?_) rfl rfl (by kernel_rfl) (by kernel_rfl) (by kernel_rfl) (fun _ _ _ h => h) (by rfl) ?_ (by assumption) ?_
    rotate_left
    · (intro wq hSw; obtain ⟨hS1, hS2⟩ := hSw; go_simp; first | done | with_reducible rfl)
    simp only [Act.put, List.setIfInBounds_toArray, List.set_cons_zero, List.set_cons_succ]
    refine wpAnyH_ready (rs := [4]) (by kernel_rfl) (by simp) ?_
    refine AllReadyH.cons rfl (fun K1 hK1 => ?_) AllReadyH.nil
    refine step_skip (w' := x9) rfl rfl ((exec_storeW (x := .tmp 2) (y := .tmp 19) (off := 0) (ty := 30) rfl rfl rfl (show Box w5.drew (w.heap.size + 1) 30 _ from HF.out.2.2.2.1) (by simp [HF.out.2.2.2.2.2]) (by simp only [List.size_toArray, HF.out.2.2.2.2.2]; kernel_rfl) hc1).trans (congrArg (fun z => Result.ok Next.skip z) (by rw [← HF.out.2.2.1]; simp [HF.out.2.2.2.2.2]))) ?_
    refine hK1.out _ _ S9 (fun hHeld => ?_)
    clear hK1 K1
    refine take_run 5 3 (v := ?_) rfl rfl (by kernel_rfl) (by kernel_rfl) (by kernel_rfl) (fun _ _ _ h => h) (by rfl) ?_ (by assumption) ?_
    rotate_left
    · (intro wq hSw; obtain ⟨hS1, hS2⟩ := hSw; go_simp; first | done | with_reducible rfl)
    simp only [Act.put, List.setIfInBounds_toArray, List.set_cons_zero, List.set_cons_succ]
    refine wpAnyH_done (by kernel_rfl) ?_ _
    clear hHeld S0 S9
    obtain ⟨hY9, hB9, _, _, hcs, _⟩ := HF.out
    have r0 := fun i => Box.cell hY9 i
    rw [hcs] at r0
    have q0 := r0 0
    have q1 := r0 1
    have q2 := r0 2
    have q3 := r0 3
    have q4 := r0 4
    have q5 := r0 5
    clear r0 hY9 HF hcs
    simp only [List.getElem?_toArray, List.getElem?_cons_zero, List.getElem?_cons_succ] at q0 q1 q2 q3 q4 q5
    go_wp2
    exact bodyPost_ret (v := .tuple #[.agg #[.slice A1 n1 c1, .slice A2 n2 c2, .slice A3 n3 c3, .int .i64 (arm - 1), .bool (down), .int .i64 ((ops + 1 : Nat) : Int)], .bool (!(down))]) (by simp [results, Try.results17, go_sem, q0, q1, q2, q3, q4, q5]) rfl ⟨rfl, hB9⟩
end Go.Proofs.Ytemgphpgfdnkeaa
