/-
  What a device tells of itself, and how a call is counted: the contracts of made, has, call, Len, Arm, Down, Ops, Waiting and Flush.
-/
import Derived.Test.YthpfdenpgegheaaBlk

namespace Go.Proofs.Ythpfdenpgegheaa
open Go.RowKit

theorem DevAt.slice {w : World} {K : Nat → Prop} {p gb : Nat} {ex : Nat × List Value} {v : Value} {D : Dv} (h : DevAt w K p gb ex v D) : ∃ A c, v = .slice A D.ws.length c := by
  rcases h.2.2.1.2 with ⟨hv, hn⟩ | ⟨g, cap, cur, hv, _⟩
  · exact ⟨none, 0, by rw [hn]; exact hv⟩
  · exact ⟨_, cap, hv⟩

set_option maxHeartbeats 1000000 in
theorem made_nil (w : World) : Calls Try.prog 33 #[.pointer none] w fun e w' => e = .returned (.bool false) ∧ w' = w := by
  go_enter Try.func33, Try.ntmps33
  go_wp2
  go_ret
  exact ⟨rfl, rfl⟩
set_option maxHeartbeats 1000000 in
theorem made_bare (w : World) (p : Nat) (h0 : w.cell? ⟨p, 0, none⟩ = some (.slice none 0 0)) : Calls Try.prog 33 #[.pointer (some ⟨p, 0, none⟩)] w fun e w' => e = .returned (.bool false) ∧ w' = w := by
  go_enter Try.func33, Try.ntmps33
  go_wp2
  go_ret
  exact ⟨rfl, rfl⟩
set_option maxHeartbeats 1000000 in
theorem made_low (w : World) (p n c : Nat) (A : Option Addr) (h0 : w.cell? ⟨p, 0, none⟩ = some (.slice A n c)) (hn : 0 < n) : Calls Try.prog 33 #[.pointer (some ⟨p, 0, none⟩)] w fun e w' => e = .returned (.bool true) ∧ w' = w := by
  have h1 : decide ((n : Int) > 0) = true := by simp; omega
  have h2 : (0 : Int) < (n : Int) := by omega
  go_enter Try.func33, Try.ntmps33
  go_wp2
  go_ret
  exact ⟨rfl, rfl⟩
section
variable {w : World} {K : Nat → Prop} {p : Nat} {D : Dv}
theorem Dev.cell0 (h : Dev w K p D) : ∃ gb C, w.cell? ⟨p, 0, none⟩ = some (.slice (some ⟨gb, 0, none⟩) D.bs.length C) := by
  obtain ⟨_, gb, ex, v, h1, _⟩ := h
  exact ⟨gb, _, by rw [Box.cell h1]; rfl⟩
theorem made_yes (h : Dev w K p D) : Calls Try.prog 33 #[.pointer (some ⟨p, 0, none⟩)] w fun e w' => e = .returned (.bool true) ∧ w' = w := by
  obtain ⟨gb, C, h0⟩ := h.cell0
  exact made_low w p _ _ _ h0 h.1.pos
end
set_option maxHeartbeats 1000000 in
theorem has_low (w : World) (p n c : Nat) (A : Option Addr) (h0 : w.cell? ⟨p, 0, none⟩ = some (.slice A n c)) (i : Int) : Calls Try.prog 34 #[.pointer (some ⟨p, 0, none⟩), .int .i64 i] w fun e w' => e = .returned (.bool (decide (0 ≤ i ∧ i < n))) ∧ w' = w := by
  go_enter Try.func34, Try.ntmps34
  by_cases h1 : i ≥ 0
  · by_cases h2 : i < (n : Int)
    · rw [decide_eq_true (And.intro h1 h2)]
      go_wp2
      go_ret
      exact ⟨rfl, rfl⟩
    · rw [decide_eq_false (fun h => h2 h.2)]
      go_wp2
      go_ret
      exact ⟨rfl, rfl⟩
  · rw [decide_eq_false (fun h => h1 h.1)]
    go_wp2
    go_ret
    exact ⟨rfl, rfl⟩

/-- A call begins. -/
def Dv.call (D : Dv) : Dv := { D with ops := D.ops + 1, left := if D.left ≤ 0 then -1 else D.left - 1, down := D.down || decide (D.left = 0) }
theorem Dv.call_ok {D : Dv} (h : D.Ok) : D.call.Ok :=
  ⟨h.pos, h.most, h.place, Nat.le_succ_of_le h.count, by have := h.low; show -1 ≤ (if D.left ≤ 0 then (-1 : Int) else D.left - 1); split <;> omega, by have := h.high; show (if D.left ≤ 0 then (-1 : Int) else D.left - 1) ≤ _; split <;> omega⟩

set_option maxHeartbeats 1000000 in
/-- (*atomic.Int64).Add. -/
theorem add_low (w : World) (p i : Nat) (x : Int) (hc : w.cell? ⟨p, i, none⟩ = some (.int .i64 x)) (hz : w.frozen? ⟨p, i, none⟩ = false) (hx : 0 ≤ x) (hy : x ≤ 1000000) :
    Calls Try.prog 51 #[.pointer (some ⟨p, i, none⟩), .int .i64 1] w fun e w' => e = .returned (.int .i64 (x + 1)) ∧ w' = w.setCell ⟨p, i, none⟩ (.int .i64 (x + 1)) := by
  have hadd := run_call_add (P := Try.prog) Try.func61 (by kernel_rfl) (by kernel_rfl) (by kernel_rfl) .i64 (by kernel_rfl) (y := 1) (s := x + 1) hc hz (by
    have : IntKind.i64.wrap (x + 1) = x + 1 := IntWalk.i64_in _ (by omega)
    simp [Op.intArith, this])
  go_enter Try.func51, Try.ntmps51
  go_wp2
  go_ret
  exact ⟨rfl, rfl⟩
set_option maxHeartbeats 2000000 in
theorem call_low (w : World) (p : Nat) (b v : Value) (ops left : Int) (down : Bool) (hb : Box w p 80 #[b, v, .int .i64 ops, .int .i64 left, .bool down]) (h0 : 0 ≤ ops) (h1 : ops ≤ 1000000) (hl : -1 ≤ left) (hh : left ≤ 9223372036854775807) :
    Calls Try.prog 35 #[.pointer (some ⟨p, 0, none⟩)] w fun e w' => e = .returned (.bool (!(down || decide (left = 0)))) ∧
      Box w' p 80 #[b, v, .int .i64 (ops + 1), .int .i64 (if left ≤ 0 then -1 else left - 1), .bool (down || decide (left = 0))] ∧ w.grownBy w' (some p) := by
  have hnot : ∀ (x : Bool) (w : World), (Op.unary .not (.bool x)).run Try.prog w = .ok (.bool (!x)) w := fun _ _ => rfl
  have c2 : w.cell? ⟨p, 2, none⟩ = some (.int .i64 ops) := by rw [Box.cell hb]; rfl
  have f2 := Box.frozen hb 2
  have hA := add_low w p 2 ops c2 f2 h0 h1
  have hb2 := Box.put hb 2 (.int .i64 (ops + 1))
  simp only [List.setIfInBounds_toArray, List.set_cons_zero, List.set_cons_succ] at hb2
  have hg2 := grown_set (grown_refl w (some p)) 2 (.int .i64 (ops + 1))
  generalize hw2 : w.setCell ⟨p, 2, none⟩ (.int .i64 (ops + 1)) = w2 at hA hb2 hg2
  have c3 : w2.cell? ⟨p, 3, none⟩ = some (.int .i64 left) := by rw [Box.cell hb2]; rfl
  have c4 : w2.cell? ⟨p, 4, none⟩ = some (.bool down) := by rw [Box.cell hb2]; rfl
  have f3 := Box.frozen hb2 3
  have f4 := Box.frozen hb2 4
  clear hw2
  have HB := Lib.hid hb2
  have HG := Lib.hid hg2
  clear hb2 hg2 hb
  rcases Int.lt_trichotomy left 0 with h | h | h
  · obtain rfl : left = -1 := by omega
    go_enter Try.func35, Try.ntmps35
    go_wp2_with (go_at_call 51; refine hA.mono ?_; rintro e w' ⟨rfl, rfl⟩)
    go_ret
    have hb3 := Box.put HB.out 3 (.int .i64 (-1))
    simp only [List.setIfInBounds_toArray, List.set_cons_zero, List.set_cons_succ] at hb3
    refine ⟨by simp, by simpa using hb3, grown_set HG.out 3 _⟩
  · subst h
    go_enter Try.func35, Try.ntmps35
    go_wp2_with (go_at_call 51; refine hA.mono ?_; rintro e w' ⟨rfl, rfl⟩)
    go_ret
    have hb3 := Box.put (Box.put HB.out 4 (.bool true)) 3 (.int .i64 (-1))
    simp only [List.setIfInBounds_toArray, List.set_cons_zero, List.set_cons_succ] at hb3
    refine ⟨by simp, by simpa using hb3, grown_set (grown_set HG.out 4 _) 3 _⟩
  · have e1 : (left == 0) = false := by simp; omega
    have e2 : ¬ left ≤ 0 := by omega
    have e3 : decide (left = 0) = false := by simp; omega
    have e4 : -1 ≤ left - 1 := by omega
    have e5 : ¬ left - 1 < -1 := by omega
    rw [if_neg e2, e3]
    clear e3 e2
    go_enter Try.func35, Try.ntmps35
    go_wp2_with (go_at_call 51; refine hA.mono ?_; rintro e w' ⟨rfl, rfl⟩)
    go_ret
    have hb3 := Box.put HB.out 3 (.int .i64 (left - 1))
    simp only [List.setIfInBounds_toArray, List.set_cons_zero, List.set_cons_succ] at hb3
    refine ⟨by simp, by simpa using hb3, grown_set HG.out 3 _⟩

/-- A device of which the first block alone is turned. -/
theorem DevAt.turn {w w' : World} {K : Nat → Prop} {p gb : Nat} {ex : Nat × List Value} {v : Value} {D D' : Dv} (h : DevAt w K p gb ex v D) (hg : w.grownBy w' (some p)) (hb : Box w' p 80 (dc gb ex v D')) (e1 : D'.bs = D.bs) (e2 : D'.ws = D.ws) : DevAt w' K p gb ex v D' := by
  obtain ⟨h1, h2, h3, h4, h5, h6⟩ := h
  refine ⟨hb, ?_, ?_, h4, h5, h6⟩
  · rw [e1]
    refine Box.grown h2 hg (fun e => ?_)
    obtain rfl : gb = p := by injection e
    have := (show w.heap[gb]? = _ from h1).symm.trans h2
    simp at this
  · rw [e2]
    exact World.ownsRow.kept h3 hg (.inr (Box.apart h1 h3 (by decide)))
section
variable {w : World} {K : Nat → Prop} {p : Nat} {D : Dv}
theorem call_says (h : Dev w K p D) (ho : D.ops ≤ 100000) :
    Calls Try.prog 35 #[.pointer (some ⟨p, 0, none⟩)] w fun e w' => e = .returned (.bool (!D.call.down)) ∧ Dev w' K p D.call ∧ Touch K w w' := by
  obtain ⟨hk, gb, ex, v, hd⟩ := h
  refine (call_low w p _ _ _ _ _ hd.1 (by omega) (by omega) hk.low hk.high).mono ?_
  rintro e w' ⟨rfl, hb, hg⟩
  exact ⟨rfl, ⟨Dv.call_ok hk, gb, ex, v, hd.turn hg hb rfl rfl⟩, Touch.of_grown hg (fun k e => by injection e with e; rw [← e]; exact hd.2.2.2.1)⟩
set_option maxHeartbeats 1000000 in
theorem len_says (h : Dev w K p D) : Calls Try.prog 38 #[.pointer (some ⟨p, 0, none⟩)] w fun e w' => e = .returned (.int .i64 (D.bs.length : Int)) ∧ w' = w := by
  have hM := made_yes h
  obtain ⟨gb, C, h0⟩ := h.cell0
  clear h
  generalize D.bs.length = n at *
  go_enter Try.func38, Try.ntmps38
  go_wp2_with (go_at_call 33; refine hM.mono ?_; rintro e w' ⟨rfl, rfl⟩)
  go_ret
  exact ⟨rfl, rfl⟩
end
end Go.Proofs.Ythpfdenpgegheaa

