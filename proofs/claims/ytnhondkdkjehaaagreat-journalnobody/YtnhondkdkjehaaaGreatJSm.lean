/-
  The journal's small calls, over a log that lies, over a bare one, and over none.
-/
import Derived.Test.YtnhondkdkjehaaaGreatSaveS
namespace Go.Proofs.YtnhondkdkjehaaaGreat
open Go.RowKit

set_option linter.unusedVariables false
set_option linter.unusedSimpArgs false
/-- A log's own numbers. -/
structure Lg where
  h : Hd
  used : Nat
  seq : Nat
  down : Bool
/-- What they keep to. -/
structure Lg.Ok (L : Lg) : Prop where
  log0 : 3 ≤ L.h.log
  log1 : L.h.log ≤ 4096
  pos0 : 0 ≤ L.h.pos
  pos1 : L.h.pos < L.h.log
  used : (L.used : Int) ≤ L.h.log
  seq : L.seq < 18446744073709551616
  up : L.down = false
/-- Its eleven cells. -/
def lc (dp : Nat) (u : Value × Value) (L : Lg) : Array Value := #[.pointer (some ⟨dp, 0, none⟩), .int .u64 (L.h.gen : Int), .int .u64 (L.h.epoch : Int), .int .i64 L.h.pos, .int .u64 (L.h.seq : Int), .int .i64 L.h.log, .int .i64 (L.used : Int), .int .u64 (L.seq : Int), u.1, u.2, .bool L.down]
theorem lc_size (dp : Nat) (u : Value × Value) (L : Lg) : (lc dp u L).size = 11 := rfl
theorem lgInfo : (Tryz.prog.info? 81).map (·.size) = some 11 := by kernel_rfl
section
variable {w : World} {p : Nat}
theorem jmade_nil (w : World) : Calls Tryz.prog 48 #[.pointer none] w fun e w' => e = .returned (.bool false) ∧ w' = w := by
  go_enter Tryz.func48, Tryz.ntmps48
  go_wp2
  go_ret
  exact ⟨rfl, rfl⟩
theorem jmade_zero (h0 : w.cell? ⟨p, 0, none⟩ = some (.pointer none)) : Calls Tryz.prog 48 #[.pointer (some ⟨p, 0, none⟩)] w fun e w' => e = .returned (.bool false) ∧ w' = w := by
  go_enter Tryz.func48, Tryz.ntmps48
  go_wp2
  go_ret
  exact ⟨rfl, rfl⟩
theorem jmade_yes {dp : Nat} (h0 : w.cell? ⟨p, 0, none⟩ = some (.pointer (some ⟨dp, 0, none⟩))) : Calls Tryz.prog 48 #[.pointer (some ⟨p, 0, none⟩)] w fun e w' => e = .returned (.bool true) ∧ w' = w := by
  go_enter Tryz.func48, Tryz.ntmps48
  go_wp2
  go_ret
  exact ⟨rfl, rfl⟩
/-- 'nobody made it': a nil pointer, or a log of zeros. -/
def Nobody (w : World) (v : Value) : Prop := v = .pointer none ∨ ∃ p, v = .pointer (some ⟨p, 0, none⟩) ∧ w.cell? ⟨p, 0, none⟩ = some (.pointer none)
theorem jmade_no {v : Value} (h : Nobody w v) : Calls Tryz.prog 48 #[v] w fun e w' => e = .returned (.bool false) ∧ w' = w := by
  rcases h with rfl | ⟨p, rfl, h0⟩
  · exact jmade_nil w
  · exact jmade_zero h0
theorem jhome_no {v : Value} (h : Nobody w v) : Calls Tryz.prog 13 #[v] w fun e w' => e = .returned (.int .i64 0) ∧ w' = w := by
  have HM := jmade_no h
  clear h
  go_enter Tryz.func13, Tryz.ntmps13
  go_wp2_with (go_at_call 48; refine HM.mono ?_; rintro e w' ⟨rfl, rfl⟩)
  go_ret
  exact ⟨rfl, rfl⟩
theorem jused_no {v : Value} (h : Nobody w v) : Calls Tryz.prog 16 #[v] w fun e w' => e = .returned (.int .i64 0) ∧ w' = w := by
  have HM := jmade_no h
  clear h
  go_enter Tryz.func16, Tryz.ntmps16
  go_wp2_with (go_at_call 48; refine HM.mono ?_; rintro e w' ⟨rfl, rfl⟩)
  go_ret
  exact ⟨rfl, rfl⟩
theorem jseq_no {v : Value} (h : Nobody w v) : Calls Tryz.prog 17 #[v] w fun e w' => e = .returned (.int .u64 0) ∧ w' = w := by
  have HM := jmade_no h
  clear h
  go_enter Tryz.func17, Tryz.ntmps17
  go_wp2_with (go_at_call 48; refine HM.mono ?_; rintro e w' ⟨rfl, rfl⟩)
  go_ret
  exact ⟨rfl, rfl⟩
theorem jepoch_no {v : Value} (h : Nobody w v) : Calls Tryz.prog 18 #[v] w fun e w' => e = .returned (.int .u64 0) ∧ w' = w := by
  have HM := jmade_no h
  clear h
  go_enter Tryz.func18, Tryz.ntmps18
  go_wp2_with (go_at_call 48; refine HM.mono ?_; rintro e w' ⟨rfl, rfl⟩)
  go_ret
  exact ⟨rfl, rfl⟩
theorem jdown_no {v : Value} (h : Nobody w v) : Calls Tryz.prog 19 #[v] w fun e w' => e = .returned (.bool false) ∧ w' = w := by
  have HM := jmade_no h
  clear h
  go_enter Tryz.func19, Tryz.ntmps19
  go_wp2_with (go_at_call 48; refine HM.mono ?_; rintro e w' ⟨rfl, rfl⟩)
  go_ret
  exact ⟨rfl, rfl⟩
theorem jstate_no {v : Value} (h : Nobody w v) : Calls Tryz.prog 39 #[v] w fun e w' => e = .returned (.int .i64 1) ∧ w' = w := by
  have HM := jmade_no h
  clear h
  go_enter Tryz.func39, Tryz.ntmps39
  go_wp2_with (go_at_call 48; refine HM.mono ?_; rintro e w' ⟨rfl, rfl⟩)
  go_ret
  exact ⟨rfl, rfl⟩
theorem jread_no {v : Value} (h : Nobody w v) (n : Int) : Calls Tryz.prog 23 #[v, .int .i64 n] w fun e w' => e = .returned (.tuple #[.slice none 0 0, .int .i64 1]) ∧ w' = w := by
  have HM := jstate_no h
  clear h
  go_enter Tryz.func23, Tryz.ntmps23
  go_wp2_with (go_at_call 39; refine HM.mono ?_; rintro e w' ⟨rfl, rfl⟩)
  go_ret2
  exact ⟨rfl, rfl⟩
theorem jcommit_no {v : Value} (h : Nobody w v) (u : Value) : Calls Tryz.prog 15 #[v, u] w fun e w' => e = .returned (.int .i64 1) ∧ w' = w := by
  have HM := jstate_no h
  clear h
  go_enter Tryz.func15, Tryz.ntmps15
  go_wp2_with (go_at_call 39; refine HM.mono ?_; rintro e w' ⟨rfl, rfl⟩)
  go_ret
  exact ⟨rfl, rfl⟩
theorem jsettle_no {v : Value} (h : Nobody w v) : Calls Tryz.prog 10 #[v] w fun e w' => e = .returned (.int .i64 1) ∧ w' = w := by
  have HM := jstate_no h
  clear h
  go_enter Tryz.func10, Tryz.ntmps10
  go_wp2_with (go_at_call 39; refine HM.mono ?_; rintro e w' ⟨rfl, rfl⟩)
  go_ret
  exact ⟨rfl, rfl⟩
end
section
variable {w : World} {p dp : Nat} {K : Nat → Prop} {D : Dv} {L : Lg} {u : Value × Value}
theorem jblock_says (hb : Box w p 81 (lc dp u L)) (hl : 0 ≤ L.h.log ∧ L.h.log ≤ 4096) (i : Int) (hi : -9223372036854775808 ≤ i ∧ i ≤ 1000000) :
    Calls Tryz.prog 50 #[.pointer (some ⟨p, 0, none⟩), .int .i64 i] w fun e w' => e = .returned (.int .i64 (2 + L.h.log + i)) ∧ w' = w := by
  have c5 : w.cell? ⟨p, 5, none⟩ = some (.int .i64 L.h.log) := (Box.cell hb 5).trans rfl
  obtain ⟨h1, h2⟩ := hl
  obtain ⟨h3, h4⟩ := hi
  clear hb
  generalize L.h.log = lg at *
  have q1 : IntKind.i64.wrap (2 + lg) = 2 + lg := IntWalk.i64_in _ (by omega)
  have q2 : IntKind.i64.wrap (2 + lg + i) = 2 + lg + i := IntWalk.i64_in _ (by omega)
  go_enter Tryz.func50, Tryz.ntmps50
  go_wp2
  go_ret
  exact ⟨rfl, rfl⟩
/-- How many blocks for use there are. -/
def homeOf (D : Dv) (L : Lg) : Int := (D.bs.length : Int) - (2 + L.h.log)
theorem jhome_says (hb : Box w p 81 (lc dp u L)) (hl : 0 ≤ L.h.log ∧ L.h.log ≤ 4096) (hd : Dev w K dp D) :
    Calls Tryz.prog 13 #[.pointer (some ⟨p, 0, none⟩)] w fun e w' => e = .returned (.int .i64 (homeOf D L)) ∧ w' = w := by
  have c0 : w.cell? ⟨p, 0, none⟩ = some (.pointer (some ⟨dp, 0, none⟩)) := (Box.cell hb 0).trans rfl
  have HM := Lib.hid (jmade_yes c0)
  have HL := Lib.hid (len_says hd)
  have HB := Lib.hid (jblock_says hb hl 0 (by omega))
  have hm := hd.1.most
  obtain ⟨h1, h2⟩ := hl
  rw [Int.add_zero] at HB
  unfold homeOf
  clear hb hd
  generalize L.h.log = lg at *
  generalize D.bs.length = n at *
  have q1 : IntKind.i64.wrap ((n : Int) - (2 + lg)) = (n : Int) - (2 + lg) := IntWalk.i64_in _ (by omega)
  go_enter Tryz.func13, Tryz.ntmps13
  go_wp2_with (first
    | (go_at_call 48; refine HM.out.mono ?_; rintro e w' ⟨rfl, rfl⟩)
    | (go_at_call 49; refine HL.out.mono ?_; rintro e w' ⟨rfl, rfl⟩)
    | (go_at_call 50; refine HB.out.mono ?_; rintro e w' ⟨rfl, rfl⟩))
  go_ret
  exact ⟨rfl, rfl⟩
theorem jhas_says (hb : Box w p 81 (lc dp u L)) (hl : 0 ≤ L.h.log ∧ L.h.log ≤ 4096) (hd : Dev w K dp D) (i : Int) :
    Calls Tryz.prog 58 #[.pointer (some ⟨p, 0, none⟩), .int .i64 i] w fun e w' => e = .returned (.bool (decide (0 ≤ i ∧ i < homeOf D L))) ∧ w' = w := by
  have HH := Lib.hid (jhome_says hb hl hd)
  clear hb hd hl
  generalize homeOf D L = m at *
  go_enter Tryz.func58, Tryz.ntmps58
  by_cases h1 : i ≥ 0
  · by_cases h2 : i < m
    · rw [decide_eq_true (And.intro h1 h2)]
      go_wp2_with (go_at_call 13; refine HH.out.mono ?_; rintro e w' ⟨rfl, rfl⟩)
      go_ret
      exact ⟨rfl, rfl⟩
    · rw [decide_eq_false (fun h => h2 h.2)]
      have h3 : decide (i < m) = false := by simpa using h2
      go_wp2_with (go_at_call 13; refine HH.out.mono ?_; rintro e w' ⟨rfl, rfl⟩)
      go_ret
      exact ⟨rfl, rfl⟩
  · rw [decide_eq_false (fun h => h1 h.1)]
    go_wp2
    go_ret
    exact ⟨rfl, rfl⟩
theorem jused_says (hb : Box w p 81 (lc dp u L)) :
    Calls Tryz.prog 16 #[.pointer (some ⟨p, 0, none⟩)] w fun e w' => e = .returned (.int .i64 (L.used : Int)) ∧ w' = w := by
  have c0 : w.cell? ⟨p, 0, none⟩ = some (.pointer (some ⟨dp, 0, none⟩)) := (Box.cell hb 0).trans rfl
  have c6 : w.cell? ⟨p, 6, none⟩ = some (.int .i64 (L.used : Int)) := (Box.cell hb 6).trans rfl
  have HM := Lib.hid (jmade_yes c0)
  clear hb c0
  go_enter Tryz.func16, Tryz.ntmps16
  go_wp2_with (go_at_call 48; refine HM.out.mono ?_; rintro e w' ⟨rfl, rfl⟩)
  go_ret
  exact ⟨rfl, rfl⟩
theorem jseq_says (hb : Box w p 81 (lc dp u L)) :
    Calls Tryz.prog 17 #[.pointer (some ⟨p, 0, none⟩)] w fun e w' => e = .returned (.int .u64 (L.seq : Int)) ∧ w' = w := by
  have c0 : w.cell? ⟨p, 0, none⟩ = some (.pointer (some ⟨dp, 0, none⟩)) := (Box.cell hb 0).trans rfl
  have c7 : w.cell? ⟨p, 7, none⟩ = some (.int .u64 (L.seq : Int)) := (Box.cell hb 7).trans rfl
  have HM := Lib.hid (jmade_yes c0)
  clear hb c0
  go_enter Tryz.func17, Tryz.ntmps17
  go_wp2_with (go_at_call 48; refine HM.out.mono ?_; rintro e w' ⟨rfl, rfl⟩)
  go_ret
  exact ⟨rfl, rfl⟩
theorem jepoch_says (hb : Box w p 81 (lc dp u L)) :
    Calls Tryz.prog 18 #[.pointer (some ⟨p, 0, none⟩)] w fun e w' => e = .returned (.int .u64 (L.h.epoch : Int)) ∧ w' = w := by
  have c0 : w.cell? ⟨p, 0, none⟩ = some (.pointer (some ⟨dp, 0, none⟩)) := (Box.cell hb 0).trans rfl
  have c2 : w.cell? ⟨p, 2, none⟩ = some (.int .u64 (L.h.epoch : Int)) := (Box.cell hb 2).trans rfl
  have HM := Lib.hid (jmade_yes c0)
  clear hb c0
  go_enter Tryz.func18, Tryz.ntmps18
  go_wp2_with (go_at_call 48; refine HM.out.mono ?_; rintro e w' ⟨rfl, rfl⟩)
  go_ret
  exact ⟨rfl, rfl⟩
/-- Of a log that is up, over a device that is up. -/
theorem jdown_says (hb : Box w p 81 (lc dp u L)) (hu : L.down = false) (hd : Dev w K dp D) (hD : D.down = false) :
    Calls Tryz.prog 19 #[.pointer (some ⟨p, 0, none⟩)] w fun e w' => e = .returned (.bool false) ∧ w' = w.setCell ⟨p, 10, none⟩ (.bool false) := by
  have c0 : w.cell? ⟨p, 0, none⟩ = some (.pointer (some ⟨dp, 0, none⟩)) := (Box.cell hb 0).trans rfl
  have c9 : w.cell? ⟨p, 10, none⟩ = some (.bool false) := (Box.cell hb 10).trans (by rw [← hu]; rfl)
  have f9 := Box.frozen hb 10
  have d9 : (w.setCell ⟨p, 10, none⟩ (.bool false)).cell? ⟨p, 10, none⟩ = some (.bool false) := (Box.cell (Box.put hb 10 (.bool false)) 10).trans rfl
  have HM := Lib.hid (jmade_yes c0)
  have HD := Lib.hid (down_says hd)
  rw [hD] at HD
  clear hb hd hD hu
  go_enter Tryz.func19, Tryz.ntmps19
  go_wp2_with (first
    | (go_at_call 48; refine HM.out.mono ?_; rintro e w' ⟨rfl, rfl⟩)
    | (go_at_call 56; refine HD.out.mono ?_; rintro e w' ⟨rfl, rfl⟩))
  go_ret
  exact ⟨rfl, rfl⟩
theorem jstate_says (hb : Box w p 81 (lc dp u L)) (hu : L.down = false) (hd : Dev w K dp D) (hD : D.down = false) :
    Calls Tryz.prog 39 #[.pointer (some ⟨p, 0, none⟩)] w fun e w' => e = .returned (.int .i64 0) ∧ w' = w.setCell ⟨p, 10, none⟩ (.bool false) := by
  have c0 : w.cell? ⟨p, 0, none⟩ = some (.pointer (some ⟨dp, 0, none⟩)) := (Box.cell hb 0).trans rfl
  have HM := Lib.hid (jmade_yes c0)
  have HD := Lib.hid (jdown_says hb hu hd hD)
  clear hb hd hD hu c0
  go_enter Tryz.func39, Tryz.ntmps39
  go_wp2_with (first
    | (go_at_call 48; refine HM.out.mono ?_; rintro e w' ⟨rfl, rfl⟩)
    | (go_at_call 19; refine HD.out.mono ?_; rintro e w' ⟨rfl, rfl⟩))
  go_ret
  exact ⟨rfl, rfl⟩
/-- The cell that tells whether it is down, as it was. -/
theorem box_up (hb : Box w p 81 (lc dp u L)) (hu : L.down = false) : Box (w.setCell ⟨p, 10, none⟩ (.bool false)) p 81 (lc dp u L) := by
  have := Box.put hb 10 (.bool false)
  simpa [lc, hu] using this
/-- An answer of the device handed on. -/
theorem jnoted_ok (hb : Box w p 81 (lc dp u L)) (hu : L.down = false) :
    Calls Tryz.prog 54 #[.pointer (some ⟨p, 0, none⟩), .int .i64 0] w fun e w' => e = .returned (.int .i64 0) ∧ w' = w.setCell ⟨p, 10, none⟩ (.bool false) := by
  have c9 : w.cell? ⟨p, 10, none⟩ = some (.bool false) := (Box.cell hb 10).trans (by rw [← hu]; rfl)
  have f9 := Box.frozen hb 10
  clear hb hu
  go_enter Tryz.func54, Tryz.ntmps54
  go_wp2
  go_ret
  exact ⟨rfl, rfl⟩
theorem jnoted_bad (hb : Box w p 81 (lc dp u L)) (hu : L.down = false) (x : Int) (hx : x ≠ 0) :
    Calls Tryz.prog 54 #[.pointer (some ⟨p, 0, none⟩), .int .i64 x] w fun e w' => e = .returned (.int .i64 x) ∧ w' = w.setCell ⟨p, 10, none⟩ (.bool true) := by
  have c9 : w.cell? ⟨p, 10, none⟩ = some (.bool false) := (Box.cell hb 10).trans (by rw [← hu]; rfl)
  have f9 := Box.frozen hb 10
  have hx' : (x != 0) = true := by simpa using hx
  clear hb hu
  go_enter Tryz.func54, Tryz.ntmps54
  go_wp2
  go_ret
  exact ⟨rfl, rfl⟩
/-- The mark of a place of the next transaction. -/
def Lg.mark (L : Lg) (kind : UInt8) (hs : L.seq < 18446744073709551616) : Mk := ⟨kind, L.h.epoch, L.seq, L.h.he, hs⟩
set_option maxRecDepth 100000 in
set_option maxHeartbeats 2000000 in
theorem jmark_says (hb : Box w p 81 (lc dp u L)) (kind : UInt8) (hs : L.seq < 18446744073709551616) :
    Calls Tryz.prog 108 #[.pointer (some ⟨p, 0, none⟩), .int .u8 (kind.toNat : Int)] w fun e w' => e = .returned (.agg (mv (L.mark kind hs))) ∧ Below w.heap.size w w' := by
  obtain ⟨w1, hw1⟩ : ∃ x, w.alloc (.cells #[.int .u8 0, .int .u64 0, .int .u64 0] 126) = x := ⟨_, rfl⟩
  have hbw1 : Below w.heap.size w w1 := by rw [← hw1]; exact (Below.refl _ w).alloc (Nat.le_refl _) _
  have hmw1 : Box w1 w.heap.size 126 (mv Mk.zero) := by rw [← hw1]; exact Box.made w _ _
  have hb1 := Box.below hb hbw1 hb.lt
  have c2 : w1.drew.cell? ⟨p, 2, none⟩ = some (.int .u64 (L.h.epoch : Int)) := (Box.cell hb1 2).trans rfl
  have c7 : w1.drew.cell? ⟨p, 7, none⟩ = some (.int .u64 (L.seq : Int)) := (Box.cell hb1 7).trans rfl
  obtain ⟨w2, hw2⟩ : ∃ x, w1.drew.setRow w.heap.size (mv (L.mark kind hs)) = x := ⟨_, rfl⟩
  have hmw2 : Box w2 w.heap.size 126 (mv (L.mark kind hs)) := by rw [← hw2]; exact setRow_heap _ _ _ _ _ _ hmw1
  have hbw2 : Below w.heap.size w w2 := hbw1.drew.trans (by rw [← hw2]; exact (Below.refl _ w1.drew).grown (grown_row (grown_refl _ (some w.heap.size)) _) hbw1.size (fun k e => by injection e with e; omega))
  have HMw1 := Lib.hid (show Box w1.drew w.heap.size 126 (mv Mk.zero) from hmw1)
  have HWw2 := Lib.hid hw2
  have e0 : w2.cell? ⟨w.heap.size, 0, none⟩ = some (.int .u8 (kind.toNat : Int)) := (Box.cell hmw2 0).trans rfl
  have e1 : w2.cell? ⟨w.heap.size, 1, none⟩ = some (.int .u64 (L.h.epoch : Int)) := (Box.cell hmw2 1).trans rfl
  have e2 : w2.cell? ⟨w.heap.size, 2, none⟩ = some (.int .u64 (L.seq : Int)) := (Box.cell hmw2 2).trans rfl
  have HB := Lib.hid hbw2
  clear hmw1 hmw2 hbw1 hbw2 hw2 hb hb1
  go_enter Tryz.func108, Tryz.ntmps108
  go_upto_region 1 with fail
  go_still_tail 11, (by kernel_rfl)
  change wpList _ _ _ _ _ w1.drew
  go_wp2_with (refine wpList_store_row rfl 126 _ _ rfl w.heap.size (mv (L.mark kind hs)) rfl rfl 126 _ HMw1.out (by rw [mv_size]; kernel_rfl) rfl (mv_one _) ?_; rw [HWw2.out])
  exact bodyPost_ret (v := .agg (mv (L.mark kind hs))) (by simp [results, Tryz.results108, go_sem, e0, e1, e2, mv, Lg.mark]) rfl ⟨rfl, HB.out⟩
/-- Where the place i behind those in use is. -/
def Lg.place (L : Lg) (i : Nat) : Nat := 2 + (L.h.pos.toNat + L.used + i) % L.h.log.toNat
theorem place_int (hL : L.Ok) (i : Nat) : (2 : Int) + (L.h.pos + L.used + i).tmod L.h.log = (L.place i : Int) := by
  obtain ⟨h1, h2, h3, h4, h5, h6, h7⟩ := hL
  have e1 : L.h.pos = (L.h.pos.toNat : Int) := by omega
  have e2 : L.h.log = (L.h.log.toNat : Int) := by omega
  unfold Lg.place
  have : (L.h.pos + L.used + i).tmod L.h.log = (((L.h.pos.toNat + L.used + i) % L.h.log.toNat : Nat) : Int) := by
    rw [Int.tmod_eq_emod_of_nonneg (by omega)]
    conv => lhs; rw [e1, e2]
    rw [Int.natCast_emod]
    simp
  omega
theorem jplace_says (hb : Box w p 81 (lc dp u L)) (hL : L.Ok) (i : Nat) (hi : i ≤ 1000000) :
    Calls Tryz.prog 85 #[.pointer (some ⟨p, 0, none⟩), .int .i64 (i : Int)] w fun e w' => e = .returned (.int .i64 (L.place i : Int)) ∧ Below w.heap.size w w' := by
  have c3 : ∀ q : Grows w, q.val.cell? ⟨p, 3, none⟩ = some (.int .i64 L.h.pos) := fun q => (q.prop.cell hb.lt).trans ((Box.cell hb 3).trans rfl)
  have c5 : ∀ q : Grows w, q.val.cell? ⟨p, 5, none⟩ = some (.int .i64 L.h.log) := fun q => (q.prop.cell hb.lt).trans ((Box.cell hb 5).trans rfl)
  have c6 : ∀ q : Grows w, q.val.cell? ⟨p, 6, none⟩ = some (.int .i64 (L.used : Int)) := fun q => (q.prop.cell hb.lt).trans ((Box.cell hb 6).trans rfl)
  have HP := Lib.hid (place_int hL i)
  obtain ⟨h1, h2, h3, h4, h5, h6, h7⟩ := hL
  clear hb h6 h7
  generalize L.h.pos = ps at *
  generalize L.h.log = lg at *
  generalize L.used = us at *
  generalize L.place i = pl at *
  have r0 : 0 ≤ (ps + us + i).tmod lg ∧ (ps + us + i).tmod lg < lg := ⟨Int.tmod_nonneg _ (by omega), Int.tmod_lt_of_pos _ (by omega)⟩
  have q1 : IntKind.i64.wrap (ps + us) = ps + us := IntWalk.i64_in _ (by omega)
  have q2 : IntKind.i64.wrap (ps + us + i) = ps + us + i := IntWalk.i64_in _ (by omega)
  have q3 : IntKind.i64.wrap ((ps + us + i).tmod lg) = (ps + us + i).tmod lg := IntWalk.i64_in _ (by omega)
  have q4 : IntKind.i64.wrap (2 + (ps + us + i).tmod lg) = 2 + (ps + us + i).tmod lg := IntWalk.i64_in _ (by omega)
  have q5 : lg ≠ 0 := by omega
  have q6 : (lg == 0) = false := by simp; omega
  go_enter Tryz.func85, Tryz.ntmps85
  go_upto_region 1 with fail
  refine wp_region_grows (by kernel_rfl) (by kernel_rfl) ?_
  iterate 20 quiet_step (fail)
  refine wpQuiet_nil ?_
  rintro wx ⟨⟨_, hwx⟩, rfl⟩
  go_wp2
  go_ret
  exact ⟨by rw [← HP.out]; rfl, hwx⟩
/-- The head that is saved once no place is to be in use any more. -/
def Lg.behind (L : Lg) (hL : L.Ok) (hg : L.h.gen < 18446744073709551615) : Hd := ⟨L.h.gen + 1, L.h.epoch, (((L.h.pos.toNat + L.used) % L.h.log.toNat : Nat) : Int), L.seq, L.h.log, by omega, L.h.he, hL.seq,
  ⟨by omega, by
    have h1 := hL.log0
    have h2 := hL.log1
    have := Nat.mod_lt (L.h.pos.toNat + L.used) (y := L.h.log.toNat) (by omega)
    omega⟩, L.h.hl⟩
end
end Go.Proofs.YtnhondkdkjehaaaGreat
