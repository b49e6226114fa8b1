/-
  A reader that nobody made: nil, or a plain In{}: it reads nothing. And the law that says so, walked.
-/
import Derived.Test.YteabpbmecdenjaaOne
namespace Go.Proofs.Yteabpbmecdenjaa
open Go.RowKit

/-- Nil, or a plain In{}. -/
def Nob (w : World) (p : Value) : Prop := p = .pointer none ∨ ∃ b, p = .pointer (some ⟨b, 0, none⟩) ∧ w.cell? ⟨b, 0, none⟩ = some (.bool false) ∧ w.cell? ⟨b, 1, none⟩ = some (.string ByteArray.empty)

theorem bad_no {w : World} {p : Value} (h : Nob w p) : Calls Try.prog 23 #[p] w fun r w' => r = .returned (.int .i64 1) ∧ w = w' := by
  rcases h with rfl | ⟨b, rfl, h0, h1⟩
  · go_enter Try.func23, Try.ntmps23
    go_wp2
    go_ret
    exact ⟨rfl, rfl⟩
  · go_enter Try.func23, Try.ntmps23
    go_wp2
    go_ret
    exact ⟨rfl, rfl⟩

theorem left_no {w : World} {p : Value} (h : Nob w p) : Calls Try.prog 22 #[p] w fun r w' => r = .returned (.int .i64 0) ∧ w = w' := by
  rcases h with rfl | ⟨b, rfl, h0, h1⟩
  · go_enter Try.func22, Try.ntmps22
    go_wp2
    go_ret
    exact ⟨rfl, rfl⟩
  · go_enter Try.func22, Try.ntmps22
    go_wp2
    go_ret
    exact ⟨rfl, rfl⟩

theorem number_no {w : World} {p : Value} (h : Nob w p) : Calls Try.prog 15 #[p] w fun r w' => r = .returned (.int .u64 0) ∧ w = w' := by
  have hb := Lib.hid (bad_no h)
  clear h
  go_enter Try.func15, Try.ntmps15
  go_wp2_with fail
  refine hb.out.mono ?_
  rintro r w' ⟨rfl, rfl⟩
  go_wp2_with fail
  go_ret
  exact ⟨rfl, rfl⟩

theorem small_no {w : World} {p : Value} (h : Nob w p) (n : Int) : Calls Try.prog 17 #[p, .int .i64 n] w fun r w' => r = .returned (.int .i64 0) ∧ w = w' := by
  have hn := Lib.hid (number_no h)
  have hb := Lib.hid (bad_no h)
  clear h
  go_enter Try.func17, Try.ntmps17
  go_wp2_with fail
  refine hn.out.mono ?_
  rintro r w' ⟨rfl, rfl⟩
  go_wp2_with fail
  refine hb.out.mono ?_
  rintro r w' ⟨rfl, rfl⟩
  go_wp2_with fail
  go_ret
  exact ⟨rfl, rfl⟩

theorem raw_no {w : World} {p : Value} (h : Nob w p) (n : Int) : Calls Try.prog 21 #[p, .int .i64 n] w fun r w' => r = .returned (.string ByteArray.empty) ∧ w = w' := by
  have hb := Lib.hid (bad_no h)
  clear h
  go_enter Try.func21, Try.ntmps21
  go_wp2_with fail
  refine hb.out.mono ?_
  rintro r w' ⟨rfl, rfl⟩
  go_wp2_with fail
  go_ret
  exact ⟨rfl, rfl⟩

theorem text_no {w : World} {p : Value} (h : Nob w p) (n : Int) : Calls Try.prog 19 #[p, .int .i64 n] w fun r w' => r = .returned (.string ByteArray.empty) ∧ w = w' := by
  have hs := Lib.hid (small_no h n)
  have hr := Lib.hid (raw_no h 0)
  clear h
  go_enter Try.func19, Try.ntmps19
  go_wp2_with fail
  refine hs.out.mono ?_
  rintro r w' ⟨rfl, rfl⟩
  go_wp2_with fail
  refine hr.out.mono ?_
  rintro r w' ⟨rfl, rfl⟩
  go_wp2_with fail
  go_ret
  exact ⟨rfl, rfl⟩

theorem end_no {w : World} {p : Value} (h : Nob w p) : Calls Try.prog 24 #[p] w fun r w' => r = .returned (.int .i64 1) ∧ w = w' := by
  have hb := Lib.hid (bad_no h)
  clear h
  go_enter Try.func24, Try.ntmps24
  go_wp2_with fail
  refine hb.out.mono ?_
  rintro r w' ⟨rfl, rfl⟩
  go_wp2_with fail
  go_ret
  exact ⟨rfl, rfl⟩

theorem nob_new (w : World) : Nob (w.alloc (.cells #[.bool false, .string ByteArray.empty, .int .i64 0] 55)) (.pointer (some ⟨w.heap.size, 0, none⟩)) :=
  .inr ⟨w.heap.size, rfl, Box.cell (Box.made w _ _) 0, Box.cell (Box.made w _ _) 1⟩
theorem nob_nil (w : World) : Nob w (.pointer none) := .inl rfl

theorem nobody_walk (n : Int) (w : World) : Calls Try.prog 7 #[.int .i64 n] w fun r w' => r = .returned (.bool true) ∧ Below w.heap.size w w' := by
  go_enter Try.func7, Try.ntmps7
  go_wp2_with fail
  go_loopw [3] (fun i wr => ∃ k : Nat, k ≤ 2 ∧ i = .int .i64 (k : Int) ∧ Below w.heap.size w wr) (fun i _ => 2 - (intOf i).toNat)
  case atStart => exact ⟨0, by omega, rfl, Below.refl _ _⟩
  case round =>
    obtain ⟨k, hk, rfl, hbel⟩ := hrel
    match k, hk with
    | 0, _ =>
      go_wp2_with fail
      refine (number_no (nob_new wr)).mono ?_
      rintro r w' ⟨rfl, rfl⟩
      go_wp2_with fail
      refine (small_no (nob_new wr) n).mono ?_
      rintro r w' ⟨rfl, rfl⟩
      go_wp2_with fail
      refine (text_no (nob_new wr) n).mono ?_
      rintro r w' ⟨rfl, rfl⟩
      go_wp2_with fail
      refine (raw_no (nob_new wr) n).mono ?_
      rintro r w' ⟨rfl, rfl⟩
      go_wp2_with fail
      refine (left_no (nob_new wr)).mono ?_
      rintro r w' ⟨rfl, rfl⟩
      go_wp2_with fail
      refine (bad_no (nob_new wr)).mono ?_
      rintro r w' ⟨rfl, rfl⟩
      go_wp2_with fail
      refine (end_no (nob_new wr)).mono ?_
      rintro r w' ⟨rfl, rfl⟩
      go_wp2_with fail
      go_roundw
      case rel => exact ⟨1, by omega, by go_num, hbel.alloc hbel.size _⟩
      case measure => simp [intOf]
    | 1, _ =>
      go_wp2_with fail
      refine (number_no (nob_nil _)).mono ?_
      rintro r w' ⟨rfl, rfl⟩
      go_wp2_with fail
      refine (small_no (nob_nil _) n).mono ?_
      rintro r w' ⟨rfl, rfl⟩
      go_wp2_with fail
      refine (text_no (nob_nil _) n).mono ?_
      rintro r w' ⟨rfl, rfl⟩
      go_wp2_with fail
      refine (raw_no (nob_nil _) n).mono ?_
      rintro r w' ⟨rfl, rfl⟩
      go_wp2_with fail
      refine (left_no (nob_nil _)).mono ?_
      rintro r w' ⟨rfl, rfl⟩
      go_wp2_with fail
      refine (bad_no (nob_nil _)).mono ?_
      rintro r w' ⟨rfl, rfl⟩
      go_wp2_with fail
      refine (end_no (nob_nil _)).mono ?_
      rintro r w' ⟨rfl, rfl⟩
      go_wp2_with fail
      go_roundw
      case rel => exact ⟨2, by omega, by go_num, hbel.alloc hbel.size _⟩
      case measure => simp [intOf]
    | 2, _ =>
      go_wp2_with fail
      refine (one_any wr).mono ?_
      rintro r w1 ⟨rfl, hb1⟩
      go_wp2_with fail
      go_ret
      exact ⟨rfl, hbel.trans (hb1.mono hbel.size)⟩
end Go.Proofs.Yteabpbmecdenjaa
