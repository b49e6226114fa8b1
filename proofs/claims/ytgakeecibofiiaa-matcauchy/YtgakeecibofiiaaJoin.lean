/-
  Join of package mat.
-/
import Derived.Test.YtgakeecibofiiaaRowsJ
namespace Go.Proofs.Ytgakeecibofiiaa
open Go.RowKit Go.Shelf

/-- Two that may be joined. -/
def joinOk (M O : List (List UInt8)) : Prop := RightM M ∧ RightM O ∧ colsOf M = colsOf O ∧ M.length + O.length ≤ 255
instance (M O : List (List UInt8)) : Decidable (joinOk M O) := by unfold joinOk; exact inferInstance
/-- What Join tells. -/
def joinR (M O : List (List UInt8)) : List (List UInt8) × Int := if joinOk M O then (M ++ O, 0) else ([], 2)
theorem rightG (w : World) (A : Option Addr) (n c : Nat) (M : List (List UInt8)) (hM : Mtx w A n c M) (hn : n ≤ 2000) (bb : Bool) (h : decide (RightM M) = bb) (q : Grows w) : Calls Try.prog 20 #[.slice A n c] q.val fun e w'' => e = .returned (.bool bb) ∧ ∃ p' : Grows w, w'' = p'.val := by
  have h1 := right_says q.val A n c M (hM.below q.prop) hn
  rw [h] at h1
  exact h1.mono fun _ w'' hh => ⟨hh.1, ⟨w'', q.prop.trans (hh.2.mono q.prop.size)⟩, rfl⟩
theorem countsG (w : World) (n : Nat) (bb : Bool) (h : decide (1 ≤ (n : Int) ∧ (n : Int) ≤ 255) = bb) (q : Grows w) : Calls Try.prog 40 #[.int .i64 (n : Int)] q.val fun e w'' => e = .returned (.bool bb) ∧ ∃ p' : Grows w, w'' = p'.val := by
  have h1 := counts_int (n : Int) q.val
  rw [h] at h1
  exact h1.mono fun _ w'' hh => ⟨hh.1, q, hh.2⟩

set_option maxRecDepth 100000 in
set_option maxHeartbeats 1500000 in
theorem join_says (w : World) (A : Option Addr) (n c : Nat) (M : List (List UInt8)) (hM : Mtx w A n c M) (hn : n ≤ 1000) (B : Option Addr) (m d : Nat) (O : List (List UInt8)) (hO : Mtx w B m d O) (hm : m ≤ 1000) : Calls Try.prog 28 #[.slice A n c, .slice B m d] w (GivesE w (joinR M O).1 (joinR M O).2) := by
  have hl := hM.len
  have hlo := hO.len
  obtain ⟨t, ht⟩ : ∃ t, n + m = t := ⟨_, rfl⟩
  have s3 : (n : Int) + (m : Int) = (t : Int) := by omega
  have s2 : IntKind.i64.wrap (t : Int) = (t : Int) := IntWalk.i64_in _ (by omega)
  by_cases h1 : RightM M
  · have k1 := rightG w A n c M hM (by omega) true (decide_eq_true h1)
    by_cases h2 : RightM O
    · have k2 := rightG w B m d O hO (by omega) true (decide_eq_true h2)
      have hn1 := h1.1
      have hm1 := h2.1
      have hn2 := h1.2.1
      have hm2 := h2.2.1
      obtain ⟨r0, hr0⟩ : ∃ r, M[0]? = some r := ⟨_, List.getElem?_eq_getElem (by omega)⟩
      obtain ⟨q0, hq0⟩ : ∃ r, O[0]? = some r := ⟨_, List.getElem?_eq_getElem (by omega)⟩
      obtain ⟨ba, oa, A0, c0, hA, hba, hca, _⟩ := hM.row hr0
      obtain ⟨bb, ob, B0, d0, hB, hbb, hcb, _⟩ := hO.row hq0
      subst hA hB
      rw [right_row h1 hr0, Nat.add_zero] at hca
      rw [right_row h2 hq0, Nat.add_zero] at hcb
      have k3 := grows_cell hca hba
      have k4 := grows_cell hcb hbb
      have hn0 : 0 < n := by omega
      have hm0 : 0 < m := by omega
      by_cases h3 : colsOf M = colsOf O
      · by_cases h4 : t ≤ 255
        · have k5 := countsG w t true (decide_eq_true (by omega))
          have F := Lib.hid (show joinR M O = (M ++ O, 0) from by rw [joinR, if_pos ⟨h1, h2, h3, by omega⟩])
          rw [← h3] at k4
          have HM := Lib.hid hM
          have HO := Lib.hid hO
          have HRL := Lib.hid (show ∀ r ∈ M ++ O, 1 ≤ r.length ∧ r.length ≤ 2000 from fun r hr => by
            rcases List.mem_append.1 hr with h | h
            · have := (h1.2.2 r h).2; omega
            · have := (h2.2.2 r h).2; omega)
          have HTL := Lib.hid (show (M ++ O).length = t from by rw [List.length_append]; omega)
          have ht2 : t ≤ 2000 := by omega
          generalize colsOf M = cl at k3 k4
          rw [F.out]
          clear h1 h2 h3 hr0 hq0 hca hcb hM hO
          go_enter Try.func28, Try.ntmps28
          go_wp2_with fail
          refine wp_region_grows (by kernel_rfl) (by kernel_rfl) ?_
          repeat (first
            | quiet_step (first | (go_at_call 20; with_reducible exact k1 _) | (go_at_call 20; with_reducible exact k2 _) | (go_at_call 40; exact k5 _)))
          refine wpQuiet_nil ?_
          rintro w2 ⟨⟨_, hw2⟩, rfl⟩
          rename_i w2
          have hbx := Box.made w2 26 #[.slice (some ⟨ba, oa, none⟩) n c, .slice (some ⟨bb, ob, none⟩) m d]
          have hal : Below w2.heap.size w2 (w2.alloc (.cells #[.slice (some ⟨ba, oa, none⟩) n c, .slice (some ⟨bb, ob, none⟩) m d] 26)) := (Below.refl _ w2).alloc (Nat.le_refl _) _
          have HCC := Lib.hid (concatM_says _ w2.heap.size _ _ n m c d M O (by exact (hbx.cell 0).trans rfl) (by exact (hbx.cell 1).trans rfl) hbx.lt ((HM.out.below hw2).below hal) ((HO.out.below hw2).below hal) (by omega) (by omega))
          have HW2 := Lib.hid (hw2.trans (hal.mono hw2.size))
          clear hw2 k1 k2 k3 k4 k5 hbx hal
          go_wp2_with (first
            | (go_at_call 51; refine HCC.out.mono ?_; rintro e w3 ⟨v3, rfl, ho3, hb3⟩; obtain ⟨A3, c3, hv3, hm3⟩ := ho3.mtx; rw [HTL.out] at hv3 hm3; subst hv3; have HM3 := Lib.hid hm3; have HB3 := Lib.hid (HW2.out.trans (hb3.mono HW2.out.size)); clear ho3 hm3 hb3)
            | (go_at_call 50; (with_reducible refine (copied_says w3 A3 t c3 _ HM3.out ht2 HRL.out).mono ?_); rintro e w4 ⟨A4, n4, c4, rfl, hm4, hb4⟩; have HR4 := Lib.hid (And.intro hm4 (HB3.out.trans (hb4.mono HB3.out.size))); clear hm4 hb4))
          go_ret2
          exact ⟨_, _, _, rfl, HR4.out⟩
        · have k5 := countsG w t false (decide_eq_false (by omega))
          have F := Lib.hid (show joinR M O = ([], 2) from by rw [joinR, if_neg (fun h => by have := h.2.2.2; omega)])
          rw [← h3] at k4
          generalize colsOf M = cl at k3 k4
          rw [F.out]
          clear h1 h2 h3 hr0 hq0 hca hcb hM hO
          go_enter Try.func28, Try.ntmps28
          go_wp2_with fail
          refine wp_region_grows (by kernel_rfl) (by kernel_rfl) ?_
          repeat (first
            | quiet_step (first | (go_at_call 20; with_reducible exact k1 _) | (go_at_call 20; with_reducible exact k2 _) | (go_at_call 40; exact k5 _)))
          refine wpQuiet_nil ?_
          rintro w2 ⟨⟨_, hw2⟩, rfl⟩
          have HW2 := Lib.hid hw2
          clear hw2 k1 k2 k3 k4 k5
          go_wp2
          go_ret2
          exact ⟨_, _, _, rfl, Mtx.nil _ _ _, HW2.out⟩
      · have F := Lib.hid (show joinR M O = ([], 2) from by rw [joinR, if_neg (fun h => h3 h.2.2.1)])
        have hne : ((colsOf M : Int) != (colsOf O : Int)) = true := by simp; omega
        generalize colsOf M = cl at k3 hne
        generalize colsOf O = co at k4 hne
        rw [F.out]
        clear h1 h2 h3 hr0 hq0 hca hcb hM hO
        go_enter Try.func28, Try.ntmps28
        go_wp2_with fail
        refine wp_region_grows (by kernel_rfl) (by kernel_rfl) ?_
        repeat (first
          | (with_reducible refine wpQuiet_no ?_ ?_; (· first | (go_simp; done) | (go_simp; simp [undef]; done)); simp only [Act.put, List.setIfInBounds_toArray, List.set_cons_zero, List.set_cons_succ])
          | quiet_step (first | (go_at_call 20; with_reducible exact k1 _) | (go_at_call 20; with_reducible exact k2 _)))
        refine wpQuiet_nil ?_
        rintro w2 ⟨⟨_, hw2⟩, rfl⟩
        have HW2 := Lib.hid hw2
        clear hw2 k1 k2 k3 k4
        go_wp2
        go_ret2
        exact ⟨_, _, _, rfl, Mtx.nil _ _ _, HW2.out⟩
    · have k2 := rightG w B m d O hO (by omega) false (decide_eq_false h2)
      have F := Lib.hid (show joinR M O = ([], 2) from by rw [joinR, if_neg (fun h => h2 h.2.1)])
      rw [F.out]
      clear h1 h2 hM hO
      go_enter Try.func28, Try.ntmps28
      go_wp2_with fail
      refine wp_region_grows (by kernel_rfl) (by kernel_rfl) ?_
      repeat (first
        | (with_reducible refine wpQuiet_no ?_ ?_; (· first | (go_simp; done) | (go_simp; simp [undef]; done)); simp only [Act.put, List.setIfInBounds_toArray, List.set_cons_zero, List.set_cons_succ])
        | quiet_step (first | (go_at_call 20; with_reducible exact k1 _) | (go_at_call 20; with_reducible exact k2 _)))
      refine wpQuiet_nil ?_
      rintro w2 ⟨⟨_, hw2⟩, rfl⟩
      have HW2 := Lib.hid hw2
      clear hw2 k1 k2
      go_wp2
      go_ret2
      exact ⟨_, _, _, rfl, Mtx.nil _ _ _, HW2.out⟩
  · have k1 := rightG w A n c M hM (by omega) false (decide_eq_false h1)
    have F := Lib.hid (show joinR M O = ([], 2) from by rw [joinR, if_neg (fun h => h1 h.1)])
    rw [F.out]
    clear h1 hM hO
    go_enter Try.func28, Try.ntmps28
    go_wp2_with fail
    refine wp_region_grows (by kernel_rfl) (by kernel_rfl) ?_
    repeat (first
      | (with_reducible refine wpQuiet_no ?_ ?_; (· first | (go_simp; done) | (go_simp; simp [undef]; done)); simp only [Act.put, List.setIfInBounds_toArray, List.set_cons_zero, List.set_cons_succ])
      | quiet_step (first | (go_at_call 20; with_reducible exact k1 _)))
    refine wpQuiet_nil ?_
    rintro w2 ⟨⟨_, hw2⟩, rfl⟩
    have HW2 := Lib.hid hw2
    clear hw2 k1
    go_wp2
    go_ret2
    exact ⟨_, _, _, rfl, Mtx.nil _ _ _, HW2.out⟩
end Go.Proofs.Ytgakeecibofiiaa
