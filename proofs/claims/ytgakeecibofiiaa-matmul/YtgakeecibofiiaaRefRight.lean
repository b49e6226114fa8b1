/-
  The reference's Right and Same.
-/
import Derived.Test.YtgakeecibofiiaaMtx
import Derived.Test.YtgakeecibofiiaaRefInv
import Derived.BigQuiet
namespace Go.Proofs.Ytgakeecibofiiaa
open Go.RowKit

/-- A row that may be, beside a first one of so many numbers. -/
def rowOk (m : Nat) (r : List UInt8) : Prop := r.length = m ∧ 1 ≤ r.length ∧ r.length ≤ 255
/-- A matrix that is right. -/
def RightM (M : List (List UInt8)) : Prop := 1 ≤ M.length ∧ M.length ≤ 255 ∧ ∀ r ∈ M, rowOk (M.headD []).length r
instance (M : List (List UInt8)) : Decidable (RightM M) := by unfold RightM rowOk; exact inferInstance

theorem grows_cell {w : World} {p : Addr} {v : Value} (h : w.cell? p = some v) (hb : p.block < w.heap.size) (q : Grows w) : q.val.cell? p = some v := (q.prop.cell hb).trans h

set_option maxRecDepth 100000 in
set_option maxHeartbeats 2000000 in
theorem rright_says (w : World) (A : Option Addr) (n c : Nat) (M : List (List UInt8)) (hM : Mtx w A n c M) : Calls Try.prog 13 #[.slice A n c] w fun e w' => e = .returned (.bool (decide (RightM M))) ∧ Below w.heap.size w w' := by
  have hl := hM.len
  have HM := Lib.hid hM
  clear hM
  by_cases h1 : n < 1
  · have h1' : (n : Int) < 1 := by omega
    have HRES := Lib.hid (show decide (RightM M) = false from decide_eq_false (fun h => by have := h.1; omega))
    go_enter Try.func13, Try.ntmps13
    go_wp2
    go_ret
    refine ⟨?_, Below.refl _ _⟩
    rw [HRES.out]
    rfl
  have h1' : ¬ (n : Int) < 1 := by omega
  by_cases h2 : 255 < n
  · have h2' : (255 : Int) < (n : Int) := by omega
    have HRES := Lib.hid (show decide (RightM M) = false from decide_eq_false (fun h => by have := h.2.1; omega))
    go_enter Try.func13, Try.ntmps13
    go_wp2
    go_ret
    refine ⟨?_, Below.refl _ _⟩
    rw [HRES.out]
    rfl
  have h2' : ¬ (255 : Int) < (n : Int) := by omega
  have hp0 : 0 < n := by omega
  have hp0' : (0 : Int) < (n : Int) := by omega
  obtain ⟨r0, hr0⟩ : ∃ r, M[0]? = some r := ⟨_, List.getElem?_eq_getElem (by omega)⟩
  have hhd : M.headD [] = r0 := by
    cases M with
    | nil => simp at hr0
    | cons a t => simpa using hr0
  obtain ⟨b, off, A0, c0, hA, hb, hc0, _⟩ := HM.out.row hr0
  subst hA
  go_enter Try.func13, Try.ntmps13
  go_wp2_with fail
  go_loopw [3] (fun i wr => ∃ k : Nat, k ≤ n ∧ i = .int .i64 (k : Int) ∧ Hid ((∀ r ∈ M.take k, rowOk r0.length r) ∧ Below w.heap.size w wr)) (fun i _ => n - (intOf i).toNat)
  case atStart => exact ⟨0, by omega, rfl, Lib.hid ⟨by simp, Below.refl _ _⟩⟩
  case round =>
    obtain ⟨k, hk, rfl, H⟩ := hrel
    by_cases hlt : k < n
    · have l1 : (k : Int) < (n : Int) := by omega
      obtain ⟨r, hr⟩ : ∃ r, M[k]? = some r := ⟨_, List.getElem?_eq_getElem (by omega)⟩
      obtain ⟨b', off', Ak, ck, hA, _, hck, _⟩ := HM.out.row hr
      obtain ⟨rfl, rfl⟩ : b = b' ∧ off = off' := by
        injection hA with hA
        injection hA with h1 h2
        exact ⟨h1, h2⟩
      have hb2 : b < wr.heap.size := Nat.lt_of_lt_of_le hb H.out.2.size
      have hc1 := grows_cell ((H.out.2.cell (p := ⟨b, off + k, none⟩) hb).trans hck) hb2
      have hc2 := grows_cell ((H.out.2.cell (p := ⟨b, off + 0, none⟩) hb).trans hc0) hb2
      have HIN := Lib.hid (show r ∈ M from List.mem_of_getElem? hr)
      have HRK := Lib.hid hr
      have HHD := Lib.hid hhd
      obtain ⟨lr, hlr⟩ : ∃ t, r.length = t := ⟨_, rfl⟩
      obtain ⟨l0, hl0⟩ : ∃ t, r0.length = t := ⟨_, rfl⟩
      rw [hlr] at hc1
      rw [hl0] at hc2
      have HLR := Lib.hid (And.intro hlr hl0)
      clear hck hr hlr hl0 hA
      rw [Nat.add_zero] at hc2
      by_cases e1 : lr = l0
      · subst e1
        by_cases e2 : lr < 1
        · have e2' : (lr : Int) < 1 := by omega
          have HRES := Lib.hid (show decide (RightM M) = false from decide_eq_false (fun h => by have := (h.2.2 r HIN.out).2.1; have := HLR.out.1; omega))
          go_wp2_with fail
          refine wp_region_grows (by kernel_rfl) (by kernel_rfl) ?_
          repeat (first
            | (with_reducible refine wpQuiet_no ?_ ?_; (· first | (go_simp; done) | (go_simp; simp [undef]; done)); simp only [Act.put, List.setIfInBounds_toArray, List.set_cons_zero, List.set_cons_succ])
            | quiet_step (fail))
          refine wpQuiet_nil ?_
          rintro w2 ⟨⟨_, hw2⟩, rfl⟩
          have HW := Lib.hid (H.out.2.trans (hw2.mono H.out.2.size))
          clear hw2 hc1 hc2
          go_wp2
          go_ret
          refine ⟨?_, HW.out⟩
          rw [HRES.out]
          rfl
        · have e2' : ¬ (lr : Int) < 1 := by omega
          by_cases e3 : 255 < lr
          · have e3' : (255 : Int) < (lr : Int) := by omega
            have HRES := Lib.hid (show decide (RightM M) = false from decide_eq_false (fun h => by have := (h.2.2 r HIN.out).2.2; have := HLR.out.1; omega))
            go_wp2_with fail
            refine wp_region_grows (by kernel_rfl) (by kernel_rfl) ?_
            repeat (first
              | (with_reducible refine wpQuiet_no ?_ ?_; (· first | (go_simp; done) | (go_simp; simp [undef]; done)); simp only [Act.put, List.setIfInBounds_toArray, List.set_cons_zero, List.set_cons_succ])
              | quiet_step (fail))
            refine wpQuiet_nil ?_
            rintro w2 ⟨⟨_, hw2⟩, rfl⟩
            have HW := Lib.hid (H.out.2.trans (hw2.mono H.out.2.size))
            clear hw2 hc1 hc2
            go_wp2
            go_ret
            refine ⟨?_, HW.out⟩
            rw [HRES.out]
            rfl
          · have e3' : ¬ (255 : Int) < (lr : Int) := by omega
            go_wp2_with fail
            refine wp_region_grows (by kernel_rfl) (by kernel_rfl) ?_
            repeat (first
              | (with_reducible refine wpQuiet_no ?_ ?_; (· first | (go_simp; done) | (go_simp; simp [undef]; done)); simp only [Act.put, List.setIfInBounds_toArray, List.set_cons_zero, List.set_cons_succ])
              | quiet_step (fail))
            refine wpQuiet_nil ?_
            rintro w2 ⟨⟨_, hw2⟩, rfl⟩
            have HW := Lib.hid (H.out.2.trans (hw2.mono H.out.2.size))
            clear hw2 hc1 hc2
            go_wp2
            go_roundw
            case rel =>
              refine ⟨k + 1, by omega, by go_num, Lib.hid ⟨fun q hq => ?_, HW.out⟩⟩
              rw [List.take_add_one, HRK.out] at hq
              rcases List.mem_append.1 hq with hq | hq
              · exact H.out.1 q hq
              · have e : q = r := by simpa using hq
                have h5 := HLR.out
                rw [e]
                exact ⟨by omega, by omega, by omega⟩
            case measure => simp [intOf]; omega
      · have e1' : ((lr : Int) != (l0 : Int)) = true := by simp; omega
        have HRES := Lib.hid (show decide (RightM M) = false from decide_eq_false (fun h => by have h5 := (h.2.2 r HIN.out).1; rw [HHD.out] at h5; have := HLR.out; omega))
        go_wp2_with fail
        refine wp_region_grows (by kernel_rfl) (by kernel_rfl) ?_
        repeat (first
          | (with_reducible refine wpQuiet_no ?_ ?_; (· first | (go_simp; done) | (go_simp; simp [undef]; done)); simp only [Act.put, List.setIfInBounds_toArray, List.set_cons_zero, List.set_cons_succ])
          | quiet_step (fail))
        refine wpQuiet_nil ?_
        rintro w2 ⟨⟨_, hw2⟩, rfl⟩
        have HW := Lib.hid (H.out.2.trans (hw2.mono H.out.2.size))
        clear hw2 hc1 hc2
        go_wp2
        go_ret
        refine ⟨?_, HW.out⟩
        rw [HRES.out]
        rfl
    · obtain rfl : k = n := by omega
      have l1 : ¬ (k : Int) < (k : Int) := by omega
      have HRES := Lib.hid (show decide (RightM M) = true from decide_eq_true ⟨by omega, by omega, fun r hr => by
        rw [hhd]
        exact H.out.1 r (by rw [List.take_of_length_le (by omega)]; exact hr)⟩)
      go_wp2
      go_ret
      refine ⟨?_, H.out.2⟩
      rw [HRES.out]
      rfl
end Go.Proofs.Ytgakeecibofiiaa
