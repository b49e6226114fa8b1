/-
  The reference's Same.
-/
import Derived.Test.YtgakeecibofiiaaRefRight
namespace Go.Proofs.Ytgakeecibofiiaa
open Go.RowKit

theorem str_ne {l m : List UInt8} (h : l ≠ m) : ((⟨l.toArray⟩ : ByteArray).toList == (⟨m.toArray⟩ : ByteArray).toList) = false := by simpa [ByteArray.toList_eq] using h

set_option maxRecDepth 100000 in
set_option maxHeartbeats 2000000 in
theorem rsameM_says (w : World) (A : Option Addr) (n c : Nat) (M : List (List UInt8)) (hM : Mtx w A n c M) (B : Option Addr) (m d : Nat) (N : List (List UInt8)) (hN : Mtx w B m d N) (hn : n ≤ 100000) :
    Calls Try.prog 14 #[.slice A n c, .slice B m d] w fun e w' => e = .returned (.bool (decide (M = N))) ∧ Below w.heap.size w w' := by
  have hl1 := hM.len
  have hl2 := hN.len
  have HM := Lib.hid hM
  have HN := Lib.hid hN
  clear hM hN
  by_cases hnm : n = m
  · subst hnm
    go_enter Try.func14, Try.ntmps14
    go_wp2_with fail
    go_loopw [5] (fun i wr => ∃ k : Nat, k ≤ n ∧ i = .int .i64 (k : Int) ∧ Hid (M.take k = N.take k ∧ Below w.heap.size w wr)) (fun i _ => n - (intOf i).toNat)
    case atStart => exact ⟨0, by omega, rfl, Lib.hid ⟨by simp, Below.refl _ _⟩⟩
    case round =>
      obtain ⟨k, hk, rfl, H⟩ := hrel
      by_cases hlt : k < n
      · have l1 : (k : Int) < (n : Int) := by omega
        obtain ⟨r, hr⟩ : ∃ r, M[k]? = some r := ⟨_, List.getElem?_eq_getElem (by omega)⟩
        obtain ⟨s, hs⟩ : ∃ s, N[k]? = some s := ⟨_, List.getElem?_eq_getElem (by omega)⟩
        obtain ⟨b, off, Ak, ck, hA, hb, hck, hlk⟩ := HM.out.row hr
        obtain ⟨b', off', Bk, dk, hB, hb', hdk, hmk⟩ := HN.out.row hs
        subst hA hB
        have hc1 := grows_cell ((H.out.2.cell (p := ⟨b, off + k, none⟩) hb).trans hck) (Nat.lt_of_lt_of_le hb H.out.2.size)
        have hc2 := grows_cell ((H.out.2.cell (p := ⟨b', off' + k, none⟩) hb').trans hdk) (Nat.lt_of_lt_of_le hb' H.out.2.size)
        have hv1 : ∀ q : Grows wr, (convert 31 9 (.slice Ak r.length ck)).run Try.prog q.val = .ok (.string ⟨r.toArray⟩) q.val := fun q => conv_lies ((hlk.below H.out.2).below q.prop)
        have hv2 : ∀ q : Grows wr, (convert 31 9 (.slice Bk s.length dk)).run Try.prog q.val = .ok (.string ⟨s.toArray⟩) q.val := fun q => conv_lies ((hmk.below H.out.2).below q.prop)
        have HRS := Lib.hid (And.intro hr hs)
        clear hck hdk hlk hmk hr hs
        by_cases e1 : r = s
        · subst e1
          generalize (⟨r.toArray⟩ : ByteArray) = S at hv1 hv2
          generalize r.length = lr at hc1 hc2 hv1 hv2
          have hss : (S.toList == S.toList) = true := by simp
          go_wp2_with fail
          refine wp_region_grows (by kernel_rfl) (by kernel_rfl) ?_
          repeat (first
            | (with_reducible refine wpQuiet_no ?_ ?_; (· first | (go_simp; done) | (go_simp; simp [undef]; done)); simp only [Act.put, List.setIfInBounds_toArray, List.set_cons_zero, List.set_cons_succ])
            | quiet_step (fail))
          refine wpQuiet_nil ?_
          rintro w2 ⟨⟨_, hw2⟩, rfl⟩
          have HW := Lib.hid (H.out.2.trans (hw2.mono H.out.2.size))
          clear hw2 hc1 hc2 hv1 hv2
          go_wp2
          go_roundw
          case rel =>
            refine ⟨k + 1, by omega, by go_num, Lib.hid ⟨?_, HW.out⟩⟩
            rw [List.take_add_one, List.take_add_one, H.out.1, HRS.out.1, HRS.out.2]
          case measure => simp [intOf]; omega
        · have hne := str_ne e1
          have HRES := Lib.hid (show decide (M = N) = false from decide_eq_false (fun e => by
            have h5 := HRS.out
            rw [e, h5.2] at h5
            exact e1 (Option.some.inj h5.1).symm))
          clear e1
          generalize (⟨r.toArray⟩ : ByteArray) = S at hv1 hne
          generalize (⟨s.toArray⟩ : ByteArray) = T at hv2 hne
          generalize r.length = lr at hc1 hv1
          generalize s.length = ls at hc2 hv2
          go_wp2_with fail
          refine wp_region_grows (by kernel_rfl) (by kernel_rfl) ?_
          repeat (first
            | (with_reducible refine wpQuiet_no ?_ ?_; (· first | (go_simp; done) | (go_simp; simp [undef]; done)); simp only [Act.put, List.setIfInBounds_toArray, List.set_cons_zero, List.set_cons_succ])
            | quiet_step (fail))
          refine wpQuiet_nil ?_
          rintro w2 ⟨⟨_, hw2⟩, rfl⟩
          have HW := Lib.hid (H.out.2.trans (hw2.mono H.out.2.size))
          clear hw2 hc1 hc2 hv1 hv2
          go_wp2
          go_ret
          refine ⟨?_, HW.out⟩
          rw [HRES.out]
          rfl
      · obtain rfl : k = n := by omega
        have l1 : ¬ (k : Int) < (k : Int) := by omega
        have HRES := Lib.hid (show decide (M = N) = true from decide_eq_true (by
          have := H.out.1
          rwa [List.take_of_length_le (by omega), List.take_of_length_le (by omega)] at this))
        go_wp2
        go_ret
        refine ⟨?_, H.out.2⟩
        rw [HRES.out]
        rfl
  · have h1 : ¬ (n : Int) = (m : Int) := by omega
    have HRES := Lib.hid (show decide (M = N) = false from decide_eq_false (fun e => by rw [e] at hl1; omega))
    go_enter Try.func14, Try.ntmps14
    go_wp2
    go_ret
    refine ⟨?_, Below.refl _ _⟩
    rw [HRES.out]
    rfl
end Go.Proofs.Ytgakeecibofiiaa
