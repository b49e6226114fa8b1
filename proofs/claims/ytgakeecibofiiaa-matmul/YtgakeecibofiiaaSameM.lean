/-
  Same of package mat.
-/
import Derived.Test.YtgakeecibofiiaaSmall
import Derived.Test.YtgakeecibofiiaaRefSame
namespace Go.Proofs.Ytgakeecibofiiaa
open Go.RowKit Go.Shelf

set_option maxRecDepth 100000 in
theorem bequal_says (W : World) (A B : Option Addr) (c d : Nat) (l m : List UInt8) (h1 : Lies W (fun _ => True) A l.length c (bc l)) (h2 : Lies W (fun _ => True) B m.length d (bc m)) :
    Calls Try.prog 42 #[.slice A l.length c, .slice B m.length d] W fun e w' => e = .returned (.bool (decide (l = m))) ∧ w' = W := by
  have hv1 := conv_lies h1
  have hv2 := conv_lies h2
  have he : ((⟨l.toArray⟩ : ByteArray).toList == (⟨m.toArray⟩ : ByteArray).toList) = decide (l = m) := by
    by_cases h : l = m
    · subst h
      rw [decide_eq_true rfl]
      simp
    · rw [decide_eq_false h]
      exact str_ne h
  have HE := Lib.hid he
  clear h1 h2 he
  generalize decide (l = m) = bb at HE ⊢
  generalize (⟨l.toArray⟩ : ByteArray) = S at hv1 HE
  generalize (⟨m.toArray⟩ : ByteArray) = T at hv2 HE
  generalize l.length = x at hv1 ⊢
  generalize m.length = y at hv2 ⊢
  have he := HE.out
  go_enter Try.func42, Try.ntmps42
  go_wp2
  go_ret
  exact ⟨rfl, rfl⟩

set_option maxRecDepth 100000 in
set_option maxHeartbeats 1000000 in
theorem equalM_says (w : World) (A : Option Addr) (n c : Nat) (M : List (List UInt8)) (hM : Mtx w A n c M) (B : Option Addr) (m d : Nat) (O : List (List UInt8)) (hO : Mtx w B m d O) (hn : n ≤ 2000) :
    Calls Try.prog 41 #[.slice A n c, .slice B m d, .func (.func 42) #[] #[]] w fun e w' => e = .returned (.bool (decide (M = O))) ∧ Below w.heap.size w w' := by
  have hl1 := hM.len
  have hl2 := hO.len
  have HM := Lib.hid hM
  have HO := Lib.hid hO
  clear hM hO
  by_cases hnm : n = m
  · subst hnm
    go_enter Try.func41, Try.ntmps41
    go_wp2_with fail
    go_loopw [7, 8, 9, 17] (fun _ _ _ i wr => ∃ k : Nat, k ≤ n ∧ i = .int .i64 (k : Int) ∧ Hid (M.take k = O.take k ∧ Below w.heap.size w wr)) (fun _ _ _ i _ => n - (intOf i).toNat)
    case atStart => exact ⟨0, by omega, rfl, Lib.hid ⟨by simp, Below.refl _ _⟩⟩
    case round =>
      obtain ⟨k, hk, rfl, H⟩ := hrel
      by_cases hlt : k < n
      · have l1 : (k : Int) < (n : Int) := by omega
        obtain ⟨r, hr⟩ : ∃ r, M[k]? = some r := ⟨_, List.getElem?_eq_getElem (by omega)⟩
        obtain ⟨s, hs⟩ : ∃ s, O[k]? = some s := ⟨_, List.getElem?_eq_getElem (by omega)⟩
        obtain ⟨b, off, Ak, ck, hA, hb, hck, hlk⟩ := HM.out.row hr
        obtain ⟨b', off', Bk, dk, hB, hb', hdk, hmk⟩ := HO.out.row hs
        subst hA hB
        have hc1 : wr.cell? ⟨b, off + k, none⟩ = some (.slice Ak r.length ck) := (H.out.2.cell (p := ⟨b, off + k, none⟩) hb).trans hck
        have hc2 : wr.cell? ⟨b', off' + k, none⟩ = some (.slice Bk s.length dk) := (H.out.2.cell (p := ⟨b', off' + k, none⟩) hb').trans hdk
        have HC := Lib.hid (bequal_says wr Ak Bk ck dk r s (hlk.below H.out.2) (hmk.below H.out.2))
        have HRS := Lib.hid (And.intro hr hs)
        clear hck hdk hlk hmk hr hs hb hb'
        by_cases e1 : r = s
        · rw [decide_eq_true e1] at HC
          have HE1 := Lib.hid e1
          clear e1
          generalize r.length = x at HC hc1
          generalize s.length = y at HC hc2
          go_wp2_with (go_at_call 42; refine HC.out.mono ?_; rintro e wn ⟨rfl, rfl⟩)
          go_roundw
          case rel =>
            refine ⟨k + 1, by omega, by go_num, Lib.hid ⟨?_, H.out.2⟩⟩
            rw [List.take_add_one, List.take_add_one, H.out.1, HRS.out.1, HRS.out.2, HE1.out]
          case measure => simp [intOf]; omega
        · rw [decide_eq_false e1] at HC
          have HRES := Lib.hid (show decide (M = O) = false from decide_eq_false (fun e => by
            have h5 := HRS.out
            rw [e, h5.2] at h5
            exact e1 (Option.some.inj h5.1).symm))
          clear e1
          generalize r.length = x at HC hc1
          generalize s.length = y at HC hc2
          go_wp2_with (go_at_call 42; refine HC.out.mono ?_; rintro e wn ⟨rfl, rfl⟩)
          go_ret
          refine ⟨?_, H.out.2⟩
          rw [HRES.out]
          rfl
      · obtain rfl : k = n := by omega
        have l1 : ¬ (k : Int) < (k : Int) := by omega
        have HRES := Lib.hid (show decide (M = O) = true from decide_eq_true (by
          have := H.out.1
          rwa [List.take_of_length_le (by omega), List.take_of_length_le (by omega)] at this))
        have HB := Lib.hid H.out.2
        clear H
        go_wp2
        go_ret
        refine ⟨?_, HB.out⟩
        rw [HRES.out]
        rfl
  · have hnm' : ¬ (n : Int) = (m : Int) := by omega
    have HRES := Lib.hid (show decide (M = O) = false from decide_eq_false (fun e => by rw [e] at hl1; omega))
    clear hnm
    go_enter Try.func41, Try.ntmps41
    go_wp2
    go_ret
    refine ⟨?_, Below.refl _ _⟩
    rw [HRES.out]
    rfl

set_option maxRecDepth 100000 in
set_option maxHeartbeats 1000000 in
theorem sameM_says (w : World) (A : Option Addr) (n c : Nat) (M : List (List UInt8)) (hM : Mtx w A n c M) (B : Option Addr) (m d : Nat) (O : List (List UInt8)) (hO : Mtx w B m d O) (hn : n ≤ 2000) (hm : m ≤ 2000) :
    Calls Try.prog 21 #[.slice A n c, .slice B m d] w fun e w' => e = .returned (.bool (decide (RightM M) && (decide (RightM O) && decide (M = O)))) ∧ Below w.heap.size w w' := by
  have H1 := Lib.hid (right_says w A n c M hM hn)
  have H2 := Lib.hid (fun W (hb : Below w.heap.size w W) => right_says W B m d O (hO.below hb) hm)
  have H3 := Lib.hid (fun W (hb : Below w.heap.size w W) => equalM_says W A n c M (hM.below hb) B m d O (hO.below hb) hn)
  clear hM hO
  generalize decide (M = O) = b3 at H3 ⊢
  rcases Bool.eq_false_or_eq_true (decide (RightM M)) with h1 | h1
  · rcases Bool.eq_false_or_eq_true (decide (RightM O)) with h2 | h2
    · rw [h1] at H1 ⊢
      rw [h2] at H2 ⊢
      clear h1 h2
      go_enter Try.func21, Try.ntmps21
      go_wp2_with (first
        | (go_at_call 20; with_reducible refine H1.out.mono ?_; rintro e wn ⟨rfl, hbn⟩; have HB1 := Lib.hid hbn; clear hbn)
        | (go_at_call 20; with_reducible refine (H2.out _ HB1.out).mono ?_; rintro e wn2 ⟨rfl, hbn⟩; have HB2 := Lib.hid (HB1.out.trans (hbn.mono HB1.out.size)); clear hbn)
        | (go_at_call 41; refine (H3.out _ HB2.out).mono ?_; rintro e wn3 ⟨rfl, hbn⟩; have HB3 := Lib.hid (HB2.out.trans (hbn.mono HB2.out.size)); clear hbn))
      go_ret
      refine ⟨?_, HB3.out⟩
      first | rfl | (cases b3 <;> rfl)
    · rw [h1] at H1 ⊢
      rw [h2] at H2 ⊢
      clear h1 h2
      go_enter Try.func21, Try.ntmps21
      go_wp2_with (first
        | (go_at_call 20; with_reducible refine H1.out.mono ?_; rintro e wn ⟨rfl, hbn⟩; have HB1 := Lib.hid hbn; clear hbn)
        | (go_at_call 20; with_reducible refine (H2.out _ HB1.out).mono ?_; rintro e wn2 ⟨rfl, hbn⟩; have HB2 := Lib.hid (HB1.out.trans (hbn.mono HB1.out.size)); clear hbn))
      go_ret
      exact ⟨rfl, HB2.out⟩
  · rw [h1] at H1 ⊢
    clear h1
    go_enter Try.func21, Try.ntmps21
    go_wp2_with (go_at_call 20; with_reducible refine H1.out.mono ?_; rintro e wn ⟨rfl, hbn⟩; have HB1 := Lib.hid hbn; clear hbn)
    go_ret
    exact ⟨rfl, HB1.out⟩
end Go.Proofs.Ytgakeecibofiiaa
