/-
  Contracts of (Set).Or, And, Less, Within and Same.
-/
import Derived.Test.YtjnobakbjapfjaaChoose
namespace Go.Proofs.Ytjnobakbjapfjaa
open Go.RowKit Go.Sort Go.Shelf

abbrev orL (S O : List Id) : List Id := chosenL (fun m t => m || t) S O
abbrev andL (S O : List Id) : List Id := chosenL (fun m t => m && t) S O
abbrev lessL (S O : List Id) : List Id := chosenL (fun m t => m && !t) S O

set_option maxHeartbeats 1000000 in
theorem lessSet_says (w : World) (A : Option Addr) (n c : Nat) (S : List Id) (hx : Ids w A n c S) (hn : n ≤ 1000) (B : Option Addr) (m d : Nat) (O : List Id) (hy : Ids w B m d O) (hm : m ≤ 1000) :
    Calls Try.prog 21 #[.slice A n c, .slice B m d] w (GivesIds w (lessL S O)) := by
  have h := choose_says (fun m t => m && !t) 47 wants_less (enters_of Try.func47 (by kernel_rfl) rfl) w A n c S hx hn B m d O hy hm
  unfold lessL
  generalize chosenL (fun m t => m && !t) S O = R at h ⊢
  clear hx hy
  go_enter Try.func21, Try.ntmps21
  go_wp2_with fail
  refine h.mono ?_
  rintro e w1 ⟨A1, n1, c1, rfl, hx1, hb1⟩
  have H := Lib.hid (And.intro hx1 hb1)
  clear hx1 hb1
  go_wp2
  go_ret
  exact ⟨A1, n1, c1, rfl, H.out.1, H.out.2⟩
set_option maxHeartbeats 1000000 in
theorem orSet_says (w : World) (A : Option Addr) (n c : Nat) (S : List Id) (hx : Ids w A n c S) (hn : n ≤ 1000) (B : Option Addr) (m d : Nat) (O : List Id) (hy : Ids w B m d O) (hm : m ≤ 1000) :
    Calls Try.prog 22 #[.slice A n c, .slice B m d] w (GivesIds w (orL S O)) := by
  have h := choose_says (fun m t => m || t) 48 wants_or (enters_of Try.func48 (by kernel_rfl) rfl) w A n c S hx hn B m d O hy hm
  unfold orL
  generalize chosenL (fun m t => m || t) S O = R at h ⊢
  clear hx hy
  go_enter Try.func22, Try.ntmps22
  go_wp2_with fail
  refine h.mono ?_
  rintro e w1 ⟨A1, n1, c1, rfl, hx1, hb1⟩
  have H := Lib.hid (And.intro hx1 hb1)
  clear hx1 hb1
  go_wp2
  go_ret
  exact ⟨A1, n1, c1, rfl, H.out.1, H.out.2⟩
set_option maxHeartbeats 1000000 in
theorem andSet_says (w : World) (A : Option Addr) (n c : Nat) (S : List Id) (hx : Ids w A n c S) (hn : n ≤ 1000) (B : Option Addr) (m d : Nat) (O : List Id) (hy : Ids w B m d O) (hm : m ≤ 1000) :
    Calls Try.prog 23 #[.slice A n c, .slice B m d] w (GivesIds w (andL S O)) := by
  have h := choose_says (fun m t => m && t) 49 wants_and (enters_of Try.func49 (by kernel_rfl) rfl) w A n c S hx hn B m d O hy hm
  unfold andL
  generalize chosenL (fun m t => m && t) S O = R at h ⊢
  clear hx hy
  go_enter Try.func23, Try.ntmps23
  go_wp2_with fail
  refine h.mono ?_
  rintro e w1 ⟨A1, n1, c1, rfl, hx1, hb1⟩
  have H := Lib.hid (And.intro hx1 hb1)
  clear hx1 hb1
  go_wp2
  go_ret
  exact ⟨A1, n1, c1, rfl, H.out.1, H.out.2⟩
set_option maxHeartbeats 1000000 in
theorem within_says (w : World) (A : Option Addr) (n c : Nat) (S : List Id) (hx : Ids w A n c S) (hn : n ≤ 1000) (B : Option Addr) (m d : Nat) (O : List Id) (hy : Ids w B m d O) (hm : m ≤ 1000) :
    Calls Try.prog 24 #[.slice A n c, .slice B m d] w fun e w' => e = .returned (.bool (decide (lessL S O = []))) ∧ Below w.heap.size w w' := by
  have h := lessSet_says w A n c S hx hn B m d O hy hm
  generalize lessL S O = R at h ⊢
  clear hx hy
  go_enter Try.func24, Try.ntmps24
  go_wp2_with fail
  refine h.mono ?_
  rintro e w1 ⟨A1, n1, c1, rfl, hx1, hb1⟩
  have hl := hx1.len
  have H := Lib.hid hb1
  clear hx1 hb1
  go_wp2
  go_ret
  refine ⟨?_, H.out⟩
  have e : decide (R = []) = decide (n1 = 0) := by
    rw [← hl]
    simp
  rw [e]
  have e2 : ((n1 : Int) == 0) = decide (n1 = 0) := by
    rw [Bool.eq_iff_iff]
    simp
  rw [← e2]
  rfl

theorem allEq_ids : ∀ xs ys : List Id, Lib.allEq (fun x y : Id => x.1 == y.1) xs ys = decide (xs = ys)
  | [], [] => by simp [Lib.allEq]
  | [], _ :: _ => by simp [Lib.allEq]
  | _ :: _, [] => by simp [Lib.allEq]
  | x :: xs, y :: ys => by
    rw [Lib.allEq, allEq_ids xs ys, Bool.eq_iff_iff]
    simp [Subtype.ext_iff]

set_option maxHeartbeats 1000000 in
/-- slices.Equal at two lists of ids. -/
theorem equal_says (w : World) (A : Option Addr) (n c : Nat) (S : List Id) (hx : Ids w A n c S) (hn : n ≤ 1000) (B : Option Addr) (m d : Nat) (O : List Id) (hy : Ids w B m d O) (hm : m ≤ 1000) :
    Calls Try.prog 44 #[.slice A n c, .slice B m d] w fun e w' => e = .returned (.bool (decide (S = O))) ∧ Below w.heap.size w w' := by
  have hl1 := hx.len
  have hl2 := hy.len
  by_cases hnm : n = m
  · rcases Nat.eq_zero_or_pos n with h0 | h0
    · obtain rfl : S = [] := List.eq_nil_of_length_eq_zero (by omega)
      obtain rfl : O = [] := List.eq_nil_of_length_eq_zero (by omega)
      subst hnm
      subst h0
      clear hx hy
      go_enter Try.func44, Try.ntmps44
      go_wp2
      refine wp_loop_rounds 1 ?_
      rw [rounds_succ]
      go_wp2
      go_ret
      exact ⟨by simp, Below.refl _ _⟩
    · obtain ⟨b1, o1, rfl, hb1, hr1⟩ := hx.2.2 h0
      obtain ⟨b2, o2, rfl, hb2, hr2⟩ := hy.2.2 (by omega)
      have h := AnyQ.slices_Equal Try.equalIds 32 Try.isAgg23 Try.sizeOf23 enc enc_length (fun x y => x.1 == y.1) neqId b1 o1 n c b2 o2 m d S O w (by omega) (by omega) (by omega) (by omega)
        (fun j hj i v hv => by rw [Nat.add_assoc]; exact hr1 _ v (ec_at S j S[j]! (by rw [getElem!_pos S j hj]; simp [hj]) i v hv))
        (fun j hj i v hv => by rw [Nat.add_assoc]; exact hr2 _ v (ec_at O j O[j]! (by rw [getElem!_pos O j hj]; simp [hj]) i v hv))
      rw [List.take_of_length_le (by omega), List.take_of_length_le (by omega), allEq_ids] at h
      exact h.mono fun e w' hh => ⟨hh.1, by obtain ⟨q, rfl⟩ := hh.2; exact ⟨rfl, rfl, rfl, Nat.le_refl _, fun _ _ => rfl⟩⟩
  · have hne : ¬ (n : Int) = (m : Int) := by omega
    have hd : decide (S = O) = false := decide_eq_false (fun e => hnm (by rw [← hl1, ← hl2, e]))
    clear hx hy
    go_enter Try.func44, Try.ntmps44
    go_wp2
    go_ret
    exact ⟨by rw [hd]; rfl, Below.refl _ _⟩

set_option maxHeartbeats 1000000 in
theorem same_says (w : World) (A : Option Addr) (n c : Nat) (S : List Id) (hx : Ids w A n c S) (hn : n ≤ 1000) (B : Option Addr) (m d : Nat) (O : List Id) (hy : Ids w B m d O) (hm : m ≤ 1000) :
    Calls Try.prog 20 #[.slice A n c, .slice B m d] w fun e w' => e = .returned (.bool (decide (ofL S = ofL O))) ∧ Below w.heap.size w w' := by
  have h1 := rising_says w A n c S hx hn
  have h2 := fun w' hy' => rising_says w' B m d O hy' hm
  have hlS : (ofL S).length ≤ 1000 := Nat.le_trans (ofL_length S) (by rw [hx.len]; exact hn)
  have hlO : (ofL O).length ≤ 1000 := Nat.le_trans (ofL_length O) (by rw [hy.len]; exact hm)
  have HY := Lib.hid hy
  clear hx hy
  generalize ofL S = S' at h1 hlS ⊢
  generalize ofL O = O' at h2 hlO ⊢
  have h3 := fun w' A n c hx hn B m d hy hm => equal_says w' A n c S' hx hn B m d O' hy hm
  generalize decide (S' = O') = r at h3 ⊢
  go_enter Try.func20, Try.ntmps20
  go_wp2_with fail
  refine h1.mono ?_
  rintro e w1 ⟨A1, n1, c1, rfl, hx1, hb1⟩
  have HX1 := Lib.hid hx1
  have HB1 := Lib.hid hb1
  clear hx1 hb1
  go_wp2_with fail
  refine (h2 w1 (HY.out.below HB1.out (Nat.le_refl _))).mono ?_
  rintro e w2 ⟨A2, n2, c2, rfl, hx2, hb2⟩
  have HX2 := Lib.hid hx2
  have HX3 := Lib.hid (HX1.out.below hb2 (Nat.le_refl _))
  have HB2 := Lib.hid (HB1.out.trans (hb2.mono HB1.out.size))
  clear hx2 hb2
  go_wp2_with fail
  refine (h3 w2 A1 n1 c1 HX3.out (by rw [← HX3.out.len]; exact hlS) A2 n2 c2 HX2.out (by rw [← HX2.out.len]; exact hlO)).mono ?_
  rintro e w3 ⟨rfl, hb3⟩
  have HB3 := Lib.hid (HB2.out.trans (hb3.mono HB2.out.size))
  clear hb3
  go_wp2
  go_ret
  exact ⟨rfl, HB3.out⟩
end Go.Proofs.Ytjnobakbjapfjaa
