/-
  Sets that are right, and what is made of any: the contracts of (Set).Right and ids.rising.
-/
import Derived.Test.YtjnobakbjapfjaaOf
import Derived.LoopN
namespace Go.Proofs.Ytjnobakbjapfjaa
open Go.RowKit Go.Sort Go.Shelf

instance (xs : List Id) : Decidable (Rises xs) := by unfold Rises; exact inferInstance
/-- Does it rise? -/
def rightL (xs : List Id) : Bool := decide (Rises xs)
theorem rises_iff (xs : List Id) : Rises xs ↔ ∀ i, 0 < i → i < xs.length → ltId xs[i - 1]! xs[i]! = true := by
  constructor
  · intro h i h0 hi
    rw [getElem!_pos xs i hi, getElem!_pos xs (i - 1) (by omega)]
    exact List.pairwise_iff_getElem.1 h (i - 1) i (by omega) hi (by omega)
  · intro h
    induction xs with
    | nil => exact List.Pairwise.nil
    | cons x xs ih =>
      have ih' : Rises xs := ih (fun i h0 hi => by
        have := h (i + 1) (by omega) (by simp; omega)
        rw [show i + 1 - 1 = (i - 1) + 1 by omega] at this
        simpa using this)
      refine List.Pairwise.cons (fun y hy => ?_) ih'
      cases xs with
      | nil => cases hy
      | cons z zs =>
        have hxz : ltId x z = true := by simpa using h 1 (by omega) (by simp)
        rcases List.mem_cons.1 hy with rfl | hy
        · exact hxz
        · exact ltId_trans hxz ((List.pairwise_cons.1 ih').1 y hy)

/-- Is a list held within? -/
theorem Ids.get {w : World} {A : Option Addr} {n c : Nat} {xs : List Id} (h : Ids w A n c xs) (h0 : 0 < n) : ∃ b off, A = some ⟨b, off, none⟩ ∧ b < w.heap.size ∧ ∀ j, j < n → w.rangeAt b (off + j * 32) (enc xs[j]!) := by
  obtain ⟨b, off, h1, h2, h3⟩ := h.2.2 h0
  refine ⟨b, off, h1, h2, fun j hj i v hv => ?_⟩
  rw [Nat.add_assoc]
  exact h3 _ v (ec_at xs j xs[j]! (by have := h.len; rw [getElem!_pos xs j (by omega)]; simp) i v hv)

set_option maxHeartbeats 2000000 in
theorem right_says (w : World) (A : Option Addr) (n c : Nat) (xs : List Id) (hx : Ids w A n c xs) (hn : n ≤ 1000) : Calls Try.prog 25 #[.slice A n c] w fun e w' => e = .returned (.bool (rightL xs)) ∧ Below w.heap.size w w' := by
  have hl := hx.len
  have HX := Lib.hid hx
  clear hx
  go_enter Try.func25, Try.ntmps25
  go_wp2
  go_loopw [3] (fun v wr => ∃ k : Nat, v = .int .i64 (k : Int) ∧ 1 ≤ k ∧ (k ≤ n ∨ k = 1) ∧ Hid (Below w.heap.size w wr ∧ ∀ i, 0 < i → i < k → ltId xs[i - 1]! xs[i]! = true)) (fun v _ => n - (Lib.intOf v).toNat)
  case atStart => exact ⟨1, rfl, Nat.le_refl _, .inr rfl, Lib.hid ⟨Below.refl _ w, fun i h1 h2 => by omega⟩⟩
  case round =>
    obtain ⟨k, rfl, hk1, hkn, H⟩ := hrel
    by_cases hlt : k < n
    · have l1 : (k : Int) < (n : Int) := by omega
      have l3 : k - 1 < n := by omega
      have q1 : IntKind.i64.wrap ((k : Int) - 1) = ((k - 1 : Nat) : Int) := by
        rw [show (k : Int) - 1 = ((k - 1 : Nat) : Int) by omega]
        exact IntWalk.i64_in _ (by omega)
      obtain ⟨b, off, rfl, hb, hr⟩ := (HX.out.below H.out.1 (Nat.le_refl _)).get (by omega)
      have HR1 := Lib.hid (hr (k - 1) (by omega))
      have HR2 := Lib.hid (hr k hlt)
      have HG := Lib.hid hb
      obtain ⟨x, hx⟩ : ∃ x, xs[k - 1]! = x := ⟨_, rfl⟩
      obtain ⟨y, hy⟩ : ∃ y, xs[k]! = y := ⟨_, rfl⟩
      rw [hx] at HR1
      rw [hy] at HR2
      have HXY := Lib.hid (And.intro hx hy)
      clear hx hy hr hb
      obtain ⟨r, hr⟩ : ∃ r, ltId x y = r := ⟨_, rfl⟩
      have hL : ∀ p : Grows wr, Calls Try.prog 10 #[.agg (enc x).toArray, .agg (enc y).toArray] p.val fun e w'' => e = .returned (.bool r) ∧ ∃ p' : Grows wr, w'' = p'.val := fun p => by
        have h := less_says x y p.val
        rw [hr] at h
        exact Calls.grows h
      go_wp2_with fail
      refine wp_region_grows (by kernel_rfl) (by kernel_rfl) ?_
      repeat (first
        | (refine wpQuiet_load rfl 23 _ rfl b (off + (k - 1) * 32) rfl (enc x) _ (range_grows HR1.out HG.out) Try.underlying23 rfl (infoId _) ?_)
        | (refine wpQuiet_load rfl 23 _ rfl b (off + k * 32) rfl (enc y) _ (range_grows HR2.out HG.out) Try.underlying23 rfl (infoId _) ?_)
        | quiet_step ((go_at_call 10; exact hL _)))
      refine wpQuiet_nil ?_
      rintro w2 ⟨⟨_, hw2⟩, rfl⟩
      have HW := Lib.hid (H.out.1.trans (hw2.mono H.out.1.size))
      clear hw2 hL
      cases r with
      | true =>
        go_wp2
        go_roundw
        case rel =>
          refine ⟨k + 1, by go_num, by omega, by omega, Lib.hid ⟨HW.out, fun i h1 h2 => ?_⟩⟩
          by_cases e : i = k
          · subst e
            rw [HXY.out.1, HXY.out.2]
            exact hr
          · exact H.out.2 i h1 (by omega)
        case measure => simp [Lib.intOf]; omega
      | false =>
        go_wp2
        go_ret
        refine ⟨?_, HW.out⟩
        have : ¬ Rises xs := fun h => by
          have := (rises_iff xs).1 h k (by omega) (by omega)
          rw [HXY.out.1, HXY.out.2, hr] at this
          cases this
        rw [rightL, decide_eq_false this]
        rfl
    · have l1 : ¬ (k : Int) < (n : Int) := by omega
      go_wp2
      go_ret
      refine ⟨?_, H.out.1⟩
      rw [rightL, decide_eq_true ((rises_iff xs).2 (fun i h0 hi => H.out.2 i h0 (by omega)))]
      rfl

set_option maxHeartbeats 1000000 in
/-- ids.rising. -/
theorem rising_says (w : World) (A : Option Addr) (n c : Nat) (xs : List Id) (hx : Ids w A n c xs) (hn : n ≤ 1000) : Calls Try.prog 45 #[.slice A n c] w (GivesIds w (ofL xs)) := by
  have h1 := right_says w A n c xs hx hn
  have h2 := fun w' hx' => of_says w' A n c xs hx' hn
  have HX := Lib.hid hx
  clear hx
  have hrl : rightL xs = true → ofL xs = xs := fun h => ofL_self (of_decide_eq_true h)
  have HRL := Lib.hid hrl
  clear hrl
  generalize rightL xs = r at h1 HRL
  go_enter Try.func45, Try.ntmps45
  go_wp2_with fail
  refine h1.mono ?_
  rintro e w1 ⟨rfl, hb1⟩
  cases r with
  | true =>
    go_wp2
    go_ret
    refine ⟨A, n, c, rfl, ?_, hb1⟩
    rw [show ofL xs = xs from by simpa using HRL.out]
    exact HX.out.below hb1 (Nat.le_refl _)
  | false =>
    have HB := Lib.hid hb1
    clear hb1
    go_wp2_with fail
    refine (h2 w1 (HX.out.below HB.out (Nat.le_refl _))).mono ?_
    rintro e w2 ⟨A2, m2, c2, rfl, hx2, hb2⟩
    have HX2 := Lib.hid hx2
    have HB2 := Lib.hid hb2
    clear hx2 hb2
    go_wp2
    go_ret
    exact ⟨A2, m2, c2, rfl, HX2.out, HB.out.trans (HB2.out.mono HB.out.size)⟩
end Go.Proofs.Ytjnobakbjapfjaa
