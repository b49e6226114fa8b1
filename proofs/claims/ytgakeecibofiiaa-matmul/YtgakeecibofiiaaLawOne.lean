/-
  The statements' small play, and Few.
-/
import Derived.Test.YtgakeecibofiiaaRankM
import Derived.Test.YtgakeecibofiiaaSameM
namespace Go.Proofs.Ytgakeecibofiiaa
open Go.RowKit Go.Shelf

theorem lit_row (W : World) (l : List UInt8) (n : Nat) (hn : l.length = n) : Lies (W.alloc (.cells (bc l).toArray 5)) (fun _ => True) (some ⟨W.heap.size, 0, none⟩) n n (bc l) := lies_box (Box.made W 5 _) trivial hn
theorem lit_one (W : World) (A : Option Addr) (l : List UInt8) (n c : Nat) (hn : l.length = n) (h : Lies W (fun _ => True) A n c (bc l)) : Mtx (W.alloc (.cells #[.slice A n c] 31)) (some ⟨W.heap.size, 0, none⟩) 1 1 [l] := by
  subst hn
  refine ⟨rfl, Nat.le_refl _, fun _ => ⟨W.heap.size, 0, rfl, by simp, fun i l' hl => ?_⟩⟩
  have hi : i = 0 := by
    have := (List.getElem?_eq_some_iff.1 hl).1
    simp at this
    exact this
  subst hi
  simp at hl
  subst hl
  exact ⟨A, c, cell_one_new W _ _ 0 _ rfl, h.below ((Below.refl _ W).alloc (Nat.le_refl _) _)⟩
theorem lit_two (W : World) (A B : Option Addr) (l m : List UInt8) (n c k d : Nat) (hn : l.length = n) (hk : m.length = k) (h : Lies W (fun _ => True) A n c (bc l)) (h2 : Lies W (fun _ => True) B k d (bc m)) : Mtx (W.alloc (.cells #[.slice A n c, .slice B k d] 31)) (some ⟨W.heap.size, 0, none⟩) 2 2 [l, m] := by
  subst hn hk
  have hb := (Below.refl _ W).alloc (Nat.le_refl _) (.cells #[.slice A l.length c, .slice B m.length d] 31)
  have hbx := Box.made W 31 #[.slice A l.length c, .slice B m.length d]
  refine ⟨rfl, Nat.le_refl _, fun _ => ⟨W.heap.size, 0, rfl, by simp, fun i l' hl => ?_⟩⟩
  have hi : i < 2 := (List.getElem?_eq_some_iff.1 hl).1
  rcases i with _ | _ | i
  · simp at hl
    subst hl
    exact ⟨A, c, by rw [hbx.cell]; rfl, h.below hb⟩
  · simp at hl
    subst hl
    exact ⟨B, d, by rw [hbx.cell]; rfl, h2.below hb⟩
  · omega
theorem lit_a (W : World) : Mtx ((W.alloc (.cells #[.int .u8 1] 5)).alloc (.cells #[.slice (some ⟨W.heap.size, 0, none⟩) 1 1] 31)) (some ⟨W.heap.size + 1, 0, none⟩) 1 1 [[1]] := by
  have h := lit_one (W.alloc (.cells #[.int .u8 1] 5)) _ [1] 1 1 rfl (lit_row W [1] 1 rfl)
  simpa using h
theorem lit_b (W : World) (x y z u : UInt8) : Mtx (((W.alloc (.cells #[.int .u8 (x.toNat : Int), .int .u8 (y.toNat : Int)] 5)).alloc (.cells #[.int .u8 (z.toNat : Int), .int .u8 (u.toNat : Int)] 5)).alloc (.cells #[.slice (some ⟨W.heap.size, 0, none⟩) 2 2, .slice (some ⟨W.heap.size + 1, 0, none⟩) 2 2] 31)) (some ⟨W.heap.size + 2, 0, none⟩) 2 2 [[x, y], [z, u]] := by
  have h1 : Lies (W.alloc (.cells #[.int .u8 (x.toNat : Int), .int .u8 (y.toNat : Int)] 5)) (fun _ => True) (some ⟨W.heap.size, 0, none⟩) 2 2 (bc [x, y]) := lit_row W [x, y] 2 rfl
  have h2 := lit_row (W.alloc (.cells #[.int .u8 (x.toNat : Int), .int .u8 (y.toNat : Int)] 5)) [z, u] 2 rfl
  have h := lit_two _ _ _ [x, y] [z, u] 2 2 2 2 rfl rfl (h1.below ((Below.refl _ _).alloc (Nat.le_refl _) (.cells #[.int .u8 (z.toNat : Int), .int .u8 (u.toNat : Int)] 5))) h2
  simpa [Nat.add_assoc] using h
theorem fact_a : (decide (RightM (matBy 1 1 (cauF 1))) && (decide (RightM [[1]]) && decide (matBy 1 1 (cauF 1) = [[1]]))) = true := by decide +kernel
theorem fact_b : (decide (RightM (matBy 2 2 oneF)) && (decide (RightM [[1, 0], [0, 1]]) && decide (matBy 2 2 oneF = [[1, 0], [0, 1]]))) = true := by decide +kernel
theorem fact_c : rankL [[1, 2], [1, 2]] = 1 := by decide +kernel

set_option maxRecDepth 100000 in
set_option maxHeartbeats 2000000 in
theorem lone_says (w : World) : Calls Try.prog 22 #[] w fun e w' => e = .returned (.bool true) ∧ Below w.heap.size w w' := by
  have HB := Lib.hid (Below.refl w.heap.size w)
  go_enter Try.func22, Try.ntmps22
  go_wp2_with (first
    | (go_at_call 11; refine (new_says _).mono ?_; rintro e w1 ⟨P, rfl, hb1⟩; have HB1 := Lib.hid (HB.out.trans (hb1.mono HB.out.size)); clear hb1)
    | (go_at_call 24; refine (cauchy_yes P 1 1 (by unfold cauOk; omega) _).mono ?_; rintro e w2 ⟨A2, n2, c2, rfl, hm2, hb2⟩; have HB2 := Lib.hid (And.intro (HB1.out.trans (hb2.mono HB1.out.size)) hm2); clear hb2 hm2)
    | (go_at_call 23; refine (one_yes 2 (by omega) _).mono ?_; rintro e w3 ⟨A3, n3, c3, rfl, hm3, hb3⟩; have HB3 := Lib.hid (And.intro (HB2.out.1.trans (hb3.mono HB2.out.1.size)) (And.intro hm3 (HB2.out.2.below hb3))); clear hb3 hm3))
  have hw4 : Below w3.heap.size w3 ((w3.alloc (.cells #[.int .u8 1] 5)).alloc (.cells #[.slice (some ⟨w3.heap.size, 0, none⟩) 1 1] 31)) := ((Below.refl _ w3).alloc (Nat.le_refl _) _).alloc (by simp) _
  have hs := sameM_says _ A2 n2 c2 _ (HB3.out.2.2.below hw4) _ 1 1 [[1]] (lit_a w3) (by rw [← HB3.out.2.2.len]; simp [matBy]) (by omega)
  rw [fact_a] at hs
  refine hs.mono ?_
  rintro e w4 ⟨rfl, hb4⟩
  have HB4 := Lib.hid (show Below w3.heap.size w3 w4 from hw4.trans (hb4.mono hw4.size))
  clear hs hb4 hw4
  go_wp2_with fail
  have hw5 : Below w4.heap.size w4 (((w4.alloc (.cells #[.int .u8 1, .int .u8 0] 5)).alloc (.cells #[.int .u8 0, .int .u8 1] 5)).alloc (.cells #[.slice (some ⟨w4.heap.size, 0, none⟩) 2 2, .slice (some ⟨w4.heap.size + 1, 0, none⟩) 2 2] 31)) := (((Below.refl _ w4).alloc (Nat.le_refl _) _).alloc (by simp) _).alloc (by simp; omega) _
  have hs := sameM_says _ A3 n3 c3 _ ((HB3.out.2.1.below HB4.out).below hw5) _ 2 2 [[1, 0], [0, 1]] (lit_b w4 1 0 0 1) (by rw [← HB3.out.2.1.len]; simp [matBy]) (by omega)
  rw [fact_b] at hs
  refine hs.mono ?_
  rintro e w5 ⟨rfl, hb5⟩
  have HB5 := Lib.hid (show Below w3.heap.size w3 w5 from HB4.out.trans ((hw5.trans (hb5.mono hw5.size)).mono HB4.out.size))
  clear hs hb5 hw5
  go_wp2_with fail
  have hw6 : Below w5.heap.size w5 (((w5.alloc (.cells #[.int .u8 1, .int .u8 2] 5)).alloc (.cells #[.int .u8 1, .int .u8 2] 5)).alloc (.cells #[.slice (some ⟨w5.heap.size, 0, none⟩) 2 2, .slice (some ⟨w5.heap.size + 1, 0, none⟩) 2 2] 31)) := (((Below.refl _ w5).alloc (Nat.le_refl _) _).alloc (by simp) _).alloc (by simp; omega) _
  have hs := rank_says P _ _ 2 2 [[1, 2], [1, 2]] (lit_b w5 1 2 1 2) (by omega)
  rw [fact_c] at hs
  refine hs.mono ?_
  rintro e w6 ⟨rfl, hb6⟩
  have HB6 := Lib.hid (show Below w.heap.size w w6 from HB3.out.1.trans ((HB5.out.trans ((hw6.trans (hb6.mono hw6.size)).mono HB5.out.size)).mono HB3.out.1.size))
  clear hs hb6 hw6
  go_wp2
  go_ret
  exact ⟨rfl, HB6.out⟩

/-- Small enough to be looked through. -/
def fewB (M : List (List UInt8)) (most : Nat) : Prop := M.length ≤ most ∧ ∀ r ∈ M, r.length ≤ most
instance (M : List (List UInt8)) (most : Nat) : Decidable (fewB M most) := by unfold fewB; exact inferInstance
set_option maxRecDepth 100000 in
set_option maxHeartbeats 1000000 in
theorem few_says (w : World) (A : Option Addr) (n c : Nat) (M : List (List UInt8)) (hM : Mtx w A n c M) (most : Nat) (hm : most ≤ 100) : Calls Try.prog 10 #[.slice A n c, .int .i64 (most : Int)] w fun e w' => e = .returned (.int .i64 (if fewB M most then 1 else 0)) ∧ w' = w := by
  have hl := hM.len
  have HM := Lib.hid hM
  clear hM
  by_cases h1 : most < n
  · have h1' : (most : Int) < (n : Int) := by omega
    rw [if_neg (fun h => by have := h.1; omega)]
    go_enter Try.func10, Try.ntmps10
    go_wp2
    go_ret
    exact ⟨rfl, rfl⟩
  have h1' : ¬ (most : Int) < (n : Int) := by omega
  go_enter Try.func10, Try.ntmps10
  go_wp2_with fail
  go_loopw [5] (fun i wr => ∃ k : Nat, k ≤ n ∧ i = .int .i64 (k : Int) ∧ Hid (wr = w ∧ ∀ (j : Nat) (r : List UInt8), j < k → M[j]? = some r → r.length ≤ most)) (fun i _ => n - (intOf i).toNat)
  case atStart => exact ⟨0, by omega, rfl, Lib.hid ⟨rfl, fun j r h => by omega⟩⟩
  case round =>
    obtain ⟨k, hk, rfl, H⟩ := hrel
    have hw' : w = wr := H.out.1.symm
    subst hw'
    have HH := Lib.hid H.out.2
    clear H
    by_cases hlt : k < n
    · have l1 : (k : Int) < (n : Int) := by omega
      obtain ⟨r, hr⟩ : ∃ r, M[k]? = some r := ⟨_, List.getElem?_eq_getElem (by omega)⟩
      obtain ⟨b, off, Ak, ck, hA, hb, hck, _⟩ := HM.out.row hr
      subst hA
      have HR := Lib.hid hr
      clear hr
      obtain ⟨lr, hlr⟩ : ∃ t, r.length = t := ⟨_, rfl⟩
      rw [hlr] at hck
      have HLR := Lib.hid hlr
      clear hlr
      by_cases h2 : most < lr
      · have h2' : (most : Int) < (lr : Int) := by omega
        have HN := Lib.hid (show ¬ fewB M most from fun h => by have := h.2 r (List.mem_of_getElem? HR.out); have := HLR.out; omega)
        go_wp2
        go_ret
        refine ⟨?_, rfl⟩
        first | rfl | (rw [if_neg HN.out]; rfl)
      · have h2' : ¬ (most : Int) < (lr : Int) := by omega
        go_wp2
        go_roundw
        case rel =>
          refine ⟨k + 1, by omega, by go_num, Lib.hid ⟨trivial, fun j s hj hs => ?_⟩⟩
          rcases Nat.lt_or_ge j k with h3 | h3
          · exact HH.out j s h3 hs
          · rw [show j = k by omega, HR.out] at hs
            cases hs
            rw [HLR.out]
            omega
        case measure => simp [intOf]; omega
    · obtain rfl : k = n := by omega
      have l1 : ¬ (k : Int) < (k : Int) := by omega
      have HY := Lib.hid (show fewB M most from ⟨by omega, fun r hr => by
        obtain ⟨j, hj⟩ := List.getElem?_of_mem hr
        exact HH.out j r (by have := (List.getElem?_eq_some_iff.1 hj).1; omega) hj⟩)
      go_wp2
      go_ret
      refine ⟨?_, rfl⟩
      first | rfl | (rw [if_pos HY.out]; rfl)
end Go.Proofs.Ytgakeecibofiiaa
