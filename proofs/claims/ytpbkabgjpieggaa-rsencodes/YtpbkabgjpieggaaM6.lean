/-
  The small functions of package mat: counts, level, Right, Size; slices.IndexFunc and ContainsFunc over rows.
  mat.made: a matrix is made place by place.
  Size, One, Cauchy, Powers and Turn of package mat.
-/
import Derived.Test.YtpbkabgjpieggaaM1
import Derived.Test.YtpbkabgjpieggaaM5
import Derived.Test.YtpbkabgjpieggaaM4
import Derived.BigQuiet
import Derived.Shelf.Abstract
import Derived.Deep.RegionHeld3
import Derived.Deep.DeepCutAuto
import Derived.Deep.CutBlock

namespace Go.Proofs.Ytpbkabgjpieggaa
open Go.RowKit Go.Shelf

set_option maxRecDepth 100000 in
theorem counts_yes (n : Nat) (h : 1 ≤ n ∧ n ≤ 255) (w : World) : Calls Try.prog 51 #[.int .i64 (n : Int)] w fun e w' => e = .returned (.bool true) ∧ w' = w := by
  have h1 : (1 : Int) ≤ (n : Int) := by omega
  have h2 : (n : Int) ≤ 255 := by omega
  go_enter Try.func51, Try.ntmps51
  go_wp2
  go_ret
  exact ⟨rfl, rfl⟩
set_option maxRecDepth 100000 in
theorem counts_int (n : Int) (w : World) : Calls Try.prog 51 #[.int .i64 n] w fun e w' => e = .returned (.bool (decide (1 ≤ n ∧ n ≤ 255))) ∧ w' = w := by
  by_cases h1 : 1 ≤ n
  · by_cases h2 : n ≤ 255
    · rw [decide_eq_true (And.intro h1 h2)]
      go_enter Try.func51, Try.ntmps51
      go_wp2
      go_ret
      exact ⟨rfl, rfl⟩
    · rw [decide_eq_false (fun h => h2 h.2)]
      go_enter Try.func51, Try.ntmps51
      go_wp2
      go_ret
      exact ⟨rfl, rfl⟩
  · rw [decide_eq_false (fun h => h1 h.1)]
    go_enter Try.func51, Try.ntmps51
    go_wp2
    go_ret
    exact ⟨rfl, rfl⟩
theorem counts_no (n : Nat) (h : ¬ (1 ≤ n ∧ n ≤ 255)) (w : World) : Calls Try.prog 51 #[.int .i64 (n : Int)] w fun e w' => e = .returned (.bool false) ∧ w' = w := by
  have := counts_int (n : Int) w
  rwa [decide_eq_false (by omega)] at this

/-- What a function tells of a row, whatever was laid since. -/
def RowFn (w : World) (g : Nat) (q : Value) (M : List (List UInt8)) (p : List UInt8 → Bool) : Prop :=
  ∀ (W : World) (Ai : Option Addr) (ci : Nat) (l : List UInt8), Below w.heap.size w W → l ∈ M → Lies W (fun _ => True) Ai l.length ci (bc l) →
    Calls Try.prog g #[.slice Ai l.length ci, q] W fun e w' => e = .returned (.bool (p l)) ∧ Below W.heap.size W w'
/-- The first row of which it tells so, or -1. -/
def idxL (p : List UInt8 → Bool) (M : List (List UInt8)) : Int := if M.any p then (M.findIdx p : Int) else -1
theorem idx_at {p : List UInt8 → Bool} {M : List (List UInt8)} {k : Nat} {r : List UInt8} (hr : M[k]? = some r) (hp : p r = true) (hno : ∀ (j : Nat) (r' : List UInt8), j < k → M[j]? = some r' → p r' = false) : idxL p M = (k : Int) := by
  obtain ⟨hk, rfl⟩ := List.getElem?_eq_some_iff.1 hr
  have h1 : M.any p = true := List.any_eq_true.2 ⟨_, List.getElem_mem hk, hp⟩
  have h2 : M.findIdx p = k := by
    rw [List.findIdx_eq hk]
    exact ⟨hp, fun j hj => hno j _ hj (List.getElem?_eq_getElem _)⟩
  rw [idxL, if_pos h1, h2]
theorem idx_none {p : List UInt8 → Bool} {M : List (List UInt8)} (hno : ∀ (j : Nat) (r' : List UInt8), M[j]? = some r' → p r' = false) : idxL p M = -1 := by
  rw [idxL, if_neg]
  intro h
  obtain ⟨r, hr, hp⟩ := List.any_eq_true.1 h
  obtain ⟨j, hj⟩ := List.getElem?_of_mem hr
  rw [hno j r hj] at hp
  cases hp

set_option maxRecDepth 100000 in
set_option maxHeartbeats 1000000 in
theorem index_says (w : World) (A : Option Addr) (n c : Nat) (M : List (List UInt8)) (hM : Mtx w A n c M) (g : Nat) (q : Value) (p : List UInt8 → Bool) (eg : ∀ args w, (callFunc g args).run Try.prog w = .ok (.enter g args) w) (hF : RowFn w g q M p) (hn : n ≤ 2000) :
    Calls Try.prog 34 #[.slice A n c, .func (.func g) #[] #[q]] w fun e w' => e = .returned (.int .i64 (idxL p M)) ∧ Below w.heap.size w w' := by
  have hl := hM.len
  have HM := Lib.hid hM
  have HF := Lib.hid hF
  clear hM hF
  go_enter Try.func34, Try.ntmps34
  go_wp2_with fail
  go_loopw [8] (fun i wr => ∃ k : Nat, k ≤ n ∧ i = .int .i64 (k : Int) ∧ Hid ((∀ j r', j < k → M[j]? = some r' → p r' = false) ∧ Below w.heap.size w wr)) (fun i _ => n - (intOf i).toNat)
  case atStart => exact ⟨0, by omega, rfl, Lib.hid ⟨fun j r' h => by omega, Below.refl _ _⟩⟩
  case round =>
    obtain ⟨k, hk, rfl, H⟩ := hrel
    by_cases hlt : k < n
    · have l1 : (k : Int) < (n : Int) := by omega
      obtain ⟨r, hr⟩ : ∃ r, M[k]? = some r := ⟨_, List.getElem?_eq_getElem (by omega)⟩
      obtain ⟨b, off, Ak, ck, hA, hb, hck, hlk⟩ := HM.out.row hr
      subst hA
      have hck' : wr.cell? ⟨b, off + k, none⟩ = some (.slice Ak r.length ck) := (H.out.2.cell (p := ⟨b, off + k, none⟩) hb).trans hck
      have HC := Lib.hid (HF.out wr Ak ck r H.out.2 (List.mem_of_getElem? hr) (hlk.below H.out.2))
      have HR := Lib.hid hr
      obtain ⟨lr, hlr⟩ : ∃ t, r.length = t := ⟨_, rfl⟩
      rw [hlr] at hck' HC
      clear hlk hck hb hr hlr
      rcases Bool.eq_false_or_eq_true (p r) with hp | hp
      · rw [hp] at HC
        have HRES := Lib.hid (idx_at HR.out hp H.out.1)
        go_wp2_with (go_at_fn g; refine HC.out.mono ?_; rintro e wn ⟨rfl, hbn⟩; have HBN := Lib.hid hbn; clear hbn)
        go_ret
        refine ⟨?_, H.out.2.trans (HBN.out.mono H.out.2.size)⟩
        rw [HRES.out]
        rfl
      · rw [hp] at HC
        have HP := Lib.hid hp
        clear hp
        go_wp2_with (go_at_fn g; refine HC.out.mono ?_; rintro e wn ⟨rfl, hbn⟩; have HBN := Lib.hid hbn; clear hbn)
        go_roundw
        case rel =>
          refine ⟨k + 1, by omega, by go_num, Lib.hid ⟨fun j r' hj hr' => ?_, H.out.2.trans (HBN.out.mono H.out.2.size)⟩⟩
          rcases Nat.lt_or_ge j k with h2 | h2
          · exact H.out.1 j r' h2 hr'
          · obtain rfl : j = k := by omega
            rw [HR.out] at hr'
            cases hr'
            exact HP.out
        case measure => simp [intOf]; omega
    · obtain rfl : k = n := by omega
      have l1 : ¬ (k : Int) < (k : Int) := by omega
      have HRES := Lib.hid (show idxL p M = -1 from idx_none (fun j r' hr' => H.out.1 j r' (by have := (List.getElem?_eq_some_iff.1 hr').1; omega) hr'))
      have HB := Lib.hid H.out.2
      clear H
      go_wp2
      go_ret
      refine ⟨?_, HB.out⟩
      rw [HRES.out]
      rfl

theorem idx_any (p : List UInt8 → Bool) (M : List (List UInt8)) : decide (0 ≤ idxL p M) = M.any p := by
  unfold idxL
  cases h : M.any p with
  | true => simp
  | false => simp
set_option maxRecDepth 100000 in
theorem contains_says (w : World) (A : Option Addr) (n c : Nat) (M : List (List UInt8)) (hM : Mtx w A n c M) (g : Nat) (q : Value) (p : List UInt8 → Bool) (eg : ∀ args w, (callFunc g args).run Try.prog w = .ok (.enter g args) w) (hF : RowFn w g q M p) (hn : n ≤ 2000) :
    Calls Try.prog 21 #[.slice A n c, .func (.func g) #[] #[q]] w fun e w' => e = .returned (.bool (M.any p)) ∧ Below w.heap.size w w' := by
  rw [← idx_any]
  have HI := Lib.hid (index_says w A n c M hM g q p eg hF hn)
  clear hM hF
  go_enter Try.func21, Try.ntmps21
  go_wp2_with (go_at_call 34; refine HI.out.mono ?_; rintro e wn ⟨rfl, hbn⟩; have HBN := Lib.hid hbn; clear hbn)
  go_ret
  exact ⟨rfl, HBN.out⟩

/-- All rows are as long as the first one. -/
def levelB (M : List (List UInt8)) : Bool := M.all (fun r => r.length == (M.headD []).length)
theorem level_any (M : List (List UInt8)) : (!M.any (fun r => r.length != (M.headD []).length)) = levelB M := by
  unfold levelB
  rw [List.not_any_eq_all_not]
  congr 1
  funext r
  simp [bne]

set_option maxRecDepth 100000 in
set_option maxHeartbeats 1000000 in
theorem level1_says (W : World) (g : Nat) (A : Option Addr) (n c : Nat) (M : List (List UInt8)) (hg : W.cell? ⟨g, 0, none⟩ = some (.slice A n c)) (hM : Mtx W A n c M) (Ai : Option Addr) (ci : Nat) (l : List UInt8) (hl : l ∈ M) :
    Calls Try.prog 61 #[.slice Ai l.length ci, .pointer (some ⟨g, 0, none⟩)] W fun e w' => e = .returned (.bool (l.length != (M.headD []).length)) ∧ Below W.heap.size W w' := by
  have hn : 0 < n := by
    rw [← hM.len]
    exact List.length_pos_of_mem hl
  obtain ⟨r0, hr0⟩ : ∃ r, M[0]? = some r := ⟨_, List.getElem?_eq_getElem (by rw [hM.len]; exact hn)⟩
  have hhd : M.headD [] = r0 := by
    cases M with
    | nil => simp at hr0
    | cons a t => simpa using hr0
  obtain ⟨b, off, A0, c0, hA, hb, hc0, _⟩ := hM.row hr0
  subst hA
  rw [hhd, Nat.add_zero] at *
  have hn' : (0 : Int) < (n : Int) := by omega
  have he : (l.length != r0.length) = ((l.length : Int) != (r0.length : Int)) := by
    rcases Nat.lt_trichotomy l.length r0.length with h | h | h
    · rw [show (l.length != r0.length) = true by simp; omega, show ((l.length : Int) != (r0.length : Int)) = true by simp; omega]
    · rw [h]; simp
    · rw [show (l.length != r0.length) = true by simp; omega, show ((l.length : Int) != (r0.length : Int)) = true by simp; omega]
  rw [he]
  generalize l.length = x
  generalize r0.length = y at hc0 ⊢
  clear hM hr0 hl hhd he
  go_enter Try.func61, Try.ntmps61
  go_wp2
  go_ret
  exact ⟨rfl, Below.refl _ _⟩

set_option maxRecDepth 100000 in
set_option maxHeartbeats 1000000 in
theorem level_says (w : World) (A : Option Addr) (n c : Nat) (M : List (List UInt8)) (hM : Mtx w A n c M) (hn : n ≤ 2000) : Calls Try.prog 48 #[.slice A n c] w fun e w' => e = .returned (.bool (levelB M)) ∧ Below w.heap.size w w' := by
  rw [← level_any]
  have hb1 : Below w.heap.size w (w.alloc (.cells #[.slice A n c] 22)) := (Below.refl _ w).alloc (Nat.le_refl _) _
  have hF : RowFn (w.alloc (.cells #[.slice A n c] 22)) 61 (.pointer (some ⟨w.heap.size, 0, none⟩)) M (fun r => r.length != (M.headD []).length) := fun W Ai ci l hW hl _ =>
    level1_says W w.heap.size A n c M ((hW.cell (p := ⟨w.heap.size, 0, none⟩) (by simp)).trans (cell_one_new w _ _ 0 _ rfl)) ((hM.below hb1).below hW) Ai ci l hl
  have HC := Lib.hid (contains_says _ A n c M (hM.below hb1) _ _ _ (enters_of Try.func61 (by kernel_rfl) rfl) hF hn)
  have HB := Lib.hid hb1
  clear hM hb1 hF
  generalize (M.any fun r => r.length != (M.headD []).length) = bb at HC ⊢
  go_enter Try.func48, Try.ntmps48
  go_wp2_with (go_at_call 21; refine HC.out.mono ?_; rintro e wn ⟨rfl, hbn⟩; have HBN := Lib.hid hbn; clear hbn)
  go_ret
  exact ⟨rfl, HB.out.trans (HBN.out.mono HB.out.size)⟩

theorem right_parts (M : List (List UInt8)) : decide (RightM M) = (decide (1 ≤ M.length ∧ M.length ≤ 255) && (decide (1 ≤ (M.headD []).length ∧ (M.headD []).length ≤ 255) && levelB M)) := by
  apply Bool.eq_iff_iff.2
  rw [decide_eq_true_eq]
  simp only [decide_eq_true_eq, Bool.and_eq_true, levelB, List.all_eq_true, beq_iff_eq]
  unfold RightM rowOk
  constructor
  · rintro ⟨h1, h2, h3⟩
    refine ⟨⟨h1, h2⟩, ?_, fun r hr => (h3 r hr).1⟩
    cases M with
    | nil => simp at h1
    | cons a t => exact (h3 a (List.mem_cons_self ..)).2
  · rintro ⟨⟨h1, h2⟩, h3, h4⟩
    exact ⟨h1, h2, fun r hr => ⟨h4 r hr, by rw [h4 r hr]; exact h3⟩⟩

set_option maxRecDepth 100000 in
set_option maxHeartbeats 1000000 in
theorem right_says (w : World) (A : Option Addr) (n c : Nat) (M : List (List UInt8)) (hM : Mtx w A n c M) (hn : n ≤ 2000) : Calls Try.prog 47 #[.slice A n c] w fun e w' => e = .returned (.bool (decide (RightM M))) ∧ Below w.heap.size w w' := by
  rw [right_parts, hM.len]
  by_cases h1 : 1 ≤ n ∧ n ≤ 255
  · rw [decide_eq_true h1, Bool.true_and]
    obtain ⟨r0, hr0⟩ : ∃ r, M[0]? = some r := ⟨_, List.getElem?_eq_getElem (by rw [hM.len]; exact h1.1)⟩
    have hhd : M.headD [] = r0 := by
      cases M with
      | nil => simp at hr0
      | cons a t => simpa using hr0
    rw [hhd]
    obtain ⟨b, off, A0, c0, hA, hb, hc0, _⟩ := hM.row hr0
    subst hA
    rw [Nat.add_zero] at hc0
    have HL := Lib.hid (level_says w _ n c M hM hn)
    have HC1 := Lib.hid (counts_yes n h1 w)
    have hp0 : 0 < n := by omega
    have hp0' : (0 : Int) < (n : Int) := by omega
    clear hM hr0 hhd h1
    generalize r0.length = x at hc0 ⊢
    by_cases h2 : 1 ≤ x ∧ x ≤ 255
    · rw [decide_eq_true h2, Bool.true_and]
      have HC2 := Lib.hid (counts_yes x h2 w)
      clear h2
      go_enter Try.func47, Try.ntmps47
      go_wp2_with (first
        | (go_at_call 51; with_reducible refine HC1.out.mono ?_; rintro e wn ⟨rfl, hwn⟩; obtain rfl : w = wn := hwn.symm)
        | (go_at_call 51; with_reducible refine HC2.out.mono ?_; rintro e wn ⟨rfl, hwn⟩; obtain rfl : w = wn := hwn.symm)
        | (go_at_call 48; refine HL.out.mono ?_; rintro e wn ⟨rfl, hbn⟩; have HBN := Lib.hid hbn; clear hbn))
      go_ret
      refine ⟨?_, HBN.out⟩
      first | rfl | (cases levelB M <;> rfl)
    · rw [decide_eq_false h2, Bool.false_and]
      have HC2 := Lib.hid (counts_no x h2 w)
      clear h2
      go_enter Try.func47, Try.ntmps47
      go_wp2_with (first
        | (go_at_call 51; with_reducible refine HC1.out.mono ?_; rintro e wn ⟨rfl, hwn⟩; obtain rfl : w = wn := hwn.symm)
        | (go_at_call 51; with_reducible refine HC2.out.mono ?_; rintro e wn ⟨rfl, hwn⟩; obtain rfl : w = wn := hwn.symm))
      go_ret
      exact ⟨rfl, Below.refl _ _⟩
  · rw [decide_eq_false h1, Bool.false_and]
    have HC1 := Lib.hid (counts_no n h1 w)
    clear h1 hM
    go_enter Try.func47, Try.ntmps47
    go_wp2_with (go_at_call 51; refine HC1.out.mono ?_; rintro e wn ⟨rfl, hwn⟩; obtain rfl : w = wn := hwn.symm)
    go_ret
    exact ⟨rfl, Below.refl _ _⟩
end Go.Proofs.Ytpbkabgjpieggaa


namespace Go.Proofs.Ytpbkabgjpieggaa
open Go.RowKit

/-- A row, filled as far as j. -/
def fillTo (F : Nat → UInt8) (j i : Nat) : UInt8 := if i < j then F i else 0
theorem fill_zero (n : Nat) (F : Nat → UInt8) : byRule n (fillTo F 0) = List.replicate n 0 := by
  rw [← byRule_zero]
  rfl
theorem fill_step (n j : Nat) (F : Nat → UInt8) : (byRule n (fillTo F j)).set j (F j) = byRule n (fillTo F (j + 1)) := by
  have : F j = fillTo F (j + 1) j := by simp [fillTo]
  rw [this]
  refine byRule_set n _ _ j (fun i hi => ?_)
  unfold fillTo
  by_cases h : i < j
  · rw [if_pos h, if_pos (by omega)]
  · rw [if_neg h, if_neg (by omega)]
theorem fill_all (n : Nat) (F : Nat → UInt8) : byRule n (fillTo F n) = byRule n F := by
  unfold byRule
  refine List.map_congr_left (fun i hi => ?_)
  have := List.mem_range.1 hi
  simp [fillTo, this]

/-- Row k is being filled: as far as j. -/
structure FillAt (w wr : World) (rows cols k h : Nat) (F : Nat → Nat → UInt8) (j : Nat) : Prop where
  rows : RowsN wr w.heap.size rows (fun b => b ≠ w.heap.size ∧ b ≠ h) (matBy k cols F)
  spot : wr.cell? ⟨w.heap.size, k, none⟩ = some (.slice (some ⟨h, 0, none⟩) cols cols)
  box : Box wr h 5 (bc (byRule cols (fillTo (F k) j))).toArray
  bel : Below w.heap.size w wr

set_option maxRecDepth 100000 in
set_option maxHeartbeats 4000000 in
theorem made_says (rows cols : Nat) (hr : rows ≤ 300) (hc : cols ≤ 300) (g : Nat) (lb : Array Value) (F : Nat → Nat → UInt8) (eg : ∀ args w, (callFunc g args).run Try.prog w = .ok (.enter g args) w) (w : World)
    (hF : ∀ (W : World) (i j : Nat), i < rows → j < cols → Below w.heap.size w W → Calls Try.prog g (#[.int .i64 (i : Int), .int .i64 (j : Int)] ++ lb) W fun e w' => e = .returned (.int .u8 ((F i j).toNat : Int)) ∧ Below W.heap.size W w') :
    Calls Try.prog 55 #[.int .i64 (rows : Int), .int .i64 (cols : Int), .func (.func g) #[] lb] w (GivesM w (matBy rows cols F)) := by
  have HF := Lib.hid hF
  clear hF
  obtain ⟨i0, hi0, hz0, hz1, hz2⟩ := info_parts Try.byteInfo
  obtain ⟨j0, hj0, jz0, jz1, jz2⟩ := info_parts rowInfo
  go_enter Try.func55, Try.ntmps55
  go_upto_region 2 with (at_make; refine wpList_make_full _ rfl _ _ 64 rfl w.heap.size 31 j0 _ 1 Try.underlying64 hj0 jz0 jz1 _ _ _ _ rows rfl rfl rfl rfl (by rw [jz2]; omega) (by unfold maxLen; omega) (Nat.le_refl _) ?_; intro w1 hown1 hg1)
  have HB1 := Lib.hid (And.intro (rows_made (fun b => b ≠ w.heap.size) hown1) ((Below.refl w.heap.size w).grown hg1 (Nat.le_refl _) (fun k hk => by cases hk)))
  clear hown1 hg1
  go_wp2_with fail
  go_loopw [14] (fun i wr => ∃ (k : Nat), k ≤ rows ∧ i = .int .i64 (k : Int) ∧ Hid (RowsN wr w.heap.size rows (fun b => b ≠ w.heap.size) (matBy k cols F) ∧ Below w.heap.size w wr)) (fun i _ => rows - (intOf i).toNat)
  case atStart => exact ⟨0, by omega, rfl, HB1⟩
  case round =>
    obtain ⟨k, hk, rfl, H⟩ := hrel
    by_cases hlt : k < rows
    · have l1 : (k : Int) < (rows : Int) := by omega
      go_upto_region 6 with (at_make; refine wpList_make_full wr rfl _ _ 31 rfl wr.heap.size 5 i0 _ 1 Try.underlying31 hi0 hz0 hz1 _ _ _ _ cols rfl rfl rfl rfl (by rw [hz2]; omega) (by unfold maxLen; omega) (Nat.le_refl _) ?_; intro w2 hown2 hg2; rw [zero_made] at hown2; have hB2 := (Below.refl wr.heap.size wr).grown hg2 (Nat.le_refl _) (fun k hk => by cases hk); have hR2 := H.out.1.below hB2; obtain ⟨⟨v0, hv0⟩, hf0⟩ := hR2.place hlt; have HX := Lib.hid (And.intro (box_own hown2) (And.intro hB2 hR2)); clear hown2 hg2 hB2 hR2)
      have hgh : w.heap.size < wr.heap.size := H.out.1.lt
      generalize hw3 : w2.setCell (⟨w.heap.size, k, none⟩ : Addr) (Value.slice (some ⟨wr.heap.size, 0, none⟩) cols cols) = w3
      have H3 := Lib.hid (show FillAt w w3 rows cols k wr.heap.size F 0 from by
        subst hw3
        refine ⟨?_, World.cell?_setCell_same _ _ _ hv0, ?_, ?_⟩
        · exact ((H.out.1.weak (N' := fun b => b ≠ w.heap.size ∧ b ≠ wr.heap.size) (fun b hb hn => ⟨hn, by omega⟩)).below HX.out.2.1).beyond (fun h => h.1 rfl) (by rw [matBy_length]; exact Nat.le_refl _) _
        · rw [fill_zero]
          exact box_off HX.out.1 (by simp; omega) _
        · exact (H.out.2.trans (HX.out.2.1.mono H.out.2.size)).setCell (p := ⟨w.heap.size, k, none⟩) (Nat.le_refl _) _)
      have hc3 := H3.out.spot
      generalize hh : wr.heap.size = h at H3 hc3 hgh
      clear hw3 hv0 hf0 HX H
      go_wp2_with fail
      go_loopw [27] (fun j wr => ∃ (s : Nat), s ≤ cols ∧ j = .int .i64 (s : Int) ∧ Hid (FillAt w wr rows cols k h F s)) (fun j _ => cols - (intOf j).toNat)
      case atStart => exact ⟨0, by omega, rfl, H3⟩
      case round =>
        obtain ⟨s, hs, rfl, H⟩ := hrel
        clear hc3 hh
        by_cases hlt2 : s < cols
        · have l2 : (s : Int) < (cols : Int) := by omega
          have hc3 := H.out.spot
          go_wp2_with fail
          refine wp_region_held_drew (S := fun w' => w'.cell? ⟨w.heap.size, k, none⟩ = some (.slice (some ⟨h, 0, none⟩) cols cols)) (by kernel_rfl) hc3 (fun hHeld => ?_)
          refine take_run 0 30 (v := ?_) rfl rfl (by kernel_rfl) (by kernel_rfl) (by kernel_rfl) (fun _ _ _ h => h) (by rfl) ?_ (by assumption) ?_
          rotate_left
          · (intro wq hSw; (try dsimp only at hSw); go_simp; first | done | with_reducible rfl)
          simp only [Act.put, List.setIfInBounds_toArray, List.set_cons_zero, List.set_cons_succ]
          refine take_run 1 31 (v := ?_) rfl rfl (by kernel_rfl) (by kernel_rfl) (by kernel_rfl) (fun _ _ _ h => h) (by rfl) ?_ (by assumption) ?_
          rotate_left
          · (intro wq hSw; (try dsimp only at hSw); go_simp; first | done | with_reducible rfl)
          simp only [Act.put, List.setIfInBounds_toArray, List.set_cons_zero, List.set_cons_succ]
          refine take_run 2 32 (v := ?_) rfl rfl (by kernel_rfl) (by kernel_rfl) (by kernel_rfl) (fun _ _ _ h => h) (by rfl) ?_ (by assumption) ?_
          rotate_left
          · (intro wq hSw; (try dsimp only at hSw); go_simp; first | done | with_reducible rfl)
          simp only [Act.put, List.setIfInBounds_toArray, List.set_cons_zero, List.set_cons_succ]
          refine take_run 3 33 (v := ?_) rfl rfl (by kernel_rfl) (by kernel_rfl) (by kernel_rfl) (fun _ _ _ h => h) (by rfl) ?_ (by assumption) ?_
          rotate_left
          · (intro wq hSw; (try dsimp only at hSw); go_simp; first | done | with_reducible rfl)
          simp only [Act.put, List.setIfInBounds_toArray, List.set_cons_zero, List.set_cons_succ]
          refine take_run 4 34 (v := ?_) rfl rfl (by kernel_rfl) (by kernel_rfl) (by kernel_rfl) (fun _ _ _ h => h) (by rfl) ?_ (by assumption) ?_
          rotate_left
          · (intro wq hSw; (try dsimp only at hSw); go_simp; first | done | with_reducible rfl)
          simp only [Act.put, List.setIfInBounds_toArray, List.set_cons_zero, List.set_cons_succ]
          refine take_run 5 35 (v := ?_) rfl rfl (by kernel_rfl) (by kernel_rfl) (by kernel_rfl) (fun _ _ _ h => h) (by rfl) ?_ (by assumption) ?_
          rotate_left
          · (intro wq hSw; (try dsimp only at hSw); go_simp; first | done | with_reducible rfl)
          simp only [Act.put, List.setIfInBounds_toArray, List.set_cons_zero, List.set_cons_succ]
          refine take_run 6 36 (v := ?_) rfl rfl (by kernel_rfl) (by kernel_rfl) (by kernel_rfl) (fun _ _ _ h => h) (by rfl) ?_ (by assumption) ?_
          rotate_left
          · (intro wq hSw; (try dsimp only at hSw); go_simp; first | done | with_reducible rfl)
          simp only [Act.put, List.setIfInBounds_toArray, List.set_cons_zero, List.set_cons_succ]
          refine take_run 7 37 (v := ?_) rfl rfl (by kernel_rfl) (by kernel_rfl) (by kernel_rfl) (fun _ _ _ h => h) (by rfl) ?_ (by assumption) ?_
          rotate_left
          · (intro wq hSw; (try dsimp only at hSw); go_simp; first | done | with_reducible rfl)
          simp only [Act.put, List.setIfInBounds_toArray, List.set_cons_zero, List.set_cons_succ]
          refine wpAnyH_ready (rs := [8]) (by kernel_rfl) (by simp) ?_
          refine AllReadyH.cons rfl (fun K hK => ?_) AllReadyH.nil
          go_simp
          refine (HF.out wr.drew k s hlt hlt2 H.out.bel.drew).mono ?_
          rintro e wn ⟨rfl, hbn⟩
          have HBN := Lib.hid (show Below wr.heap.size wr wn from (Below.refl _ wr).drew.trans hbn)
          clear hbn
          refine hK.out _ _ ((HBN.out.cell (p := ⟨w.heap.size, k, none⟩) H.out.rows.lt).trans hc3) (fun hHeld => ?_)
          clear hK K
          refine take_run 9 39 (v := ?_) rfl rfl (by kernel_rfl) (by kernel_rfl) (by kernel_rfl) (fun _ _ _ h => h) (by rfl) ?_ (by assumption) ?_
          rotate_left
          · (intro wq hSw; (try dsimp only at hSw); go_simp; first | done | with_reducible rfl)
          simp only [Act.put, List.setIfInBounds_toArray, List.set_cons_zero, List.set_cons_succ]
          have hbx := H.out.box.below HBN.out (Box.lt H.out.box)
          have hca := box_at hbx (byRule_at cols (fillTo (F k) s) s hlt2)
          have hfa := Box.frozen hbx s
          have HBX := Lib.hid hbx
          clear hbx
          refine wpAnyH_ready (rs := [10]) (by kernel_rfl) (by simp) ?_
          refine AllReadyH.cons rfl (fun K hK => ?_) AllReadyH.nil
          go_simp
          refine hK.out _ _ ?_ (fun _ => ?_)
          · exact (World.cell?_setCell_other _ _ _ _ (fun e => by injection e with e; omega)).trans hHeld
          clear hK K
          refine wpAnyH_done (by kernel_rfl) ?_ _
          go_wp2
          go_roundw
          case rel =>
            refine ⟨s + 1, by omega, by go_num, Lib.hid ⟨?_, ?_, ?_, ?_⟩⟩
            · exact (H.out.rows.below HBN.out).off (p := ⟨h, s, none⟩) (fun hh => hh.2 rfl) (by simp; omega) _
            · exact (World.cell?_setCell_other _ _ _ _ (fun e => by injection e with e; omega)).trans hHeld
            · rw [← fill_step]
              exact box_set HBX.out s (F k s)
            · exact (H.out.bel.trans (HBN.out.mono H.out.bel.size)).setCell (p := ⟨h, s, none⟩) (by simp; omega) _
          case measure => simp [intOf]; omega
        · obtain rfl : s = cols := by omega
          have l2 : ¬ (s : Int) < (s : Int) := by omega
          have hc3 := H.out.spot
          go_wp2
          go_roundw
          case rel =>
            refine ⟨k + 1, by omega, by go_num, Lib.hid ⟨?_, H.out.bel⟩⟩
            rw [matBy_succ]
            have h1 := H.out.box
            rw [fill_all] at h1
            refine (H.out.rows.weak (fun b _ hn => hn.1)).more (by rw [matBy_length]; exact hlt) (m := s) (byRule_length _ _) (by rw [matBy_length]; exact hc3) (lies_box h1 (by omega) (byRule_length _ _))
          case measure => simp [intOf]; omega
    · obtain rfl : k = rows := by omega
      have l1 : ¬ (k : Int) < (k : Int) := by omega
      go_wp2
      go_ret
      exact ⟨_, _, _, rfl, H.out.1.mtx (matBy_length _ _ _) (Nat.le_refl _), H.out.2⟩
end Go.Proofs.Ytpbkabgjpieggaa


namespace Go.Proofs.Ytpbkabgjpieggaa
open Go.RowKit Go.Shelf

/-- A matrix handed back beside an error's number. -/
def GivesE (w : World) (M : List (List UInt8)) (f : Int) (e : Ending) (w' : World) : Prop := ∃ A n c, e = .returned (.tuple #[.slice A n c, .int .i64 f]) ∧ Mtx w' A n c M ∧ Below w.heap.size w w'
/-- How many columns. -/
def colsOf (M : List (List UInt8)) : Nat := (M.headD []).length
/-- Rows and columns of what is right, else none. -/
def sizeL (M : List (List UInt8)) : Nat × Nat := if RightM M then (M.length, colsOf M) else (0, 0)

set_option maxRecDepth 100000 in
set_option maxHeartbeats 1000000 in
theorem size_says (w : World) (A : Option Addr) (n c : Nat) (M : List (List UInt8)) (hM : Mtx w A n c M) (hn : n ≤ 2000) : Calls Try.prog 54 #[.slice A n c] w fun e w' => e = .returned (.tuple #[.int .i64 ((sizeL M).1 : Int), .int .i64 ((sizeL M).2 : Int)]) ∧ Below w.heap.size w w' := by
  have HR := Lib.hid (right_says w A n c M hM hn)
  have hl := hM.len
  have HM := Lib.hid hM
  clear hM
  by_cases hr : RightM M
  · rw [decide_eq_true hr] at HR
    rw [sizeL, if_pos hr, hl]
    obtain ⟨r0, hr0⟩ : ∃ r, M[0]? = some r := ⟨_, List.getElem?_eq_getElem (by have := hr.1; omega)⟩
    have hhd : M.headD [] = r0 := by
      cases M with
      | nil => simp at hr0
      | cons a t => simpa using hr0
    have hn0 : 0 < n := by have := hr.1; omega
    obtain ⟨b, off, A0, c0, hA, hb, hc0, _⟩ := HM.out.row hr0
    subst hA
    rw [colsOf, hhd]
    rw [Nat.add_zero] at hc0
    generalize r0.length = x at hc0 ⊢
    clear hr hr0 hhd hl HM
    go_enter Try.func54, Try.ntmps54
    go_wp2_with (go_at_call 47; refine HR.out.mono ?_; rintro e wn ⟨rfl, hbn⟩; have hcn := grows_cell ((hbn.cell (p := ⟨b, off, none⟩) hb).trans hc0) (Nat.lt_of_lt_of_le hb hbn.size); have HBN := Lib.hid hbn; clear hbn)
    refine wp_region_grows (by kernel_rfl) (by kernel_rfl) ?_
    repeat (first | quiet_step (fail))
    refine wpQuiet_nil ?_
    rintro w2 ⟨⟨_, hw2⟩, rfl⟩
    have HW := Lib.hid (HBN.out.trans (hw2.mono HBN.out.size))
    clear hw2 hcn
    go_wp2
    go_ret2
    exact ⟨rfl, HW.out⟩
  · rw [decide_eq_false hr] at HR
    rw [sizeL, if_neg hr]
    go_enter Try.func54, Try.ntmps54
    go_wp2_with (go_at_call 47; refine HR.out.mono ?_; rintro e wn ⟨rfl, hbn⟩; have HBN := Lib.hid hbn; clear hbn)
    go_ret2
    exact ⟨rfl, HBN.out⟩

/-- The one that changes nothing. -/
def oneF (i j : Nat) : UInt8 := if i = j then 1 else 0
set_option maxRecDepth 100000 in
theorem one1_says (W : World) (i j : Nat) : Calls Try.prog 66 #[.int .i64 (i : Int), .int .i64 (j : Int)] W fun e w' => e = .returned (.int .u8 ((oneF i j).toNat : Int)) ∧ Below W.heap.size W w' := by
  by_cases h : i = j
  · subst h
    rw [oneF, if_pos rfl]
    go_enter Try.func66, Try.ntmps66
    go_wp2
    go_ret
    exact ⟨rfl, Below.refl _ _⟩
  · rw [oneF, if_neg h]
    have h' : ¬ (i : Int) = (j : Int) := by omega
    clear h
    go_enter Try.func66, Try.ntmps66
    go_wp2
    go_ret
    exact ⟨rfl, Below.refl _ _⟩
set_option maxRecDepth 100000 in
theorem one_yes (n : Nat) (h : 1 ≤ n ∧ n ≤ 255) (w : World) : Calls Try.prog 57 #[.int .i64 (n : Int)] w (GivesE w (matBy n n oneF) 0) := by
  have HC := Lib.hid (counts_yes n h w)
  have HM := Lib.hid (made_says n n (by omega) (by omega) 66 #[] oneF (enters_of Try.func66 (by kernel_rfl) rfl) w (fun W i j _ _ _ => one1_says W i j))
  clear h
  go_enter Try.func57, Try.ntmps57
  go_wp2_with (first
    | (go_at_call 51; refine HC.out.mono ?_; rintro e wn ⟨rfl, hwn⟩; obtain rfl : w = wn := hwn.symm)
    | (go_at_call 55; refine HM.out.mono ?_; rintro e wm ⟨A, n1, c, rfl, hm, hbm⟩; have HR := Lib.hid (And.intro hm hbm); clear hm hbm))
  go_ret2
  exact ⟨_, _, _, rfl, HR.out⟩
set_option maxRecDepth 100000 in
theorem one_no (n : Int) (h : ¬ (1 ≤ n ∧ n ≤ 255)) (w : World) : Calls Try.prog 57 #[.int .i64 n] w (GivesE w [] 2) := by
  have hc := counts_int n w
  rw [decide_eq_false h] at hc
  go_enter Try.func57, Try.ntmps57
  go_wp2_with (go_at_call 51; refine hc.mono ?_; rintro e wn ⟨rfl, hwn⟩; obtain rfl : w = wn := hwn.symm)
  go_ret2
  exact ⟨_, _, _, rfl, Mtx.nil _ _ _, Below.refl _ _⟩

/-- A Cauchy matrix's number. -/
def cauF (cols i j : Nat) : UInt8 := Gf.inv (UInt8.ofNat (i + cols) ^^^ UInt8.ofNat j)
theorem wrap8 (n : Nat) : IntKind.u8.wrap (n : Int) = ((UInt8.ofNat n).toNat : Int) := by
  rw [IntKind.wrap_u8', UInt8.toNat_ofNat']
  omega
set_option maxRecDepth 100000 in
set_option maxHeartbeats 1000000 in
theorem cauchy1_says (W : World) (P : Option Addr) (g1 g2 cols i j : Nat) (h1 : W.cell? ⟨g1, 0, none⟩ = some (.pointer P)) (h2 : W.cell? ⟨g2, 0, none⟩ = some (.int .i64 (cols : Int))) (hg1 : g1 < W.heap.size) (hg2 : g2 < W.heap.size) (hc : cols ≤ 255) (hi : i ≤ 255) :
    Calls Try.prog 63 #[.int .i64 (i : Int), .int .i64 (j : Int), .pointer (some ⟨g1, 0, none⟩), .pointer (some ⟨g2, 0, none⟩)] W fun e w' => e = .returned (.int .u8 ((cauF cols i j).toNat : Int)) ∧ Below W.heap.size W w' := by
  have hc1 := grows_cell h1 hg1
  have hc2 := grows_cell h2 hg2
  have hs : IntKind.i64.wrap ((i : Int) + (cols : Int)) = ((i + cols : Nat) : Int) := by rw [IntWalk.i64_in _ (by omega)]; omega
  have hx : IntKind.u8.wrap ((i : Int) + (cols : Int)) = ((UInt8.ofNat (i + cols)).toNat : Int) := by rw [← wrap8]; simp
  have hy : IntKind.u8.wrap (j : Int) = ((UInt8.ofNat j).toNat : Int) := wrap8 j
  unfold cauF
  generalize UInt8.ofNat (i + cols) = x at hx ⊢
  generalize UInt8.ofNat j = y at hy ⊢
  have had : ∀ q : Grows W, _ := fun q => gfB.addG P x y q
  have hin : ∀ q : Grows W, Calls Try.prog 64 #[.pointer P, .int .u8 ((x ^^^ y).toNat : Int)] q.val fun e w'' => e = .returned (.int .u8 ((Gf.inv (x ^^^ y)).toNat : Int)) ∧ ∃ p' : Grows W, w'' = p'.val := fun q => (inv_says P (x ^^^ y) q.val).mono fun _ w'' hh => ⟨hh.1, q, hh.2⟩
  go_enter Try.func63, Try.ntmps63
  go_wp2_with fail
  refine wp_region_grows (by kernel_rfl) (by kernel_rfl) ?_
  repeat (first
    | quiet_step (first | (go_at_call 53; exact had _) | (go_at_call 64; exact hin _)))
  refine wpQuiet_nil ?_
  rintro w2 ⟨⟨_, hw2⟩, rfl⟩
  have HW := Lib.hid hw2
  clear hw2 had hin hc1 hc2
  go_wp2
  go_ret
  exact ⟨rfl, HW.out⟩

/-- Both sizes may be, and go together. -/
def cauOk (r c : Int) : Prop := (1 ≤ r ∧ r ≤ 255) ∧ (1 ≤ c ∧ c ≤ 255) ∧ r + c ≤ 256
set_option maxRecDepth 100000 in
set_option maxHeartbeats 1000000 in
theorem cauchy_yes (P : Option Addr) (rows cols : Nat) (h : cauOk rows cols) (w : World) : Calls Try.prog 50 #[.pointer P, .int .i64 (rows : Int), .int .i64 (cols : Int)] w (GivesE w (matBy rows cols (cauF cols)) 0) := by
  obtain ⟨h1, h2, h3⟩ := h
  have hb2 : Below w.heap.size w ((w.alloc (.cells #[.pointer P] 62)).alloc (.cells #[.int .i64 (cols : Int)] 3)) := ((Below.refl _ w).alloc (Nat.le_refl _) _).alloc (by simp) _
  have hp : (((w.alloc (.cells #[.pointer P] 62)).alloc (.cells #[.int .i64 (cols : Int)] 3))).cell? ⟨w.heap.size, 0, none⟩ = some (.pointer P) := (((Below.refl _ (w.alloc (.cells #[.pointer P] 62))).alloc (Nat.le_refl _) _).cell (p := ⟨w.heap.size, 0, none⟩) (by simp)).trans (cell_one_new w _ _ 0 _ rfl)
  have hq : (((w.alloc (.cells #[.pointer P] 62)).alloc (.cells #[.int .i64 (cols : Int)] 3))).cell? ⟨w.heap.size + 1, 0, none⟩ = some (.int .i64 (cols : Int)) := by
    simp
  have hc1 := fun W => counts_yes rows (by omega) W
  have hc2 := fun W => counts_yes cols (by omega) W
  have h3' : ¬ (256 : Int) < (rows : Int) + (cols : Int) := by omega
  have hwr : IntKind.i64.wrap ((rows : Int) + (cols : Int)) = (rows : Int) + (cols : Int) := IntWalk.i64_in _ (by omega)
  have HM := Lib.hid (made_says rows cols (by omega) (by omega) 63 #[.pointer (some ⟨w.heap.size, 0, none⟩), .pointer (some ⟨w.heap.size + 1, 0, none⟩)] (cauF cols) (enters_of Try.func63 (by kernel_rfl) rfl) ((w.alloc (.cells #[.pointer P] 62)).alloc (.cells #[.int .i64 (cols : Int)] 3))
    (fun W i j hi _ hW => cauchy1_says W P w.heap.size (w.heap.size + 1) cols i j ((hW.cell (p := ⟨w.heap.size, 0, none⟩) (by simp; omega)).trans hp) ((hW.cell (p := ⟨w.heap.size + 1, 0, none⟩) (by simp)).trans hq) (Nat.lt_of_lt_of_le (by simp; omega) hW.size) (Nat.lt_of_lt_of_le (by simp) hW.size) (by omega) (by omega)))
  have HB := Lib.hid hb2
  have HC1 := Lib.hid hc1
  have HC2 := Lib.hid hc2
  clear hb2 h1 h2 h3 hc1 hc2 hp hq
  go_enter Try.func50, Try.ntmps50
  go_wp2_with (first
    | (go_at_call 51; with_reducible refine (HC1.out _).mono ?_; rintro e wn ⟨rfl, rfl⟩)
    | (go_at_call 51; with_reducible refine (HC2.out _).mono ?_; rintro e wn ⟨rfl, rfl⟩)
    | (go_at_call 55; refine HM.out.mono ?_; rintro e wm ⟨A, n1, c, rfl, hm, hbm⟩; have HR := Lib.hid (And.intro hm hbm); clear hm hbm))
  go_ret2
  exact ⟨_, _, _, rfl, HR.out.1, HB.out.trans (HR.out.2.mono HB.out.size)⟩
set_option maxRecDepth 100000 in
set_option maxHeartbeats 1000000 in
theorem cauchy_no (P : Option Addr) (r c : Int) (hr : -9223372036854775808 ≤ r ∧ r ≤ 9223372036854775807) (h : ¬ cauOk r c) (w : World) : Calls Try.prog 50 #[.pointer P, .int .i64 r, .int .i64 c] w (GivesE w [] 2) := by
  have hc1 := fun W => counts_int r W
  have hc2 := fun W => counts_int c W
  have HB := Lib.hid (show Below w.heap.size w ((w.alloc (.cells #[.pointer P] 62)).alloc (.cells #[.int .i64 c] 3)) from ((Below.refl _ w).alloc (Nat.le_refl _) _).alloc (by simp) _)
  by_cases h1 : 1 ≤ r ∧ r ≤ 255
  · by_cases h2 : 1 ≤ c ∧ c ≤ 255
    · have h3 : (256 : Int) < r + c := by
        rcases Int.lt_or_le 256 (r + c) with h4 | h4
        · exact h4
        · exact absurd ⟨h1, h2, h4⟩ h
      rw [decide_eq_true h1] at hc1
      rw [decide_eq_true h2] at hc2
      have hwr : IntKind.i64.wrap (r + c) = r + c := IntWalk.i64_in _ (by omega)
      have HC1 := Lib.hid hc1
      have HC2 := Lib.hid hc2
      clear h1 h2 h hc1 hc2
      go_enter Try.func50, Try.ntmps50
      go_wp2_with (first
        | (go_at_call 51; with_reducible refine (HC1.out _).mono ?_; rintro e wn ⟨rfl, rfl⟩)
        | (go_at_call 51; with_reducible refine (HC2.out _).mono ?_; rintro e wn ⟨rfl, rfl⟩))
      go_ret2
      exact ⟨_, _, _, rfl, Mtx.nil _ _ _, HB.out⟩
    · rw [decide_eq_true h1] at hc1
      rw [decide_eq_false h2] at hc2
      have HC1 := Lib.hid hc1
      have HC2 := Lib.hid hc2
      clear h1 h2 h hc1 hc2
      go_enter Try.func50, Try.ntmps50
      go_wp2_with (first
        | (go_at_call 51; with_reducible refine (HC1.out _).mono ?_; rintro e wn ⟨rfl, rfl⟩)
        | (go_at_call 51; with_reducible refine (HC2.out _).mono ?_; rintro e wn ⟨rfl, rfl⟩))
      go_ret2
      exact ⟨_, _, _, rfl, Mtx.nil _ _ _, HB.out⟩
  · rw [decide_eq_false h1] at hc1
    have HC1 := Lib.hid hc1
    clear h1 h hc1 hc2
    go_enter Try.func50, Try.ntmps50
    go_wp2_with (go_at_call 51; with_reducible refine (HC1.out _).mono ?_; rintro e wn ⟨rfl, rfl⟩)
    go_ret2
    exact ⟨_, _, _, rfl, Mtx.nil _ _ _, HB.out⟩
end Go.Proofs.Ytpbkabgjpieggaa

