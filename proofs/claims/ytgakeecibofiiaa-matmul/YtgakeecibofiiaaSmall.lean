/-
  The small functions of package mat: counts, level, Right, Size; slices.IndexFunc and ContainsFunc over rows.
-/
import Derived.Test.YtgakeecibofiiaaMtx
import Derived.Test.YtgakeecibofiiaaGfB
import Derived.Test.YtgakeecibofiiaaRefRight
import Derived.BigQuiet
import Derived.Shelf.Abstract
namespace Go.Proofs.Ytgakeecibofiiaa
open Go.RowKit Go.Shelf

set_option maxRecDepth 100000 in
theorem counts_yes (n : Nat) (h : 1 ≤ n ∧ n ≤ 255) (w : World) : Calls Try.prog 40 #[.int .i64 (n : Int)] w fun e w' => e = .returned (.bool true) ∧ w' = w := by
  have h1 : (1 : Int) ≤ (n : Int) := by omega
  have h2 : (n : Int) ≤ 255 := by omega
  go_enter Try.func40, Try.ntmps40
  go_wp2
  go_ret
  exact ⟨rfl, rfl⟩
set_option maxRecDepth 100000 in
theorem counts_int (n : Int) (w : World) : Calls Try.prog 40 #[.int .i64 n] w fun e w' => e = .returned (.bool (decide (1 ≤ n ∧ n ≤ 255))) ∧ w' = w := by
  by_cases h1 : 1 ≤ n
  · by_cases h2 : n ≤ 255
    · rw [decide_eq_true (And.intro h1 h2)]
      go_enter Try.func40, Try.ntmps40
      go_wp2
      go_ret
      exact ⟨rfl, rfl⟩
    · rw [decide_eq_false (fun h => h2 h.2)]
      go_enter Try.func40, Try.ntmps40
      go_wp2
      go_ret
      exact ⟨rfl, rfl⟩
  · rw [decide_eq_false (fun h => h1 h.1)]
    go_enter Try.func40, Try.ntmps40
    go_wp2
    go_ret
    exact ⟨rfl, rfl⟩
theorem counts_no (n : Nat) (h : ¬ (1 ≤ n ∧ n ≤ 255)) (w : World) : Calls Try.prog 40 #[.int .i64 (n : Int)] w fun e w' => e = .returned (.bool false) ∧ w' = w := by
  have := counts_int (n : Int) w
  rwa [decide_eq_false (by omega)] at this

/-- What a function tells of a row, whatever was laid since. -/
def RowFn (w : World) (g : Nat) (q : Value) (M : List (List UInt8)) (p : List UInt8 → Bool) : Prop :=
  ∀ (W : World) (Ai : Option Addr) (ci : Nat) (l : List UInt8), Below w.heap.size w W → l ∈ M → Lies W (fun _ => True) Ai l.length ci (bc l) →
    Calls Try.prog g #[.slice Ai l.length ci, q] W fun e w' => e = .returned (.bool (p l)) ∧ Below W.heap.size W w'
/-- The first row of which it tells so, or -1. -/
def idxL (p : List UInt8 → Bool) (M : List (List UInt8)) : Int := if M.any p then (M.findIdx p : Int) else -1
theorem idx_at {p : List UInt8 → Bool} {M : List (List UInt8)} {k : Nat} {r : List UInt8} (hr : M[k]? = some r) (hp : p r = true) (hno : ∀ (j : Nat) (r' : List UInt8), j < k → M[j]? = some r' → p r' = false) : idxL p M = (k : Int) := by
  obtain ⟨hk, rfl⟩ := List.getElem?_eq_some_iff.1 hr
  have h1 : M.any p = true := List.any_eq_true.2 ⟨_, List.getElem_mem hk, hp⟩
  have h2 : M.findIdx p = k := by
    rw [List.findIdx_eq hk]
    exact ⟨hp, fun j hj => hno j _ hj (List.getElem?_eq_getElem _)⟩
  rw [idxL, if_pos h1, h2]
theorem idx_none {p : List UInt8 → Bool} {M : List (List UInt8)} (hno : ∀ (j : Nat) (r' : List UInt8), M[j]? = some r' → p r' = false) : idxL p M = -1 := by
  rw [idxL, if_neg]
  intro h
  obtain ⟨r, hr, hp⟩ := List.any_eq_true.1 h
  obtain ⟨j, hj⟩ := List.getElem?_of_mem hr
  rw [hno j r hj] at hp
  cases hp

set_option maxRecDepth 100000 in
set_option maxHeartbeats 1000000 in
theorem index_says (w : World) (A : Option Addr) (n c : Nat) (M : List (List UInt8)) (hM : Mtx w A n c M) (g : Nat) (q : Value) (p : List UInt8 → Bool) (eg : ∀ args w, (callFunc g args).run Try.prog w = .ok (.enter g args) w) (hF : RowFn w g q M p) (hn : n ≤ 2000) :
    Calls Try.prog 58 #[.slice A n c, .func (.func g) #[] #[q]] w fun e w' => e = .returned (.int .i64 (idxL p M)) ∧ Below w.heap.size w w' := by
  have hl := hM.len
  have HM := Lib.hid hM
  have HF := Lib.hid hF
  clear hM hF
  go_enter Try.func58, Try.ntmps58
  go_wp2_with fail
  go_loopw [8] (fun i wr => ∃ k : Nat, k ≤ n ∧ i = .int .i64 (k : Int) ∧ Hid ((∀ j r', j < k → M[j]? = some r' → p r' = false) ∧ Below w.heap.size w wr)) (fun i _ => n - (intOf i).toNat)
  case atStart => exact ⟨0, by omega, rfl, Lib.hid ⟨fun j r' h => by omega, Below.refl _ _⟩⟩
  case round =>
    obtain ⟨k, hk, rfl, H⟩ := hrel
    by_cases hlt : k < n
    · have l1 : (k : Int) < (n : Int) := by omega
      obtain ⟨r, hr⟩ : ∃ r, M[k]? = some r := ⟨_, List.getElem?_eq_getElem (by omega)⟩
      obtain ⟨b, off, Ak, ck, hA, hb, hck, hlk⟩ := HM.out.row hr
      subst hA
      have hck' : wr.cell? ⟨b, off + k, none⟩ = some (.slice Ak r.length ck) := (H.out.2.cell (p := ⟨b, off + k, none⟩) hb).trans hck
      have HC := Lib.hid (HF.out wr Ak ck r H.out.2 (List.mem_of_getElem? hr) (hlk.below H.out.2))
      have HR := Lib.hid hr
      obtain ⟨lr, hlr⟩ : ∃ t, r.length = t := ⟨_, rfl⟩
      rw [hlr] at hck' HC
      clear hlk hck hb hr hlr
      rcases Bool.eq_false_or_eq_true (p r) with hp | hp
      · rw [hp] at HC
        have HRES := Lib.hid (idx_at HR.out hp H.out.1)
        go_wp2_with (go_at_fn g; refine HC.out.mono ?_; rintro e wn ⟨rfl, hbn⟩; have HBN := Lib.hid hbn; clear hbn)
        go_ret
        refine ⟨?_, H.out.2.trans (HBN.out.mono H.out.2.size)⟩
        rw [HRES.out]
        rfl
      · rw [hp] at HC
        have HP := Lib.hid hp
        clear hp
        go_wp2_with (go_at_fn g; refine HC.out.mono ?_; rintro e wn ⟨rfl, hbn⟩; have HBN := Lib.hid hbn; clear hbn)
        go_roundw
        case rel =>
          refine ⟨k + 1, by omega, by go_num, Lib.hid ⟨fun j r' hj hr' => ?_, H.out.2.trans (HBN.out.mono H.out.2.size)⟩⟩
          rcases Nat.lt_or_ge j k with h2 | h2
          · exact H.out.1 j r' h2 hr'
          · obtain rfl : j = k := by omega
            rw [HR.out] at hr'
            cases hr'
            exact HP.out
        case measure => simp [intOf]; omega
    · obtain rfl : k = n := by omega
      have l1 : ¬ (k : Int) < (k : Int) := by omega
      have HRES := Lib.hid (show idxL p M = -1 from idx_none (fun j r' hr' => H.out.1 j r' (by have := (List.getElem?_eq_some_iff.1 hr').1; omega) hr'))
      have HB := Lib.hid H.out.2
      clear H
      go_wp2
      go_ret
      refine ⟨?_, HB.out⟩
      rw [HRES.out]
      rfl

theorem idx_any (p : List UInt8 → Bool) (M : List (List UInt8)) : decide (0 ≤ idxL p M) = M.any p := by
  unfold idxL
  cases h : M.any p with
  | true => simp
  | false => simp
set_option maxRecDepth 100000 in
theorem contains_says (w : World) (A : Option Addr) (n c : Nat) (M : List (List UInt8)) (hM : Mtx w A n c M) (g : Nat) (q : Value) (p : List UInt8 → Bool) (eg : ∀ args w, (callFunc g args).run Try.prog w = .ok (.enter g args) w) (hF : RowFn w g q M p) (hn : n ≤ 2000) :
    Calls Try.prog 56 #[.slice A n c, .func (.func g) #[] #[q]] w fun e w' => e = .returned (.bool (M.any p)) ∧ Below w.heap.size w w' := by
  rw [← idx_any]
  have HI := Lib.hid (index_says w A n c M hM g q p eg hF hn)
  clear hM hF
  go_enter Try.func56, Try.ntmps56
  go_wp2_with (go_at_call 58; refine HI.out.mono ?_; rintro e wn ⟨rfl, hbn⟩; have HBN := Lib.hid hbn; clear hbn)
  go_ret
  exact ⟨rfl, HBN.out⟩

/-- All rows are as long as the first one. -/
def levelB (M : List (List UInt8)) : Bool := M.all (fun r => r.length == (M.headD []).length)
theorem level_any (M : List (List UInt8)) : (!M.any (fun r => r.length != (M.headD []).length)) = levelB M := by
  unfold levelB
  rw [List.not_any_eq_all_not]
  congr 1
  funext r
  simp [bne]

set_option maxRecDepth 100000 in
set_option maxHeartbeats 1000000 in
theorem level1_says (W : World) (g : Nat) (A : Option Addr) (n c : Nat) (M : List (List UInt8)) (hg : W.cell? ⟨g, 0, none⟩ = some (.slice A n c)) (hM : Mtx W A n c M) (Ai : Option Addr) (ci : Nat) (l : List UInt8) (hl : l ∈ M) :
    Calls Try.prog 57 #[.slice Ai l.length ci, .pointer (some ⟨g, 0, none⟩)] W fun e w' => e = .returned (.bool (l.length != (M.headD []).length)) ∧ Below W.heap.size W w' := by
  have hn : 0 < n := by
    rw [← hM.len]
    exact List.length_pos_of_mem hl
  obtain ⟨r0, hr0⟩ : ∃ r, M[0]? = some r := ⟨_, List.getElem?_eq_getElem (by rw [hM.len]; exact hn)⟩
  have hhd : M.headD [] = r0 := by
    cases M with
    | nil => simp at hr0
    | cons a t => simpa using hr0
  obtain ⟨b, off, A0, c0, hA, hb, hc0, _⟩ := hM.row hr0
  subst hA
  rw [hhd, Nat.add_zero] at *
  have hn' : (0 : Int) < (n : Int) := by omega
  have he : (l.length != r0.length) = ((l.length : Int) != (r0.length : Int)) := by
    rcases Nat.lt_trichotomy l.length r0.length with h | h | h
    · rw [show (l.length != r0.length) = true by simp; omega, show ((l.length : Int) != (r0.length : Int)) = true by simp; omega]
    · rw [h]; simp
    · rw [show (l.length != r0.length) = true by simp; omega, show ((l.length : Int) != (r0.length : Int)) = true by simp; omega]
  rw [he]
  generalize l.length = x
  generalize r0.length = y at hc0 ⊢
  clear hM hr0 hl hhd he
  go_enter Try.func57, Try.ntmps57
  go_wp2
  go_ret
  exact ⟨rfl, Below.refl _ _⟩

set_option maxRecDepth 100000 in
set_option maxHeartbeats 1000000 in
theorem level_says (w : World) (A : Option Addr) (n c : Nat) (M : List (List UInt8)) (hM : Mtx w A n c M) (hn : n ≤ 2000) : Calls Try.prog 34 #[.slice A n c] w fun e w' => e = .returned (.bool (levelB M)) ∧ Below w.heap.size w w' := by
  rw [← level_any]
  have hb1 : Below w.heap.size w (w.alloc (.cells #[.slice A n c] 22)) := (Below.refl _ w).alloc (Nat.le_refl _) _
  have hF : RowFn (w.alloc (.cells #[.slice A n c] 22)) 57 (.pointer (some ⟨w.heap.size, 0, none⟩)) M (fun r => r.length != (M.headD []).length) := fun W Ai ci l hW hl _ =>
    level1_says W w.heap.size A n c M ((hW.cell (p := ⟨w.heap.size, 0, none⟩) (by simp)).trans (cell_one_new w _ _ 0 _ rfl)) ((hM.below hb1).below hW) Ai ci l hl
  have HC := Lib.hid (contains_says _ A n c M (hM.below hb1) _ _ _ (enters_of Try.func57 (by kernel_rfl) rfl) hF hn)
  have HB := Lib.hid hb1
  clear hM hb1 hF
  generalize (M.any fun r => r.length != (M.headD []).length) = bb at HC ⊢
  go_enter Try.func34, Try.ntmps34
  go_wp2_with (go_at_call 56; refine HC.out.mono ?_; rintro e wn ⟨rfl, hbn⟩; have HBN := Lib.hid hbn; clear hbn)
  go_ret
  exact ⟨rfl, HB.out.trans (HBN.out.mono HB.out.size)⟩

theorem right_parts (M : List (List UInt8)) : decide (RightM M) = (decide (1 ≤ M.length ∧ M.length ≤ 255) && (decide (1 ≤ (M.headD []).length ∧ (M.headD []).length ≤ 255) && levelB M)) := by
  apply Bool.eq_iff_iff.2
  rw [decide_eq_true_eq]
  simp only [decide_eq_true_eq, Bool.and_eq_true, levelB, List.all_eq_true, beq_iff_eq]
  unfold RightM rowOk
  constructor
  · rintro ⟨h1, h2, h3⟩
    refine ⟨⟨h1, h2⟩, ?_, fun r hr => (h3 r hr).1⟩
    cases M with
    | nil => simp at h1
    | cons a t => exact (h3 a (List.mem_cons_self ..)).2
  · rintro ⟨⟨h1, h2⟩, h3, h4⟩
    exact ⟨h1, h2, fun r hr => ⟨h4 r hr, by rw [h4 r hr]; exact h3⟩⟩

set_option maxRecDepth 100000 in
set_option maxHeartbeats 1000000 in
theorem right_says (w : World) (A : Option Addr) (n c : Nat) (M : List (List UInt8)) (hM : Mtx w A n c M) (hn : n ≤ 2000) : Calls Try.prog 20 #[.slice A n c] w fun e w' => e = .returned (.bool (decide (RightM M))) ∧ Below w.heap.size w w' := by
  rw [right_parts, hM.len]
  by_cases h1 : 1 ≤ n ∧ n ≤ 255
  · rw [decide_eq_true h1, Bool.true_and]
    obtain ⟨r0, hr0⟩ : ∃ r, M[0]? = some r := ⟨_, List.getElem?_eq_getElem (by rw [hM.len]; exact h1.1)⟩
    have hhd : M.headD [] = r0 := by
      cases M with
      | nil => simp at hr0
      | cons a t => simpa using hr0
    rw [hhd]
    obtain ⟨b, off, A0, c0, hA, hb, hc0, _⟩ := hM.row hr0
    subst hA
    rw [Nat.add_zero] at hc0
    have HL := Lib.hid (level_says w _ n c M hM hn)
    have HC1 := Lib.hid (counts_yes n h1 w)
    have hp0 : 0 < n := by omega
    have hp0' : (0 : Int) < (n : Int) := by omega
    clear hM hr0 hhd h1
    generalize r0.length = x at hc0 ⊢
    by_cases h2 : 1 ≤ x ∧ x ≤ 255
    · rw [decide_eq_true h2, Bool.true_and]
      have HC2 := Lib.hid (counts_yes x h2 w)
      clear h2
      go_enter Try.func20, Try.ntmps20
      go_wp2_with (first
        | (go_at_call 40; with_reducible refine HC1.out.mono ?_; rintro e wn ⟨rfl, hwn⟩; obtain rfl : w = wn := hwn.symm)
        | (go_at_call 40; with_reducible refine HC2.out.mono ?_; rintro e wn ⟨rfl, hwn⟩; obtain rfl : w = wn := hwn.symm)
        | (go_at_call 34; refine HL.out.mono ?_; rintro e wn ⟨rfl, hbn⟩; have HBN := Lib.hid hbn; clear hbn))
      go_ret
      refine ⟨?_, HBN.out⟩
      first | rfl | (cases levelB M <;> rfl)
    · rw [decide_eq_false h2, Bool.false_and]
      have HC2 := Lib.hid (counts_no x h2 w)
      clear h2
      go_enter Try.func20, Try.ntmps20
      go_wp2_with (first
        | (go_at_call 40; with_reducible refine HC1.out.mono ?_; rintro e wn ⟨rfl, hwn⟩; obtain rfl : w = wn := hwn.symm)
        | (go_at_call 40; with_reducible refine HC2.out.mono ?_; rintro e wn ⟨rfl, hwn⟩; obtain rfl : w = wn := hwn.symm))
      go_ret
      exact ⟨rfl, Below.refl _ _⟩
  · rw [decide_eq_false h1, Bool.false_and]
    have HC1 := Lib.hid (counts_no n h1 w)
    clear h1 hM
    go_enter Try.func20, Try.ntmps20
    go_wp2_with (go_at_call 40; refine HC1.out.mono ?_; rintro e wn ⟨rfl, hwn⟩; obtain rfl : w = wn := hwn.symm)
    go_ret
    exact ⟨rfl, Below.refl _ _⟩
end Go.Proofs.Ytgakeecibofiiaa
