/-
  Turn and Powers of package mat.
  Same of package mat.
  slices.Clone over bytes and over rows; mat.copied.
  mat.sweep, as it landed.
  Rank of package mat.
-/
import Derived.Test.YtpbkabgjpieggaaM6
import Derived.Test.YtpbkabgjpieggaaM2
import Derived.Test.YtpbkabgjpieggaaM4
import Derived.Test.YtpbkabgjpieggaaM1
import Derived.Test.YtpbkabgjpieggaaM5
import Derived.Lib.SliceRun
import Derived.Deep.RegionHeld3

namespace Go.Proofs.Ytpbkabgjpieggaa
open Go.RowKit Go.Shelf

theorem right_row {M : List (List UInt8)} (h : RightM M) {i : Nat} {r : List UInt8} (hr : M[i]? = some r) : r.length = colsOf M := (h.2.2 r (List.mem_of_getElem? hr)).1
theorem right_cols {M : List (List UInt8)} (h : RightM M) : 1 ≤ colsOf M ∧ colsOf M ≤ 255 := by
  cases M with
  | nil => have := h.1; simp at this
  | cons a t => exact (h.2.2 a (List.mem_cons_self ..)).2

set_option maxRecDepth 100000 in
set_option maxHeartbeats 1000000 in
theorem turn1_says (W : World) (g : Nat) (A : Option Addr) (n c : Nat) (M : List (List UInt8)) (hM : Mtx W A n c M) (hr : RightM M) (hg : W.cell? ⟨g, 0, none⟩ = some (.slice A n c)) (i j : Nat) (hi : i < colsOf M) (hj : j < n) :
    Calls Try.prog 56 #[.int .i64 (i : Int), .int .i64 (j : Int), .pointer (some ⟨g, 0, none⟩)] W fun e w' => e = .returned (.int .u8 ((at2 M j i).toNat : Int)) ∧ Below W.heap.size W w' := by
  have hl := hM.len
  obtain ⟨r, hrj⟩ : ∃ r, M[j]? = some r := ⟨_, List.getElem?_eq_getElem (by omega)⟩
  have hrl := right_row hr hrj
  obtain ⟨u, hu⟩ : ∃ u, r[i]? = some u := ⟨_, List.getElem?_eq_getElem (by omega)⟩
  obtain ⟨b, off, Aj, cj, hA, hb, hc0, hlj⟩ := hM.row hrj
  obtain ⟨b2, off2, hA2, _, hb2, hc2⟩ := hlj.at (j := i) (u := .int .u8 (u.toNat : Int)) (by simp [bc, hu])
  subst hA hA2
  rw [at2_of hrj hu]
  rw [hrl] at hc0
  have hi' : (i : Int) < (colsOf M : Int) := by omega
  have hj' : (j : Int) < (n : Int) := by omega
  generalize colsOf M = m at hc0 hi hi'
  clear hM hr hrj hu hrl hlj hl
  go_enter Try.func56, Try.ntmps56
  go_wp2
  go_ret
  exact ⟨rfl, Below.refl _ _⟩
/-- The matrix whose rows are the columns. -/
def turnL (M : List (List UInt8)) : List (List UInt8) := if RightM M then matBy (colsOf M) M.length (fun i j => at2 M j i) else []
set_option maxRecDepth 100000 in
set_option maxHeartbeats 1000000 in
theorem turn_says (w : World) (A : Option Addr) (n c : Nat) (M : List (List UInt8)) (hM : Mtx w A n c M) (hn : n ≤ 2000) : Calls Try.prog 45 #[.slice A n c] w (GivesM w (turnL M)) := by
  have hb1 : Below w.heap.size w (w.alloc (.cells #[.slice A n c] 64)) := (Below.refl _ w).alloc (Nat.le_refl _) _
  have hg1 : (w.alloc (.cells #[.slice A n c] 64)).cell? ⟨w.heap.size, 0, none⟩ = some (.slice A n c) := cell_one_new w _ _ 0 _ rfl
  have hM1 := hM.below hb1
  have HS := Lib.hid (size_says _ A n c M hM1 hn)
  have hl := hM.len
  by_cases hr : RightM M
  · rw [sizeL, if_pos hr, hl] at HS
    rw [turnL, if_pos hr, hl]
    have HM := Lib.hid (fun (W : World) (hW : Below (w.alloc (.cells #[.slice A n c] 64)).heap.size (w.alloc (.cells #[.slice A n c] 64)) W) => made_says (colsOf M) n (by have := right_cols hr; omega) (by have := hr.2.1; omega) 56 #[.pointer (some ⟨w.heap.size, 0, none⟩)] (fun i j => at2 M j i) (enters_of Try.func56 (by kernel_rfl) rfl) W
      (fun V i j hi hj hV => turn1_says V w.heap.size A n c M ((hM1.below hW).below hV) hr (((hW.trans (hV.mono hW.size)).cell (p := ⟨w.heap.size, 0, none⟩) (by simp)).trans hg1) i j hi hj))
    have HB := Lib.hid hb1
    generalize matBy (colsOf M) n (fun i j => at2 M j i) = T at HM ⊢
    generalize colsOf M = m at HM HS
    clear hM hM1 hr hb1 hg1 hl
    go_enter Try.func45, Try.ntmps45
    go_wp2_with (first
      | (go_at_call 54; refine HS.out.mono ?_; rintro e wn ⟨rfl, hbn⟩; have HBN := Lib.hid hbn; clear hbn)
      | (go_at_call 55; refine (HM.out _ HBN.out).mono ?_; rintro e wm ⟨A1, n1, c1, rfl, hm, hbm⟩; have HR := Lib.hid (And.intro hm hbm); clear hm hbm))
    go_ret
    have hBB := HB.out.trans (HBN.out.mono HB.out.size)
    exact ⟨_, _, _, rfl, HR.out.1, hBB.trans (HR.out.2.mono hBB.size)⟩
  · rw [sizeL, if_neg hr] at HS
    rw [turnL, if_neg hr]
    have HM := Lib.hid (fun (W : World) => made_says 0 0 (by omega) (by omega) 56 #[.pointer (some ⟨w.heap.size, 0, none⟩)] (fun i j => at2 M j i) (enters_of Try.func56 (by kernel_rfl) rfl) W
      (fun V i j hi hj hV => by omega))
    have HB := Lib.hid hb1
    clear hM hM1 hr hb1 hg1 hl
    go_enter Try.func45, Try.ntmps45
    go_wp2_with (first
      | (go_at_call 54; refine HS.out.mono ?_; rintro e wn ⟨rfl, hbn⟩; have HBN := Lib.hid hbn; clear hbn)
      | (go_at_call 55; refine (HM.out _).mono ?_; rintro e wm ⟨A1, n1, c1, rfl, hm, hbm⟩; have HR := Lib.hid (And.intro hm hbm); clear hm hbm))
    go_ret
    have hBB := HB.out.trans (HBN.out.mono HB.out.size)
    exact ⟨_, _, _, rfl, HR.out.1, hBB.trans (HR.out.2.mono hBB.size)⟩

end Go.Proofs.Ytpbkabgjpieggaa


namespace Go.Proofs.Ytpbkabgjpieggaa
open Go.RowKit Go.Shelf

set_option maxRecDepth 100000 in
theorem bequal_says (W : World) (A B : Option Addr) (c d : Nat) (l m : List UInt8) (h1 : Lies W (fun _ => True) A l.length c (bc l)) (h2 : Lies W (fun _ => True) B m.length d (bc m)) :
    Calls Try.prog 30 #[.slice A l.length c, .slice B m.length d] W fun e w' => e = .returned (.bool (decide (l = m))) ∧ w' = W := by
  have hv1 := conv_lies h1
  have hv2 := conv_lies h2
  have he : ((⟨l.toArray⟩ : ByteArray).toList == (⟨m.toArray⟩ : ByteArray).toList) = decide (l = m) := by
    by_cases h : l = m
    · subst h
      rw [decide_eq_true rfl]
      simp
    · rw [decide_eq_false h]
      exact str_ne h
  have HE := Lib.hid he
  clear h1 h2 he
  generalize decide (l = m) = bb at HE ⊢
  generalize (⟨l.toArray⟩ : ByteArray) = S at hv1 HE
  generalize (⟨m.toArray⟩ : ByteArray) = T at hv2 HE
  generalize l.length = x at hv1 ⊢
  generalize m.length = y at hv2 ⊢
  have he := HE.out
  go_enter Try.func30, Try.ntmps30
  go_wp2
  go_ret
  exact ⟨rfl, rfl⟩

set_option maxRecDepth 100000 in
set_option maxHeartbeats 1000000 in
theorem equalM_says (w : World) (A : Option Addr) (n c : Nat) (M : List (List UInt8)) (hM : Mtx w A n c M) (B : Option Addr) (m d : Nat) (O : List (List UInt8)) (hO : Mtx w B m d O) (hn : n ≤ 2000) :
    Calls Try.prog 29 #[.slice A n c, .slice B m d, .func (.func 30) #[] #[]] w fun e w' => e = .returned (.bool (decide (M = O))) ∧ Below w.heap.size w w' := by
  have hl1 := hM.len
  have hl2 := hO.len
  have HM := Lib.hid hM
  have HO := Lib.hid hO
  clear hM hO
  by_cases hnm : n = m
  · subst hnm
    go_enter Try.func29, Try.ntmps29
    go_wp2_with fail
    go_loopw [7, 8, 9, 17] (fun _ _ _ i wr => ∃ k : Nat, k ≤ n ∧ i = .int .i64 (k : Int) ∧ Hid (M.take k = O.take k ∧ Below w.heap.size w wr)) (fun _ _ _ i _ => n - (intOf i).toNat)
    case atStart => exact ⟨0, by omega, rfl, Lib.hid ⟨by simp, Below.refl _ _⟩⟩
    case round =>
      obtain ⟨k, hk, rfl, H⟩ := hrel
      by_cases hlt : k < n
      · have l1 : (k : Int) < (n : Int) := by omega
        obtain ⟨r, hr⟩ : ∃ r, M[k]? = some r := ⟨_, List.getElem?_eq_getElem (by omega)⟩
        obtain ⟨s, hs⟩ : ∃ s, O[k]? = some s := ⟨_, List.getElem?_eq_getElem (by omega)⟩
        obtain ⟨b, off, Ak, ck, hA, hb, hck, hlk⟩ := HM.out.row hr
        obtain ⟨b', off', Bk, dk, hB, hb', hdk, hmk⟩ := HO.out.row hs
        subst hA hB
        have hc1 : wr.cell? ⟨b, off + k, none⟩ = some (.slice Ak r.length ck) := (H.out.2.cell (p := ⟨b, off + k, none⟩) hb).trans hck
        have hc2 : wr.cell? ⟨b', off' + k, none⟩ = some (.slice Bk s.length dk) := (H.out.2.cell (p := ⟨b', off' + k, none⟩) hb').trans hdk
        have HC := Lib.hid (bequal_says wr Ak Bk ck dk r s (hlk.below H.out.2) (hmk.below H.out.2))
        have HRS := Lib.hid (And.intro hr hs)
        clear hck hdk hlk hmk hr hs hb hb'
        by_cases e1 : r = s
        · rw [decide_eq_true e1] at HC
          have HE1 := Lib.hid e1
          clear e1
          generalize r.length = x at HC hc1
          generalize s.length = y at HC hc2
          go_wp2_with (go_at_call 30; refine HC.out.mono ?_; rintro e wn ⟨rfl, rfl⟩)
          go_roundw
          case rel =>
            refine ⟨k + 1, by omega, by go_num, Lib.hid ⟨?_, H.out.2⟩⟩
            rw [List.take_add_one, List.take_add_one, H.out.1, HRS.out.1, HRS.out.2, HE1.out]
          case measure => simp [intOf]; omega
        · rw [decide_eq_false e1] at HC
          have HRES := Lib.hid (show decide (M = O) = false from decide_eq_false (fun e => by
            have h5 := HRS.out
            rw [e, h5.2] at h5
            exact e1 (Option.some.inj h5.1).symm))
          clear e1
          generalize r.length = x at HC hc1
          generalize s.length = y at HC hc2
          go_wp2_with (go_at_call 30; refine HC.out.mono ?_; rintro e wn ⟨rfl, rfl⟩)
          go_ret
          refine ⟨?_, H.out.2⟩
          rw [HRES.out]
          rfl
      · obtain rfl : k = n := by omega
        have l1 : ¬ (k : Int) < (k : Int) := by omega
        have HRES := Lib.hid (show decide (M = O) = true from decide_eq_true (by
          have := H.out.1
          rwa [List.take_of_length_le (by omega), List.take_of_length_le (by omega)] at this))
        have HB := Lib.hid H.out.2
        clear H
        go_wp2
        go_ret
        refine ⟨?_, HB.out⟩
        rw [HRES.out]
        rfl
  · have hnm' : ¬ (n : Int) = (m : Int) := by omega
    have HRES := Lib.hid (show decide (M = O) = false from decide_eq_false (fun e => by rw [e] at hl1; omega))
    clear hnm
    go_enter Try.func29, Try.ntmps29
    go_wp2
    go_ret
    refine ⟨?_, Below.refl _ _⟩
    rw [HRES.out]
    rfl

end Go.Proofs.Ytpbkabgjpieggaa


namespace Go.Proofs.Ytpbkabgjpieggaa
open Go.RowKit

theorem Own.liesB {w : World} {base : Nat} {v : Value} {l : List UInt8} (h : Own w base v l) : ∃ A c, v = .slice A l.length c ∧ Lies w (fun b => base ≤ b) A l.length c (bc l) := by
  have hlt := World.ownsRow.lt h
  rcases h.2 with ⟨hv, hn⟩ | ⟨g, cap, cur, hv, hbg, hh, hnc, _⟩
  · have hl : l = [] := List.eq_nil_of_length_eq_zero hn
    subst hl
    exact ⟨none, 0, hv, Lies.nil _ _⟩
  · subst hv
    exact ⟨_, cap, rfl, bc_length l, hnc, fun _ => ⟨⟨g, 0, none⟩, rfl, hbg, (hlt g rfl).2, fun j u hu => World.ownsRow.cells h (g := g) rfl j u hu⟩⟩
theorem Own.made (w : World) {base : Nat} (hb : base ≤ w.heap.size) : Own (w.alloc (.cells #[] 5)) base (.slice (some ⟨w.heap.size, 0, none⟩) 0 0) [] := World.ownsRow_made w #[] 0 hb (Nat.zero_le _) rfl

set_option maxRecDepth 100000 in
set_option maxHeartbeats 1000000 in
theorem cloneB_says (W : World) (A : Option Addr) (c : Nat) (l : List UInt8) (n : Nat) (hn : l.length = n) (h : Lies W (fun _ => True) A n c (bc l)) (h0 : 1 ≤ n) (h1 : n ≤ 2000) : Calls Try.prog 65 #[.slice A n c] W (GivesN W l) := by
  obtain ⟨ad, hA, _⟩ := h.2.2 (by omega)
  subst hA
  have HL := Lib.hid (h.below ((Below.refl _ W).alloc (Nat.le_refl _) (.cells #[] 5)))
  have HO := Lib.hid (Own.made W (base := W.heap.size) (Nat.le_refl _))
  have HB := Lib.hid (show Below W.heap.size W (W.alloc (.cells #[] 5)) from (Below.refl _ W).alloc (Nat.le_refl _) _)
  clear h
  have q22 : ∀ (w : World) (a : Option Addr) (n c n' c' : Nat), (binOp .eql 31 (.slice a n c) (.slice none n' c')).run Try.prog w = .ok (.bool a.isNone) w := fun w a n c n' c' => Lib.run_eql_slice_nil w _ _ a n c n' c' Try.underlying31
  go_enter Try.func65, Try.ntmps65
  go_wp2_with (at_builtin; refine wpList_bytes _ _ _ rfl rfl W.heap.size _ [] (some ad) n c l rfl rfl HO.out HL.out (by intro h; cases h) (by simp; omega) (by simp) ?_; intro v9 w9 ho9 hg9)
  have h9 : Own w9 W.heap.size v9 l := ho9
  obtain ⟨A9, c9, hv9, hl9⟩ := h9.liesB
  subst hv9
  go_wp2
  go_ret
  exact ⟨_, _, _, rfl, hl9, HB.out.trans (HO.out.changed hg9 (by simp))⟩

set_option maxRecDepth 100000 in
set_option maxHeartbeats 1000000 in
theorem cloneM_says (w : World) (A : Option Addr) (n c : Nat) (M : List (List UInt8)) (hM : Mtx w A n c M) (hn : n ≤ 2000) : Calls Try.prog 32 #[.slice A n c] w fun e w' => ∃ v, e = .returned v ∧ RowsO w' w.heap.size v M ∧ Below w.heap.size w w' := by
  have hl := hM.len
  have q22 : ∀ (w : World) (a : Option Addr) (n c n' c' : Nat), (binOp .eql 22 (.slice a n c) (.slice none n' c')).run Try.prog w = .ok (.bool a.isNone) w := fun w a n c n' c' => Lib.run_eql_slice_nil w _ _ a n c n' c' Try.underlying22
  rcases A with _ | ad
  · obtain rfl : n = 0 := by
      rcases Nat.eq_zero_or_pos n with h | h
      · exact h
      · obtain ⟨_, _, he, _⟩ := hM.2.2 h
        cases he
    obtain rfl : M = [] := List.eq_nil_of_length_eq_zero hl
    go_enter Try.func32, Try.ntmps32
    go_wp2
    go_ret
    exact ⟨_, rfl, RowsO.nil _ _, Below.refl _ _⟩
  · have hb1 : Below w.heap.size w (w.alloc (.cells #[] 31)) := (Below.refl _ w).alloc (Nat.le_refl _) _
    obtain ⟨vals, hv1, hv2⟩ := hM.old (Nat.le_refl _) (ad := ad) rfl
    have HN := Lib.hid (hv1.keep hb1)
    have HC := Lib.hid (show ∀ (j : Nat) (u : Value), vals[j]? = some u → (w.alloc (.cells #[] 31)).cell? (ad.add j) = some u from fun j u hu => by
      have h1 := hv2 j u hu
      obtain ⟨l, hlj⟩ : ∃ l, M[j]? = some l := ⟨_, List.getElem?_eq_getElem (by rw [← hv1.1]; exact (List.getElem?_eq_some_iff.1 hu).1)⟩
      obtain ⟨b, off, _, _, hA, hb, _, _⟩ := hM.row hlj
      cases hA
      exact (hb1.cell (by rw [add_block]; exact hb)).trans h1)
    have HO := Lib.hid (RowsO.made w (base := w.heap.size) (Nat.le_refl _))
    have HB := Lib.hid hb1
    clear hM hb1 hv1 hv2
    go_enter Try.func32, Try.ntmps32
    go_wp2_with (at_builtin; refine wpList_append_oldR _ _ _ rfl rfl w.heap.size _ [] M ad n c vals rfl rfl HO.out HN.out hl HC.out (by simp; omega) (by simp) ?_; intro v9 w9 ho9 hg9)
    have HR := Lib.hid (And.intro ho9 hg9)
    clear ho9 hg9
    go_wp2
    go_ret
    exact ⟨_, rfl, by have := HR.out.1; simpa using this, HB.out.trans HR.out.2⟩
end Go.Proofs.Ytpbkabgjpieggaa


namespace Go.Proofs.Ytpbkabgjpieggaa
open Go.RowKit Go.Shelf

theorem cell_grown {w w' : World} {g b i : Nat} {v : Value} (hg : w.grownBy w' (some g)) (hb : b < w.heap.size) (hne : b ≠ g) (h : w.cell? ⟨b, i, none⟩ = some v) : w'.cell? ⟨b, i, none⟩ = some v :=
  (World.cell?_of_block (w := w) (hg.block b hb (fun e => hne (Option.some.inj e)))).trans h
theorem RowsN.sub {w : World} {g n c : Nat} {N : Nat → Prop} {M : List (List UInt8)} (h : RowsN w g n N M) {m : Nat} (hm : M.length = m) (hc : m ≤ c) {d : Nat} (hd : d ≤ m) : Mtx w (cutA (some ⟨g, 0, none⟩) c d) (m - d) (c - d) (M.drop d) := by
  refine ⟨by simp [hm], by omega, fun h0 => ?_⟩
  have hcd : ¬ c = d := by omega
  refine ⟨g, d, by rw [cutA, if_neg hcd, Option.map_some, Addr.add_mid, Nat.zero_add], h.lt, fun i l hl => ?_⟩
  rw [List.getElem?_drop] at hl
  obtain ⟨Ai, ci, h5, h6⟩ := h.row hl
  exact ⟨Ai, ci, h5, h6.weak (fun _ _ _ => trivial)⟩
theorem rowInfo1 : (Try.prog.info? 31).map (·.size) = some 1 := by
  obtain ⟨i, h1, _, h3, _⟩ := info_parts rowInfo
  simp [h1, h3]

set_option maxRecDepth 100000 in
set_option maxHeartbeats 1000000 in
theorem sweep1_says (W : World) (h col : Nat) (hc : W.cell? ⟨h, 0, none⟩ = some (.int .i64 (col : Int))) (Ai : Option Addr) (ci : Nat) (l : List UInt8) (hl : Lies W (fun _ => True) Ai l.length ci (bc l)) (hcol : col < l.length) :
    Calls Try.prog 68 #[.slice Ai l.length ci, .pointer (some ⟨h, 0, none⟩)] W fun e w' => e = .returned (.bool (pivP col l)) ∧ Below W.heap.size W w' := by
  obtain ⟨u, hu⟩ : ∃ u, l[col]? = some u := ⟨_, List.getElem?_eq_getElem hcol⟩
  obtain ⟨b, off, hA, _, hb, hc0⟩ := hl.at (j := col) (u := .int .u8 (u.toNat : Int)) (by simp [bc, hu])
  subst hA
  have he : pivP col l = ((u.toNat : Int) != 0) := by
    have h1 : l.getD col 0 = u := by simp [List.getD_eq_getElem?_getD, hu]
    unfold pivP
    rw [h1]
    by_cases h0 : u = 0
    · subst h0; rfl
    · have := Gf.toNat_ne h0
      rw [show (u != 0) = true by simpa using h0, show ((u.toNat : Int) != 0) = true by simp; omega]
  rw [he]
  have hi' : (col : Int) < (l.length : Int) := by omega
  generalize l.length = m at hcol hi' ⊢
  clear hl hu he
  go_enter Try.func68, Try.ntmps68
  go_wp2
  go_ret
  exact ⟨rfl, Below.refl _ _⟩

/-- Ahead of a row of the inner loop. -/
structure InAt (w wr : World) (g cap h col n L : Nat) (Al : Option Addr) (cl : Nat) (lead : List UInt8) (T : List (List UInt8)) : Prop where
  rows : RowsN wr g cap (fun b => b ≠ g) T
  lies : Lies wr (fun b => b ≠ g) Al L cl (bc lead)
  col : wr.cell? ⟨h, 0, none⟩ = some (.int .i64 (col : Int))
  lt : h < wr.heap.size ∧ h ≠ g
  grown : w.grownBy wr (some g)
  lev : Lev n L T

set_option maxRecDepth 100000 in
set_option maxHeartbeats 4000000 in
theorem sweep_says (P : Option Addr) (w : World) (g cap n L c cols : Nat) (M : List (List UInt8)) (hR : RowsN w g cap (fun b => b ≠ g) M) (hL : Lev n L M) (hc : n ≤ c) (hn : n ≤ 2000) (hL2 : L ≤ 1000) (hcols : cols ≤ L) :
    Calls Try.prog 59 #[.pointer P, .slice (some ⟨g, 0, none⟩) n c, .int .i64 (cols : Int)] w fun e w' => e = .returned (.int .i64 ((sweepTo M cols).2 : Int)) ∧ RowsN w' g cap (fun b => b ≠ g) (sweepTo M cols).1 ∧ w.grownBy w' (some g) := by
  have HR := Lib.hid hR
  have HL := Lib.hid hL
  have hgs : g < w.heap.size := hR.lt
  have hncap : n ≤ cap := by rw [← hL.1]; exact hR.le
  clear hR hL
  go_enter Try.func59, Try.ntmps59
  go_wp2_with fail
  go_loopw [7, 14] (fun dn i wr => ∃ (k : Nat), k ≤ cols ∧ i = .int .i64 (k : Int) ∧ dn = .int .i64 ((sweepTo M k).2 : Int) ∧ Hid (RowsN wr g cap (fun b => b ≠ g) (sweepTo M k).1 ∧ w.grownBy wr (some g))) (fun _ i _ => cols - (intOf i).toNat)
  case atStart => exact ⟨0, by omega, rfl, rfl, Lib.hid ⟨HR.out, grown_refl w _⟩⟩
  case round =>
    obtain ⟨k, hk, rfl, rfl, H⟩ := hrel
    have HLK := Lib.hid (sweep_lev HL.out k)
    have hdone := sweep_done HL.out k
    obtain ⟨S, hS⟩ : ∃ S, (sweepTo M k).1 = S := ⟨_, rfl⟩
    obtain ⟨d, hd⟩ : ∃ d, (sweepTo M k).2 = d := ⟨_, rfl⟩
    have HST := Lib.hid (show sweepTo M (k + 1) = colStep k S d from by rw [← hS, ← hd]; rfl)
    have HSD := Lib.hid (And.intro hS hd)
    rw [hS] at H HLK
    rw [hd] at hdone ⊢
    clear hS hd
    by_cases hlt : k < cols
    · have l1 : (k : Int) < (cols : Int) := by omega
      have hdn : d ≤ n := hdone.1
      have hsl := fun w => sliceAt_from (P := Try.prog) Try.underlying22 rowInfo1 .i64 (some ⟨g, 0, none⟩) n c d hdn w
      have hb1 : Below wr.heap.size wr (wr.alloc (.cells #[.int .i64 (k : Int)] 3)) := (Below.refl _ wr).alloc (Nat.le_refl _) _
      have hcell1 : (wr.alloc (.cells #[.int .i64 (k : Int)] 3)).cell? ⟨wr.heap.size, 0, none⟩ = some (.int .i64 (k : Int)) := cell_one_new wr _ _ 0 _ rfl
      have hR1 := H.out.1.below hb1
      have HI := Lib.hid (index_says _ _ (n - d) (c - d) (S.drop d) (hR1.sub HLK.out.1 hc hdn) 68 (.pointer (some ⟨wr.heap.size, 0, none⟩)) (pivP k) (enters_of Try.func68 (by kernel_rfl) rfl)
        (fun W Ai ci l hW hl hll => sweep1_says W wr.heap.size k ((hW.cell (p := ⟨wr.heap.size, 0, none⟩) (by simp)).trans hcell1) Ai ci l hll (by have := HLK.out.2 l (List.mem_of_mem_drop hl); omega)) (by omega))
      have HB1 := Lib.hid hb1
      have HR1 := Lib.hid hR1
      have HC1 := Lib.hid hcell1
      clear hb1 hR1 hcell1
      have hgw : g < wr.heap.size := H.out.1.lt
      go_upto_region 6 with (go_at_call 34; refine HI.out.mono ?_; rintro e wn ⟨rfl, hbn⟩; have HBN := Lib.hid hbn; clear hbn)
      have HN := Lib.hid (show RowsN wn g cap (fun b => b ≠ g) S ∧ wn.cell? ⟨wr.heap.size, 0, none⟩ = some (.int .i64 (k : Int)) ∧ wr.heap.size < wn.heap.size ∧ w.grownBy wn (some g) from by
        refine ⟨HR1.out.below HBN.out, (HBN.out.cell (p := ⟨wr.heap.size, 0, none⟩) (by simp)).trans HC1.out, Nat.lt_of_lt_of_le (by simp) HBN.out.size, ?_⟩
        have hb3 : Below wr.heap.size wr wn := HB1.out.trans (HBN.out.mono HB1.out.size)
        exact grown_trans H.out.2 (grown_of_below hb3 _))
      have hhg : wr.heap.size ≠ g := by omega
      have hws : w.heap.size ≤ wr.heap.size := H.out.2.size
      generalize wr.heap.size = h at HN hhg hws
      clear HI HBN HR1 HC1 HB1 H hgw hsl
      rcases Bool.eq_false_or_eq_true ((S.drop d).any (pivP k)) with hany | hany
      · -- a row is found
        have hpl := piv_lt hany
        rw [HLK.out.1] at hpl
        have HCS := Lib.hid (show colStep k S d = _ from by rw [colStep, if_pos hany])
        obtain ⟨q, hq⟩ : ∃ q, (S.drop d).findIdx (pivP k) = q := ⟨_, rfl⟩
        rw [hq] at hpl HCS
        have hix : idxL (pivP k) (S.drop d) = (q : Int) := by rw [idxL, if_pos hany, hq]
        rw [hix]
        obtain ⟨rp, hrp, hrp2, hrpl⟩ := HLK.out.get hpl
        obtain ⟨rd, hrd, hrd2, hrdl⟩ := HLK.out.get (show d < n by omega)
        have hpiv : pivP k rp = true := by
          have h1 : (S.drop d)[q]? = some rp := by rw [List.getElem?_drop]; exact hrp
          have h2 := List.findIdx_getElem (p := pivP k) (xs := S.drop d) (w := List.findIdx_lt_length.2 (List.any_eq_true.1 hany))
          have h3 : (S.drop d)[(S.drop d).findIdx (pivP k)]? = some rp := by rw [hq]; exact h1
          rw [List.getElem?_eq_getElem (List.findIdx_lt_length.2 (List.any_eq_true.1 hany))] at h3
          rwa [Option.some.inj h3] at h2
        rw [hrp2] at HCS
        obtain ⟨u, hu⟩ : ∃ u, rp[k]? = some u := ⟨_, List.getElem?_eq_getElem (by omega)⟩
        have hgu : rp.getD k 0 = u := by simp [List.getD_eq_getElem?_getD, hu]
        obtain ⟨lead, hld⟩ : ∃ l, leadOf k rp = l := ⟨_, rfl⟩
        have hlead : lead = rp.map (fun y => Gf.mul y (Gf.inv u)) := by rw [← hld, leadOf, hgu]
        have hll : lead.length = L := by rw [← hld, leadOf_length, hrpl]
        rw [hld] at HCS
        obtain ⟨Ap, cp, hcp, hlp⟩ := HN.out.1.row hrp
        rw [hrpl] at hcp hlp
        obtain ⟨bp, op, hAp, _, hbp, hcu⟩ := hlp.at (j := k) (u := .int .u8 (u.toNat : Int)) (by simp [bc, hu])
        subst hAp
        have hck := HN.out.2.1
        have m1 : (0 : Int) ≤ (d : Int) + (q : Int) := by omega
        have m2 : (d : Int) + (q : Int) < (n : Int) := by omega
        have m3 : ((d : Int) + (q : Int)).toNat = d + q := by omega
        have m4 : IntKind.i64.wrap ((d : Int) + (q : Int)) = (d : Int) + (q : Int) := IntWalk.i64_in _ (by omega)
        have m5 : (k : Int) < (L : Int) := by omega
        have hq0 : ¬ (q : Int) < 0 := by omega
        have HRP := Lib.hid (And.intro hrp (And.intro hrd (And.intro hrdl hrd2)))
        have HLP := Lib.hid hlp
        have HLD := Lib.hid (And.intro hlead hll)
        clear hany hq hix hrp hrp2 hrpl hrd hrd2 hrdl hu hgu hld hlead hlp
        go_wp2_with fail
        refine wp_region_held_drew (S := fun w' => w'.cell? ⟨g, d + q, none⟩ = some (.slice (some ⟨bp, op, none⟩) L cp) ∧ w'.cell? ⟨h, 0, none⟩ = some (.int .i64 (k : Int)) ∧ w'.cell? ⟨bp, op + k, none⟩ = some (.int .u8 (u.toNat : Int))) (by kernel_rfl) ⟨hcp, hck, hcu⟩ (fun hHeld => ?_)
        refine take_run 0 24 (v := ?_) rfl rfl (by kernel_rfl) (by kernel_rfl) (by kernel_rfl) (fun _ _ _ h => h) (by rfl) ?_ (by assumption) ?_
        rotate_left
        · (intro wq hSw; obtain ⟨hS1, hS2, hS3⟩ := hSw; go_simp; first | done | with_reducible rfl)
        simp only [Act.put, List.setIfInBounds_toArray, List.set_cons_zero, List.set_cons_succ]
        refine take_run 1 25 (v := ?_) rfl rfl (by kernel_rfl) (by kernel_rfl) (by kernel_rfl) (fun _ _ _ h => h) (by rfl) ?_ (by assumption) ?_
        rotate_left
        · (intro wq hSw; obtain ⟨hS1, hS2, hS3⟩ := hSw; go_simp; first | done | with_reducible rfl)
        simp only [Act.put, List.setIfInBounds_toArray, List.set_cons_zero, List.set_cons_succ]
        refine take_run 2 26 (v := ?_) rfl rfl (by kernel_rfl) (by kernel_rfl) (by kernel_rfl) (fun _ _ _ h => h) (by rfl) ?_ (by assumption) ?_
        rotate_left
        · (intro wq hSw; obtain ⟨hS1, hS2, hS3⟩ := hSw; go_simp; first | done | with_reducible rfl)
        simp only [Act.put, List.setIfInBounds_toArray, List.set_cons_zero, List.set_cons_succ]
        refine take_run 3 27 (v := ?_) rfl rfl (by kernel_rfl) (by kernel_rfl) (by kernel_rfl) (fun _ _ _ h => h) (by rfl) ?_ (by assumption) ?_
        rotate_left
        · (intro wq hSw; obtain ⟨hS1, hS2, hS3⟩ := hSw; go_simp; first | done | with_reducible rfl)
        simp only [Act.put, List.setIfInBounds_toArray, List.set_cons_zero, List.set_cons_succ]
        refine take_run 4 28 (v := ?_) rfl rfl (by kernel_rfl) (by kernel_rfl) (by kernel_rfl) (fun _ _ _ h => h) (by rfl) ?_ (by assumption) ?_
        rotate_left
        · (intro wq hSw; obtain ⟨hS1, hS2, hS3⟩ := hSw; go_simp; first | done | with_reducible rfl)
        simp only [Act.put, List.setIfInBounds_toArray, List.set_cons_zero, List.set_cons_succ]
        refine take_run 5 29 (v := ?_) rfl rfl (by kernel_rfl) (by kernel_rfl) (by kernel_rfl) (fun _ _ _ h => h) (by rfl) ?_ (by assumption) ?_
        rotate_left
        · (intro wq hSw; obtain ⟨hS1, hS2, hS3⟩ := hSw; go_simp; first | done | with_reducible rfl)
        simp only [Act.put, List.setIfInBounds_toArray, List.set_cons_zero, List.set_cons_succ]
        refine take_run 6 30 (v := ?_) rfl rfl (by kernel_rfl) (by kernel_rfl) (by kernel_rfl) (fun _ _ _ h => h) (by rfl) ?_ (by assumption) ?_
        rotate_left
        · (intro wq hSw; obtain ⟨hS1, hS2, hS3⟩ := hSw; go_simp; first | done | with_reducible rfl)
        simp only [Act.put, List.setIfInBounds_toArray, List.set_cons_zero, List.set_cons_succ]
        refine take_run 7 31 (v := ?_) rfl rfl (by kernel_rfl) (by kernel_rfl) (by kernel_rfl) (fun _ _ _ h => h) (by rfl) ?_ (by assumption) ?_
        rotate_left
        · (intro wq hSw; obtain ⟨hS1, hS2, hS3⟩ := hSw; go_simp; first | done | with_reducible rfl)
        simp only [Act.put, List.setIfInBounds_toArray, List.set_cons_zero, List.set_cons_succ]
        refine take_run 8 32 (v := ?_) rfl rfl (by kernel_rfl) (by kernel_rfl) (by kernel_rfl) (fun _ _ _ h => h) (by rfl) ?_ (by assumption) ?_
        rotate_left
        · (intro wq hSw; obtain ⟨hS1, hS2, hS3⟩ := hSw; go_simp; first | done | with_reducible rfl)
        simp only [Act.put, List.setIfInBounds_toArray, List.set_cons_zero, List.set_cons_succ]
        refine take_run 9 33 (v := ?_) rfl rfl (by kernel_rfl) (by kernel_rfl) (by kernel_rfl) (fun _ _ _ h => h) (by rfl) ?_ (by assumption) ?_
        rotate_left
        · (intro wq hSw; obtain ⟨hS1, hS2, hS3⟩ := hSw; go_simp; first | done | with_reducible rfl)
        simp only [Act.put, List.setIfInBounds_toArray, List.set_cons_zero, List.set_cons_succ]
        refine take_run 10 34 (v := ?_) rfl rfl (by kernel_rfl) (by kernel_rfl) (by kernel_rfl) (fun _ _ _ h => h) (by rfl) ?_ (by assumption) ?_
        rotate_left
        · (intro wq hSw; obtain ⟨hS1, hS2, hS3⟩ := hSw; go_simp; first | done | with_reducible rfl)
        simp only [Act.put, List.setIfInBounds_toArray, List.set_cons_zero, List.set_cons_succ]
        refine take_run 11 35 (v := ?_) rfl rfl (by kernel_rfl) (by kernel_rfl) (by kernel_rfl) (fun _ _ _ h => h) (by rfl) ?_ (by assumption) ?_
        rotate_left
        · (intro wq hSw; obtain ⟨hS1, hS2, hS3⟩ := hSw; go_simp; first | done | with_reducible rfl)
        simp only [Act.put, List.setIfInBounds_toArray, List.set_cons_zero, List.set_cons_succ]
        refine take_run 12 36 (v := ?_) rfl rfl (by kernel_rfl) (by kernel_rfl) (by kernel_rfl) (fun _ _ _ h => h) (by rfl) ?_ (by assumption) ?_
        rotate_left
        · (intro wq hSw; obtain ⟨hS1, hS2, hS3⟩ := hSw; go_simp; first | done | with_reducible rfl)
        simp only [Act.put, List.setIfInBounds_toArray, List.set_cons_zero, List.set_cons_succ]
        refine take_run 13 37 (v := ?_) rfl rfl (by kernel_rfl) (by kernel_rfl) (by kernel_rfl) (fun _ _ _ h => h) (by rfl) ?_ (by assumption) ?_
        rotate_left
        · (intro wq hSw; obtain ⟨hS1, hS2, hS3⟩ := hSw; go_simp; first | done | with_reducible rfl)
        simp only [Act.put, List.setIfInBounds_toArray, List.set_cons_zero, List.set_cons_succ]
        refine take_run 14 38 (v := ?_) rfl rfl (by kernel_rfl) (by kernel_rfl) (by kernel_rfl) (fun _ _ _ h => h) (by rfl) ?_ (by assumption) ?_
        rotate_left
        · (intro wq hSw; obtain ⟨hS1, hS2, hS3⟩ := hSw; go_simp; first | done | with_reducible rfl)
        simp only [Act.put, List.setIfInBounds_toArray, List.set_cons_zero, List.set_cons_succ]
        refine take_run 15 39 (v := ?_) rfl rfl (by kernel_rfl) (by kernel_rfl) (by kernel_rfl) (fun _ _ _ h => h) (by rfl) ?_ (by assumption) ?_
        rotate_left
        · (intro wq hSw; obtain ⟨hS1, hS2, hS3⟩ := hSw; go_simp; first | done | with_reducible rfl)
        simp only [Act.put, List.setIfInBounds_toArray, List.set_cons_zero, List.set_cons_succ]
        refine take_run 16 40 (v := ?_) rfl rfl (by kernel_rfl) (by kernel_rfl) (by kernel_rfl) (fun _ _ _ h => h) (by rfl) ?_ (by assumption) ?_
        rotate_left
        · (intro wq hSw; obtain ⟨hS1, hS2, hS3⟩ := hSw; go_simp; first | done | with_reducible rfl)
        simp only [Act.put, List.setIfInBounds_toArray, List.set_cons_zero, List.set_cons_succ]
        refine wpAnyH_ready (rs := [17]) (by kernel_rfl) (by simp) ?_
        refine AllReadyH.cons rfl (fun K hK => ?_) AllReadyH.nil
        go_simp
        refine (inv_says P u wn.drew).mono ?_
        rintro e wi ⟨rfl, hwi⟩
        subst hwi
        refine hK.out _ _ ⟨hcp, hck, hcu⟩ (fun hHeld => ?_)
        clear hK K
        refine wpAnyH_ready (rs := [18]) (by kernel_rfl) (by simp) ?_
        refine AllReadyH.cons rfl (fun K hK => ?_) AllReadyH.nil
        go_simp
        refine (scale_of gfB P (some ⟨bp, op, none⟩) L cp rp (Gf.inv u) wn.drew (HLP.out.weak (fun _ _ _ => trivial)) (by omega)).mono ?_
        rintro e w2 ⟨Al, nl, cl, rfl, hla, hb2⟩
        rw [← HLD.out.1] at hla
        obtain rfl : nl = L := by rw [← HLD.out.2, ← bc_length]; exact hla.len.symm
        have HB2 := Lib.hid (show Below wn.heap.size wn w2 from (Below.refl _ wn).drew.trans hb2)
        have HLA := Lib.hid (show Lies w2 (fun b => b ≠ g) Al nl cl (bc lead) from hla.weak (fun b _ hb => by have := HN.out.1.lt; have hb' : wn.heap.size ≤ b := hb; omega))
        clear hb2 hla
        refine hK.out _ _ ⟨(HB2.out.cell (p := ⟨g, d + q, none⟩) HN.out.1.lt).trans hcp, (HB2.out.cell (p := ⟨h, 0, none⟩) HN.out.2.2.1).trans hck, (HB2.out.cell (p := ⟨bp, op + k, none⟩) hbp).trans hcu⟩ (fun hHeld => ?_)
        clear hK K
        refine take_run 19 10 (v := ?_) rfl rfl (by kernel_rfl) (by kernel_rfl) (by kernel_rfl) (fun _ _ _ h => h) (by rfl) ?_ (by assumption) ?_
        rotate_left
        · (intro wq hSw; obtain ⟨hS1, hS2, hS3⟩ := hSw; go_simp; first | done | with_reducible rfl)
        simp only [Act.put, List.setIfInBounds_toArray, List.set_cons_zero, List.set_cons_succ]
        refine wpAnyH_done (by kernel_rfl) ?_ _
        have hR2 := HN.out.1.below HB2.out
        obtain ⟨Ad, cd, hcd, hlad⟩ := hR2.row HRP.out.2.1
        rw [HRP.out.2.2.1] at hcd hlad
        have hcp2 := hHeld.1
        have hfp := (hR2.place (i := d + q) (by omega)).2
        have hG2 : w.grownBy w2 (some g) := grown_trans HN.out.2.2.2 (grown_of_below HB2.out _)
        have hck2 := hHeld.2.1
        have HR2 := Lib.hid (And.intro hR2 (And.intro hG2 (And.intro hlad (And.intro hck2 (Nat.lt_of_lt_of_le HN.out.2.2.1 HB2.out.size)))))
        clear hR2 hG2 hlad hck2 hHeld hcp hck hcu HB2 HN HLP
        have m6 : (d : Int) < (n : Int) := by omega
        go_upto_region 9 with fail
        generalize hw3 : w2.setCell (⟨g, d + q, none⟩ : Addr) (Value.slice Ad nl cd) = w3
        have H3 := Lib.hid (show RowsN w3 g cap (fun b => b ≠ g) (S.set (d + q) rd) ∧ w.grownBy w3 (some g) ∧ w3.cell? ⟨h, 0, none⟩ = some (.int .i64 (k : Int)) ∧ h < w3.heap.size ∧ Lies w3 (fun b => b ≠ g) Al nl cl (bc lead) from by
          subst hw3
          refine ⟨HR2.out.1.put (fun e => e rfl) HRP.out.2.2.1 HR2.out.2.2.1, grown_set HR2.out.2.1 _ _, ?_, by simpa using HR2.out.2.2.2.2, lies_set HLA.out (p := ⟨g, d + q, none⟩) (fun e => e rfl) _⟩
          exact (World.cell?_setCell_other _ _ _ _ (fun e => by injection e with e; omega)).trans HR2.out.2.2.2.1)
        clear hw3 hcd hcp2 hfp HR2 HLA
        obtain ⟨⟨v3, hc3⟩, hf3⟩ := H3.out.1.place (i := d) (by omega)
        go_upto_region 10 with fail
        generalize hw4 : w3.setCell (⟨g, d, none⟩ : Addr) (Value.slice Al nl cl) = w4
        have H4 := Lib.hid (show InAt w w4 g cap h k n nl Al cl lead (swapped S d (d + q) lead) from by
          subst hw4
          refine ⟨?_, lies_set H3.out.2.2.2.2 (p := ⟨g, d, none⟩) (fun e => e rfl) _, ?_, ⟨by simpa using H3.out.2.2.2.1, hhg⟩, grown_set H3.out.2.1 _ _, HLK.out.swapped (by omega) HLD.out.2⟩
          · unfold swapped
            rw [HRP.out.2.2.2]
            exact H3.out.1.put (fun e => e rfl) HLD.out.2 H3.out.2.2.2.2
          · exact (World.cell?_setCell_other _ _ _ _ (fun e => by injection e with e; omega)).trans H3.out.2.2.1)
        clear hw4 hc3 hf3 H3
        obtain ⟨T, hT⟩ : ∃ T, swapped S d (d + q) lead = T := ⟨_, rfl⟩
        rw [hT] at H4 HCS
        have HTL := Lib.hid H4.out.lev
        rw [HLK.out.1] at HCS
        clear hT
        go_wp2_with fail
        go_loopw [11, 12, 58] (fun _ _ i wr => ∃ (s : Nat), s ≤ n ∧ i = .int .i64 (s : Int) ∧ Hid (InAt w wr g cap h k n nl Al cl lead (sweptTo lead k d s T))) (fun _ _ i _ => n - (intOf i).toNat)
        case atStart => exact ⟨0, by omega, rfl, by rw [sweptTo_zero]; exact H4⟩
        case round =>
          obtain ⟨s, hs, rfl, H5⟩ := hrel
          by_cases hlt2 : s < n
          · have n1 : (s : Int) < (n : Int) := by omega
            obtain ⟨r, hr⟩ : ∃ r, T[s]? = some r := ⟨_, List.getElem?_eq_getElem (by rw [HTL.out.1]; exact hlt2)⟩
            have hrl := HTL.out.at hr
            have hr5 : (sweptTo lead k d s T)[s]? = some r := by rw [sweptTo_at, hr]; simp
            obtain ⟨As, cs, hcs, hls⟩ := H5.out.rows.row hr5
            rw [hrl] at hcs hls
            by_cases hsd : s = d
            · subst hsd
              have n2 : ¬ ((s : Int) != (s : Int)) = true := by simp
              go_wp2
              go_roundw
              case rel => exact ⟨s + 1, by omega, by go_num, by rw [sweptTo_skip]; exact H5⟩
              case measure => simp [intOf]; omega
            · have n2 : ¬ (s : Int) = (d : Int) := by omega
              obtain ⟨x, hx⟩ : ∃ x, r[k]? = some x := ⟨_, List.getElem?_eq_getElem (by omega)⟩
              have hgx : r.getD k 0 = x := by simp [List.getD_eq_getElem?_getD, hx]
              obtain ⟨bs, os, hAs, _, hbs, hcx⟩ := hls.at (j := k) (u := .int .u8 (x.toNat : Int)) (by simp [bc, hx])
              subst hAs
              have hck5 := H5.out.col
              have HSC := Lib.hid (scale_of gfB P Al nl cl lead x wr (H5.out.lies.weak (fun _ _ _ => trivial)) (by omega))
              have HSM := Lib.hid (fun (W : World) (hW : Below wr.heap.size wr W) (B : Option Addr) (m c : Nat) (b : List UInt8) (hB : Lies W (fun _ => True) B m c (bc b)) (hm : m ≤ 2000) => sum_of gfB P (some ⟨bs, os, none⟩) nl cs r B m c b W ((hls.below hW).weak (fun _ _ _ => trivial)) hB (by omega) hm)
              have HEL := Lib.hid (show elim lead k r = Gf.padd r (lead.map (fun y => Gf.mul y x)) from by rw [elim, hgx])
              have HSS := Lib.hid (sweptTo_step lead k d s T hsd hr)
              have HRL := Lib.hid hrl
              clear hx hgx hls hbs hr5 hr hsd hrl
              go_wp2_with (first
                | (go_at_call 49; refine HSC.out.mono ?_; rintro e w6 ⟨B6, n6, c6, rfl, hl6, hb6⟩; have hn6 : n6 = nl := (by rw [← hl6.len, bc_length, List.length_map]; exact HLD.out.2); subst hn6; have HL6 := Lib.hid (And.intro hl6 hb6); clear hl6 hb6)
                | (go_at_call 44; refine (HSM.out w6 HL6.out.2 _ _ _ _ (HL6.out.1.weak (fun _ _ _ => trivial)) (by omega)).mono ?_; rintro e w7 ⟨B7, n7, c7, rfl, hl7, hb7⟩; have hR7 := (H5.out.rows.below HL6.out.2).below hb7; obtain ⟨⟨v7, hc7⟩, hf7⟩ := hR7.place (i := s) (by omega); have HL7 := Lib.hid (And.intro hl7 (And.intro hb7 hR7)); clear hl7 hb7 hR7))
              go_roundw
              case rel =>
                have hbb : Below wr.heap.size wr w7 := HL6.out.2.trans (HL7.out.2.1.mono HL6.out.2.size)
                have hle : (elim lead k r).length = n6 := elim_length HLD.out.2 HRL.out
                have hn7 : n7 = n6 := by rw [← HL7.out.1.len, bc_length, ← HEL.out, hle]
                subst hn7
                refine ⟨s + 1, by omega, by go_num, Lib.hid ⟨?_, ?_, ?_, ?_, ?_, ?_⟩⟩
                · rw [← HSS.out]
                  refine HL7.out.2.2.put (fun e => e rfl) hle ?_
                  rw [HEL.out]
                  exact HL7.out.1.weak (fun b _ hb => by have := H5.out.rows.lt; have := HL6.out.2.size; have hb' : w6.heap.size ≤ b := hb; omega)
                · exact lies_set (H5.out.lies.below hbb) (p := ⟨g, s, none⟩) (fun e => e rfl) _
                · exact (World.cell?_setCell_other _ _ _ _ (fun e => by injection e with e; exact H5.out.lt.2 e.symm)).trans ((hbb.cell (p := ⟨h, 0, none⟩) H5.out.lt.1).trans H5.out.col)
                · exact ⟨by simpa using Nat.lt_of_lt_of_le H5.out.lt.1 hbb.size, H5.out.lt.2⟩
                · exact grown_set (grown_trans H5.out.grown (grown_of_below hbb _)) _ _
                · rw [← HSS.out]
                  exact H5.out.lev.set s hle
              case measure => simp [intOf]; omega
          · obtain rfl : s = n := by omega
            have n1 : ¬ (s : Int) < (s : Int) := by omega
            have m7 : IntKind.i64.wrap ((d : Int) + 1) = ((d + 1 : Nat) : Int) := by rw [IntWalk.i64_in _ (by omega)]; omega
            go_wp2
            go_roundw
            case rel =>
              refine ⟨k + 1, by omega, by go_num, ?_, Lib.hid ⟨?_, H5.out.grown⟩⟩
              · rw [HST.out, HCS.out]
                first | rfl | (simp; done)
              · rw [HST.out, HCS.out]
                exact H5.out.rows
            case measure => simp [intOf]; omega
      · -- none is
        have hix : idxL (pivP k) (S.drop d) = -1 := by rw [idxL, if_neg (by rw [hany]; decide)]
        have HCS := Lib.hid (show colStep k S d = (S, d) from by rw [colStep, if_neg (by rw [hany]; decide)])
        rw [hix]
        clear hix hany
        go_wp2
        go_roundw
        case rel =>
          refine ⟨k + 1, by omega, by go_num, by rw [HST.out, HCS.out], Lib.hid ⟨by rw [HST.out, HCS.out]; exact HN.out.1, HN.out.2.2.2⟩⟩
        case measure => simp [intOf]; omega
    · obtain rfl : k = cols := by omega
      have l1 : ¬ (k : Int) < (k : Int) := by omega
      go_wp2
      go_ret
      rw [HSD.out.1, HSD.out.2]
      exact ⟨rfl, H.out⟩
end Go.Proofs.Ytpbkabgjpieggaa


namespace Go.Proofs.Ytpbkabgjpieggaa
open Go.RowKit Go.Shelf

theorem right_lev {M : List (List UInt8)} (h : RightM M) : Lev M.length (colsOf M) M := ⟨rfl, fun r hr => (h.2.2 r hr).1⟩
/-- What Rank tells. -/
def rankL (M : List (List UInt8)) : Nat := if RightM M then (sweepTo M (colsOf M)).2 else 0
theorem rank_right {M : List (List UInt8)} (h : RightM M) : Gf.IsRank M.length (colsOf M) (at2 M) (rankL M) := by
  rw [rankL, if_pos h]
  exact sweep_rank (right_lev h) _

set_option maxRecDepth 100000 in
theorem sweep_none (P : Option Addr) (v : Value) (w : World) : Calls Try.prog 59 #[.pointer P, v, .int .i64 0] w fun e w' => e = .returned (.int .i64 0) ∧ w' = w := by
  go_enter Try.func59, Try.ntmps59
  go_wp2_with fail
  go_loopw [7, 14] (fun dn i wr => i = .int .i64 0 ∧ dn = .int .i64 0 ∧ Hid (wr = w)) (fun _ _ _ => 0)
  case atStart => exact ⟨rfl, rfl, Lib.hid rfl⟩
  case round =>
    obtain ⟨rfl, rfl, H⟩ := hrel
    have hw' : w = wr := H.out.symm
    subst hw'
    go_wp2
    go_ret
    exact ⟨rfl, rfl⟩

end Go.Proofs.Ytpbkabgjpieggaa

