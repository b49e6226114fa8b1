/-
  slices.Clone over bytes and over rows; mat.copied.
-/
import Derived.Test.YtgakeecibofiiaaRowsO
import Derived.Test.YtgakeecibofiiaaGfB
import Derived.Lib.SliceRun
namespace Go.Proofs.Ytgakeecibofiiaa
open Go.RowKit

theorem Own.liesB {w : World} {base : Nat} {v : Value} {l : List UInt8} (h : Own w base v l) : ∃ A c, v = .slice A l.length c ∧ Lies w (fun b => base ≤ b) A l.length c (bc l) := by
  have hlt := World.ownsRow.lt h
  rcases h.2 with ⟨hv, hn⟩ | ⟨g, cap, cur, hv, hbg, hh, hnc, _⟩
  · have hl : l = [] := List.eq_nil_of_length_eq_zero hn
    subst hl
    exact ⟨none, 0, hv, Lies.nil _ _⟩
  · subst hv
    exact ⟨_, cap, rfl, bc_length l, hnc, fun _ => ⟨⟨g, 0, none⟩, rfl, hbg, (hlt g rfl).2, fun j u hu => World.ownsRow.cells h (g := g) rfl j u hu⟩⟩
theorem Own.made (w : World) {base : Nat} (hb : base ≤ w.heap.size) : Own (w.alloc (.cells #[] 5)) base (.slice (some ⟨w.heap.size, 0, none⟩) 0 0) [] := World.ownsRow_made w #[] 0 hb (Nat.zero_le _) rfl

set_option maxRecDepth 100000 in
set_option maxHeartbeats 1000000 in
theorem cloneB_says (W : World) (A : Option Addr) (c : Nat) (l : List UInt8) (n : Nat) (hn : l.length = n) (h : Lies W (fun _ => True) A n c (bc l)) (h0 : 1 ≤ n) (h1 : n ≤ 2000) : Calls Try.prog 61 #[.slice A n c] W (GivesN W l) := by
  obtain ⟨ad, hA, _⟩ := h.2.2 (by omega)
  subst hA
  have HL := Lib.hid (h.below ((Below.refl _ W).alloc (Nat.le_refl _) (.cells #[] 5)))
  have HO := Lib.hid (Own.made W (base := W.heap.size) (Nat.le_refl _))
  have HB := Lib.hid (show Below W.heap.size W (W.alloc (.cells #[] 5)) from (Below.refl _ W).alloc (Nat.le_refl _) _)
  clear h
  have q22 : ∀ (w : World) (a : Option Addr) (n c n' c' : Nat), (binOp .eql 31 (.slice a n c) (.slice none n' c')).run Try.prog w = .ok (.bool a.isNone) w := fun w a n c n' c' => Lib.run_eql_slice_nil w _ _ a n c n' c' Try.underlying31
  go_enter Try.func61, Try.ntmps61
  go_wp2_with (at_builtin; refine wpList_bytes _ _ _ rfl rfl W.heap.size _ [] (some ad) n c l rfl rfl HO.out HL.out (by intro h; cases h) (by simp; omega) (by simp) ?_; intro v9 w9 ho9 hg9)
  have h9 : Own w9 W.heap.size v9 l := ho9
  obtain ⟨A9, c9, hv9, hl9⟩ := h9.liesB
  subst hv9
  go_wp2
  go_ret
  exact ⟨_, _, _, rfl, hl9, HB.out.trans (HO.out.changed hg9 (by simp))⟩

set_option maxRecDepth 100000 in
set_option maxHeartbeats 1000000 in
theorem cloneM_says (w : World) (A : Option Addr) (n c : Nat) (M : List (List UInt8)) (hM : Mtx w A n c M) (hn : n ≤ 2000) : Calls Try.prog 38 #[.slice A n c] w fun e w' => ∃ v, e = .returned v ∧ RowsO w' w.heap.size v M ∧ Below w.heap.size w w' := by
  have hl := hM.len
  have q22 : ∀ (w : World) (a : Option Addr) (n c n' c' : Nat), (binOp .eql 26 (.slice a n c) (.slice none n' c')).run Try.prog w = .ok (.bool a.isNone) w := fun w a n c n' c' => Lib.run_eql_slice_nil w _ _ a n c n' c' Try.underlying26
  rcases A with _ | ad
  · obtain rfl : n = 0 := by
      rcases Nat.eq_zero_or_pos n with h | h
      · exact h
      · obtain ⟨_, _, he, _⟩ := hM.2.2 h
        cases he
    obtain rfl : M = [] := List.eq_nil_of_length_eq_zero hl
    go_enter Try.func38, Try.ntmps38
    go_wp2
    go_ret
    exact ⟨_, rfl, RowsO.nil _ _, Below.refl _ _⟩
  · have hb1 : Below w.heap.size w (w.alloc (.cells #[] 31)) := (Below.refl _ w).alloc (Nat.le_refl _) _
    obtain ⟨vals, hv1, hv2⟩ := hM.old (Nat.le_refl _) (ad := ad) rfl
    have HN := Lib.hid (hv1.keep hb1)
    have HC := Lib.hid (show ∀ (j : Nat) (u : Value), vals[j]? = some u → (w.alloc (.cells #[] 31)).cell? (ad.add j) = some u from fun j u hu => by
      have h1 := hv2 j u hu
      obtain ⟨l, hlj⟩ : ∃ l, M[j]? = some l := ⟨_, List.getElem?_eq_getElem (by rw [← hv1.1]; exact (List.getElem?_eq_some_iff.1 hu).1)⟩
      obtain ⟨b, off, _, _, hA, hb, _, _⟩ := hM.row hlj
      cases hA
      exact (hb1.cell (by rw [add_block]; exact hb)).trans h1)
    have HO := Lib.hid (RowsO.made w (base := w.heap.size) (Nat.le_refl _))
    have HB := Lib.hid hb1
    clear hM hb1 hv1 hv2
    go_enter Try.func38, Try.ntmps38
    go_wp2_with (at_builtin; refine wpList_append_old _ _ _ rfl rfl w.heap.size _ [] M ad n c vals rfl rfl HO.out HN.out hl HC.out (by simp; omega) (by simp) ?_; intro v9 w9 ho9 hg9)
    have HR := Lib.hid (And.intro ho9 hg9)
    clear ho9 hg9
    go_wp2
    go_ret
    exact ⟨_, rfl, by have := HR.out.1; simpa using this, HB.out.trans HR.out.2⟩
end Go.Proofs.Ytgakeecibofiiaa
