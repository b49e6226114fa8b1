/-
  What heads by turns come to, in plain words: a device on which the last head lies, another one saved, with a fall. No statement about the program stands here.
-/
import Derived.Test.YthpfdenpgegheaaLoadS
import Derived.Test.YthpfdenpgegheaaNear
namespace Go.Proofs.Ythpfdenpgegheaa
open Go.RowKit

set_option linter.unusedVariables false
/-- The last head of a device lies in its slot; the other one has none of the next mark, and no head that is later. -/
structure Turn (D : Dv) (last : Hd) : Prop where
  len : D.bs.length = 40
  up : D.down = false
  left : D.left = -1
  still : D.ws = []
  right : last.rightB 40 = true
  slot : (D.blk (last.gen % 2)).1 = last.block
  near : ∀ hg, Near (mk9 (last.gen + 1) hg) (D.blk ((last.gen + 1) % 2)).1
  less : headOf (D.blk ((last.gen + 1) % 2)).1 40 = none ∨ ∃ h, headOf (D.blk ((last.gen + 1) % 2)).1 40 = some h ∧ h.gen < last.gen
theorem Turn.gen {D : Dv} {last : Hd} (h : Turn D last) : 1 ≤ last.gen ∧ last.gen ≤ 4611686018427387904 := (Hd.right_iff.1 h.right).1
theorem Turn.loads {D : Dv} {last : Hd} (h : Turn D last) : lastN D 2 = last := by
  have hg := h.gen
  have hl : (D.bs.length : Int) = 40 := by rw [h.len]; rfl
  have hb := headOf_block last 40 h.right
  have hs := h.slot
  have hL := h.less
  show pickH (pickH Hd.zero 0 (headOf (D.blk 0).1 (D.bs.length : Int))) 1 (headOf (D.blk 1).1 (D.bs.length : Int)) = last
  rw [hl]
  have hz : Hd.zero.gen = 0 := rfl
  rcases Nat.mod_two_eq_zero_or_one last.gen with e | e
  · rw [e] at hs
    rw [show (last.gen + 1) % 2 = 1 by omega] at hL
    rw [hs, hb, show pickH Hd.zero 0 (some last) = last from if_pos ⟨e, by rw [hz]; omega⟩]
    rcases hL with h1 | ⟨k, h1, h2⟩
    · rw [h1]; rfl
    · rw [h1]; exact if_neg (fun q => by omega)
  · rw [e] at hs
    rw [show (last.gen + 1) % 2 = 0 by omega] at hL
    rw [hs, hb]
    refine if_pos ⟨e, ?_⟩
    rcases hL with h1 | ⟨k, h1, h2⟩
    · rw [h1]
      show Hd.zero.gen < last.gen
      omega
    · rw [h1]
      show (if _ then k else Hd.zero).gen < last.gen
      split
      · exact h2
      · show Hd.zero.gen < last.gen
        omega
theorem Turn.calls {D : Dv} {last : Hd} (h : Turn D last) (k : Nat) : Turn (callsN D k) last := by
  obtain ⟨a, b, c, d, e⟩ := callsN_up h.up h.left k
  have hb : ∀ n, (callsN D k).blk n = D.blk n := fun n => by rw [Dv.blk, c]; rfl
  have hw : ∀ k, (callsN D k).ws = D.ws := fun k => by
    induction k with
    | zero => rfl
    | succ k ih => exact ih
  exact ⟨by rw [c]; exact h.len, a, b, by rw [hw]; exact h.still, h.right, by rw [hb]; exact h.slot, fun hg => by rw [hb]; exact h.near hg, by rw [hb]; exact h.less⟩
theorem mk9_ne {a b : Nat} {ha hb} (h : a ≠ b) : mk9 a ha ≠ mk9 b hb := fun e => h (congrArg Mk.epoch e)
/-- A head that was saved whole. -/
theorem Turn.saved {D D' : Dv} {last h : Hd} (ht : Turn D last) (hg : h.gen = last.gen + 1) (hr : h.rightB 40 = true) (hl : D'.bs = D.bs.set (h.gen % 2) h.blk) (hu : D'.down = false) (hf : D'.left = -1) (hw : D'.ws = []) : Turn D' h := by
  have hlt : h.gen % 2 < D.bs.length := by rw [ht.len]; omega
  have hb1 : D'.blk (h.gen % 2) = h.blk := by rw [Dv.blk, hl, List.getD_eq_getElem?_getD, List.getElem?_set_self hlt]; rfl
  have hb2 : D'.blk ((h.gen + 1) % 2) = D.blk (last.gen % 2) := by
    rw [Dv.blk, hl, List.getD_eq_getElem?_getD, List.getElem?_set_ne (by omega), show (h.gen + 1) % 2 = last.gen % 2 by omega, ← List.getD_eq_getElem?_getD]
    rfl
  refine ⟨by rw [hl, List.length_set]; exact ht.len, hu, hf, hw, hr, by rw [hb1]; rfl, fun q => ?_, ?_⟩
  · rw [hb2, ht.slot]
    exact near_sealed _ _ _ (by have := last.bytes_length; omega) (mk9_ne (by omega))
  · rw [hb2, ht.slot]
    exact .inr ⟨last, headOf_block last 40 ht.right, by omega⟩
/-- The other slot's block is begun anew. -/
theorem Turn.halfway {D D' : Dv} {last h : Hd} (ht : Turn D last) (hg : h.gen = last.gen + 1) (hr : h.rightB 40 = true) (k : Nat) (hk : k ≤ 256) (hl : D'.bs = D.bs.set (h.gen % 2) (part h.blk (D.blk (h.gen % 2)) k)) (hu : D'.down = false) (hf : D'.left = -1) (hw : D'.ws = []) : Turn D' h ∨ Turn D' last := by
  have hlt : h.gen % 2 < D.bs.length := by rw [ht.len]; omega
  have hn := ht.near (by have := h.hg; omega)
  have hmk : mk9 (last.gen + 1) (by have := h.hg; omega) = mk9 h.gen h.hg := Mk.ext' rfl (by show last.gen + 1 = h.gen; omega) (by show last.gen + 1 = h.gen; omega)
  rw [hmk, ← hg] at hn
  have hpart : (part h.blk (D.blk (h.gen % 2)) k).1 = torn (sealed (mk9 h.gen h.hg) h.bytes) (D.blk (h.gen % 2)).1 k := rfl
  rcases near_torn (b := h.bytes) (by have := h.bytes_length; omega) hn k hk with he | ⟨hn2, ho⟩
  · left
    refine ht.saved hg hr ?_ hu hf hw
    rw [hl]
    congr 1
    exact Subtype.ext (hpart.trans he)
  · right
    have hb1 : D'.blk (h.gen % 2) = part h.blk (D.blk (h.gen % 2)) k := by rw [Dv.blk, hl, List.getD_eq_getElem?_getD, List.getElem?_set_self hlt]; rfl
    have hb2 : D'.blk (last.gen % 2) = D.blk (last.gen % 2) := by
      rw [Dv.blk, hl, List.getD_eq_getElem?_getD, List.getElem?_set_ne (by omega), ← List.getD_eq_getElem?_getD]
      rfl
    refine ⟨by rw [hl, List.length_set]; exact ht.len, hu, hf, hw, ht.right, by rw [hb2]; exact ht.slot, fun q => ?_, ?_⟩
    · rw [show (last.gen + 1) % 2 = h.gen % 2 by omega, hb1, hpart]
      have : mk9 (last.gen + 1) q = mk9 h.gen h.hg := Mk.ext' rfl (by show last.gen + 1 = h.gen; omega) (by show last.gen + 1 = h.gen; omega)
      rw [this]
      exact hn2
    · rw [show (last.gen + 1) % 2 = h.gen % 2 by omega, hb1, hpart]
      rcases ho with h1 | h1
      · exact .inl (headOf_none h1)
      · rw [h1]
        have := ht.less
        rwa [show (last.gen + 1) % 2 = h.gen % 2 by omega] at this
/-- Nothing was written. -/
theorem Turn.same {D D' : Dv} {last : Hd} (ht : Turn D last) (hl : D'.bs = D.bs) (hu : D'.down = false) (hf : D'.left = -1) (hw : D'.ws = []) : Turn D' last := by
  have hb : ∀ n, D'.blk n = D.blk n := fun n => by rw [Dv.blk, hl]; rfl
  exact ⟨by rw [hl]; exact ht.len, hu, hf, hw, ht.right, by rw [hb]; exact ht.slot, fun q => by rw [hb]; exact ht.near q, by rw [hb]; exact ht.less⟩
/-- One round: the device armed, the next head saved, a fall. -/
theorem Turn.round {D : Dv} {last h : Hd} (ht : Turn D last) (hg : h.gen = last.gen + 1) (hr : h.rightB 40 = true) (c : Int) (hc : -1 ≤ c ∧ c ≤ 2) (keep : List Int) :
    ((saveTo (D.arm c) h).1 = 0 ∧ Turn ((saveTo (D.arm c) h).2.fall keep) h) ∨ ((saveTo (D.arm c) h).1 = 17 ∧ (Turn ((saveTo (D.arm c) h).2.fall keep) h ∨ Turn ((saveTo (D.arm c) h).2.fall keep) last)) := by
  have hlt : h.gen % 2 < D.bs.length := by rw [ht.len]; omega
  have ha : D.arm c = { D with left := c } := by rw [Dv.arm, if_pos hc.1]
  rw [ha]
  have h0 : D.ws = [] := ht.still
  have hu : D.down = false := ht.up
  obtain rfl | rfl | rfl | rfl : c = -1 ∨ c = 0 ∨ c = 1 ∨ c = 2 := by omega
  · left
    have e : saveTo { D with left := -1 } h = (0, ((Dv.call { D with left := -1 }).write (h.gen % 2) h.blk).call.flush) := by
      rw [saveTo, if_neg (by simp [Dv.call, hu]), if_neg (by simp [Dv.call, Dv.write, hu])]
    rw [e]
    exact ⟨rfl, ht.saved hg hr rfl rfl rfl rfl⟩
  · right
    have e : saveTo { D with left := 0 } h = (17, Dv.call { D with left := 0 }) := by
      rw [saveTo, if_pos (by simp [Dv.call])]
    rw [e]
    refine ⟨rfl, .inr (ht.same ?_ rfl rfl rfl)⟩
    show redo keep (undo D.bs D.ws.reverse) D.ws D.ws.length = D.bs
    rw [h0]
    rfl
  · right
    have e : saveTo { D with left := 1 } h = (17, ((Dv.call { D with left := 1 }).write (h.gen % 2) h.blk).call) := by
      rw [saveTo, if_neg (by simp [Dv.call, hu]), if_pos (by simp [Dv.call, Dv.write])]
    rw [e]
    refine ⟨rfl, ht.halfway hg hr (keepAt keep 0) (keepAt_le keep 0) ?_ rfl rfl rfl⟩
    show redo keep (undo (D.bs.set (h.gen % 2) h.blk) (D.ws ++ [(⟨h.gen % 2, (Dv.call { D with left := 1 }).blk (h.gen % 2), h.blk⟩ : Wr)]).reverse) (D.ws ++ [(⟨h.gen % 2, (Dv.call { D with left := 1 }).blk (h.gen % 2), h.blk⟩ : Wr)]) (D.ws ++ [(⟨h.gen % 2, (Dv.call { D with left := 1 }).blk (h.gen % 2), h.blk⟩ : Wr)]).length = _
    have hb : (Dv.call { D with left := 1 }).blk (h.gen % 2) = D.blk (h.gen % 2) := rfl
    rw [hb, h0]
    have hun : undo (D.bs.set (h.gen % 2) h.blk) [(⟨h.gen % 2, D.blk (h.gen % 2), h.blk⟩ : Wr)] = D.bs := by
      show (D.bs.set (h.gen % 2) h.blk).set (h.gen % 2) (D.blk (h.gen % 2)) = D.bs
      rw [List.set_set]
      apply List.ext_getElem?
      intro i
      by_cases hi : h.gen % 2 = i
      · subst hi
        rw [List.getElem?_set_self hlt, ← Dv.blk_at hlt]
      · rw [List.getElem?_set_ne hi]
    show (undo (D.bs.set (h.gen % 2) h.blk) [(⟨h.gen % 2, D.blk (h.gen % 2), h.blk⟩ : Wr)]).set (h.gen % 2) (part h.blk ((undo (D.bs.set (h.gen % 2) h.blk) [(⟨h.gen % 2, D.blk (h.gen % 2), h.blk⟩ : Wr)]).getD (h.gen % 2) default) (keepAt keep 0)) = _
    rw [hun]
    rfl
  · left
    have e : saveTo { D with left := 2 } h = (0, ((Dv.call { D with left := 2 }).write (h.gen % 2) h.blk).call.flush) := by
      rw [saveTo, if_neg (by simp [Dv.call, hu]), if_neg (by simp [Dv.call, Dv.write, hu])]
    rw [e]
    exact ⟨rfl, ht.saved hg hr rfl rfl rfl rfl⟩
theorem blk_new (n k : Nat) : (Dv.new n).blk k = default := by
  rw [Dv.blk]
  show (List.replicate n default).getD k default = default
  rw [List.getD_eq_getElem?_getD]
  rcases Nat.lt_or_ge k n with h | h
  · simp [h]
  · simp [h]
/-- A first head on a device without one. -/
theorem turn_first {h : Hd} (hr : h.rightB 40 = true) : (saveTo (Dv.new 40) h).1 = 0 ∧ Turn (saveTo (Dv.new 40) h).2 h := by
  have e : saveTo (Dv.new 40) h = (0, ((Dv.new 40).call.write (h.gen % 2) h.blk).call.flush) := by
    rw [saveTo, if_neg (by simp [Dv.call, Dv.new]), if_neg (by simp [Dv.call, Dv.write, Dv.new])]
  rw [e]
  refine ⟨rfl, ?_⟩
  have hlt : h.gen % 2 < (List.replicate 40 (default : Bk)).length := by simp; omega
  have hb1 : (((Dv.new 40).call.write (h.gen % 2) h.blk).call.flush).blk (h.gen % 2) = h.blk := by
    show ((List.replicate 40 (default : Bk)).set (h.gen % 2) h.blk).getD (h.gen % 2) default = _
    rw [List.getD_eq_getElem?_getD, List.getElem?_set_self hlt]
    rfl
  have hb2 : (((Dv.new 40).call.write (h.gen % 2) h.blk).call.flush).blk ((h.gen + 1) % 2) = default := by
    show ((List.replicate 40 (default : Bk)).set (h.gen % 2) h.blk).getD ((h.gen + 1) % 2) default = _
    rw [List.getD_eq_getElem?_getD, List.getElem?_set_ne (by omega), ← List.getD_eq_getElem?_getD]
    exact blk_new 40 _
  refine ⟨by show ((List.replicate 40 (default : Bk)).set (h.gen % 2) h.blk).length = 40; simp, rfl, rfl, rfl, hr, by rw [hb1]; rfl, fun q => ?_, ?_⟩
  · rw [hb2]
    exact near_zero _ (mk9_may _ _)
  · rw [hb2]
    exact .inl (headOf_none opens_zero)
end Go.Proofs.Ythpfdenpgegheaa
