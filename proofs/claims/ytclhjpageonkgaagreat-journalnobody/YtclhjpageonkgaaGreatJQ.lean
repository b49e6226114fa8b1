/-
  A device that is up and falls at no call: what laying, entering and opening come to. No statement about the program stands here.
-/
import Derived.Test.YtclhjpageonkgaaGreatJOpenP
import Derived.Test.YtclhjpageonkgaaGreatJFmt
import Derived.Test.YtclhjpageonkgaaGreatNear
namespace Go.Proofs.YtclhjpageonkgaaGreat
open Go.RowKit

set_option linter.unusedVariables false
theorem call_up {D : Dv} (h1 : D.down = false) (h2 : D.left = -1) : D.call = ⟨D.bs, D.ws, D.ops + 1, -1, false⟩ := by
  obtain ⟨a, b, c, d, e⟩ := D
  subst h1 h2
  rfl
/-- Blocks with others laid. -/
def putB (base : Nat) (cs : List Cg) (bs : List Bk) : List Bk := cs.foldl (fun b x => b.set (base + x.1) x.2) bs
theorem layTo_up (base : Nat) : ∀ (cs : List Cg) (D : Dv), D.down = false → D.left = -1 → layTo base cs D = (0, ⟨putB base cs D.bs, [], D.ops + cs.length + 1, -1, false⟩)
  | [], D, h1, h2 => by
    rw [layTo, call_up h1 h2, if_neg (by simp)]
    rfl
  | x :: r, D, h1, h2 => by
    rw [layTo, call_up h1 h2, if_neg (by simp), layTo_up base r _ rfl rfl]
    show ((0 : Int), (⟨putB base r (D.bs.set (base + x.1) x.2), [], D.ops + 1 + r.length + 1, -1, false⟩ : Dv)) = (0, ⟨putB base (x :: r) D.bs, [], D.ops + (r.length + 1) + 1, -1, false⟩)
    rw [show D.ops + 1 + r.length + 1 = D.ops + (r.length + 1) + 1 by omega]
    rfl
theorem saveTo_up {D : Dv} (h1 : D.down = false) (h2 : D.left = -1) (h : Hd) : saveTo D h = (0, ⟨D.bs.set (h.gen % 2) h.blk, [], D.ops + 2, -1, false⟩) := by
  rw [saveTo, call_up h1 h2, if_neg (by simp), call_up (D := Dv.write _ _ _) rfl rfl, if_neg (by simp)]
  rfl
theorem callsN_is {D : Dv} (h1 : D.down = false) (h2 : D.left = -1) (k : Nat) (hk : 0 < k) : callsN D k = ⟨D.bs, D.ws, D.ops + k, -1, false⟩ := by
  match k, hk with
  | 1, _ => exact call_up h1 h2
  | k + 2, _ =>
    show (callsN D (k + 1)).call = _
    rw [callsN_is h1 h2 (k + 1) (by omega), call_up rfl rfl]
    rfl
theorem settleTo_up {D : Dv} (h1 : D.down = false) (h2 : D.left = -1) (base : Nat) (cs : List Cg) (next : Hd) : ∃ o, settleTo base cs next D = (0, ⟨(putB base cs D.bs).set (next.gen % 2) next.blk, [], o, -1, false⟩) ∧ o ≤ D.ops + cs.length + 3 := by
  unfold settleTo
  by_cases hc : cs = []
  · subst hc
    refine ⟨D.ops + 2, ?_, by simp⟩
    rw [if_pos rfl, andThen, if_pos rfl, saveTo_up h1 h2]
    rfl
  · refine ⟨D.ops + cs.length + 1 + 2, ?_, by omega⟩
    rw [if_neg hc, layTo_up base cs D h1 h2, andThen, if_pos rfl, saveTo_up rfl rfl]
theorem zero_val : (default : Bk).1 = List.replicate 256 0 := rfl
theorem putB_zero (base B : Nat) (m : Nat) : putB base (zeroCgs m) (List.replicate B (default : Bk)) = List.replicate B default := by
  induction m with
  | zero => rfl
  | succ m ih =>
    rw [zeroCgs_succ, putB, List.foldl_append]
    show (putB base (zeroCgs m) (List.replicate B default)).set (base + m) default = _
    rw [ih]
    exact List.set_replicate_self
/-- A device that was formatted. -/
theorem formatTo_new {B : Nat} {n : Int} (hn : -9223372036854775808 ≤ n ∧ n ≤ 9223372036854775807) (hr : (fmtHd n hn).rightB (B : Int) = true) : ∃ o, formatTo n hn (Dv.new B) = (0, ⟨(List.replicate B default).set 1 (fmtHd n hn).blk, [], o, -1, false⟩) ∧ o ≤ B + 3 := by
  have hl : (Dv.new B).bs.length = B := List.length_replicate
  have hri := Hd.right_iff.1 hr
  refine ⟨0 + ((B : Int) - (2 + n)).toNat + 1 + 2, ?_, ?_⟩
  · rw [formatTo, hl, if_pos hr, layTo_up _ _ _ rfl rfl, andThen, if_pos rfl, saveTo_up rfl rfl, zeroCgs_length]
    show ((0 : Int), (⟨(putB (2 + n.toNat) (zeroCgs ((B : Int) - (2 + n)).toNat) (List.replicate B default)).set (1 % 2) (fmtHd n hn).blk, [], 0 + ((B : Int) - (2 + n)).toNat + 1 + 2, -1, false⟩ : Dv)) = _
    rw [putB_zero]
  · have : (fmtHd n hn).log = n := rfl
    rw [this] at hri
    omega
theorem sealedOf_zero (m : Mk) : sealedOf m (List.replicate 256 0) = none := by rw [sealedOf, opens_zero]
theorem lastN_two {D : Dv} {h : Hd} {a b : Option Hd} (ha : headOf (D.blk 0).1 (D.bs.length : Int) = a) (hb : headOf (D.blk 1).1 (D.bs.length : Int) = b) : lastN D 2 = pickH (pickH Hd.zero 0 a) 1 b := by
  show pickH (pickH Hd.zero 0 (headOf (D.blk 0).1 _)) 1 (headOf (D.blk 1).1 _) = _
  rw [ha, hb]
/-- The second head of a log of so many blocks. -/
def hd2 (n : Int) (h : -9223372036854775808 ≤ n ∧ n ≤ 9223372036854775807) : Hd := ⟨2, 2, 0, 1, n, by omega, by omega, by omega, by omega, h⟩
/-- A log that was just formatted, opened. -/
theorem openTo_fresh {B : Nat} {n : Int} (hn : -9223372036854775808 ≤ n ∧ n ≤ 9223372036854775807) (hr : (fmtHd n hn).rightB (B : Int) = true) (hB4 : B ≤ 4096) (o : Nat) :
    lastN ⟨(List.replicate B default).set 1 (fmtHd n hn).blk, [], o, -1, false⟩ 2 = fmtHd n hn ∧
    ∃ o', openTo ⟨(List.replicate B default).set 1 (fmtHd n hn).blk, [], o, -1, false⟩ = (0, ⟨hd2 n hn, 0, 1, false⟩, ⟨((List.replicate B default).set 1 (fmtHd n hn).blk).set 0 (hd2 n hn).blk, [], o', -1, false⟩) ∧ o' ≤ o + 10 := by
  obtain ⟨D, hD⟩ : ∃ D : Dv, (⟨(List.replicate B default).set 1 (fmtHd n hn).blk, [], o, -1, false⟩ : Dv) = D := ⟨_, rfl⟩
  have hbs : D.bs = (List.replicate B default).set 1 (fmtHd n hn).blk := by rw [← hD]
  have hdn : D.down = false := by rw [← hD]
  have hlf : D.left = -1 := by rw [← hD]
  have hws : D.ws = [] := by rw [← hD]
  have hop : D.ops = o := by rw [← hD]
  have hri := Hd.right_iff.1 hr
  have hlog : (fmtHd n hn).log = n := rfl
  rw [hlog] at hri
  have hlen : D.bs.length = B := by rw [hbs, List.length_set, List.length_replicate]
  have hB : 6 ≤ B := by omega
  have b1 : D.blk 1 = (fmtHd n hn).blk := by
    rw [Dv.blk, hbs, List.getD_eq_getElem?_getD, List.getElem?_set_self (by rw [List.length_replicate]; omega)]
    rfl
  have bz : ∀ i, i ≠ 1 → D.blk i = default := fun i hi => by
    rw [Dv.blk, hbs, List.getD_eq_getElem?_getD, List.getElem?_set_ne (fun e => hi e.symm), List.getElem?_replicate]
    split <;> rfl
  have h0 : headOf (D.blk 0).1 (D.bs.length : Int) = none := by rw [bz 0 (by omega), zero_val]; exact headOf_none opens_zero
  have h1 : headOf (D.blk 1).1 (D.bs.length : Int) = some (fmtHd n hn) := by rw [b1, hlen]; exact headOf_block _ _ hr
  have hl2 : lastN D 2 = fmtHd n hn := by
    rw [lastN_two (h := fmtHd n hn) h0 h1]
    show (if 1 % 2 = 1 ∧ (0 : Nat) < 1 then fmtHd n hn else Hd.zero) = _
    rw [if_pos ⟨rfl, by omega⟩]
  rw [hD]
  refine ⟨hl2, ?_⟩
  have hnz : fmtHd n hn ≠ Hd.zero := fun e => by
    have : (1 : Nat) = 0 := congrArg Hd.gen e
    omega
  have hca := callsN_is hdn hlf 2 (by omega)
  have hrd : readTo (homeOf D (lgOf (fmtHd n hn))) ((fmtHd n hn).log.toNat + 1) (lgOf (fmtHd n hn)) [] (callsN D 2) = ⟨0, [], lgOf (fmtHd n hn), (callsN D 2).call⟩ := by
    rw [readTo_step (by show ((0 : Nat) : Int) + 2 < n; omega)]
    have hro : roundTo (lgOf (fmtHd n hn)) (homeOf D (lgOf (fmtHd n hn))) (callsN D 2) = .stop (callsN D 2).call := by
      have hbk : (callsN D 2).blk ((lgOf (fmtHd n hn)).place 0) = default := by
        rw [hca]
        exact bz _ (by unfold Lg.place; omega)
      rw [roundTo, hbk, zero_val, sealedOf_zero, hca, call_up rfl rfl, if_neg (by simp)]
    rw [hro]
    rfl
  rw [openTo_some hl2 hnz hrd, if_pos rfl]
  have hbump : (lgOf (fmtHd n hn)).bump = hd2 n hn := by
    have hL : (lgOf (fmtHd n hn)).Ok := ⟨by show 3 ≤ n; omega, by show n ≤ 4096; omega, by show (0 : Int) ≤ 0; omega, by show (0 : Int) < n; omega, by show ((0 : Nat) : Int) ≤ n; omega, by show 1 < 18446744073709551616; omega, rfl⟩
    obtain ⟨a, b, c, d, e⟩ := bump_is hL (by show 1 < 18446744073709551615; omega) (by show 1 < 18446744073709551615; omega)
    refine Hd.ext' a b ?_ d e
    rw [c]
    show (((0 + 0) % n.toNat : Nat) : Int) = 0
    simp
  rw [hbump]
  obtain ⟨o', hs, ho⟩ := settleTo_up (D := (callsN D 2).call) (by rw [hca]; rfl) (by rw [hca]; rfl) (2 + (fmtHd n hn).log.toNat) [] (hd2 n hn)
  refine ⟨o', ?_, ?_⟩
  · rw [hs, hca, call_up rfl rfl]
    simp only [putB, List.foldl_nil]
    rw [show (hd2 n hn).gen % 2 = 0 from by simp [hd2], hbs]
    rfl
  · have : (callsN D 2).call.ops = o + 3 := by rw [hca, call_up rfl rfl]; show D.ops + 2 + 1 = _; rw [hop]
    rw [this] at ho
    have ho : o' ≤ o + 3 + 0 + 3 := ho
    omega
end Go.Proofs.YtclhjpageonkgaaGreat
