/-
  The laws' small play, in plain words: a log of 5 blocks on a device of 12, one change, a fall, opened again.
-/
import Derived.Test.YtclhjpageonkgaaGreatJQ
namespace Go.Proofs.YtclhjpageonkgaaGreat
open Go.RowKit

set_option linter.unusedVariables false
theorem five : -9223372036854775808 ≤ (5 : Int) ∧ (5 : Int) ≤ 9223372036854775807 := by omega
def o1 : Hd := fmtHd 5 five
def o2 : Hd := hd2 5 five
def o3 : Hd := ⟨3, 3, 3, 2, 5, by omega, by omega, by omega, by omega, five⟩
/-- The log, made. -/
def oL : Lg := ⟨o2, 0, 1, false⟩
def oL2 : Lg := ⟨o3, 0, 2, false⟩
theorem oL_ok : oL.Ok := ⟨by show (3 : Int) ≤ 5; omega, by show (5 : Int) ≤ 4096; omega, by show (0 : Int) ≤ 0; omega, by show (0 : Int) < 5; omega, by show ((0 : Nat) : Int) ≤ 5; omega, by show 1 < 18446744073709551616; omega, rfl⟩
theorem oL2_ok : oL2.Ok := ⟨by show (3 : Int) ≤ 5; omega, by show (5 : Int) ≤ 4096; omega, by show (0 : Int) ≤ 3; omega, by show (3 : Int) < 5; omega, by show ((0 : Nat) : Int) ≤ 5; omega, by show 2 < 18446744073709551616; omega, rfl⟩
def ox : List Cg := [(1, blkOf 7)]
def oS1 : Bk := sealBk (oL.mk8 1) (toldOf ox)
def oS2 : Bk := sealBk (oL.mk8 2) []
def oC : Bk := coverBk (blkOf 7)
theorem o1_right : o1.rightB 12 = true := by rw [Hd.right_iff]; decide
theorem o2_right : o2.rightB 12 = true := by rw [Hd.right_iff]; decide
theorem made_bs : ((List.replicate 12 (default : Bk)).set 1 o1.blk).set 0 o2.blk = [o2.blk, o1.blk, default, default, default, default, default, default, default, default, default, default] := rfl
theorem enterTo_up {D : Dv} (h1 : D.down = false) (h2 : D.left = -1) : enterTo oL oL_ok.seq ox D = (0, ⟨((D.bs.set 2 oS1).set 3 oC).set 4 oS2, [], D.ops + 5, -1, false⟩) := by
  have p0 : oL.place 0 = 2 := rfl
  have p1 : oL.place 1 = 3 := rfl
  have p2 : oL.place (1 + ox.length) = 4 := rfl
  unfold enterTo
  rw [mk8_eq, mk8_eq, p0, p2, writeTo, call_up h1 h2, if_neg (by simp), andThen, if_pos rfl]
  show andThen (coversTo oL 1 [oC] _) _ = _
  rw [coversTo, call_up (D := Dv.write _ _ _) rfl rfl, if_neg (by simp), coversTo, p1, andThen, if_pos rfl]
  show andThen (flushTo _) _ = _
  rw [flushTo, call_up (D := Dv.write _ _ _) rfl rfl, if_neg (by simp), andThen, if_pos rfl]
  show andThen (writeTo _ _ _) _ = _
  rw [writeTo, call_up (D := Dv.flush _) rfl rfl, if_neg (by simp), andThen, if_pos rfl]
  show flushTo _ = _
  rw [flushTo, call_up (D := Dv.write _ _ _) rfl rfl, if_neg (by simp)]
  rfl
def bs3 : List Bk := [o2.blk, o1.blk, oS1, oC, oS2, default, default, default, default, default, default, default]
theorem told_ox : toldOf ox = [0, 1, 7] := by decide
set_option maxRecDepth 100000 in
/-- Opened behind the fall. -/
theorem openTo_one (o : Nat) : lastN ⟨bs3, [], o, -1, false⟩ 2 = o2 ∧ ∃ o', openTo ⟨bs3, [], o, -1, false⟩ = (0, oL2, ⟨(bs3.set 8 (blkOf 7)).set 1 o3.blk, [], o', -1, false⟩) ∧ o' ≤ o + 20 := by
  obtain ⟨D, hD⟩ : ∃ D : Dv, (⟨bs3, [], o, -1, false⟩ : Dv) = D := ⟨_, rfl⟩
  have hbs : D.bs = bs3 := by rw [← hD]
  have hdn : D.down = false := by rw [← hD]
  have hlf : D.left = -1 := by rw [← hD]
  have hop : D.ops = o := by rw [← hD]
  have hlen : (D.bs.length : Int) = 12 := by rw [hbs]; rfl
  have b0 : D.blk 0 = o2.blk := by rw [← hD]; rfl
  have b1 : D.blk 1 = o1.blk := by rw [← hD]; rfl
  have b2 : D.blk 2 = oS1 := by rw [← hD]; rfl
  have b3 : D.blk 3 = oC := by rw [← hD]; rfl
  have b4 : D.blk 4 = oS2 := by rw [← hD]; rfl
  have h0 : headOf (D.blk 0).1 (D.bs.length : Int) = some o2 := by rw [b0, hlen]; exact headOf_block _ _ o2_right
  have h1 : headOf (D.blk 1).1 (D.bs.length : Int) = some o1 := by rw [b1, hlen]; exact headOf_block _ _ o1_right
  have hl2 : lastN D 2 = o2 := by
    rw [lastN_two (h := o2) h0 h1]
    have e1 : pickH Hd.zero 0 (some o2) = o2 := by
      show (if 2 % 2 = 0 ∧ (0 : Nat) < 2 then o2 else Hd.zero) = _
      rw [if_pos ⟨rfl, by omega⟩]
    rw [e1]
    show (if 1 % 2 = 1 ∧ (2 : Nat) < 1 then o1 else o2) = _
    rw [if_neg (by omega)]
  rw [hD]
  refine ⟨hl2, ?_⟩
  have hnz : o2 ≠ Hd.zero := fun e => by
    have : (2 : Nat) = 0 := congrArg Hd.gen e
    omega
  have hca := callsN_is hdn hlf 2 (by omega)
  have hlo : lgOf o2 = oL := rfl
  have p0 : oL.place 0 = 2 := rfl
  have p1 : oL.place (1 + 0) = 3 := rfl
  have p2 : oL.place (1 + 1) = 4 := rfl
  have hm1 : (oL.mk8 1).may = true := rfl
  have hm2 : (oL.mk8 2).may = true := rfl
  have s1 : sealedOf (oL.mk8 1) oS1.1 = some [0, 1, 7] := by
    rw [oS1, told_ox, sealBk_val _ _ (by decide), sealedOf, opens_sealed _ _ (by decide) hm1]
    simp
  have s2 : sealedOf (oL.mk8 2) oS2.1 = some [] := by
    rw [oS2, sealBk_val _ _ (by decide), sealedOf, opens_sealed _ _ (by decide) hm2]
    simp
  have hc0 : oC.1.headD 0 = 3 := rfl
  have hcg : chgAt [0, 1, 7] 0 oC = (1, blkOf 7) := by
    unfold chgAt
    have e2 : (([0, 1, 7] : List UInt8).getD (3 * 0 + 2) 0 :: oC.1.drop 1) = (blkOf 7).1 := by kernel_rfl
    rw [e2, bkOf_bk]
    rfl
  have hhm : homeOf D oL = 5 := by
    unfold homeOf
    rw [hlen]
    rfl
  obtain ⟨D2, hD2⟩ : ∃ x, callsN D 2 = x := ⟨_, rfl⟩
  rw [hD2] at hca
  have c1 : D2.call = ⟨D.bs, D.ws, D.ops + 3, -1, false⟩ := by rw [hca]; rfl
  have c2 : D2.call.call = ⟨D.bs, D.ws, D.ops + 4, -1, false⟩ := by rw [c1]; rfl
  have c3 : D2.call.call.call = ⟨D.bs, D.ws, D.ops + 5, -1, false⟩ := by rw [c2]; rfl
  have hro : roundTo oL 5 D2 = .go [(1, blkOf 7)] D2.call.call.call := by
    have e0 : D2.blk (oL.place 0) = oS1 := by rw [p0, hca]; exact b2
    have e1 : D2.call.blk (oL.place (1 + 0)) = oC := by rw [p1, c1]; exact b3
    have e2 : D2.call.call.blk (oL.place (1 + 1)) = oS2 := by rw [p2, c2]; exact b4
    have hcov : covTo oL [0, 1, 7] 1 0 D2.call = .go [(1, blkOf 7)] D2.call.call := by
      rw [covTo, if_neg (by rw [c2]; simp), e1, if_pos hc0, covTo, hcg]
      rfl
    rw [roundTo, if_neg (by rw [c1]; simp), e0, s1]
    simp only
    rw [if_neg (by decide)]
    show (match covTo oL [0, 1, 7] 1 0 D2.call with
      | Rd.go cs D3 => if D3.call.down = true then Rd.err D3.call else if sealedOf (oL.mk8 2) (D3.blk (oL.place (1 + 1))).1 = some [] ∧ rightC 5 cs = true then Rd.go cs D3.call else Rd.stop D3.call
      | o => o) = _
    rw [hcov]
    simp only
    rw [if_neg (by rw [c3]; simp), e2, s2, if_pos ⟨rfl, by decide⟩]
  have hrd : readTo (homeOf D (lgOf o2)) (o2.log.toNat + 1) (lgOf o2) [] (callsN D 2) = ⟨0, [(1, blkOf 7)], oL.next 1, D2.call.call.call⟩ := by
    rw [hlo, hhm, hD2, readTo_step (by show ((0 : Nat) : Int) + 2 < 5; omega), hro]
    show readTo 5 _ (oL.next 1) ([] ++ [(1, blkOf 7)]) _ = _
    rw [readTo_end (by show ¬ ((3 : Nat) : Int) + 2 < 5; omega)]
    rfl
  rw [openTo_some hl2 hnz hrd, if_pos rfl]
  have hbump : (oL.next 1).bump = o3 := by
    have hL : (oL.next 1).Ok := ⟨by show (3 : Int) ≤ 5; omega, by show (5 : Int) ≤ 4096; omega, by show (0 : Int) ≤ 0; omega, by show (0 : Int) < 5; omega, by show ((3 : Nat) : Int) ≤ 5; omega, by show 2 < 18446744073709551616; omega, rfl⟩
    obtain ⟨a, b, c, d, e⟩ := bump_is hL (by show 2 < 18446744073709551615; omega) (by show 2 < 18446744073709551615; omega)
    exact Hd.ext' a b c d e
  rw [hbump]
  obtain ⟨o', hs, ho⟩ := settleTo_up (D := D2.call.call.call) (by rw [c3]) (by rw [c3]) (2 + o2.log.toNat) [(1, blkOf 7)] o3
  refine ⟨o', ?_, ?_⟩
  · rw [hs, c3, hbs]
    rfl
  · rw [c3] at ho
    have ho : o' ≤ D.ops + 5 + 1 + 3 := ho
    omega
end Go.Proofs.YtclhjpageonkgaaGreat
