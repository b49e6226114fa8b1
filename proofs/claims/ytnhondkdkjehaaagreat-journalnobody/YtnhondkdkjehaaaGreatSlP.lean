/-
  blank, where no place that is to be sealed is noted: nothing is done.
  What entering a transaction comes to, place by place; what is noted of it. No statement about the program stands here.
  The laws' small play, in plain words: a log of 5 blocks on a device of 12, one change, a fall, opened again.
-/
import Derived.Test.YtnhondkdkjehaaaGreatJBlocks
import Derived.Test.YtnhondkdkjehaaaGreatJPlaces
import Derived.Test.YtnhondkdkjehaaaGreatSlQ
namespace Go.Proofs.YtnhondkdkjehaaaGreat
open Go.RowKit Go.ChangeMaps Go.MapKept Go.Maps

set_option linter.unusedVariables false
set_option linter.unusedSimpArgs false
section
variable {w : World} {p dp : Nat} {L : Lg} {u : Value} {ma q : Nat} {J : Nat → Prop} {al : Nat → Option Bk}
theorem place_le {L : Lg} (hL : L.Ok) (i : Nat) : L.place i ≤ 5000 := by
  have := place_lt hL i
  have := hL.log1
  omega
set_option maxRecDepth 100000 in
set_option maxHeartbeats 4000000 in
theorem jblank_none (hb : Box w p 81 (lc dp (u, .map (some ma)) L)) (hL : L.Ok) (hw : WetAt w ma J q al) (gs i1 : Nat) (hi1 : i1 ≤ 1000) (hgs : gs < w.heap.size) (hs0 : w.cell? ⟨gs, 0, none⟩ = some (.int .i64 0)) (hs1 : w.cell? ⟨gs, 1, none⟩ = some (.int .i64 (i1 : Int)))
    (h0 : al (L.place 0) = none) (h1 : al (L.place i1) = none) (A : Option Addr) (n c : Nat) :
    Calls Tryz.prog 82 #[.pointer (some ⟨p, 0, none⟩), .slice A n c, .slice (some ⟨gs, 0, none⟩) 2 2] w fun e w' => e = .returned (.int .i64 0) ∧ Below w.heap.size w w' := by
  have HB := Lib.hid (And.intro hb (And.intro hL hw))
  have HA := Lib.hid (And.intro h0 h1)
  clear hb hL hw h0 h1
  go_enter Tryz.func82, Tryz.ntmps82
  go_wp2_with fail
  go_loopw [7, 16] (fun b i wr => b = .int .i64 0 ∧ ∃ k : Nat, k ≤ 2 ∧ i = .int .i64 (k : Int) ∧ Hid (Below w.heap.size w wr)) (fun _ i _ => 2 - (intOf i).toNat)
  case atStart => exact ⟨rfl, 0, by omega, rfl, Lib.hid (Below.refl _ _)⟩
  case round =>
    obtain ⟨rfl, k, hk, rfl, H⟩ := hrel
    have c0 := (H.out.cell (p := ⟨gs, 0, none⟩) hgs).trans hs0
    have c1 := (H.out.cell (p := ⟨gs, 1, none⟩) hgs).trans hs1
    have hbx := HB.out.1.below H.out HB.out.1.lt
    have HBX := Lib.hid hbx
    have step : ∀ j : Nat, j ≤ 1000 → al (L.place j) = none → ∀ w5, Below wr.heap.size wr w5 → ∃ N D, w5.ownsMap Tryz.prog 3 rowEl ma N D ∧ Maps.has D (.int .i64 (L.place j : Int)) = false ∧ w5.cell? ⟨p, 9, none⟩ = some (.map (some ma)) := fun j hj hn w5 h5 => by
      have hb5 := H.out.trans (h5.mono H.out.size)
      obtain ⟨N, D, d1, d2, d3⟩ := HB.out.2.2.touch (Touch.of_below (K := fun _ => False) hb5) (fun q => q) (fun _ _ q => q)
      exact ⟨N, D, d1, (d3 (L.place j)).1 hn, (Box.cell (HB.out.1.below hb5 HB.out.1.lt) 9).trans rfl⟩
    have HS := Lib.hid step
    clear step hbx
    rcases k with _ | _ | _ | k
    · obtain ⟨nn, hnn⟩ : ∃ m, L.place 0 = m := ⟨_, rfl⟩
      have HN := Lib.hid hnn
      have HPL := Lib.hid (show nn ≤ 5000 by rw [← hnn]; exact place_le HB.out.2.1 0)
      clear hnn
      go_upto_region 6 with (go_at_call 85; refine (jplace_says (L := L) HBX.out HB.out.2.1 0 (by omega)).mono ?_; rintro e w5 ⟨rfl, hb5⟩; rw [HN.out]; have H5 := Lib.hid hb5; clear hb5)
      obtain ⟨N, D, d1, d2, d9⟩ := HS.out 0 (by omega) HA.out.1 w5 H5.out
      rw [HN.out] at d2
      have HD := Lib.hid (And.intro d1 d2)
      clear d1 d2
      go_wp2_with (at_lookup; refine wpList_lookup_own_ok _ rfl _ _ 79 rfl 3 49 intKey Tryz.underlying79 rowEl (zeroRow _) .nil [] rowEl_nil ma N D rfl HD.out.1 (.int .i64 (nn : Int)) (.int .i64 (nn : Int)) rfl (keyInt nn (by have := HPL.out; omega)) ?_; intro v ps hv; rw [HD.out.2]; clear hv)
      go_roundw
      case rel => exact ⟨rfl, 1, by omega, rfl, Lib.hid (H.out.trans (H5.out.mono H.out.size))⟩
      case measure => simp [intOf]
    · obtain ⟨nn, hnn⟩ : ∃ m, L.place i1 = m := ⟨_, rfl⟩
      have HN := Lib.hid hnn
      have HPL := Lib.hid (show nn ≤ 5000 by rw [← hnn]; exact place_le HB.out.2.1 i1)
      clear hnn
      go_upto_region 6 with (go_at_call 85; refine (jplace_says (L := L) HBX.out HB.out.2.1 i1 (by omega)).mono ?_; rintro e w5 ⟨rfl, hb5⟩; rw [HN.out]; have H5 := Lib.hid hb5; clear hb5)
      obtain ⟨N, D, d1, d2, d9⟩ := HS.out i1 (by omega) HA.out.2 w5 H5.out
      rw [HN.out] at d2
      have HD := Lib.hid (And.intro d1 d2)
      clear d1 d2
      go_wp2_with (at_lookup; refine wpList_lookup_own_ok _ rfl _ _ 79 rfl 3 49 intKey Tryz.underlying79 rowEl (zeroRow _) .nil [] rowEl_nil ma N D rfl HD.out.1 (.int .i64 (nn : Int)) (.int .i64 (nn : Int)) rfl (keyInt nn (by have := HPL.out; omega)) ?_; intro v ps hv; rw [HD.out.2]; clear hv)
      go_roundw
      case rel => exact ⟨rfl, 2, by omega, rfl, Lib.hid (H.out.trans (H5.out.mono H.out.size))⟩
      case measure => simp [intOf]
    · go_wp2
      go_ret
      exact ⟨rfl, H.out⟩
    · omega
end
end Go.Proofs.YtnhondkdkjehaaaGreat
namespace Go.Proofs.YtnhondkdkjehaaaGreat
open Go.RowKit

set_option linter.unusedVariables false
/-- The places from the i-th on are written, the last one behind a flush. -/
def wrTo (L : Lg) (last : Nat) : Nat → List Bk → Dv → Int × Dv
  | _, [], D => (0, D)
  | i, b :: bs, D => andThen (if i = last then flushTo D else (0, D)) fun D1 => andThen (writeTo D1 (L.place i) b) fun D2 => wrTo L last (i + 1) bs D2
def enterB (L : Lg) (cs : List Cg) (D : Dv) : Int × Dv := andThen (wrTo L (cs.length + 1) 0 (placesL L cs) D) flushTo
def mindsL (L : Lg) : (Nat → Option Bk) → Nat → List Bk → Nat → Option Bk
  | al, _, [] => al
  | al, i, b :: bs => mindsL L (minded al (L.place i) b) (i + 1) bs
theorem placesL_length (L : Lg) (cs : List Cg) : (placesL L cs).length = cs.length + 2 := by simp [placesL]
theorem drop_cons {α : Type} (l : List α) (k : Nat) (x : α) (h : l[k]? = some x) : l.drop k = x :: l.drop (k + 1) := by
  obtain ⟨h1, h2⟩ := List.getElem?_eq_some_iff.1 h
  rw [← h2]
  exact List.drop_eq_getElem_cons h1
end Go.Proofs.YtnhondkdkjehaaaGreat
namespace Go.Proofs.YtnhondkdkjehaaaGreat
open Go.RowKit

set_option linter.unusedVariables false
theorem five : -9223372036854775808 ≤ (5 : Int) ∧ (5 : Int) ≤ 9223372036854775807 := by omega
def o1 : Hd := fmtHd 5 five
def o2 : Hd := hd2 5 five
def o3 : Hd := ⟨3, 3, 3, 2, 5, by omega, by omega, by omega, by omega, five⟩
/-- The log, made. -/
def oL : Lg := ⟨o2, 0, 1, false⟩
def oL2 : Lg := ⟨o3, 0, 2, false⟩
theorem oL_ok : oL.Ok := ⟨by show (3 : Int) ≤ 5; omega, by show (5 : Int) ≤ 4096; omega, by show (0 : Int) ≤ 0; omega, by show (0 : Int) < 5; omega, by show ((0 : Nat) : Int) ≤ 5; omega, by show 1 < 18446744073709551616; omega, rfl⟩
theorem oL2_ok : oL2.Ok := ⟨by show (3 : Int) ≤ 5; omega, by show (5 : Int) ≤ 4096; omega, by show (0 : Int) ≤ 3; omega, by show (3 : Int) < 5; omega, by show ((0 : Nat) : Int) ≤ 5; omega, by show 2 < 18446744073709551616; omega, rfl⟩
def ox : List Cg := [(1, blkOf 7)]
def oS1 : Bk := sealBk (oL.mk8 1) (toldOf ox)
def oS2 : Bk := sealBk (oL.mk8 2) []
def oC : Bk := coverBk (blkOf 7)
theorem o1_right : o1.rightB 12 = true := by rw [Hd.right_iff]; decide
theorem o2_right : o2.rightB 12 = true := by rw [Hd.right_iff]; decide
theorem made_bs : ((List.replicate 12 (default : Bk)).set 1 o1.blk).set 0 o2.blk = [o2.blk, o1.blk, default, default, default, default, default, default, default, default, default, default] := rfl
theorem places_ox : placesL oL ox = [oS1, oC, oS2] := rfl
theorem enterB_up {D : Dv} (h1 : D.down = false) (h2 : D.left = -1) : enterB oL ox D = (0, ⟨((D.bs.set 2 oS1).set 3 oC).set 4 oS2, [], D.ops + 5, -1, false⟩) := by
  obtain ⟨a, b, c, d, e⟩ := D
  subst h1 h2
  rw [enterB, places_ox]
  rfl
def bs3 : List Bk := [o2.blk, o1.blk, oS1, oC, oS2, default, default, default, default, default, default, default]
theorem told_ox : toldOf ox = [0, 1, 7] := by decide
set_option maxRecDepth 100000 in
/-- Opened behind the fall. -/
theorem openTo_one (o : Nat) : lastN ⟨bs3, [], o, -1, false⟩ 2 = o2 ∧ ∃ o', openTo ⟨bs3, [], o, -1, false⟩ = (0, oL2, ⟨(bs3.set 8 (blkOf 7)).set 1 o3.blk, [], o', -1, false⟩) ∧ o' ≤ o + 20 := by
  obtain ⟨D, hD⟩ : ∃ D : Dv, (⟨bs3, [], o, -1, false⟩ : Dv) = D := ⟨_, rfl⟩
  have hbs : D.bs = bs3 := by rw [← hD]
  have hdn : D.down = false := by rw [← hD]
  have hlf : D.left = -1 := by rw [← hD]
  have hop : D.ops = o := by rw [← hD]
  have hlen : (D.bs.length : Int) = 12 := by rw [hbs]; rfl
  have b0 : D.blk 0 = o2.blk := by rw [← hD]; rfl
  have b1 : D.blk 1 = o1.blk := by rw [← hD]; rfl
  have b2 : D.blk 2 = oS1 := by rw [← hD]; rfl
  have b3 : D.blk 3 = oC := by rw [← hD]; rfl
  have b4 : D.blk 4 = oS2 := by rw [← hD]; rfl
  have h0 : headOf (D.blk 0).1 (D.bs.length : Int) = some o2 := by rw [b0, hlen]; exact headOf_block _ _ o2_right
  have h1 : headOf (D.blk 1).1 (D.bs.length : Int) = some o1 := by rw [b1, hlen]; exact headOf_block _ _ o1_right
  have hl2 : lastN D 2 = o2 := by
    rw [lastN_two (h := o2) h0 h1]
    have e1 : pickH Hd.zero 0 (some o2) = o2 := by
      show (if 2 % 2 = 0 ∧ (0 : Nat) < 2 then o2 else Hd.zero) = _
      rw [if_pos ⟨rfl, by omega⟩]
    rw [e1]
    show (if 1 % 2 = 1 ∧ (2 : Nat) < 1 then o1 else o2) = _
    rw [if_neg (by omega)]
  rw [hD]
  refine ⟨hl2, ?_⟩
  have hnz : o2 ≠ Hd.zero := fun e => by
    have : (2 : Nat) = 0 := congrArg Hd.gen e
    omega
  have hca := callsN_is hdn hlf 2 (by omega)
  have hlo : lgOf o2 = oL := rfl
  have p0 : oL.place 0 = 2 := rfl
  have p1 : oL.place (1 + 0) = 3 := rfl
  have p2 : oL.place (1 + 1) = 4 := rfl
  have hm1 : (oL.mk8 1).may = true := rfl
  have hm2 : (oL.mk8 2).may = true := rfl
  have s1 : sealedOf (oL.mk8 1) oS1.1 = some [0, 1, 7] := by
    rw [oS1, told_ox, sealBk_val _ _ (by decide), sealedOf, opens_sealed _ _ (by decide) hm1]
    simp
  have s2 : sealedOf (oL.mk8 2) oS2.1 = some [] := by
    rw [oS2, sealBk_val _ _ (by decide), sealedOf, opens_sealed _ _ (by decide) hm2]
    simp
  have hc0 : oC.1.headD 0 = 3 := rfl
  have hcg : chgAt [0, 1, 7] 0 oC = (1, blkOf 7) := by
    unfold chgAt
    have e2 : (([0, 1, 7] : List UInt8).getD (3 * 0 + 2) 0 :: oC.1.drop 1) = (blkOf 7).1 := by kernel_rfl
    rw [e2, bkOf_bk]
    rfl
  have hhm : homeOf D oL = 5 := by
    unfold homeOf
    rw [hlen]
    rfl
  have hbt : blkTo o2.log.toNat (callsN D 2) = (true, ⟨D.bs, D.ws, D.ops + 2 + 5, -1, false⟩) := by
    rw [hca, blkTo_up _ _ rfl rfl]
    rfl
  obtain ⟨BS, hBS⟩ : ∃ x, logBks oL (callsN D 2) 5 = x := ⟨_, rfl⟩
  have hBl : BS.length = 5 := by rw [← hBS, logBks_length]
  have e0 : bkAt BS 0 = oS1 := by rw [← hBS, bkAt_log _ _ _ _ (by omega), hca, p0]; exact b2
  have e1 : bkAt BS (1 + 0) = oC := by rw [← hBS, bkAt_log _ _ _ _ (by omega), hca, p1]; exact b3
  have e2 : bkAt BS (1 + 1) = oS2 := by rw [← hBS, bkAt_log _ _ _ _ (by omega), hca, p2]; exact b4
  have hro : roundB oL 5 BS = some [(1, blkOf 7)] := by
    have hcov : covB BS [0, 1, 7] 1 0 = some [(1, blkOf 7)] := by
      rw [covB, e1, if_pos hc0, covB, hcg]
      rfl
    rw [roundB, e0, s1]
    simp only
    rw [if_neg (by rw [hBl]; decide)]
    show (match covB BS [0, 1, 7] 1 0 with
      | none => none
      | some cs => if sealedOf (oL.mk8 2) (bkAt BS (1 + 1)).1 = some [] ∧ rightC 5 cs = true then some cs else none) = _
    rw [hcov]
    simp only
    rw [e2, s2, if_pos ⟨rfl, by decide⟩]
  have hrd : readB (homeOf D (lgOf o2)) (o2.log.toNat + 1) (lgOf o2) [] (logBks (lgOf o2) (callsN D 2) o2.log.toNat) = ([(1, blkOf 7)], oL.next 1) := by
    rw [hlo, hhm]
    show readB 5 (5 + 1) oL [] (logBks oL (callsN D 2) 5) = _
    rw [hBS, readB_step (by rw [hBl]; omega), hro]
    show readB 5 (4 + 1) (oL.next 1) ([] ++ [(1, blkOf 7)]) (BS.drop 3) = _
    rw [readB_end (by rw [List.length_drop, hBl]; omega)]
    rfl
  rw [openTo_some hl2 hnz hbt hrd]
  have hbump : (oL.next 1).bump = o3 := by
    have hL : (oL.next 1).Ok := ⟨by show (3 : Int) ≤ 5; omega, by show (5 : Int) ≤ 4096; omega, by show (0 : Int) ≤ 0; omega, by show (0 : Int) < 5; omega, by show ((3 : Nat) : Int) ≤ 5; omega, by show 2 < 18446744073709551616; omega, rfl⟩
    obtain ⟨a, b, c, d, e⟩ := bump_is hL (by show 2 < 18446744073709551615; omega) (by show 2 < 18446744073709551615; omega)
    exact Hd.ext' a b c d e
  rw [hbump]
  obtain ⟨o', hs, ho⟩ := settleTo_up (D := ⟨D.bs, D.ws, D.ops + 2 + 5, -1, false⟩) rfl rfl (2 + o2.log.toNat) [(1, blkOf 7)] o3
  refine ⟨o', ?_, ?_⟩
  · rw [hs, hbs]
    rfl
  · have ho : o' ≤ D.ops + 2 + 5 + 1 + 3 := ho
    omega
end Go.Proofs.YtnhondkdkjehaaaGreat
