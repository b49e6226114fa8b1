/-
  The laws' Made, and their small play.
-/
import Derived.Test.YtnhondkdkjehaaaGreatSlP
import Derived.Test.YtnhondkdkjehaaaGreatJOpen
import Derived.Test.YtnhondkdkjehaaaGreatJCommit
namespace Go.Proofs.YtnhondkdkjehaaaGreat
open Go.RowKit

set_option linter.unusedVariables false
set_option linter.unusedSimpArgs false
/-- A log that Made made, over a device of so many blocks. -/
def lgM (n : Int) (h : -9223372036854775808 ≤ n ∧ n ≤ 9223372036854775807) : Lg := ⟨hd2 n h, 0, 1, false⟩
def dvM (B : Nat) (n : Int) (h : -9223372036854775808 ≤ n ∧ n ≤ 9223372036854775807) (o : Nat) : Dv := ⟨((List.replicate B default).set 1 (fmtHd n h).blk).set 0 (hd2 n h).blk, [], o, -1, false⟩
set_option maxRecDepth 100000 in
set_option maxHeartbeats 4000000 in
theorem made_says (w : World) (B : Nat) (h1 : 1 ≤ B) (h2 : B ≤ 4096) (n : Int) (hn : -9223372036854775808 ≤ n ∧ n ≤ 9223372036854775807) (hr : (fmtHd n hn).rightB (B : Int) = true) :
    Calls Tryz.prog 7 #[.int .i64 (B : Int), .int .i64 n] w fun e w' => ∃ dp p mb ma M1 M2 o, e = .returned (.tuple #[.pointer (some ⟨dp, 0, none⟩), .pointer (some ⟨p, 0, none⟩)]) ∧ ((w.heap.size ≤ M1 ∧ M2 ≤ w'.heap.size) ∧ (M1 ≤ p ∧ p < M2) ∧ (M1 ≤ mb ∧ mb < M2) ∧ (M1 ≤ ma ∧ ma < M2) ∧ o ≤ 9000) ∧ p ≠ mb ∧ p ≠ ma ∧ mb ≠ ma ∧
      Box w' p 81 (lc dp (.map (some mb), .map (some ma)) (lgM n hn)) ∧ w'.ownsMap Tryz.prog 3 rowEl mb 0 (.map []) ∧ WetAt w' ma (fun k => (((M1 ≤ k ∧ k < M2) ∧ k ≠ p) ∧ k ≠ mb) ∧ k ≠ ma) n.toNat (fun _ => none) ∧
      Dev w' (fun k => (w.heap.size ≤ k ∧ k < M1) ∨ M2 ≤ k) dp (dvM B n hn o) ∧ Below w.heap.size w w' := by
  have HNW := Lib.hid (new_yes w B h1 h2)
  go_enter Tryz.func7, Tryz.ntmps7
  go_wp2_with fail
  refine HNW.out.mono ?_
  rintro e w1 ⟨dp, rfl, hd1, hb1⟩
  obtain ⟨o1, hf, ho1⟩ := formatTo_new hn hr
  have hs1 := hb1.size
  have hd1' : Dev w1 (fun k => w.heap.size ≤ k) dp (Dv.new B) := hd1.weak (fun k q => q.1)
  have hfs := format_says hd1' (fun k hk => by omega) n hn (by show 0 ≤ 50000; omega)
  rw [hf] at hfs
  have HFS := Lib.hid hfs
  have HB1 := Lib.hid hb1
  clear hd1 hd1' hfs hb1 HNW hf
  go_wp2_with fail
  refine HFS.out.mono ?_
  rintro e w2 ⟨rfl, hd2, ht2⟩
  have hs2 := ht2.size
  have hB2 : Below w.heap.size w w2 := HB1.out.trans (ht2.below (fun k q => q) hs1)
  obtain ⟨hl2, hmn, o2, hop, ho2⟩ := openTo_fresh hn hr h2 o1
  have hri := Hd.right_iff.1 hr
  have hlog : (fmtHd n hn).log = n := rfl
  rw [hlog] at hri
  have hos := open_log hd2 (fun k hk => by omega) (by show o1 ≤ 40000; omega) (by show 2 ≤ (((List.replicate B default).set 1 (fmtHd n hn).blk) : List Bk).length; rw [List.length_set, List.length_replicate]; omega) rfl rfl (by rw [hl2]; exact ⟨by show 1 < _; omega, by show 1 < _; omega, by show 1 < _; omega⟩)
  rw [hop] at hos
  have HOS := Lib.hid hos
  have HB2 := Lib.hid hB2
  have HL2 := Lib.hid hl2
  have HMN := Lib.hid hmn
  clear hd2 ht2 hB2 hos hop hl2 hmn HFS HB1
  go_wp2_with fail
  refine HOS.out.mono ?_
  rintro e w3 ⟨hok, _, ht3⟩
  obtain ⟨p, mb, ma, M1, M2, rfl, ⟨hM1, hM2⟩, hp, hmb, hma, hpm, hpma, hmm, hx3, hm3, ha3, hd3⟩ := hok rfl
  rw [HL2.out, HMN.out] at ha3
  have HZ := Lib.hid (And.intro hx3 (And.intro hm3 (And.intro ha3 (And.intro hd3 (HB2.out.trans (ht3.below (fun k q => q) (by omega)))))))
  clear hok ht3 hx3 hm3 ha3 hd3 HOS
  go_wp2
  go_ret2
  exact ⟨dp, p, mb, ma, M1, M2, o2, rfl, ⟨⟨by omega, hM2⟩, hp, hmb, hma, by omega⟩, hpm, hpma, hmm, HZ.out⟩
theorem lgM5 : lgM 5 five = oL := rfl
theorem wet_ox : wetPut (fun _ => none) ox 1 = some (blkOf 7) := rfl
set_option maxRecDepth 100000 in
set_option maxHeartbeats 8000000 in
theorem one_says (w : World) : Calls Tryz.prog 25 #[] w fun e w' => e = .returned (.bool true) ∧ Below w.heap.size w w' := by
  have HMD := Lib.hid (made_says w 12 (by omega) (by omega) 5 five o1_right)
  go_enter Tryz.func25, Tryz.ntmps25
  go_wp2_with fail
  refine HMD.out.mono ?_
  rintro e w1 ⟨dp, p, mb, ma, M1, M2, o, rfl, ⟨⟨hM1, hM2⟩, hp, hmb, hma, ho⟩, hpm, hpma, hmm, hx1, hm1, ha1, hd1, hb1⟩
  rw [lgM5] at hx1
  obtain ⟨D2, hD2⟩ : ∃ D, dvM 12 5 five o = D := ⟨_, rfl⟩
  have hDb : D2.bs = [o2.blk, o1.blk, default, default, default, default, default, default, default, default, default, default] := by rw [← hD2]; exact made_bs
  have hDn : D2.down = false := by rw [← hD2]; rfl
  have hDl : D2.left = -1 := by rw [← hD2]; rfl
  have hDo : D2.ops = o := by rw [← hD2]; rfl
  rw [hD2] at hd1
  have hlen : D2.bs.length = 12 := by rw [hDb]; rfl
  have hhm : homeOf D2 oL = 5 := by unfold homeOf; rw [hlen]; rfl
  have hpl := hx1.lt
  have hml := hm1.lt
  have hho := jhome_says hx1 (by exact ⟨by show (0 : Int) ≤ 5; omega, by show (5 : Int) ≤ 4096; omega⟩) hd1
  rw [hhm] at hho
  have HHO := Lib.hid hho
  have HEP := Lib.hid (show Calls Tryz.prog 18 #[.pointer (some ⟨p, 0, none⟩)] w1 fun e w' => e = .returned (.int .u64 2) ∧ w' = w1 from jepoch_says hx1)
  have HBL := Lib.hid (show Calls Tryz.prog 33 #[.int .u8 7] w1 fun e w' => e = .returned (.slice (some ⟨w1.heap.size, 0, none⟩) 256 256) ∧ Box w' w1.heap.size 5 (be (blkOf 7)).toArray ∧ Below w1.heap.size w1 w' from block_says w1 7)
  have H1 := Lib.hid (And.intro hx1 (And.intro hm1 (And.intro hd1 hb1)))
  have HA1 := Lib.hid ha1
  have hmal := ha1.lt
  clear hx1 hm1 ha1 hd1 hb1 hho HMD
  go_upto_region 4 with (first
    | (go_at_call 13; refine HHO.out.mono ?_; rintro e wn ⟨rfl, hwn⟩; obtain rfl : w1 = wn := hwn.symm; clear hwn)
    | (go_at_call 18; refine HEP.out.mono ?_; rintro e wn ⟨rfl, hwn⟩; obtain rfl : w1 = wn := hwn.symm; clear hwn))
  go_wp2_with (go_at_call 33; refine HBL.out.mono ?_; rintro e w2 ⟨rfl, hx2, hb2⟩; have H2 := Lib.hid (And.intro hx2 hb2); clear hx2 hb2)
  obtain ⟨w3, hw3⟩ : ∃ x, w2.alloc (.cells #[.int .i64 1, .slice (some ⟨w1.heap.size, 0, none⟩) 256 256] 51) = x := ⟨_, rfl⟩
  rw [hw3]
  have hb3 : Below w2.heap.size w2 w3 := by rw [← hw3]; exact (Below.refl _ w2).alloc (Nat.le_refl _) _
  have hm3 : Box w3 w2.heap.size 51 #[.int .i64 1, .slice (some ⟨w1.heap.size, 0, none⟩) 256 256] := by rw [← hw3]; exact Box.made w2 _ _
  have hB3 : Below w1.heap.size w1 w3 := H2.out.2.trans (hb3.mono H2.out.2.size)
  have hs1 := H1.out.2.2.2.size
  have hs2 := H2.out.2.size
  have hs3 := hb3.size
  have h2lt := H2.out.1.lt
  have hx3 := Box.below H1.out.1 hB3 hpl
  have hmm3 : w3.ownsMap Tryz.prog 3 rowEl mb 0 (.map []) := H1.out.2.1.kept (grown_of_below hB3 none) (by simp)
  have ha3 := HA1.out.touch (Touch.of_below (K := fun _ => False) hB3) (fun q => q) (fun _ _ q => q)
  have hd3 : Dev w3 (fun k => ((w.heap.size ≤ k ∧ k < M1) ∨ M2 ≤ k) ∧ k < w1.heap.size) dp D2 := H1.out.2.2.1.inside.below hB3
  obtain ⟨x, hx⟩ : ∃ x : Ch, (⟨1, some ⟨w1.heap.size, 0, none⟩, 256, 256, (blkOf 7).1⟩ : Ch) = x := ⟨_, rfl⟩
  have hxc : (fl chc [x]) = [.int .i64 1, .slice (some ⟨w1.heap.size, 0, none⟩) 256 256] := by rw [← hx]; rfl
  have hxg : [x].map Ch.cg = ox := by
    rw [← hx]
    show [((1 : Int).toNat, bkOf (blkOf 7).1)] = _
    rw [bkOf_bk]
    rfl
  have hchs : Chs w3 (fun b => w1.heap.size ≤ b) (some ⟨w2.heap.size, 0, none⟩) 1 1 [x] := by
    refine ⟨rfl, Nat.le_refl _, fun _ => ⟨w2.heap.size, 0, rfl, hs2, hm3.lt, fun j v hv => ?_⟩, fun y hy => ?_⟩
    · rw [hxc] at hv
      rw [Box.cell hm3, Nat.zero_add]
      simpa using hv
    · rw [List.mem_singleton] at hy
      subst hy
      rw [← hx]
      exact ⟨by show _ ≤ (1 : Int); omega, by show (1 : Int) ≤ _; omega, ((Box.below H2.out.1 hb3 h2lt).toLies (n := 256) (by rw [be_length]) (Nat.le_refl 256)).weak (fun b _ hb => by have hb' : b = w1.heap.size := hb; show w1.heap.size ≤ b; omega)⟩
  have hrt : rightB (homeOf D2 oL) [x] = true := by
    have hw : whole [x] := fun y hy => by
      rw [List.mem_singleton] at hy
      subst hy
      rw [← hx]
      exact ⟨by show (0 : Int) ≤ 1; omega, (blkOf 7).2⟩
    rw [right_whole hw, hxg, hhm]
    decide
  have hcm := jcommit_says (N := fun b => w1.heap.size ≤ b) hx3 oL_ok hd3 hDn (fun h => by have := h.1; omega) (fun h => by have := h.1; omega) hpm (fun h => h) (fun h => h) (fun k h => h.elim) (WetAt.none_yet (fun _ => False) hmm3) (fun h => by have := h.1; omega) hpma hmm ha3 (by omega) (fun h => h.2 rfl) (fun h => h.1.2 rfl) (fun h => h.1.1.2 rfl) (fun h => h) (fun k h => ⟨by omega, fun q => by have := q.1; omega⟩) (some ⟨w2.heap.size, 0, none⟩) 1 1 [x] hchs (fun b hb => ⟨fun h => by have := h.2; omega, by omega, by omega, by omega⟩) hrt (by show ((0 : Nat) : Int) + (1 + 2) ≤ 5; omega) (by show 1 < _; omega) (by omega) (by rw [hlen]; show (2 : Int) + 5 ≤ 12; omega) (by omega) rfl rfl
  rw [hxg, enterB_up hDn hDl] at hcm
  refine hcm.mono ?_
  rintro e w4 ⟨rfl, hok, _, ht4⟩
  obtain ⟨M0, M, hM0, hMM, hM3, hx4, hwt4, hd4, _⟩ := hok rfl
  have hs4 := ht4.size
  have hbs3 : (((D2.bs.set 2 oS1).set 3 oC).set 4 oS2) = bs3 := by rw [hDb]; rfl
  rw [hbs3, hDo] at hd4
  obtain ⟨D3, hD3⟩ : ∃ x : Dv, (⟨bs3, [], o + 5, -1, false⟩ : Dv) = x := ⟨_, rfl⟩
  have hd4 : Dev w4 (fun k => ((((w.heap.size ≤ k ∧ k ≠ p) ∧ k ≠ mb) ∧ k < w1.heap.size) ∧ k < w3.heap.size) ∨ (w3.heap.size ≤ k ∧ k < M)) dp D3 := by
    rw [← hD3]
    exact hd4.weak (fun k h => h.elim (fun h => .inl ⟨⟨⟨⟨h.1.1.elim (fun h => h.1) (fun h => by omega), by have := h.1.1; omega⟩, by have := h.1.1; omega⟩, h.1.2⟩, h.2⟩) (fun h => .inr ⟨by omega, h.2⟩))
  have hD3n : D3.down = false := by rw [← hD3]
  have hp4 : ¬ (((((w.heap.size ≤ p ∧ p ≠ p) ∧ p ≠ mb) ∧ p < w1.heap.size) ∧ p < w3.heap.size) ∨ (w3.heap.size ≤ p ∧ p < M)) := fun h => h.elim (fun h => h.1.1.1.2 rfl) (fun h => by omega)
  have hn1 : (oL.next 1).Ok := ⟨by show (3 : Int) ≤ 5; omega, by show (5 : Int) ≤ 4096; omega, by show (0 : Int) ≤ 0; omega, by show (0 : Int) < 5; omega, by show ((3 : Nat) : Int) ≤ 5; omega, by show 2 < 18446744073709551616; omega, rfl⟩
  have hhm3 : homeOf D3 (oL.next 1) = 5 := by rw [← hD3]; rfl
  have hrw := jread_wet hx4 hn1 hd4 hD3n hp4 hpm (fun h => h.elim (fun h => h.1) (fun h => by omega)) hwt4 1 (blkOf 7) wet_ox (by rw [hhm3]; decide)
  have HRW := Lib.hid (show Calls Tryz.prog 23 #[.pointer (some ⟨p, 0, none⟩), .int .i64 1] w4 _ from hrw)
  have hT4 : Below w.heap.size w w4 := (H1.out.2.2.2.trans (hB3.mono hs1)).trans (ht4.below (fun k h => h.elim (fun h => by have := h.1; omega) (fun h => by rcases h with h | h | h <;> omega)) (by omega))
  have H4 := Lib.hid (And.intro hd4 hT4)
  have HD3 := Lib.hid hD3
  have hs24 : w1.heap.size ≤ w4.heap.size := by omega
  clear hw3 hb3 hm3 hB3 hx3 hmm3 hd3 hx hxc hxg hchs hrt hcm hok ht4 hx4 hwt4 hbs3 hd4 hrw hT4 hD3 hhm3 hn1 H1 H2 hhm HHO HEP HBL hD2 hDb hDn hDl hDo hlen
  go_wp2_with fail
  refine HRW.out.mono ?_
  rintro e w5 ⟨⟨g5, cap, rfl, hg5, hl5⟩, hx5, ht5⟩
  have hs5 := ht5.size
  have hd5 := ht5.dev H4.out.1 (fun k h1 h2 => by
    have h2 : k = p := h2
    subst h2
    exact hp4 h1)
  have HFA := Lib.hid (fall_says hd5 (by rw [← HD3.out]; show 0 ≤ _; omega) (fun _ => False) none 0 0 [] (Lies.nil _ _) (fun _ h => h.elim))
  have hfl : D3.fall [] = ⟨bs3, [], o + 5, -1, false⟩ := by rw [← HD3.out]; rfl
  rw [hfl] at HFA
  have H5 := Lib.hid (And.intro hl5 (And.intro hx5 (H4.out.2.trans (ht5.below (B := w.heap.size) (fun k h => by have h : k = p := h; omega) (by omega)))))
  clear hd5 hl5 hx5 ht5 HRW H4 hfl
  go_wp2_with fail
  refine HFA.out.mono ?_
  rintro e w6 ⟨rfl, hd6, ht6⟩
  have hs6 := ht6.size
  obtain ⟨hl2, o6, hop, ho6⟩ := openTo_one (o + 5)
  have hd6' : Dev w6 (fun k => ((((((w.heap.size ≤ k ∧ k ≠ p) ∧ k ≠ mb) ∧ k < w1.heap.size) ∧ k < w3.heap.size) ∨ (w3.heap.size ≤ k ∧ k < M))) ∨ w6.heap.size ≤ k) dp ⟨bs3, [], o + 5, -1, false⟩ := hd6.weak (fun k h => .inl h)
  have hos := open_log hd6' (fun k hk => .inr hk) (by show o + 5 ≤ 40000; omega) (by show 2 ≤ 12; omega) rfl rfl (by rw [hl2]; exact ⟨by show 2 < _; omega, by show 2 < _; omega, by show 1 < _; omega⟩)
  rw [hop] at hos
  have HOS := Lib.hid hos
  have hg6 : ¬ ((((((w.heap.size ≤ g5 ∧ g5 ≠ p) ∧ g5 ≠ mb) ∧ g5 < w1.heap.size) ∧ g5 < w3.heap.size) ∨ (w3.heap.size ≤ g5 ∧ g5 < M))) := fun h => h.elim (fun h => by have := h.2; omega) (fun h => by omega)
  have h5lt : g5 < w5.heap.size := by
    obtain ⟨ad, q1, q2, q3, _⟩ := H5.out.1.2.2 (by omega)
    injection q1 with q1
    subst q1
    exact q3
  have H6 := Lib.hid (And.intro (ht6.lies H5.out.1 (fun b hb => by have hb' : b = g5 := hb; rw [hb']; exact hg6)) (And.intro (ht6.box H5.out.2.1 hp4) (H5.out.2.2.trans (ht6.below (B := w.heap.size) (fun k h => h.elim (fun h => h.1.1.1.1) (fun h => by omega)) (by omega)))))
  clear hd6 hd6' ht6 hop hl2 hos HFA
  go_wp2_with fail
  refine HOS.out.mono ?_
  rintro e w7 ⟨hok, _, ht7⟩
  obtain ⟨p2, mb2, ma2, N1, N2, rfl, ⟨hN1, hN2⟩, hp2, hmb2, _, hpm2, _, _, hx7, hm7, _, hd7⟩ := hok rfl
  have hs7 := ht7.size
  obtain ⟨D5, hD5⟩ : ∃ x : Dv, (⟨(bs3.set 8 (blkOf 7)).set 1 o3.blk, [], o6, -1, false⟩ : Dv) = x := ⟨_, rfl⟩
  have hD5n : D5.down = false := by rw [← hD5]
  have hD5c : D5.call.down = false := by rw [← hD5]; rfl
  have hD5o : D5.ops ≤ 80000 := by rw [← hD5]; show o6 ≤ _; omega
  have hhm5 : homeOf D5 oL2 = 5 := by rw [← hD5]; rfl
  have hb8 : D5.blk 8 = blkOf 7 := by rw [← hD5]; rfl
  have hd7 : Dev w7 (fun k => (((((((w.heap.size ≤ k ∧ k ≠ p) ∧ k ≠ mb) ∧ k < w1.heap.size) ∧ k < w3.heap.size) ∨ (w3.heap.size ≤ k ∧ k < M)) ∨ w6.heap.size ≤ k) ∧ k ≠ p2) ∧ k ≠ mb2) dp D5 := by
    rw [← hD5]
    exact hd7.weak (fun k h => h.elim (fun h => ⟨⟨h.1, by omega⟩, by omega⟩) (fun h => ⟨⟨.inr (by omega), by omega⟩, by omega⟩))
  have hrd := jread_dry hx7 oL2_ok hd7 hD5n hD5c hD5o (fun h => h.1.2 rfl) hpm2 (fun h => h) (WetAt.none_yet (fun _ => False) hm7) 1 rfl (by rw [hhm5]; decide)
  have h28 : 2 + oL2.h.log.toNat + 1 = 8 := rfl
  rw [h28, hb8] at hrd
  have HRD := Lib.hid (show Calls Tryz.prog 23 #[.pointer (some ⟨p2, 0, none⟩), .int .i64 1] w7 _ from hrd)
  have H7 := Lib.hid (And.intro (ht7.lies H6.out.1 (fun b hb h => by have hb' : b = g5 := hb; rw [hb'] at h; exact h.elim hg6 (fun h => by omega))) (And.intro (ht7.box H6.out.2.1 (fun h => h.elim hp4 (fun h => by omega))) (H6.out.2.2.trans (ht7.below (B := w.heap.size) (fun k h => h.elim (fun h => h.elim (fun h => h.1.1.1.1) (fun h => by omega)) (fun h => by omega)) (by omega)))))
  clear hok ht7 hx7 hm7 hd7 hrd hD5 hhm5 hb8 h28 H6 HOS H5
  go_wp2_with fail
  refine HRD.out.mono ?_
  rintro e w8 ⟨⟨g8, rfl, hg8, hc8⟩, hx8, hd8, ht8⟩
  have hl8 := ht8.lies H7.out.1 (fun b hb h => by
    have hb' : b = g5 := hb
    rw [hb'] at h
    exact h.elim (fun h => h.1.1.elim hg6 (fun h => by omega)) (fun h => by omega))
  have ho8 := ht8.box H7.out.2.1 (fun h => h.elim (fun h => h.1.1.elim hp4 (fun h => by omega)) (fun h => by omega))
  have hB8 : Below w.heap.size w w8 := H7.out.2.2.trans (ht8.below (B := w.heap.size) (fun k h => h.elim (fun h => h.1.1.elim (fun h => h.elim (fun h => h.1.1.1.1) (fun h => by omega)) (fun h => by omega)) (fun h => by have h : k = p2 := h; omega)) (by omega))
  have q5 : w8.cell? ⟨g5, 9, none⟩ = some (.int .u8 7) := by
    obtain ⟨b, o', e1, _, _, e2⟩ := hl8.at (j := 9) (u := .int .u8 7) rfl
    injection e1 with e1
    injection e1 with e1 e3
    subst e1 e3
    rwa [Nat.zero_add] at e2
  have q8 : w8.cell? ⟨g8, 9, none⟩ = some (.int .u8 7) := (Box.cell hc8 9).trans rfl
  have HU1 := Lib.hid (show Calls Tryz.prog 16 #[.pointer (some ⟨p, 0, none⟩)] w8 fun e w' => e = .returned (.int .i64 3) ∧ w' = w8 from jused_says ho8)
  have HU2 := Lib.hid (show Calls Tryz.prog 16 #[.pointer (some ⟨p2, 0, none⟩)] w8 fun e w' => e = .returned (.int .i64 0) ∧ w' = w8 from jused_says hx8)
  have HSQ := Lib.hid (show Calls Tryz.prog 17 #[.pointer (some ⟨p2, 0, none⟩)] w8 fun e w' => e = .returned (.int .u64 2) ∧ w' = w8 from jseq_says hx8)
  have HB8 := Lib.hid hB8
  clear hl8 ho8 hB8 hx8 hd8 ht8 hc8 HRD H7
  go_wp2_with (first
    | (go_at_call 16; refine HU1.out.mono ?_; rintro e wn ⟨rfl, hwn⟩; obtain rfl : w8 = wn := hwn.symm; clear hwn)
    | (go_at_call 16; refine HU2.out.mono ?_; rintro e wn ⟨rfl, hwn⟩; obtain rfl : w8 = wn := hwn.symm; clear hwn)
    | (go_at_call 17; refine HSQ.out.mono ?_; rintro e wn ⟨rfl, hwn⟩; obtain rfl : w8 = wn := hwn.symm; clear hwn))
  go_ret
  exact ⟨rfl, HB8.out⟩
end Go.Proofs.YtnhondkdkjehaaaGreat
