/-
  SuperTurns, walked.
-/
import Derived.Test.YthpfdenpgegheaaTurnsT
import Derived.Deep.DeepCutAuto
import Derived.Deep.CutBlock
namespace Go.Proofs.Ythpfdenpgegheaa
open Go.RowKit

set_option linter.unusedVariables false
set_option linter.unusedSimpArgs false
theorem and16 (n : Nat) (h : n < 18446744073709551616) : bits .and .u64 (n : Int) 65535 = ((n % 65536 : Nat) : Int) := by
  have hm : (BitVec.ofInt 64 65535).toNat = 2 ^ 16 - 1 := by decide
  have key : (BitVec.ofInt 64 (n : Int) &&& BitVec.ofInt 64 65535).toNat = ((n : Int) % ((2 ^ 64 : Nat) : Int)).toNat % 2 ^ 16 := by
    rw [BitVec.toNat_and, BitVec.toNat_ofInt, hm, Nat.and_two_pow_sub_one_eq_mod]
  show IntKind.u64.wrap ((BitVec.ofInt 64 (n : Int) &&& BitVec.ofInt 64 65535).toNat : Nat) = _
  rw [key, IntKind.wrap_u64]
  omega
set_option maxRecDepth 100000 in
set_option maxHeartbeats 16000000 in
theorem superTurns_walk (w : World) (A : Option Addr) (n c : Nat) (hl : Threes w A n c) (g : Nat) (hg : g < 18446744073709551616) :
    Calls Try.prog 6 #[.slice A n c, .int .u64 (g : Int)] w fun e w' => e = .returned (.bool true) ∧ Below w.heap.size w w' := by
  have HL := Lib.hid hl
  have HNW := Lib.hid (new_yes w 40 (by omega) (by omega))
  have h16 := and16 g hg
  obtain ⟨m, hm⟩ : ∃ m, g % 65536 = m := ⟨_, rfl⟩
  have hm2 : m < 65536 := by omega
  rw [hm] at h16
  obtain ⟨h0, hh0⟩ : ∃ h : Hd, h = ⟨1 + m, 1, 0, 1, 20, by omega, by omega, by omega, by omega, by omega⟩ := ⟨_, rfl⟩
  have hv0 : hv h0 = #[.int .u64 (1 + (m : Int)), .int .u64 1, .int .i64 0, .int .u64 1, .int .i64 20] := by subst hh0; rfl
  have hr0 : h0.rightB 40 = true := by rw [Hd.right_iff]; subst hh0; simp only; omega
  have hg0 : h0.gen ≤ 65536 := by subst hh0; show 1 + m ≤ 65536; omega
  have hs0 : h0.seq ≤ 1 := by subst hh0; exact Nat.le_refl 1
  have HV0 := Lib.hid hv0
  have HR0 := Lib.hid hr0
  clear hl hm hg hh0 hv0 hr0
  go_enter Try.func6, Try.ntmps6
  go_wp2_with fail
  refine HNW.out.mono ?_
  rintro e w1 ⟨p, rfl, hd1, hb1⟩
  obtain ⟨w2, hw2⟩ : ∃ x, w1.alloc (.cells #[.int .u64 0, .int .u64 0, .int .i64 0, .int .u64 0, .int .i64 0] 43) = x := ⟨_, rfl⟩
  have hbw2 : Below w1.heap.size w1 w2 := by rw [← hw2]; exact (Below.refl _ w1).alloc (Nat.le_refl _) _
  have hmw2 : Box w2 w1.heap.size 43 (hv Hd.zero) := by rw [← hw2]; exact Box.made w1 _ _
  obtain ⟨w3, hw3⟩ : ∃ x, w2.setRow w1.heap.size (hv h0) = x := ⟨_, rfl⟩
  have hmw3 : Box w3 w1.heap.size 43 (hv h0) := by rw [← hw3]; exact setRow_heap _ _ _ _ _ _ hmw2
  have hbw3 : Below w1.heap.size w1 w3 := hbw2.trans (by rw [← hw3]; exact (Below.refl _ w2).grown (grown_row (grown_refl _ (some w1.heap.size)) _) hbw2.size (fun k e => by injection e with e; omega))
  have HMw2 := Lib.hid hmw2
  have HWw3 := Lib.hid hw3
  have hb3 := hb1.trans (hbw3.mono hb1.size)
  have hd3 : Dev w3 (fun k => w.heap.size ≤ k ∧ k ≠ w1.heap.size) p (Dv.new 40) := (hd1.weak (fun k q => ⟨q.1, by omega⟩)).below hbw3
  have hK3 : ∀ k, w3.heap.size ≤ k → w.heap.size ≤ k ∧ k ≠ w1.heap.size := fun k hk => ⟨by have := hb3.size; omega, by have := hmw3.lt; omega⟩
  have HSA := Lib.hid (save_says hd3 hK3 (by show 0 ≤ 90000; omega) h0 (by rw [show ((Dv.new 40).bs.length : Int) = 40 from rfl]; exact HR0.out))
  have H3 := Lib.hid (And.intro hb3 hmw3)
  have h7w : w.heap.size ≤ w1.heap.size := hb1.size
  clear HNW hd1 hb1 hmw2 hbw2 hmw3 hbw3 hw3 hb3 hd3 hK3
  go_wp2_with (first
    | (refine wpList_store_row rfl 43 _ _ rfl w1.heap.size (hv h0) rfl (by rw [HV0.out]; rfl) 43 _ HMw2.out (by rw [hv_size]; exact hdInfo) rfl (hv_one _) ?_; rw [HWw3.out])
    | (refine wpList_load_row rfl 43 _ rfl w1.heap.size rfl 43 _ (0, 0) _ H3.out.2 Try.underlying43 rfl (by rw [hv_size]; exact hdInfo) ?_))
  refine HSA.out.mono ?_
  rintro e w4 ⟨rfl, hd4, ht4⟩
  obtain ⟨e0, t0⟩ := turn_first HR0.out
  rw [e0]
  have hops0 : (saveTo (Dv.new 40) h0).2.ops ≤ 2 := save_ops (Dv.new 40) h0
  obtain ⟨b7, hb7⟩ : ∃ z, w1.heap.size = z := ⟨_, rfl⟩
  have HI0 := Lib.hid (⟨h0, _, H3.out.1.trans (ht4.below (fun k q => q.1) H3.out.1.size), hd4, ht4.box H3.out.2 (fun q => q.2 rfl), t0, by omega, by omega, by omega⟩ : ∃ last D, TurnI w p w1.heap.size 0 last D w4)
  clear hd4 ht4 e0 t0 hops0 HSA H3 HR0 HV0 hg0 hs0 h16
  rw [hb7] at HI0 h7w ⊢
  clear hb7 hw2 HMw2 HWw3
  go_wp2_with fail
  go_loopw [8] (fun v wr => ∃ i : Nat, v = .int .i64 (i : Int) ∧ i ≤ 20 ∧ Hid (∃ last D, TurnI w p b7 i last D wr)) (fun v _ => 20 - (intOf v).toNat)
  case atStart => exact ⟨0, rfl, by omega, HI0⟩
  case round =>
    clear HI0
    obtain ⟨i, rfl, hi20, H⟩ := hrel
    have HEND : Hid (Below w.heap.size w wr) := Lib.hid (by obtain ⟨_, _, h⟩ := H.out; exact h.below)
    by_cases hin : i < n
    · have hin' : (i : Int) < (n : Int) := by omega
      by_cases hi2 : i < 20
      · have hi2' : (i : Int) < 20 := by omega
        obtain ⟨b, o, x, y, z, hA, hb, hx, hy, hz⟩ := HL.out.2 i hin
        subst hA
        obtain ⟨last, D, hI⟩ := H.out
        have HI := Lib.hid hI
        have HX := Lib.hid (And.intro hx (And.intro hy hz))
        clear hI hx hy hz H
        go_upto_region 10 with fail
        rename_i K1 k1
        have hI := HI.out
        obtain ⟨hx, hy, hz⟩ := HX.out
        have hg1 : last.gen ≤ 1000000 := by have := hI.gen; omega
        have hs1 : last.seq ≤ 1000000 := by have := hI.seq; omega
        have hbr : b < wr.heap.size := Nat.lt_of_lt_of_le hb hI.below.size
        have hzr := (hI.below.cell (p := ⟨b, o + i * 3 + 2, none⟩) hb).trans hz
        have hq := Hd.right_iff.1 hI.turn.right
        refine turns_r10 wr b7 b o n c i last.gen last.seq z hg1 hs1 hin ((Box.cell hI.box 0).trans rfl) ((Box.cell hI.box 3).trans rfl) hzr hI.box.lt hbr _ (fun _ _ _ _ _ h => h) K1 (fun u41 u42 u43 u44 u45 u46 u47 u48 u49 u50 u51 u52 u53 u54 u55 u56 u57 u58 u59 u60 u61 u62 u63 u64 u65 u66 u67 u68 u69 u70 u71 w' hbw hmw => ?_)
        have hd' := hI.dev.aside hbw wr.heap.size (Nat.le_refl _)
        have hm7 := Box.below hI.box hbw hI.box.lt
        have h79 : b7 < wr.heap.size := hI.box.lt
        refine k1 _ _ (turns_t11 w w' p b7 wr.heap.size b o n c i x y last (nextHd last.gen last.seq z hg1 hs1) D hin hi2 hb (hI.below.trans (hbw.mono hI.below.size)) hd' hm7 hmw hI.turn rfl (next_right hq.2.2.1.1) hI.gen hI.seq (by show last.seq + (z / 256 % 4).toNat ≤ _; have := hI.seq; omega) hI.ops (by omega) h7w hI.below.size hx hy _ (fun u10 u11 u12 u72 u73 u74 u75 u76 u77 u78 u79 u80 u81 u82 u83 u84 u85 u86 u87 u88 u89 u90 u91 u92 u93 u94 u95 u96 u97 u98 u99 u100 u101 u102 u103 u104 u105 u106 u107 u108 u109 u110 u111 u112 u113 u114 u115 u116 u117 u118 u119 u120 u121 u122 u123 u124 u125 u126 last' D' wn hN => ?_))
        have HN := Lib.hid (⟨last', D', hN⟩ : ∃ last D, TurnI w p b7 (i + 1) last D wn)
        clear hN hd' hm7 h79 hbw hmw hI hx hy hz hzr hq
        dsimp only [Exit.inBlock, Exit.then]
        go_wp2
        go_roundw
        case rel => exact ⟨i + 1, by go_num, by omega, HN⟩
        case measure => simp [intOf]; omega
      · have hi2' : ¬ (i : Int) < 20 := by omega
        have HO := Lib.hid (one9_says wr)
        clear H
        go_wp2_with fail
        refine HO.out.mono ?_
        rintro e wz ⟨rfl, hbz⟩
        have HZ := Lib.hid (HEND.out.trans (hbz.mono HEND.out.size))
        clear hbz
        go_wp2
        go_ret
        exact ⟨rfl, HZ.out⟩
    · have hin' : ¬ (i : Int) < (n : Int) := by omega
      have HO := Lib.hid (one9_says wr)
      clear H
      go_wp2_with fail
      refine HO.out.mono ?_
      rintro e wz ⟨rfl, hbz⟩
      have HZ := Lib.hid (HEND.out.trans (hbz.mono HEND.out.size))
      clear hbz
      go_wp2
      go_ret
      exact ⟨rfl, HZ.out⟩
end Go.Proofs.Ythpfdenpgegheaa
