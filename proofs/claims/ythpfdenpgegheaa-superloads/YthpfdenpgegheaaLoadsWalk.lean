/-
  SuperLoads, in parts: walked.
-/
import Derived.Test.YthpfdenpgegheaaLoads5
import Derived.BigQuiet
import Derived.Deep.DeepCutAuto
import Derived.Deep.CutBlock
namespace Go.Proofs.Ythpfdenpgegheaa
open Go.RowKit

set_option linter.unusedVariables false
set_option linter.unusedSimpArgs false
set_option maxRecDepth 100000 in
set_option maxHeartbeats 16000000 in
theorem superLoads_walk (w : World) (A0 : Option Addr) (n0 c0 : Nat) (l0 : List UInt8) (h0 : Lies w (fun _ => True) A0 n0 c0 (bc l0)) (A1 : Option Addr) (n1 c1 : Nat) (l1 : List UInt8) (h1 : Lies w (fun _ => True) A1 n1 c1 (bc l1)) (h : Hd) :
    Calls Try.prog 5 #[.slice A0 n0 c0, .slice A1 n1 c1, .agg (hv h)] w fun e w' => e = .returned (.bool true) ∧ Below w.heap.size w w' := by
  have HL0 := Lib.hid (h0.weak (N' := fun b => b < w.heap.size) (fun b h _ => h))
  have HL1 := Lib.hid (h1.weak (N' := fun b => b < w.heap.size) (fun b h _ => h))
  clear h0 h1
  obtain ⟨w1, hw1⟩ : ∃ x, w.alloc (.cells #[.int .u64 (h.gen : Int), .int .u64 (h.epoch : Int), .int .i64 h.pos, .int .u64 (h.seq : Int), .int .i64 h.log] 43) = x := ⟨_, rfl⟩
  have HB1 := Lib.hid (show Below w.heap.size w w1 by rw [← hw1]; exact (Below.refl _ w).alloc (Nat.le_refl _) _)
  have HX1 := Lib.hid (show Box w1 w.heap.size 43 (hv h) by rw [← hw1]; exact Box.made w _ _)
  obtain ⟨PZ, hPZ⟩ : ∃ x, (⟨(List.replicate 256 (0 : UInt8)).toArray⟩ : ByteArray) = x := ⟨_, rfl⟩
  have HPZ := Lib.hid hPZ
  clear hPZ
  have HNW := Lib.hid (new_yes w1 12 (by omega) (by omega))
  go_enter Try.func5, Try.ntmps5
  simp only [hv]
  go_wp2_with fail
  refine HNW.out.mono ?_
  rintro e w2 ⟨p, rfl, hd2, hb2⟩
  have HB2 := Lib.hid (HB1.out.trans (hb2.mono HB1.out.size))
  have HX2 := Lib.hid (Box.below HX1.out hb2 HX1.out.lt)
  have hlt := HX1.out.lt
  have HD2 := Lib.hid (hd2.weak (K' := fun k => (w.heap.size ≤ k ∧ k ≠ w.heap.size) ∧ k < w2.heap.size) (fun k q => ⟨⟨by omega, by omega⟩, q.2⟩))
  clear hd2 hb2 HNW HB1 HX1 hw1
  go_upto_region 4 with fail
  rename_i K1 k1
  refine loads_r4 w2 PZ HPZ _ (fun _ _ _ _ _ h => h) K1 (fun u28 u29 u30 u31 u32 gx w3 hgx hb3 hm3 => ?_)
  refine k1 _ _ (loads5_says w w3 p w.heap.size gx h (Dv.new 12) PZ PZ A0 A1 n0 c0 n1 c1 l0 l1 HL0 HL1 (Lib.hid ⟨HB2.out.trans (hb3.mono HB2.out.size), (HD2.out.weak (fun k q => ⟨q.1, by omega⟩)).below hb3, Box.below HX2.out hb3 HX2.out.lt, hm3, ?_, ?_, rfl, rfl, rfl, by show 0 ≤ 10; omega, Nat.le_refl _, by have := HB2.out.size; omega, by have := HX2.out.lt; omega⟩) (by show 0 ≤ 3; omega))
  · rw [blk_new]; exact HPZ.out
  · rw [blk_new]; exact HPZ.out
end Go.Proofs.Ythpfdenpgegheaa
