/-
  DevPlays, walked: no device, and a great one.
-/
import Derived.Test.YtemgphpgfdnkeaaPlayR
import Derived.BigQuiet
namespace Go.Proofs.Ytemgphpgfdnkeaa
open Go.RowKit

set_option maxRecDepth 100000 in
set_option maxHeartbeats 8000000 in
theorem plays_bad (w : World) (b : Int) (hb : b < 1 ∨ 4096 < b) (Al : Option Addr) (nl cl : Nat) :
    Calls Try.prog 3 #[.int .i64 b, .slice Al nl cl] w fun e w' => e = .returned (.bool true) ∧ Below w.heap.size w w' := by
  have hN := new_no w b hb
  have hR := rnew_no w b hb
  clear hb
  go_enter Try.func3, Try.ntmps3
  go_wp2_with fail
  refine hN.mono ?_
  rintro e wn ⟨rfl, hwn⟩
  obtain rfl : w = wn := hwn.symm
  clear hwn hN
  go_wp2_with fail
  refine hR.mono ?_
  rintro e w1 ⟨rfl, hb1⟩
  have H1 := Lib.hid hb1
  clear hb1 hR
  go_wp2_with fail
  refine (one_says _).mono ?_
  rintro e w2 ⟨rfl, hb2⟩
  have hA := H1.out.alloc H1.out.size (.cells #[.slice none 0 0, .slice none 0 0, .slice none 0 0, .int .i64 0, .bool false, .int .i64 0] 30)
  have H2 := Lib.hid (hA.trans (hb2.mono hA.size))
  clear hb2 hA
  go_wp2
  go_ret
  exact ⟨rfl, H2.out⟩

set_option maxRecDepth 100000 in
set_option maxHeartbeats 8000000 in
theorem plays_big (w : World) (n : Nat) (h1 : 100 < n) (h2 : n ≤ 4096) (Al : Option Addr) (nl cl : Nat) :
    Calls Try.prog 3 #[.int .i64 (n : Int), .slice Al nl cl] w fun e w' => e = .returned (.bool true) ∧ Below w.heap.size w w' := by
  have l1 : 100 < (n : Int) := by omega
  have hz := (zero_of_info (show (Try.prog.info? 30).map (fun i => (i.zero, i.size)) = some (some (.agg #[.slice none 0 0, .slice none 0 0, .slice none 0 0, .int .i64 0, .bool false, .int .i64 0]), 6) by kernel_rfl)).1
  go_enter Try.func3, Try.ntmps3
  go_wp2_with fail
  refine (new_yes w n (by omega) h2).mono ?_
  rintro e w1 ⟨p, rfl, hd1, hb1⟩
  have H1 := Lib.hid (And.intro hd1 hb1)
  clear hd1 hb1
  go_wp2_with fail
  refine (rnew_says w1 n (by omega) h2).mono ?_
  rintro e w2 ⟨cs, rfl, hr2, hb2⟩
  have hcz := hr2.size
  have hco := hr2.one
  have H2 := Lib.hid (And.intro hr2 hb2)
  clear hr2 hb2
  obtain ⟨w3, hw3⟩ : ∃ x, w2.alloc (.cells #[.slice none 0 0, .slice none 0 0, .slice none 0 0, .int .i64 0, .bool false, .int .i64 0] 30) = x := ⟨_, rfl⟩
  have hy3 := Box.made w2 30 #[.slice none 0 0, .slice none 0 0, .slice none 0 0, .int .i64 0, .bool false, .int .i64 0]
  rw [hw3] at hy3
  have hb3 : Below w2.heap.size w2 w3 := by rw [← hw3]; exact (Below.refl _ w2).alloc (Nat.le_refl _) _
  obtain ⟨w4, hw4⟩ : ∃ x, w3.setRow w2.heap.size cs = x := ⟨_, rfl⟩
  have hb4 : Below w2.heap.size w2 w4 := hb3.trans (by rw [← hw4]; exact (Below.refl _ w3).grown (grown_row (grown_refl _ (some w2.heap.size)) _) hb3.size (fun k e => by injection e with e; omega))
  have HY := Lib.hid hy3
  have HW := Lib.hid hw4
  have hbz := H2.out.2.trans (hb4.mono H2.out.2.size)
  have H4 := Lib.hid (And.intro (H1.out.1.below hbz) (H1.out.2.trans (hbz.mono H1.out.2.size)))
  clear hy3 hb3 hb4 hw4 hbz H1 H2
  go_wp2_with (refine wpList_store_row rfl 30 _ _ rfl w2.heap.size cs rfl rfl 30 _ HY.out (by rw [hcz]; kernel_rfl) hcz.symm hco ?_; rw [HW.out])
  have hL := len_says H4.out.1
  rw [show (Dv.new n).bs.length = n from List.length_replicate] at hL
  refine hL.mono ?_
  rintro e wn ⟨rfl, hwn⟩
  obtain rfl : w4 = wn := hwn.symm
  clear hwn hL
  go_wp2_with fail
  refine (one_says _).mono ?_
  rintro e w5 ⟨rfl, hb5⟩
  have H5 := Lib.hid (H4.out.2.trans (hb5.mono H4.out.2.size))
  clear hb5
  go_wp2
  go_ret
  exact ⟨rfl, H5.out⟩
end Go.Proofs.Ytemgphpgfdnkeaa
