/-
  DevPlays, walked: up to 100 blocks.
-/
import Derived.Test.YtemgphpgfdnkeaaWayArm
import Derived.Test.YtemgphpgfdnkeaaWayFall
import Derived.Test.YtemgphpgfdnkeaaWayWno
import Derived.Test.YtemgphpgfdnkeaaWayWdown
import Derived.Test.YtemgphpgfdnkeaaWayWup
import Derived.Test.YtemgphpgfdnkeaaWayFdown
import Derived.Test.YtemgphpgfdnkeaaWayFup
import Derived.Test.YtemgphpgfdnkeaaWayS
import Derived.Test.YtemgphpgfdnkeaaWayRno
import Derived.Test.YtemgphpgfdnkeaaWayRdown
import Derived.Test.YtemgphpgfdnkeaaWayRup
namespace Go.Proofs.Ytemgphpgfdnkeaa
open Go.RowKit

def PlI (w wr : World) (p rb n j : Nat) (D : Dv) (R : Rv) : Prop := ∃ N, Jm w wr p rb N D R ∧ Sim D R ∧ D.bs.length = n ∧ D.ops ≤ j
set_option maxRecDepth 100000 in
set_option maxHeartbeats 8000000 in
theorem plays_loop (w : World) (n : Nat) (h0 : 1 ≤ n) (h1 : n ≤ 100) (Al : Option Addr) (nl cl : Nat) (xs : List Ac) (hl : Acts w Al nl cl xs) :
    Calls Try.prog 3 #[.int .i64 (n : Int), .slice Al nl cl] w fun e w' => e = .returned (.bool true) ∧ Below w.heap.size w w' := by
  have l1 : ¬ 100 < (n : Int) := by omega
  have HL := Lib.hid hl
  clear hl
  go_enter Try.func3, Try.ntmps3
  go_wp2_with fail
  refine (new_yes w n (by omega) (by omega)).mono ?_
  rintro e w1 ⟨p, rfl, hd1, hb1⟩
  have H1 := Lib.hid (And.intro hd1 hb1)
  clear hd1 hb1
  go_wp2_with fail
  refine (rnew_says w1 n (by omega) (by omega)).mono ?_
  rintro e w2 ⟨cs, rfl, hr2, hb2⟩
  have hcz := hr2.size
  have hco := hr2.one
  obtain ⟨w3, hw3⟩ : ∃ x, w2.alloc (.cells #[.slice none 0 0, .slice none 0 0, .slice none 0 0, .int .i64 0, .bool false, .int .i64 0] 30) = x := ⟨_, rfl⟩
  have hy3 := Box.made w2 30 #[.slice none 0 0, .slice none 0 0, .slice none 0 0, .int .i64 0, .bool false, .int .i64 0]
  rw [hw3] at hy3
  have hb3 : Below w2.heap.size w2 w3 := by rw [← hw3]; exact (Below.refl _ w2).alloc (Nat.le_refl _) _
  obtain ⟨w4, hw4⟩ : ∃ x, w3.setRow w2.heap.size cs = x := ⟨_, rfl⟩
  have hx4 : Box w4 w2.heap.size 30 cs := by rw [← hw4]; exact setRow_heap _ _ _ _ _ _ hy3
  have hb4 : Below w2.heap.size w2 w4 := hb3.trans (by rw [← hw4]; exact (Below.refl _ w3).grown (grown_row (grown_refl _ (some w2.heap.size)) _) hb3.size (fun k e => by injection e with e; omega))
  have hbz := hb2.trans (hb4.mono hb2.size)
  have hJ : Jm w w4 p w2.heap.size (fun k => w1.heap.size ≤ k ∧ k < w4.heap.size) (Dv.new n) ⟨List.replicate n default, [], [], -1, false, 0⟩ := by
    refine ⟨(H1.out.1.below hbz).weak (fun k hk => ⟨hk.1, fun h2 => by have := hk.2; omega⟩), ⟨cs, hx4, (hr2.weak (N' := fun k => (w1.heap.size ≤ k ∧ k < w4.heap.size) ∧ k ≠ w2.heap.size) (fun b hb h => ⟨⟨h, by have := hb4.size; omega⟩, by omega⟩)).below hb4⟩, ⟨hb2.size, hx4.lt⟩, fun k hk => ⟨Nat.le_trans H1.out.2.size hk.1, hk.2⟩, H1.out.2.trans (hbz.mono H1.out.2.size)⟩
  have HJ := Lib.hid (show PlI w w4 p w2.heap.size n 0 (Dv.new n) ⟨List.replicate n default, [], [], -1, false, 0⟩ from ⟨_, hJ, Sim.new n, List.length_replicate, Nat.le_refl _⟩)
  have HY := Lib.hid hy3
  have HW := Lib.hid hw4
  clear hy3 hb3 hb4 hw4 hbz H1 hJ hx4 hr2 hb2
  go_wp2_with (refine wpList_store_row rfl 30 _ _ rfl w2.heap.size cs rfl rfl 30 _ HY.out (by rw [hcz]; kernel_rfl) hcz.symm hco ?_; rw [HW.out])
  clear HY HW hcz hco hw3
  go_loopw [4, 9, 10, 11, 12, 13, 14, 15, 16] (fun _ v _ _ _ _ _ _ _ wr => ∃ j : Nat, v = .int .i64 (j : Int) ∧ j ≤ 60 ∧ j ≤ nl ∧ ∃ D R, Hid (PlI w wr p w2.heap.size n j D R)) (fun _ v _ _ _ _ _ _ _ _ => 60 - (intOf v).toNat)
  case atStart => exact ⟨0, rfl, by omega, by omega, _, _, HJ⟩
  case round =>
    obtain ⟨j, rfl, hj6, hjn, D, R, H⟩ := hrel
    by_cases hj : j < nl ∧ j < 60
    · obtain ⟨hja, hjb⟩ := hj
      obtain ⟨x, bl, ol, hxj, hxm, rfl, hbl, _, _, _, _, hat⟩ := HL.out.cells hja
      obtain ⟨N, hJ, hS, hn, hop⟩ := H.out
      have hab := (hJ.new _ hJ.rb').2
      have HAT := Lib.hid (show wr.rangeAt bl (ol + j * 4) (ac x) from fun i v hv => (hJ.bel.cell (p := ⟨bl, ol + j * 4 + i, none⟩) hbl).trans (hat i v hv))
      obtain ⟨w5, hw5⟩ : ∃ y, wr.alloc (.cells #[.int .i64 0, .int .i64 0, .int .u8 0, .slice none 0 0] 36) = y := ⟨_, rfl⟩
      have hy5 := Box.made wr 36 #[.int .i64 0, .int .i64 0, .int .u8 0, .slice none 0 0]
      rw [hw5] at hy5
      have hb5 : Below wr.heap.size wr w5 := by rw [← hw5]; exact (Below.refl _ wr).alloc (Nat.le_refl _) _
      obtain ⟨w6, hw6⟩ : ∃ y, w5.setRow wr.heap.size (ac x).toArray = y := ⟨_, rfl⟩
      have hx6 : Box w6 wr.heap.size 36 (ac x).toArray := by rw [← hw6]; exact setRow_heap _ _ _ _ _ _ hy5
      have hb6 : Below wr.heap.size wr w6 := hb5.trans (by rw [← hw6]; exact (Below.refl _ w5).grown (grown_row (grown_refl _ (some wr.heap.size)) _) hb5.size (fun k e => by injection e with e; omega))
      have k0 : w6.cell? ⟨wr.heap.size, 0, none⟩ = some (.int .i64 x.kind) := (Box.cell hx6 0).trans rfl
      have k1 : w6.cell? ⟨wr.heap.size, 1, none⟩ = some (.int .i64 x.n) := (Box.cell hx6 1).trans rfl
      have HXM := Lib.hid (HL.out.2.2.2 x hxm)
      have HY5 := Lib.hid hy5
      have HW6 := Lib.hid hw6
      have H6 := Lib.hid (And.intro (hJ.hold hb6) (And.intro hS (And.intro hn (And.intro hop hx6))))
      have l2 : (j : Int) < (nl : Int) := by omega
      have l3 : (j : Int) < 60 := by omega
      clear hJ hS hn hop hat hy5 hb5 hw6 hx6 hb6 H
      have hac := ac_length x
      go_upto_region 13 with (first
          | (refine wpList_load_mid rfl 36 _ rfl bl (ol + j * 4) rfl (ac x) _ HAT.out Try.underlying36 rfl (by kernel_rfl) ?_)
          | (refine wpList_store_row rfl 36 _ _ rfl wr.heap.size (ac x).toArray rfl rfl 36 _ HY5.out (show (Try.prog.info? 36).map (·.size) = some 4 by kernel_rfl) rfl (by simp [ac, Value.oneCell']) ?_; rw [HW6.out]))
      simp only [Act.put]
      go_cut [11] (fun v wx => ∃ isb : Bool, v = .bool isb ∧ (isb = true ↔ (0 ≤ x.n ∧ x.n < (n : Int))) ∧ wx = w6)
      case first =>
        by_cases hpos : x.n ≥ 0
        · by_cases hlt : x.n < (n : Int)
          · go_wp2
            go_meet
            exact ⟨true, rfl, by simp; omega, rfl⟩
          · go_wp2
            go_meet
            exact ⟨false, rfl, by simp; omega, rfl⟩
        · go_wp2
          go_meet
          exact ⟨false, rfl, by simp; omega, rfl⟩
      case rest =>
        obtain ⟨isb, rfl, hisb, hwc⟩ := hcut
        obtain rfl : w6 = wc := hwc.symm
        clear hwc HY5 HW6 HAT l2 l3
        go_upto_block 2 with fail
        go_cut [11, 70] (fun _ _ wx => ∃ N' D' R', Hid (Jm w wx p w2.heap.size N' D' R' ∧ Sim D' R' ∧ D'.bs.length = n ∧ D'.ops ≤ j + 1))
        case first =>
          rename_i a1 a2
          by_cases hk3 : x.kind = 3
          · exact wayArm w wr w2 w6 n j p h1 hjb N D R x isb hab HXM H6 hisb hk3 _ _ _ _ _ _ _ _ _ _ _ _ _ _ _ _ _ _ _ _ _ _ _ _ _ _ _ _ _ _ _ _ _ _ _ _ _ _ _ _ _ _ _ _ _ _ _ _ _ _ _ _ _ _ _ _ _ _ _ _ _ _ _ _ _ _ _ _ _ _ _ _ _ _ _ _ _ _ _ _ _ _ _ _ _ _ _ _ _ _ _ _ _ _ _ _ _ _ _ _ _ _ _ _ _ _ _ _ _ _ _ _ _ _ _ _ _ _ _ _ _ _ _ _ _ _ _ _ _ _ _ _ _ _ _ _ _ _ _ _ _ _ _ _ _ _ _ _ _ _ _ _ _ _ _ _ _ _ _ _ _ _ _ _ _ _ _ _ _ _ _ _ _ _ _ _ _ _ _ _ _ _ _ _ _ _ _ _ _ _ _ _ _ _ _ _ _ _ _ _ _ _ _ _ _ _ _ _ _ _ _ _ _ _ _ _ _ _ _ _ _ _ (fun _ _ _ _ _ h => h) _ _ a1 a2
          · by_cases hk4 : x.kind = 4
            · by_cases hkn : 100 < x.kn
              · have q3 : (x.kind == 3) = false := by simp [hk3]
                have q4 : (x.kind == 4) = true := by simp [hk4]
                have k3 : w6.cell? ⟨wr.heap.size, 3, none⟩ = some (.slice x.ka x.kn x.kc) := (Box.cell H6.out.2.2.2.2 3).trans rfl
                have g1 : 100 < (x.kn : Int) := by omega
                have HB := Lib.hid H6.out.1.bel
                clear H6 HL a1 a2 hisb
                go_wp2_with fail
                go_ret
                exact ⟨rfl, HB.out⟩
              · exact wayFall w wr w2 w6 n j p h1 hjb N D R x isb hab HXM H6 hisb hk3 hk4 hkn _ _ _ _ _ _ _ _ _ _ _ _ _ _ _ _ _ _ _ _ _ _ _ _ _ _ _ _ _ _ _ _ _ _ _ _ _ _ _ _ _ _ _ _ _ _ _ _ _ _ _ _ _ _ _ _ _ _ _ _ _ _ _ _ _ _ _ _ _ _ _ _ _ _ _ _ _ _ _ _ _ _ _ _ _ _ _ _ _ _ _ _ _ _ _ _ _ _ _ _ _ _ _ _ _ _ _ _ _ _ _ _ _ _ _ _ _ _ _ _ _ _ _ _ _ _ _ _ _ _ _ _ _ _ _ _ _ _ _ _ _ _ _ _ _ _ _ _ _ _ _ _ _ _ _ _ _ _ _ _ _ _ _ _ _ _ _ _ _ _ _ _ _ _ _ _ _ _ _ _ _ _ _ _ _ _ _ _ _ _ _ _ _ _ _ _ _ _ _ _ _ _ _ _ _ _ _ _ _ _ _ _ _ _ _ _ _ _ _ _ _ _ (fun _ _ _ _ _ h => h) _ _ a1 a2
            · by_cases hk1 : x.kind = 1
              · by_cases hb : isb = true
                · cases hdn : D.call.down with
                  | true => exact wayWdown w wr w2 w6 n j p h1 hjb N D R x isb hab HXM H6 hisb hk1 hb hdn _ _ _ _ _ _ _ _ _ _ _ _ _ _ _ _ _ _ _ _ _ _ _ _ _ _ _ _ _ _ _ _ _ _ _ _ _ _ _ _ _ _ _ _ _ _ _ _ _ _ _ _ _ _ _ _ _ _ _ _ _ _ _ _ _ _ _ _ _ _ _ _ _ _ _ _ _ _ _ _ _ _ _ _ _ _ _ _ _ _ _ _ _ _ _ _ _ _ _ _ _ _ _ _ _ _ _ _ _ _ _ _ _ _ _ _ _ _ _ _ _ _ _ _ _ _ _ _ _ _ _ _ _ _ _ _ _ _ _ _ _ _ _ _ _ _ _ _ _ _ _ _ _ _ _ _ _ _ _ _ _ _ _ _ _ _ _ _ _ _ _ _ _ _ _ _ _ _ _ _ _ _ _ _ _ _ _ _ _ _ _ _ _ _ _ _ _ _ _ _ _ _ _ _ _ _ _ _ _ _ _ _ _ _ _ _ _ _ _ _ _ _ (fun _ _ _ _ _ h => h) _ _ a1 a2
                  | false => exact wayWup w wr w2 w6 n j p h1 hjb N D R x isb hab HXM H6 hisb hk1 hb hdn _ _ _ _ _ _ _ _ _ _ _ _ _ _ _ _ _ _ _ _ _ _ _ _ _ _ _ _ _ _ _ _ _ _ _ _ _ _ _ _ _ _ _ _ _ _ _ _ _ _ _ _ _ _ _ _ _ _ _ _ _ _ _ _ _ _ _ _ _ _ _ _ _ _ _ _ _ _ _ _ _ _ _ _ _ _ _ _ _ _ _ _ _ _ _ _ _ _ _ _ _ _ _ _ _ _ _ _ _ _ _ _ _ _ _ _ _ _ _ _ _ _ _ _ _ _ _ _ _ _ _ _ _ _ _ _ _ _ _ _ _ _ _ _ _ _ _ _ _ _ _ _ _ _ _ _ _ _ _ _ _ _ _ _ _ _ _ _ _ _ _ _ _ _ _ _ _ _ _ _ _ _ _ _ _ _ _ _ _ _ _ _ _ _ _ _ _ _ _ _ _ _ _ _ _ _ _ _ _ _ _ _ _ _ _ _ _ _ _ _ _ _ (fun _ _ _ _ _ h => h) _ _ a1 a2
                · have hb : isb = false := by simpa using hb
                  exact wayWno w wr w2 w6 n j p h1 hjb N D R x isb hab HXM H6 hisb hk1 hb _ _ _ _ _ _ _ _ _ _ _ _ _ _ _ _ _ _ _ _ _ _ _ _ _ _ _ _ _ _ _ _ _ _ _ _ _ _ _ _ _ _ _ _ _ _ _ _ _ _ _ _ _ _ _ _ _ _ _ _ _ _ _ _ _ _ _ _ _ _ _ _ _ _ _ _ _ _ _ _ _ _ _ _ _ _ _ _ _ _ _ _ _ _ _ _ _ _ _ _ _ _ _ _ _ _ _ _ _ _ _ _ _ _ _ _ _ _ _ _ _ _ _ _ _ _ _ _ _ _ _ _ _ _ _ _ _ _ _ _ _ _ _ _ _ _ _ _ _ _ _ _ _ _ _ _ _ _ _ _ _ _ _ _ _ _ _ _ _ _ _ _ _ _ _ _ _ _ _ _ _ _ _ _ _ _ _ _ _ _ _ _ _ _ _ _ _ _ _ _ _ _ _ _ _ _ _ _ _ _ _ _ _ _ _ _ _ _ _ _ _ _ (fun _ _ _ _ _ h => h) _ _ a1 a2
              · by_cases hk2 : x.kind = 2
                · cases hdn : D.call.down with
                  | true => exact wayFdown w wr w2 w6 n j p h1 hjb N D R x isb hab HXM H6 hisb hk2 hdn _ _ _ _ _ _ _ _ _ _ _ _ _ _ _ _ _ _ _ _ _ _ _ _ _ _ _ _ _ _ _ _ _ _ _ _ _ _ _ _ _ _ _ _ _ _ _ _ _ _ _ _ _ _ _ _ _ _ _ _ _ _ _ _ _ _ _ _ _ _ _ _ _ _ _ _ _ _ _ _ _ _ _ _ _ _ _ _ _ _ _ _ _ _ _ _ _ _ _ _ _ _ _ _ _ _ _ _ _ _ _ _ _ _ _ _ _ _ _ _ _ _ _ _ _ _ _ _ _ _ _ _ _ _ _ _ _ _ _ _ _ _ _ _ _ _ _ _ _ _ _ _ _ _ _ _ _ _ _ _ _ _ _ _ _ _ _ _ _ _ _ _ _ _ _ _ _ _ _ _ _ _ _ _ _ _ _ _ _ _ _ _ _ _ _ _ _ _ _ _ _ _ _ _ _ _ _ _ _ _ _ _ _ _ _ _ _ _ _ _ _ _ (fun _ _ _ _ _ h => h) _ _ a1 a2
                  | false => exact wayFup w wr w2 w6 n j p h1 hjb N D R x isb hab HXM H6 hisb hk2 hdn _ _ _ _ _ _ _ _ _ _ _ _ _ _ _ _ _ _ _ _ _ _ _ _ _ _ _ _ _ _ _ _ _ _ _ _ _ _ _ _ _ _ _ _ _ _ _ _ _ _ _ _ _ _ _ _ _ _ _ _ _ _ _ _ _ _ _ _ _ _ _ _ _ _ _ _ _ _ _ _ _ _ _ _ _ _ _ _ _ _ _ _ _ _ _ _ _ _ _ _ _ _ _ _ _ _ _ _ _ _ _ _ _ _ _ _ _ _ _ _ _ _ _ _ _ _ _ _ _ _ _ _ _ _ _ _ _ _ _ _ _ _ _ _ _ _ _ _ _ _ _ _ _ _ _ _ _ _ _ _ _ _ _ _ _ _ _ _ _ _ _ _ _ _ _ _ _ _ _ _ _ _ _ _ _ _ _ _ _ _ _ _ _ _ _ _ _ _ _ _ _ _ _ _ _ _ _ _ _ _ _ _ _ _ _ _ _ _ _ _ _ _ (fun _ _ _ _ _ h => h) _ _ a1 a2
                · by_cases hk5 : x.kind = 5
                  · exact wayS w wr w2 w6 n j p h1 hjb N D R x isb hab HXM H6 hisb hk5 _ _ _ _ _ _ _ _ _ _ _ _ _ _ _ _ _ _ _ _ _ _ _ _ _ _ _ _ _ _ _ _ _ _ _ _ _ _ _ _ _ _ _ _ _ _ _ _ _ _ _ _ _ _ _ _ _ _ _ _ _ _ _ _ _ _ _ _ _ _ _ _ _ _ _ _ _ _ _ _ _ _ _ _ _ _ _ _ _ _ _ _ _ _ _ _ _ _ _ _ _ _ _ _ _ _ _ _ _ _ _ _ _ _ _ _ _ _ _ _ _ _ _ _ _ _ _ _ _ _ _ _ _ _ _ _ _ _ _ _ _ _ _ _ _ _ _ _ _ _ _ _ _ _ _ _ _ _ _ _ _ _ _ _ _ _ _ _ _ _ _ _ _ _ _ _ _ _ _ _ _ _ _ _ _ _ _ _ _ _ _ _ _ _ _ _ _ _ _ _ _ _ _ _ _ _ _ _ _ _ _ _ _ _ _ _ _ _ _ _ _ _ (fun _ _ _ _ _ h => h) _ _ a1 a2
                  · by_cases hb : isb = true
                    · cases hdn : D.call.down with
                      | true => exact wayRdown w wr w2 w6 n j p h1 hjb N D R x isb hab HXM H6 hisb hk1 hk2 hk3 hk4 hk5 hb hdn _ _ _ _ _ _ _ _ _ _ _ _ _ _ _ _ _ _ _ _ _ _ _ _ _ _ _ _ _ _ _ _ _ _ _ _ _ _ _ _ _ _ _ _ _ _ _ _ _ _ _ _ _ _ _ _ _ _ _ _ _ _ _ _ _ _ _ _ _ _ _ _ _ _ _ _ _ _ _ _ _ _ _ _ _ _ _ _ _ _ _ _ _ _ _ _ _ _ _ _ _ _ _ _ _ _ _ _ _ _ _ _ _ _ _ _ _ _ _ _ _ _ _ _ _ _ _ _ _ _ _ _ _ _ _ _ _ _ _ _ _ _ _ _ _ _ _ _ _ _ _ _ _ _ _ _ _ _ _ _ _ _ _ _ _ _ _ _ _ _ _ _ _ _ _ _ _ _ _ _ _ _ _ _ _ _ _ _ _ _ _ _ _ _ _ _ _ _ _ _ _ _ _ _ _ _ _ _ _ _ _ _ _ _ _ _ _ _ _ _ _ _ (fun _ _ _ _ _ h => h) _ _ a1 a2
                      | false => exact wayRup w wr w2 w6 n j p h1 hjb N D R x isb hab HXM H6 hisb hk1 hk2 hk3 hk4 hk5 hb hdn _ _ _ _ _ _ _ _ _ _ _ _ _ _ _ _ _ _ _ _ _ _ _ _ _ _ _ _ _ _ _ _ _ _ _ _ _ _ _ _ _ _ _ _ _ _ _ _ _ _ _ _ _ _ _ _ _ _ _ _ _ _ _ _ _ _ _ _ _ _ _ _ _ _ _ _ _ _ _ _ _ _ _ _ _ _ _ _ _ _ _ _ _ _ _ _ _ _ _ _ _ _ _ _ _ _ _ _ _ _ _ _ _ _ _ _ _ _ _ _ _ _ _ _ _ _ _ _ _ _ _ _ _ _ _ _ _ _ _ _ _ _ _ _ _ _ _ _ _ _ _ _ _ _ _ _ _ _ _ _ _ _ _ _ _ _ _ _ _ _ _ _ _ _ _ _ _ _ _ _ _ _ _ _ _ _ _ _ _ _ _ _ _ _ _ _ _ _ _ _ _ _ _ _ _ _ _ _ _ _ _ _ _ _ _ _ _ _ _ _ _ _ (fun _ _ _ _ _ h => h) _ _ a1 a2
                    · have hb : isb = false := by simpa using hb
                      exact wayRno w wr w2 w6 n j p h1 hjb N D R x isb hab HXM H6 hisb hk1 hk2 hk3 hk4 hk5 hb _ _ _ _ _ _ _ _ _ _ _ _ _ _ _ _ _ _ _ _ _ _ _ _ _ _ _ _ _ _ _ _ _ _ _ _ _ _ _ _ _ _ _ _ _ _ _ _ _ _ _ _ _ _ _ _ _ _ _ _ _ _ _ _ _ _ _ _ _ _ _ _ _ _ _ _ _ _ _ _ _ _ _ _ _ _ _ _ _ _ _ _ _ _ _ _ _ _ _ _ _ _ _ _ _ _ _ _ _ _ _ _ _ _ _ _ _ _ _ _ _ _ _ _ _ _ _ _ _ _ _ _ _ _ _ _ _ _ _ _ _ _ _ _ _ _ _ _ _ _ _ _ _ _ _ _ _ _ _ _ _ _ _ _ _ _ _ _ _ _ _ _ _ _ _ _ _ _ _ _ _ _ _ _ _ _ _ _ _ _ _ _ _ _ _ _ _ _ _ _ _ _ _ _ _ _ _ _ _ _ _ _ _ _ _ _ _ _ _ _ _ _ (fun _ _ _ _ _ h => h) _ _ a1 a2
        case rest =>
          obtain ⟨N8, D8, R8, H8⟩ := hcut
          obtain ⟨dn, op, wl, Aq, cq, q1, q4, q5, o1, o2, o3⟩ := H8.out.1.same H8.out.2.1
          go_upto_region 48 with fail
          go_quiet (first
            | (go_at_call 21; refine Calls.quiet_of_same (o1 _))
            | (go_at_call 22; refine Calls.quiet_of_same (o2 _))
            | (go_at_call 23; refine Calls.quiet_of_same (o3 _)))
          go_wp2
          go_roundw
          case rel => exact ⟨j + 1, by go_num, by omega, by omega, _, _, Lib.hid ⟨_, H8.out.1.grow (below_drewN' (Below.refl _ _) _), H8.out.2.1, H8.out.2.2.1, H8.out.2.2.2⟩⟩
          case measure => simp [intOf]; omega
    · obtain ⟨N, hJ, hS, hn, hop⟩ := H.out
      have hL := len_says hJ.dev
      rw [hn] at hL
      have HB := Lib.hid hJ.bel
      clear hJ hS hn hop H HL
      by_cases hja : j < nl
      · have l2 : (j : Int) < (nl : Int) := by omega
        have l3 : ¬ (j : Int) < 60 := by omega
        clear hj
        go_wp2_with fail
        refine hL.mono ?_
        rintro e wn ⟨rfl, hwn⟩
        obtain rfl : wr = wn := hwn.symm
        clear hwn hL
        go_wp2_with fail
        refine (one_says _).mono ?_
        rintro e w5 ⟨rfl, hb5⟩
        have H5 := Lib.hid (HB.out.trans (hb5.mono HB.out.size))
        clear hb5
        go_wp2
        go_ret
        exact ⟨rfl, H5.out⟩
      · have l2 : ¬ (j : Int) < (nl : Int) := by omega
        clear hj
        go_wp2_with fail
        refine hL.mono ?_
        rintro e wn ⟨rfl, hwn⟩
        obtain rfl : wr = wn := hwn.symm
        clear hwn hL
        go_wp2_with fail
        refine (one_says _).mono ?_
        rintro e w5 ⟨rfl, hb5⟩
        have H5 := Lib.hid (HB.out.trans (hb5.mono HB.out.size))
        clear hb5
        go_wp2
        go_ret
        exact ⟨rfl, H5.out⟩
end Go.Proofs.Ytemgphpgfdnkeaa
