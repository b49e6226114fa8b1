/-
  MarkTorn, walked.
-/
import Derived.Test.YthpfdenpgegheaaTorn9
import Derived.BigQuiet
import Derived.Deep.DeepCutAuto
import Derived.Deep.CutBlock
namespace Go.Proofs.Ythpfdenpgegheaa
open Go.RowKit

set_option linter.unusedVariables false
set_option maxRecDepth 100000 in
set_option maxHeartbeats 32000000 in
theorem markTorn_walk (w : World) (m o : Mk) (a0 a1 a2 : Int) :
    Calls Try.prog 4 #[.agg (mv m), .agg (mv o), .agg #[.int .i64 a0, .int .i64 a1, .int .i64 a2]] w fun e w' => e = .returned (.bool true) ∧ Below w.heap.size w w' := by
  obtain ⟨i0, hi, hz0, hz1, hz2⟩ := info_parts Try.byteInfo
  obtain ⟨w3, hw3⟩ : ∃ x, ((w.alloc (.cells #[.int .u8 (m.kind.toNat : Int), .int .u64 (m.epoch : Int), .int .u64 (m.seq : Int)] 25)).alloc (.cells #[.int .u8 (o.kind.toNat : Int), .int .u64 (o.epoch : Int), .int .u64 (o.seq : Int)] 25)).alloc (.cells #[.int .i64 a0, .int .i64 a1, .int .i64 a2] 39) = x := ⟨_, rfl⟩
  have HT := Lib.hid (show Tn w w3 m o a0 a1 a2 by
    rw [← hw3]
    refine ⟨(((Below.refl _ w).alloc (Nat.le_refl _) _).alloc (by simp) _).alloc (by simp; omega) _, ?_, ?_, ?_⟩
    · exact Box.alloc (Box.alloc (Box.made w 25 (mv m)) _) _
    · have := Box.alloc (Box.made (w.alloc (.cells (mv m) 25)) 25 (mv o)) (.cells #[.int .i64 a0, .int .i64 a1, .int .i64 a2] 39)
      rwa [World.size_alloc] at this
    · have := Box.made ((w.alloc (.cells (mv m) 25)).alloc (.cells (mv o) 25)) 39 #[.int .i64 a0, .int .i64 a1, .int .i64 a2]
      rwa [World.size_alloc, World.size_alloc, Nat.add_assoc] at this)
  have c0 : w3.cell? ⟨w.heap.size, 0, none⟩ = some (.int .u8 (m.kind.toNat : Int)) := (Box.cell HT.out.one 0).trans rfl
  have f0 := Box.frozen HT.out.one 0
  go_enter Try.func4, Try.ntmps4
  simp only [mv]
  go_upto_region 1 with fail
  try simp only [Act.put]
  go_cut [35] (fun v wx => Hid (v = .bool (!m.may) ∧ wx = w3))
  case first =>
    clear f0
    by_cases h0 : m.kind = 0
    · have c1 : w3.cell? ⟨w.heap.size, 0, none⟩ = some (.int .u8 0) := by rw [c0, h0]; rfl
      clear c0
      have HR := Lib.hid (show Value.bool true = .bool (!m.may) by simp [Mk.may, h0])
      clear h0
      go_wp2
      go_meet
      exact Lib.hid ⟨HR.out, rfl⟩
    · by_cases h3 : m.kind = 3
      · have c1 : w3.cell? ⟨w.heap.size, 0, none⟩ = some (.int .u8 3) := by rw [c0, h3]; rfl
        clear c0
        have HR := Lib.hid (show Value.bool true = .bool (!m.may) by simp [Mk.may, h3])
        clear h0 h3
        go_wp2
        go_meet
        exact Lib.hid ⟨HR.out, rfl⟩
      · have e0 : ((m.kind.toNat : Int) == 0) = false := by
          have : m.kind.toNat ≠ 0 := fun e => h0 (UInt8.toNat_inj.1 e)
          rw [beq_eq_false_iff_ne]
          omega
        have e3 : ((m.kind.toNat : Int) == 3) = false := by
          have : m.kind.toNat ≠ 3 := fun e => h3 (UInt8.toNat_inj.1 e)
          rw [beq_eq_false_iff_ne]
          omega
        have HR := Lib.hid (show Value.bool false = .bool (!m.may) by simp [Mk.may, h0, h3])
        clear h0 h3
        go_wp2
        go_meet
        exact Lib.hid ⟨HR.out, rfl⟩
  case rest =>
    obtain ⟨rfl, hwc⟩ := hcut.out
    obtain rfl : w3 = wc := hwc.symm
    clear hwc hcut
    obtain ⟨m', hm'⟩ : ∃ x, fixM m = x := ⟨_, rfl⟩
    have HMY := Lib.hid (show m'.may = true by rw [← hm']; exact fixM_may m)
    go_upto_if 35 with fail
    go_cut [] (fun wx => Hid (Tn w wx m' o a0 a1 a2))
    case first =>
      cases hmay : m.may with
      | true =>
        have HR := Lib.hid (show Tn w w3 m' o a0 a1 a2 by rw [← hm', fixM, hmay]; exact HT.out)
        clear hm'
        go_wp2
        go_meet
        exact HR
      | false =>
        have HR := Lib.hid (show Tn w (w3.setCell ⟨w.heap.size, 0, none⟩ (.int .u8 1)) m' o a0 a1 a2 by
          have hg : w3.grownBy (w3.setCell ⟨w.heap.size, 0, none⟩ (.int .u8 1)) (some w.heap.size) := grown_set (grown_refl _ _) _ _
          refine ⟨HT.out.bel.setCell (p := ⟨w.heap.size, 0, none⟩) (Nat.le_refl _) _, ?_, Box.grown HT.out.two hg (by simp), Box.grown HT.out.num hg (by simp)⟩
          rw [← hm', fixM, hmay]
          have := Box.put HT.out.one 0 (.int .u8 1)
          simpa [mv] using this)
        clear hm'
        go_wp2
        go_meet
        exact HR
    case rest =>
      have HT4 := Lib.hid hcut.out
      clear hcut HT c0 f0 hw3 hm'
      go_upto_region 4 with (at_make; refine wpList_make_full wc rfl _ _ 22 rfl wc.heap.size 5 i0 _ 1 Try.underlying22 hi hz0 hz1 _ _ _ _ 220 rfl rfl rfl rfl (by rw [hz2]; omega) (by unfold maxLen; omega) (Nat.le_refl _) ?_; intro w5 hown5 hg5; rw [zero_made] at hown5; have HW5 := Lib.hid (And.intro (box_own hown5) ((Below.refl wc.heap.size wc).grown hg5 (Nat.le_refl _) (fun k hk => by cases hk))); clear hown5 hg5)
      have hgw : w.heap.size + 2 < wc.heap.size := HT4.out.num.lt
      obtain ⟨gp, hgp⟩ : ∃ x, wc.heap.size = x := ⟨_, rfl⟩
      have HT5 := Lib.hid (HT4.out.below HW5.out.2)
      have HP5 := Lib.hid HW5.out.1
      rw [hgp] at hgw HP5 ⊢
      clear HT4 HW5 hgp
      go_wp2_with fail
      go_loopw [8] (fun v wr => ∃ k : Nat, v = .int .i64 (k : Int) ∧ k ≤ 220 ∧ Hid (Tn w wr m' o a0 a1 a2 ∧ ∃ l : List UInt8, l.length = 220 ∧ Box wr gp 5 (bc l).toArray)) (fun v _ => 220 - (intOf v).toNat)
      case atStart => exact ⟨0, rfl, by omega, Lib.hid ⟨HT5.out, _, List.length_replicate, HP5.out⟩⟩
      case round =>
        clear HT5 HP5
        obtain ⟨k, rfl, hk, H⟩ := hrel
        by_cases hlt : k < 220
        · have l1 : (k : Int) < 220 := by omega
          obtain ⟨hT, l, hl, hx⟩ := H.out
          obtain ⟨z, hz⟩ := mod_byte (wrap64 ((k : Int) + a0))
          have cn : wr.cell? ⟨w.heap.size + 2, 0, none⟩ = some (.int .i64 a0) := (Box.cell hT.num 0).trans rfl
          obtain ⟨y, hy⟩ : ∃ y, l[k]? = some y := ⟨_, List.getElem?_eq_getElem (by omega)⟩
          have ck := box_at hx hy
          have fk := Box.frozen hx k
          have hx' := box_set hx k z
          have hg' : wr.grownBy (wr.setCell ⟨gp, k, none⟩ (.int .u8 (z.toNat : Int))) (some gp) := grown_set (grown_refl _ _) _ _
          have HN := Lib.hid (And.intro (hT.grown hg' hgw) (⟨l.set k z, by rw [List.length_set]; exact hl, hx'⟩ : ∃ l : List UInt8, l.length = 220 ∧ Box (wr.setCell ⟨gp, k, none⟩ (.int .u8 (z.toNat : Int))) gp 5 (bc l).toArray))
          clear hx hx' hg' hT H hl hy
          go_wp2
          go_roundw
          case rel => exact ⟨k + 1, by go_num, by omega, HN⟩
          case measure => simp [intOf]; omega
        · obtain rfl : k = 220 := by omega
          obtain ⟨hT, pay, hp, hx⟩ := H.out
          have HT6 := Lib.hid hT
          have HP6 := Lib.hid (And.intro hp hx)
          clear hT hp hx H hlt
          go_upto_region 8 with fail
          try simp only [Act.put]
          go_cut [9, 10, 11] (fun v9 v10 v11 wx => ∃ n k t : Nat, v9 = .int .i64 (n : Int) ∧ v10 = .int .i64 (k : Int) ∧ v11 = .int .i64 (t : Int) ∧ Hid (n ≤ 220 ∧ k ≤ 220 ∧ t ≤ 255 ∧ Below wr.heap.size wr wx))
          case first =>
            have n0 : ∀ q, (wr.drewN q).cell? ⟨w.heap.size + 2, 0, none⟩ = some (.int .i64 a0) := fun q => (Box.cell HT6.out.num 0).trans rfl
            have n1 : ∀ q, (wr.drewN q).cell? ⟨w.heap.size + 2, 1, none⟩ = some (.int .i64 a1) := fun q => (Box.cell HT6.out.num 1).trans rfl
            have n2 : ∀ q, (wr.drewN q).cell? ⟨w.heap.size + 2, 2, none⟩ = some (.int .i64 a2) := fun q => (Box.cell HT6.out.num 2).trans rfl
            have r0 := and255 a0
            have r1 := and255 a1
            have r2 := and255 a2
            go_quiet (fail)
            go_wp2
            go_meet
            exact ⟨(a0 % 256 % 221).toNat, (a1 % 256 % 221).toNat, (a2 % 256).toNat, by rw [Int.toNat_of_nonneg (by omega)], by rw [Int.toNat_of_nonneg (by omega)], by rw [Int.toNat_of_nonneg (by omega)], Lib.hid ⟨by omega, by omega, by omega, below_drewN' (Below.refl _ _) _⟩⟩
          case rest =>
            obtain ⟨n, k, t, rfl, rfl, rfl, hcc⟩ := hcut
            have hn := hcc.out.1
            have hk := hcc.out.2.1
            have ht := hcc.out.2.2.1
            have HT7 := Lib.hid (HT6.out.below hcc.out.2.2.2)
            have HP7 := Lib.hid (And.intro HP6.out.1 (Box.below HP6.out.2 hcc.out.2.2.2 HP6.out.2.lt))
            clear hcc HT6 HP6
            rename_i KK kk
            exact kk _ _ (torn9_says w wc m' o a0 a1 a2 pay n k t gp hn hk ht HMY HT7 HP7)
end Go.Proofs.Ythpfdenpgegheaa
