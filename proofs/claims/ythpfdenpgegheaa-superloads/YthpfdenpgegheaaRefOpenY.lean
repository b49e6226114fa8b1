/-
  The reference's Open, whole.
-/
import Derived.Test.YthpfdenpgegheaaRefOpen
namespace Go.Proofs.Ythpfdenpgegheaa
open Go.RowKit

theorem getD_zero (l : List UInt8) : l.getD 0 0 = l.headD 0 := by cases l <;> rfl
theorem long_bytes (l : List UInt8) (hl : l.length = 256) : longOf l = (l.getD 17 0).toNat * 256 + (l.getD 18 0).toNat := by
  have a1 : l.getD 17 0 = l[17] := by simp [List.getD, hl]
  have a2 : l.getD 18 0 = l[18] := by simp [List.getD, hl]
  have h1 : (l.drop 17).take 2 = [l.getD 17 0, l.getD 18 0] := by
    rw [a1, a2, List.drop_eq_getElem_cons (by omega), List.drop_eq_getElem_cons (by omega)]
    rfl
  rw [longOf, h1, show [l.getD 17 0, l.getD 18 0] = ([] ++ [l.getD 17 0]) ++ [l.getD 18 0] from rfl, beVal_snoc, beVal_snoc]
  simp [beVal]
theorem beVal_take (l : List UInt8) (o k : Nat) (h : o + k < l.length) : beVal ((l.drop o).take (k + 1)) = beVal ((l.drop o).take k) * 256 + (l.getD (o + k) 0).toNat := by
  rw [List.take_succ_eq_append_getElem (by rw [List.length_drop]; omega), beVal_snoc, List.getElem_drop]
  simp [List.getD, List.getElem?_eq_getElem h]
theorem beVal_take_lt (l : List UInt8) (o k : Nat) (h : k < 8) : beVal ((l.drop o).take k) < 72057594037927936 := by
  have h1 := beVal_lt ((l.drop o).take k)
  have h2 : 256 ^ ((l.drop o).take k).length ≤ 256 ^ 7 := Nat.pow_le_pow_right (by omega) (by rw [List.length_take]; omega)
  have h3 : (256 : Nat) ^ 7 = 72057594037927936 := by decide
  omega
/-- What the reference's Open hands on. -/
def ROpened (w : World) (l : List UInt8) (e : Ending) (w' : World) : Prop :=
  (ropens l = none → e = .returned (.tuple #[.agg (mv Mk.zero), .string ⟨#[]⟩, .bool false])) ∧ (∀ m b, ropens l = some (m, b) → e = .returned (.tuple #[.agg (mv m), .string ⟨b.toArray⟩, .bool true])) ∧ Below w.heap.size w w'
set_option linter.unusedVariables false
set_option linter.unusedSimpArgs false
set_option maxRecDepth 100000 in
set_option maxHeartbeats 16000000 in
theorem ropen_form (w : World) (l : List UInt8) (hl : l.length = 256) (hm : (markAt l).may = true) (hk : longOf l ≤ 220) :
    Calls Try.prog 8 #[.string ⟨l.toArray⟩] w (ROpened w l) := by
  obtain ⟨PL, hPL⟩ : ∃ y, (⟨l.toArray⟩ : ByteArray) = y := ⟨_, rfl⟩
  have hps : PL.size = l.length := by rw [← hPL, str_size]
  have l1 : ((PL.size : Int) != 256) = false := by rw [hps, hl]; rfl
  have x0 := fun W => index_st l 0 (by omega) 0 rfl W
  have x17 := fun W => index_st l 17 (by omega) 17 rfl W
  have x18 := fun W => index_st l 18 (by omega) 18 rfl W
  have hlb := long_bytes l hl
  have hkd : (markAt l).kind = l.getD 0 0 := (getD_zero l).symm
  obtain ⟨k0, hk0⟩ : ∃ z, l.getD 0 0 = z := ⟨_, rfl⟩
  obtain ⟨k17, hk17⟩ : ∃ z, l.getD 17 0 = z := ⟨_, rfl⟩
  obtain ⟨k18, hk18⟩ : ∃ z, l.getD 18 0 = z := ⟨_, rfl⟩
  rw [hPL, hk0] at x0
  rw [hPL, hk17] at x17
  rw [hPL, hk18] at x18
  rw [hk0] at hkd
  rw [hk17, hk18] at hlb
  have hmay := hm
  rw [Mk.may, hkd] at hmay
  simp only [Bool.and_eq_true, bne_iff_ne] at hmay
  have g0 : ((k0.toNat : Int) == 0) = false := by
    rw [beq_eq_false_iff_ne]
    intro e
    exact hmay.1 (UInt8.toNat_inj.1 (by simpa using e))
  have g3 : ((k0.toNat : Int) == 3) = false := by
    rw [beq_eq_false_iff_ne]
    intro e
    exact hmay.2 (UInt8.toNat_inj.1 (show k0.toNat = 3 by omega))
  have g17 : ((k17.toNat : Int) != 0) = false := by
    have : k17.toNat = 0 := by omega
    rw [this]
    rfl
  have hl18 : longOf l = k18.toNat := by
    have : k17.toNat = 0 := by omega
    omega
  have g18 : ¬ 220 < (k18.toNat : Int) := by omega
  have g18' : (k18.toNat : Int) ≤ 220 := by omega
  have g19 : (0 : Int) ≤ (k18.toNat : Int) := by omega
  have hsm := fun W => sliceS_mid l 19 (19 + k18.toNat) (by omega) (by omega) W
  obtain ⟨b, hb⟩ : ∃ z, (l.drop 19).take k18.toNat = z := ⟨_, rfl⟩
  have hbl : b.length = k18.toNat := by rw [← hb, List.length_take, List.length_drop]; omega
  obtain ⟨PB, hPB⟩ : ∃ y, (⟨b.toArray⟩ : ByteArray) = y := ⟨_, rfl⟩
  have sM : ∀ W, (Instr.sliceAt 9 (.string PL) (some (.int .i64 19)) (some (.int .i64 (19 + (k18.toNat : Int)))) none).run Try.prog W = .ok (.string PB) W := fun W => by
    have := hsm W
    rw [hPL, show 19 + k18.toNat - 19 = k18.toNat by omega, hb, hPB] at this
    rw [show ((19 + k18.toNat : Nat) : Int) = 19 + (k18.toNat : Int) by omega] at this
    exact this
  have hiff := opens_iff hl hm hk
  rw [hl18, hb] at hiff
  have hro : ropens l = opens l := by rw [ropens, if_pos hl]
  unfold ROpened
  rw [hro, hPL]
  have HX := Lib.hid (show (opens l = some (markAt l, b) ∨ opens l = none) by
    cases ho : opens l with
    | none => exact .inr rfl
    | some mb =>
      obtain ⟨m', b'⟩ := mb
      obtain ⟨e1, e2⟩ := opens_only ho
      rw [hl18, hb] at e2
      exact .inl (by rw [e1, e2]))
  have HIFF := Lib.hid hiff
  have HLL := Lib.hid hl
  have HBL := Lib.hid hbl
  have HPB := Lib.hid hPB
  have HPL := Lib.hid hPL
  have HK0 := Lib.hid (show l.headD 0 = k0 by rw [← getD_zero]; exact hk0)
  have HL18 := Lib.hid hl18
  clear hm hk hps hlb hkd hk0 hk17 hk18 hmay hsm hb hbl hPB hiff hro hPL hl hl18
  obtain ⟨w1, hw1⟩ : ∃ x, w.alloc (.cells #[.int .u8 0, .int .u64 0, .int .u64 0] 29) = x := ⟨_, rfl⟩
  have hbw1 : Below w.heap.size w w1 := by rw [← hw1]; exact (Below.refl _ w).alloc (Nat.le_refl _) _
  have hmw1 : Box w1 w.heap.size 29 (mv Mk.zero) := by rw [← hw1]; exact Box.made w _ _
  obtain ⟨w2, hw2⟩ : ∃ x, w1.setRow w.heap.size (mv Mk.zero) = x := ⟨_, rfl⟩
  have hmw2 : Box w2 w.heap.size 29 (mv Mk.zero) := by rw [← hw2]; exact setRow_heap _ _ _ _ _ _ hmw1
  have hbw2 : Below w.heap.size w w2 := hbw1.trans (by rw [← hw2]; exact (Below.refl _ w1).grown (grown_row (grown_refl _ (some w.heap.size)) _) hbw1.size (fun k e => by injection e with e; omega))
  have HMw1 := Lib.hid hmw1
  have HWw2 := Lib.hid hw2
  have HB1 := Lib.hid hbw1
  have HB2 := Lib.hid hbw2
  clear hmw1 hmw2 hbw1 hbw2 hw2 HWw2 w2 HB2
  obtain ⟨w2, hw2⟩ : ∃ x, w1.alloc (.cells #[.int .u8 0, .int .u64 0, .int .u64 0] 29) = x := ⟨_, rfl⟩
  have hbw2 : Below w1.heap.size w1 w2 := by rw [← hw2]; exact (Below.refl _ w1).alloc (Nat.le_refl _) _
  have hmw2 : Box w2 w1.heap.size 29 (mv Mk.zero) := by rw [← hw2]; exact Box.made w1 _ _
  obtain ⟨w3, hw3⟩ : ∃ x, w2.setRow w1.heap.size (mv ⟨k0, 0, 0, by omega, by omega⟩) = x := ⟨_, rfl⟩
  have hmw3 : Box w3 w1.heap.size 29 (mv ⟨k0, 0, 0, by omega, by omega⟩) := by rw [← hw3]; exact setRow_heap _ _ _ _ _ _ hmw2
  have hbw3 : Below w1.heap.size w1 w3 := hbw2.trans (by rw [← hw3]; exact (Below.refl _ w2).grown (grown_row (grown_refl _ (some w1.heap.size)) _) hbw2.size (fun k e => by injection e with e; omega))
  have HMw2 := Lib.hid hmw2
  have HWw3 := Lib.hid hw3
  have hgg : w1.heap.size = w.heap.size + 1 := by rw [← hw1]; simp
  have HI := Lib.hid (show Below w.heap.size w w3 ∧ Box w3 w.heap.size 29 (mv Mk.zero) ∧ Box w3 w1.heap.size 29 (mv ⟨k0, 0, 0, by omega, by omega⟩) from
    ⟨HB1.out.trans (hbw3.mono HB1.out.size), Box.below HMw1.out hbw3 HMw1.out.lt, hmw3⟩)
  have HGG := Lib.hid hgg
  clear hmw2 hbw2 hmw3 hbw3 hw3 hgg
  go_enter Try.func8, Try.ntmps8
  go_upto_region 4 with (refine wpList_store_row rfl 29 _ _ rfl w1.heap.size (mv ⟨k0, 0, 0, by omega, by omega⟩) rfl rfl 29 _ HMw2.out (by rw [mv_size]; exact refInfo) rfl (mv_one _) ?_; rw [HWw3.out])
  obtain ⟨g5, hg5⟩ : ∃ g, w1.heap.size = g := ⟨_, rfl⟩
  rw [hg5] at HI HGG ⊢
  clear hg5
  go_wp2_with fail
  go_loopw [6] (fun v wr => ∃ k : Nat, v = .int .i64 (k : Int) ∧ k ≤ 8 ∧ Hid (Below w.heap.size w wr ∧ Box wr w.heap.size 29 (mv Mk.zero) ∧ Box wr g5 29 #[.int .u8 (k0.toNat : Int), .int .u64 ((beVal ((l.drop 1).take k) : Nat) : Int), .int .u64 ((beVal ((l.drop 9).take k) : Nat) : Int)])) (fun v _ => 8 - (intOf v).toNat)
  case atStart => exact ⟨0, rfl, by omega, Lib.hid ⟨HI.out.1, HI.out.2.1, HI.out.2.2⟩⟩
  case round =>
    clear HI
    obtain ⟨k, rfl, hk, H⟩ := hrel
    by_cases hlt : k < 8
    · have hlt' : (k : Int) < 8 := by omega
      obtain ⟨hB, hz, hx⟩ := H.out
      clear H
      have hn1 := beVal_take l 1 k (by rw [HLL.out]; omega)
      have hn2 := beVal_take l 9 k (by rw [HLL.out]; omega)
      have hb1 := beVal_take_lt l 1 k hlt
      have hb2 := beVal_take_lt l 9 k hlt
      have ix1 := fun W => index_st l (1 + k) (by rw [HLL.out]; omega) (1 + (k : Int)) (by omega) W
      have ix2 := fun W => index_st l (9 + k) (by rw [HLL.out]; omega) (9 + (k : Int)) (by omega) W
      rw [HPL.out] at ix1 ix2
      obtain ⟨z1, hz1⟩ : ∃ z, l.getD (1 + k) 0 = z := ⟨_, rfl⟩
      obtain ⟨z2, hz2⟩ : ∃ z, l.getD (9 + k) 0 = z := ⟨_, rfl⟩
      rw [hz1] at hn1 ix1
      rw [hz2] at hn2 ix2
      obtain ⟨v1, hv1⟩ : ∃ v, beVal ((l.drop 1).take k) = v := ⟨_, rfl⟩
      obtain ⟨v2, hv2⟩ : ∃ v, beVal ((l.drop 9).take k) = v := ⟨_, rfl⟩
      rw [hv1] at hn1 hb1 hx
      rw [hv2] at hn2 hb2 hx
      have hq1 := z1.toNat_lt
      have hq2 := z2.toNat_lt
      have c1 : wr.drew.cell? ⟨g5, 1, none⟩ = some (.int .u64 (v1 : Int)) := (Box.cell hx 1).trans rfl
      have f1 : wr.drew.frozen? ⟨g5, 1, none⟩ = false := Box.frozen hx 1
      obtain ⟨wA, hwA⟩ : ∃ x, wr.drew.setCell ⟨g5, 1, none⟩ (.int .u64 (256 * (v1 : Int) + (z1.toNat : Int))) = x := ⟨_, rfl⟩
      obtain ⟨wB, hwB⟩ : ∃ x, wA.drew.setCell ⟨g5, 2, none⟩ (.int .u64 (256 * (v2 : Int) + (z2.toNat : Int))) = x := ⟨_, rfl⟩
      have hA : Box wA g5 29 #[.int .u8 (k0.toNat : Int), .int .u64 (256 * (v1 : Int) + (z1.toNat : Int)), .int .u64 (v2 : Int)] := by
        rw [← hwA]
        have := Box.put (show Box wr.drew g5 29 _ from hx) 1 (.int .u64 (256 * (v1 : Int) + (z1.toNat : Int)))
        simpa using this
      have hBx : Box wB g5 29 #[.int .u8 (k0.toNat : Int), .int .u64 (256 * (v1 : Int) + (z1.toNat : Int)), .int .u64 (256 * (v2 : Int) + (z2.toNat : Int))] := by
        rw [← hwB]
        have := Box.put (show Box wA.drew g5 29 _ from hA) 2 (.int .u64 (256 * (v2 : Int) + (z2.toNat : Int)))
        simpa using this
      have gA : wr.grownBy wA (some g5) := by rw [← hwA]; exact grown_undrew (grown_set (grown_refl wr.drew (some g5)) _ _)
      have gB : wA.grownBy wB (some g5) := by rw [← hwB]; exact grown_undrew (grown_set (grown_refl wA.drew (some g5)) _ _)
      have hgw : w.heap.size < g5 := by rw [HGG.out]; omega
      have HN := Lib.hid (show Below w.heap.size w wB ∧ Box wB w.heap.size 29 (mv Mk.zero) ∧ Box wB g5 29 #[.int .u8 (k0.toNat : Int), .int .u64 ((beVal ((l.drop 1).take (k + 1)) : Nat) : Int), .int .u64 ((beVal ((l.drop 9).take (k + 1)) : Nat) : Int)] by
        refine ⟨below_grown (below_grown hB gA (by omega) hB.size) gB (by omega) (below_grown hB gA (by omega) hB.size).size, Box.grown (Box.grown hz gA (by simp; omega)) gB (by simp; omega), ?_⟩
        rw [hn1, hn2, show ((v1 * 256 + z1.toNat : Nat) : Int) = 256 * (v1 : Int) + (z1.toNat : Int) by omega, show ((v2 * 256 + z2.toNat : Nat) : Int) = 256 * (v2 : Int) + (z2.toNat : Int) by omega]
        exact hBx)
      have c2 : wA.drew.cell? ⟨g5, 2, none⟩ = some (.int .u64 (v2 : Int)) := (Box.cell hA 2).trans rfl
      have f2 : wA.drew.frozen? ⟨g5, 2, none⟩ = false := Box.frozen hA 2
      have HWA := Lib.hid hwA
      have HWB := Lib.hid hwB
      have wp1 : IntKind.u64.wrap (256 * (v1 : Int)) = 256 * (v1 : Int) := by rw [IntKind.wrap_u64]; omega
      have wp2 : IntKind.u64.wrap (256 * (v1 : Int) + (z1.toNat : Int)) = 256 * (v1 : Int) + (z1.toNat : Int) := by rw [IntKind.wrap_u64]; omega
      have wp3 : IntKind.u64.wrap (z1.toNat : Int) = (z1.toNat : Int) := by rw [IntKind.wrap_u64]; omega
      have wq1 : IntKind.u64.wrap (256 * (v2 : Int)) = 256 * (v2 : Int) := by rw [IntKind.wrap_u64]; omega
      have wq2 : IntKind.u64.wrap (256 * (v2 : Int) + (z2.toNat : Int)) = 256 * (v2 : Int) + (z2.toNat : Int) := by rw [IntKind.wrap_u64]; omega
      have wq3 : IntKind.u64.wrap (z2.toNat : Int) = (z2.toNat : Int) := by rw [IntKind.wrap_u64]; omega
      have wk1 : IntKind.i64.wrap (1 + (k : Int)) = 1 + (k : Int) := IntWalk.i64_in _ (by omega)
      have wk2 : IntKind.i64.wrap (9 + (k : Int)) = 9 + (k : Int) := IntWalk.i64_in _ (by omega)
      clear hB hz hx hA hBx gA gB hwA hwB hn1 hn2 hz1 hz2 hv1 hv2
      have HC2 := Lib.hid c2
      have HF2 := Lib.hid f2
      have HQ := Lib.hid (And.intro wq1 (And.intro wq2 wq3))
      clear c2 f2 wq1 wq2 wq3
      go_upto_region 7 with fail
      refine wp_region_held_drew (S := fun _ => True) (by kernel_rfl) trivial (fun hHeld => ?_)
      refine take_run 0 39 (v := ?_) rfl rfl (by kernel_rfl) (by kernel_rfl) (by kernel_rfl) (fun _ _ _ h => h) (by rfl) ?_ (by assumption) ?_
      rotate_left
      · (intro wq hSw; have hS1 := hSw; go_simp; first | done | with_reducible rfl)
      simp only [Act.put, List.setIfInBounds_toArray, List.set_cons_zero, List.set_cons_succ]
      refine take_run 3 42 (v := ?_) rfl rfl (by kernel_rfl) (by kernel_rfl) (by kernel_rfl) (fun _ _ _ h => h) (by rfl) ?_ (by assumption) ?_
      rotate_left
      · (intro wq hSw; have hS1 := hSw; go_simp; first | done | with_reducible rfl)
      simp only [Act.put, List.setIfInBounds_toArray, List.set_cons_zero, List.set_cons_succ]
      refine take_run 4 43 (v := ?_) rfl rfl (by kernel_rfl) (by kernel_rfl) (by kernel_rfl) (fun _ _ _ h => h) (by rfl) ?_ (by assumption) ?_
      rotate_left
      · (intro wq hSw; have hS1 := hSw; go_simp; first | done | with_reducible rfl)
      simp only [Act.put, List.setIfInBounds_toArray, List.set_cons_zero, List.set_cons_succ]
      refine take_run 5 44 (v := ?_) rfl rfl (by kernel_rfl) (by kernel_rfl) (by kernel_rfl) (fun _ _ _ h => h) (by rfl) ?_ (by assumption) ?_
      rotate_left
      · (intro wq hSw; have hS1 := hSw; go_simp; first | done | with_reducible rfl)
      simp only [Act.put, List.setIfInBounds_toArray, List.set_cons_zero, List.set_cons_succ]
      refine take_run 6 45 (v := ?_) rfl rfl (by kernel_rfl) (by kernel_rfl) (by kernel_rfl) (fun _ _ _ h => h) (by rfl) ?_ (by assumption) ?_
      rotate_left
      · (intro wq hSw; have hS1 := hSw; go_simp; first | done | with_reducible rfl)
      simp only [Act.put, List.setIfInBounds_toArray, List.set_cons_zero, List.set_cons_succ]
      refine take_run 7 46 (v := ?_) rfl rfl (by kernel_rfl) (by kernel_rfl) (by kernel_rfl) (fun _ _ _ h => h) (by rfl) ?_ (by assumption) ?_
      rotate_left
      · (intro wq hSw; have hS1 := hSw; go_simp; first | done | with_reducible rfl)
      simp only [Act.put, List.setIfInBounds_toArray, List.set_cons_zero, List.set_cons_succ]
      refine wpAnyH_ready (rs := [1]) (by kernel_rfl) (by simp) ?_
      refine AllReadyH.cons rfl (fun K hK => ?_) AllReadyH.nil
      refine step_run (w' := wr.drew) 40 (.int .u64 (v1 : Int)) rfl rfl (by have hc := c1; go_simp; first | done | rfl) ?_
      refine hK.out _ _ trivial (fun hHeld => ?_)
      clear hK K
      try simp only [Act.put, List.setIfInBounds_toArray, List.set_cons_zero, List.set_cons_succ]
      refine take_run 2 41 (v := ?_) rfl rfl (by kernel_rfl) (by kernel_rfl) (by kernel_rfl) (fun _ _ _ h => h) (by rfl) ?_ (by assumption) ?_
      rotate_left
      · (intro wq hSw; have hS1 := hSw; go_simp; first | done | with_reducible rfl)
      simp only [Act.put, List.setIfInBounds_toArray, List.set_cons_zero, List.set_cons_succ]
      refine take_run 8 47 (v := ?_) rfl rfl (by kernel_rfl) (by kernel_rfl) (by kernel_rfl) (fun _ _ _ h => h) (by rfl) ?_ (by assumption) ?_
      rotate_left
      · (intro wq hSw; have hS1 := hSw; go_simp; first | done | with_reducible rfl)
      simp only [Act.put, List.setIfInBounds_toArray, List.set_cons_zero, List.set_cons_succ]
      refine take_run 9 48 (v := ?_) rfl rfl (by kernel_rfl) (by kernel_rfl) (by kernel_rfl) (fun _ _ _ h => h) (by rfl) ?_ (by assumption) ?_
      rotate_left
      · (intro wq hSw; have hS1 := hSw; go_simp; first | done | with_reducible rfl)
      simp only [Act.put, List.setIfInBounds_toArray, List.set_cons_zero, List.set_cons_succ]
      refine wpAnyH_ready (rs := [10]) (by kernel_rfl) (by simp) ?_
      refine AllReadyH.cons rfl (fun K hK => ?_) AllReadyH.nil
      refine step_store_one 23 _ _ rfl rfl rfl g5 1 (.int .u64 (256 * (v1 : Int) + (z1.toNat : Int))) _ rfl rfl rfl rfl c1 f1 u64Info ?_
      refine hK.out _ _ trivial (fun hHeld => ?_)
      clear hK K
      try simp only [Act.put, List.setIfInBounds_toArray, List.set_cons_zero, List.set_cons_succ]
      refine wpAnyH_done (by kernel_rfl) ?_ _
      clear hHeld
      rw [HWA.out]
      clear wp1 wp2 wp3 wk1 ix1 c1 f1
      obtain ⟨wq1, wq2, wq3⟩ := HQ.out
      go_upto_region 8 with fail
      refine wp_region_held_drew (S := fun _ => True) (by kernel_rfl) trivial (fun hHeld => ?_)
      refine take_run 0 49 (v := ?_) rfl rfl (by kernel_rfl) (by kernel_rfl) (by kernel_rfl) (fun _ _ _ h => h) (by rfl) ?_ (by assumption) ?_
      rotate_left
      · (intro wq hSw; have hS1 := hSw; go_simp; first | done | with_reducible rfl)
      simp only [Act.put, List.setIfInBounds_toArray, List.set_cons_zero, List.set_cons_succ]
      refine take_run 3 52 (v := ?_) rfl rfl (by kernel_rfl) (by kernel_rfl) (by kernel_rfl) (fun _ _ _ h => h) (by rfl) ?_ (by assumption) ?_
      rotate_left
      · (intro wq hSw; have hS1 := hSw; go_simp; first | done | with_reducible rfl)
      simp only [Act.put, List.setIfInBounds_toArray, List.set_cons_zero, List.set_cons_succ]
      refine take_run 4 53 (v := ?_) rfl rfl (by kernel_rfl) (by kernel_rfl) (by kernel_rfl) (fun _ _ _ h => h) (by rfl) ?_ (by assumption) ?_
      rotate_left
      · (intro wq hSw; have hS1 := hSw; go_simp; first | done | with_reducible rfl)
      simp only [Act.put, List.setIfInBounds_toArray, List.set_cons_zero, List.set_cons_succ]
      refine take_run 5 54 (v := ?_) rfl rfl (by kernel_rfl) (by kernel_rfl) (by kernel_rfl) (fun _ _ _ h => h) (by rfl) ?_ (by assumption) ?_
      rotate_left
      · (intro wq hSw; have hS1 := hSw; go_simp; first | done | with_reducible rfl)
      simp only [Act.put, List.setIfInBounds_toArray, List.set_cons_zero, List.set_cons_succ]
      refine take_run 6 55 (v := ?_) rfl rfl (by kernel_rfl) (by kernel_rfl) (by kernel_rfl) (fun _ _ _ h => h) (by rfl) ?_ (by assumption) ?_
      rotate_left
      · (intro wq hSw; have hS1 := hSw; go_simp; first | done | with_reducible rfl)
      simp only [Act.put, List.setIfInBounds_toArray, List.set_cons_zero, List.set_cons_succ]
      refine take_run 7 56 (v := ?_) rfl rfl (by kernel_rfl) (by kernel_rfl) (by kernel_rfl) (fun _ _ _ h => h) (by rfl) ?_ (by assumption) ?_
      rotate_left
      · (intro wq hSw; have hS1 := hSw; go_simp; first | done | with_reducible rfl)
      simp only [Act.put, List.setIfInBounds_toArray, List.set_cons_zero, List.set_cons_succ]
      refine wpAnyH_ready (rs := [1]) (by kernel_rfl) (by simp) ?_
      refine AllReadyH.cons rfl (fun K hK => ?_) AllReadyH.nil
      refine step_run (w' := wA.drew) 50 (.int .u64 (v2 : Int)) rfl rfl (by have hc := HC2.out; go_simp; first | done | rfl) ?_
      refine hK.out _ _ trivial (fun hHeld => ?_)
      clear hK K
      try simp only [Act.put, List.setIfInBounds_toArray, List.set_cons_zero, List.set_cons_succ]
      refine take_run 2 51 (v := ?_) rfl rfl (by kernel_rfl) (by kernel_rfl) (by kernel_rfl) (fun _ _ _ h => h) (by rfl) ?_ (by assumption) ?_
      rotate_left
      · (intro wq hSw; have hS1 := hSw; go_simp; first | done | with_reducible rfl)
      simp only [Act.put, List.setIfInBounds_toArray, List.set_cons_zero, List.set_cons_succ]
      refine take_run 8 57 (v := ?_) rfl rfl (by kernel_rfl) (by kernel_rfl) (by kernel_rfl) (fun _ _ _ h => h) (by rfl) ?_ (by assumption) ?_
      rotate_left
      · (intro wq hSw; have hS1 := hSw; go_simp; first | done | with_reducible rfl)
      simp only [Act.put, List.setIfInBounds_toArray, List.set_cons_zero, List.set_cons_succ]
      refine take_run 9 58 (v := ?_) rfl rfl (by kernel_rfl) (by kernel_rfl) (by kernel_rfl) (fun _ _ _ h => h) (by rfl) ?_ (by assumption) ?_
      rotate_left
      · (intro wq hSw; have hS1 := hSw; go_simp; first | done | with_reducible rfl)
      simp only [Act.put, List.setIfInBounds_toArray, List.set_cons_zero, List.set_cons_succ]
      refine wpAnyH_ready (rs := [10]) (by kernel_rfl) (by simp) ?_
      refine AllReadyH.cons rfl (fun K hK => ?_) AllReadyH.nil
      refine step_store_one 23 _ _ rfl rfl rfl g5 2 (.int .u64 (256 * (v2 : Int) + (z2.toNat : Int))) _ rfl rfl rfl rfl HC2.out HF2.out u64Info ?_
      refine hK.out _ _ trivial (fun hHeld => ?_)
      clear hK K
      try simp only [Act.put, List.setIfInBounds_toArray, List.set_cons_zero, List.set_cons_succ]
      refine wpAnyH_done (by kernel_rfl) ?_ _
      clear hHeld
      rw [HWB.out]
      clear wq1 wq2 wq3 wk2 ix2
      go_wp2
      go_roundw
      case rel => exact ⟨k + 1, by go_num, by omega, HN⟩
      case measure => simp [intOf]; omega
    · obtain rfl : k = 8 := by omega
      have HJ := Lib.hid (show Below w.heap.size w wr ∧ Box wr w.heap.size 29 (mv Mk.zero) ∧ Box wr g5 29 (mv (markAt l)) from ⟨H.out.1, H.out.2.1, by have := H.out.2.2; rw [← HK0.out] at this; exact this⟩)
      have hbb : b.length ≤ 220 := by rw [HBL.out]; omega
      have HRS := Lib.hid (rseal_says wr (markAt l) b hbb)
      rw [HPB.out] at HRS
      obtain ⟨PS, hPS⟩ : ∃ y, (⟨(sealed (markAt l) b).toArray⟩ : ByteArray) = y := ⟨_, rfl⟩
      rw [hPS] at HRS
      have HPS := Lib.hid hPS
      have hre : (PS.toList == PL.toList) = decide (sealed (markAt l) b = l) := by
        rw [← hPS, ← HPL.out]
        rw [Bool.eq_iff_iff]
        simp [ByteArray.toList_eq]
      generalize hM : markAt l = M at *
      clear H hlt hk hbb hPS
      go_wp2_with (refine wpList_load_row rfl 29 _ rfl g5 rfl 29 _ (0, 0) _ HJ.out.2.2 Try.underlying29 rfl (by rw [mv_size]; exact refInfo) ?_)
      refine HRS.out.mono ?_
      rintro e ws ⟨rfl, hbs⟩
      have hmz : Box ws w.heap.size 29 (mv Mk.zero) := Box.below HJ.out.2.1 hbs HJ.out.2.1.lt
      have HMM := Lib.hid (Box.below HJ.out.2.2 hbs HJ.out.2.2.lt)
      have hbb : Below w.heap.size w ws := HJ.out.1.trans (hbs.mono HJ.out.1.size)
      rcases HX.out with ho | ho
      · have HO := Lib.hid ho
        have hs2 := HIFF.out.2 ho
        rw [hs2] at hre
        have l2 : (PS.toList == PL.toList) = true := by rw [hre]; simp
        clear hre hs2 ho
        obtain ⟨w8, hw8⟩ : ∃ x, ws.setRow w.heap.size (mv M) = x := ⟨_, rfl⟩
        have hm8 : Box w8 w.heap.size 29 (mv M) := by rw [← hw8]; exact setRow_heap _ _ _ _ _ _ hmz
        have hb8 : Below w.heap.size w w8 := hbb.trans (by rw [← hw8]; exact (Below.refl _ ws).grown (grown_row (grown_refl _ (some w.heap.size)) _) hbb.size (fun k e => by injection e with e; omega))
        have e0 : w8.cell? ⟨w.heap.size, 0, none⟩ = some (.int .u8 (M.kind.toNat : Int)) := (Box.cell hm8 0).trans rfl
        have e1 : w8.cell? ⟨w.heap.size, 1, none⟩ = some (.int .u64 (M.epoch : Int)) := (Box.cell hm8 1).trans rfl
        have e2 : w8.cell? ⟨w.heap.size, 2, none⟩ = some (.int .u64 (M.seq : Int)) := (Box.cell hm8 2).trans rfl
        have HW8 := Lib.hid hw8
        have HMZ := Lib.hid hmz
        have HB8 := Lib.hid hb8
        clear hm8 hw8 hmz hb8 hbb hbs
        go_wp2_with (first
          | (refine wpList_load_row rfl 29 _ rfl g5 rfl 29 _ (0, 0) _ HMM.out Try.underlying29 rfl (by rw [mv_size]; exact refInfo) ?_)
          | (refine wpList_store_row rfl 29 _ _ rfl w.heap.size (mv M) rfl rfl 29 _ HMZ.out (by rw [mv_size]; exact refInfo) rfl (mv_one _) ?_; rw [HW8.out]))
        refine bodyPost_ret (v := .tuple #[.agg (mv M), .string PB, .bool true]) (by simp [results, Try.results8, go_sem, e0, e1, e2, mv]) rfl ⟨fun h => (by rw [HO.out] at h; cases h), fun m b' h => ?_, HB8.out⟩
        rw [HO.out] at h
        injection h with h
        injection h with h1 h2
        rw [← h1, ← h2, HPB.out]
      · have HO := Lib.hid ho
        have l2 : (PS.toList == PL.toList) = false := by
          rw [hre, decide_eq_false_iff_not]
          intro hc
          have := HIFF.out.1 hc
          rw [ho] at this
          cases this
        clear hre ho
        obtain ⟨w8, hw8⟩ : ∃ x, ws.setRow w.heap.size (mv Mk.zero) = x := ⟨_, rfl⟩
        have hm8 : Box w8 w.heap.size 29 (mv Mk.zero) := by rw [← hw8]; exact setRow_heap _ _ _ _ _ _ hmz
        have hb8 : Below w.heap.size w w8 := hbb.trans (by rw [← hw8]; exact (Below.refl _ ws).grown (grown_row (grown_refl _ (some w.heap.size)) _) hbb.size (fun k e => by injection e with e; omega))
        have e0 : w8.cell? ⟨w.heap.size, 0, none⟩ = some (.int .u8 0) := (Box.cell hm8 0).trans rfl
        have e1 : w8.cell? ⟨w.heap.size, 1, none⟩ = some (.int .u64 0) := (Box.cell hm8 1).trans rfl
        have e2 : w8.cell? ⟨w.heap.size, 2, none⟩ = some (.int .u64 0) := (Box.cell hm8 2).trans rfl
        have HW8 := Lib.hid hw8
        have HMZ := Lib.hid hmz
        have HB8 := Lib.hid hb8
        clear hm8 hw8 hmz hb8 hbb hbs
        go_wp2_with (refine wpList_store_row rfl 29 _ _ rfl w.heap.size (mv Mk.zero) rfl rfl 29 _ HMZ.out (by rw [mv_size]; exact refInfo) rfl (mv_one _) ?_; rw [HW8.out])
        exact bodyPost_ret (v := .tuple #[.agg (mv Mk.zero), .string ⟨#[]⟩, .bool false]) (by simp [results, Try.results8, go_sem, e0, e1, e2, mv, Mk.zero]) rfl ⟨fun _ => rfl, fun m b h => (by rw [HO.out] at h; cases h), HB8.out⟩
theorem ropen_says (w : World) (l : List UInt8) : Calls Try.prog 8 #[.string ⟨l.toArray⟩] w (ROpened w l) := by
  by_cases hl : l.length = 256
  · by_cases h : (l.getD 0 0) = 0 ∨ (l.getD 0 0) = 3 ∨ (l.getD 17 0) ≠ 0 ∨ 220 < (l.getD 18 0).toNat
    · refine (ropen_no w l (.inr ⟨hl, h⟩)).mono ?_
      rintro e w' ⟨rfl, hb⟩
      have hno : ropens l = none := by
        rw [ropens, if_pos hl]
        have hkd : (markAt l).kind = l.getD 0 0 := (getD_zero l).symm
        have hlb := long_bytes l hl
        rcases h with h | h | h | h
        · exact opens_bare (by rw [Mk.may, hkd, h]; rfl)
        · exact opens_bare (by rw [Mk.may, hkd, h]; rfl)
        · refine opens_long ?_
          have : (l.getD 17 0).toNat ≠ 0 := fun e => h (UInt8.toNat_inj.1 e)
          omega
        · exact opens_long (by omega)
      exact ⟨fun _ => rfl, fun m b h => (by rw [hno] at h; cases h), hb⟩
    · have h0 : ¬ l.getD 0 0 = 0 := fun e => h (.inl e)
      have h3 : ¬ l.getD 0 0 = 3 := fun e => h (.inr (.inl e))
      have h17 : l.getD 17 0 = 0 := Decidable.of_not_not fun e => h (.inr (.inr (.inl e)))
      have h18 : ¬ 220 < (l.getD 18 0).toNat := fun e => h (.inr (.inr (.inr e)))
      refine ropen_form w l hl ?_ ?_
      · rw [Mk.may, show (markAt l).kind = l.getD 0 0 from (getD_zero l).symm]
        simp only [Bool.and_eq_true, bne_iff_ne]
        exact ⟨h0, h3⟩
      · rw [long_bytes l hl, h17]
        show 0 * 256 + _ ≤ 220
        omega
  · refine (ropen_no w l (.inl hl)).mono ?_
    rintro e w' ⟨rfl, hb⟩
    have hno : ropens l = none := by rw [ropens, if_neg hl]
    exact ⟨fun _ => rfl, fun m b h => (by rw [hno] at h; cases h), hb⟩
end Go.Proofs.Ythpfdenpgegheaa
