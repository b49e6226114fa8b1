/-
  The reference's Open: what opens says.
-/
import Derived.Test.YthpfdenpgegheaaSlH
namespace Go.Proofs.Ythpfdenpgegheaa
open Go.RowKit

/-- What the reference's Open comes to: none of another length. -/
def ropens (l : List UInt8) : Option (Mk × List UInt8) := if l.length = 256 then opens l else none
theorem opens_only {l : List UInt8} {m : Mk} {b : List UInt8} (h : opens l = some (m, b)) : m = markAt l ∧ b = (l.drop 19).take (longOf l) := by
  rw [opens] at h
  split at h
  · injection h with h
    injection h with h1 h2
    exact ⟨h1.symm, h2.symm⟩
  · cases h
theorem opens_bare {l : List UInt8} (h : (markAt l).may = false) : opens l = none := by
  rw [opens, if_neg]
  rintro ⟨ht, _⟩
  rw [twin, h] at ht
  simp at ht
theorem opens_long {l : List UInt8} (h : 220 < longOf l) : opens l = none := by
  rw [opens, if_neg]
  rintro ⟨_, hl, _⟩
  omega
theorem opens_iff {l : List UInt8} (hl : l.length = 256) (hm : (markAt l).may = true) (hk : longOf l ≤ 220) : (sealed (markAt l) ((l.drop 19).take (longOf l)) = l ↔ opens l = some (markAt l, (l.drop 19).take (longOf l))) := by
  constructor
  · intro h
    have hb : ((l.drop 19).take (longOf l)).length ≤ 220 := by rw [List.length_take]; omega
    have h2 := opens_sealed (markAt l) _ hb hm
    rw [h] at h2
    exact h2
  · intro h
    exact (opens_some hl h).2.2.symm
theorem grown_undrew {w w' : World} {r : Option Nat} (h : w.drew.grownBy w' r) : w.grownBy w' r := ⟨h.os, h.tape, h.output, h.size, h.block⟩
theorem u64Info : (Try.prog.info? 23).map (·.size) = some 1 := by kernel_rfl
theorem step_store_one {ops : Array Oper} {Q : Exit → Act → World → Prop} {o : Oper} {a : Act} {w : World} {K : Act → World → Prop} {E : Prop} (T : TypeId) (x y : Operand) (hd : o.dst = none) (hgd : o.guard = none) (ho : o.op = .store T x y) (p i : Nat) (v u : Value)
    (hx : a.eval x = .pointer (some ⟨p, i, none⟩)) (hy : a.eval y = v) (hv : v.oneCell' = true) (hv' : v.cells = #[v]) (hc : w.cell? ⟨p, i, none⟩ = some u) (hf : w.frozen? ⟨p, i, none⟩ = false) (hT : (Try.prog.info? T).map (·.size) = some 1) (h : K a (w.setCell ⟨p, i, none⟩ v)) :
    if Region.wanted o (yielded ops a.tmps) = true then Oper.wp Try.prog o a w K Q else E := by
  have hw : Region.wanted o (yielded ops a.tmps) = true := by simp [Region.wanted, hgd]
  have hs := sizeOf_one hT
  rw [if_pos hw]
  unfold Oper.wp execOp
  have he : a.put o.dst undef = a := by rw [hd]; rfl
  simp [ho, hx, hy, Instr.storeAt, Instr.sureAddr, storeVar, hs, hv', storeCells, add_zero', run_store Try.prog w ⟨p, i, none⟩ v _ hv, hc, hf, Result.andThen, Oper.upon, he, h]
theorem index_st (l : List UInt8) (i : Nat) (h : i < l.length) (x : Int) (hx : x = (i : Int)) (w : World) : (Instr.index 9 (.string ⟨l.toArray⟩) (.int .i64 x)).run Try.prog w = .ok (.int .u8 ((l.getD i 0).toNat : Int)) w := by
  subst hx
  have hs : (⟨l.toArray⟩ : ByteArray)[i]? = some (l.getD i 0) := by
    have : (⟨l.toArray⟩ : ByteArray)[i]? = l.toArray[i]? := rfl
    rw [this, List.getElem?_toArray, List.getD, List.getElem?_eq_getElem h]
    rfl
  simp [Instr.index, asIntOf, run_underlying Try.underlying9, hs]
theorem sliceS_mid (f : List UInt8) (M N : Nat) (h : M ≤ N) (h2 : N ≤ f.length) (w : World) : (Instr.sliceAt 9 (.string ⟨f.toArray⟩) (some (.int .i64 (M : Int))) (some (.int .i64 (N : Int))) none).run Try.prog w = .ok (.string ⟨((f.drop M).take (N - M)).toArray⟩) w := by
  have hz : (⟨f.toArray⟩ : ByteArray).size = f.length := str_size f
  have he : (⟨f.toArray⟩ : ByteArray).extract M N = ⟨((f.drop M).take (N - M)).toArray⟩ := by
    rw [← string_eq (ByteArray.extract _ _ _), Lib.extract_data]
  rw [run_sliceAt_string w 9 _ _ _ _ Try.underlying9, run_slice_string w 9 _ .i64 .i64 (M : Int) (N : Int) Try.underlying9 (by omega) (by omega) (by rw [hz]; omega), Int.toNat_natCast, Int.toNat_natCast, he]
set_option linter.unusedVariables false
set_option linter.unusedSimpArgs false
set_option maxRecDepth 100000 in
set_option maxHeartbeats 8000000 in
/-- A text that is no sealed block by its length, its kind, or what it says of its length. -/
theorem ropen_no (w : World) (l : List UInt8) (h : l.length ≠ 256 ∨ (l.length = 256 ∧ ((l.getD 0 0) = 0 ∨ (l.getD 0 0) = 3 ∨ (l.getD 17 0) ≠ 0 ∨ 220 < (l.getD 18 0).toNat))) :
    Calls Try.prog 8 #[.string ⟨l.toArray⟩] w fun e w' => e = .returned (.tuple #[.agg (mv Mk.zero), .string ⟨#[]⟩, .bool false]) ∧ Below w.heap.size w w' := by
  obtain ⟨PL, hPL⟩ : ∃ y, (⟨l.toArray⟩ : ByteArray) = y := ⟨_, rfl⟩
  have hps : PL.size = l.length := by rw [← hPL, str_size]
  obtain ⟨w1, hw1⟩ : ∃ x, w.alloc (.cells #[.int .u8 0, .int .u64 0, .int .u64 0] 29) = x := ⟨_, rfl⟩
  have hbw1 : Below w.heap.size w w1 := by rw [← hw1]; exact (Below.refl _ w).alloc (Nat.le_refl _) _
  have hmw1 : Box w1 w.heap.size 29 (mv Mk.zero) := by rw [← hw1]; exact Box.made w _ _
  obtain ⟨w2, hw2⟩ : ∃ x, w1.setRow w.heap.size (mv Mk.zero) = x := ⟨_, rfl⟩
  have hmw2 : Box w2 w.heap.size 29 (mv Mk.zero) := by rw [← hw2]; exact setRow_heap _ _ _ _ _ _ hmw1
  have hbw2 : Below w.heap.size w w2 := hbw1.trans (by rw [← hw2]; exact (Below.refl _ w1).grown (grown_row (grown_refl _ (some w.heap.size)) _) hbw1.size (fun k e => by injection e with e; omega))
  have HMw1 := Lib.hid hmw1
  have HWw2 := Lib.hid hw2
  have e0 : w2.cell? ⟨w.heap.size, 0, none⟩ = some (.int .u8 0) := (Box.cell hmw2 0).trans rfl
  have e1 : w2.cell? ⟨w.heap.size, 1, none⟩ = some (.int .u64 0) := (Box.cell hmw2 1).trans rfl
  have e2 : w2.cell? ⟨w.heap.size, 2, none⟩ = some (.int .u64 0) := (Box.cell hmw2 2).trans rfl
  have HB2 := Lib.hid hbw2
  clear hmw1 hmw2 hbw1 hbw2 hw2
  rcases h with h | ⟨hl, h⟩
  · rw [hPL]
    have l1 : ((PL.size : Int) != 256) = true := by rw [bne_iff_ne]; omega
    clear hPL hps h
    go_enter Try.func8, Try.ntmps8
    go_wp2_with (first
      | (refine wpList_store_row rfl 29 _ _ rfl w.heap.size (mv Mk.zero) rfl rfl 29 _ HMw1.out (by rw [mv_size]; exact refInfo) rfl (mv_one _) ?_; rw [HWw2.out]))
    exact bodyPost_ret (v := .tuple #[.agg (mv Mk.zero), .string ⟨#[]⟩, .bool false]) (by simp [results, Try.results8, go_sem, e0, e1, e2, mv, Mk.zero]) rfl ⟨rfl, HB2.out⟩
  · have l1 : ((PL.size : Int) != 256) = false := by rw [hps, hl]; rfl
    have x0 := fun W => index_st l 0 (by omega) 0 rfl W
    have x17 := fun W => index_st l 17 (by omega) 17 rfl W
    have x18 := fun W => index_st l 18 (by omega) 18 rfl W
    rw [hPL] at x0 x17 x18 ⊢
    generalize l.getD 0 0 = k0 at *
    generalize l.getD 17 0 = k17 at *
    generalize l.getD 18 0 = k18 at *
    clear hPL hps hl
    by_cases d0 : k0 = 0
    · subst d0
      clear h
      have g0 : (((0 : UInt8).toNat : Int) == 0) = true := rfl
      go_enter Try.func8, Try.ntmps8
      go_wp2_with (first
        | (refine wpList_store_row rfl 29 _ _ rfl w.heap.size (mv Mk.zero) rfl rfl 29 _ HMw1.out (by rw [mv_size]; exact refInfo) rfl (mv_one _) ?_; rw [HWw2.out]))
      exact bodyPost_ret (v := .tuple #[.agg (mv Mk.zero), .string ⟨#[]⟩, .bool false]) (by simp [results, Try.results8, go_sem, e0, e1, e2, mv, Mk.zero]) rfl ⟨rfl, HB2.out⟩
    · have g0 : ((k0.toNat : Int) == 0) = false := by
        rw [beq_eq_false_iff_ne]
        intro e
        exact d0 (UInt8.toNat_inj.1 (by simpa using e))
      by_cases d3 : k0 = 3
      · subst d3
        clear h g0 d0
        have g0 : (((3 : UInt8).toNat : Int) == 0) = false := rfl
        have g3 : (((3 : UInt8).toNat : Int) == 3) = true := rfl
        go_enter Try.func8, Try.ntmps8
        go_wp2_with (first
          | (refine wpList_store_row rfl 29 _ _ rfl w.heap.size (mv Mk.zero) rfl rfl 29 _ HMw1.out (by rw [mv_size]; exact refInfo) rfl (mv_one _) ?_; rw [HWw2.out]))
        exact bodyPost_ret (v := .tuple #[.agg (mv Mk.zero), .string ⟨#[]⟩, .bool false]) (by simp [results, Try.results8, go_sem, e0, e1, e2, mv, Mk.zero]) rfl ⟨rfl, HB2.out⟩
      · have g3 : ((k0.toNat : Int) == 3) = false := by
          rw [beq_eq_false_iff_ne]
          intro e
          exact d3 (UInt8.toNat_inj.1 (show k0.toNat = 3 by omega))
        by_cases d17 : k17 = 0
        · have g17 : ((k17.toNat : Int) != 0) = false := by rw [d17]; rfl
          have g18 : 220 < (k18.toNat : Int) := by
            rcases h with h | h | h | h
            · exact absurd h d0
            · exact absurd h d3
            · exact absurd d17 h
            · omega
          clear h d0 d3 d17
          go_enter Try.func8, Try.ntmps8
          go_wp2_with (first
            | (refine wpList_store_row rfl 29 _ _ rfl w.heap.size (mv Mk.zero) rfl rfl 29 _ HMw1.out (by rw [mv_size]; exact refInfo) rfl (mv_one _) ?_; rw [HWw2.out]))
          exact bodyPost_ret (v := .tuple #[.agg (mv Mk.zero), .string ⟨#[]⟩, .bool false]) (by simp [results, Try.results8, go_sem, e0, e1, e2, mv, Mk.zero]) rfl ⟨rfl, HB2.out⟩
        · have g17 : ((k17.toNat : Int) != 0) = true := by
            rw [bne_iff_ne]
            intro e
            exact d17 (UInt8.toNat_inj.1 (by simpa using e))
          clear h d0 d3 d17
          go_enter Try.func8, Try.ntmps8
          go_wp2_with (first
            | (refine wpList_store_row rfl 29 _ _ rfl w.heap.size (mv Mk.zero) rfl rfl 29 _ HMw1.out (by rw [mv_size]; exact refInfo) rfl (mv_one _) ?_; rw [HWw2.out]))
          exact bodyPost_ret (v := .tuple #[.agg (mv Mk.zero), .string ⟨#[]⟩, .bool false]) (by simp [results, Try.results8, go_sem, e0, e1, e2, mv, Mk.zero]) rfl ⟨rfl, HB2.out⟩
end Go.Proofs.Ythpfdenpgegheaa
