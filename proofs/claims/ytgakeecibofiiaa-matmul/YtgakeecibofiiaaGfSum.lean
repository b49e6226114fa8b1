/-
  Sum of package gf, given what Add tells.
-/
import Derived.Test.YtgakeecibofiiaaGfMake
import Derived.Laws.CopyOwn
namespace Go.Proofs.Ytgakeecibofiiaa
open Go.RowKit

/-- 'copy(dst, src)' of bytes into a block of the call's own that has room for all. -/
theorem wpList_copy_bytes {w : World} {ops : Array Oper} {rest : List Oper} {o : Oper} {a : Act} {Q : Exit → Act → World → Prop} (hgd : o.guard = none) (d s : Operand)
    (ho : o.op = .call { callee := .builtin .copy, args := #[d, s], argTypes := #[31, 31] })
    (g t t' n c : Nat) (A : Option Addr) (hd : a.eval d = .slice (some ⟨g, 0, none⟩) t t') (hs : a.eval s = .slice A n c)
    (l : List UInt8) (hg : Box w g 5 (bc l).toArray) (N : Nat → Prop) (xs : List UInt8) (hx : Lies w N A n c (bc xs)) (hfit : n ≤ t) (hlt : l.length = t)
    (h : ∀ w', Box w' g 5 (bc (xs ++ l.drop n)).toArray → w.grownBy w' (some g) → wpList Try.prog ops Q rest (a.put o.dst (goInt n)) w') : wpList Try.prog ops Q (o :: rest) a w := by
  refine wpList_plain hgd fun K hK => ?_
  have hxl : xs.length = n := by rw [← bc_length]; exact hx.1
  have hrun : (Builtin.copy_ #[31, 31] o.type #[.slice (some ⟨g, 0, none⟩) t t', .slice A n c]).run Try.prog w = .ok (goInt n) (w.setRow g (bc (xs ++ l.drop n)).toArray) := by
    have hst := run_storeCells_at Try.prog g 0 5 (bc xs) 0 (bc l).toArray w hg (by rw [bc_length, hxl]; simp [bc_length, hlt]; omega) (bc_one xs)
    have hdr : (bc l).drop n = bc (l.drop n) := by simp [bc, List.map_drop]
    simp only [Nat.add_zero, bc_length, hxl, List.take_zero, List.nil_append, Nat.zero_add, hdr, ← bc_append] at hst
    have hld : (Builtin.firstCells 1 n (.slice A n c)).run Try.prog w = .ok (bc xs).toArray w := by
      rcases Nat.eq_zero_or_pos n with h0 | h0
      · subst h0
        obtain rfl : xs = [] := List.eq_nil_of_length_eq_zero hxl
        cases A <;> simp [Builtin.firstCells, loadCells, loadCellsFrom, bc]
      · obtain ⟨ad, rfl, _, _, hr⟩ := hx.2.2 h0
        have := run_loadCells_list (P := Try.prog) w ad (bc xs) (fun j v hv => hr j v hv)
        rw [bc_length, hxl] at this
        simp [Builtin.firstCells, this]
    have hmin : n.min t = n := Nat.min_eq_left hfit
    simp [Builtin.copy_, run_underlying Try.underlying31, Builtin.lenOf, Try.sizeOf5, hmin, hld, hst]
  unfold Oper.wp
  simp [execOp, ho, resolve, invoke, builtin, hd, hs, hrun, Result.andThen]
  refine hK _ _ (h _ ?_ ?_)
  · exact setRow_heap w g _ _ 5 _ hg
  · exact grown_row (grown_refl w _) _

def sumAt (a b : List UInt8) (k i : Nat) : UInt8 := a.getD i 0 ^^^ (if i < k then b.getD i 0 else 0)
theorem sum_step (a b : List UInt8) (t k : Nat) (v : UInt8) (hv : b[k]? = some v) : (byRule t (sumAt a b k)).set k (sumAt a b k k ^^^ v) = byRule t (sumAt a b (k + 1)) := by
  have e : sumAt a b k k ^^^ v = sumAt a b (k + 1) k := by simp [sumAt, List.getD_eq_getElem?_getD, hv]
  rw [e]
  refine byRule_set t _ _ k (fun i hi => ?_)
  unfold sumAt
  by_cases h : i < k
  · rw [if_pos h, if_pos (by omega)]
  · rw [if_neg h, if_neg (by omega)]
theorem sum_zero (a b : List UInt8) (t n : Nat) (hn : a.length = n) (ht : n ≤ t) : a ++ (List.replicate t (0 : UInt8)).drop n = byRule t (sumAt a b 0) := by
  apply List.ext_getElem
  · simp [byRule_length]; omega
  · intro i h1 h2
    have h3 : i < t := by rw [byRule_length] at h2; exact h2
    by_cases h : i < a.length
    · rw [List.getElem_append_left h]
      simp [byRule, sumAt, h, List.getD_eq_getElem?_getD]
    · rw [List.getElem_append_right (by omega)]
      simp [byRule, sumAt, List.getD_eq_getElem?_getD, List.getElem?_eq_none (show a.length ≤ i by omega)]
theorem sum_all (a b : List UInt8) (t : Nat) (ht : t = max a.length b.length) : byRule t (sumAt a b b.length) = Gf.padd a b := by
  apply List.ext_getElem
  · rw [byRule_length, Gf.padd_length, ht]
  · intro i h1 h2
    have h3 : i < t := by rw [byRule_length] at h1; exact h1
    have e := Gf.padd_get a b i
    rw [List.getD_eq_getElem?_getD, List.getElem?_eq_getElem h2] at e
    rw [show (Gf.padd a b)[i] = a.getD i 0 ^^^ b.getD i 0 from e]
    by_cases h : i < b.length
    · simp [byRule, sumAt, h]
    · simp [byRule, sumAt, h, List.getD_eq_getElem?_getD]

set_option maxRecDepth 100000 in
set_option maxHeartbeats 2000000 in
theorem sum_of (C : GfB) (P : Option Addr) (A : Option Addr) (n c : Nat) (a : List UInt8) (B : Option Addr) (m d : Nat) (b : List UInt8) (w : World) (hp : Lies w (fun _ => True) A n c (bc a)) (hq : Lies w (fun _ => True) B m d (bc b)) (hn : n ≤ 2000) (hm : m ≤ 2000) : Calls Try.prog 35 #[.pointer P, .slice A n c, .slice B m d] w (GivesN w (Gf.padd a b)) := by
  have HP := Lib.hid hp
  have HQ := Lib.hid hq
  have hl : a.length = n := by rw [← bc_length]; exact hp.len
  have hl2 : b.length = m := by rw [← bc_length]; exact hq.len
  clear hp hq
  obtain ⟨i0, hi0, hz0, hz1, hz2⟩ := info_parts Try.byteInfo
  rcases Nat.lt_or_ge n m with hd | hd
  · have hdi : (n : Int) < (m : Int) := by omega
    go_enter Try.func35, Try.ntmps35
    go_upto_region 2 with (at_make; refine wpList_make_full _ rfl _ _ 31 rfl w.heap.size 5 i0 _ 1 Try.underlying31 hi0 hz0 hz1 _ _ _ _ m rfl rfl rfl rfl (by rw [hz2]; omega) (by unfold maxLen; omega) (Nat.le_refl _) ?_; intro w1 hown1 hg1)
    rw [zero_made] at hown1
    have HB1 := Lib.hid (And.intro (box_own hown1) ((Below.refl w.heap.size w).grown hg1 (Nat.le_refl _) (fun k hk => by cases hk)))
    clear hown1 hg1
    go_upto_region 3 with (refine wpList_copy_bytes rfl _ _ rfl w.heap.size m m n c A rfl rfl (List.replicate m 0) HB1.out.1 (fun _ => True) a (HP.out.below HB1.out.2) (by omega) (by simp) ?_; intro w2 hbx2 hg2)
    rw [sum_zero a b m n hl (by omega)] at hbx2
    have HB2 := Lib.hid (And.intro hbx2 (HB1.out.2.trans ((Below.refl _ w1).grown hg2 HB1.out.2.size (fun k hk => by cases hk; exact Nat.le_refl _))))
    clear hbx2 hg2
    go_wp2_with fail
    go_loopw [8, 9, 21] (fun _ _ i wr => ∃ (k : Nat), k ≤ m ∧ i = .int .i64 (k : Int) ∧ Hid (Box wr w.heap.size 5 (bc (byRule m (sumAt a b k))).toArray ∧ Below w.heap.size w wr)) (fun _ _ i _ => m - (intOf i).toNat)
    case atStart => exact ⟨0, by omega, rfl, HB2⟩
    case round =>
      obtain ⟨k, hk, rfl, H⟩ := hrel
      by_cases hlt : k < m
      · have l1 : (k : Int) < (m : Int) := by omega
        have l2 : (k : Int) < (m : Int) := by omega
        obtain ⟨v, hv⟩ : ∃ u, b[k]? = some u := ⟨_, List.getElem?_eq_getElem (by omega)⟩
        obtain ⟨g, off, hA, _, hb, hc0⟩ := HQ.out.at (j := k) (u := .int .u8 (v.toNat : Int)) (by simp [bc, hv])
        subst hA
        have hc : wr.cell? ⟨g, off + k, none⟩ = some (.int .u8 (v.toNat : Int)) := (H.out.2.cell (p := ⟨g, off + k, none⟩) hb).trans hc0
        obtain ⟨u, hu⟩ : ∃ u, sumAt a b k k = u := ⟨_, rfl⟩
        have hat := byRule_at m (sumAt a b k) k (by omega)
        have HST := Lib.hid (sum_step a b m k v hv)
        rw [hu] at hat HST
        have hcu := box_at H.out.1 hat
        have HAT := Lib.hid hat
        have HM := Lib.hid (C.add P u v wr)
        obtain ⟨z, hz⟩ : ∃ z, u ^^^ v = z := ⟨_, rfl⟩
        rw [hz] at HST HM
        clear hc0 hb hu hz hv hat
        go_wp2_with (go_at_call 47; refine HM.out.mono ?_; rintro e wn ⟨rfl, hbn⟩; have hbx := H.out.1.below hbn (Box.lt H.out.1); have hc2 := box_at hbx HAT.out; have hf2 := Box.frozen hbx k; have HBX := Lib.hid hbx; have HBN := Lib.hid hbn; clear hbx hbn)
        go_roundw
        case rel => exact ⟨k + 1, by omega, by go_num, Lib.hid ⟨by rw [← HST.out]; exact box_set HBX.out k z, (H.out.2.trans (HBN.out.mono H.out.2.size)).setCell (p := ⟨w.heap.size, k, none⟩) (Nat.le_refl _) _⟩⟩
        case measure => simp [intOf]; omega
      · obtain rfl : k = m := by omega
        have l1 : ¬ (k : Int) < (k : Int) := by omega
        go_wp2
        go_ret
        refine ⟨_, _, _, rfl, ?_, H.out.2⟩
        rw [← sum_all a b k (by omega), hl2]
        exact lies_box H.out.1 (Nat.le_refl _) (byRule_length _ _)
  · have hdn : ¬ n < m := by omega
    have hdi : ¬ (n : Int) < (m : Int) := by omega
    go_enter Try.func35, Try.ntmps35
    go_upto_region 2 with (at_make; refine wpList_make_full _ rfl _ _ 31 rfl w.heap.size 5 i0 _ 1 Try.underlying31 hi0 hz0 hz1 _ _ _ _ n rfl rfl rfl rfl (by rw [hz2]; omega) (by unfold maxLen; omega) (Nat.le_refl _) ?_; intro w1 hown1 hg1)
    rw [zero_made] at hown1
    have HB1 := Lib.hid (And.intro (box_own hown1) ((Below.refl w.heap.size w).grown hg1 (Nat.le_refl _) (fun k hk => by cases hk)))
    clear hown1 hg1
    go_upto_region 3 with (refine wpList_copy_bytes rfl _ _ rfl w.heap.size n n n c A rfl rfl (List.replicate n 0) HB1.out.1 (fun _ => True) a (HP.out.below HB1.out.2) (by omega) (by simp) ?_; intro w2 hbx2 hg2)
    rw [sum_zero a b n n hl (by omega)] at hbx2
    have HB2 := Lib.hid (And.intro hbx2 (HB1.out.2.trans ((Below.refl _ w1).grown hg2 HB1.out.2.size (fun k hk => by cases hk; exact Nat.le_refl _))))
    clear hbx2 hg2
    go_wp2_with fail
    go_loopw [8, 9, 21] (fun _ _ i wr => ∃ (k : Nat), k ≤ m ∧ i = .int .i64 (k : Int) ∧ Hid (Box wr w.heap.size 5 (bc (byRule n (sumAt a b k))).toArray ∧ Below w.heap.size w wr)) (fun _ _ i _ => m - (intOf i).toNat)
    case atStart => exact ⟨0, by omega, rfl, HB2⟩
    case round =>
      obtain ⟨k, hk, rfl, H⟩ := hrel
      by_cases hlt : k < m
      · have l1 : (k : Int) < (m : Int) := by omega
        have l2 : (k : Int) < (n : Int) := by omega
        obtain ⟨v, hv⟩ : ∃ u, b[k]? = some u := ⟨_, List.getElem?_eq_getElem (by omega)⟩
        obtain ⟨g, off, hA, _, hb, hc0⟩ := HQ.out.at (j := k) (u := .int .u8 (v.toNat : Int)) (by simp [bc, hv])
        subst hA
        have hc : wr.cell? ⟨g, off + k, none⟩ = some (.int .u8 (v.toNat : Int)) := (H.out.2.cell (p := ⟨g, off + k, none⟩) hb).trans hc0
        obtain ⟨u, hu⟩ : ∃ u, sumAt a b k k = u := ⟨_, rfl⟩
        have hat := byRule_at n (sumAt a b k) k (by omega)
        have HST := Lib.hid (sum_step a b n k v hv)
        rw [hu] at hat HST
        have hcu := box_at H.out.1 hat
        have HAT := Lib.hid hat
        have HM := Lib.hid (C.add P u v wr)
        obtain ⟨z, hz⟩ : ∃ z, u ^^^ v = z := ⟨_, rfl⟩
        rw [hz] at HST HM
        clear hc0 hb hu hz hv hat
        go_wp2_with (go_at_call 47; refine HM.out.mono ?_; rintro e wn ⟨rfl, hbn⟩; have hbx := H.out.1.below hbn (Box.lt H.out.1); have hc2 := box_at hbx HAT.out; have hf2 := Box.frozen hbx k; have HBX := Lib.hid hbx; have HBN := Lib.hid hbn; clear hbx hbn)
        go_roundw
        case rel => exact ⟨k + 1, by omega, by go_num, Lib.hid ⟨by rw [← HST.out]; exact box_set HBX.out k z, (H.out.2.trans (HBN.out.mono H.out.2.size)).setCell (p := ⟨w.heap.size, k, none⟩) (Nat.le_refl _) _⟩⟩
        case measure => simp [intOf]; omega
      · obtain rfl : k = m := by omega
        have l1 : ¬ (k : Int) < (k : Int) := by omega
        go_wp2
        go_ret
        refine ⟨_, _, _, rfl, ?_, H.out.2⟩
        rw [← sum_all a b n (by omega), hl2]
        exact lies_box H.out.1 (Nat.le_refl _) (byRule_length _ _)
end Go.Proofs.Ytgakeecibofiiaa
