/-
  MatCauchy walked.
-/
import Derived.Test.YtgakeecibofiiaaLawOne
import Derived.Test.YtgakeecibofiiaaCauchyL
import Derived.Deep.WholeRow
import Derived.OneCell
namespace Go.Proofs.Ytgakeecibofiiaa
open Go.RowKit Go.Shelf

/-- The low bits of a whole number. -/
theorem and_small (x : Int) (k m : Nat) (hk : k < 4611686018427387904) (hm : k < m) : ∃ a : Nat, a < m ∧ bits .and .i64 x (k : Int) = (a : Int) := by
  have h : bits .and .i64 x (k : Int) = IntKind.i64.wrap (((BitVec.ofInt 64 x &&& BitVec.ofInt 64 (k : Int)).toNat : Nat) : Int) := rfl
  have e := ofInt64 k hk
  have h2 : (BitVec.ofInt 64 x &&& BitVec.ofInt 64 (k : Int)).toNat ≤ k := by
    rw [BitVec.toNat_and, e]
    exact Nat.and_le_right
  refine ⟨_, Nat.lt_of_le_of_lt h2 hm, ?_⟩
  rw [h]
  exact IntWalk.i64_in _ (by omega)
/-- Which places are marked. -/
def hadCells (l : List Nat) : List Value := (List.range 16).map (fun i => .bool (decide (i ∈ l)))
theorem hadZero : (Try.prog.info? 50).map (fun i => (i.zero, i.size)) = some (some (.agg (hadCells []).toArray), 16) := by kernel_rfl
theorem had_size (l : List Nat) : (hadCells l).toArray.size = 16 := by simp [hadCells]
theorem had_at (l : List Nat) {a : Nat} (ha : a < 16) : (hadCells l).toArray[a]? = some (.bool (decide (a ∈ l))) := by simp [hadCells, ha]
theorem had_step (l : List Nat) (a : Nat) : (hadCells l).toArray.setIfInBounds a (.bool true) = (hadCells (l ++ [a])).toArray := by
  rw [List.setIfInBounds_toArray]
  congr 1
  apply List.ext_getElem?
  intro i
  by_cases hi : i < 16
  · by_cases h : a = i
    · subst h
      rw [List.getElem?_set_self (by simpa [hadCells] using hi)]
      simp [hadCells, hi]
    · rw [List.getElem?_set_ne h]
      have : i ≠ a := fun e => h e.symm
      simp [hadCells, hi, this]
  · rw [List.getElem?_eq_none (by simp [hadCells]; omega), List.getElem?_eq_none (by simp [hadCells]; omega)]
/-- Numbers of rows as whole numbers. -/
def intsN (l : List Nat) : List Int := l.map (fun (p : Nat) => (p : Int))
/-- A row of whole numbers of the call's own. -/
def OwnN (w : World) (base : Nat) (v : Value) (l : List Nat) : Prop := w.ownsRow base 3 1 v l.length (ics (intsN l))
theorem intInfo : (Try.prog.info? 3).map (fun i => (i.zero, i.size, i.bytes)) = some (some (.int .i64 0), 1, 8) := by kernel_rfl
theorem ownN_len {w : World} {base : Nat} {v : Value} {l : List Nat} (h : OwnN w base v l) : ∃ A c, v = .slice A l.length c ∧ Lies w (fun _ => True) A l.length c (ics (intsN l)) := by
  have hlt := World.ownsRow.lt h
  have hic : (ics (intsN l)).length = l.length := by simp [ics, intsN]
  rcases h.2 with ⟨hv, hn⟩ | ⟨g, cap, cur, hv, _, hh, hnc, _⟩
  · have hl : l = [] := List.eq_nil_of_length_eq_zero hn
    subst hl
    exact ⟨none, 0, hv, Lies.nil _ _⟩
  · subst hv
    exact ⟨_, cap, rfl, hic, hnc, fun _ => ⟨⟨g, 0, none⟩, rfl, trivial, (hlt g rfl).2, fun j u hu => World.ownsRow.cells h (g := g) rfl j u hu⟩⟩
/-- 'append(l, p)', at the operation. -/
theorem wpList_int {ops : Array Oper} {rest : List Oper} {o : Oper} {a : Act} {Q : Exit → Act → World → Prop} (w : World) (s x : Operand) (hgd : o.guard = none)
    (hop : o.op = .call { callee := .builtin .append, args := #[s, x], argTypes := #[48, 48] })
    (base : Nat) (v : Value) (l : List Nat) (p : Nat) (hs : a.eval s = v) (hx : a.eval x = .slice (some ⟨w.heap.size, 0, none⟩) 1 1) (hown : OwnN w base v l) (hz : l.length ≤ 1000) (hb : base ≤ w.heap.size)
    (K : ∀ v' w', OwnN w' base v' (l ++ [p]) → w.grownBy w' v.ownBlock → wpList Try.prog ops Q rest (a.put o.dst v') w') : wpList Try.prog ops Q (o :: rest) a (w.alloc (.cells #[.int .i64 (p : Int)] 3)) := by
  obtain ⟨i0, hi, hz0, hz1, hz2⟩ := info_parts intInfo
  have hb0 : Below w.heap.size w (w.alloc (.cells #[.int .i64 (p : Int)] 3)) := (Below.refl _ w).alloc (Nat.le_refl _) _
  have h1 : (w.alloc (.cells #[.int .i64 (p : Int)] 3)).ownsRow base 3 1 v l.length (ics (intsN l)) := World.ownsRow.kept hown (grown_of_below hb0 none) (by cases hv : v.ownBlock <;> simp)
  refine wpList_append_own _ hgd s x 48 hop base 3 i0 (.int .i64 0) 1 8 Try.underlying48 hi hz0 hz1 hz2 rfl (by decide) v l.length _ hs h1 ⟨w.heap.size, 0, none⟩ 1 1 [.int .i64 (p : Int)] hx rfl
    (cell_one_new w _ _) (by simp [Value.oneCell']) (by unfold maxLen; omega) (by omega) (by simp; omega) ?_
  intro v' w' r1 r2 _
  refine K v' w' ?_ ?_
  · unfold OwnN
    rw [List.length_append]
    have : ics (intsN (l ++ [p])) = ics (intsN l) ++ [.int .i64 (p : Int)] := by simp [ics, intsN]
    rw [this]
    exact r1
  · exact ⟨r2.os, r2.tape, r2.output, Nat.le_trans (by simp) r2.size, fun k hk hne => (r2.block k (by simp; omega) hne).trans (hb0.block k hk)⟩

/-- What has been picked, in the first loop. -/
structure PickAt (ws wr : World) (g N n : Nat) (v : Value) (l : List Nat) (marked : List Nat) : Prop where
  own : OwnN wr ws.heap.size v l
  box : Box wr g 50 (hadCells marked).toArray
  bel : Below ws.heap.size ws wr
  sep : v.ownBlock ≠ some g
  nd : l.Nodup
  lt : ∀ p ∈ l, p < N
  le : l.length ≤ n

set_option maxRecDepth 100000 in
set_option maxHeartbeats 6000000 in
theorem matCauchy_walk (x y : Int) (C : Option Addr) (K e : Nat) (ps : List Int) (w : World) (hC : Lies w (fun _ => True) C K e (ics ps)) : Calls Try.prog 6 #[.int .i64 x, .int .i64 y, .slice C K e] w fun e w' => e = .returned (.bool true) ∧ Below w.heap.size w w' := by
  have HB := Lib.hid (Below.refl w.heap.size w)
  have HL := Lib.hid hC
  have hlk : ps.length = K := by rw [← ics_length]; exact hC.len
  clear hC
  obtain ⟨a, ha, hxa⟩ := and_small x 7 8 (by omega) (by omega)
  obtain ⟨b, hb, hyb⟩ := and_small y 7 8 (by omega) (by omega)
  have hxa' : bits .and .i64 x 7 = (a : Int) := hxa
  have hyb' : bits .and .i64 y 7 = (b : Int) := hyb
  obtain ⟨n, hn⟩ : ∃ n, 1 + a = n := ⟨_, rfl⟩
  obtain ⟨r, hr⟩ : ∃ r, 1 + b = r := ⟨_, rfl⟩
  have s1 : (1 : Int) + (a : Int) = (n : Int) := by omega
  have s2 : (1 : Int) + (b : Int) = (r : Int) := by omega
  have s3 : IntKind.i64.wrap (n : Int) = (n : Int) := IntWalk.i64_in _ (by omega)
  have s4 : IntKind.i64.wrap (r : Int) = (r : Int) := IntWalk.i64_in _ (by omega)
  obtain ⟨N, hN⟩ : ∃ N, n + r = N := ⟨_, rfl⟩
  have s5 : (n : Int) + (r : Int) = (N : Int) := by omega
  have s6 : IntKind.i64.wrap (N : Int) = (N : Int) := IntWalk.i64_in _ (by omega)
  have hn1 : 1 ≤ n ∧ n ≤ 8 := by omega
  have hr1 : 1 ≤ r ∧ r ≤ 8 := by omega
  have hcok : cauOk r n := by unfold cauOk; omega
  have FJ := Lib.hid (show joinR (matBy n n oneF) (matBy r n (cauF n)) = (allL n r, 0) from by
    have g1 := lev_right (matBy_lev n n oneF) (by omega) (by omega)
    have g2 := lev_right (matBy_lev r n (cauF n)) (by omega) (by omega)
    rw [joinR, if_pos ⟨g1.1, g2.1, by rw [g1.2, g2.2], by rw [matBy_length, matBy_length]; omega⟩]
    rfl)
  have hz := (zero_of_info hadZero).1
  have hza := had_size []
  obtain ⟨zi, hzi⟩ : ∃ z, z = (hadCells []).toArray := ⟨_, rfl⟩
  rw [← hzi] at hz hza
  have HZ := Lib.hid hzi
  have HNR := Lib.hid (And.intro hn (And.intro hr hN))
  clear hzi hxa hyb hn hr
  go_enter Try.func6, Try.ntmps6
  go_wp2_with (first
    | (go_at_call 11; (with_reducible refine (new_says _).mono ?_); rintro e wn ⟨P, rfl, hbn⟩; replace HB := Lib.hid (HB.out.trans (hbn.mono HB.out.size)); (try replace HI := Lib.hid (HI.out.below hbn)); (try replace HC := Lib.hid (HC.out.below hbn)); (try replace HAL := Lib.hid (HAL.out.below hbn)); (try replace HL := Lib.hid (HL.out.below hbn)); (try replace HM := Lib.hid (HM.out.below hbn));  clear hbn)
    | (go_at_call 23; (with_reducible refine (one_yes n (by omega) _).mono ?_); rintro e wn ⟨A1, n1, c1, rfl, hm1, hbn⟩; replace HB := Lib.hid (HB.out.trans (hbn.mono HB.out.size)); (try replace HI := Lib.hid (HI.out.below hbn)); (try replace HC := Lib.hid (HC.out.below hbn)); (try replace HAL := Lib.hid (HAL.out.below hbn)); (try replace HL := Lib.hid (HL.out.below hbn)); (try replace HM := Lib.hid (HM.out.below hbn)); obtain rfl : n = n1 := (by rw [← hm1.len, matBy_length]); have HI := Lib.hid hm1; clear hm1; clear hbn)
    | (go_at_call 24; (with_reducible refine (cauchy_yes P r n hcok _).mono ?_); rintro e wn ⟨A2, n2, c2, rfl, hm2, hbn⟩; replace HB := Lib.hid (HB.out.trans (hbn.mono HB.out.size)); (try replace HI := Lib.hid (HI.out.below hbn)); (try replace HC := Lib.hid (HC.out.below hbn)); (try replace HAL := Lib.hid (HAL.out.below hbn)); (try replace HL := Lib.hid (HL.out.below hbn)); (try replace HM := Lib.hid (HM.out.below hbn)); obtain rfl : r = n2 := (by rw [← hm2.len, matBy_length]); have HC := Lib.hid hm2; clear hm2; clear hbn)
    | (go_at_call 28; (with_reducible refine (join_says _ A1 n c1 _ HI.out (by omega) A2 r c2 _ HC.out (by omega)).mono ?_); rintro e wn ⟨A3, n3, c3, rfl, hm3, hbn⟩; replace HB := Lib.hid (HB.out.trans (hbn.mono HB.out.size)); (try replace HI := Lib.hid (HI.out.below hbn)); (try replace HC := Lib.hid (HC.out.below hbn)); (try replace HAL := Lib.hid (HAL.out.below hbn)); (try replace HL := Lib.hid (HL.out.below hbn)); (try replace HM := Lib.hid (HM.out.below hbn)); rw [FJ.out] at hm3 ⊢; obtain rfl : N = n3 := (by rw [← hm3.len, (all_lev n r).1]; exact hN.symm); have HAL := Lib.hid hm3; clear hm3; clear hbn))
  obtain ⟨ws, hws⟩ : ∃ x, x = wn := ⟨_, rfl⟩
  subst hws
  have hg0 : ws.heap.size < (ws.alloc (.cells zi 50)).heap.size := by simp
  go_loopw [15, 16, 17] (fun v i _ wr => ∃ (k : Nat) (l : List Nat), k ≤ K ∧ k ≤ 100 ∧ i = .int .i64 (k : Int) ∧ (∃ A c, v = .slice A l.length c) ∧ Hid (PickAt ws wr ws.heap.size N n v l l)) (fun _ i _ _ => K - (intOf i).toNat)
  case atStart => exact ⟨0, [], by omega, by omega, rfl, ⟨none, 0, rfl⟩, Lib.hid ⟨World.ownsRow_nil _ _ _ _, by rw [HZ.out]; exact Box.made _ _ _, (Below.refl _ ws).alloc (Nat.le_refl _) _, by simp [Value.ownBlock], List.nodup_nil, fun p hp => by simp at hp, by simp⟩⟩
  case round =>
    obtain ⟨k, l, hk, hk2, rfl, ⟨Al, cl, rfl⟩, H⟩ := hrel
    have hll := H.out.le
    by_cases c1 : k < K ∧ k < 100 ∧ l.length < n
    · have l1 : (k : Int) < (K : Int) := by omega
      have l2 : (k : Int) < 100 := by omega
      have l3 : (l.length : Int) < (n : Int) := by omega
      obtain ⟨x1, hx1⟩ : ∃ x, ps[k]? = some x := ⟨_, List.getElem?_eq_getElem (by omega)⟩
      obtain ⟨bp, op, hCC, _, hbp, hcx⟩ := HL.out.at (ics_at hx1)
      subst hCC
      have hc1 : wr.cell? ⟨bp, op + k, none⟩ = some (.int .i64 x1) := (H.out.bel.cell (p := ⟨bp, op + k, none⟩) hbp).trans hcx
      obtain ⟨q, hq, hxq⟩ := and_small x1 63 64 (by omega) (by omega)
      have hxq' : bits .and .i64 x1 63 = (q : Int) := hxq
      obtain ⟨p, hp⟩ : ∃ p, q % N = p := ⟨_, rfl⟩
      have hpN : p < N := by rw [← hp]; exact Nat.mod_lt _ (by omega)
      have hmod : (q : Int).tmod (N : Int) = (p : Int) := by rw [Int.tmod_eq_emod_of_nonneg (by omega), ← hp]; omega
      have hN0 : ¬ (N : Int) = 0 := by omega
      have hp16 : p < 16 := by have := HNR.out.2.2; omega
      have hp16' : (p : Int) < 16 := by omega
      have hch : wr.cell? ⟨ws.heap.size, p, none⟩ = some (.bool (decide (p ∈ l))) := by rw [Box.cell H.out.box, had_at l hp16]
      have hfh := Box.frozen H.out.box p
      obtain ⟨ll, hlll⟩ : ∃ t, l.length = t := ⟨_, rfl⟩
      have HLL := Lib.hid hlll
      rw [hlll] at l3 ⊢
      clear hx1 hcx hxq hp hlll
      by_cases hin : p ∈ l
      · rw [decide_eq_true hin] at hch
        clear hfh
        go_wp2
        go_roundw
        case rel => exact ⟨k + 1, l, by omega, by omega, by go_num, ⟨Al, cl, by rw [HLL.out]⟩, by rw [← HLL.out]; exact H⟩
        case measure => simp [intOf]; omega
      · rw [decide_eq_false hin] at hch
        have HIN := Lib.hid hin
        clear hin
        have hsep := H.out.sep
        go_upto_region 16 with fail
        generalize hw5 : wr.setCell (⟨ws.heap.size, p, none⟩ : Addr) (.bool true) = w5
        have H5 := Lib.hid (show PickAt ws w5 ws.heap.size N n (.slice Al ll cl) l (l ++ [p]) from by
          subst hw5
          refine ⟨?_, ?_, H.out.bel.setCell (p := ⟨ws.heap.size, p, none⟩) (Nat.le_refl _) _, by rw [← HLL.out]; exact H.out.sep, H.out.nd, H.out.lt, H.out.le⟩
          · rw [← HLL.out]
            exact ownsRow_setCell_other H.out.own (a := ⟨ws.heap.size, p, none⟩) hsep _
          · rw [← had_step]
            exact Box.put H.out.box p (.bool true))
        clear hw5 hch hfh hsep
        go_wp2_with (at_builtin; refine wpList_int w5 _ _ rfl rfl ws.heap.size (Value.slice Al ll cl) l p rfl rfl H5.out.own (by omega) H5.out.bel.size ?_; intro v9 w9 ho9 hg9)
        obtain ⟨A9, c9, hv9, _⟩ := ownN_len ho9
        have HR := Lib.hid (show PickAt ws w9 ws.heap.size N n v9 (l ++ [p]) (l ++ [p]) from by
          have hlt9 := World.ownsRow.lt ho9
          refine ⟨ho9, Box.grown H5.out.box hg9 (fun e => H5.out.sep e.symm), H5.out.bel.trans ((Below.refl ws.heap.size w5).grown hg9 H5.out.bel.size (fun j hj => (World.ownsRow.lt H5.out.own j hj).1)), ?_, ?_, ?_, ?_⟩
          · intro e9
            rcases World.ownsRow.lt ho9 _ e9 with ⟨h1, h2⟩
            -- the block of the list is another one: it has another element type
            rcases ho9.2 with ⟨hv, _⟩ | ⟨g', cap, cur, hv, _, hh, _⟩
            · rw [hv] at e9; simp [Value.ownBlock] at e9
            · rw [hv] at e9
              have hgg : g' = ws.heap.size := by simpa [Value.ownBlock] using e9
              subst hgg
              have hbx := Box.grown H5.out.box hg9 (fun e => H5.out.sep e.symm)
              unfold Box at hbx
              rw [hh] at hbx
              injection hbx with hbx
              injection hbx with _ hbx
              exact absurd hbx (by decide)
          · rw [List.nodup_append]
            exact ⟨H5.out.nd, by simp, fun z hz y hy => by rw [List.mem_singleton.1 hy]; exact fun h => HIN.out (h ▸ hz)⟩
          · intro z hz
            rcases List.mem_append.1 hz with h | h
            · exact H5.out.lt z h
            · rw [List.mem_singleton.1 h]; exact hpN
          · have := HLL.out; simp; omega)
        clear ho9 hg9
        go_wp2
        go_roundw
        case rel => exact ⟨k + 1, l ++ [p], by omega, by omega, by go_num, ⟨A9, c9, hv9⟩, HR⟩
        case measure => simp [intOf]; omega
    · have c2 : (¬ k < K) ∨ (k < K ∧ ¬ k < 100) ∨ (k < K ∧ k < 100 ∧ ¬ l.length < n) := by omega
      have HLP := Lib.hid (HL.out)
      rcases c2 with d1 | ⟨d1, d2⟩ | ⟨d1, d2, d3⟩
      · have l1' : ¬ (k : Int) < (K : Int) := by omega
        have FPK := Lib.hid (And.intro H.out.nd H.out.lt)
        obtain ⟨l1, hl1⟩ : ∃ x, x = l := ⟨_, rfl⟩
        rw [← hl1] at H
        obtain ⟨ll, hlll⟩ : ∃ t, l1.length = t := ⟨_, rfl⟩
        rw [← hl1, hlll]
        rw [hlll] at H
        clear hll c1 hl1
        go_wp2_with fail
        go_loopw [15, 18] (fun v i wr => ∃ (p : Nat) (l : List Nat), p ≤ N ∧ i = .int .i64 (p : Int) ∧ (∃ A c, v = .slice A l.length c) ∧ Hid (PickAt ws wr ws.heap.size N n v l l1 ∧ (∀ q, q < p → q ∈ l) ∧ ∀ q, p ≤ q → (q ∈ l ↔ q ∈ l1))) (fun _ i _ => N - (intOf i).toNat)
        case atStart => exact ⟨0, l1, by omega, rfl, ⟨Al, cl, by rw [hlll]⟩, Lib.hid ⟨H.out, fun q hq => by omega, fun q _ => Iff.rfl⟩⟩
        case round =>
          obtain ⟨p, l, hp, rfl, ⟨Al, cl, rfl⟩, H⟩ := hrel
          clear hlll
          have hll := H.out.1.le
          have hpN : p < N := by
            rcases Nat.lt_or_ge p N with h | h
            · exact h
            · exfalso
              have h1 := nodup_le (List.range N) l List.nodup_range (fun q hq => H.out.2.1 q (by have := List.mem_range.1 hq; omega))
              rw [List.length_range] at h1
              omega
          have n1 : (p : Int) < (N : Int) := by omega
          have hp16 : p < 16 := by have := HNR.out.2.2; omega
          have hp16' : (p : Int) < 16 := by omega
          have hch : wr.cell? ⟨ws.heap.size, p, none⟩ = some (.bool (decide (p ∈ l1))) := by rw [Box.cell H.out.1.box, had_at l1 hp16]
          by_cases cc3 : l.length < n
          · have n2 : (l.length : Int) < (n : Int) := by omega
            obtain ⟨ll, hlll⟩ : ∃ t, l.length = t := ⟨_, rfl⟩
            have HLL := Lib.hid hlll
            rw [hlll] at n2 ⊢
            clear hlll
            by_cases hin : p ∈ l1
            · rw [decide_eq_true hin] at hch
              have HIN := Lib.hid hin
              clear hin
              go_wp2
              go_roundw
              case rel =>
                refine ⟨p + 1, l, by omega, by go_num, ⟨Al, cl, by rw [HLL.out]⟩, Lib.hid ⟨by rw [← HLL.out]; exact H.out.1, fun q hq => ?_, fun q hq => H.out.2.2 q (by omega)⟩⟩
                rcases Nat.lt_or_ge q p with h | h
                · exact H.out.2.1 q h
                · rw [show q = p by omega]; exact (H.out.2.2 p (Nat.le_refl _)).2 HIN.out
              case measure => simp [intOf]; omega
            · rw [decide_eq_false hin] at hch
              have HIN := Lib.hid hin
              have HO := Lib.hid (show OwnN wr ws.heap.size (.slice Al ll cl) l from by rw [← HLL.out]; exact H.out.1.own)
              clear hin
              go_wp2_with (at_builtin; refine wpList_int wr _ _ rfl rfl ws.heap.size (Value.slice Al ll cl) l p rfl rfl HO.out (by have := HLL.out; omega) H.out.1.bel.size ?_; intro v9 w9 ho9 hg9)
              obtain ⟨A9, c9, hv9, _⟩ := ownN_len ho9
              have hsep : (Value.slice Al ll cl).ownBlock ≠ some ws.heap.size := by rw [← HLL.out]; exact H.out.1.sep
              have HR := Lib.hid (show PickAt ws w9 ws.heap.size N n v9 (l ++ [p]) l1 from by
                refine ⟨ho9, Box.grown H.out.1.box hg9 (fun e => hsep e.symm), H.out.1.bel.trans ((Below.refl ws.heap.size wr).grown hg9 H.out.1.bel.size (fun j hj => (World.ownsRow.lt HO.out j hj).1)), ?_, ?_, ?_, ?_⟩
                · intro e9
                  rcases ho9.2 with ⟨hv, _⟩ | ⟨g', cap, cur, hv, _, hh, _⟩
                  · rw [hv] at e9; simp [Value.ownBlock] at e9
                  · rw [hv] at e9
                    have hgg : g' = ws.heap.size := by simpa [Value.ownBlock] using e9
                    subst hgg
                    have hbx := Box.grown H.out.1.box hg9 (fun e => hsep e.symm)
                    unfold Box at hbx
                    rw [hh] at hbx
                    injection hbx with hbx
                    injection hbx with _ hbx
                    exact absurd hbx (by decide)
                · rw [List.nodup_append]
                  exact ⟨H.out.1.nd, by simp, fun z hz y hy => by rw [List.mem_singleton.1 hy]; exact fun h => HIN.out ((H.out.2.2 p (Nat.le_refl _)).1 (h ▸ hz))⟩
                · intro z hz
                  rcases List.mem_append.1 hz with h | h
                  · exact H.out.1.lt z h
                  · rw [List.mem_singleton.1 h]; exact hpN
                · have := HLL.out; simp; omega)
              have HQ := Lib.hid H.out.2
              clear ho9 hg9 hch
              go_wp2
              go_roundw
              case rel =>
                refine ⟨p + 1, l ++ [p], by omega, by go_num, ⟨A9, c9, hv9⟩, Lib.hid ⟨HR.out, fun q hq => ?_, fun q hq => ?_⟩⟩
                · rcases Nat.lt_or_ge q p with h | h
                  · exact List.mem_append_left _ (HQ.out.1 q h)
                  · rw [show q = p by omega]; exact List.mem_append_right _ (List.mem_singleton.2 rfl)
                · rw [List.mem_append, HQ.out.2 q (by omega)]
                  constructor
                  · rintro (h | h)
                    · exact h
                    · have := List.mem_singleton.1 h; omega
                  · exact fun h => .inl h
              case measure => simp [intOf]; omega
          · have hln : l.length = n := by omega
            obtain ⟨Am, cm, hvm, hlm⟩ := ownN_len H.out.1.own
            cases hvm
            rw [hln] at hlm ⊢
            have n2 : ¬ (n : Int) < (n : Int) := by omega
            have FPF := Lib.hid (pick_full H.out.1.nd hln (rows := r) (fun p hp => by have := H.out.1.lt p hp; have := HNR.out.2.2; omega) hn1 hr1.2)
            have hpl : (pickN n r l).length = n := by simp [pickN, pickL]; exact hln
            have FR := Lib.hid (show rowsR (allL n r) (intsN l) = (pickN n r l, 0) from by
              have g1 := lev_right (all_lev n r) (by omega) (by omega)
              have g2 : okIdx (allL n r).length (intsN l) := fun i hi => by
                obtain ⟨q, hq, rfl⟩ := List.mem_map.1 hi
                have h5 := H.out.1.lt q hq
                have h6 := HNR.out.2.2
                rw [(all_lev n r).1]
                omega
              have g3 : (intsN l).length = n := by simp [intsN]; exact hln
              rw [rowsR, if_pos ⟨g1.1, by rw [g3]; omega, g2⟩]
              rfl)
            have FB := Lib.hid (show (backR (pickN n r l)).2 = 0 from by
              rw [backR, if_pos FPF.out.1, if_neg (by rw [hpl, FPF.out.2]; omega)])
            have FK := Lib.hid FPF.out.2
            have hbn := H.out.1.bel
            have HL2 := Lib.hid hlm
            replace HB := Lib.hid (HB.out.trans (hbn.mono HB.out.size))
            replace HAL := Lib.hid (HAL.out.below hbn)
            clear HI HC HL HLP H hbn hlm hch FPK
            go_wp2_with (first
              | (go_at_call 29; (with_reducible refine (rows_says _ A3 N c3 _ HAL.out (by omega) Al n cl _ HL2.out (by omega)).mono ?_); rintro e wn ⟨A5, n5, c5, rfl, hm5, hbn⟩; replace HB := Lib.hid (HB.out.trans (hbn.mono HB.out.size)); (try replace HI := Lib.hid (HI.out.below hbn)); (try replace HC := Lib.hid (HC.out.below hbn)); (try replace HAL := Lib.hid (HAL.out.below hbn)); (try replace HL := Lib.hid (HL.out.below hbn)); (try replace HM := Lib.hid (HM.out.below hbn)); rw [FR.out] at hm5 ⊢; obtain rfl : n = n5 := (by rw [← hm5.len]; exact hpl.symm); have HM := Lib.hid hm5; clear hm5; clear hbn)
              | (go_at_call 27; (with_reducible refine (back_says P _ A5 n c5 _ HM.out (by omega)).mono ?_); rintro e wn ⟨A6, n6, c6, rfl, hm6, hbn⟩; replace HB := Lib.hid (HB.out.trans (hbn.mono HB.out.size)); (try replace HI := Lib.hid (HI.out.below hbn)); (try replace HC := Lib.hid (HC.out.below hbn)); (try replace HAL := Lib.hid (HAL.out.below hbn)); (try replace HL := Lib.hid (HL.out.below hbn)); (try replace HM := Lib.hid (HM.out.below hbn)); rw [FB.out]; clear hm6; clear hbn)
              | (go_at_call 18; (with_reducible refine (rank_says P _ A5 n c5 _ HM.out (by omega)).mono ?_); rintro e wn ⟨rfl, hbn⟩; replace HB := Lib.hid (HB.out.trans (hbn.mono HB.out.size)); (try replace HI := Lib.hid (HI.out.below hbn)); (try replace HC := Lib.hid (HC.out.below hbn)); (try replace HAL := Lib.hid (HAL.out.below hbn)); (try replace HL := Lib.hid (HL.out.below hbn)); (try replace HM := Lib.hid (HM.out.below hbn)); rw [FK.out]; clear hbn)
              | (go_at_call 22; (with_reducible refine (lone_says _).mono ?_); rintro e wn ⟨rfl, hbn⟩; replace HB := Lib.hid (HB.out.trans (hbn.mono HB.out.size)); (try replace HI := Lib.hid (HI.out.below hbn)); (try replace HC := Lib.hid (HC.out.below hbn)); (try replace HAL := Lib.hid (HAL.out.below hbn)); (try replace HL := Lib.hid (HL.out.below hbn)); (try replace HM := Lib.hid (HM.out.below hbn));  clear hbn))
            go_ret
            exact ⟨rfl, HB.out⟩
      · have l1' : (k : Int) < (K : Int) := by omega
        have l2' : ¬ (k : Int) < 100 := by omega
        have FPK := Lib.hid (And.intro H.out.nd H.out.lt)
        obtain ⟨l1, hl1⟩ : ∃ x, x = l := ⟨_, rfl⟩
        rw [← hl1] at H
        obtain ⟨ll, hlll⟩ : ∃ t, l1.length = t := ⟨_, rfl⟩
        rw [← hl1, hlll]
        rw [hlll] at H
        clear hll c1 hl1
        go_wp2_with fail
        go_loopw [15, 18] (fun v i wr => ∃ (p : Nat) (l : List Nat), p ≤ N ∧ i = .int .i64 (p : Int) ∧ (∃ A c, v = .slice A l.length c) ∧ Hid (PickAt ws wr ws.heap.size N n v l l1 ∧ (∀ q, q < p → q ∈ l) ∧ ∀ q, p ≤ q → (q ∈ l ↔ q ∈ l1))) (fun _ i _ => N - (intOf i).toNat)
        case atStart => exact ⟨0, l1, by omega, rfl, ⟨Al, cl, by rw [hlll]⟩, Lib.hid ⟨H.out, fun q hq => by omega, fun q _ => Iff.rfl⟩⟩
        case round =>
          obtain ⟨p, l, hp, rfl, ⟨Al, cl, rfl⟩, H⟩ := hrel
          clear hlll
          have hll := H.out.1.le
          have hpN : p < N := by
            rcases Nat.lt_or_ge p N with h | h
            · exact h
            · exfalso
              have h1 := nodup_le (List.range N) l List.nodup_range (fun q hq => H.out.2.1 q (by have := List.mem_range.1 hq; omega))
              rw [List.length_range] at h1
              omega
          have n1 : (p : Int) < (N : Int) := by omega
          have hp16 : p < 16 := by have := HNR.out.2.2; omega
          have hp16' : (p : Int) < 16 := by omega
          have hch : wr.cell? ⟨ws.heap.size, p, none⟩ = some (.bool (decide (p ∈ l1))) := by rw [Box.cell H.out.1.box, had_at l1 hp16]
          by_cases cc3 : l.length < n
          · have n2 : (l.length : Int) < (n : Int) := by omega
            obtain ⟨ll, hlll⟩ : ∃ t, l.length = t := ⟨_, rfl⟩
            have HLL := Lib.hid hlll
            rw [hlll] at n2 ⊢
            clear hlll
            by_cases hin : p ∈ l1
            · rw [decide_eq_true hin] at hch
              have HIN := Lib.hid hin
              clear hin
              go_wp2
              go_roundw
              case rel =>
                refine ⟨p + 1, l, by omega, by go_num, ⟨Al, cl, by rw [HLL.out]⟩, Lib.hid ⟨by rw [← HLL.out]; exact H.out.1, fun q hq => ?_, fun q hq => H.out.2.2 q (by omega)⟩⟩
                rcases Nat.lt_or_ge q p with h | h
                · exact H.out.2.1 q h
                · rw [show q = p by omega]; exact (H.out.2.2 p (Nat.le_refl _)).2 HIN.out
              case measure => simp [intOf]; omega
            · rw [decide_eq_false hin] at hch
              have HIN := Lib.hid hin
              have HO := Lib.hid (show OwnN wr ws.heap.size (.slice Al ll cl) l from by rw [← HLL.out]; exact H.out.1.own)
              clear hin
              go_wp2_with (at_builtin; refine wpList_int wr _ _ rfl rfl ws.heap.size (Value.slice Al ll cl) l p rfl rfl HO.out (by have := HLL.out; omega) H.out.1.bel.size ?_; intro v9 w9 ho9 hg9)
              obtain ⟨A9, c9, hv9, _⟩ := ownN_len ho9
              have hsep : (Value.slice Al ll cl).ownBlock ≠ some ws.heap.size := by rw [← HLL.out]; exact H.out.1.sep
              have HR := Lib.hid (show PickAt ws w9 ws.heap.size N n v9 (l ++ [p]) l1 from by
                refine ⟨ho9, Box.grown H.out.1.box hg9 (fun e => hsep e.symm), H.out.1.bel.trans ((Below.refl ws.heap.size wr).grown hg9 H.out.1.bel.size (fun j hj => (World.ownsRow.lt HO.out j hj).1)), ?_, ?_, ?_, ?_⟩
                · intro e9
                  rcases ho9.2 with ⟨hv, _⟩ | ⟨g', cap, cur, hv, _, hh, _⟩
                  · rw [hv] at e9; simp [Value.ownBlock] at e9
                  · rw [hv] at e9
                    have hgg : g' = ws.heap.size := by simpa [Value.ownBlock] using e9
                    subst hgg
                    have hbx := Box.grown H.out.1.box hg9 (fun e => hsep e.symm)
                    unfold Box at hbx
                    rw [hh] at hbx
                    injection hbx with hbx
                    injection hbx with _ hbx
                    exact absurd hbx (by decide)
                · rw [List.nodup_append]
                  exact ⟨H.out.1.nd, by simp, fun z hz y hy => by rw [List.mem_singleton.1 hy]; exact fun h => HIN.out ((H.out.2.2 p (Nat.le_refl _)).1 (h ▸ hz))⟩
                · intro z hz
                  rcases List.mem_append.1 hz with h | h
                  · exact H.out.1.lt z h
                  · rw [List.mem_singleton.1 h]; exact hpN
                · have := HLL.out; simp; omega)
              have HQ := Lib.hid H.out.2
              clear ho9 hg9 hch
              go_wp2
              go_roundw
              case rel =>
                refine ⟨p + 1, l ++ [p], by omega, by go_num, ⟨A9, c9, hv9⟩, Lib.hid ⟨HR.out, fun q hq => ?_, fun q hq => ?_⟩⟩
                · rcases Nat.lt_or_ge q p with h | h
                  · exact List.mem_append_left _ (HQ.out.1 q h)
                  · rw [show q = p by omega]; exact List.mem_append_right _ (List.mem_singleton.2 rfl)
                · rw [List.mem_append, HQ.out.2 q (by omega)]
                  constructor
                  · rintro (h | h)
                    · exact h
                    · have := List.mem_singleton.1 h; omega
                  · exact fun h => .inl h
              case measure => simp [intOf]; omega
          · have hln : l.length = n := by omega
            obtain ⟨Am, cm, hvm, hlm⟩ := ownN_len H.out.1.own
            cases hvm
            rw [hln] at hlm ⊢
            have n2 : ¬ (n : Int) < (n : Int) := by omega
            have FPF := Lib.hid (pick_full H.out.1.nd hln (rows := r) (fun p hp => by have := H.out.1.lt p hp; have := HNR.out.2.2; omega) hn1 hr1.2)
            have hpl : (pickN n r l).length = n := by simp [pickN, pickL]; exact hln
            have FR := Lib.hid (show rowsR (allL n r) (intsN l) = (pickN n r l, 0) from by
              have g1 := lev_right (all_lev n r) (by omega) (by omega)
              have g2 : okIdx (allL n r).length (intsN l) := fun i hi => by
                obtain ⟨q, hq, rfl⟩ := List.mem_map.1 hi
                have h5 := H.out.1.lt q hq
                have h6 := HNR.out.2.2
                rw [(all_lev n r).1]
                omega
              have g3 : (intsN l).length = n := by simp [intsN]; exact hln
              rw [rowsR, if_pos ⟨g1.1, by rw [g3]; omega, g2⟩]
              rfl)
            have FB := Lib.hid (show (backR (pickN n r l)).2 = 0 from by
              rw [backR, if_pos FPF.out.1, if_neg (by rw [hpl, FPF.out.2]; omega)])
            have FK := Lib.hid FPF.out.2
            have hbn := H.out.1.bel
            have HL2 := Lib.hid hlm
            replace HB := Lib.hid (HB.out.trans (hbn.mono HB.out.size))
            replace HAL := Lib.hid (HAL.out.below hbn)
            clear HI HC HL HLP H hbn hlm hch FPK
            go_wp2_with (first
              | (go_at_call 29; (with_reducible refine (rows_says _ A3 N c3 _ HAL.out (by omega) Al n cl _ HL2.out (by omega)).mono ?_); rintro e wn ⟨A5, n5, c5, rfl, hm5, hbn⟩; replace HB := Lib.hid (HB.out.trans (hbn.mono HB.out.size)); (try replace HI := Lib.hid (HI.out.below hbn)); (try replace HC := Lib.hid (HC.out.below hbn)); (try replace HAL := Lib.hid (HAL.out.below hbn)); (try replace HL := Lib.hid (HL.out.below hbn)); (try replace HM := Lib.hid (HM.out.below hbn)); rw [FR.out] at hm5 ⊢; obtain rfl : n = n5 := (by rw [← hm5.len]; exact hpl.symm); have HM := Lib.hid hm5; clear hm5; clear hbn)
              | (go_at_call 27; (with_reducible refine (back_says P _ A5 n c5 _ HM.out (by omega)).mono ?_); rintro e wn ⟨A6, n6, c6, rfl, hm6, hbn⟩; replace HB := Lib.hid (HB.out.trans (hbn.mono HB.out.size)); (try replace HI := Lib.hid (HI.out.below hbn)); (try replace HC := Lib.hid (HC.out.below hbn)); (try replace HAL := Lib.hid (HAL.out.below hbn)); (try replace HL := Lib.hid (HL.out.below hbn)); (try replace HM := Lib.hid (HM.out.below hbn)); rw [FB.out]; clear hm6; clear hbn)
              | (go_at_call 18; (with_reducible refine (rank_says P _ A5 n c5 _ HM.out (by omega)).mono ?_); rintro e wn ⟨rfl, hbn⟩; replace HB := Lib.hid (HB.out.trans (hbn.mono HB.out.size)); (try replace HI := Lib.hid (HI.out.below hbn)); (try replace HC := Lib.hid (HC.out.below hbn)); (try replace HAL := Lib.hid (HAL.out.below hbn)); (try replace HL := Lib.hid (HL.out.below hbn)); (try replace HM := Lib.hid (HM.out.below hbn)); rw [FK.out]; clear hbn)
              | (go_at_call 22; (with_reducible refine (lone_says _).mono ?_); rintro e wn ⟨rfl, hbn⟩; replace HB := Lib.hid (HB.out.trans (hbn.mono HB.out.size)); (try replace HI := Lib.hid (HI.out.below hbn)); (try replace HC := Lib.hid (HC.out.below hbn)); (try replace HAL := Lib.hid (HAL.out.below hbn)); (try replace HL := Lib.hid (HL.out.below hbn)); (try replace HM := Lib.hid (HM.out.below hbn));  clear hbn))
            go_ret
            exact ⟨rfl, HB.out⟩
      · have l1' : (k : Int) < (K : Int) := by omega
        have l2' : (k : Int) < 100 := by omega
        have l3' : ¬ (l.length : Int) < (n : Int) := by omega
        have FPK := Lib.hid (And.intro H.out.nd H.out.lt)
        obtain ⟨l1, hl1⟩ : ∃ x, x = l := ⟨_, rfl⟩
        rw [← hl1] at H
        obtain ⟨ll, hlll⟩ : ∃ t, l1.length = t := ⟨_, rfl⟩
        rw [← hl1, hlll]
        rw [hlll] at H
        replace l3' : ¬ (ll : Int) < (n : Int) := by rw [← hlll, hl1]; exact l3'
        clear hll c1 hl1
        go_wp2_with fail
        go_loopw [15, 18] (fun v i wr => ∃ (p : Nat) (l : List Nat), p ≤ N ∧ i = .int .i64 (p : Int) ∧ (∃ A c, v = .slice A l.length c) ∧ Hid (PickAt ws wr ws.heap.size N n v l l1 ∧ (∀ q, q < p → q ∈ l) ∧ ∀ q, p ≤ q → (q ∈ l ↔ q ∈ l1))) (fun _ i _ => N - (intOf i).toNat)
        case atStart => exact ⟨0, l1, by omega, rfl, ⟨Al, cl, by rw [hlll]⟩, Lib.hid ⟨H.out, fun q hq => by omega, fun q _ => Iff.rfl⟩⟩
        case round =>
          obtain ⟨p, l, hp, rfl, ⟨Al, cl, rfl⟩, H⟩ := hrel
          clear hlll
          have hll := H.out.1.le
          have hpN : p < N := by
            rcases Nat.lt_or_ge p N with h | h
            · exact h
            · exfalso
              have h1 := nodup_le (List.range N) l List.nodup_range (fun q hq => H.out.2.1 q (by have := List.mem_range.1 hq; omega))
              rw [List.length_range] at h1
              omega
          have n1 : (p : Int) < (N : Int) := by omega
          have hp16 : p < 16 := by have := HNR.out.2.2; omega
          have hp16' : (p : Int) < 16 := by omega
          have hch : wr.cell? ⟨ws.heap.size, p, none⟩ = some (.bool (decide (p ∈ l1))) := by rw [Box.cell H.out.1.box, had_at l1 hp16]
          by_cases cc3 : l.length < n
          · have n2 : (l.length : Int) < (n : Int) := by omega
            obtain ⟨ll, hlll⟩ : ∃ t, l.length = t := ⟨_, rfl⟩
            have HLL := Lib.hid hlll
            rw [hlll] at n2 ⊢
            clear hlll
            by_cases hin : p ∈ l1
            · rw [decide_eq_true hin] at hch
              have HIN := Lib.hid hin
              clear hin
              go_wp2
              go_roundw
              case rel =>
                refine ⟨p + 1, l, by omega, by go_num, ⟨Al, cl, by rw [HLL.out]⟩, Lib.hid ⟨by rw [← HLL.out]; exact H.out.1, fun q hq => ?_, fun q hq => H.out.2.2 q (by omega)⟩⟩
                rcases Nat.lt_or_ge q p with h | h
                · exact H.out.2.1 q h
                · rw [show q = p by omega]; exact (H.out.2.2 p (Nat.le_refl _)).2 HIN.out
              case measure => simp [intOf]; omega
            · rw [decide_eq_false hin] at hch
              have HIN := Lib.hid hin
              have HO := Lib.hid (show OwnN wr ws.heap.size (.slice Al ll cl) l from by rw [← HLL.out]; exact H.out.1.own)
              clear hin
              go_wp2_with (at_builtin; refine wpList_int wr _ _ rfl rfl ws.heap.size (Value.slice Al ll cl) l p rfl rfl HO.out (by have := HLL.out; omega) H.out.1.bel.size ?_; intro v9 w9 ho9 hg9)
              obtain ⟨A9, c9, hv9, _⟩ := ownN_len ho9
              have hsep : (Value.slice Al ll cl).ownBlock ≠ some ws.heap.size := by rw [← HLL.out]; exact H.out.1.sep
              have HR := Lib.hid (show PickAt ws w9 ws.heap.size N n v9 (l ++ [p]) l1 from by
                refine ⟨ho9, Box.grown H.out.1.box hg9 (fun e => hsep e.symm), H.out.1.bel.trans ((Below.refl ws.heap.size wr).grown hg9 H.out.1.bel.size (fun j hj => (World.ownsRow.lt HO.out j hj).1)), ?_, ?_, ?_, ?_⟩
                · intro e9
                  rcases ho9.2 with ⟨hv, _⟩ | ⟨g', cap, cur, hv, _, hh, _⟩
                  · rw [hv] at e9; simp [Value.ownBlock] at e9
                  · rw [hv] at e9
                    have hgg : g' = ws.heap.size := by simpa [Value.ownBlock] using e9
                    subst hgg
                    have hbx := Box.grown H.out.1.box hg9 (fun e => hsep e.symm)
                    unfold Box at hbx
                    rw [hh] at hbx
                    injection hbx with hbx
                    injection hbx with _ hbx
                    exact absurd hbx (by decide)
                · rw [List.nodup_append]
                  exact ⟨H.out.1.nd, by simp, fun z hz y hy => by rw [List.mem_singleton.1 hy]; exact fun h => HIN.out ((H.out.2.2 p (Nat.le_refl _)).1 (h ▸ hz))⟩
                · intro z hz
                  rcases List.mem_append.1 hz with h | h
                  · exact H.out.1.lt z h
                  · rw [List.mem_singleton.1 h]; exact hpN
                · have := HLL.out; simp; omega)
              have HQ := Lib.hid H.out.2
              clear ho9 hg9 hch
              go_wp2
              go_roundw
              case rel =>
                refine ⟨p + 1, l ++ [p], by omega, by go_num, ⟨A9, c9, hv9⟩, Lib.hid ⟨HR.out, fun q hq => ?_, fun q hq => ?_⟩⟩
                · rcases Nat.lt_or_ge q p with h | h
                  · exact List.mem_append_left _ (HQ.out.1 q h)
                  · rw [show q = p by omega]; exact List.mem_append_right _ (List.mem_singleton.2 rfl)
                · rw [List.mem_append, HQ.out.2 q (by omega)]
                  constructor
                  · rintro (h | h)
                    · exact h
                    · have := List.mem_singleton.1 h; omega
                  · exact fun h => .inl h
              case measure => simp [intOf]; omega
          · have hln : l.length = n := by omega
            obtain ⟨Am, cm, hvm, hlm⟩ := ownN_len H.out.1.own
            cases hvm
            rw [hln] at hlm ⊢
            have n2 : ¬ (n : Int) < (n : Int) := by omega
            have FPF := Lib.hid (pick_full H.out.1.nd hln (rows := r) (fun p hp => by have := H.out.1.lt p hp; have := HNR.out.2.2; omega) hn1 hr1.2)
            have hpl : (pickN n r l).length = n := by simp [pickN, pickL]; exact hln
            have FR := Lib.hid (show rowsR (allL n r) (intsN l) = (pickN n r l, 0) from by
              have g1 := lev_right (all_lev n r) (by omega) (by omega)
              have g2 : okIdx (allL n r).length (intsN l) := fun i hi => by
                obtain ⟨q, hq, rfl⟩ := List.mem_map.1 hi
                have h5 := H.out.1.lt q hq
                have h6 := HNR.out.2.2
                rw [(all_lev n r).1]
                omega
              have g3 : (intsN l).length = n := by simp [intsN]; exact hln
              rw [rowsR, if_pos ⟨g1.1, by rw [g3]; omega, g2⟩]
              rfl)
            have FB := Lib.hid (show (backR (pickN n r l)).2 = 0 from by
              rw [backR, if_pos FPF.out.1, if_neg (by rw [hpl, FPF.out.2]; omega)])
            have FK := Lib.hid FPF.out.2
            have hbn := H.out.1.bel
            have HL2 := Lib.hid hlm
            replace HB := Lib.hid (HB.out.trans (hbn.mono HB.out.size))
            replace HAL := Lib.hid (HAL.out.below hbn)
            clear HI HC HL HLP H hbn hlm hch FPK
            go_wp2_with (first
              | (go_at_call 29; (with_reducible refine (rows_says _ A3 N c3 _ HAL.out (by omega) Al n cl _ HL2.out (by omega)).mono ?_); rintro e wn ⟨A5, n5, c5, rfl, hm5, hbn⟩; replace HB := Lib.hid (HB.out.trans (hbn.mono HB.out.size)); (try replace HI := Lib.hid (HI.out.below hbn)); (try replace HC := Lib.hid (HC.out.below hbn)); (try replace HAL := Lib.hid (HAL.out.below hbn)); (try replace HL := Lib.hid (HL.out.below hbn)); (try replace HM := Lib.hid (HM.out.below hbn)); rw [FR.out] at hm5 ⊢; obtain rfl : n = n5 := (by rw [← hm5.len]; exact hpl.symm); have HM := Lib.hid hm5; clear hm5; clear hbn)
              | (go_at_call 27; (with_reducible refine (back_says P _ A5 n c5 _ HM.out (by omega)).mono ?_); rintro e wn ⟨A6, n6, c6, rfl, hm6, hbn⟩; replace HB := Lib.hid (HB.out.trans (hbn.mono HB.out.size)); (try replace HI := Lib.hid (HI.out.below hbn)); (try replace HC := Lib.hid (HC.out.below hbn)); (try replace HAL := Lib.hid (HAL.out.below hbn)); (try replace HL := Lib.hid (HL.out.below hbn)); (try replace HM := Lib.hid (HM.out.below hbn)); rw [FB.out]; clear hm6; clear hbn)
              | (go_at_call 18; (with_reducible refine (rank_says P _ A5 n c5 _ HM.out (by omega)).mono ?_); rintro e wn ⟨rfl, hbn⟩; replace HB := Lib.hid (HB.out.trans (hbn.mono HB.out.size)); (try replace HI := Lib.hid (HI.out.below hbn)); (try replace HC := Lib.hid (HC.out.below hbn)); (try replace HAL := Lib.hid (HAL.out.below hbn)); (try replace HL := Lib.hid (HL.out.below hbn)); (try replace HM := Lib.hid (HM.out.below hbn)); rw [FK.out]; clear hbn)
              | (go_at_call 22; (with_reducible refine (lone_says _).mono ?_); rintro e wn ⟨rfl, hbn⟩; replace HB := Lib.hid (HB.out.trans (hbn.mono HB.out.size)); (try replace HI := Lib.hid (HI.out.below hbn)); (try replace HC := Lib.hid (HC.out.below hbn)); (try replace HAL := Lib.hid (HAL.out.below hbn)); (try replace HL := Lib.hid (HL.out.below hbn)); (try replace HM := Lib.hid (HM.out.below hbn));  clear hbn))
            go_ret
            exact ⟨rfl, HB.out⟩
end Go.Proofs.Ytgakeecibofiiaa
