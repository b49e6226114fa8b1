/-
  BitmapPlays, walked.
-/
import Derived.Test.YtnhondkdkjehaaaBackWalk
import Derived.Test.YtnhondkdkjehaaaOpenActsB
namespace Go.Proofs.Ytnhondkdkjehaaa
open Go.RowKit

set_option linter.unusedVariables false
set_option linter.unusedSimpArgs false
theorem Try.boolInfo : (Try.prog.info? 4).map (fun i => (i.zero, i.size, i.bytes)) = some (some (.bool false), 1, 1) := by kernel_rfl
/-- A row of bools of the call's own. -/
def OwnU (w : World) (base : Nat) (v : Value) (l : List Bool) : Prop := w.ownsRow base 4 1 v l.length (bo l)
section
variable {w w' : World} {base : Nat} {v : Value} {l : List Bool}
theorem OwnU.nil (w : World) (base : Nat) : OwnU w base (.slice none 0 0) [] := World.ownsRow_nil w base _ 1
theorem OwnU.below (h : OwnU w base v l) (hb : Below w.heap.size w w') : OwnU w' base v l :=
  World.ownsRow.kept h (grown_of_below hb none) (by cases hv : v.ownBlock <;> simp)
theorem OwnU.grown {g : Nat} (h : OwnU w base v l) (hb : w.grownBy w' (some g)) (hne : v.ownBlock ≠ some g) : OwnU w' base v l := World.ownsRow.kept h hb (.inr hne)
theorem OwnU.lies (h : OwnU w base v l) : ∃ A c, v = .slice A l.length c ∧ Lies w (fun _ => True) A l.length c (bo l) := by
  have hlt := World.ownsRow.lt h
  rcases h.2 with ⟨hv, hn⟩ | ⟨g, cap, cur, hv, _, _, hnc, _⟩
  · have hl : l = [] := List.eq_nil_of_length_eq_zero hn
    subst hl
    exact ⟨none, 0, hv, Lies.nil _ _⟩
  · subst hv
    exact ⟨_, cap, rfl, bo_length l, hnc, fun _ => ⟨⟨g, 0, none⟩, rfl, trivial, (hlt g rfl).2, fun j u hu => World.ownsRow.cells h (g := g) rfl j u hu⟩⟩
theorem OwnU.changed (h : OwnU w base v l) (hg : w.grownBy w' v.ownBlock) (hb : base ≤ w.heap.size) : Below base w w' :=
  (Below.refl base w).grown hg hb (fun k hk => (World.ownsRow.lt h k hk).1)
theorem OwnU.at (h : OwnU w base v l) {i : Nat} (hi : i < l.length) : ∃ g c, v = .slice (some ⟨g, 0, none⟩) l.length c ∧ base ≤ g ∧ g < w.heap.size ∧ w.cell? ⟨g, i, none⟩ = some (.bool (atB l i)) ∧ w.frozen? ⟨g, i, none⟩ = false ∧
    ∀ z, OwnU (w.setCell ⟨g, i, none⟩ (.bool z)) base v (l.set i z) := by
  have hlt := World.ownsRow.lt h
  obtain ⟨h1, h2 | ⟨g', cap, cur, h2, h3, h4, h5, h6, h7, h8⟩⟩ := h
  · omega
  · subst h2
    have hc := World.ownsRow.cells (w := w) (e := 4) (base := base) (size := 1) (v := .slice (some ⟨g', 0, none⟩) l.length cap) ⟨h1, .inr ⟨g', cap, cur, rfl, h3, h4, h5, h6, h7, h8⟩⟩ (g := g') rfl i (.bool (atB l i)) (by simp [bo, atB, List.getD, List.getElem?_eq_getElem hi])
    rw [Addr.add_mid, Nat.zero_add] at hc
    refine ⟨g', cap, rfl, h3, (hlt g' rfl).2, hc, Box.frozen (show Box w g' 4 cur from h4) i, fun z => ?_⟩
    refine ⟨by rw [bo_length, List.length_set, Nat.mul_one], .inr ⟨g', cap, cur.setIfInBounds i (.bool z), by rw [List.length_set], h3, Box.put (show Box w g' 4 cur from h4) i _, by rw [List.length_set]; exact h5, h6, by rw [Array.size_setIfInBounds]; exact h7, ?_⟩⟩
    rw [List.length_set, Nat.mul_one] at *
    rw [Array.toList_setIfInBounds, List.take_set, h8]
    unfold bo
    rw [List.map_set]
end
theorem own_apart {w : World} {base base' : Nat} {v x : Value} {u : List Bool} {l : List UInt8} (hu : OwnU w base v u) (hx : Own w base' x l) : x.ownBlock = none ∨ x.ownBlock ≠ v.ownBlock := by
  rcases hx.2 with ⟨rfl, _⟩ | ⟨g, cap, cur, rfl, _, hh, _⟩
  · exact .inl rfl
  · refine .inr fun e => ?_
    rcases hu.2 with ⟨rfl, _⟩ | ⟨g', cap', cur', rfl, _, hh', _⟩
    · cases e
    · have e' : some g = some g' := e
      injection e' with e'
      subst e'
      rw [hh] at hh'
      injection hh' with hh'
      injection hh' with _ ht
      exact absurd ht (by decide)
theorem atB_set (l : List Bool) (i j : Nat) (z : Bool) (hi : i < l.length) : atB (l.set i z) j = if j = i then z else atB l j := by
  simp only [atB, List.getD, List.getElem?_set]
  by_cases h : j = i
  · subst h
    simp [hi]
  · rw [if_neg h, if_neg (fun e => h e.symm)]
theorem atB_snoc (l : List Bool) (z : Bool) (j : Nat) : atB (l ++ [z]) j = if j = l.length then z else atB l j := by
  simp only [atB, List.getD, List.getElem?_append]
  by_cases h : j < l.length
  · rw [if_pos h, if_neg (by omega)]
  · rw [if_neg h]
    by_cases h2 : j = l.length
    · subst h2
      simp
    · rw [if_neg h2, List.getElem?_eq_none (by simp; omega), List.getElem?_eq_none (by omega)]
/-- Where the law stands: the bits, and which are meant to be in use. -/
structure PL (w0 w : World) (gs N : Nat) (x v : Value) (l : List UInt8) (u : List Bool) : Prop where
  s : RB w0 w w0.heap.size gs N x l
  own : OwnU w w0.heap.size v u
  len : u.length = N
  same : ∀ k, k < N → atB u k = hasB l k
  cut : Cut N l
theorem PL.below {w0 w w' : World} {gs N : Nat} {x v : Value} {l : List UInt8} {u : List Bool} (h : PL w0 w gs N x v l u) (hb : Below w.heap.size w w') : PL w0 w' gs N x v l u := ⟨h.s.below hb, h.own.below hb, h.len, h.same, h.cut⟩
theorem pl_stored {w0 w : World} {gs gt ga N : Nat} {x x2 x3 v : Value} {l l2 l3 : List UInt8} {u : List Bool} {t : TypeId} {ca : Array Value} (h : PL w0 w gs N x v l u) (ha : Box w ga t ca) (ht : RB w0 w w0.heap.size gt N x2 l2) (ho : Own w w0.heap.size x3 l3) (n1 : gs ≠ gt) (n2 : ga ≠ gt)
    (w' : World) (hw : w.setRow gt #[.int .i64 (N : Int), x3] = w') (hgt : w0.heap.size ≤ gt) : PL w0 w' gs N x v l u ∧ Box w' ga t ca ∧ RB w0 w' w0.heap.size gt N x3 l3 := by
  have hg : w.grownBy w' (some gt) := by rw [← hw]; exact grown_row (grown_refl _ _) _
  have hb := below_grown h.s.bel hg hgt h.s.bel.size
  refine ⟨⟨⟨h.s.bits.grown hg (fun e => n1 (by injection e)), h.s.own.grown hg (Box.apart ht.bits h.s.own (by decide)), hb⟩, h.own.grown hg (Box.apart ht.bits h.own (by decide)), h.len, h.same, h.cut⟩, ha.grown hg (fun e => n2 (by injection e)), ⟨?_, ho.grown hg (Box.apart ht.bits ho (by decide)), hb⟩⟩
  rw [← hw]
  exact setRow_heap _ _ _ _ _ _ ht.bits
theorem pl_moved {w0 w : World} {gs ga N : Nat} {x x3 v : Value} {l l3 : List UInt8} {u : List Bool} {t : TypeId} {ca : Array Value} (h : PL w0 w gs N x v l u) (ha : Box w ga t ca) (ho : Own w w0.heap.size x3 l3) (n1 : gs ≠ ga) (hgs : w0.heap.size ≤ gs)
    (w' : World) (hw : w.setRow gs #[.int .i64 (N : Int), x3] = w') : RB w0 w' w0.heap.size gs N x3 l3 ∧ OwnU w' w0.heap.size v u ∧ Box w' ga t ca := by
  have hg : w.grownBy w' (some gs) := by rw [← hw]; exact grown_row (grown_refl _ _) _
  have hb := below_grown h.s.bel hg hgs h.s.bel.size
  refine ⟨⟨?_, ho.grown hg (Box.apart h.s.bits ho (by decide)), hb⟩, h.own.grown hg (Box.apart h.s.bits h.own (by decide)), ha.grown hg (fun e => n1 (by injection e with e; exact e.symm))⟩
  rw [← hw]
  exact setRow_heap _ _ _ _ _ _ h.s.bits
theorem pl_put {w0 w : World} {gs ga N : Nat} {x v : Value} {l : List UInt8} {u : List Bool} {ca : Array Value} (hr : RB w0 w w0.heap.size gs N x l) (hu : OwnU w w0.heap.size v u) (ha : Box w ga 33 ca) {k : Nat} (hk : k < u.length) :
    ∃ g c, v = .slice (some ⟨g, 0, none⟩) u.length c ∧ w.cell? ⟨g, k, none⟩ = some (.bool (atB u k)) ∧ w.frozen? ⟨g, k, none⟩ = false ∧
      ∀ z, RB w0 (w.setCell ⟨g, k, none⟩ (.bool z)) w0.heap.size gs N x l ∧ OwnU (w.setCell ⟨g, k, none⟩ (.bool z)) w0.heap.size v (u.set k z) ∧ Box (w.setCell ⟨g, k, none⟩ (.bool z)) ga 33 ca := by
  obtain ⟨g, c, hv, hbg, hg, hc, hf, hp⟩ := hu.at hk
  refine ⟨g, c, hv, hc, hf, fun z => ?_⟩
  have hgr : w.grownBy (w.setCell ⟨g, k, none⟩ (.bool z)) (some g) := grown_set (grown_refl _ _) _ _
  have hvo : v.ownBlock = some g := by rw [hv]; rfl
  have n1 := Box.apart hr.bits hu (by decide)
  have n2 := Box.apart ha hu (by decide)
  rw [hvo] at n1 n2
  have n3 := own_apart hu hr.own
  rw [hvo] at n3
  exact ⟨⟨hr.bits.grown hgr (fun e => n1 e.symm), World.ownsRow.kept hr.own hgr n3, below_grown hr.bel hgr hbg hr.bel.size⟩, hp z, ha.grown hgr (fun e => n2 e.symm)⟩
theorem own_lies {w : World} {B : Nat} {A : Option Addr} {n c : Nat} {l : List UInt8} (h : Own w B (.slice A n c) l) : Lies w (fun _ => True) A n c (bc l) := by
  obtain ⟨A', c', he, hl⟩ := h.lies
  injection he with e1 e2 e3
  subst e1 e2 e3
  exact hl
theorem used_zeros (n : Nat) : usedL (List.replicate n 0) = 0 := by
  induction n with
  | zero => rfl
  | succ n ih =>
    rw [List.replicate_succ]
    have : usedL (0 :: List.replicate n 0) = pop 0 + usedL (List.replicate n 0) := by simp [usedL]
    rw [this, ih]
    decide +kernel
set_option maxRecDepth 100000 in
set_option maxHeartbeats 16000000 in
theorem bitmapPlays_walk (w : World) (a0 : Option Addr) (n0 c0 : Nat) (l0 : List UInt8) (hA : Lies w (fun _ => True) a0 n0 c0 (bc l0)) (blocks : Int) (hbk : -9223372036854775808 ≤ blocks ∧ blocks ≤ 9223372036854775807) (a2 : Option Addr) (n2 c2 : Nat) (acts : List Ab) (hB : ActsB w a2 n2 acts) : Calls Try.prog 3 #[.slice a0 n0 c0, .int .i64 blocks, .slice a2 n2 c2] w fun e w' => e = .returned (.bool true) ∧ Below w.heap.size w w' := by
  by_cases h100 : (600 : Int) < (n0 : Int)
  · clear hA hB
    go_enter Try.func3, Try.ntmps3
    go_wp2
    go_ret
    exact ⟨rfl, Below.refl _ _⟩
  · obtain ⟨N, hN⟩ : ∃ N, howMany blocks = N := ⟨_, rfl⟩
    have eN : max 0 (min blocks 4096) = (N : Int) := by have := howMany_eq blocks; omega
    have hN4 : N ≤ 4096 := by rw [← hN]; exact howMany_le blocks
    have HOF := Lib.hid (bof_says w a0 n0 c0 l0 hA blocks hbk)
    have HNEW := Lib.hid (fun W => new_says W blocks hbk)
    rw [hN] at HOF HNEW
    obtain ⟨ls, hls⟩ : ∃ l, ofL l0 N = l := ⟨_, rfl⟩
    have HCUT := Lib.hid (show Cut N ls from by rw [← hls]; exact cut_ofL l0 N)
    have HHAS := Lib.hid (show ∀ k, hasB ls k = (decide (k < N) && hasB l0 k) from fun k => by rw [← hls]; exact hasB_ofL l0 N k)
    rw [hls] at HOF
    have hlen : ls.length ≤ 600 := by rw [HCUT.out.1]; omega
    have HARG := Lib.hid (And.intro hA hB)
    clear hA hB hls hN
    go_enter Try.func3, Try.ntmps3
    go_wp2_with fail
    go_at_call 5
    refine HOF.out.mono ?_
    rintro e w1 ⟨xs, rfl, ho1, hb1⟩
    have H1 := Lib.hid (And.intro ho1 hb1)
    clear ho1 hb1 HOF
    obtain ⟨wa2, hwa2⟩ : ∃ y, w1.alloc (.cells #[.int .i64 0, .slice none 0 0] 25) = y := ⟨_, rfl⟩
    have hxa2 : Box wa2 w1.heap.size 25 #[.int .i64 0, .slice none 0 0] := by rw [← hwa2]; exact Box.made w1 _ _
    obtain ⟨w2, hw2⟩ : ∃ y, wa2.setRow w1.heap.size #[.int .i64 (N : Int), xs] = y := ⟨_, rfl⟩
    have HR2 := Lib.hid (rb_stored (n := N) H1.out.2 H1.out.1 w2 (by rw [hwa2]; exact hw2))
    have HO2 := Lib.hid (Own.one H1.out.1)
    have HX2 := Lib.hid (And.intro hxa2 hw2)
    clear hxa2 hw2
    have H2 := Lib.hid HR2.out.1
    obtain ⟨s0, s1⟩ := H2.out.cells
    clear HR2
    go_wp2_with (refine wpList_store_row rfl 25 _ _ rfl w1.heap.size #[.int .i64 (N : Int), xs] rfl rfl 25 _ HX2.out.1 bitsInfo rfl (two_one N HO2.out) ?_; rw [HX2.out.2])
    clear HX2
    go_at_call 6
    refine (blen_says w2 N xs).mono ?_
    rintro e w3 ⟨rfl, hb⟩
    have H3 := Lib.hid (H2.out.below hb)
    clear hb s0 s1 H2
    obtain ⟨s0, s1⟩ := H3.out.cells
    go_wp2_with fail
    go_at_call 7
    refine (HNEW.out w3).mono ?_
    rintro e w4 ⟨g4, rfl, ho4, hb⟩
    have H4 := Lib.hid (H3.out.below hb)
    clear hb s0 s1 H3 ho4
    obtain ⟨s0, s1⟩ := H4.out.cells
    go_wp2_with fail
    go_at_call 6
    refine (blen_says w4 N _).mono ?_
    rintro e w5 ⟨rfl, hb⟩
    have H5 := Lib.hid (H4.out.below hb)
    clear hb s0 s1 H4
    obtain ⟨s0, s1⟩ := H5.out.cells
    go_wp2_with fail
    go_at_call 7
    refine (HNEW.out w5).mono ?_
    rintro e w6 ⟨g6, rfl, ho6, hb⟩
    have H6 := Lib.hid (And.intro (H5.out.below hb) ho6)
    clear hb s0 s1 H5 ho6
    obtain ⟨s0, s1⟩ := H6.out.1.cells
    go_wp2_with fail
    go_at_call 8
    refine (bused_says w6 w5.heap.size N _ _ H6.out.2 (by simp; omega)).mono ?_
    rintro e w7 ⟨rfl, hb⟩
    rw [used_zeros]
    have H7 := Lib.hid (H6.out.1.below hb)
    clear hb s0 s1 H6
    obtain ⟨s0, s1⟩ := H7.out.cells
    by_cases hbig : (600 : Int) < (N : Int)
    · go_wp2_with fail
      go_at_call 6
      refine (blen_says w7 N xs).mono ?_
      rintro e w8 ⟨rfl, hb⟩
      have H8 := Lib.hid (H7.out.below hb)
      clear hb s0 s1 H7
      go_wp2_with fail
      go_at_call 7
      refine (HNEW.out w8).mono ?_
      rintro e w9 ⟨g9, rfl, ho9, hb⟩
      have H9 := Lib.hid (And.intro (H8.out.below hb) ho9)
      clear hb H8 ho9
      go_wp2_with fail
      go_at_call 8
      refine (bused_says w9 w8.heap.size N _ _ H9.out.2 (by simp; omega)).mono ?_
      rintro e w10 ⟨rfl, hb⟩
      rw [used_zeros]
      have H10 := Lib.hid (H9.out.1.below hb)
      clear hb H9
      go_wp2_with fail
      go_at_call 9
      refine (bone_says w10).mono ?_
      rintro e w11 ⟨rfl, hb⟩
      have H11 := Lib.hid (H10.out.below hb)
      clear hb H10
      go_wp2_with fail
      go_ret
      exact ⟨rfl, H11.out.bel⟩
    · have hbig' : (N : Int) ≤ 600 := by omega
      clear s0 s1
      go_wp2_with fail
      obtain ⟨i1, hi1, hz10, hz11, hz12⟩ := info_parts Try.boolInfo
      go_loopw [9, 10] (fun v i wr => ∃ (k : Nat) (u : List Bool), k ≤ N ∧ i = .int .i64 (k : Int) ∧ Hid (RB w wr w.heap.size w1.heap.size N xs ls ∧ OwnU wr w.heap.size v u ∧ u.length = k ∧ ∀ j, j < k → atB u j = hasB ls j)) (fun _ i _ => N - (intOf i).toNat)
      case atStart => exact ⟨0, [], by omega, rfl, Lib.hid ⟨H7.out, OwnU.nil _ _, rfl, fun j hj => absurd hj (Nat.not_lt_zero j)⟩⟩
      case round =>
        clear H7
        obtain ⟨k, u, hk, rfl, H⟩ := hrel
        by_cases hkn : (k : Int) < (N : Int)
        · go_wp2_with fail
          go_at_call 10
          refine (rhas_says wr a0 n0 c0 l0 (HARG.out.1.below H.out.1.bel) (by omega) (N : Int) (by omega) (k : Int) (by omega)).mono ?_
          rintro e wx ⟨rfl, rfl⟩
          rw [show (decide (0 ≤ (k : Int) ∧ (k : Int) < (N : Int)) && hasB l0 (k : Int).toNat) = hasB ls k by rw [HHAS.out k, Int.toNat_natCast]; congr 1; exact decide_eq_decide.2 (by omega)]
          obtain ⟨z, hz⟩ : ∃ z, hasB ls k = z := ⟨_, rfl⟩
          rw [hz]
          have HZ := Lib.hid hz
          clear hz
          obtain ⟨wa, hwa⟩ : ∃ y, wx.alloc (.cells #[.bool z] 4) = y := ⟨_, rfl⟩
          have hba : Below wx.heap.size wx wa := by rw [← hwa]; exact (Below.refl _ wx).alloc (Nat.le_refl _) _
          have HA := Lib.hid (And.intro (show wa.cell? ⟨wx.heap.size, 0, none⟩ = some (.bool z) by rw [← hwa]; exact (Box.cell (Box.made wx _ _) 0).trans rfl) (And.intro (H.out.1.below hba) (And.intro (H.out.2.1.below hba) hba)))
          clear hba
          go_wp2_with (at_builtin; refine wpList_append_own _ rfl _ _ 30 rfl w.heap.size 4 i1 (.bool false) 1 1 Try.underlying30 hi1 hz10 hz11 hz12 rfl (by decide) _ u.length (bo u) rfl HA.out.2.2.1 ⟨wx.heap.size, 0, none⟩ 1 1 [.bool z] rfl rfl (fun j q hq => by
              cases j with
              | zero => simp at hq; subst hq; exact HA.out.1
              | succ j => simp at hq) (by simp [Value.oneCell']) (by unfold maxLen; have := H.out.2.2.1; omega) (by have := H.out.2.2.1; omega) (by have := HA.out.2.1.bel.size; omega) ?_; intro v9 w9 ho9 hg9 _; have H9 := Lib.hid (And.intro ho9 hg9); clear ho9 hg9)
          go_roundw
          case rel =>
            obtain ⟨ho9, hg9⟩ := H9.out
            have hne := Box.apart HA.out.2.1.bits HA.out.2.2.1 (by decide)
            have hbw := OwnU.changed HA.out.2.2.1 hg9 HA.out.2.1.bel.size
            refine ⟨k + 1, u ++ [z], by omega, by go_num, Lib.hid ⟨⟨HA.out.2.1.bits.grown hg9 (fun e => hne e.symm), World.ownsRow.kept HA.out.2.1.own hg9 ?_, HA.out.2.1.bel.trans hbw⟩, ?_, by rw [List.length_append, H.out.2.2.1]; rfl, fun j hj => ?_⟩⟩
            · exact own_apart HA.out.2.2.1 HA.out.2.1.own
            · show World.ownsRow _ _ _ _ _ _ _
              have : bo (u ++ [z]) = bo u ++ [.bool z] := by simp [bo]
              rw [this, List.length_append]
              exact ho9
            · rw [atB_snoc]
              by_cases q : j = u.length
              · rw [if_pos q, q, H.out.2.2.1, HZ.out]
              · rw [if_neg q]
                exact H.out.2.2.2 j (by have := H.out.2.2.1; omega)
          case measure => simp [intOf]; omega
        · obtain rfl : N = k := by omega
          have HP := Lib.hid (PL.mk H.out.1 H.out.2.1 H.out.2.2.1 H.out.2.2.2 HCUT.out)
          obtain ⟨v, hv⟩ : ∃ v, u9 = v := ⟨_, rfl⟩
          subst hv
          clear H
          go_wp2_with fail
          go_loopw [11] (fun i wr => ∃ (j : Nat) (x : Value) (l : List UInt8) (u : List Bool), i = .int .i64 (j : Int) ∧ j ≤ 30 ∧ Hid (PL w wr w1.heap.size N x u9 l u)) (fun i _ => 30 - (intOf i).toNat)
          case atStart => exact ⟨0, xs, ls, u, rfl, by omega, HP⟩
          case round =>
            clear HP
            obtain ⟨j, x, l, u, rfl, hj30, H⟩ := hrel
            have hll : l.length ≤ 600 := by rw [H.out.cut.1]; omega
            by_cases hjn : (j : Int) < (n2 : Int)
            · by_cases hj3 : (j : Int) < 30
              · have hact := HARG.out.2.below H.out.s.bel
                have hjl : j < acts.length := by rw [hact.1]; omega
                obtain ⟨b, off, rfl, hblt, hcs⟩ := hact.2.2 (by omega)
                obtain ⟨y, hy⟩ : ∃ y, acts[j]? = some y := ⟨_, List.getElem?_eq_getElem hjl⟩
                obtain ⟨k0, k1, k2⟩ := hcs j y hy
                have hok := hact.2.1 y (List.mem_of_getElem? hy)
                obtain ⟨f, m, uu⟩ := y
                have hf0 := hok.f0
                have hf1 := hok.f1
                have hm0 := hok.m0
                have hm1 := hok.m1
                simp only at k0 k1 k2 hf0 hf1 hm0 hm1
                clear hact hcs hy hok hjl
                obtain ⟨wb, hwb⟩ : ∃ y, wr.alloc (.cells #[.int .i64 f, .int .i64 m, .bool uu] 33) = y := ⟨_, rfl⟩
                have hxb : Box wb wr.heap.size 33 #[.int .i64 f, .int .i64 m, .bool uu] := by rw [← hwb]; exact Box.made wr _ _
                have hbb : Below wr.heap.size wr wb := by rw [← hwb]; exact (Below.refl _ wr).alloc (Nat.le_refl _) _
                have HB := Lib.hid (And.intro (H.out.below hbb) hxb)
                obtain ⟨gact, hga⟩ : ∃ q, wr.heap.size = q := ⟨_, rfl⟩
                have hpl1 : w1.heap.size < gact := by rw [← hga]; exact H.out.s.bits.lt
                rw [hga] at HB
                have hpl2 : gact < wb.heap.size := HB.out.2.lt
                clear hxb hbb H
                go_upto_region 16 with fail
                try rw [hwb]
                obtain ⟨s0, s1⟩ := HB.out.1.s.cells
                clear hwb k0 k1 k2
                try rw [hga]
                clear hga
                go_wp2_with fail
                go_at_call 11
                refine (bbytes_says wb w.heap.size N x l HB.out.1.s.own HB.out.1.s.bel.size (by omega)).mono ?_
                rintro e wc ⟨v1, rfl, ho, hb⟩
                have HC := Lib.hid (And.intro (HB.out.1.below hb) (HB.out.2.below hb HB.out.2.lt))
                have hconv := own_conv ho
                have hpl3 : gact < wc.heap.size := HC.out.2.lt
                clear ho hb s0 s1 HB
                go_upto_region 17 with fail
                clear hconv
                obtain ⟨s0, s1⟩ := HC.out.1.s.cells
                have a0' := (Box.cell HC.out.2 0).trans rfl
                have a1' := (Box.cell HC.out.2 1).trans rfl
                go_wp2_with fail
                go_at_call 12
                refine (bwith_says wc w.heap.size N x l HC.out.1.s.own HC.out.1.s.bel.size HC.out.1.cut.room hN4 hll f m ⟨hf0, hf1⟩ ⟨hm0, hm1⟩).mono ?_
                rintro e wd ⟨x2, rfl, ho, hb⟩
                have HD := Lib.hid (And.intro (HC.out.1.below hb) (And.intro (HC.out.2.below hb HC.out.2.lt) (ho.base HC.out.1.s.bel.size)))
                have hpl4 : gact < wd.heap.size := HD.out.2.1.lt
                clear ho hb s0 s1 a0' a1' HC
                obtain ⟨wae, hwae⟩ : ∃ y, wd.alloc (.cells #[.int .i64 0, .slice none 0 0] 25) = y := ⟨_, rfl⟩
                have hxae : Box wae wd.heap.size 25 #[.int .i64 0, .slice none 0 0] := by rw [← hwae]; exact Box.made wd _ _
                obtain ⟨we, hwe⟩ : ∃ y, wae.setRow wd.heap.size #[.int .i64 (N : Int), x2] = y := ⟨_, rfl⟩
                have HRe := Lib.hid (rb_stored (n := N) HD.out.1.s.bel HD.out.2.2 we (by rw [hwae]; exact hwe))
                have HOe := Lib.hid (Own.one HD.out.2.2)
                have HXe := Lib.hid (And.intro hxae hwe)
                clear hxae hwe
                have HE := Lib.hid (And.intro (HD.out.1.below HRe.out.2) (And.intro (HD.out.2.1.below HRe.out.2 HD.out.2.1.lt) HRe.out.1))
                have a2' := (Box.cell HE.out.2.1 2).trans rfl
                go_upto_region 18 with (refine wpList_store_row rfl 25 _ _ rfl wd.heap.size #[.int .i64 (N : Int), x2] rfl rfl 25 _ HXe.out.1 bitsInfo rfl (two_one N HOe.out) ?_; rw [HXe.out.2])
                clear HXe HRe HOe HD
                obtain ⟨gt, hgt⟩ : ∃ q, wd.heap.size = q := ⟨_, rfl⟩
                rw [hgt] at HE hpl4 ⊢
                clear hgt
                have hgsgt : w1.heap.size ≠ gt := by omega
                have hactgt : gact ≠ gt := by omega
                have hgsact : w1.heap.size ≠ gact := by omega
                have hwgt : w.heap.size ≤ gt := by have := H1.out.2.size; omega
                have hw1 : w.heap.size ≤ w1.heap.size := H1.out.2.size
                cases uu
                · skip
                  obtain ⟨s0, s1⟩ := HE.out.1.s.cells
                  have a0' := (Box.cell HE.out.2.1 0).trans rfl
                  have a1' := (Box.cell HE.out.2.1 1).trans rfl
                  go_wp2_with fail
                  go_at_call 13
                  refine (bwout_says we w.heap.size N x l HE.out.1.s.own HE.out.1.s.bel.size HE.out.1.cut.room hN4 hll f m ⟨hf0, hf1⟩ ⟨hm0, hm1⟩).mono ?_
                  rintro e wf ⟨x3, rfl, ho, hb⟩
                  have hb' := hb
                  have HF := Lib.hid (And.intro (HE.out.1.below hb) (And.intro (HE.out.2.1.below hb HE.out.2.1.lt) (And.intro (HE.out.2.2.below hb) (ho.base HE.out.1.s.bel.size))))
                  clear ho hb hb' s0 s1 a0' a1' a2' HE
                  have HOf := Lib.hid (Own.one HF.out.2.2.2)
                  go_upto_region 20 with (refine wpList_store_row rfl 25 _ _ rfl gt #[.int .i64 (N : Int), x3] rfl rfl 25 _ HF.out.2.2.1.bits bitsInfo rfl (two_one N HOf.out) ?_)
                  obtain ⟨wg, hwg⟩ : ∃ y, wf.setRow gt #[.int .i64 (N : Int), x3] = y := ⟨_, rfl⟩
                  have HG := Lib.hid (pl_stored HF.out.1 HF.out.2.1 HF.out.2.2.1 HF.out.2.2.2 hgsgt hactgt wg hwg hwgt)
                  rw [hwg]
                  clear hwg HF HOf
                  have hin := HG.out.1.cut.wout f m
                  have hsm := fun k => hasB_woutA N l f m k HG.out.1.cut.room
                  obtain ⟨l2, hl2⟩ : ∃ l2, woutA N l f m = l2 := ⟨_, rfl⟩
                  rw [hl2] at HG hin hsm
                  have HSM := Lib.hid (And.intro hin (And.intro hsm (show l2.length ≤ 600 by rw [hin.1]; omega)))
                  clear hl2 hin hsm
                  obtain ⟨s0, s1⟩ := HG.out.1.s.cells
                  go_wp2_with fail
                  go_at_call 11
                  refine (bbytes_says wg w.heap.size N x l HG.out.1.s.own HG.out.1.s.bel.size (by omega)).mono ?_
                  rintro e wh ⟨v4, rfl, ho, hb⟩
                  have HH := Lib.hid (And.intro (HG.out.1.below hb) (And.intro (HG.out.2.1.below hb HG.out.2.1.lt) (HG.out.2.2.below hb)))
                  have hconv := own_conv ho
                  clear ho hb s0 s1 HG
                  go_upto_region 22 with fail
                  clear hconv
                  obtain ⟨t0, t1⟩ := HH.out.2.2.cells
                  have HOh := Lib.hid (Own.one HH.out.2.2.own)
                  go_upto_region 23 with (refine wpList_store_row rfl 25 _ _ rfl w1.heap.size #[.int .i64 (N : Int), x3] rfl rfl 25 _ HH.out.1.s.bits bitsInfo rfl (two_one N HOh.out) ?_)
                  obtain ⟨wi, hwi⟩ : ∃ y, wh.setRow w1.heap.size #[.int .i64 (N : Int), x3] = y := ⟨_, rfl⟩
                  have HI := Lib.hid (And.intro (pl_moved HH.out.1 HH.out.2.1 HH.out.2.2.own hgsact hw1 wi hwi) (And.intro HH.out.1.len (And.intro HH.out.1.same HH.out.1.cut)))
                  rw [hwi]
                  clear hwi HH HOh t0 t1
                  go_wp2_with fail
                  go_loopw [15] (fun i wr => ∃ (k : Nat) (u' : List Bool), k ≤ N ∧ i = .int .i64 (k : Int) ∧ Hid (RB w wr w.heap.size w1.heap.size N x3 l2 ∧ OwnU wr w.heap.size u9 u' ∧ Box wr gact 33 #[.int .i64 f, .int .i64 m, .bool false] ∧ u'.length = N ∧ (∀ q, q < k → atB u' q = hasB l2 q) ∧ (∀ q, k ≤ q → q < N → atB u' q = hasB l q))) (fun i _ => N - (intOf i).toNat)
                  case atStart => exact ⟨0, u, by omega, rfl, Lib.hid ⟨HI.out.1.1, HI.out.1.2.1, HI.out.1.2.2, HI.out.2.1, fun q hq => absurd hq (Nat.not_lt_zero q), fun q _ hq => HI.out.2.2.1 q hq⟩⟩
                  case round =>
                    clear HI
                    obtain ⟨k, u', hk, rfl, H⟩ := hrel
                    have a0' := (Box.cell H.out.2.2.1 0).trans rfl
                    have a1' := (Box.cell H.out.2.2.1 1).trans rfl
                    by_cases hkn : (k : Int) < (N : Int)
                    · have HIN := Lib.hid (HSM.out.2.1 k)
                      by_cases g1 : f ≤ (k : Int)
                      · by_cases g2 : 0 < m
                        · by_cases g3 : f < 0
                          · have q1 : IntKind.i64.wrap (m + f) = m + f := IntWalk.i64_in _ (by omega)
                            by_cases g4 : (k : Int) < m + f
                            · have HV := Lib.hid (show inRun N f m k = true from decide_eq_true (by omega))
                              obtain ⟨gu, cu, hv, hcu, hfu, hpu⟩ := pl_put H.out.1 H.out.2.1 H.out.2.2.1 (k := k) (by rw [H.out.2.2.2.1]; omega)
                              have HPU := Lib.hid (hpu false)
                              have hlu := H.out.2.2.2.1
                              rw [hlu] at hv
                              have HLU := Lib.hid hlu
                              subst hv
                              have a2' := (Box.cell H.out.2.2.1 2).trans rfl
                              clear hpu hlu
                              go_wp2_with fail
                              go_roundw
                              case rel => exact ⟨k + 1, u'.set k false, by omega, by go_num, Lib.hid ⟨HPU.out.1, HPU.out.2.1, HPU.out.2.2, by rw [List.length_set]; exact HLU.out, fun q hq => by
                                rw [atB_set _ _ _ _ (by rw [HLU.out]; omega)]
                                by_cases hqk : q = k
                                · rw [if_pos hqk, hqk, HIN.out, HV.out]
                                  simp
                                · rw [if_neg hqk]
                                  exact H.out.2.2.2.2.1 q (by omega), fun q hq hqN => by
                                rw [atB_set _ _ _ _ (by rw [HLU.out]; omega), if_neg (by omega)]
                                exact H.out.2.2.2.2.2 q (by omega) hqN⟩⟩
                              case measure => simp [intOf]; omega
                            · have g5 : ¬ 0 ≤ f := by omega
                              have HV := Lib.hid (show inRun N f m k = false from decide_eq_false (by omega))
                              go_wp2_with fail
                              go_roundw
                              case rel => exact ⟨k + 1, u', by omega, by go_num, Lib.hid ⟨H.out.1, H.out.2.1, H.out.2.2.1, H.out.2.2.2.1, fun q hq => by
                                by_cases hqk : q = k
                                · rw [hqk, HIN.out, HV.out, H.out.2.2.2.2.2 k (Nat.le_refl _) (by omega)]
                                  simp
                                · exact H.out.2.2.2.2.1 q (by omega), fun q hq hqN => H.out.2.2.2.2.2 q (by omega) hqN⟩⟩
                              case measure => simp [intOf]; omega
                          · have g5 : 0 ≤ f := by omega
                            have q1 : IntKind.i64.wrap ((k : Int) - f) = (k : Int) - f := IntWalk.i64_in _ (by omega)
                            by_cases g4 : (k : Int) - f < m
                            · have HV := Lib.hid (show inRun N f m k = true from decide_eq_true (by omega))
                              obtain ⟨gu, cu, hv, hcu, hfu, hpu⟩ := pl_put H.out.1 H.out.2.1 H.out.2.2.1 (k := k) (by rw [H.out.2.2.2.1]; omega)
                              have HPU := Lib.hid (hpu false)
                              have hlu := H.out.2.2.2.1
                              rw [hlu] at hv
                              have HLU := Lib.hid hlu
                              subst hv
                              have a2' := (Box.cell H.out.2.2.1 2).trans rfl
                              clear hpu hlu
                              go_wp2_with fail
                              go_roundw
                              case rel => exact ⟨k + 1, u'.set k false, by omega, by go_num, Lib.hid ⟨HPU.out.1, HPU.out.2.1, HPU.out.2.2, by rw [List.length_set]; exact HLU.out, fun q hq => by
                                rw [atB_set _ _ _ _ (by rw [HLU.out]; omega)]
                                by_cases hqk : q = k
                                · rw [if_pos hqk, hqk, HIN.out, HV.out]
                                  simp
                                · rw [if_neg hqk]
                                  exact H.out.2.2.2.2.1 q (by omega), fun q hq hqN => by
                                rw [atB_set _ _ _ _ (by rw [HLU.out]; omega), if_neg (by omega)]
                                exact H.out.2.2.2.2.2 q (by omega) hqN⟩⟩
                              case measure => simp [intOf]; omega
                            · have HV := Lib.hid (show inRun N f m k = false from decide_eq_false (by omega))
                              go_wp2_with fail
                              go_roundw
                              case rel => exact ⟨k + 1, u', by omega, by go_num, Lib.hid ⟨H.out.1, H.out.2.1, H.out.2.2.1, H.out.2.2.2.1, fun q hq => by
                                by_cases hqk : q = k
                                · rw [hqk, HIN.out, HV.out, H.out.2.2.2.2.2 k (Nat.le_refl _) (by omega)]
                                  simp
                                · exact H.out.2.2.2.2.1 q (by omega), fun q hq hqN => H.out.2.2.2.2.2 q (by omega) hqN⟩⟩
                              case measure => simp [intOf]; omega
                        · have HV := Lib.hid (show inRun N f m k = false from decide_eq_false (by omega))
                          go_wp2_with fail
                          go_roundw
                          case rel => exact ⟨k + 1, u', by omega, by go_num, Lib.hid ⟨H.out.1, H.out.2.1, H.out.2.2.1, H.out.2.2.2.1, fun q hq => by
                            by_cases hqk : q = k
                            · rw [hqk, HIN.out, HV.out, H.out.2.2.2.2.2 k (Nat.le_refl _) (by omega)]
                              simp
                            · exact H.out.2.2.2.2.1 q (by omega), fun q hq hqN => H.out.2.2.2.2.2 q (by omega) hqN⟩⟩
                          case measure => simp [intOf]; omega
                      · have HV := Lib.hid (show inRun N f m k = false from decide_eq_false (by omega))
                        go_wp2_with fail
                        go_roundw
                        case rel => exact ⟨k + 1, u', by omega, by go_num, Lib.hid ⟨H.out.1, H.out.2.1, H.out.2.2.1, H.out.2.2.2.1, fun q hq => by
                          by_cases hqk : q = k
                          · rw [hqk, HIN.out, HV.out, H.out.2.2.2.2.2 k (Nat.le_refl _) (by omega)]
                            simp
                          · exact H.out.2.2.2.2.1 q (by omega), fun q hq hqN => H.out.2.2.2.2.2 q (by omega) hqN⟩⟩
                        case measure => simp [intOf]; omega
                    · obtain rfl : N = k := by omega
                      have HK := Lib.hid (PL.mk H.out.1 H.out.2.1 H.out.2.2.2.1 H.out.2.2.2.2.1 HSM.out.1)
                      obtain ⟨mq, hmq, em⟩ := bits_and7 m
                      obtain ⟨r1, hr1⟩ := isRun_ex (hasB l2) N m
                      obtain ⟨r2, hr2⟩ := isRun_ex (hasB l2) N (1 + (mq : Int))
                      have e1 : IntKind.i64.wrap (1 + (mq : Int)) = 1 + (mq : Int) := IntWalk.i64_in _ (by omega)
                      have hS1 : ∀ p : Grows wr, Calls Try.prog 14 #[.agg #[.int .i64 (N : Int), x3], .int .i64 m] p.val fun e w' => e = .returned (.int .i64 r1) ∧ ∃ p' : Grows wr, w' = p'.val := fun p =>
                        Calls.grows ((brun_says p.val w.heap.size N x3 l2 (HK.out.s.own.below p.prop) HK.out.cut.room hN4 m ⟨hm0, hm1⟩).mono (fun e w' ⟨r, h1, h2, h3⟩ => ⟨by rw [h1, h2.one hr1], h3⟩))
                      have hS2 : ∀ p : Grows wr, Calls Try.prog 14 #[.agg #[.int .i64 (N : Int), x3], .int .i64 (1 + (mq : Int))] p.val fun e w' => e = .returned (.int .i64 r2) ∧ ∃ p' : Grows wr, w' = p'.val := fun p =>
                        Calls.grows ((brun_says p.val w.heap.size N x3 l2 (HK.out.s.own.below p.prop) HK.out.cut.room hN4 (1 + (mq : Int)) (by omega)).mono (fun e w' ⟨r, h1, h2, h3⟩ => ⟨by rw [h1, h2.one hr2], h3⟩))
                      have hU1 : ∀ p : Grows wr, Calls Try.prog 15 #[u9, .int .i64 m] p.val fun e w' => e = .returned (.int .i64 r1) ∧ ∃ p' : Grows wr, w' = p'.val := fun p => by
                        obtain ⟨A, c, hv, hl⟩ := (HK.out.own.below p.prop).lies
                        rw [hv, HK.out.len]
                        rw [HK.out.len] at hl
                        exact Calls.grows ((rrun_says p.val A N c u' hl hN4 m ⟨hm0, hm1⟩).mono (fun e w' ⟨r, h1, h2, h3⟩ => ⟨by rw [h1, (h2.congr HK.out.same).one hr1], by rw [h3]; exact Below.refl _ _⟩))
                      have hU2 : ∀ p : Grows wr, Calls Try.prog 15 #[u9, .int .i64 (1 + (mq : Int))] p.val fun e w' => e = .returned (.int .i64 r2) ∧ ∃ p' : Grows wr, w' = p'.val := fun p => by
                        obtain ⟨A, c, hv, hl⟩ := (HK.out.own.below p.prop).lies
                        rw [hv, HK.out.len]
                        rw [HK.out.len] at hl
                        exact Calls.grows ((rrun_says p.val A N c u' hl hN4 (1 + (mq : Int)) (by omega)).mono (fun e w' ⟨r, h1, h2, h3⟩ => ⟨by rw [h1, (h2.congr HK.out.same).one hr2], by rw [h3]; exact Below.refl _ _⟩))
                      have p0 : ∀ p : Grows wr, p.val.cell? ⟨w1.heap.size, 0, none⟩ = some (.int .i64 (N : Int)) := fun p => (HK.out.s.below p.prop).cells.1
                      have p1 : ∀ p : Grows wr, p.val.cell? ⟨w1.heap.size, 1, none⟩ = some x3 := fun p => (HK.out.s.below p.prop).cells.2
                      have p2 : ∀ p : Grows wr, p.val.cell? ⟨gact, 1, none⟩ = some (.int .i64 m) := fun p => (Box.cell (Box.below H.out.2.2.1 p.prop H.out.2.2.1.lt) 1).trans rfl
                      have HS := Lib.hid (And.intro hS1 (And.intro hS2 (And.intro hU1 hU2)))
                      have HRR := Lib.hid (And.intro hr1 hr2)
                      clear hS1 hS2 hU1 hU2 hr1 hr2 a0' a1'
                      go_upto_region 28 with fail
                      refine wp_region_grows (by kernel_rfl) (by kernel_rfl) ?_
                      repeat (first
                        | (with_reducible refine wpQuiet_no ?_ ?_; (· first | (go_simp; done) | (go_simp; simp [undef]; done)); simp only [Act.put, List.setIfInBounds_toArray, List.set_cons_zero, List.set_cons_succ])
                        | quiet_step (first | (go_at_call 14; first | (with_reducible exact HS.out.1 _) | (with_reducible exact HS.out.2.1 _)) | (go_at_call 15; first | (with_reducible exact HS.out.2.2.1 _) | (with_reducible exact HS.out.2.2.2 _))))
                      refine wpQuiet_nil ?_
                      rintro wz ⟨⟨_, hwz⟩, rfl⟩
                      have HW := Lib.hid (HK.out.below hwz)
                      clear hwz p0 p1 p2 HS HK
                      go_wp2_with fail
                      go_roundw
                      case rel => exact ⟨j + 1, x3, l2, u', by go_num, by omega, HW⟩
                      case measure => simp [intOf]; omega
                · skip
                  go_upto_region 20 with fail
                  clear a2'
                  have HG := Lib.hid HE.out
                  clear HE
                  have hin := HG.out.1.cut.with f m
                  have hsm := fun k => hasB_withA N l f m k HG.out.1.cut.room
                  obtain ⟨l2, hl2⟩ : ∃ l2, withA N l f m = l2 := ⟨_, rfl⟩
                  rw [hl2] at HG hin hsm
                  have HSM := Lib.hid (And.intro hin (And.intro hsm (show l2.length ≤ 600 by rw [hin.1]; omega)))
                  clear hl2 hin hsm
                  obtain ⟨s0, s1⟩ := HG.out.1.s.cells
                  go_wp2_with fail
                  go_at_call 11
                  refine (bbytes_says we w.heap.size N x l HG.out.1.s.own HG.out.1.s.bel.size (by omega)).mono ?_
                  rintro e wh ⟨v4, rfl, ho, hb⟩
                  have HH := Lib.hid (And.intro (HG.out.1.below hb) (And.intro (HG.out.2.1.below hb HG.out.2.1.lt) (HG.out.2.2.below hb)))
                  have hconv := own_conv ho
                  clear ho hb s0 s1 HG
                  go_upto_region 22 with fail
                  clear hconv
                  obtain ⟨t0, t1⟩ := HH.out.2.2.cells
                  have HOh := Lib.hid (Own.one HH.out.2.2.own)
                  go_upto_region 23 with (refine wpList_store_row rfl 25 _ _ rfl w1.heap.size #[.int .i64 (N : Int), x2] rfl rfl 25 _ HH.out.1.s.bits bitsInfo rfl (two_one N HOh.out) ?_)
                  obtain ⟨wi, hwi⟩ : ∃ y, wh.setRow w1.heap.size #[.int .i64 (N : Int), x2] = y := ⟨_, rfl⟩
                  have HI := Lib.hid (And.intro (pl_moved HH.out.1 HH.out.2.1 HH.out.2.2.own hgsact hw1 wi hwi) (And.intro HH.out.1.len (And.intro HH.out.1.same HH.out.1.cut)))
                  rw [hwi]
                  clear hwi HH HOh t0 t1
                  go_wp2_with fail
                  go_loopw [15] (fun i wr => ∃ (k : Nat) (u' : List Bool), k ≤ N ∧ i = .int .i64 (k : Int) ∧ Hid (RB w wr w.heap.size w1.heap.size N x2 l2 ∧ OwnU wr w.heap.size u9 u' ∧ Box wr gact 33 #[.int .i64 f, .int .i64 m, .bool true] ∧ u'.length = N ∧ (∀ q, q < k → atB u' q = hasB l2 q) ∧ (∀ q, k ≤ q → q < N → atB u' q = hasB l q))) (fun i _ => N - (intOf i).toNat)
                  case atStart => exact ⟨0, u, by omega, rfl, Lib.hid ⟨HI.out.1.1, HI.out.1.2.1, HI.out.1.2.2, HI.out.2.1, fun q hq => absurd hq (Nat.not_lt_zero q), fun q _ hq => HI.out.2.2.1 q hq⟩⟩
                  case round =>
                    clear HI
                    obtain ⟨k, u', hk, rfl, H⟩ := hrel
                    have a0' := (Box.cell H.out.2.2.1 0).trans rfl
                    have a1' := (Box.cell H.out.2.2.1 1).trans rfl
                    by_cases hkn : (k : Int) < (N : Int)
                    · have HIN := Lib.hid (HSM.out.2.1 k)
                      by_cases g1 : f ≤ (k : Int)
                      · by_cases g2 : 0 < m
                        · by_cases g3 : f < 0
                          · have q1 : IntKind.i64.wrap (m + f) = m + f := IntWalk.i64_in _ (by omega)
                            by_cases g4 : (k : Int) < m + f
                            · have HV := Lib.hid (show inRun N f m k = true from decide_eq_true (by omega))
                              obtain ⟨gu, cu, hv, hcu, hfu, hpu⟩ := pl_put H.out.1 H.out.2.1 H.out.2.2.1 (k := k) (by rw [H.out.2.2.2.1]; omega)
                              have HPU := Lib.hid (hpu true)
                              have hlu := H.out.2.2.2.1
                              rw [hlu] at hv
                              have HLU := Lib.hid hlu
                              subst hv
                              have a2' := (Box.cell H.out.2.2.1 2).trans rfl
                              clear hpu hlu
                              go_wp2_with fail
                              go_roundw
                              case rel => exact ⟨k + 1, u'.set k true, by omega, by go_num, Lib.hid ⟨HPU.out.1, HPU.out.2.1, HPU.out.2.2, by rw [List.length_set]; exact HLU.out, fun q hq => by
                                rw [atB_set _ _ _ _ (by rw [HLU.out]; omega)]
                                by_cases hqk : q = k
                                · rw [if_pos hqk, hqk, HIN.out, HV.out]
                                  simp
                                · rw [if_neg hqk]
                                  exact H.out.2.2.2.2.1 q (by omega), fun q hq hqN => by
                                rw [atB_set _ _ _ _ (by rw [HLU.out]; omega), if_neg (by omega)]
                                exact H.out.2.2.2.2.2 q (by omega) hqN⟩⟩
                              case measure => simp [intOf]; omega
                            · have g5 : ¬ 0 ≤ f := by omega
                              have HV := Lib.hid (show inRun N f m k = false from decide_eq_false (by omega))
                              go_wp2_with fail
                              go_roundw
                              case rel => exact ⟨k + 1, u', by omega, by go_num, Lib.hid ⟨H.out.1, H.out.2.1, H.out.2.2.1, H.out.2.2.2.1, fun q hq => by
                                by_cases hqk : q = k
                                · rw [hqk, HIN.out, HV.out, H.out.2.2.2.2.2 k (Nat.le_refl _) (by omega)]
                                  simp
                                · exact H.out.2.2.2.2.1 q (by omega), fun q hq hqN => H.out.2.2.2.2.2 q (by omega) hqN⟩⟩
                              case measure => simp [intOf]; omega
                          · have g5 : 0 ≤ f := by omega
                            have q1 : IntKind.i64.wrap ((k : Int) - f) = (k : Int) - f := IntWalk.i64_in _ (by omega)
                            by_cases g4 : (k : Int) - f < m
                            · have HV := Lib.hid (show inRun N f m k = true from decide_eq_true (by omega))
                              obtain ⟨gu, cu, hv, hcu, hfu, hpu⟩ := pl_put H.out.1 H.out.2.1 H.out.2.2.1 (k := k) (by rw [H.out.2.2.2.1]; omega)
                              have HPU := Lib.hid (hpu true)
                              have hlu := H.out.2.2.2.1
                              rw [hlu] at hv
                              have HLU := Lib.hid hlu
                              subst hv
                              have a2' := (Box.cell H.out.2.2.1 2).trans rfl
                              clear hpu hlu
                              go_wp2_with fail
                              go_roundw
                              case rel => exact ⟨k + 1, u'.set k true, by omega, by go_num, Lib.hid ⟨HPU.out.1, HPU.out.2.1, HPU.out.2.2, by rw [List.length_set]; exact HLU.out, fun q hq => by
                                rw [atB_set _ _ _ _ (by rw [HLU.out]; omega)]
                                by_cases hqk : q = k
                                · rw [if_pos hqk, hqk, HIN.out, HV.out]
                                  simp
                                · rw [if_neg hqk]
                                  exact H.out.2.2.2.2.1 q (by omega), fun q hq hqN => by
                                rw [atB_set _ _ _ _ (by rw [HLU.out]; omega), if_neg (by omega)]
                                exact H.out.2.2.2.2.2 q (by omega) hqN⟩⟩
                              case measure => simp [intOf]; omega
                            · have HV := Lib.hid (show inRun N f m k = false from decide_eq_false (by omega))
                              go_wp2_with fail
                              go_roundw
                              case rel => exact ⟨k + 1, u', by omega, by go_num, Lib.hid ⟨H.out.1, H.out.2.1, H.out.2.2.1, H.out.2.2.2.1, fun q hq => by
                                by_cases hqk : q = k
                                · rw [hqk, HIN.out, HV.out, H.out.2.2.2.2.2 k (Nat.le_refl _) (by omega)]
                                  simp
                                · exact H.out.2.2.2.2.1 q (by omega), fun q hq hqN => H.out.2.2.2.2.2 q (by omega) hqN⟩⟩
                              case measure => simp [intOf]; omega
                        · have HV := Lib.hid (show inRun N f m k = false from decide_eq_false (by omega))
                          go_wp2_with fail
                          go_roundw
                          case rel => exact ⟨k + 1, u', by omega, by go_num, Lib.hid ⟨H.out.1, H.out.2.1, H.out.2.2.1, H.out.2.2.2.1, fun q hq => by
                            by_cases hqk : q = k
                            · rw [hqk, HIN.out, HV.out, H.out.2.2.2.2.2 k (Nat.le_refl _) (by omega)]
                              simp
                            · exact H.out.2.2.2.2.1 q (by omega), fun q hq hqN => H.out.2.2.2.2.2 q (by omega) hqN⟩⟩
                          case measure => simp [intOf]; omega
                      · have HV := Lib.hid (show inRun N f m k = false from decide_eq_false (by omega))
                        go_wp2_with fail
                        go_roundw
                        case rel => exact ⟨k + 1, u', by omega, by go_num, Lib.hid ⟨H.out.1, H.out.2.1, H.out.2.2.1, H.out.2.2.2.1, fun q hq => by
                          by_cases hqk : q = k
                          · rw [hqk, HIN.out, HV.out, H.out.2.2.2.2.2 k (Nat.le_refl _) (by omega)]
                            simp
                          · exact H.out.2.2.2.2.1 q (by omega), fun q hq hqN => H.out.2.2.2.2.2 q (by omega) hqN⟩⟩
                        case measure => simp [intOf]; omega
                    · obtain rfl : N = k := by omega
                      have HK := Lib.hid (PL.mk H.out.1 H.out.2.1 H.out.2.2.2.1 H.out.2.2.2.2.1 HSM.out.1)
                      obtain ⟨mq, hmq, em⟩ := bits_and7 m
                      obtain ⟨r1, hr1⟩ := isRun_ex (hasB l2) N m
                      obtain ⟨r2, hr2⟩ := isRun_ex (hasB l2) N (1 + (mq : Int))
                      have e1 : IntKind.i64.wrap (1 + (mq : Int)) = 1 + (mq : Int) := IntWalk.i64_in _ (by omega)
                      have hS1 : ∀ p : Grows wr, Calls Try.prog 14 #[.agg #[.int .i64 (N : Int), x2], .int .i64 m] p.val fun e w' => e = .returned (.int .i64 r1) ∧ ∃ p' : Grows wr, w' = p'.val := fun p =>
                        Calls.grows ((brun_says p.val w.heap.size N x2 l2 (HK.out.s.own.below p.prop) HK.out.cut.room hN4 m ⟨hm0, hm1⟩).mono (fun e w' ⟨r, h1, h2, h3⟩ => ⟨by rw [h1, h2.one hr1], h3⟩))
                      have hS2 : ∀ p : Grows wr, Calls Try.prog 14 #[.agg #[.int .i64 (N : Int), x2], .int .i64 (1 + (mq : Int))] p.val fun e w' => e = .returned (.int .i64 r2) ∧ ∃ p' : Grows wr, w' = p'.val := fun p =>
                        Calls.grows ((brun_says p.val w.heap.size N x2 l2 (HK.out.s.own.below p.prop) HK.out.cut.room hN4 (1 + (mq : Int)) (by omega)).mono (fun e w' ⟨r, h1, h2, h3⟩ => ⟨by rw [h1, h2.one hr2], h3⟩))
                      have hU1 : ∀ p : Grows wr, Calls Try.prog 15 #[u9, .int .i64 m] p.val fun e w' => e = .returned (.int .i64 r1) ∧ ∃ p' : Grows wr, w' = p'.val := fun p => by
                        obtain ⟨A, c, hv, hl⟩ := (HK.out.own.below p.prop).lies
                        rw [hv, HK.out.len]
                        rw [HK.out.len] at hl
                        exact Calls.grows ((rrun_says p.val A N c u' hl hN4 m ⟨hm0, hm1⟩).mono (fun e w' ⟨r, h1, h2, h3⟩ => ⟨by rw [h1, (h2.congr HK.out.same).one hr1], by rw [h3]; exact Below.refl _ _⟩))
                      have hU2 : ∀ p : Grows wr, Calls Try.prog 15 #[u9, .int .i64 (1 + (mq : Int))] p.val fun e w' => e = .returned (.int .i64 r2) ∧ ∃ p' : Grows wr, w' = p'.val := fun p => by
                        obtain ⟨A, c, hv, hl⟩ := (HK.out.own.below p.prop).lies
                        rw [hv, HK.out.len]
                        rw [HK.out.len] at hl
                        exact Calls.grows ((rrun_says p.val A N c u' hl hN4 (1 + (mq : Int)) (by omega)).mono (fun e w' ⟨r, h1, h2, h3⟩ => ⟨by rw [h1, (h2.congr HK.out.same).one hr2], by rw [h3]; exact Below.refl _ _⟩))
                      have p0 : ∀ p : Grows wr, p.val.cell? ⟨w1.heap.size, 0, none⟩ = some (.int .i64 (N : Int)) := fun p => (HK.out.s.below p.prop).cells.1
                      have p1 : ∀ p : Grows wr, p.val.cell? ⟨w1.heap.size, 1, none⟩ = some x2 := fun p => (HK.out.s.below p.prop).cells.2
                      have p2 : ∀ p : Grows wr, p.val.cell? ⟨gact, 1, none⟩ = some (.int .i64 m) := fun p => (Box.cell (Box.below H.out.2.2.1 p.prop H.out.2.2.1.lt) 1).trans rfl
                      have HS := Lib.hid (And.intro hS1 (And.intro hS2 (And.intro hU1 hU2)))
                      have HRR := Lib.hid (And.intro hr1 hr2)
                      clear hS1 hS2 hU1 hU2 hr1 hr2 a0' a1'
                      go_upto_region 28 with fail
                      refine wp_region_grows (by kernel_rfl) (by kernel_rfl) ?_
                      repeat (first
                        | (with_reducible refine wpQuiet_no ?_ ?_; (· first | (go_simp; done) | (go_simp; simp [undef]; done)); simp only [Act.put, List.setIfInBounds_toArray, List.set_cons_zero, List.set_cons_succ])
                        | quiet_step (first | (go_at_call 14; first | (with_reducible exact HS.out.1 _) | (with_reducible exact HS.out.2.1 _)) | (go_at_call 15; first | (with_reducible exact HS.out.2.2.1 _) | (with_reducible exact HS.out.2.2.2 _))))
                      refine wpQuiet_nil ?_
                      rintro wz ⟨⟨_, hwz⟩, rfl⟩
                      have HW := Lib.hid (HK.out.below hwz)
                      clear hwz p0 p1 p2 HS HK
                      go_wp2_with fail
                      go_roundw
                      case rel => exact ⟨j + 1, x2, l2, u', by go_num, by omega, HW⟩
                      case measure => simp [intOf]; omega
              · skip
                obtain ⟨s0, s1⟩ := H.out.s.cells
                go_wp2_with fail
                go_at_call 11
                refine (bbytes_says wr w.heap.size N x l H.out.s.own H.out.s.bel.size (by omega)).mono ?_
                rintro e wc ⟨v5, rfl, ho, hb⟩
                obtain ⟨A5, c5, hv5, hl5⟩ := ho.lies
                subst hv5
                have HC := Lib.hid (And.intro (H.out.below hb) (ho.base H.out.s.bel.size))
                clear ho hb s0 s1 hl5 H
                go_wp2_with fail
                go_loopw [17, 18] (fun ct i wq => ∃ K : Nat, K ≤ N + 2 ∧ i = .int .i64 ((K : Int) - 1) ∧ ct = .int .i64 (((List.range (K - 1)).countP (hasB l) : Nat) : Int) ∧ Hid (PL w wq w1.heap.size N x u9 l u ∧ Own wq w.heap.size (.slice A5 l.length c5) l)) (fun _ i _ => N + 2 - (intOf i + 1).toNat)
                case atStart => exact ⟨0, by omega, rfl, rfl, HC⟩
                case round =>
                  clear HC
                  obtain ⟨K, hK, rfl, rfl, G⟩ := hrel
                  obtain ⟨s0, s1⟩ := G.out.1.s.cells
                  obtain ⟨q, hq⟩ : ∃ q, (K : Int) - 1 = q := ⟨_, rfl⟩
                  rw [hq]
                  by_cases hle : q ≤ (N : Int)
                  · by_cases g0 : q < 0
                    · have g0' : ¬ 0 ≤ q := by omega
                      have HBV := Lib.hid (show (decide (0 ≤ q ∧ q < (N : Int)) && hasB l q.toNat) = false by rw [decide_eq_false (by omega)]; rfl)
                      go_wp2_with fail
                      go_at_call 16
                      refine (bhas_says wr w.heap.size N x l G.out.1.s.own G.out.1.cut.room hN4 q (by omega)).mono ?_
                      rintro e wm ⟨rfl, hb⟩
                      rw [HBV.out]
                      have G2 := Lib.hid (And.intro (G.out.1.below hb) (G.out.2.below hb))
                      clear hb s0 s1
                      obtain ⟨s0, s1⟩ := G2.out.1.s.cells
                      go_wp2_with fail
                      go_at_call 10
                      refine (rhas_says wm A5 l.length c5 l (own_lies G2.out.2) (by omega) (N : Int) (by omega) q (by omega)).mono ?_
                      rintro e wn ⟨rfl, rfl⟩
                      rw [HBV.out]
                      clear s0 s1
                      go_wp2_with fail
                      go_roundw
                      case rel => exact ⟨K + 1, by omega, congrArg (Value.int .i64) (by omega), congrArg (Value.int .i64) (by rw [show K + 1 - 1 = K - 1 by omega]), G2⟩
                      case measure => simp [intOf]; omega
                    · have g0' : 0 ≤ q := by omega
                      obtain ⟨J, hJ⟩ : ∃ J : Nat, q = (J : Int) := ⟨q.toNat, by omega⟩
                      subst hJ
                      have HCN := Lib.hid (show (List.range (K + 1 - 1)).countP (hasB l) = (List.range (K - 1)).countP (hasB l) + (if hasB l J = true then 1 else 0) by
                        rw [show K + 1 - 1 = J + 1 by omega, show K - 1 = J by omega, List.range_succ, List.countP_append]
                        simp [List.countP_cons])
                      by_cases g1 : (J : Int) < (N : Int)
                      · obtain ⟨gu, cu, hv, _, _, hcu, _⟩ := G.out.1.own.at (i := J) (by rw [G.out.1.len]; omega)
                        have hlu := G.out.1.len
                        rw [hlu] at hv
                        obtain ⟨z, hz⟩ : ∃ z, hasB l J = z := ⟨_, rfl⟩
                        rw [G.out.1.same J (by omega), hz] at hcu
                        subst hv
                        have HBV := Lib.hid (show (decide (0 ≤ (J : Int) ∧ (J : Int) < (N : Int)) && hasB l (J : Int).toNat) = z by rw [decide_eq_true ⟨g0', g1⟩, Int.toNat_natCast, hz]; rfl)
                        rw [hz] at HCN
                        have hcl : (List.range (K - 1)).countP (hasB l) ≤ 4096 := Nat.le_trans List.countP_le_length (by rw [List.length_range]; omega)
                        clear hz hlu
                        cases z
                        · obtain ⟨cc, hcc⟩ : ∃ cc, (List.range (K - 1)).countP (hasB l) = cc := ⟨_, rfl⟩
                          rw [hcc] at hcl HCN ⊢
                          go_wp2_with fail
                          go_at_call 16
                          refine (bhas_says wr w.heap.size N x l G.out.1.s.own G.out.1.cut.room hN4 (J : Int) (by omega)).mono ?_
                          rintro e wm ⟨rfl, hb⟩
                          rw [HBV.out]
                          have G2 := Lib.hid (And.intro (G.out.1.below hb) (G.out.2.below hb))
                          clear hb s0 s1
                          obtain ⟨s0, s1⟩ := G2.out.1.s.cells
                          go_wp2_with fail
                          go_at_call 10
                          refine (rhas_says wm A5 l.length c5 l (own_lies G2.out.2) (by omega) (N : Int) (by omega) (J : Int) (by omega)).mono ?_
                          rintro e wn ⟨rfl, rfl⟩
                          rw [HBV.out]
                          clear s0 s1
                          go_wp2_with fail
                          go_roundw
                          case rel => exact ⟨K + 1, by omega, congrArg (Value.int .i64) (by omega), congrArg (Value.int .i64) (by have := HCN.out; simp at this; simp; omega), G2⟩
                          case measure => simp [intOf]; omega
                        · obtain ⟨cc, hcc⟩ : ∃ cc, (List.range (K - 1)).countP (hasB l) = cc := ⟨_, rfl⟩
                          rw [hcc] at hcl HCN ⊢
                          go_wp2_with fail
                          go_at_call 16
                          refine (bhas_says wr w.heap.size N x l G.out.1.s.own G.out.1.cut.room hN4 (J : Int) (by omega)).mono ?_
                          rintro e wm ⟨rfl, hb⟩
                          rw [HBV.out]
                          have G2 := Lib.hid (And.intro (G.out.1.below hb) (G.out.2.below hb))
                          clear hb s0 s1
                          obtain ⟨s0, s1⟩ := G2.out.1.s.cells
                          go_wp2_with fail
                          go_at_call 10
                          refine (rhas_says wm A5 l.length c5 l (own_lies G2.out.2) (by omega) (N : Int) (by omega) (J : Int) (by omega)).mono ?_
                          rintro e wn ⟨rfl, rfl⟩
                          rw [HBV.out]
                          clear s0 s1
                          go_wp2_with fail
                          go_roundw
                          case rel => exact ⟨K + 1, by omega, congrArg (Value.int .i64) (by omega), congrArg (Value.int .i64) (by have := HCN.out; simp at this; simp; omega), G2⟩
                          case measure => simp [intOf]; omega
                      · have HBV := Lib.hid (show (decide (0 ≤ (J : Int) ∧ (J : Int) < (N : Int)) && hasB l (J : Int).toNat) = false by rw [decide_eq_false (by omega)]; rfl)
                        have hno := G.out.1.cut.2 J (by omega)
                        rw [hno] at HCN
                        clear hno
                        obtain ⟨cc, hcc⟩ : ∃ cc, (List.range (K - 1)).countP (hasB l) = cc := ⟨_, rfl⟩
                        rw [hcc] at HCN ⊢
                        go_wp2_with fail
                        go_at_call 16
                        refine (bhas_says wr w.heap.size N x l G.out.1.s.own G.out.1.cut.room hN4 (J : Int) (by omega)).mono ?_
                        rintro e wm ⟨rfl, hb⟩
                        rw [HBV.out]
                        have G2 := Lib.hid (And.intro (G.out.1.below hb) (G.out.2.below hb))
                        clear hb s0 s1
                        obtain ⟨s0, s1⟩ := G2.out.1.s.cells
                        go_wp2_with fail
                        go_at_call 10
                        refine (rhas_says wm A5 l.length c5 l (own_lies G2.out.2) (by omega) (N : Int) (by omega) (J : Int) (by omega)).mono ?_
                        rintro e wn ⟨rfl, rfl⟩
                        rw [HBV.out]
                        clear s0 s1
                        go_wp2_with fail
                        go_roundw
                        case rel => exact ⟨K + 1, by omega, congrArg (Value.int .i64) (by omega), congrArg (Value.int .i64) (by have := HCN.out; simp at this; simp; omega), G2⟩
                        case measure => simp [intOf]; omega
                  · have hK2 : K = N + 2 := by omega
                    have hcnt : (List.range (K - 1)).countP (hasB l) = usedL l := by
                      rw [G.out.1.cut.used]
                      exact countP_range_more _ _ _ (by omega) G.out.1.cut.2
                    rw [hcnt]
                    have el : (l.length : Int) = ((N : Int) + 7) / 8 := by have := G.out.1.cut.1; omega
                    obtain ⟨ul, hul⟩ : ∃ ul, usedL l = ul := ⟨_, rfl⟩
                    rw [hul]
                    have HU := Lib.hid hul
                    clear hcnt hul
                    go_wp2_with fail
                    go_at_call 8
                    refine (bused_says wr w.heap.size N x l G.out.1.s.own (by omega)).mono ?_
                    rintro e wm ⟨rfl, hb⟩
                    rw [HU.out]
                    have G2 := Lib.hid (And.intro (G.out.1.s.bel.trans (hb.mono G.out.1.s.bel.size)) (And.intro (G.out.2.below hb) G.out.1.cut))
                    clear hb s0 s1 G
                    have HOF := Lib.hid (bof_says wm A5 l.length c5 l (own_lies G2.out.2.1) (N : Int) (by omega))
                    rw [howMany_nat N hN4, G2.out.2.2.of] at HOF
                    go_wp2_with fail
                    go_at_call 5
                    refine HOF.out.mono ?_
                    rintro e wn ⟨xo, rfl, ho, hb⟩
                    have G3 := Lib.hid (And.intro (G2.out.1.trans (hb.mono G2.out.1.size)) ho)
                    clear hb ho HOF
                    go_wp2_with fail
                    go_at_call 8
                    refine (bused_says wn wm.heap.size N xo l G3.out.2 (by omega)).mono ?_
                    rintro e wo ⟨rfl, hb⟩
                    rw [HU.out]
                    have G4 := Lib.hid (G3.out.1.trans (hb.mono G3.out.1.size))
                    clear hb
                    go_wp2_with fail
                    go_at_call 9
                    refine (bone_says wo).mono ?_
                    rintro e wy ⟨rfl, hb⟩
                    have G5 := Lib.hid (G4.out.trans (hb.mono G4.out.size))
                    clear hb
                    go_wp2_with fail
                    go_ret
                    exact ⟨rfl, G5.out⟩
            · skip
              obtain ⟨s0, s1⟩ := H.out.s.cells
              go_wp2_with fail
              go_at_call 11
              refine (bbytes_says wr w.heap.size N x l H.out.s.own H.out.s.bel.size (by omega)).mono ?_
              rintro e wc ⟨v5, rfl, ho, hb⟩
              obtain ⟨A5, c5, hv5, hl5⟩ := ho.lies
              subst hv5
              have HC := Lib.hid (And.intro (H.out.below hb) (ho.base H.out.s.bel.size))
              clear ho hb s0 s1 hl5 H
              go_wp2_with fail
              go_loopw [17, 18] (fun ct i wq => ∃ K : Nat, K ≤ N + 2 ∧ i = .int .i64 ((K : Int) - 1) ∧ ct = .int .i64 (((List.range (K - 1)).countP (hasB l) : Nat) : Int) ∧ Hid (PL w wq w1.heap.size N x u9 l u ∧ Own wq w.heap.size (.slice A5 l.length c5) l)) (fun _ i _ => N + 2 - (intOf i + 1).toNat)
              case atStart => exact ⟨0, by omega, rfl, rfl, HC⟩
              case round =>
                clear HC
                obtain ⟨K, hK, rfl, rfl, G⟩ := hrel
                obtain ⟨s0, s1⟩ := G.out.1.s.cells
                obtain ⟨q, hq⟩ : ∃ q, (K : Int) - 1 = q := ⟨_, rfl⟩
                rw [hq]
                by_cases hle : q ≤ (N : Int)
                · by_cases g0 : q < 0
                  · have g0' : ¬ 0 ≤ q := by omega
                    have HBV := Lib.hid (show (decide (0 ≤ q ∧ q < (N : Int)) && hasB l q.toNat) = false by rw [decide_eq_false (by omega)]; rfl)
                    go_wp2_with fail
                    go_at_call 16
                    refine (bhas_says wr w.heap.size N x l G.out.1.s.own G.out.1.cut.room hN4 q (by omega)).mono ?_
                    rintro e wm ⟨rfl, hb⟩
                    rw [HBV.out]
                    have G2 := Lib.hid (And.intro (G.out.1.below hb) (G.out.2.below hb))
                    clear hb s0 s1
                    obtain ⟨s0, s1⟩ := G2.out.1.s.cells
                    go_wp2_with fail
                    go_at_call 10
                    refine (rhas_says wm A5 l.length c5 l (own_lies G2.out.2) (by omega) (N : Int) (by omega) q (by omega)).mono ?_
                    rintro e wn ⟨rfl, rfl⟩
                    rw [HBV.out]
                    clear s0 s1
                    go_wp2_with fail
                    go_roundw
                    case rel => exact ⟨K + 1, by omega, congrArg (Value.int .i64) (by omega), congrArg (Value.int .i64) (by rw [show K + 1 - 1 = K - 1 by omega]), G2⟩
                    case measure => simp [intOf]; omega
                  · have g0' : 0 ≤ q := by omega
                    obtain ⟨J, hJ⟩ : ∃ J : Nat, q = (J : Int) := ⟨q.toNat, by omega⟩
                    subst hJ
                    have HCN := Lib.hid (show (List.range (K + 1 - 1)).countP (hasB l) = (List.range (K - 1)).countP (hasB l) + (if hasB l J = true then 1 else 0) by
                      rw [show K + 1 - 1 = J + 1 by omega, show K - 1 = J by omega, List.range_succ, List.countP_append]
                      simp [List.countP_cons])
                    by_cases g1 : (J : Int) < (N : Int)
                    · obtain ⟨gu, cu, hv, _, _, hcu, _⟩ := G.out.1.own.at (i := J) (by rw [G.out.1.len]; omega)
                      have hlu := G.out.1.len
                      rw [hlu] at hv
                      obtain ⟨z, hz⟩ : ∃ z, hasB l J = z := ⟨_, rfl⟩
                      rw [G.out.1.same J (by omega), hz] at hcu
                      subst hv
                      have HBV := Lib.hid (show (decide (0 ≤ (J : Int) ∧ (J : Int) < (N : Int)) && hasB l (J : Int).toNat) = z by rw [decide_eq_true ⟨g0', g1⟩, Int.toNat_natCast, hz]; rfl)
                      rw [hz] at HCN
                      have hcl : (List.range (K - 1)).countP (hasB l) ≤ 4096 := Nat.le_trans List.countP_le_length (by rw [List.length_range]; omega)
                      clear hz hlu
                      cases z
                      · obtain ⟨cc, hcc⟩ : ∃ cc, (List.range (K - 1)).countP (hasB l) = cc := ⟨_, rfl⟩
                        rw [hcc] at hcl HCN ⊢
                        go_wp2_with fail
                        go_at_call 16
                        refine (bhas_says wr w.heap.size N x l G.out.1.s.own G.out.1.cut.room hN4 (J : Int) (by omega)).mono ?_
                        rintro e wm ⟨rfl, hb⟩
                        rw [HBV.out]
                        have G2 := Lib.hid (And.intro (G.out.1.below hb) (G.out.2.below hb))
                        clear hb s0 s1
                        obtain ⟨s0, s1⟩ := G2.out.1.s.cells
                        go_wp2_with fail
                        go_at_call 10
                        refine (rhas_says wm A5 l.length c5 l (own_lies G2.out.2) (by omega) (N : Int) (by omega) (J : Int) (by omega)).mono ?_
                        rintro e wn ⟨rfl, rfl⟩
                        rw [HBV.out]
                        clear s0 s1
                        go_wp2_with fail
                        go_roundw
                        case rel => exact ⟨K + 1, by omega, congrArg (Value.int .i64) (by omega), congrArg (Value.int .i64) (by have := HCN.out; simp at this; simp; omega), G2⟩
                        case measure => simp [intOf]; omega
                      · obtain ⟨cc, hcc⟩ : ∃ cc, (List.range (K - 1)).countP (hasB l) = cc := ⟨_, rfl⟩
                        rw [hcc] at hcl HCN ⊢
                        go_wp2_with fail
                        go_at_call 16
                        refine (bhas_says wr w.heap.size N x l G.out.1.s.own G.out.1.cut.room hN4 (J : Int) (by omega)).mono ?_
                        rintro e wm ⟨rfl, hb⟩
                        rw [HBV.out]
                        have G2 := Lib.hid (And.intro (G.out.1.below hb) (G.out.2.below hb))
                        clear hb s0 s1
                        obtain ⟨s0, s1⟩ := G2.out.1.s.cells
                        go_wp2_with fail
                        go_at_call 10
                        refine (rhas_says wm A5 l.length c5 l (own_lies G2.out.2) (by omega) (N : Int) (by omega) (J : Int) (by omega)).mono ?_
                        rintro e wn ⟨rfl, rfl⟩
                        rw [HBV.out]
                        clear s0 s1
                        go_wp2_with fail
                        go_roundw
                        case rel => exact ⟨K + 1, by omega, congrArg (Value.int .i64) (by omega), congrArg (Value.int .i64) (by have := HCN.out; simp at this; simp; omega), G2⟩
                        case measure => simp [intOf]; omega
                    · have HBV := Lib.hid (show (decide (0 ≤ (J : Int) ∧ (J : Int) < (N : Int)) && hasB l (J : Int).toNat) = false by rw [decide_eq_false (by omega)]; rfl)
                      have hno := G.out.1.cut.2 J (by omega)
                      rw [hno] at HCN
                      clear hno
                      obtain ⟨cc, hcc⟩ : ∃ cc, (List.range (K - 1)).countP (hasB l) = cc := ⟨_, rfl⟩
                      rw [hcc] at HCN ⊢
                      go_wp2_with fail
                      go_at_call 16
                      refine (bhas_says wr w.heap.size N x l G.out.1.s.own G.out.1.cut.room hN4 (J : Int) (by omega)).mono ?_
                      rintro e wm ⟨rfl, hb⟩
                      rw [HBV.out]
                      have G2 := Lib.hid (And.intro (G.out.1.below hb) (G.out.2.below hb))
                      clear hb s0 s1
                      obtain ⟨s0, s1⟩ := G2.out.1.s.cells
                      go_wp2_with fail
                      go_at_call 10
                      refine (rhas_says wm A5 l.length c5 l (own_lies G2.out.2) (by omega) (N : Int) (by omega) (J : Int) (by omega)).mono ?_
                      rintro e wn ⟨rfl, rfl⟩
                      rw [HBV.out]
                      clear s0 s1
                      go_wp2_with fail
                      go_roundw
                      case rel => exact ⟨K + 1, by omega, congrArg (Value.int .i64) (by omega), congrArg (Value.int .i64) (by have := HCN.out; simp at this; simp; omega), G2⟩
                      case measure => simp [intOf]; omega
                · have hK2 : K = N + 2 := by omega
                  have hcnt : (List.range (K - 1)).countP (hasB l) = usedL l := by
                    rw [G.out.1.cut.used]
                    exact countP_range_more _ _ _ (by omega) G.out.1.cut.2
                  rw [hcnt]
                  have el : (l.length : Int) = ((N : Int) + 7) / 8 := by have := G.out.1.cut.1; omega
                  obtain ⟨ul, hul⟩ : ∃ ul, usedL l = ul := ⟨_, rfl⟩
                  rw [hul]
                  have HU := Lib.hid hul
                  clear hcnt hul
                  go_wp2_with fail
                  go_at_call 8
                  refine (bused_says wr w.heap.size N x l G.out.1.s.own (by omega)).mono ?_
                  rintro e wm ⟨rfl, hb⟩
                  rw [HU.out]
                  have G2 := Lib.hid (And.intro (G.out.1.s.bel.trans (hb.mono G.out.1.s.bel.size)) (And.intro (G.out.2.below hb) G.out.1.cut))
                  clear hb s0 s1 G
                  have HOF := Lib.hid (bof_says wm A5 l.length c5 l (own_lies G2.out.2.1) (N : Int) (by omega))
                  rw [howMany_nat N hN4, G2.out.2.2.of] at HOF
                  go_wp2_with fail
                  go_at_call 5
                  refine HOF.out.mono ?_
                  rintro e wn ⟨xo, rfl, ho, hb⟩
                  have G3 := Lib.hid (And.intro (G2.out.1.trans (hb.mono G2.out.1.size)) ho)
                  clear hb ho HOF
                  go_wp2_with fail
                  go_at_call 8
                  refine (bused_says wn wm.heap.size N xo l G3.out.2 (by omega)).mono ?_
                  rintro e wo ⟨rfl, hb⟩
                  rw [HU.out]
                  have G4 := Lib.hid (G3.out.1.trans (hb.mono G3.out.1.size))
                  clear hb
                  go_wp2_with fail
                  go_at_call 9
                  refine (bone_says wo).mono ?_
                  rintro e wy ⟨rfl, hb⟩
                  have G5 := Lib.hid (G4.out.trans (hb.mono G4.out.size))
                  clear hb
                  go_wp2_with fail
                  go_ret
                  exact ⟨rfl, G5.out⟩
end Go.Proofs.Ytnhondkdkjehaaa
