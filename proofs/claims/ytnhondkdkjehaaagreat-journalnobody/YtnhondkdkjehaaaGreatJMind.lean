/-
  mind: what is on the device in the log, and ends as a sealed block of a transaction does, is noted.
-/
import Derived.Test.YtnhondkdkjehaaaGreatJWet
namespace Go.Proofs.YtnhondkdkjehaaaGreat
open Go.RowKit Go.ChangeMaps Go.MapKept Go.Maps

set_option linter.unusedVariables false
set_option linter.unusedSimpArgs false
/-- Whether a block ends as a sealed one of a transaction does. -/
def kindy (x : Bk) : Bool := let k := x.1.getD 239 0; k == 1 || k == 2
/-- The notes, with one block. -/
def minded (al : Nat → Option Bk) (n : Nat) (x : Bk) : Nat → Option Bk := fun i => if i = n then (if kindy x then some x else none) else al i
/-- One taken away. -/
theorem WetAt.del {w1 w2 : World} {mb q n i : Nat} {J : Nat → Prop} {wet : Nat → Option Bk} {D : DataW Unit} (hm : w2.ownsMap Tryz.prog 3 rowEl mb n (D.del (.int .i64 (i : Int))))
    (hn : n ≤ q ∧ ∀ z : Int, has D (.int .i64 z) = true → 0 ≤ z) (ht : Touch (fun k => k = mb) w1 w2) (hmb : ¬ J mb)
    (hw : ∀ j : Nat, (wet j = none → has D (.int .i64 (j : Int)) = false) ∧ (∀ y, wet j = some y → has D (.int .i64 (j : Int)) = true ∧ ∃ g c : Nat, D.atKey (.int .i64 (j : Int)) .nil = .agg [.lit (.int .i64 (g : Int)), .lit (.int .i64 (c : Int))] ∧ J g ∧ Lies w1 (fun k => k = g) (some ⟨g, 0, none⟩) 256 c (bc y.1))) :
    WetAt w2 mb J q (fun j => if j = i then none else wet j) := by
  have hne : ∀ g, J g → ¬ g = mb := fun g hg e => hmb (e ▸ hg)
  refine ⟨n, _, hm, ⟨hn.1, fun z hz => ?_⟩, fun j => ?_⟩
  · by_cases hj : z = (i : Int)
    · omega
    · have hk : (Lit.int .i64 z) ≠ .int .i64 (i : Int) := fun e => by
        injection e with _ e
        exact hj e
      rw [has_del_other hk] at hz
      exact hn.2 z hz
  by_cases hj : j = i
  · subst hj
    exact ⟨fun _ => has_del_same, fun y hy => by simp at hy⟩
  · have hk : (Lit.int .i64 (j : Int)) ≠ .int .i64 (i : Int) := fun e => by
      injection e with _ e
      exact hj (by omega)
    refine ⟨fun h => ?_, fun y hy => ?_⟩
    · have h : (if j = i then none else wet j) = none := h
      rw [if_neg hj] at h
      rw [has_del_other hk]
      exact (hw j).1 h
    · have hy : (if j = i then none else wet j) = some y := hy
      rw [if_neg hj] at hy
      obtain ⟨a, g', c', b, d, e⟩ := (hw j).2 y hy
      refine ⟨by rw [has_del_other hk]; exact a, g', c', by rw [atKey_del_other hk]; exact b, d, ht.lies e (fun k hk => by have hk' : k = g' := hk; rw [hk']; exact hne g' d)⟩
theorem WetAt.more {w : World} {mb : Nat} {J : Nat → Prop} {q q' : Nat} {wet : Nat → Option Bk} (h : WetAt w mb J q wet) (hq : q ≤ q') : WetAt w mb J q' wet := by
  obtain ⟨n, D, h1, h2, h3⟩ := h
  exact ⟨n, D, h1, ⟨by have := h2.1; omega, h2.2⟩, h3⟩
section
variable {w : World} {p dp : Nat} {L : Lg} {u : Value} {ma q g c n : Nat} {J : Nat → Prop} {al : Nat → Option Bk} {x : Bk}
set_option maxRecDepth 100000 in
set_option maxHeartbeats 4000000 in
theorem jmind_says (hb : Box w p 81 (lc dp (u, .map (some ma)) L)) (hw : WetAt w ma J q al) (hq : q ≤ 100000) (hmJ : ¬ J ma) (hn : n ≤ 100000) (hl : Lies w (fun k => k = g) (some ⟨g, 0, none⟩) 256 c (bc x.1)) (hgm : g ≠ ma) (hpm : p ≠ ma) :
    Calls Tryz.prog 86 #[.pointer (some ⟨p, 0, none⟩), .int .i64 (n : Int), .slice (some ⟨g, 0, none⟩) 256 c] w fun e w' => e = .returned (.tuple #[]) ∧ WetAt w' ma (fun k => J k ∨ k = g) (q + 1) (minded al n x) ∧ Touch (fun k => k = ma) w w' := by
  obtain ⟨N, D, hD, hnq, hall⟩ := hw
  have c5 : w.cell? ⟨p, 9, none⟩ = some (.map (some ma)) := (Box.cell hb 9).trans rfl
  obtain ⟨z, hz⟩ : ∃ z, x.1.getD 239 0 = z := ⟨_, rfl⟩
  have hxl : x.1.length = 256 := x.2
  have hzz : x.1[239]? = some z := by rw [← hz]; simp [List.getD, List.getElem?_eq_getElem (show 239 < x.1.length by omega)]
  obtain ⟨_, _, hA, _, hgl, hc⟩ := hl.at (j := 239) (u := .int .u8 (z.toNat : Int)) (by simp [bc, hzz])
  injection hA with hA
  injection hA with hA1 hA2
  subst hA1 hA2
  rw [Nat.zero_add] at hc
  have HZ := Lib.hid (show (bc x.1)[239]? = some (.int .u8 (z.toNat : Int)) by simp [bc, hzz])
  have HB := Lib.hid (And.intro hb (And.intro hD (And.intro hnq (And.intro hall (And.intro hl hc)))))
  have hkz : kindy x = (z == 1 || z == 2) := by unfold kindy; rw [hz]
  have HK := Lib.hid hkz
  clear hb hD hall hl hzz hz hkz hc
  go_enter Tryz.func86, Tryz.ntmps86
  go_upto_region 1 with (at_delete; refine wpList_delete_own _ rfl _ _ 79 3 rfl 49 intKey Tryz.underlying79 rowEl ma N D rfl HB.out.2.1 (.int .i64 (n : Int)) (.int .i64 (n : Int)) rfl (keyInt n (by omega)) ?_; intro w1 hown1 hturn1)
  obtain ⟨qb, qD, qn, qall, ql, qc⟩ := HB.out
  have ht1 : Touch (fun k => k = ma) w w1 := Touch.of_grown hturn1.grown (fun k e => by injection e with e; exact e.symm)
  have hw1 : WetAt w1 ma J q (fun j => if j = n then none else al j) := WetAt.del hown1 qn ht1 hmJ qall
  have hl1 : Lies w1 (fun k => k = g) (some ⟨g, 0, none⟩) 256 c (bc x.1) := ht1.lies ql (fun k hk => by have hk' : k = g := hk; rw [hk']; exact hgm)
  have hb1 := ht1.box qb (fun e => hpm e)
  have c1 : w1.cell? ⟨g, 239, none⟩ = some (.int .u8 (z.toNat : Int)) := by
    obtain ⟨_, _, hA, _, _, hc⟩ := hl1.at (j := 239) (u := .int .u8 (z.toNat : Int)) (HZ.out)
    injection hA with hA
    injection hA with hA1 hA2
    subst hA1 hA2
    rw [Nat.zero_add] at hc
    exact hc
  have c9 : w1.cell? ⟨p, 9, none⟩ = some (.map (some ma)) := (Box.cell hb1 9).trans rfl
  have H1 := Lib.hid (And.intro ht1 (And.intro hw1 (And.intro hl1 hb1)))
  clear qb qD qn qall ql qc ht1 hw1 hl1 hb1 hown1 hturn1 HB c5
  cases hk : kindy x
  · have hz1 : ¬ z = 1 := fun e => by rw [hk, e] at HK; have := HK.out; cases this
    have hz2 : ¬ z = 2 := fun e => by rw [hk, e] at HK; have := HK.out; cases this
    have n1 : ((z.toNat : Int) == 1) = false := beq_eq_false_iff_ne.2 (fun e => hz1 (UInt8.toNat_inj.1 (by show z.toNat = 1; omega)))
    have n2 : ((z.toNat : Int) == 2) = false := beq_eq_false_iff_ne.2 (fun e => hz2 (UInt8.toNat_inj.1 (by show z.toNat = 2; omega)))
    generalize z.toNat = zz at *
    go_wp2
    go_end0
    refine ⟨rfl, ?_, H1.out.1⟩
    have := (H1.out.2.1.weak (J' := fun k => J k ∨ k = g) (fun k _ h => .inl h)).more (q' := q + 1) (by omega)
    unfold minded
    rw [hk]
    exact this
  · have hz12 : (z.toNat : Int) = 1 ∨ (z.toNat : Int) = 2 := by
      have := HK.out
      rw [hk] at this
      have h2 := (Bool.or_eq_true _ _).mp this.symm
      rcases h2 with h | h
      · left
        rw [eq_of_beq h]
        rfl
      · right
        rw [eq_of_beq h]
        rfl
    obtain ⟨N1, D1, hD1, hn1, hall1⟩ := H1.out.2.1
    have HD := Lib.hid (And.intro hD1 (And.intro hn1 hall1))
    have hN1 := hn1.1
    clear hD1 hn1 hall1
    have hput : ∀ w2, w2.ownsMap Tryz.prog 3 rowEl ma (N1 + 1) (D1.put (.int .i64 (n : Int)) (.agg [.lit (.int .i64 (g : Int)), .lit (.int .i64 (c : Int))])) → w1.mapTurned w2 ma → WetAt w2 ma (fun k => J k ∨ k = g) (q + 1) (minded al n x) ∧ Touch (fun k => k = ma) w w2 := fun w2 hown2 hturn2 => by
      have ht2 : Touch (fun k => k = ma) w1 w2 := Touch.of_grown hturn2.grown (fun k e => by injection e with e; exact e.symm)
      have := WetAt.put (w := w) (q := q) (J := fun k => J k ∨ k = g) (wet := fun j => if j = n then none else al j) hown2 (HD.out.1.isMap) HD.out.2.1 (.inr rfl) H1.out.2.2.1 ht2 (fun h => h.elim hmJ (fun e => hgm e.symm)) (fun j => ⟨(HD.out.2.2 j).1, fun y hy => by
        obtain ⟨a, g', c', b, d, e⟩ := (HD.out.2.2 j).2 y hy
        exact ⟨a, g', c', b, .inl d, e⟩⟩)
      refine ⟨?_, H1.out.1.trans ht2⟩
      unfold minded
      rw [hk]
      have e : (fun i => if i = n then (if true = true then some x else none) else al i) = (fun j => if j = n then some x else if j = n then none else al j) := by
        funext j
        by_cases hj : j = n
        · simp [hj]
        · simp [hj]
      rw [e]
      exact this
    have HP := Lib.hid hput
    clear hput
    rcases hz12 with hz12 | hz12
    · generalize z.toNat = zz at *
      go_wp2_with (at_mapUpdate; refine wpList_mapUpdate_in _ rfl _ _ _ 79 rfl 3 49 intKey Tryz.underlying79 rowEl ma N1 D1 rfl HD.out.1 (by unfold maxLen; omega) (.int .i64 (n : Int)) (.slice (some ⟨g, 0, none⟩) 256 c) (.int .i64 (n : Int)) rfl rfl (keyInt n (by omega)) _ [] (rowEl_mk g c) ?_; intro w2 hown2 hturn2; have H2 := Lib.hid (HP.out w2 hown2 hturn2); clear hown2 hturn2)
      go_end0
      exact ⟨rfl, H2.out⟩
    · generalize z.toNat = zz at *
      go_wp2_with (at_mapUpdate; refine wpList_mapUpdate_in _ rfl _ _ _ 79 rfl 3 49 intKey Tryz.underlying79 rowEl ma N1 D1 rfl HD.out.1 (by unfold maxLen; omega) (.int .i64 (n : Int)) (.slice (some ⟨g, 0, none⟩) 256 c) (.int .i64 (n : Int)) rfl rfl (keyInt n (by omega)) _ [] (rowEl_mk g c) ?_; intro w2 hown2 hturn2; have H2 := Lib.hid (HP.out w2 hown2 hturn2); clear hown2 hturn2)
      go_end0
      exact ⟨rfl, H2.out⟩
end
end Go.Proofs.YtnhondkdkjehaaaGreat
