/-
  Blocks that are not laid: a map of rows of bytes; bytes.Clone; clear.
-/
import Derived.Test.YtnhondkdkjehaaaGreatJChs
import Derived.Maps.OwnSet
namespace Go.Proofs.YtnhondkdkjehaaaGreat
open Go.RowKit Go.ChangeMaps Go.MapKept Go.Maps

set_option linter.unusedVariables false
set_option linter.unusedSimpArgs false
/-- How an element reads: the block that it lies in. -/
def rowEl : Value → Option (DataW Unit × List MemPlace)
  | .slice none 0 0 => some (.nil, [])
  | .slice (some ⟨g, 0, none⟩) 256 c => some (.agg [.lit (.int .i64 (g : Int)), .lit (.int .i64 (c : Int))], [])
  | _ => none
theorem rowEl_nil : rowEl (.slice none 0 0) = some (.nil, []) := rfl
theorem rowEl_mk (g c : Nat) : rowEl (.slice (some ⟨g, 0, none⟩) 256 c) = some (.agg [.lit (.int .i64 (g : Int)), .lit (.int .i64 (c : Int))], []) := rfl
theorem rowEl_inv {v : Value} {g c : Nat} {ps : List MemPlace} (h : rowEl v = some (.agg [.lit (.int .i64 (g : Int)), .lit (.int .i64 (c : Int))], ps)) : v = .slice (some ⟨g, 0, none⟩) 256 c := by
  unfold rowEl at h
  split at h
  · simp at h
  · simp at h
    obtain ⟨⟨h1, h2⟩, _⟩ := h
    cases Int.ofNat_inj.1 h1
    cases Int.ofNat_inj.1 h2
    rfl
  · cases h
theorem intKey : Maps.Keyed Tryz.prog 3 := Maps.int_keyed Tryz.underlying3
theorem keyInt (i : Nat) (h : i ≤ 1000000) : keyOf Tryz.prog 3 (.int .i64 (i : Int)) = some (.int .i64 (i : Int)) := keyOf_int_mk Tryz.underlying3 (WalkArith.wf_i64 (by omega))
theorem zeroRow (w : World) : (zeroValue 49).run Tryz.prog w = .ok (.slice none 0 0) w := by kernel_rfl
/-- The map at block mb tells the blocks that are not laid; their bytes lie in blocks that fit J. -/
def WetAt (w : World) (mb : Nat) (J : Nat → Prop) (q : Nat) (wet : Nat → Option Bk) : Prop :=
  ∃ n D, w.ownsMap Tryz.prog 3 rowEl mb n D ∧ (n ≤ q ∧ ∀ z : Int, has D (.int .i64 z) = true → 0 ≤ z) ∧ ∀ i : Nat, (wet i = none → Maps.has D (.int .i64 (i : Int)) = false) ∧
    (∀ x, wet i = some x → Maps.has D (.int .i64 (i : Int)) = true ∧ ∃ g c : Nat, D.atKey (.int .i64 (i : Int)) .nil = .agg [.lit (.int .i64 (g : Int)), .lit (.int .i64 (c : Int))] ∧ J g ∧ Lies w (fun k => k = g) (some ⟨g, 0, none⟩) 256 c (bc x.1))
theorem WetAt.lt {w : World} {mb : Nat} {J : Nat → Prop} {q : Nat} {wet : Nat → Option Bk} (h : WetAt w mb J q wet) : mb < w.heap.size := by
  obtain ⟨n, D, h1, _⟩ := h
  exact h1.lt
theorem WetAt.touch {w w' : World} {mb : Nat} {J K : Nat → Prop} {q : Nat} {wet : Nat → Option Bk} (h : WetAt w mb J q wet) (ht : Touch K w w') (hm : ¬ K mb) (hJ : ∀ k, J k → ¬ K k) : WetAt w' mb J q wet := by
  obtain ⟨n, D, h1, h2, h3⟩ := h
  obtain ⟨es, clock, e1, e2⟩ := h1
  refine ⟨n, D, ⟨es, clock, (ht.block mb (Array.getElem?_eq_some_iff.1 e1).1 hm).trans e1, e2⟩, h2, fun i => ⟨(h3 i).1, fun x hx => ?_⟩⟩
  obtain ⟨a, g, c, b, d, e⟩ := (h3 i).2 x hx
  exact ⟨a, g, c, b, d, ht.lies e (fun k hk => by have hk' : k = g := hk; rw [hk']; exact hJ g d)⟩
theorem WetAt.weak {w : World} {mb : Nat} {J J' : Nat → Prop} {q : Nat} {wet : Nat → Option Bk} (h : WetAt w mb J q wet) (hJ : ∀ k, k < w.heap.size → J k → J' k) : WetAt w mb J' q wet := by
  obtain ⟨n, D, h1, h2, h3⟩ := h
  refine ⟨n, D, h1, h2, fun i => ⟨(h3 i).1, fun x hx => ?_⟩⟩
  obtain ⟨a, g, c, b, d, e⟩ := (h3 i).2 x hx
  obtain ⟨ad, q1, q2, q3, _⟩ := e.2.2 (by omega)
  injection q1 with q1
  subst q1
  exact ⟨a, g, c, b, hJ g q3 d, e⟩
theorem WetAt.none_yet {w : World} {mb n : Nat} (J : Nat → Prop) (h : w.ownsMap Tryz.prog 3 rowEl mb n (.map [])) : WetAt w mb J n (fun _ => none) :=
  ⟨n, _, h, ⟨Nat.le_refl _, fun z hz => by cases hz⟩, fun i => ⟨fun _ => rfl, fun x hx => by cases hx⟩⟩
/-- With changes that are not laid. -/
def wetPut (wet : Nat → Option Bk) (cs : List Cg) : Nat → Option Bk := cs.foldl (fun f x => fun i => if i = x.1 then some x.2 else f i) wet
theorem wetPut_snoc (wet : Nat → Option Bk) (cs : List Cg) (x : Cg) : wetPut wet (cs ++ [x]) = fun i => if i = x.1 then some x.2 else wetPut wet cs i := by simp [wetPut, List.foldl_append]
theorem WetAt.put {w w1 w2 : World} {mb q n i g c : Nat} {J : Nat → Prop} {wet : Nat → Option Bk} {D : DataW Unit} {x : Bk} (hm : w2.ownsMap Tryz.prog 3 rowEl mb (n + 1) (D.put (.int .i64 (i : Int)) (.agg [.lit (.int .i64 (g : Int)), .lit (.int .i64 (c : Int))])))
    (hD : IsMap D) (hn : n ≤ q ∧ ∀ z : Int, has D (.int .i64 z) = true → 0 ≤ z) (hg : J g) (hl : Lies w1 (fun k => k = g) (some ⟨g, 0, none⟩) 256 c (bc x.1)) (ht : Touch (fun k => k = mb) w1 w2) (hmb : ¬ J mb)
    (hw : ∀ j : Nat, (wet j = none → has D (.int .i64 (j : Int)) = false) ∧ (∀ y, wet j = some y → has D (.int .i64 (j : Int)) = true ∧ ∃ g c : Nat, D.atKey (.int .i64 (j : Int)) .nil = .agg [.lit (.int .i64 (g : Int)), .lit (.int .i64 (c : Int))] ∧ J g ∧ Lies w1 (fun k => k = g) (some ⟨g, 0, none⟩) 256 c (bc y.1))) :
    WetAt w2 mb J (q + 1) (fun j => if j = i then some x else wet j) := by
  have hne : ∀ g, J g → ¬ g = mb := fun g hg e => hmb (e ▸ hg)
  refine ⟨n + 1, _, hm, ⟨by have := hn.1; omega, fun z hz => ?_⟩, fun j => ?_⟩
  · by_cases hj : z = (i : Int)
    · omega
    · have hk : (Lit.int .i64 z) ≠ .int .i64 (i : Int) := fun e => by
        injection e with _ e
        exact hj e
      rw [has_put_other hk] at hz
      exact hn.2 z hz
  by_cases hj : j = i
  · subst hj
    have hkl : WideAt.IsKeyLit (.int .i64 (j : Int)) := by unfold WideAt.IsKeyLit; trivial
    refine ⟨fun h => by simp at h, fun y hy => ?_⟩
    simp only [if_true] at hy
    injection hy with hy
    subst hy
    exact ⟨has_put_same hD hkl _, g, c, atKey_put_same hD hkl _ _, hg, ht.lies hl (fun k hk => by have hk' : k = g := hk; rw [hk']; exact hne g hg)⟩
  · have hk : (Lit.int .i64 (j : Int)) ≠ .int .i64 (i : Int) := fun e => by
      injection e with _ e
      exact hj (by omega)
    refine ⟨fun h => ?_, fun y hy => ?_⟩
    · have h : (if j = i then some x else wet j) = none := h
      rw [if_neg hj] at h
      rw [has_put_other hk]
      exact (hw j).1 h
    · have hy : (if j = i then some x else wet j) = some y := hy
      rw [if_neg hj] at hy
      obtain ⟨a, g', c', b, d, e⟩ := (hw j).2 y hy
      refine ⟨by rw [has_put_other hk]; exact a, g', c', by rw [atKey_put_other hk]; exact b, d, ht.lies e (fun k hk => by have hk' : k = g' := hk; rw [hk']; exact hne g' d)⟩
/-- 'clear(m)'. -/
theorem ownsMap_cleared {w : World} {t k e : TypeId} {b n : Nat} {D : DataW Unit} (h : w.ownsMap Tryz.prog k rowEl b n D) (ht : Tryz.prog.underlying t = some (.map k e)) (ty : TypeId) :
    ∃ w', (Builtin.clear_ #[t] ty #[.map (some b)]).run Tryz.prog w = .ok (.tuple #[]) w' ∧ w'.ownsMap Tryz.prog k rowEl b 0 (.map []) ∧ Touch (fun k => k = b) w w' := by
  obtain ⟨es, clock, hb, F, hs, hD⟩ := h
  refine ⟨setBlock w b (.map #[] clock), ?_, ⟨#[], clock, ?_, ⟨by simp, stamped_empty _, by simp⟩, Nat.le_refl _, rfl⟩, ?_⟩
  · simp [Builtin.clear_, run_underlying ht, Go.MapKept.run_getObj_map hb, Go.MapKept.run_setObj_map _ hb, Result.andThen, setBlock]
  · exact heap_setBlock_same hb _
  · exact ⟨rfl, rfl, rfl, by simp [setBlock], fun i _ hi => heap_setBlock_other hb _ hi⟩
theorem wpList_clear_own {ops : Array Oper} {rest : List Oper} {o : Oper} {a : Act} {Q : Exit → Act → World → Prop} (w : World) (hg : o.guard = none) (m : Operand) (t : TypeId) (hop : o.op = Op.call { callee := Callee.builtin Builtin.clear, args := #[m], argTypes := #[t] })
    (k e : TypeId) (ht : Tryz.prog.underlying t = some (.map k e)) (b n : Nat) (D : DataW Unit) (hm : a.eval m = .map (some b)) (hown : w.ownsMap Tryz.prog k rowEl b n D)
    (hK : ∀ w', w'.ownsMap Tryz.prog k rowEl b 0 (.map []) → Touch (fun k => k = b) w w' → wpList Tryz.prog ops Q rest (a.put o.dst (.tuple #[])) w') :
    wpList Tryz.prog ops Q (o :: rest) a w := by
  refine wpList_plain hg fun K' hK' => ?_
  obtain ⟨w', hrun, r1, r2⟩ := ownsMap_cleared hown ht o.type
  unfold Oper.wp
  simp [execOp, hop, resolve, invoke, builtin, hm, hrun, Result.andThen]
  exact hK' _ _ (hK w' r1 r2)
theorem eqlNilB (w : World) (a : Option Addr) (n c n' c' : Nat) : (binOp .eql 49 (.slice a n c) (.slice none n' c')).run Tryz.prog w = .ok (.bool a.isNone) w := Lib.run_eql_slice_nil w _ _ a n c n' c' Tryz.underlying49
set_option maxRecDepth 100000 in
set_option maxHeartbeats 1000000 in
theorem jclone_says (w : World) (A : Option Addr) (c : Nat) (l : List UInt8) (hl : Lies w (fun _ => True) A 256 c (bc l)) :
    Calls Tryz.prog 55 #[.slice A 256 c] w fun e w' => ∃ g cap, e = .returned (.slice (some ⟨g, 0, none⟩) 256 cap) ∧ w.heap.size ≤ g ∧ Lies w' (fun k => k = g) (some ⟨g, 0, none⟩) 256 cap (bc l) ∧ Below w.heap.size w w' := by
  have hll : l.length = 256 := by rw [← bc_length]; exact hl.len
  obtain ⟨ad, rfl, _, hbl, _⟩ := hl.2.2 (by omega)
  have hb1 : Below w.heap.size w (w.alloc (.cells #[] 5)) := (Below.refl _ w).alloc (Nat.le_refl _) _
  have HL := Lib.hid (hl.below hb1)
  have HO := Lib.hid (show Own (w.alloc (.cells #[] 5)) w.heap.size (.slice (some ⟨w.heap.size, 0, none⟩) 0 0) [] from World.ownsRow_made w #[] 0 (Nat.le_refl _) (by unfold maxLen; omega) rfl)
  have HB := Lib.hid hb1
  have HLL := Lib.hid hll
  clear hl hb1 hll hbl
  have q22 := eqlNilB
  go_enter Tryz.func55, Tryz.ntmps55
  go_wp2_with (at_builtin; refine wpList_bytes _ _ _ rfl rfl w.heap.size _ [] (some ad) 256 c l rfl rfl HO.out HL.out (by intro h; cases h) (by rw [HLL.out]; decide) (by simp) ?_; intro v2 w2 ho2 hg2; have HO2 := Lib.hid (And.intro ho2 hg2); clear ho2 hg2)
  go_ret
  obtain ⟨ho2, hg2⟩ := HO2.out
  rw [List.nil_append] at ho2
  have hlt := World.ownsRow.lt ho2
  rcases ho2.2 with ⟨hv, hn⟩ | ⟨g, cap, cur, hv, _, _, hnc, _⟩
  · rw [HLL.out] at hn
    omega
  · subst hv
    refine ⟨g, cap, by rw [HLL.out]; rfl, (hlt g rfl).1, ⟨by rw [bc_length, HLL.out], by rw [HLL.out] at hnc; exact hnc, fun _ => ⟨⟨g, 0, none⟩, rfl, rfl, (hlt g rfl).2, fun j u hu => World.ownsRow.cells ho2 (g := g) rfl j u hu⟩⟩, ?_⟩
    exact HB.out.trans (HO.out.changed hg2 (by simp))
end Go.Proofs.YtnhondkdkjehaaaGreat
