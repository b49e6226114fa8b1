/-
  The law's small set that is known: one().
-/
import Derived.Test.YtjnobakbjapfjaaText
import Derived.Great.BuildSlice
import Derived.Deep.OwnRows
import Derived.Deep.WholeRow
namespace Go.Proofs.Ytjnobakbjapfjaa
open Go.RowKit Go.Sort Go.Shelf

theorem idZero : (Try.prog.info? 23).map (fun i => (i.zero, i.size)) = some (some (.agg (enc default).toArray), 32) := by kernel_rfl

theorem cells_ids : ∀ xs : List Id, ((xs.map fun x => Value.agg (enc x).toArray).flatMap fun v => v.cells.toList) = ec xs
  | [] => rfl
  | x :: xs => by
    rw [List.map_cons, List.flatMap_cons, ec_cons, cells_ids xs]
    rfl
/-- Ids laid one behind the other in a new block. -/
theorem wpList_build_ids {w : World} {ops : Array Oper} {rest : List Oper} {o : Oper} {a : Act} {Q : Exit → Act → World → Prop} (hg : o.guard = none) (t : TypeId) (len : Nat) (parts : Array (Nat × Operand)) (ho : o.op = .buildSlice t len parts)
    (hu : Try.prog.underlying t = some (.slice 23)) (xs : List Id) (hl : xs.length = len) (h0 : 0 < len) (h1 : len ≤ 1000)
    (hp : (parts.map fun (i, x) => (i, a.eval x)).toList = ((xs.map fun x => Value.agg (enc x).toArray).zipIdx 0).map fun x => (x.2, x.1))
    (h : ∀ w', Row w' w.heap.size xs → w' = w.alloc (.cells (ec xs).toArray 23) → wpList Try.prog ops Q rest (a.put o.dst (.slice (some ⟨w.heap.size, 0, none⟩) len len)) w') : wpList Try.prog ops Q (o :: rest) a w := by
  obtain ⟨i0, hi, hz0, hz1, _⟩ := info_parts idInfo
  refine wpList_buildSlice hg t 23 len parts ho (ec xs).toArray i0 _ hu hi hz0 (by rw [hz1]; omega) (by rw [hz1]; omega) ?_ (h _ (Box.made _ _ _) rfl)
  rw [hp, hz1, Great.fill_whole (s := 32) (by omega) _ _ (fun v hv => by obtain ⟨x, _, rfl⟩ := List.mem_map.1 hv; simp [Value.cells, enc_length]) (by simp [hl]), cells_ids]
/-- A store into an id's own box. -/
theorem wpList_store_box {w : World} {ops : Array Oper} {rest : List Oper} {o : Oper} {a : Act} {Q : Exit → Act → World → Prop} (hgd : o.guard = none) (p q : Operand) (ho : o.op = .store 23 p q) (g : Nat) (x y : Id) (hp : a.eval p = .pointer (some ⟨g, 0, none⟩)) (hq : a.eval q = .agg (enc x).toArray)
    (hr : Box w g 23 (enc y).toArray) (h : ∀ w', Box w' g 23 (enc x).toArray → w.grownBy w' (some g) → wpList Try.prog ops Q rest (a.put o.dst undef) w') : wpList Try.prog ops Q (o :: rest) a w := by
  refine wpList_store_row hgd 23 p q ho g (enc x).toArray hp hq 23 (enc y).toArray hr (by rw [enc_size]; exact infoId') (by rw [enc_size, enc_size]) (enc_all x) (h _ ?_ ?_)
  · exact setRow_heap w g _ _ 23 _ hr
  · exact grown_row (grown_refl w _) _
theorem box_range {w : World} {g : Nat} {t : TypeId} {cs : List Value} (h : Box w g t cs.toArray) : w.rangeAt g 0 cs := fun j v hv => by
  rw [Box.cell h]
  simpa using hv

/-- 'x == y' of two ids, where a guard says yes, or there is none. -/
theorem wpQuiet_eql_yes {ops : Array Oper} {C : World → Prop} {K : Act → Prop} {o : Oper} {rest : List Oper} {a : Act} (hw : Region.wanted o (yielded ops a.tmps) = true) (p q : Operand) (ho : o.op = .binOp .eql 23 p q 23) (x y : Id) (r : Bool) (hr : (x.1 == y.1) = r) (hx : a.eval p = .agg (enc x).toArray) (hy : a.eval q = .agg (enc y).toArray)
    (h : wpQuiet Try.prog ops C K rest (a.put o.dst (.bool r))) : wpQuiet Try.prog ops C K (o :: rest) a := by
  simp only [wpQuiet, hw, if_true, Oper.quiet, Oper.quietAt]
  refine ⟨_, fun w hC => ?_, h⟩
  unfold execOp
  simp only [ho, hx, hy, Sem.run_bind, eqlId.2 .eql p q x y w, eqlId.1 x y w, Result.andThen_ok, Sem.run_pure, hr]
  exact ⟨rfl, rfl⟩

theorem wpList_build_to {P : Program} {ops : Array Oper} {rest : List Oper} {o : Oper} {a : Act} {w : World} {Q : Exit → Act → World → Prop} (hg : o.guard = none) (t : TypeId) (parts : Array (Nat × Operand)) (ho : o.op = .build t parts)
    (cells : Array Value) (hb : P.built t (parts.map fun (i, x) => (i, a.eval x)).toList = some cells) (h : wpList P ops Q rest (a.put o.dst (.agg cells)) w) : wpList P ops Q (o :: rest) a w :=
  wpList_build hg t parts ho (by rw [hb]; rfl) (by rw [hb]; exact h)
theorem box2 (w : World) (x y : Id) : Box ((w.alloc (Obj.cells (enc x).toArray 23)).alloc (Obj.cells (enc y).toArray 23)) (w.heap.size + 1) 23 (enc y).toArray := by
  have := Box.made (w.alloc (Obj.cells (enc x).toArray 23)) 23 (enc y).toArray
  rwa [World.size_alloc] at this
theorem below_two {w w2 w3 : World} {x y : Array Value} {t u : TypeId} (h2 : ((w.alloc (.cells x t)).alloc (.cells y u)).grownBy w2 (some w.heap.size)) (h3 : w2.grownBy w3 (some (w.heap.size + 1))) : Below w.heap.size w w3 := by
  have h := ((Below.refl w.heap.size w).alloc (Nat.le_refl _) (.cells x t)).alloc (by simp) (.cells y u)
  have hs := h2.size
  simp only [World.size_alloc] at hs
  exact below_grown (below_grown h h2 (Nat.le_refl _) (by simp only [World.size_alloc]; omega)) h3 (by omega) (by omega)
def idA : Id := ⟨1 :: List.replicate 31 0, by simp⟩
def idB : Id := ⟨2 :: List.replicate 31 0, by simp⟩
theorem built_a : Try.prog.built 23 [(0, .int .u8 1)] = some (enc idA).toArray := by kernel_rfl
theorem built_b : Try.prog.built 23 [(0, .int .u8 2)] = some (enc idB).toArray := by kernel_rfl
theorem lt_ab : ltId idA idB = true := by decide
theorem of_bab : ofL [idB, idA, idB] = [idA, idB] :=
  rises_ext (ofL_rises _) (List.Pairwise.cons (by simp [lt_ab]) (List.pairwise_singleton _ _)) (fun x => by rw [ofL_mem]; simp only [List.mem_cons, List.not_mem_nil, or_false]; exact ⟨fun h => h.elim .inr id, fun h => h.elim (fun h => .inr (.inl h)) .inl⟩)

set_option maxRecDepth 100000 in
set_option maxHeartbeats 1000000 in
theorem one_core (ia ib : Id) (hba : Try.prog.built 23 [(0, .int .u8 1)] = some (enc ia).toArray) (hbb : Try.prog.built 23 [(0, .int .u8 2)] = some (enc ib).toArray) (hof : ofL [ib, ia, ib] = [ia, ib])
    (s : ByteArray) (hs : s = ⟨(textL ia.1).toArray⟩) (hse : s.extract 0 4 = ⟨#[48, 49, 48, 48]⟩) (hsz : 4 ≤ s.size) (w : World) :
    Calls Try.prog 12 #[] w fun e w' => e = .returned (.bool true) ∧ Below w.heap.size w w' := by
  have hz := (zero_of_info idZero).1
  have hza := enc_size (default : Id)
  obtain ⟨zi, hzi⟩ : ∃ z : Id, z = default := ⟨_, rfl⟩
  rw [← hzi] at hz hza
  have HH := Lib.hid (And.intro hba hbb)
  have HOF := Lib.hid hof
  clear hba hbb hof hzi
  go_enter Try.func12, Try.ntmps12
  go_wp2_with (first
    | (refine wpList_build_to rfl 23 _ rfl (enc ia).toArray (by go_simp; with_reducible exact HH.out.1) ?_)
    | (refine wpList_build_to rfl 23 _ rfl (enc ib).toArray (by go_simp; with_reducible exact HH.out.2) ?_)
    | (refine wpList_store_box rfl _ _ rfl w.heap.size ia zi rfl rfl ((Box.made w _ _).alloc _) ?_; intro w2 hb2 hg2; have HB2 := Lib.hid hb2; have HG2 := Lib.hid hg2; clear hb2 hg2)
    | (refine wpList_store_box rfl _ _ rfl (w.heap.size + 1) ib zi rfl rfl (show Box w2 _ _ _ from (Box.grown (box2 w _ _) HG2.out (by simp))) ?_; intro w3 hb3 hg3; have HA3 := Lib.hid (Box.grown HB2.out hg3 (by simp)); have HB3 := Lib.hid hb3; have HG3 := Lib.hid (below_two HG2.out hg3); clear hb3 hg3)
    | (refine wpList_load_mid rfl 23 _ rfl (w.heap.size + 1) 0 rfl (enc ib) _ (box_range HB3.out) Try.underlying23 rfl (infoId _) ?_)
    | (refine wpList_load_mid rfl 23 _ rfl w.heap.size 0 rfl (enc ia) _ (box_range HA3.out) Try.underlying23 rfl (infoId _) ?_)
    | (refine wpList_build_ids rfl 33 3 _ rfl Try.underlying33 [ib, ia, ib] rfl (by omega) (by omega) (by go_simp) ?_; intro w4 hr4 hw4; have HR4 := Lib.hid hr4; have HA4 := Lib.hid (show Box w4 _ _ _ from by rw [hw4]; exact HA3.out.alloc _); have HB4 := Lib.hid (show Box w4 _ _ _ from by rw [hw4]; exact HB3.out.alloc _); have HG4 := Lib.hid (show Below w.heap.size w w4 from by rw [hw4]; exact HG3.out.alloc HG3.out.size _); clear hr4 hw4)
    | (go_at_call 19; refine (of_says w4 _ 3 3 [ib, ia, ib] (HR4.out.ids rfl (Nat.le_refl _)) (by omega)).mono ?_; rintro e w5 ⟨A, m, c, rfl, hx5, hb5⟩; have HX5 := Lib.hid hx5; have HB5 := Lib.hid hb5; clear hx5 hb5))
  rw [HOF.out] at HX5
  obtain rfl : m = 2 := HX5.out.len.symm
  obtain ⟨b, off, rfl, hb, hr⟩ := HX5.out.2.2 (by omega)
  have HR0 := Lib.hid (show w5.rangeAt b off (enc ia) from fun j v hv => hr j v (by have := ec_at [ia, ib] 0 ia rfl j v hv; rwa [Nat.zero_mul, Nat.zero_add] at this))
  have HR1 := Lib.hid (show w5.rangeAt b (off + 32) (enc ib) from fun j v hv => by rw [Nat.add_assoc]; exact hr _ v (by have := ec_at [ia, ib] 1 ib rfl j v hv; rwa [Nat.one_mul] at this))
  have HBK := Lib.hid hb
  have HRA := Lib.hid (box_range (Box.below HA4.out HB5.out (Box.lt HA4.out)))
  have HRB := Lib.hid (box_range (Box.below HB4.out HB5.out (Box.lt HB4.out)))
  have HLA := Lib.hid (Box.lt (Box.below HA4.out HB5.out (Box.lt HA4.out)))
  have HLB := Lib.hid (Box.lt (Box.below HB4.out HB5.out (Box.lt HB4.out)))
  have hhas : ∀ p : Grows w5, Calls Try.prog 28 #[.slice (some ⟨b, off, none⟩) 2 c, .agg (enc ib).toArray] p.val fun e w'' => e = .returned (.bool true) ∧ ∃ p' : Grows w5, w'' = p'.val := fun p => by
    have h := has_says p.val _ 2 c [ia, ib] ib (HX5.out.below p.prop (Nat.le_refl _)) (by omega) (by omega)
    rw [show decide (ib ∈ [ia, ib]) = true by simp] at h
    exact Calls.grows h
  have htxt : ∀ p : Grows w5, Calls Try.prog 7 #[.agg (enc ia).toArray] p.val fun e w'' => e = .returned (.string s) ∧ ∃ p' : Grows w5, w'' = p'.val := fun p => by
    have h := text_says ia p.val
    rw [← hs] at h
    exact Calls.grows h
  have hsz' : (4 : Int) ≤ s.size := by omega
  clear hb hr hs
  refine wp_region_grows (by kernel_rfl) (by kernel_rfl) ?_
  repeat (first
    | (refine wpQuiet_load_yes (by rfl) 23 _ rfl b off rfl (enc ia) _ (range_grows HR0.out HBK.out) Try.underlying23 rfl (infoId _) ?_)
    | (refine wpQuiet_load_yes (by rfl) 23 _ rfl b (off + 32) rfl (enc ib) _ (range_grows HR1.out HBK.out) Try.underlying23 rfl (infoId _) ?_)
    | (refine wpQuiet_load_yes (by rfl) 23 _ rfl w.heap.size 0 rfl (enc ia) _ (range_grows HRA.out HLA.out) Try.underlying23 rfl (infoId _) ?_)
    | (refine wpQuiet_load_yes (by rfl) 23 _ rfl (w.heap.size + 1) 0 rfl (enc ib) _ (range_grows HRB.out HLB.out) Try.underlying23 rfl (infoId _) ?_)
    | (refine wpQuiet_eql_yes (by rfl) _ _ rfl ia ia true (by simp) rfl rfl ?_)
    | (refine wpQuiet_eql_yes (by rfl) _ _ rfl ib ib true (by simp) rfl rfl ?_)
    | quiet_step (first | (go_at_call 28; exact hhas _) | (go_at_call 7; exact htxt _)))
  refine wpQuiet_nil ?_
  rintro w6 ⟨⟨_, hw6⟩, rfl⟩
  go_wp2
  go_ret
  exact ⟨rfl, (HG4.out.trans (HB5.out.mono HG4.out.size)).trans (hw6.mono (Nat.le_trans HG4.out.size HB5.out.size))⟩

theorem one_says (w : World) : Calls Try.prog 12 #[] w fun e w' => e = .returned (.bool true) ∧ Below w.heap.size w w' :=
  one_core idA idB built_a built_b of_bab _ rfl (by decide) (by decide) w
end Go.Proofs.Ytjnobakbjapfjaa
