/-
  The reference's With and Of: a set that rises, with one more; and of any ids.
-/
import Derived.Test.YtjnobakbjapfjaaRefJ
import Derived.Test.YtjnobakbjapfjaaChoose
namespace Go.Proofs.Ytjnobakbjapfjaa
open Go.RowKit Go.Sort Go.Shelf

theorem rises_put {xs : List Id} (hr : Rises xs) (y : Id) (k : Nat) (hy : y ∉ xs) (h1 : ∀ x ∈ xs.take k, ltId x y = true) (h2 : ∀ x ∈ xs.drop k, ltId x y = false) : xs.take k ++ [y] ++ xs.drop k = ofL (xs ++ [y]) := by
  have hs : xs.take k ++ xs.drop k = xs := List.take_append_drop k xs
  have h3 : ∀ x ∈ xs.drop k, ltId y x = true := fun x hx => by
    rcases Bool.eq_false_or_eq_true (ltId y x) with h | h
    · exact h
    · exact absurd (ltId_total (h2 x hx) h) (fun e => hy (by rw [← e]; exact List.mem_of_mem_drop hx))
  have hr' := hr
  unfold Rises at hr'
  rw [← hs, List.pairwise_append] at hr'
  refine rises_ext ?_ (ofL_rises _) (fun x => ?_)
  · unfold Rises
    rw [List.pairwise_append, List.pairwise_append]
    refine ⟨⟨hr'.1, List.pairwise_singleton _ _, fun a ha b hb => ?_⟩, hr'.2.1, fun a ha b hb => ?_⟩
    · rw [List.mem_singleton] at hb
      subst hb
      exact h1 a ha
    · rcases List.mem_append.1 ha with ha | ha
      · exact hr'.2.2 a ha b hb
      · rw [List.mem_singleton] at ha
        subst ha
        exact h3 b hb
  · rw [ofL_mem]
    conv => rhs; rw [← hs]
    simp only [List.mem_append, List.mem_singleton]
    exact ⟨fun h => h.elim (fun h => h.elim (fun h => .inl (.inl h)) .inr) (fun h => .inl (.inr h)), fun h => h.elim (fun h => h.elim (fun h => .inl (.inl h)) .inr) (fun h => .inl (.inr h))⟩
theorem rises_has {xs : List Id} (hr : Rises xs) {y : Id} (hy : y ∈ xs) : ofL (xs ++ [y]) = xs :=
  rises_ext (ofL_rises _) hr (fun x => by
    rw [ofL_mem]
    simp only [List.mem_append, List.mem_singleton]
    exact ⟨fun h => h.elim id (fun e => e ▸ hy), .inl⟩)
/-- Those behind one that is not ahead of y are not, either. -/
theorem rises_behind {xs : List Id} (hr : Rises xs) {y : Id} {k : Nat} (h : ∀ x, xs[k]? = some x → ltId x y = false) : ∀ x ∈ xs.drop k, ltId x y = false := by
  intro x hx
  rcases Nat.lt_or_ge k xs.length with hk | hk
  · have h0 := h xs[k] (List.getElem?_eq_getElem hk)
    rw [List.drop_eq_getElem_cons hk] at hx
    have hr' := hr
    unfold Rises at hr'
    rw [← List.take_append_drop k xs, List.pairwise_append, List.drop_eq_getElem_cons hk, List.pairwise_cons] at hr'
    rcases List.mem_cons.1 hx with rfl | hx
    · exact h0
    · rcases Bool.eq_false_or_eq_true (ltId x y) with h1 | h1
      · exact absurd (ltId_trans (hr'.2.1.1 x hx) h1) (by rw [h0]; simp)
      · exact h1
  · rw [List.drop_eq_nil_of_le hk] at hx
    cases hx

section
variable {ops : Array Oper} {Q : Exit → Act → World → Prop}
/-- An empty list, made: one step of a drawn region. -/
theorem step_build0 {o : Oper} {a : Act} {w : World} {K : Act → World → Prop} {E : Prop} (t : TypeId) (parts : Array (Nat × Operand)) (hgd : o.guard = none) (ho : o.op = .buildSlice t 0 parts) (hu : Try.prog.underlying t = some (.slice 22)) (hp : parts = #[])
    (h : ∀ w', OwnJ w' w.heap.size (.slice (some ⟨w.heap.size, 0, none⟩) 0 0) [] → w' = w.alloc (.cells #[] 22) → K (a.put o.dst (.slice (some ⟨w.heap.size, 0, none⟩) 0 0)) w') :
    if Region.wanted o (yielded ops a.tmps) = true then Oper.wp Try.prog o a w K Q else E := by
  have hw : Region.wanted o (yielded ops a.tmps) = true := by simp [Region.wanted, hgd]
  rw [if_pos hw]
  subst hp
  obtain ⟨i0, hi, hz0, hz1, hz2⟩ := info_parts jInfo
  have hown : OwnJ (w.alloc (.cells #[] 22)) w.heap.size (.slice (some ⟨w.heap.size, 0, none⟩) 0 0) [] :=
    ⟨rfl, .inr ⟨w.heap.size, 0, #[], rfl, Nat.le_refl _, Box.made w _ _, Nat.le_refl _, by unfold maxLen; omega, rfl, rfl⟩⟩
  have hrun : (Instr.buildSlice t 0 #[]).run Try.prog w = .ok (.slice (some ⟨w.heap.size, 0, none⟩) 0 0) (w.alloc (.cells #[] 22)) := by
    have e0 : Array.map (fun _ : Nat => (default : Value)) (Array.range 0) = #[] := Array.eq_empty_of_size_eq_zero (by simp)
    simp [Instr.buildSlice, run_underlying hu, sizeOf, typeInfo, hi, newRow, Instr.fill, e0]
  unfold Oper.wp execOp
  simp only [ho, Sem.run_bind, Array.map_empty, hrun, Result.andThen_ok]
  exact h _ hown rfl
/-- A list of one id, made. -/
theorem step_build1 {o : Oper} {a : Act} {w : World} {K : Act → World → Prop} {E : Prop} (t : TypeId) (p : Operand) (hgd : o.guard = none) (ho : o.op = .buildSlice t 1 #[(0, p)]) (hu : Try.prog.underlying t = some (.slice 22)) (y : Id) (hp : a.eval p = .agg (enc y).toArray)
    (h : ∀ w', Box w' w.heap.size 22 (ec [y]).toArray → w' = w.alloc (.cells (ec [y]).toArray 22) → K (a.put o.dst (.slice (some ⟨w.heap.size, 0, none⟩) 1 1)) w') :
    if Region.wanted o (yielded ops a.tmps) = true then Oper.wp Try.prog o a w K Q else E := by
  have hw : Region.wanted o (yielded ops a.tmps) = true := by simp [Region.wanted, hgd]
  rw [if_pos hw]
  obtain ⟨i0, hi, hz0, hz1, _⟩ := info_parts jInfo
  refine wp_buildSlice t 22 1 _ ho (ec [y]).toArray i0 _ hu hi hz0 (by rw [hz1]; omega) (by rw [hz1]; omega) ?_ (h _ (Box.made _ _ _) rfl)
  have e : ((#[(0, p)] : Array (Nat × Operand)).map fun (i, x) => (i, a.eval x)).toList = (([y].map fun x => Value.agg (enc x).toArray).zipIdx 0).map fun x => (x.2, x.1) := by simp [hp]
  rw [e, hz1, Great.fill_whole (s := 32) (by omega) _ _ (fun v hv => by obtain ⟨x, _, rfl⟩ := List.mem_map.1 hv; simp [Value.cells, enc_length]) (by simp), cells_ids]
/-- 'append(out, l...)'. -/
theorem step_append_j {o : Oper} {a : Act} {w : World} {K : Act → World → Prop} {E : Prop} (s x : Operand) (hgd : o.guard = none) (hop : o.op = .call { callee := .builtin .append, args := #[s, x], argTypes := #[38, 38] })
    (base : Nat) (v : Value) (xs : List Id) (A : Option Addr) (m c : Nat) (ys : List Id) (hs : a.eval s = v) (hx : a.eval x = .slice A m c) (hown : OwnJ w base v xs) (hy : Ids w A m c ys) (hA : A = none → c = 0)
    (hz : xs.length + m ≤ 100000) (hb : base ≤ w.heap.size)
    (h : ∀ v' w', OwnJ w' base v' (xs ++ ys) → w.grownBy w' v.ownBlock → K (a.put o.dst v') w') :
    if Region.wanted o (yielded ops a.tmps) = true then Oper.wp Try.prog o a w K Q else E := by
  have hw : Region.wanted o (yielded ops a.tmps) = true := by simp [Region.wanted, hgd]
  rw [if_pos hw]
  rcases A with _ | ad
  · have hc := hA rfl
    subst hc
    have hm : m = 0 := by have := hy.le; omega
    subst hm
    obtain rfl : ys = [] := List.eq_nil_of_length_eq_zero hy.len
    obtain ⟨i0, hi, hz0, hz1, hz2⟩ := info_parts jInfo
    have hrun := run_append_owned_none (P := Try.prog) (w := w) base 38 o.type 22 i0 32 Try.underlying38 hi v xs.length (ec xs) hown
    unfold Oper.wp
    simp [execOp, hop, resolve, invoke, builtin, hs, hx, hrun, Result.andThen]
    exact h v w (by rw [List.append_nil]; exact hown) (grown_refl w _)
  · obtain ⟨v', w', hrun, r1, r2⟩ := run_append_j w o.type base v xs (some ad) m c ys hown hy rfl hz hb
    unfold Oper.wp
    simp [execOp, hop, resolve, invoke, builtin, hs, hx, hrun, Result.andThen]
    exact h v' w' r1 r2
end

theorem exec_slice_h {P : Program} {a : Act} {o : Oper} (T : TypeId) (x y : Operand) (ho : o.op = .slice T x none (some y) none) (xv yv v : Value) (hx : a.eval x = xv) (hy : a.eval y = yv) (w : World) (h : (Instr.sliceAt T xv none (some yv) none).run P w = .ok v w) : (execOp a.eval o).run P w = .ok (.value v) w := by
  unfold execOp
  simp only [ho, hx, hy, Sem.run_bind, Option.map_some, Option.map_none, h, Result.andThen_ok, Sem.run_pure]
/-- A list of ids handed back. -/
def GivesJ (w : World) (xs : List Id) (e : Ending) (w' : World) : Prop := ∃ A n c, e = .returned (.slice A n c) ∧ Ids w' A n c xs ∧ (A = none → c = 0) ∧ Below w.heap.size w w'
theorem OwnJ.gives {w w' : World} {base : Nat} {v : Value} {xs : List Id} (h : OwnJ w' base v xs) (hb : Below w.heap.size w w') : GivesJ w xs (.returned v) w' := by
  obtain ⟨A, c, rfl, hi⟩ := h.ids
  refine ⟨A, _, c, rfl, hi, ?_, hb⟩
  rcases h.2 with ⟨hv, _⟩ | ⟨g, cap, cur, hv, _⟩
  · injection hv with _ _ hc
    exact fun _ => hc
  · injection hv with hA
    intro hn
    rw [hn] at hA
    cases hA

set_option maxRecDepth 100000 in
set_option maxHeartbeats 4000000 in
/-- The reference's With. -/
theorem rwith_says (w : World) (A : Option Addr) (n c : Nat) (xs : List Id) (hx : Ids w A n c xs) (hA : A = none → c = 0) (hr : Rises xs) (y : Id) (hn : n ≤ 1000) :
    Calls Try.prog 58 #[.slice A n c, .agg (enc y).toArray] w (GivesJ w (ofL (xs ++ [y]))) := by
  have hs1 := enc_size y
  have HX := Lib.hid hx
  have hl1 := hx.len
  have HRI := Lib.hid hr
  have HNA := Lib.hid hA
  clear hx hr hA
  go_enter Try.func58, Try.ntmps58
  have HY1 := Lib.hid (Box.made w 22 (enc y).toArray)
  go_wp2_with (refine wpList_load_mid rfl 22 _ rfl w.heap.size 0 rfl (enc y) _ (box_range HY1.out) Try.underlying22 rfl (infoJ _) ?_)
  have HB1 := Lib.hid ((Below.refl w.heap.size w).alloc (Nat.le_refl _) (Obj.cells (enc y).toArray 22))
  generalize w.alloc (Obj.cells (enc y).toArray 22) = w1 at HY1 HB1 ⊢
  refine (rhas_says w1 A n c xs (HX.out.below HB1.out (Nat.le_refl _)) y hn).mono ?_
  rintro e w1' ⟨rfl, hb1'⟩
  have HYB1 := Lib.hid (Box.below HY1.out hb1' (Box.lt HY1.out))
  have HBB1 := Lib.hid (HB1.out.trans (hb1'.mono HB1.out.size))
  clear hb1' HY1 HB1
  by_cases hin : y ∈ xs
  · rw [decide_eq_true hin]
    go_wp2
    go_ret
    refine ⟨A, n, c, rfl, ?_, HNA.out, HBB1.out⟩
    rw [rises_has HRI.out hin]
    exact HX.out.below HBB1.out (Nat.le_refl _)
  rw [decide_eq_false hin]
  have HIN := Lib.hid hin
  clear hin
  go_wp2_with fail
  go_loopw [5] (fun i wr => ∃ k : Nat, i = .int .i64 (k : Int) ∧ k ≤ n ∧ Hid ((∀ x ∈ xs.take k, ltId x y = true) ∧ Box wr w.heap.size 22 (enc y).toArray ∧ Below w.heap.size w wr)) (fun i _ => n - (Lib.intOf i).toNat)
  case atStart => exact ⟨0, rfl, Nat.zero_le _, Lib.hid ⟨by simp, HYB1.out, HBB1.out⟩⟩
  case round =>
    obtain ⟨k, rfl, hk, H⟩ := hrel
    have fin : ∀ (w2 : World), Hid (Box w2 w.heap.size 22 (enc y).toArray ∧ Below w.heap.size w w2) → Hid (∀ x ∈ xs.drop k, ltId x y = false) → ∀ (v : Value) (w' : World), OwnJ w' w2.heap.size v (xs.take k ++ [y] ++ xs.drop k) → Below w2.heap.size w2 w' → GivesJ w (ofL (xs ++ [y])) (.returned v) w' := by
      intro w2 h2 hd v w' ho hb
      rw [rises_put HRI.out y k HIN.out H.out.1 hd.out] at ho
      exact ho.gives (h2.out.2.trans (hb.mono h2.out.2.size))
    have HFIN0 := Lib.hid fin
    clear fin
    have hslh := fun wq => sliceI_to (P := Try.prog) Try.underlying38 infoJ' .i64 A n c k (by have := HX.out.le; omega) wq
    have hsll := fun wq => sliceI_from (P := Try.prog) Try.underlying38 infoJ' .i64 A n c k hk wq
    have HSL := Lib.hid (And.intro hslh hsll)
    clear hslh hsll
    have HLT := Lib.hid (show (xs.take k).length = k ∧ k ≤ 1000 ∧ n ≤ 1000 from ⟨by rw [List.length_take]; omega, by omega, hn⟩)
    by_cases hlt : k < n
    · have l1 : (k : Int) < (n : Int) := by omega
      obtain ⟨x, hx⟩ : ∃ x, xs[k]? = some x := ⟨_, List.getElem?_eq_getElem (by omega)⟩
      obtain ⟨b, off, hA, hb, hr⟩ := HX.out.at hx
      subst hA
      have HR1 := Lib.hid (show wr.rangeAt b (off + k * 32) (enc x) from fun j v hv => (H.out.2.2.cell (p := ⟨b, off + k * 32 + j, none⟩) hb).trans (hr j v hv))
      have HG1 := Lib.hid (Nat.lt_of_lt_of_le hb H.out.2.2.size)
      have HR2 := Lib.hid (box_range H.out.2.1)
      have HG2 := Lib.hid (Box.lt H.out.2.1)
      have HXK := Lib.hid hx
      clear hr hb hx
      obtain ⟨r, hr⟩ : ∃ r, ltId x y = r := ⟨_, rfl⟩
      have HRR := Lib.hid hr
      have hL : ∀ p : Grows wr, Calls Try.prog 11 #[.agg (enc x).toArray, .agg (enc y).toArray] p.val fun e w'' => e = .returned (.bool r) ∧ ∃ p' : Grows wr, w'' = p'.val := fun p => by
        have h := rless_says x y p.val
        rw [hr] at h
        exact Calls.grows h
      clear hr
      go_wp2_with fail
      refine wp_region_grows (by kernel_rfl) (by kernel_rfl) ?_
      repeat (first
        | (refine wpQuiet_load_yes (by go_simp; done) 22 _ rfl b (off + k * 32) rfl (enc x) _ (range_grows HR1.out HG1.out) Try.underlying22 rfl (infoJ _) ?_; simp only [Act.put, List.setIfInBounds_toArray, List.set_cons_zero, List.set_cons_succ])
        | (refine wpQuiet_load_yes (by go_simp; done) 22 _ rfl w.heap.size 0 rfl (enc y) _ (range_grows HR2.out HG2.out) Try.underlying22 rfl (infoJ _) ?_; simp only [Act.put, List.setIfInBounds_toArray, List.set_cons_zero, List.set_cons_succ])
        | quiet_step ((go_at_call 11; exact hL _)))
      refine wpQuiet_nil ?_
      rintro w2 ⟨⟨_, hw2⟩, rfl⟩
      have HW := Lib.hid (And.intro (Box.below H.out.2.1 hw2 (Box.lt H.out.2.1)) (H.out.2.2.trans (hw2.mono H.out.2.2.size)))
      clear hw2 hL
      cases r with
      | true =>
        go_wp2
        go_roundw
        case rel =>
          refine ⟨k + 1, by go_num, by omega, Lib.hid ⟨?_, HW.out⟩⟩
          rw [List.take_add_one, HXK.out]
          intro z hz
          rcases List.mem_append.1 hz with hz | hz
          · exact H.out.1 z hz
          · have e : z = x := by simpa using hz
            rw [e]
            exact HRR.out
        case measure => simp [Lib.intOf]; omega
      | false =>
        have HDR := Lib.hid (rises_behind HRI.out (y := y) (k := k) (fun z hz => by rw [HXK.out] at hz; injection hz with hz; rw [← hz]; exact HRR.out))
        go_wp2_with fail
        generalize (some (⟨b, off, none⟩ : Addr)) = A at HX HNA HSL ⊢
        have HYB := Lib.hid HW.out.1
        have HIT := Lib.hid (show ∀ u, Below w2.heap.size w2 u → Ids u A k c (xs.take k) from fun u hu => (HX.out.below (HW.out.2.trans (hu.mono HW.out.2.size)) (Nat.le_refl _)).first hk)
        have HID := Lib.hid (show ∀ u, Below w2.heap.size w2 u → Ids u (cutI A c k) (n - k) (c - k) (xs.drop k) from fun u hu => (HX.out.below (HW.out.2.trans (hu.mono HW.out.2.size)) (Nat.le_refl _)).from k hk)
        have HNC := Lib.hid (show cutI A c k = none → c - k = 0 from fun h => by
          unfold cutI at h
          split at h
          · omega
          · have := HNA.out (by simpa using h)
            omega)
        have HFIN := Lib.hid (HFIN0.out w2 HW HDR)
        obtain ⟨hslh, hsll⟩ := HSL.out
        refine wp_region_held_drew (S := fun w' => Box w' w.heap.size 22 (enc y).toArray) (by kernel_rfl) (show Box w2.drew _ _ _ from HYB.out) (fun hHeld => ?_)
        refine take_run 1 25 (v := ?_) rfl rfl (by kernel_rfl) (by kernel_rfl) (by kernel_rfl) (fun _ _ _ h => h) (by rfl) ?_ (by assumption) ?_
        rotate_left
        · (intro wq hSw; (try dsimp only at hSw); go_simp; first | done | with_reducible rfl)
        simp only [Act.put, List.setIfInBounds_toArray, List.set_cons_zero, List.set_cons_succ]
        refine take_run 2 26 (v := ?_) rfl rfl (by kernel_rfl) (by kernel_rfl) (by kernel_rfl) (fun _ _ _ h => h) (by rfl) ?_ (by assumption) ?_
        rotate_left
        · (intro wq hSw; (try dsimp only at hSw); go_simp; first | done | with_reducible rfl)
        simp only [Act.put, List.setIfInBounds_toArray, List.set_cons_zero, List.set_cons_succ]
        refine take_run 3 27 (v := .slice A k c) rfl rfl (by kernel_rfl) (by kernel_rfl) (by kernel_rfl) (fun _ _ _ h => h) (by rfl) (fun wq _ => by refine exec_slice_h 38 _ _ rfl _ _ _ rfl rfl wq ?_; exact hslh wq) (by assumption) ?_
        simp only [Act.put, List.setIfInBounds_toArray, List.set_cons_zero, List.set_cons_succ]
        refine take_load 5 29 22 (.tmp 3) w.heap.size 0 (enc y) _ rfl rfl rfl (by kernel_rfl) (by kernel_rfl) (by kernel_rfl) (fun _ _ _ h => h) (by rfl) rfl (fun wq h => box_range h) Try.underlying22 rfl (infoJ _) (by assumption) ?_
        simp only [Act.put, List.setIfInBounds_toArray, List.set_cons_zero, List.set_cons_succ]
        refine take_run 8 32 (v := ?_) rfl rfl (by kernel_rfl) (by kernel_rfl) (by kernel_rfl) (fun _ _ _ h => h) (by rfl) ?_ (by assumption) ?_
        rotate_left
        · (intro wq hSw; (try dsimp only at hSw); go_simp; first | done | with_reducible rfl)
        simp only [Act.put, List.setIfInBounds_toArray, List.set_cons_zero, List.set_cons_succ]
        refine take_run 9 33 (v := ?_) rfl rfl (by kernel_rfl) (by kernel_rfl) (by kernel_rfl) (fun _ _ _ h => h) (by rfl) ?_ (by assumption) ?_
        rotate_left
        · (intro wq hSw; (try dsimp only at hSw); go_simp; first | done | with_reducible rfl)
        simp only [Act.put, List.setIfInBounds_toArray, List.set_cons_zero, List.set_cons_succ]
        refine take_run 10 34 (v := .slice (cutI A c k) (n - k) (c - k)) rfl rfl (by kernel_rfl) (by kernel_rfl) (by kernel_rfl) (fun _ _ _ h => h) (by rfl) (fun wq _ => by refine exec_slice_l 38 _ _ rfl _ _ _ rfl rfl wq ?_; exact hsll wq) (by assumption) ?_
        simp only [Act.put, List.setIfInBounds_toArray, List.set_cons_zero, List.set_cons_succ]
        refine wpAnyH_ready (rs := [0, 6]) (by kernel_rfl) (by simp) ?_
        refine AllReadyH.cons rfl (fun K hK => ?_) (AllReadyH.cons rfl (fun K hK => ?_) AllReadyH.nil)
        · refine step_build0 38 #[] rfl rfl Try.underlying38 rfl ?_
          intro u0 ho0 hu0
          have HB0 := Lib.hid (show Below w2.heap.size w2 u0 from by rw [hu0]; exact (Below.refl _ w2).drew.alloc (Nat.le_refl _) _)
          have HO0 := Lib.hid (show OwnJ u0 w2.heap.size _ [] from ho0)
          have HS0 := Lib.hid (show u0.heap.size = w2.heap.size + 1 from by rw [hu0, World.size_alloc]; rfl)
          clear ho0 hu0
          refine hK.out _ _ (Box.below HYB.out HB0.out (Box.lt HYB.out)) (fun hHeld => ?_)
          clear hK K
          refine wpAnyH_ready (rs := [4, 6]) (by kernel_rfl) (by simp) ?_
          refine AllReadyH.cons rfl (fun K hK => ?_) (AllReadyH.cons rfl (fun K hK => ?_) AllReadyH.nil)
          · refine step_append_j (.tmp 24) (.tmp 27) rfl rfl w2.heap.size _ [] A k c (xs.take k) rfl rfl HO0.out (HIT.out _ HB0.out) (by intro h; exact HNA.out h) (by have := HLT.out; simp; omega) HB0.out.size ?_
            intro v4 w4 ho4 hg4
            have HO4 := Lib.hid (show OwnJ w4 w2.heap.size v4 (xs.take k) from ho4)
            have HB4 := Lib.hid (HB0.out.trans (HO0.out.changed hg4 HB0.out.size))
            clear ho4 hg4
            refine hK.out _ _ (Box.below HYB.out HB4.out (Box.lt HYB.out)) (fun hHeld => ?_)
            clear hK K
            refine wpAnyH_ready (rs := [6]) (by kernel_rfl) (by simp) ?_
            refine AllReadyH.cons rfl (fun K hK => ?_) AllReadyH.nil
            refine step_build1 38 (.tmp 29) rfl rfl Try.underlying38 y rfl ?_
            intro w6 hb1 hu1
            have hb6 : Below w4.heap.size w4 w6 := by rw [hu1]; exact (Below.refl _ _).alloc (Nat.le_refl _) _
            have HO4' := Lib.hid (HO4.out.below hb6)
            have HB4' := Lib.hid (HB4.out.trans (hb6.mono HB4.out.size))
            have HG4 := Lib.hid hb1
            clear hb1 hu1 hb6 HO4 HB4
            have HO4 := HO4'
            have HB4 := HB4'
            clear HO4' HB4'
            refine hK.out _ _ (Box.below HYB.out HB4.out (Box.lt HYB.out)) (fun hHeld => ?_)
            clear hK K
            generalize w4.heap.size = g1 at HG4 ⊢
            refine wpAnyH_ready (rs := [7]) (by kernel_rfl) (by simp) ?_
            refine AllReadyH.cons rfl (fun K hK => ?_) AllReadyH.nil
            refine step_append_j (.tmp 28) (.tmp 30) rfl rfl w2.heap.size _ (xs.take k) (some ⟨g1, 0, none⟩) 1 1 [y] rfl rfl HO4.out (box_ids HG4.out rfl (Nat.le_refl _)) (by simp) (by have := HLT.out; omega) HB4.out.size ?_
            intro v7 w7 ho7 hg7
            have HO7 := Lib.hid ho7
            have HB7 := Lib.hid (HB4.out.trans (HO4.out.changed hg7 HB4.out.size))
            clear ho7 hg7
            refine hK.out _ _ (Box.below HYB.out HB7.out (Box.lt HYB.out)) (fun hHeld => ?_)
            clear hK K
            refine wpAnyH_ready (rs := [11]) (by kernel_rfl) (by simp) ?_
            refine AllReadyH.cons rfl (fun K hK => ?_) AllReadyH.nil
            refine step_append_j (.tmp 31) (.tmp 34) rfl rfl w2.heap.size _ (xs.take k ++ [y]) (cutI A c k) (n - k) (c - k) (xs.drop k) rfl rfl HO7.out (HID.out _ HB7.out) (by intro h; exact HNC.out h) (by have := HLT.out; rw [List.length_append, List.length_singleton]; omega) HB7.out.size ?_
            intro v11 w11 ho11 hg11
            have HO11 := Lib.hid ho11
            have HB11 := Lib.hid (HB7.out.trans (HO7.out.changed hg11 HB7.out.size))
            clear ho11 hg11
            refine hK.out _ _ (Box.below HYB.out HB11.out (Box.lt HYB.out)) (fun hHeld => ?_)
            clear hK K
            refine wpAnyH_ready (rs := [12]) (by kernel_rfl) (by simp) ?_
            refine AllReadyH.cons rfl (fun K hK => ?_) AllReadyH.nil
            go_simp
            refine hK.out _ _ (Box.below HYB.out HB11.out (Box.lt HYB.out)) (fun hHeld => ?_)
            clear hK K
            refine wpAnyH_done (by kernel_rfl) ?_ _
            go_wp2
            go_ret
            exact HFIN.out _ _ HO11.out HB11.out
          · refine step_build1 38 (.tmp 29) rfl rfl Try.underlying38 y rfl ?_
            intro w6 hb1 hu1
            have hb6 : Below u0.heap.size u0 w6 := by rw [hu1]; exact (Below.refl _ _).alloc (Nat.le_refl _) _
            have HO6 := Lib.hid (HO0.out.below hb6)
            have HB6 := Lib.hid (HB0.out.trans (hb6.mono HB0.out.size))
            have HG6 := Lib.hid hb1
            clear hb1 hu1 hb6
            refine hK.out _ _ (Box.below HYB.out HB6.out (Box.lt HYB.out)) (fun hHeld => ?_)
            clear hK K
            refine wpAnyH_ready (rs := [4]) (by kernel_rfl) (by simp) ?_
            refine AllReadyH.cons rfl (fun K hK => ?_) AllReadyH.nil
            refine step_append_j (.tmp 24) (.tmp 27) rfl rfl w2.heap.size _ [] A k c (xs.take k) rfl rfl HO6.out (HIT.out _ HB6.out) (by intro h; exact HNA.out h) (by have := HLT.out; simp; omega) HB6.out.size ?_
            intro v4 w4 ho4 hg4
            have HO4 := Lib.hid (show OwnJ w4 w2.heap.size v4 (xs.take k) from ho4)
            have HB4 := Lib.hid (HB6.out.trans (HO6.out.changed hg4 HB6.out.size))
            have HG4 := Lib.hid (Box.grown HG6.out hg4 (fun e => by have h := HS0.out; have e' : u0.heap.size = w2.heap.size := Option.some.inj e; omega))
            clear ho4 hg4
            refine hK.out _ _ (Box.below HYB.out HB4.out (Box.lt HYB.out)) (fun hHeld => ?_)
            clear hK K
            generalize u0.heap.size = g1 at HG4 ⊢
            refine wpAnyH_ready (rs := [7]) (by kernel_rfl) (by simp) ?_
            refine AllReadyH.cons rfl (fun K hK => ?_) AllReadyH.nil
            refine step_append_j (.tmp 28) (.tmp 30) rfl rfl w2.heap.size _ (xs.take k) (some ⟨g1, 0, none⟩) 1 1 [y] rfl rfl HO4.out (box_ids HG4.out rfl (Nat.le_refl _)) (by simp) (by have := HLT.out; omega) HB4.out.size ?_
            intro v7 w7 ho7 hg7
            have HO7 := Lib.hid ho7
            have HB7 := Lib.hid (HB4.out.trans (HO4.out.changed hg7 HB4.out.size))
            clear ho7 hg7
            refine hK.out _ _ (Box.below HYB.out HB7.out (Box.lt HYB.out)) (fun hHeld => ?_)
            clear hK K
            refine wpAnyH_ready (rs := [11]) (by kernel_rfl) (by simp) ?_
            refine AllReadyH.cons rfl (fun K hK => ?_) AllReadyH.nil
            refine step_append_j (.tmp 31) (.tmp 34) rfl rfl w2.heap.size _ (xs.take k ++ [y]) (cutI A c k) (n - k) (c - k) (xs.drop k) rfl rfl HO7.out (HID.out _ HB7.out) (by intro h; exact HNC.out h) (by have := HLT.out; rw [List.length_append, List.length_singleton]; omega) HB7.out.size ?_
            intro v11 w11 ho11 hg11
            have HO11 := Lib.hid ho11
            have HB11 := Lib.hid (HB7.out.trans (HO7.out.changed hg11 HB7.out.size))
            clear ho11 hg11
            refine hK.out _ _ (Box.below HYB.out HB11.out (Box.lt HYB.out)) (fun hHeld => ?_)
            clear hK K
            refine wpAnyH_ready (rs := [12]) (by kernel_rfl) (by simp) ?_
            refine AllReadyH.cons rfl (fun K hK => ?_) AllReadyH.nil
            go_simp
            refine hK.out _ _ (Box.below HYB.out HB11.out (Box.lt HYB.out)) (fun hHeld => ?_)
            clear hK K
            refine wpAnyH_done (by kernel_rfl) ?_ _
            go_wp2
            go_ret
            exact HFIN.out _ _ HO11.out HB11.out
        · refine step_build1 38 (.tmp 29) rfl rfl Try.underlying38 y rfl ?_
          intro u1 hb1 hu1
          have HB1 := Lib.hid (show Below w2.heap.size w2 u1 from by rw [hu1]; exact (Below.refl _ w2).drew.alloc (Nat.le_refl _) _)
          have HG1 := Lib.hid (show Box u1 w2.heap.size _ _ from hb1)
          have HS1 := Lib.hid (show u1.heap.size = w2.heap.size + 1 from by rw [hu1, World.size_alloc]; rfl)
          clear hb1 hu1
          refine hK.out _ _ (Box.below HYB.out HB1.out (Box.lt HYB.out)) (fun hHeld => ?_)
          clear hK K
          refine wpAnyH_ready (rs := [0]) (by kernel_rfl) (by simp) ?_
          refine AllReadyH.cons rfl (fun K hK => ?_) AllReadyH.nil
          refine step_build0 38 #[] rfl rfl Try.underlying38 rfl ?_
          intro u0 ho0 hu0
          have hb0 : Below u1.heap.size u1 u0 := by rw [hu0]; exact (Below.refl _ _).alloc (Nat.le_refl _) _
          have HB0 := Lib.hid (HB1.out.trans (hb0.mono HB1.out.size))
          have HO0 := Lib.hid (OwnJ.mono ho0 HB1.out.size)
          have HG0 := Lib.hid (Box.below HG1.out hb0 (Box.lt HG1.out))
          clear ho0 hu0 hb0
          refine hK.out _ _ (Box.below HYB.out HB0.out (Box.lt HYB.out)) (fun hHeld => ?_)
          clear hK K
          refine wpAnyH_ready (rs := [4]) (by kernel_rfl) (by simp) ?_
          refine AllReadyH.cons rfl (fun K hK => ?_) AllReadyH.nil
          refine step_append_j (.tmp 24) (.tmp 27) rfl rfl w2.heap.size _ [] A k c (xs.take k) rfl rfl HO0.out (HIT.out _ HB0.out) (by intro h; exact HNA.out h) (by have := HLT.out; simp; omega) HB0.out.size ?_
          intro v4 w4 ho4 hg4
          have HO4 := Lib.hid (show OwnJ w4 w2.heap.size v4 (xs.take k) from ho4)
          have HB4 := Lib.hid (HB0.out.trans (HO0.out.changed hg4 HB0.out.size))
          have HG4 := Lib.hid (Box.grown HG0.out hg4 (fun e => by have h := HS1.out; have e' : w2.heap.size = u1.heap.size := Option.some.inj e; omega))
          clear ho4 hg4
          refine hK.out _ _ (Box.below HYB.out HB4.out (Box.lt HYB.out)) (fun hHeld => ?_)
          clear hK K
          obtain ⟨g1, hg1⟩ : ∃ g, w2.heap.size = g := ⟨_, rfl⟩
          rw [show (some (⟨w2.drew.heap.size, 0, none⟩ : Addr)) = some ⟨g1, 0, none⟩ from by rw [← hg1]; rfl]
          rw [hg1] at HG4
          refine wpAnyH_ready (rs := [7]) (by kernel_rfl) (by simp) ?_
          refine AllReadyH.cons rfl (fun K hK => ?_) AllReadyH.nil
          refine step_append_j (.tmp 28) (.tmp 30) rfl rfl w2.heap.size _ (xs.take k) (some ⟨g1, 0, none⟩) 1 1 [y] rfl rfl HO4.out (box_ids HG4.out rfl (Nat.le_refl _)) (by simp) (by have := HLT.out; omega) HB4.out.size ?_
          intro v7 w7 ho7 hg7
          have HO7 := Lib.hid ho7
          have HB7 := Lib.hid (HB4.out.trans (HO4.out.changed hg7 HB4.out.size))
          clear ho7 hg7
          refine hK.out _ _ (Box.below HYB.out HB7.out (Box.lt HYB.out)) (fun hHeld => ?_)
          clear hK K
          refine wpAnyH_ready (rs := [11]) (by kernel_rfl) (by simp) ?_
          refine AllReadyH.cons rfl (fun K hK => ?_) AllReadyH.nil
          refine step_append_j (.tmp 31) (.tmp 34) rfl rfl w2.heap.size _ (xs.take k ++ [y]) (cutI A c k) (n - k) (c - k) (xs.drop k) rfl rfl HO7.out (HID.out _ HB7.out) (by intro h; exact HNC.out h) (by have := HLT.out; rw [List.length_append, List.length_singleton]; omega) HB7.out.size ?_
          intro v11 w11 ho11 hg11
          have HO11 := Lib.hid ho11
          have HB11 := Lib.hid (HB7.out.trans (HO7.out.changed hg11 HB7.out.size))
          clear ho11 hg11
          refine hK.out _ _ (Box.below HYB.out HB11.out (Box.lt HYB.out)) (fun hHeld => ?_)
          clear hK K
          refine wpAnyH_ready (rs := [12]) (by kernel_rfl) (by simp) ?_
          refine AllReadyH.cons rfl (fun K hK => ?_) AllReadyH.nil
          go_simp
          refine hK.out _ _ (Box.below HYB.out HB11.out (Box.lt HYB.out)) (fun hHeld => ?_)
          clear hK K
          refine wpAnyH_done (by kernel_rfl) ?_ _
          go_wp2
          go_ret
          exact HFIN.out _ _ HO11.out HB11.out
    · have l1 : ¬ (k : Int) < (n : Int) := by omega
      go_wp2_with fail
      refine wp_region_grows (by kernel_rfl) (by kernel_rfl) ?_
      repeat (first
        | (with_reducible refine wpQuiet_no ?_ ?_; (· first | (go_simp; done) | (go_simp; simp [undef]; done)); simp only [Act.put, List.setIfInBounds_toArray, List.set_cons_zero, List.set_cons_succ])
        | quiet_step (fail))
      refine wpQuiet_nil ?_
      rintro w2 ⟨⟨_, hw2⟩, rfl⟩
      have HW := Lib.hid (And.intro (Box.below H.out.2.1 hw2 (Box.lt H.out.2.1)) (H.out.2.2.trans (hw2.mono H.out.2.2.size)))
      clear hw2
      have HDR := Lib.hid (show ∀ x ∈ xs.drop k, ltId x y = false from fun x hx => by rw [List.drop_eq_nil_of_le (by omega)] at hx; cases hx)
      go_wp2_with fail
      have HYB := Lib.hid HW.out.1
      have HIT := Lib.hid (show ∀ u, Below w2.heap.size w2 u → Ids u A k c (xs.take k) from fun u hu => (HX.out.below (HW.out.2.trans (hu.mono HW.out.2.size)) (Nat.le_refl _)).first hk)
      have HID := Lib.hid (show ∀ u, Below w2.heap.size w2 u → Ids u (cutI A c k) (n - k) (c - k) (xs.drop k) from fun u hu => (HX.out.below (HW.out.2.trans (hu.mono HW.out.2.size)) (Nat.le_refl _)).from k hk)
      have HNC := Lib.hid (show cutI A c k = none → c - k = 0 from fun h => by
        unfold cutI at h
        split at h
        · omega
        · have := HNA.out (by simpa using h)
          omega)
      have HFIN := Lib.hid (HFIN0.out w2 HW HDR)
      obtain ⟨hslh, hsll⟩ := HSL.out
      refine wp_region_held_drew (S := fun w' => Box w' w.heap.size 22 (enc y).toArray) (by kernel_rfl) (show Box w2.drew _ _ _ from HYB.out) (fun hHeld => ?_)
      refine take_run 1 25 (v := ?_) rfl rfl (by kernel_rfl) (by kernel_rfl) (by kernel_rfl) (fun _ _ _ h => h) (by rfl) ?_ (by assumption) ?_
      rotate_left
      · (intro wq hSw; (try dsimp only at hSw); go_simp; first | done | with_reducible rfl)
      simp only [Act.put, List.setIfInBounds_toArray, List.set_cons_zero, List.set_cons_succ]
      refine take_run 2 26 (v := ?_) rfl rfl (by kernel_rfl) (by kernel_rfl) (by kernel_rfl) (fun _ _ _ h => h) (by rfl) ?_ (by assumption) ?_
      rotate_left
      · (intro wq hSw; (try dsimp only at hSw); go_simp; first | done | with_reducible rfl)
      simp only [Act.put, List.setIfInBounds_toArray, List.set_cons_zero, List.set_cons_succ]
      refine take_run 3 27 (v := .slice A k c) rfl rfl (by kernel_rfl) (by kernel_rfl) (by kernel_rfl) (fun _ _ _ h => h) (by rfl) (fun wq _ => by refine exec_slice_h 38 _ _ rfl _ _ _ rfl rfl wq ?_; exact hslh wq) (by assumption) ?_
      simp only [Act.put, List.setIfInBounds_toArray, List.set_cons_zero, List.set_cons_succ]
      refine take_load 5 29 22 (.tmp 3) w.heap.size 0 (enc y) _ rfl rfl rfl (by kernel_rfl) (by kernel_rfl) (by kernel_rfl) (fun _ _ _ h => h) (by rfl) rfl (fun wq h => box_range h) Try.underlying22 rfl (infoJ _) (by assumption) ?_
      simp only [Act.put, List.setIfInBounds_toArray, List.set_cons_zero, List.set_cons_succ]
      refine take_run 8 32 (v := ?_) rfl rfl (by kernel_rfl) (by kernel_rfl) (by kernel_rfl) (fun _ _ _ h => h) (by rfl) ?_ (by assumption) ?_
      rotate_left
      · (intro wq hSw; (try dsimp only at hSw); go_simp; first | done | with_reducible rfl)
      simp only [Act.put, List.setIfInBounds_toArray, List.set_cons_zero, List.set_cons_succ]
      refine take_run 9 33 (v := ?_) rfl rfl (by kernel_rfl) (by kernel_rfl) (by kernel_rfl) (fun _ _ _ h => h) (by rfl) ?_ (by assumption) ?_
      rotate_left
      · (intro wq hSw; (try dsimp only at hSw); go_simp; first | done | with_reducible rfl)
      simp only [Act.put, List.setIfInBounds_toArray, List.set_cons_zero, List.set_cons_succ]
      refine take_run 10 34 (v := .slice (cutI A c k) (n - k) (c - k)) rfl rfl (by kernel_rfl) (by kernel_rfl) (by kernel_rfl) (fun _ _ _ h => h) (by rfl) (fun wq _ => by refine exec_slice_l 38 _ _ rfl _ _ _ rfl rfl wq ?_; exact hsll wq) (by assumption) ?_
      simp only [Act.put, List.setIfInBounds_toArray, List.set_cons_zero, List.set_cons_succ]
      refine wpAnyH_ready (rs := [0, 6]) (by kernel_rfl) (by simp) ?_
      refine AllReadyH.cons rfl (fun K hK => ?_) (AllReadyH.cons rfl (fun K hK => ?_) AllReadyH.nil)
      · refine step_build0 38 #[] rfl rfl Try.underlying38 rfl ?_
        intro u0 ho0 hu0
        have HB0 := Lib.hid (show Below w2.heap.size w2 u0 from by rw [hu0]; exact (Below.refl _ w2).drew.alloc (Nat.le_refl _) _)
        have HO0 := Lib.hid (show OwnJ u0 w2.heap.size _ [] from ho0)
        have HS0 := Lib.hid (show u0.heap.size = w2.heap.size + 1 from by rw [hu0, World.size_alloc]; rfl)
        clear ho0 hu0
        refine hK.out _ _ (Box.below HYB.out HB0.out (Box.lt HYB.out)) (fun hHeld => ?_)
        clear hK K
        refine wpAnyH_ready (rs := [4, 6]) (by kernel_rfl) (by simp) ?_
        refine AllReadyH.cons rfl (fun K hK => ?_) (AllReadyH.cons rfl (fun K hK => ?_) AllReadyH.nil)
        · refine step_append_j (.tmp 24) (.tmp 27) rfl rfl w2.heap.size _ [] A k c (xs.take k) rfl rfl HO0.out (HIT.out _ HB0.out) (by intro h; exact HNA.out h) (by have := HLT.out; simp; omega) HB0.out.size ?_
          intro v4 w4 ho4 hg4
          have HO4 := Lib.hid (show OwnJ w4 w2.heap.size v4 (xs.take k) from ho4)
          have HB4 := Lib.hid (HB0.out.trans (HO0.out.changed hg4 HB0.out.size))
          clear ho4 hg4
          refine hK.out _ _ (Box.below HYB.out HB4.out (Box.lt HYB.out)) (fun hHeld => ?_)
          clear hK K
          refine wpAnyH_ready (rs := [6]) (by kernel_rfl) (by simp) ?_
          refine AllReadyH.cons rfl (fun K hK => ?_) AllReadyH.nil
          refine step_build1 38 (.tmp 29) rfl rfl Try.underlying38 y rfl ?_
          intro w6 hb1 hu1
          have hb6 : Below w4.heap.size w4 w6 := by rw [hu1]; exact (Below.refl _ _).alloc (Nat.le_refl _) _
          have HO4' := Lib.hid (HO4.out.below hb6)
          have HB4' := Lib.hid (HB4.out.trans (hb6.mono HB4.out.size))
          have HG4 := Lib.hid hb1
          clear hb1 hu1 hb6 HO4 HB4
          have HO4 := HO4'
          have HB4 := HB4'
          clear HO4' HB4'
          refine hK.out _ _ (Box.below HYB.out HB4.out (Box.lt HYB.out)) (fun hHeld => ?_)
          clear hK K
          generalize w4.heap.size = g1 at HG4 ⊢
          refine wpAnyH_ready (rs := [7]) (by kernel_rfl) (by simp) ?_
          refine AllReadyH.cons rfl (fun K hK => ?_) AllReadyH.nil
          refine step_append_j (.tmp 28) (.tmp 30) rfl rfl w2.heap.size _ (xs.take k) (some ⟨g1, 0, none⟩) 1 1 [y] rfl rfl HO4.out (box_ids HG4.out rfl (Nat.le_refl _)) (by simp) (by have := HLT.out; omega) HB4.out.size ?_
          intro v7 w7 ho7 hg7
          have HO7 := Lib.hid ho7
          have HB7 := Lib.hid (HB4.out.trans (HO4.out.changed hg7 HB4.out.size))
          clear ho7 hg7
          refine hK.out _ _ (Box.below HYB.out HB7.out (Box.lt HYB.out)) (fun hHeld => ?_)
          clear hK K
          refine wpAnyH_ready (rs := [11]) (by kernel_rfl) (by simp) ?_
          refine AllReadyH.cons rfl (fun K hK => ?_) AllReadyH.nil
          refine step_append_j (.tmp 31) (.tmp 34) rfl rfl w2.heap.size _ (xs.take k ++ [y]) (cutI A c k) (n - k) (c - k) (xs.drop k) rfl rfl HO7.out (HID.out _ HB7.out) (by intro h; exact HNC.out h) (by have := HLT.out; rw [List.length_append, List.length_singleton]; omega) HB7.out.size ?_
          intro v11 w11 ho11 hg11
          have HO11 := Lib.hid ho11
          have HB11 := Lib.hid (HB7.out.trans (HO7.out.changed hg11 HB7.out.size))
          clear ho11 hg11
          refine hK.out _ _ (Box.below HYB.out HB11.out (Box.lt HYB.out)) (fun hHeld => ?_)
          clear hK K
          refine wpAnyH_ready (rs := [12]) (by kernel_rfl) (by simp) ?_
          refine AllReadyH.cons rfl (fun K hK => ?_) AllReadyH.nil
          go_simp
          refine hK.out _ _ (Box.below HYB.out HB11.out (Box.lt HYB.out)) (fun hHeld => ?_)
          clear hK K
          refine wpAnyH_done (by kernel_rfl) ?_ _
          go_wp2
          go_ret
          exact HFIN.out _ _ HO11.out HB11.out
        · refine step_build1 38 (.tmp 29) rfl rfl Try.underlying38 y rfl ?_
          intro w6 hb1 hu1
          have hb6 : Below u0.heap.size u0 w6 := by rw [hu1]; exact (Below.refl _ _).alloc (Nat.le_refl _) _
          have HO6 := Lib.hid (HO0.out.below hb6)
          have HB6 := Lib.hid (HB0.out.trans (hb6.mono HB0.out.size))
          have HG6 := Lib.hid hb1
          clear hb1 hu1 hb6
          refine hK.out _ _ (Box.below HYB.out HB6.out (Box.lt HYB.out)) (fun hHeld => ?_)
          clear hK K
          refine wpAnyH_ready (rs := [4]) (by kernel_rfl) (by simp) ?_
          refine AllReadyH.cons rfl (fun K hK => ?_) AllReadyH.nil
          refine step_append_j (.tmp 24) (.tmp 27) rfl rfl w2.heap.size _ [] A k c (xs.take k) rfl rfl HO6.out (HIT.out _ HB6.out) (by intro h; exact HNA.out h) (by have := HLT.out; simp; omega) HB6.out.size ?_
          intro v4 w4 ho4 hg4
          have HO4 := Lib.hid (show OwnJ w4 w2.heap.size v4 (xs.take k) from ho4)
          have HB4 := Lib.hid (HB6.out.trans (HO6.out.changed hg4 HB6.out.size))
          have HG4 := Lib.hid (Box.grown HG6.out hg4 (fun e => by have h := HS0.out; have e' : u0.heap.size = w2.heap.size := Option.some.inj e; omega))
          clear ho4 hg4
          refine hK.out _ _ (Box.below HYB.out HB4.out (Box.lt HYB.out)) (fun hHeld => ?_)
          clear hK K
          generalize u0.heap.size = g1 at HG4 ⊢
          refine wpAnyH_ready (rs := [7]) (by kernel_rfl) (by simp) ?_
          refine AllReadyH.cons rfl (fun K hK => ?_) AllReadyH.nil
          refine step_append_j (.tmp 28) (.tmp 30) rfl rfl w2.heap.size _ (xs.take k) (some ⟨g1, 0, none⟩) 1 1 [y] rfl rfl HO4.out (box_ids HG4.out rfl (Nat.le_refl _)) (by simp) (by have := HLT.out; omega) HB4.out.size ?_
          intro v7 w7 ho7 hg7
          have HO7 := Lib.hid ho7
          have HB7 := Lib.hid (HB4.out.trans (HO4.out.changed hg7 HB4.out.size))
          clear ho7 hg7
          refine hK.out _ _ (Box.below HYB.out HB7.out (Box.lt HYB.out)) (fun hHeld => ?_)
          clear hK K
          refine wpAnyH_ready (rs := [11]) (by kernel_rfl) (by simp) ?_
          refine AllReadyH.cons rfl (fun K hK => ?_) AllReadyH.nil
          refine step_append_j (.tmp 31) (.tmp 34) rfl rfl w2.heap.size _ (xs.take k ++ [y]) (cutI A c k) (n - k) (c - k) (xs.drop k) rfl rfl HO7.out (HID.out _ HB7.out) (by intro h; exact HNC.out h) (by have := HLT.out; rw [List.length_append, List.length_singleton]; omega) HB7.out.size ?_
          intro v11 w11 ho11 hg11
          have HO11 := Lib.hid ho11
          have HB11 := Lib.hid (HB7.out.trans (HO7.out.changed hg11 HB7.out.size))
          clear ho11 hg11
          refine hK.out _ _ (Box.below HYB.out HB11.out (Box.lt HYB.out)) (fun hHeld => ?_)
          clear hK K
          refine wpAnyH_ready (rs := [12]) (by kernel_rfl) (by simp) ?_
          refine AllReadyH.cons rfl (fun K hK => ?_) AllReadyH.nil
          go_simp
          refine hK.out _ _ (Box.below HYB.out HB11.out (Box.lt HYB.out)) (fun hHeld => ?_)
          clear hK K
          refine wpAnyH_done (by kernel_rfl) ?_ _
          go_wp2
          go_ret
          exact HFIN.out _ _ HO11.out HB11.out
      · refine step_build1 38 (.tmp 29) rfl rfl Try.underlying38 y rfl ?_
        intro u1 hb1 hu1
        have HB1 := Lib.hid (show Below w2.heap.size w2 u1 from by rw [hu1]; exact (Below.refl _ w2).drew.alloc (Nat.le_refl _) _)
        have HG1 := Lib.hid (show Box u1 w2.heap.size _ _ from hb1)
        have HS1 := Lib.hid (show u1.heap.size = w2.heap.size + 1 from by rw [hu1, World.size_alloc]; rfl)
        clear hb1 hu1
        refine hK.out _ _ (Box.below HYB.out HB1.out (Box.lt HYB.out)) (fun hHeld => ?_)
        clear hK K
        refine wpAnyH_ready (rs := [0]) (by kernel_rfl) (by simp) ?_
        refine AllReadyH.cons rfl (fun K hK => ?_) AllReadyH.nil
        refine step_build0 38 #[] rfl rfl Try.underlying38 rfl ?_
        intro u0 ho0 hu0
        have hb0 : Below u1.heap.size u1 u0 := by rw [hu0]; exact (Below.refl _ _).alloc (Nat.le_refl _) _
        have HB0 := Lib.hid (HB1.out.trans (hb0.mono HB1.out.size))
        have HO0 := Lib.hid (OwnJ.mono ho0 HB1.out.size)
        have HG0 := Lib.hid (Box.below HG1.out hb0 (Box.lt HG1.out))
        clear ho0 hu0 hb0
        refine hK.out _ _ (Box.below HYB.out HB0.out (Box.lt HYB.out)) (fun hHeld => ?_)
        clear hK K
        refine wpAnyH_ready (rs := [4]) (by kernel_rfl) (by simp) ?_
        refine AllReadyH.cons rfl (fun K hK => ?_) AllReadyH.nil
        refine step_append_j (.tmp 24) (.tmp 27) rfl rfl w2.heap.size _ [] A k c (xs.take k) rfl rfl HO0.out (HIT.out _ HB0.out) (by intro h; exact HNA.out h) (by have := HLT.out; simp; omega) HB0.out.size ?_
        intro v4 w4 ho4 hg4
        have HO4 := Lib.hid (show OwnJ w4 w2.heap.size v4 (xs.take k) from ho4)
        have HB4 := Lib.hid (HB0.out.trans (HO0.out.changed hg4 HB0.out.size))
        have HG4 := Lib.hid (Box.grown HG0.out hg4 (fun e => by have h := HS1.out; have e' : w2.heap.size = u1.heap.size := Option.some.inj e; omega))
        clear ho4 hg4
        refine hK.out _ _ (Box.below HYB.out HB4.out (Box.lt HYB.out)) (fun hHeld => ?_)
        clear hK K
        obtain ⟨g1, hg1⟩ : ∃ g, w2.heap.size = g := ⟨_, rfl⟩
        rw [show (some (⟨w2.drew.heap.size, 0, none⟩ : Addr)) = some ⟨g1, 0, none⟩ from by rw [← hg1]; rfl]
        rw [hg1] at HG4
        refine wpAnyH_ready (rs := [7]) (by kernel_rfl) (by simp) ?_
        refine AllReadyH.cons rfl (fun K hK => ?_) AllReadyH.nil
        refine step_append_j (.tmp 28) (.tmp 30) rfl rfl w2.heap.size _ (xs.take k) (some ⟨g1, 0, none⟩) 1 1 [y] rfl rfl HO4.out (box_ids HG4.out rfl (Nat.le_refl _)) (by simp) (by have := HLT.out; omega) HB4.out.size ?_
        intro v7 w7 ho7 hg7
        have HO7 := Lib.hid ho7
        have HB7 := Lib.hid (HB4.out.trans (HO4.out.changed hg7 HB4.out.size))
        clear ho7 hg7
        refine hK.out _ _ (Box.below HYB.out HB7.out (Box.lt HYB.out)) (fun hHeld => ?_)
        clear hK K
        refine wpAnyH_ready (rs := [11]) (by kernel_rfl) (by simp) ?_
        refine AllReadyH.cons rfl (fun K hK => ?_) AllReadyH.nil
        refine step_append_j (.tmp 31) (.tmp 34) rfl rfl w2.heap.size _ (xs.take k ++ [y]) (cutI A c k) (n - k) (c - k) (xs.drop k) rfl rfl HO7.out (HID.out _ HB7.out) (by intro h; exact HNC.out h) (by have := HLT.out; rw [List.length_append, List.length_singleton]; omega) HB7.out.size ?_
        intro v11 w11 ho11 hg11
        have HO11 := Lib.hid ho11
        have HB11 := Lib.hid (HB7.out.trans (HO7.out.changed hg11 HB7.out.size))
        clear ho11 hg11
        refine hK.out _ _ (Box.below HYB.out HB11.out (Box.lt HYB.out)) (fun hHeld => ?_)
        clear hK K
        refine wpAnyH_ready (rs := [12]) (by kernel_rfl) (by simp) ?_
        refine AllReadyH.cons rfl (fun K hK => ?_) AllReadyH.nil
        go_simp
        refine hK.out _ _ (Box.below HYB.out HB11.out (Box.lt HYB.out)) (fun hHeld => ?_)
        clear hK K
        refine wpAnyH_done (by kernel_rfl) ?_ _
        go_wp2
        go_ret
        exact HFIN.out _ _ HO11.out HB11.out
end Go.Proofs.Ytjnobakbjapfjaa
