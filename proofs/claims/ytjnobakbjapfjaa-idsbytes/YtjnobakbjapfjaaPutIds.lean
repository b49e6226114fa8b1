/-
  A set's bytes: ids.Put, walked, given what lay.PutNumber hands back.
-/
import Derived.Test.YtjnobakbjapfjaaAll
namespace Go.Proofs.Ytjnobakbjapfjaa
open Go.RowKit Go.Sort Go.Shelf

attribute [local go_sem] Oper.semAt_some

/-- What is asked of lay.PutNumber: one number, laid as E says. -/
def NumGives (E : Nat → List UInt8) : Prop := ∀ (w : World) (n g : Nat), n ≤ 1000 → Box w g 69 #[.int .u64 (n : Int)] →
  Calls Try.prog 38 #[.slice none 0 0, .slice (some ⟨g, 0, none⟩) 1 1] w fun e w' => ∃ v, e = .returned v ∧ Own w' w.heap.size v (E n) ∧ Below w.heap.size w w'

/-- One operation of a drawn region, inside a fence. -/
theorem opIn_run {F : Fence} {n : Nat} {P : Program} {ops : Array Oper} {Q : Exit → Act → World → Prop} {o : Oper} {a : Act} {w w' : World} {K : Act → World → Prop} (v : Value) (hg : o.guard = none) (hd : ∀ c, o.op ≠ .defer c) (ha : o.about P w a.eval = none)
    (hrun : (execOp a.eval o).run P w = .ok (.value v) w') (h : K (a.put o.dst v) w') : if Region.wanted o (yielded ops a.tmps) = true then o.wpIn F n P a w K Q else (∀ f, o.about P w a.eval = some f → F.fn f) ∧ K (a.put o.dst undef) w := by
  have hw : Region.wanted o (yielded ops a.tmps) = true := by simp [Region.wanted, hg]
  rw [if_pos hw]
  unfold Oper.wpIn
  refine ⟨fun f hf => (by rw [ha] at hf; cases hf), ?_⟩
  rw [Oper.semAt_plain F _ _ hd, hrun]
  rw [Oper.uponIn_value]
  exact h

/-- The same for a store. -/
theorem opIn_store {F : Fence} {n : Nat} {P : Program} {ops : Array Oper} {Q : Exit → Act → World → Prop} {o : Oper} {a : Act} {w w' : World} {K : Act → World → Prop} (hg : o.guard = none) (hd : ∀ c, o.op ≠ .defer c) (ha : o.about P w a.eval = none)
    (hrun : (execOp a.eval o).run P w = .ok .skip w') (h : K (a.put o.dst undef) w') : if Region.wanted o (yielded ops a.tmps) = true then o.wpIn F n P a w K Q else (∀ f, o.about P w a.eval = some f → F.fn f) ∧ K (a.put o.dst undef) w := by
  have hw : Region.wanted o (yielded ops a.tmps) = true := by simp [Region.wanted, hg]
  rw [if_pos hw]
  unfold Oper.wpIn
  refine ⟨fun f hf => (by rw [ha] at hf; cases hf), ?_⟩
  rw [Oper.semAt_plain F _ _ hd, hrun, Oper.uponIn_skip]
  exact h

/-- A block of another type is none of a row's own. -/
theorem not_row {W : World} {g : Nat} {t e : TypeId} {cur : Array Value} (h : Box W g t cur) (hte : t ≠ e) {base size k : Nat} {v : Value} {xs : List Value} (hr : W.ownsRow base e size v k xs) : some g ≠ v.ownBlock := by
  rcases hr.2 with ⟨rfl, _⟩ | ⟨g', cap, cur', rfl, _, hgb, _⟩
  · simp [Value.ownBlock]
  · intro e'
    obtain rfl : g = g' := by simpa [Value.ownBlock] using e'
    have := (show W.heap[g]? = _ from h).symm.trans hgb
    simp at this
    exact hte this.2
theorem appended {W w1 : World} {base B : Nat} {v v' : Value} {l l' : List UInt8} (hv : Boxed W B 34 v) (hrow : Own W base v l) (hn₀ : base ≤ W.heap.size) (hB : base ≤ B) (hown' : Own w1 base v' l') (hgrow : W.grownBy w1 v.ownBlock) :
    Boxed w1 B 34 v ∧ Boxed (w1.setCell ⟨B, 0, none⟩ v') B 34 v' ∧ Own (w1.setCell ⟨B, 0, none⟩ v') base v' l' ∧ KeepsOthers W (w1.setCell ⟨B, 0, none⟩ v') ∧ Below base W (w1.setCell ⟨B, 0, none⟩ v') ∧
      ∀ g cur, Box W g 23 cur → g ≠ B → KeptAt g W (w1.setCell ⟨B, 0, none⟩ v') := by
  have hv1 : Boxed w1 B 34 v := hv.kept hgrow (hv.not_row (by decide) hrow)
  refine ⟨hv1, hv1.set v', World.ownsRow.kept hown' (grownBy_setCell' w1 B v') (.inr (hv1.not_row (by decide) hown').symm), ?_, ?_, ?_⟩
  · refine (KeepsOthers.of_grownBy hgrow fun j o ej hj => ?_).trans (KeepsOthers.setCell _ _ _)
    rcases hrow.2 with ⟨rfl, _⟩ | ⟨g, cap, cur, rfl, _, hgb, _⟩
    · simp [Value.ownBlock] at ej
    · obtain rfl : g = j := by simpa [Value.ownBlock] using ej
      rw [hgb] at hj; cases hj; rfl
  · exact (hrow.changed hgrow hn₀).setCell (p := ⟨B, 0, none⟩) hB v'
  · intro g cur hg hne
    exact (KeptAt.grown hgrow (Box.lt hg) (not_row hg (by decide) hrow)).trans (KeptAt.grown (grownBy_setCell' w1 B v') (Nat.lt_of_lt_of_le (Box.lt hg) hgrow.size) (by simpa using hne))

/-- 'append(out, i[:]...)', one operation of a drawn region inside a fence. -/
theorem opIn_bytes {F : Fence} {n : Nat} {ops : Array Oper} {Q : Exit → Act → World → Prop} {o : Oper} {a : Act} {K : Act → World → Prop} (w : World) (s x : Operand) (hgd : o.guard = none)
    (hop : o.op = .call { callee := .builtin .append, args := #[s, x], argTypes := #[34, 34] })
    (base : Nat) (v : Value) (l : List UInt8) (g m c : Nat) (news : List UInt8) (hs : a.eval s = v) (hx : a.eval x = .slice (some ⟨g, 0, none⟩) m c) (hown : Own w base v l) (hl : w.rangeAt g 0 (bc news)) (hm : news.length = m)
    (hz : l.length + m ≤ 8589934592) (hb : base ≤ w.heap.size)
    (h : ∀ v' w', Own w' base v' (l ++ news) → w.grownBy w' v.ownBlock → K (a.put o.dst v') w') : if Region.wanted o (yielded ops a.tmps) = true then o.wpIn F n Try.prog a w K Q else (∀ f, o.about Try.prog w a.eval = some f → F.fn f) ∧ K (a.put o.dst undef) w := by
  obtain ⟨i0, hi, hz0, hz1, hz2⟩ := info_parts Try.byteInfo
  obtain ⟨v', w', hrun, r1, r2, _⟩ := run_append_own (P := Try.prog) w base 34 o.type 5 i0 (.int .u8 0) 1 1 Try.underlying34 hi hz0 hz1 hz2 rfl (by decide) v l.length (bc l) hown ⟨g, 0, none⟩ m c (bc news) (by rw [bc_length, hm, Nat.mul_one])
    (fun j u hu => by rw [Addr.add_mid]; exact hl j u hu) (bc_one news) (by unfold maxLen; omega) (by omega) hb
  refine opIn_run (w' := w') v' hgd (by rw [hop]; intro c hc'; cases hc') (by simp [Oper.about, hop, resolve, Target.leads, Sem.run_pure]) ?_ (h v' w' ?_ r2)
  · simp [execOp, hop, resolve, invoke, builtin, hs, hx, hrun, Result.andThen]
  · unfold Own
    rw [List.length_append, bc_append, hm]
    exact r1

theorem box_own {β : Type} (g : Nat) (t : TypeId) (cur : Array Value) : Go.Own (fun (_ : β) W => Box W g t cur) := fun _ X Y row hs hg hrow =>
  Box.grown hs hg (fun e' => by obtain ⟨o, ho, hc⟩ := hrow g e'.symm; rw [show X.heap[g]? = _ from hs] at ho; cases ho; cases hc)
/-- What holds behind some rounds: out has the bytes so far, in memory of the call's own; the copy lies. -/
def PutI (w : World) (O g : Nat) (E0 : List UInt8) (xs : List Id) (pre : List Id) (W : World) : Prop :=
  ((∃ v, Boxed W O 34 v ∧ W.ownsRow w.heap.size 5 1 v (E0 ++ fb pre).length (bc (E0 ++ fb pre)) ∧ True) ∧ Box W g 23 (ec xs).toArray) ∧ Below w.heap.size w W
theorem putI_own (w : World) (O g : Nat) (E0 : List UInt8) (xs : List Id) (B : Nat) (hB : w.heap.size ≤ B) : OwnFrom B (PutI w O g E0 xs) :=
  OwnFrom.and (OwnFrom.and (Own.from (holdsRow_own w.heap.size O 34 5 1 (fun pre => (E0 ++ fb pre).length) (fun pre => bc (E0 ++ fb pre)) (fun _ _ => True)) _) (Own.from (box_own g 23 _) _)) (ownFrom_below (Nat.le_refl _) hB)

set_option maxRecDepth 100000 in
set_option maxHeartbeats 4000000 in
theorem put_core (E : Nat → List UInt8) (hE : ∀ n, n ≤ 1000 → (E n).length ≤ 9) (hPN : NumGives E) (w : World) (A : Option Addr) (n c : Nat) (xs : List Id) (hx : Ids w A n c xs) (hn : n ≤ 1000) :
    Calls Try.prog 15 #[.slice A n c] w fun e w' => ∃ v, e = .returned v ∧ Own w' w.heap.size v (E n ++ fb xs) ∧ Below w.heap.size w w' := by
  have HX := Lib.hid hx
  clear hx
  have hm : (n : Int) % 18446744073709551616 = (n : Int) := by omega
  refine (callsIn_wide (n := 4)).1 ?_
  refine callsIn_of_wp_marks Try.func15 rfl trivial ?_ rfl
  simp only [Try.ntmps15, List.size_toArray, List.length_cons, List.length_nil, Nat.reduceAdd, Nat.reduceSub, Array.replicate_succ, Array.replicate_zero, List.push_toArray, List.append_toArray, List.nil_append, List.cons_append]
  gi_wp2_with fail
  refine ⟨trivial, (callsIn_wide.2 (hPN _ n _ hn (Box.made w 69 _))).mono ?_⟩
  rintro e w1 ⟨v1, rfl, hown1, hbel1⟩
  have hsz1 : w.heap.size < w1.heap.size := by have := hbel1.size; simp at this; omega
  have hbw1 : Below w.heap.size w w1 := ((Below.refl _ w).alloc (Nat.le_refl _) _).trans (hbel1.mono (by simp))
  have hown1' : Own w1 w.heap.size v1 (E n) := ⟨hown1.1, hown1.2.imp id (fun ⟨g, cap, cur, h1, h2, h3⟩ => ⟨g, cap, cur, h1, Nat.le_trans (by simp) h2, h3⟩)⟩
  obtain ⟨A1, c1, hv1, _⟩ := hown1'.lies
  have HV1 := Lib.hid hv1
  have HO1 := Lib.hid hown1'
  have HB1 := Lib.hid hbw1
  have HS1 := Lib.hid hsz1
  clear hown1 hown1' hbel1 hbw1 hsz1 hv1
  rw [HV1.out] at HO1 ⊢
  gi_wp2_with fail
  obtain ⟨w2, hw2⟩ : ∃ w2, w1.alloc (.cells #[.slice A1 (E n).length c1] 34) = w2 := ⟨_, rfl⟩
  have hbox2 : Boxed w2 w1.heap.size 34 (.slice A1 (E n).length c1) := by rw [← hw2]; exact Boxed.new w1 _ _
  have hb2 : Below w1.heap.size w1 w2 := by rw [← hw2]; exact (Below.refl _ w1).alloc (Nat.le_refl _) _
  have hs2 : w2.heap.size = w1.heap.size + 1 := by rw [← hw2]; simp
  rw [hw2]
  clear hw2
  have ho2 : Own w2 w.heap.size (.slice A1 (E n).length c1) (E n) := HO1.out.below hb2
  have hbw2 : Below w.heap.size w w2 := HB1.out.trans (hb2.mono HB1.out.size)
  refine ⟨trivial, (callsIn_wide.2 (all_in w2 A n c xs (HX.out.below hbw2 (Nat.le_refl _)) hn)).mono ?_⟩
  rintro e w3 ⟨B, rfl, hBlt, hrow3, hboxB, hb3⟩
  have hbox3 : Boxed w3 w1.heap.size 34 (.slice A1 (E n).length c1) := (hb3.block _ hbox2.lt).trans hbox2
  have ho3 : Own w3 w.heap.size (.slice A1 (E n).length c1) (E n) := ho2.below hb3
  have hbw3 : Below w.heap.size w w3 := hbw2.trans (hb3.mono hbw2.size)
  have hlen := HX.out.len
  have hEn := hE n hn
  have hS1 := HS1.out
  have H3 := Lib.hid (And.intro hbox3 (And.intro ho3 (And.intro hbw3 (And.intro hrow3 (And.intro hboxB hBlt)))))
  clear hbox2 hb2 ho2 hbw2 hrow3 hboxB hb3 hbox3 ho3 hbw3 HO1 HB1 hBlt
  gi_wp2_with fail
  obtain ⟨hbox3, ho3, hbw3, hrow3, hboxB, hBlt⟩ := H3.out
  have hg3 : w2.heap.size < w3.heap.size := Box.lt hrow3
  have hw3 : w.heap.size ≤ w3.heap.size := hbw3.size
  have hI := putI_own w w1.heap.size w2.heap.size (E n) xs w3.heap.size hw3
  have hz := (zero_of_info idZero').1
  have hza := enc_size (default : Id)
  obtain ⟨zi, hzi⟩ : ∃ z : Id, z = default := ⟨_, rfl⟩
  rw [← hzi] at hz hza
  clear hzi
  refine wpIn_rangeFunc_ownH rfl (by omega) (gf := 61) (lb := #[.pointer (some ⟨B, 0, none⟩)]) rfl trivial (enters_of Try.func61 (by kernel_rfl) rfl)
    (all_stops Fence.wide 3 trivial rfl (by omega) B w2.heap.size n n xs hlen hn w3 hboxB.lt hg3 hboxB.cell (range_box hrow3)) (fun h k => h.trans k)
    (fun W l o o' hl h _ _ => KeptAt.grown (grownBy_putObj' W l o') (Nat.lt_of_lt_of_le hg3 (by have := (Array.getElem?_eq_some_iff.1 h).1; omega)) (by simp; omega)) (Below.refl _ _) (fun _ => rfl)
    (PutI w w1.heap.size w2.heap.size (E n) xs) (fun _ _ _ => False) hI (fun _ _ _ _ _ hs _ _ => hs)
    ⟨⟨⟨_, hbox3, by rw [fb_nil, List.append_nil]; exact ho3, trivial⟩, hrow3⟩, hbw3⟩
    (fun x a' W => ∃ Bx, Box W Bx 23 (enc x).toArray ∧ a' = { tmps := #[.slice A n c, undef, .slice none 0 0, .pointer (some ⟨w1.heap.size, 0, none⟩), .pointer (some ⟨Bx, 0, none⟩), .slice A n c, .int .i64 n, .int .u64 n, .slice (some ⟨w.heap.size, 0, none⟩) 1 1, .slice A1 (E n).length c1, .slice A n c, .func (.func 61) #[] #[.pointer (some ⟨B, 0, none⟩)], .agg (enc x).toArray, undef, undef, undef, undef], defers := [] })
    (fun x a' _ X Y row hs hg hr => by obtain ⟨Bx, h2, h3⟩ := hs; exact ⟨Bx, box_own Bx 23 _ () X Y row h2 hg (fun r e => (hr r e).2), h3⟩)
    ?assign ?body ?done ?stop
  case assign =>
    rintro l pre x W K hi hK
    have HI := Lib.hid hi
    clear hi
    gi_wp2_with (refine wpListIn_store_box rfl _ _ rfl W.heap.size x zi rfl rfl (Box.made W _ _) ?_; intro w5 hb5 hg5; have HB5 := Lib.hid hb5; have HG5 := Lib.hid (grown_new hg5); clear hb5 hg5)
    exact hK _ _ (KeepsFrom.of_grownBy HG5.out (fun j e => by cases e)) (KeptAt.grown HG5.out (Box.lt HI.out.1.2) (by simp)) (hI pre W w5 none HI.out HG5.out (fun r e => by cases e)) ⟨_, HB5.out, rfl⟩
  case body =>
    rintro l pre x a' W hl _ hi ⟨Bx, hBx, rfl⟩ hlt
    obtain ⟨⟨⟨v, hv, hrow, _⟩, hg⟩, hB⟩ := hi
    have hown : Own W.drew w.heap.size v (E n ++ fb pre) := hrow
    have hc : W.drew.cell? ⟨w1.heap.size, 0, none⟩ = some v := hv.cell
    have hlp : (E n ++ fb pre).length + 32 ≤ 8589934592 := by rw [List.length_append, fb_length]; omega
    have hxl := x.2
    apply wpIn_block
    refine wpIn_region_any (by kernel_rfl) ?_
    change wpAnyIn _ _ _ _ _ _ _ _ _ (World.drew _)
    refine wpAnyIn_ready (rs := [0, 1]) (by kernel_rfl) (by simp) ?_
    refine AllReadyIn.cons rfl (fun K hK => opIn_run (w' := W.drew) v rfl (by intro c h; cases h) rfl (by go_simp) (hK _ _ ?_)) (AllReadyIn.cons rfl (fun K hK => opIn_run (w' := W.drew) (.slice (some ⟨Bx, 0, none⟩) 32 32) rfl (by intro c h; cases h) rfl (by go_simp) (hK _ _ ?_)) AllReadyIn.nil)
    · refine wpAnyIn_ready (rs := [1]) (by kernel_rfl) (by simp) ?_
      refine AllReadyIn.cons rfl (fun K hK => opIn_run (w' := W.drew) (.slice (some ⟨Bx, 0, none⟩) 32 32) rfl (by intro c h; cases h) rfl (by go_simp) (hK _ _ ?_)) AllReadyIn.nil
      refine wpAnyIn_ready (rs := [2]) (by kernel_rfl) (by simp) ?_
      refine AllReadyIn.cons rfl (fun K hK => opIn_bytes W.drew (.tmp 13) (.tmp 14) rfl rfl w.heap.size v (E n ++ fb pre) Bx 32 32 x.1 rfl rfl hown (range_box hBx) x.2 hlp hB.size (fun v' w5 hown5 hgrow5 => hK _ _ ?_)) AllReadyIn.nil
      obtain ⟨A5, c5, hv5, _⟩ := hown5.lies
      have hgr : W.grownBy w5 v.ownBlock := grown_trans (grown_drew (grown_refl W _)) hgrow5
      obtain ⟨k1, k2, k3, k4, k5, k6⟩ := appended hv hrow hB.size (by omega) hown5 hgr
      have hc5 := k1.cell
      have hf5 := k1.frozen
      have hkp := k6 _ _ hg (by omega)
      have hfb : E n ++ fb pre ++ x.1 = E n ++ fb (pre ++ [x]) := by rw [fb_append, List.append_assoc]; simp [fb]
      rw [hfb] at k3
      have HP := Lib.hid (show KeepsFrom w3.heap.size W _ ∧ KeptAt w2.heap.size W _ ∧ PutI w w1.heap.size w2.heap.size (E n) xs (pre ++ [x]) _ from ⟨k4.from _, hkp, ⟨⟨⟨_, k2, k3, trivial⟩, hkp.same.trans hg⟩, hB.trans k5⟩⟩)
      clear k1 k2 k3 k4 k5 k6 hkp hgr hgrow5 hown5 hfb
      rw [hv5] at HP ⊢
      refine wpAnyIn_ready (rs := [3]) (by kernel_rfl) (by simp) ?_
      refine AllReadyIn.cons rfl (fun K hK => opIn_store (w' := w5.setCell ⟨w1.heap.size, 0, none⟩ (.slice A5 (E n ++ fb pre ++ x.1).length c5)) rfl (by intro c h; cases h) rfl (by go_simp) (hK _ _ ?_)) AllReadyIn.nil
      refine wpAnyIn_done (by kernel_rfl) ?_ _
      exact HP.out
    · refine wpAnyIn_ready (rs := [0]) (by kernel_rfl) (by simp) ?_
      refine AllReadyIn.cons rfl (fun K hK => opIn_run (w' := W.drew) v rfl (by intro c h; cases h) rfl (by go_simp) (hK _ _ ?_)) AllReadyIn.nil
      refine wpAnyIn_ready (rs := [2]) (by kernel_rfl) (by simp) ?_
      refine AllReadyIn.cons rfl (fun K hK => opIn_bytes W.drew (.tmp 13) (.tmp 14) rfl rfl w.heap.size v (E n ++ fb pre) Bx 32 32 x.1 rfl rfl hown (range_box hBx) x.2 hlp hB.size (fun v' w5 hown5 hgrow5 => hK _ _ ?_)) AllReadyIn.nil
      obtain ⟨A5, c5, hv5, _⟩ := hown5.lies
      have hgr : W.grownBy w5 v.ownBlock := grown_trans (grown_drew (grown_refl W _)) hgrow5
      obtain ⟨k1, k2, k3, k4, k5, k6⟩ := appended hv hrow hB.size (by omega) hown5 hgr
      have hc5 := k1.cell
      have hf5 := k1.frozen
      have hkp := k6 _ _ hg (by omega)
      have hfb : E n ++ fb pre ++ x.1 = E n ++ fb (pre ++ [x]) := by rw [fb_append, List.append_assoc]; simp [fb]
      rw [hfb] at k3
      have HP := Lib.hid (show KeepsFrom w3.heap.size W _ ∧ KeptAt w2.heap.size W _ ∧ PutI w w1.heap.size w2.heap.size (E n) xs (pre ++ [x]) _ from ⟨k4.from _, hkp, ⟨⟨⟨_, k2, k3, trivial⟩, hkp.same.trans hg⟩, hB.trans k5⟩⟩)
      clear k1 k2 k3 k4 k5 k6 hkp hgr hgrow5 hown5 hfb
      rw [hv5] at HP ⊢
      refine wpAnyIn_ready (rs := [3]) (by kernel_rfl) (by simp) ?_
      refine AllReadyIn.cons rfl (fun K hK => opIn_store (w' := w5.setCell ⟨w1.heap.size, 0, none⟩ (.slice A5 (E n ++ fb pre ++ x.1).length c5)) rfl (by intro c h; cases h) rfl (by go_simp) (hK _ _ ?_)) AllReadyIn.nil
      refine wpAnyIn_done (by kernel_rfl) ?_ _
      exact HP.out
  case done =>
    rintro D ys W hD rfl ⟨⟨⟨v, hv, hrow, _⟩, _⟩, hB⟩ hK
    have hc := hv.cell
    gi_wp2
    refine ⟨by simp, .inl ⟨_, _, rfl, run_takeDeferred hK, ?_⟩⟩
    exact ⟨_, results_tmp rfl _ _ _, v, rfl, ownsRow_putObj hrow _ hK rfl, hB.trans (belowK_b (w := w) (Nat.le_refl _) W D _ _ (by omega) hK rfl rfl)⟩
  case stop =>
    rintro D c pre W _ _ h _
    exact h.elim
end Go.Proofs.Ytjnobakbjapfjaa
