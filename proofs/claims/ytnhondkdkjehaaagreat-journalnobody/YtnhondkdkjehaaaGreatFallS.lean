/-
  Fall: writes that wait are taken back from the last one on, and laid again as much as is kept of each.
-/
import Derived.Test.YtnhondkdkjehaaaGreatSlK
import Derived.Test.YtnhondkdkjehaaaGreatWriteS
namespace Go.Proofs.YtnhondkdkjehaaaGreat
open Go.RowKit Go.Shelf

attribute [local go_sem] Oper.semAt_some

/-- As Q, and no panic. -/
def noPanic (Q : Exit → Act → World → Prop) : Exit → Act → World → Prop
  | .panic _, _, _ => False
  | e, a, w => Q e a w
theorem noPanic_to (Q : Exit → Act → World → Prop) : ∀ e a w, noPanic Q e a w → Q e a w
  | .panic _, _, _, h => h.elim
  | .normal, _, _, h => h
  | .ret, _, _, h => h
  | .exit _, _, _, h => h
  | .goto _, _, _, h => h
  | .outgrown, _, _, h => h
/-- Within a fall: the device's own numbers are as they were, its blocks are bs. -/
def FallI (w : World) (B p gb P0 : Nat) (ex : Nat × List Value) (v : Value) (D : Dv) (bs : List Bk) (W : World) : Prop :=
  Box W p 116 (dc gb ex v D) ∧ Box W gb 119 (fl be bs ++ ex.2).toArray ∧ W.ownsRow 0 122 513 v D.ws.length (fl we D.ws) ∧ Box W P0 24 #[.pointer (some ⟨p, 0, none⟩)] ∧ Touch (fun k => k = gb) w W ∧ B ≤ W.heap.size
section
variable {w W W' : World} {B p gb P0 : Nat} {ex : Nat × List Value} {v : Value} {D : Dv} {bs bs' : List Bk}
theorem box_keep {g : Nat} {t : TypeId} {cs : Array Value} {row : Option Nat} (h : Box W g t cs) (hg : W.grownBy W' row) (hr : ∀ r, row = some r → ∃ o : Obj, W.heap[r]? = some o ∧ o.isCells = false) : Box W' g t cs :=
  Box.grown h hg (fun e => by obtain ⟨o, ho, hc⟩ := hr g e.symm; rw [show W.heap[g]? = _ from h] at ho; cases ho; cases hc)
theorem Dev.keep {K : Nat → Prop} {row : Option Nat} (h : Dev W K p D) (hg : W.grownBy W' row) (hr : ∀ r, row = some r → ∃ o : Obj, W.heap[r]? = some o ∧ o.isCells = false) : Dev W' K p D := by
  obtain ⟨hok, gb, ex, v, h1, h2, h3, h4, h5, h6⟩ := h
  refine ⟨hok, gb, ex, v, box_keep h1 hg hr, box_keep h2 hg hr, World.ownsRow.kept h3 hg ?_, h4, h5, h6⟩
  rcases h3.2 with ⟨rfl, _⟩ | ⟨g, cap, cur, rfl, _, hgb, _⟩
  · exact .inl rfl
  · refine .inr (fun e => ?_)
    obtain ⟨o, ho, hc⟩ := hr g e.symm
    rw [hgb] at ho
    cases ho
    cases hc
theorem laidAt_part (bs : List Bk) (r : List Value) (n m : Nat) (x : Bk) (hn : n < bs.length) (hm : m ≤ 256) : laidAt (fl be bs ++ r).toArray x.1 (n * 256) m = (fl be (bs.set n (part x (bs.getD n default) m)) ++ r).toArray := by
  obtain ⟨b, hb⟩ : ∃ b, bs.getD n default = b := ⟨_, rfl⟩
  have hbn : bs[n]? = some b := by rw [← hb]; simp [hn]
  rw [hb, ← fl_set_app be_length bs r n _ hn]
  unfold laidAt
  congr 1
  have hlen := fl_length be_length bs
  have h1 : (fl be bs ++ r).drop (n * 256 + m) = bc (b.1.drop m) ++ (fl be bs ++ r).drop (n * 256 + 256) := by
    rw [← List.drop_drop, ← List.drop_drop (i := 256), List.drop_append_of_le_length (by omega), fl_drop be_length, List.drop_eq_getElem_cons hn, fl_cons]
    have hbe : bs[n] = b := by rw [List.getElem?_eq_getElem hn] at hbn; injection hbn
    rw [hbe]
    have hl := be_length b
    rw [List.append_assoc, List.drop_append_of_le_length (by omega), List.drop_append_of_le_length (by omega), List.drop_eq_nil_of_le (show (be b).length ≤ 256 by omega), List.nil_append]
    rw [be, bc_drop]
  show (fl be bs ++ r).take (n * 256) ++ bc (x.1.take m) ++ (fl be bs ++ r).drop (n * 256 + m) = _
  rw [h1]
  simp only [be, part, bc_append, List.append_assoc]
theorem FallI.keep {C : Nat} {row : Option Nat} (h : FallI w B p gb P0 ex v D bs W) (hg : W.grownBy W' row) (hB : w.heap.size ≤ C) (hr : ∀ r, row = some r → C ≤ r ∧ ∃ o : Obj, W.heap[r]? = some o ∧ o.isCells = false) : FallI w B p gb P0 ex v D bs W' := by
  obtain ⟨h1, h2, h3, h4, h5, h6⟩ := h
  have hr' := fun r e => (hr r e).2
  refine ⟨box_keep h1 hg hr', box_keep h2 hg hr', World.ownsRow.kept h3 hg ?_, box_keep h4 hg hr', h5.trans' (Touch.of_grown (K := fun k => row = some k) hg (fun k e => e)) (fun k e => .inr (Nat.le_trans hB (hr k e).1)), Nat.le_trans h6 hg.size⟩
  rcases h3.2 with ⟨rfl, _⟩ | ⟨g, cap, cur, rfl, _, hgb, _⟩
  · exact .inl rfl
  · refine .inr (fun e => ?_)
    obtain ⟨o, ho, hc⟩ := hr' g e.symm
    rw [hgb] at ho
    cases ho
    cases hc
end

section
variable {w : World} {K : Nat → Prop} {p : Nat} {D : Dv}
set_option maxRecDepth 100000 in
set_option maxHeartbeats 8000000 in
theorem fall_says (h : Dev w K p D) (ho : D.ws.length ≤ 100000) (N : Nat → Prop) (A : Option Addr) (n c : Nat) (keep : List Int) (hl : Lies w N A n c (ics keep)) (hN : ∀ k, N k → ¬ K k) :
    Calls Tryz.prog 59 #[.pointer (some ⟨p, 0, none⟩), .slice A n c] w fun e w' => e = .returned (.tuple #[]) ∧ Dev w' K p (D.fall keep) ∧ Touch K w w' := by
  obtain ⟨hok, gb, ex, v, hd⟩ := h
  obtain ⟨Av, cv, rfl⟩ := hd.slice
  have HL := Lib.hid hl
  obtain ⟨w1, hw1⟩ : ∃ w1, w.alloc (.cells #[.pointer (some ⟨p, 0, none⟩)] 24) = w1 := ⟨_, rfl⟩
  have hB1 : Below w.heap.size w w1 := by rw [← hw1]; exact (Below.refl _ w).alloc (Nat.le_refl _) _
  have hP1 : Box w1 w.heap.size 24 #[.pointer (some ⟨p, 0, none⟩)] := by rw [← hw1]; exact Box.made w _ _
  have hs1 : w1.heap.size = w.heap.size + 1 := by rw [← hw1]; simp
  have hp1 := Box.below hd.1 hB1 hd.1.lt
  have hM := made_low w1 p _ _ _ (show w1.cell? ⟨p, 0, none⟩ = some (.slice (some ⟨gb, 0, none⟩) D.bs.length ex.1) from (Box.cell hp1 0).trans rfl) hok.pos
  have cP : w1.cell? ⟨w.heap.size, 0, none⟩ = some (.pointer (some ⟨p, 0, none⟩)) := (Box.cell hP1 0).trans rfl
  have c1 : w1.cell? ⟨p, 1, none⟩ = some (.slice Av D.ws.length cv) := (Box.cell hp1 1).trans rfl
  have HD := Lib.hid (And.intro hok (And.intro hd (And.intro hB1 hP1)))
  have hgbl : gb < w.heap.size := hd.2.1.lt
  clear hl hok hd hB1 hP1 hp1
  refine (callsIn_wide (n := 4)).1 ?_
  refine callsIn_of_wp_marks Tryz.func59 rfl trivial ?_ rfl
  simp only [Tryz.ntmps59, List.size_toArray, List.length_cons, List.length_nil, Nat.reduceAdd, Nat.reduceSub, Array.replicate_succ, Array.replicate_zero, List.push_toArray, List.append_toArray, List.nil_append, List.cons_append]
  gi_wp2_with fail
  refine ⟨trivial, (callsIn_wide.2 hM).mono ?_⟩
  rintro e wn ⟨rfl, hwn⟩
  obtain rfl : w1 = wn := hwn.symm
  clear hwn hM
  gi_wp2_with fail
  refine ⟨trivial, (callsIn_wide.2 (back_says w1 Av D.ws.length cv)).mono ?_⟩
  rintro e w3 ⟨rfl, hb3, hB3⟩
  rw [hs1] at hb3
  gi_wp2_with fail
  obtain ⟨hok, hd, hB1, hP1⟩ := HD.out
  have hB3' : Below w.heap.size w w3 := hB1.trans (hB3.mono hB1.size)
  have hs3 : w.heap.size + 1 < w3.heap.size := hb3.lt
  have hP3 : Box w3 w.heap.size 24 #[.pointer (some ⟨p, 0, none⟩)] := Box.below hP1 hB3 (by omega)
  have hp3 := Box.below hd.1 hB3' hd.1.lt
  have hgb3 := Box.below hd.2.1 hB3' hd.2.1.lt
  have hown3 : w3.ownsRow 0 122 513 (.slice Av D.ws.length cv) D.ws.length (fl we D.ws) := World.ownsRow.kept hd.2.2.1 (grown_of_below hB3' none) (by cases hv : (Value.slice Av D.ws.length cv).ownBlock <;> simp)
  obtain ⟨g, hg1, hg2, hg3, hg4⟩ : ∃ g, (0 < D.ws.length → Av = some ⟨g, 0, none⟩) ∧ w3.rangeAt g 0 (fl we D.ws) ∧ g < w3.heap.size ∧ g ≠ gb := by
    rcases hown3.2 with ⟨_, hn⟩ | ⟨g, cap, cur, hv, _, hgg, _⟩
    · have : D.ws = [] := List.eq_nil_of_length_eq_zero hn
      refine ⟨w.heap.size, fun h => by omega, fun i u hu => ?_, by omega, by omega⟩
      rw [this] at hu
      simp [fl] at hu
    · injection hv with e1 e2 e3
      refine ⟨g, fun _ => e1, fun i u hu => ?_, (Array.getElem?_eq_some_iff.1 hgg).1, Box.ne hgg hgb3 (by decide)⟩
      have := hown3.cells (g := g) (by rw [e1]; rfl) i u hu
      rwa [Addr.add_mid] at this
  have cB3 : w3.cell? ⟨w.heap.size + 1, 0, none⟩ = some (.slice Av D.ws.length cv) := (Box.cell hb3 0).trans rfl
  have hI0 : FallI w w3.heap.size p gb w.heap.size ex (.slice Av D.ws.length cv) D (undo D.bs ([].map (wAt D.ws))) w3 := ⟨hp3, hgb3, hown3, hP3, Touch.of_below hB3', Nat.le_refl _⟩
  have hplace : ∀ i, (wAt D.ws i).n < D.bs.length := fun i => by
    by_cases hi : i < D.ws.length
    · exact hok.place _ (List.mem_of_getElem? (wAt_at hi))
    · rw [wAt, List.getD, List.getElem?_eq_none (by omega)]
      exact hok.pos
  have hz := (zero_of_info (show (Tryz.prog.info? 122).map (fun i => (i.zero, i.size)) = some (some (.agg (we default).toArray), 513) by kernel_rfl)).1
  have hza := we_size (default : Wr)
  obtain ⟨zi, hzi⟩ : ∃ z : Wr, z = default := ⟨_, rfl⟩
  rw [← hzi] at hz hza
  clear hzi
  have HPL := Lib.hid hplace
  have HS := Lib.hid (And.intro hok (And.intro hd (And.intro hB3' HL.out)))
  clear hplace hok hd hB1 hP1 hB3 hB3' hP3 hp3 hgb3 hown3 HD cP c1 hw1
  refine wpIn_rangeFunc_ownH rfl (by omega) (gf := 112) (lb := #[.pointer (some ⟨w.heap.size + 1, 0, none⟩)]) rfl trivial (enters_of Tryz.func112 (by kernel_rfl) rfl)
    (back_stops Fence.wide 3 trivial rfl (by omega) (w.heap.size + 1) g D.ws.length cv Av D.ws rfl (by omega) w3 hs3 hg3 cB3 hg1 hg2) (fun h k => h.trans k)
    (fun W l o o' hl h _ _ => ⟨KeptAt.grown (grownBy_putObj' W l o') (Nat.lt_of_lt_of_le hg3 (by have := (Array.getElem?_eq_some_iff.1 h).1; omega)) (by simp; omega), KeptAt.grown (grownBy_putObj' W l o') (Nat.lt_of_lt_of_le hs3 (by have := (Array.getElem?_eq_some_iff.1 h).1; omega)) (by simp; omega)⟩) (Below.refl _ _) (fun _ => rfl)
    (fun pre W => FallI w w3.heap.size p gb w.heap.size ex (.slice Av D.ws.length cv) D (undo D.bs (pre.map (wAt D.ws))) W) (fun _ _ _ => False) (fun pre X Y row hs hg hr => hs.keep hg (by omega) hr) (fun _ _ _ _ _ hs _ _ => hs)
    hI0
    (fun x a' W => ∃ Bx, Box W Bx 122 (we (wAt D.ws x)).toArray ∧ Bx ≠ gb ∧ a' = { tmps := #[.pointer (some ⟨p, 0, none⟩), .slice A n c, .pointer (some ⟨w.heap.size, 0, none⟩), undef, undef, .pointer (some ⟨Bx, 0, none⟩), undef, undef, .pointer (some ⟨p, 0, none⟩), .bool true, .bool false, .pointer (some ⟨p, 0, none⟩), .pointer (some ⟨p, 0, none⟩), .pointer (some ⟨p, 1, none⟩), .slice Av D.ws.length cv, .func (.func 112) #[] #[.pointer (some ⟨w.heap.size + 1, 0, none⟩)], .int .i64 (x : Int), .agg (we (wAt D.ws x)).toArray, undef, undef, undef, undef, undef, undef, undef, undef, undef, undef, undef, undef, undef, undef, undef, undef, undef, undef, undef, undef, undef, undef, undef, undef, undef, undef, undef, undef, undef, undef, undef, undef, undef, undef, undef, undef, undef, undef, undef, undef, undef, undef, undef], defers := [] })
    (fun x a' _ X Y row hs hg hr => by obtain ⟨Bx, h2, h3⟩ := hs; exact ⟨Bx, box_keep h2 hg (fun r e => (hr r e).2), h3⟩)
    ?assign ?body ?done ?stop
  case assign =>
    rintro l pre x W K hi hK
    have HI := Lib.hid hi
    clear hi
    simp only [encW]
    generalize wAt D.ws x = xw at *
    gi_wp2_with (refine wpListIn_store_row rfl 122 _ _ rfl W.heap.size (we xw).toArray rfl rfl 122 (we zi).toArray (Box.made W _ _) (by rw [we_size]; exact infoWr) (by rw [we_size, we_size]) (we_all _) ?_)
    have hg5 : W.grownBy ((W.alloc (.cells (we zi).toArray 122)).setRow W.heap.size (we xw).toArray) none := grown_new (grown_row (grown_refl _ _) _)
    exact hK _ _ (KeepsFrom.of_grownBy hg5 (fun j e => by cases e)) ⟨KeptAt.grown hg5 (Nat.lt_of_lt_of_le hg3 HI.out.2.2.2.2.2) (by simp), KeptAt.grown hg5 (Nat.lt_of_lt_of_le hs3 HI.out.2.2.2.2.2) (by simp)⟩ (HI.out.keep (C := w3.heap.size) hg5 (by omega) (fun r e => by cases e)) ⟨W.heap.size, setRow_heap _ _ _ _ _ _ (Box.made W _ _), by have := HI.out.2.1.lt; omega, rfl⟩
  case body =>
    rintro l pre x a' W hl _ hi ⟨Bx, hBx, hBg, rfl⟩ hlt
    obtain ⟨xw, hxw⟩ : ∃ y, wAt D.ws x = y := ⟨_, rfl⟩
    have hpl := HPL.out x
    rw [hxw] at hBx hpl ⊢
    obtain ⟨bs, hbs⟩ : ∃ bs, undo D.bs (pre.map (wAt D.ws)) = bs := ⟨_, rfl⟩
    have hbl : bs.length = D.bs.length := by rw [← hbs, undo_length]
    rw [hbs] at hi
    have hS1 : W.drew.cell? ⟨w.heap.size, 0, none⟩ = some (.pointer (some ⟨p, 0, none⟩)) := (Box.cell hi.2.2.2.1 0).trans rfl
    have hS2 : W.drew.cell? ⟨p, 0, none⟩ = some (.slice (some ⟨gb, 0, none⟩) D.bs.length ex.1) := (Box.cell hi.1 0).trans rfl
    have hS3 : W.drew.cell? ⟨Bx, 0, none⟩ = some (.int .i64 (xw.n : Int)) := (Box.cell hBx 0).trans rfl
    have hS4 : W.drew.rangeAt Bx 1 (be xw.was) := fun i u hu => by
      have hb := be_length xw.was
      have hi' : i < (be xw.was).length := (List.getElem?_eq_some_iff.1 hu).1
      refine (Box.cell hBx _).trans ?_
      simp only [we, List.getElem?_toArray, show 1 + i = i + 1 by omega, List.getElem?_cons_succ]
      rw [List.getElem?_append_left hi']
      exact hu
    obtain ⟨W2, hW2⟩ : ∃ W2, W.drew.setRow gb (fl be (bs.set xw.n xw.was) ++ ex.2).toArray = W2 := ⟨_, rfl⟩
    have hg2 : W.grownBy W2 (some gb) := by rw [← hW2]; exact grown_row (grown_drew (grown_refl W _)) _
    have hb2 : Box W2 gb 119 (fl be (bs.set xw.n xw.was) ++ ex.2).toArray := by rw [← hW2]; exact setRow_heap W.drew gb _ _ _ _ hi.2.1
    have hne : ∀ {g' : Nat} {t : TypeId} {cs : Array Value}, Box W g' t cs → t ≠ 119 → Box W2 g' t cs := fun hb ht => Box.grown hb hg2 (fun e => Box.ne hb hi.2.1 ht (by injection e))
    have hI2 : FallI w w3.heap.size p gb w.heap.size ex (.slice Av D.ws.length cv) D (undo D.bs ((pre ++ [x]).map (wAt D.ws))) W2 := by
      rw [List.map_append, List.map_cons, List.map_nil, undo_snoc, hbs, hxw]
      exact ⟨hne hi.1 (by decide), hb2, World.ownsRow.kept hi.2.2.1 hg2 (.inr (Box.apart hi.2.1 hi.2.2.1 (by decide))), hne hi.2.2.2.1 (by decide), hi.2.2.2.2.1.trans (Touch.of_grown hg2 (fun k e => by injection e with e; exact e.symm)), Nat.le_trans hi.2.2.2.2.2 hg2.size⟩
    have hfin : KeepsFrom w3.heap.size W W2 ∧ kp2 g (w.heap.size + 1) W W2 ∧ FallI w w3.heap.size p gb w.heap.size ex (.slice Av D.ws.length cv) D (undo D.bs ((pre ++ [x]).map (wAt D.ws))) W2 :=
      ⟨KeepsFrom.of_grownBy hg2 (fun j e => by injection e with e; omega), ⟨KeptAt.grown hg2 (Nat.lt_of_lt_of_le hg3 hi.2.2.2.2.2) (by simpa using hg4), KeptAt.grown hg2 (Nat.lt_of_lt_of_le hs3 hi.2.2.2.2.2) (by simp; omega)⟩, hI2⟩
    have S2 : W2.cell? ⟨w.heap.size, 0, none⟩ = some (.pointer (some ⟨p, 0, none⟩)) ∧ W2.cell? ⟨p, 0, none⟩ = some (.slice (some ⟨gb, 0, none⟩) D.bs.length ex.1) ∧ W2.cell? ⟨Bx, 0, none⟩ = some (.int .i64 (xw.n : Int)) ∧ W2.rangeAt Bx 1 (be xw.was) :=
      ⟨(Box.cell (hne hi.2.2.2.1 (by decide)) 0).trans rfl, (Box.cell (hne hi.1 (by decide)) 0).trans rfl, (Box.cell (hne hBx (by decide)) 0).trans rfl, fun i u hu => by
        have := hS4 i u hu
        exact (Box.cell (hne hBx (by decide)) _).trans ((Box.cell hBx _).symm.trans this)⟩
    have HF := Lib.hid hfin
    have HGB := Lib.hid (show Box W.drew gb 119 (fl be bs ++ ex.2).toArray from hi.2.1)
    have hset := fl_set_app be_length bs ex.2 xw.n xw.was (by omega)
    have HSET := Lib.hid (And.intro hset hW2)
    have l1 : (xw.n : Int) < (D.bs.length : Int) := by omega
    have l2 : xw.n < D.bs.length := hpl
    clear hfin hI2 hne hb2 hg2 hi hset hW2 HPL hbs
    generalize xw.n = xn at *
    generalize xw.was = xs at *
    apply wpIn_block
    refine wpIn_region_round (S := fun w' => w'.cell? ⟨w.heap.size, 0, none⟩ = some (.pointer (some ⟨p, 0, none⟩)) ∧ w'.cell? ⟨p, 0, none⟩ = some (.slice (some ⟨gb, 0, none⟩) D.bs.length ex.1) ∧ w'.cell? ⟨Bx, 0, none⟩ = some (.int .i64 (xn : Int)) ∧ w'.rangeAt Bx 1 (be xs)) (by kernel_rfl) (noDefer_spec (by kernel_rfl)) (by rintro ⟨_, _, h⟩; exact h) ⟨hS1, hS2, hS3, hS4⟩ (fun hHeld => ?_)
    clear hS1 hS2 hS3 hS4
    refine take_run 0 18 (v := ?_) rfl rfl (by kernel_rfl) (by kernel_rfl) (by kernel_rfl) (fun _ _ _ h => h) (by rfl) ?_ (by assumption) ?_
    rotate_left
    · (intro wq hSw; obtain ⟨hS1, hS2, hS3, hS4⟩ := hSw; go_simp; first | done | with_reducible rfl)
    simp only [Act.put, List.setIfInBounds_toArray, List.set_cons_zero, List.set_cons_succ]
    refine take_run 1 19 (v := ?_) rfl rfl (by kernel_rfl) (by kernel_rfl) (by kernel_rfl) (fun _ _ _ h => h) (by rfl) ?_ (by assumption) ?_
    rotate_left
    · (intro wq hSw; obtain ⟨hS1, hS2, hS3, hS4⟩ := hSw; go_simp; first | done | with_reducible rfl)
    simp only [Act.put, List.setIfInBounds_toArray, List.set_cons_zero, List.set_cons_succ]
    refine take_run 2 20 (v := ?_) rfl rfl (by kernel_rfl) (by kernel_rfl) (by kernel_rfl) (fun _ _ _ h => h) (by rfl) ?_ (by assumption) ?_
    rotate_left
    · (intro wq hSw; obtain ⟨hS1, hS2, hS3, hS4⟩ := hSw; go_simp; first | done | with_reducible rfl)
    simp only [Act.put, List.setIfInBounds_toArray, List.set_cons_zero, List.set_cons_succ]
    refine take_run 3 21 (v := ?_) rfl rfl (by kernel_rfl) (by kernel_rfl) (by kernel_rfl) (fun _ _ _ h => h) (by rfl) ?_ (by assumption) ?_
    rotate_left
    · (intro wq hSw; obtain ⟨hS1, hS2, hS3, hS4⟩ := hSw; go_simp; first | done | with_reducible rfl)
    simp only [Act.put, List.setIfInBounds_toArray, List.set_cons_zero, List.set_cons_succ]
    refine take_run 4 22 (v := ?_) rfl rfl (by kernel_rfl) (by kernel_rfl) (by kernel_rfl) (fun _ _ _ h => h) (by rfl) ?_ (by assumption) ?_
    rotate_left
    · (intro wq hSw; obtain ⟨hS1, hS2, hS3, hS4⟩ := hSw; go_simp; first | done | with_reducible rfl)
    simp only [Act.put, List.setIfInBounds_toArray, List.set_cons_zero, List.set_cons_succ]
    refine take_run 5 23 (v := ?_) rfl rfl (by kernel_rfl) (by kernel_rfl) (by kernel_rfl) (fun _ _ _ h => h) (by rfl) ?_ (by assumption) ?_
    rotate_left
    · (intro wq hSw; obtain ⟨hS1, hS2, hS3, hS4⟩ := hSw; go_simp; first | done | with_reducible rfl)
    simp only [Act.put, List.setIfInBounds_toArray, List.set_cons_zero, List.set_cons_succ]
    refine take_run 6 24 (v := ?_) rfl rfl (by kernel_rfl) (by kernel_rfl) (by kernel_rfl) (fun _ _ _ h => h) (by rfl) ?_ (by assumption) ?_
    rotate_left
    · (intro wq hSw; obtain ⟨hS1, hS2, hS3, hS4⟩ := hSw; go_simp; first | done | with_reducible rfl)
    simp only [Act.put, List.setIfInBounds_toArray, List.set_cons_zero, List.set_cons_succ]
    refine take_load 7 25 119 _ Bx 1 (be xs) _ rfl rfl rfl (by kernel_rfl) (by kernel_rfl) (by kernel_rfl) (fun _ _ _ h => h) (by rfl) rfl (fun _ h => h.2.2.2) Tryz.underlying119 rfl (by rw [be_length]; exact infoBlk) (by assumption) ?_
    simp only [Act.put, List.setIfInBounds_toArray, List.set_cons_zero, List.set_cons_succ]
    refine take_run 8 26 (v := ?_) rfl rfl (by kernel_rfl) (by kernel_rfl) (by kernel_rfl) (fun _ _ _ h => h) (by rfl) ?_ (by assumption) ?_
    rotate_left
    · (intro wq hSw; obtain ⟨hS1, hS2, hS3, hS4⟩ := hSw; go_simp; first | done | with_reducible rfl)
    simp only [Act.put, List.setIfInBounds_toArray, List.set_cons_zero, List.set_cons_succ]
    refine wpAnyH_ready (rs := [9]) (by kernel_rfl) (by simp) ?_
    refine AllReadyH.cons rfl (fun K1 hK1 => ?_) AllReadyH.nil
    refine step_skip (w' := W2) rfl rfl ((exec_storeW (x := .tmp 26) (y := .tmp 25) (off := xn * 256) (ty := 119) rfl rfl rfl HGB.out (by rw [be_size]; simp only [List.size_toArray, fl_length be_length, List.length_append]; omega) (by rw [be_size]; exact infoBlk) (be_all xs)).trans (congrArg (fun z => Result.ok Next.skip z) (by rw [be_size]; exact (congrArg (fun l => W.drew.setRow gb l.toArray) HSET.out.1).trans HSET.out.2))) ?_
    refine hK1.out _ _ S2 (fun hHeld => ?_)
    clear hK1 K1
    refine wpAnyH_done (by kernel_rfl) ?_ _
    exact HF.out
  case done =>
    rintro Dd ys W hD rfl hi hK
    rename_i Q0 K0 a0
    refine a0 _ _ (wpIn_wide.2 (wp_mono (Q := noPanic Q0) ?_ (noPanic_to _)))
    clear a0
    rw [backL_writes] at hi
    have HI := Lib.hid (And.intro hi hK)
    have cP : W.cell? ⟨w.heap.size, 0, none⟩ = some (.pointer (some ⟨p, 0, none⟩)) := (Box.cell hi.2.2.2.1 0).trans rfl
    have c1 : W.cell? ⟨p, 1, none⟩ = some (.slice Av D.ws.length cv) := (Box.cell hi.1 1).trans rfl
    clear hi hK
    go_wp2
    go_loopw [32] (fun v wr => ∃ k : Nat, v = .int .i64 (k : Int) ∧ k ≤ D.ws.length ∧ Hid (FallI w w3.heap.size p gb w.heap.size ex (.slice Av D.ws.length cv) D (redo keep (undo D.bs D.ws.reverse) D.ws k) wr ∧ wr.heap[Dd]? = some (.deferred (some [])))) (fun v _ => D.ws.length - (intOf v).toNat)
    case atStart => exact ⟨0, rfl, Nat.zero_le _, HI⟩
    case round =>
      obtain ⟨k, rfl, hk, H⟩ := hrel
      by_cases hlt : k < D.ws.length
      · obtain ⟨hi, hKd⟩ := H.out
        obtain ⟨x, hx⟩ : ∃ x, wAt D.ws k = x := ⟨_, rfl⟩
        have hxk : D.ws[k]? = some x := by rw [← hx]; exact wAt_at hlt
        have hpl := HPL.out k
        rw [hx] at hpl
        have hAv := hg1 (by omega)
        subst hAv
        obtain ⟨bs, hbs⟩ : ∃ bs, redo keep (undo D.bs D.ws.reverse) D.ws k = bs := ⟨_, rfl⟩
        have hbl : bs.length = D.bs.length := by rw [← hbs, redo_length, undo_length]
        rw [hbs] at hi
        have hrx : wr.rangeAt g (k * 513) (we x) := fun i u hu => by
          have := hi.2.2.1.cells (g := g) rfl _ u (fl_at we_length D.ws k x hxk i u hu)
          rwa [Addr.add_mid, Nat.zero_add] at this
        obtain ⟨wr2, hwr2⟩ : ∃ w2, (wr.alloc (.cells (we zi).toArray 122)).setRow wr.heap.size (we x).toArray = w2 := ⟨_, rfl⟩
        have hb2 : Box wr2 wr.heap.size 122 (we x).toArray := by rw [← hwr2]; exact setRow_heap _ _ _ _ _ _ (Box.made wr _ _)
        have hg2 : wr.grownBy wr2 none := by rw [← hwr2]; exact grown_new (grown_row (grown_refl _ _) _)
        have hi2 := hi.keep (C := wr.heap.size) hg2 (Nat.le_trans (by omega) hi.2.2.2.2.2) (fun r e => by cases e)
        have hS1 : wr2.drew.cell? ⟨w.heap.size, 0, none⟩ = some (.pointer (some ⟨p, 0, none⟩)) := (Box.cell hi2.2.2.2.1 0).trans rfl
        have hS2 : wr2.drew.cell? ⟨p, 0, none⟩ = some (.slice (some ⟨gb, 0, none⟩) D.bs.length ex.1) := (Box.cell hi2.1 0).trans rfl
        have hS3 : wr2.drew.cell? ⟨wr.heap.size, 0, none⟩ = some (.int .i64 (x.n : Int)) := (Box.cell hb2 0).trans rfl
        have HRX := Lib.hid hrx
        have l1 : (k : Int) < (D.ws.length : Int) := by omega
        go_upto_region 8 with (first
          | (refine wpList_load_mid rfl 122 _ rfl g (k * 513) rfl (we x) _ HRX.out Tryz.underlying122 rfl (by rw [we_length]; exact infoWr) ?_)
          | (refine wpList_store_row rfl 122 _ _ rfl wr.heap.size (we x).toArray rfl rfl 122 (we zi).toArray (Box.made wr _ _) (by rw [we_size]; exact infoWr) (by rw [we_size, we_size]) (we_all _) ?_; rw [hwr2]))
        obtain ⟨hok, hd, _, HLl⟩ := HS.out
        have hL2 : Lies wr2.drew N A n c (ics keep) := hi2.2.2.2.2.1.lies HLl (fun b hb e => hN b hb (by rw [e]; exact hd.2.2.2.2.1))
        have hC := kept_says wr2.drew N A n c keep hL2 k
        obtain ⟨m, hm⟩ : ∃ m, keepAt keep k = m := ⟨_, rfl⟩
        have hm2 : m ≤ 256 := by rw [← hm]; exact keepAt_le _ _
        rw [hm] at hC
        have hm3 : (m : Int) ≤ 256 := by omega
        have hSrc : Lies wr2.drew (fun b => b = wr.heap.size) (some ⟨wr.heap.size, 257, none⟩) m 256 (bc (x.is.1.take m)) := by
          refine range_lies (fun i u hu => ?_) hb2.lt (by rw [bc_length, List.length_take, x.is.2]; omega) hm2
          refine (Box.cell hb2 _).trans ?_
          have hb := be_length x.was
          simp only [we, List.getElem?_toArray, show 257 + i = (256 + i) + 1 by omega, List.getElem?_cons_succ]
          rw [List.getElem?_append_right (by omega), hb, Nat.add_sub_cancel_left]
          rw [← bc_take, List.getElem?_take] at hu
          split at hu
          · exact hu
          · cases hu
        obtain ⟨y, hy⟩ : ∃ y, part x.is (bs.getD x.n default) m = y := ⟨_, rfl⟩
        obtain ⟨wr3, hwr3⟩ : ∃ w3, wr2.drew.setRow gb (fl be (bs.set x.n y) ++ ex.2).toArray = w3 := ⟨_, rfl⟩
        have hcp : wr2.drew.setRow gb (laidAt (fl be bs ++ ex.2).toArray (x.is.1.take m) (x.n * 256) (min m 256)) = wr3 := by
          have hlp := laidAt_part bs ex.2 x.n m x.is (by omega) hm2
          rw [hy] at hlp
          rw [← hwr3, ← hlp, Nat.min_eq_left hm2]
          unfold laidAt
          rw [List.take_take, Nat.min_self]
        have hgr3 : wr2.grownBy wr3 (some gb) := by rw [← hwr3]; exact grown_row (grown_drew (grown_refl wr2 _)) _
        have hb3' : Box wr3 gb 119 (fl be (bs.set x.n y) ++ ex.2).toArray := by rw [← hwr3]; exact setRow_heap wr2.drew gb _ _ _ _ hi2.2.1
        have hne : ∀ {g' : Nat} {t : TypeId} {cs : Array Value}, Box wr2 g' t cs → t ≠ 119 → Box wr3 g' t cs := fun hb ht => Box.grown hb hgr3 (fun e => Box.ne hb hi2.2.1 ht (by injection e))
        have hKd2 : wr2.heap[Dd]? = some (.deferred (some [])) := (hg2.block Dd (Array.getElem?_eq_some_iff.1 hKd).1 (by simp)).trans hKd
        have hKd3 : wr3.heap[Dd]? = some (.deferred (some [])) := (hgr3.block Dd (Array.getElem?_eq_some_iff.1 hKd2).1 (fun e => by
          obtain rfl : Dd = gb := by injection e
          have := hKd2.symm.trans hi2.2.1
          simp at this)).trans hKd2
        have hI3 : FallI w w3.heap.size p gb w.heap.size ex (.slice (some ⟨g, 0, none⟩) D.ws.length cv) D (redo keep (undo D.bs D.ws.reverse) D.ws (k + 1)) wr3 ∧ wr3.heap[Dd]? = some (.deferred (some [])) := by
          refine ⟨?_, hKd3⟩
          have hw : D.ws.getD k default = x := hx
          rw [redo, hbs, hw, hm, hy]
          exact ⟨hne hi2.1 (by decide), hb3', World.ownsRow.kept hi2.2.2.1 hgr3 (.inr (Box.apart hi2.2.1 hi2.2.2.1 (by decide))), hne hi2.2.2.2.1 (by decide), hi2.2.2.2.2.1.trans (Touch.of_grown hgr3 (fun k e => by injection e with e; exact e.symm)), Nat.le_trans hi2.2.2.2.2.2 hgr3.size⟩
        have S3 : wr3.cell? ⟨w.heap.size, 0, none⟩ = some (.pointer (some ⟨p, 0, none⟩)) ∧ wr3.cell? ⟨p, 0, none⟩ = some (.slice (some ⟨gb, 0, none⟩) D.bs.length ex.1) ∧ wr3.cell? ⟨wr.heap.size, 0, none⟩ = some (.int .i64 (x.n : Int)) :=
          ⟨(Box.cell (hne hi2.2.2.2.1 (by decide)) 0).trans rfl, (Box.cell (hne hi2.1 (by decide)) 0).trans rfl, (Box.cell (hne hb2 (by decide)) 0).trans rfl⟩
        have HI3 := Lib.hid hI3
        have HGB := Lib.hid (show Box wr2.drew gb 119 (fl be bs ++ ex.2).toArray from hi2.2.1)
        have HCP := Lib.hid hcp
        have HSRC := Lib.hid hSrc
        have l2 : (x.n : Int) < (D.bs.length : Int) := by omega
        clear hI3 hcp hSrc hKd3 hKd2 hne hb3' hgr3 hwr3 hy hL2 hi2 hg2 hb2 hrx hi hKd H hbs hx hxk HRX hok hd HLl hm
        generalize x.n = xn at *
        refine wp_region_held_drew (S := fun w' => w'.cell? ⟨w.heap.size, 0, none⟩ = some (.pointer (some ⟨p, 0, none⟩)) ∧ w'.cell? ⟨p, 0, none⟩ = some (.slice (some ⟨gb, 0, none⟩) D.bs.length ex.1) ∧ w'.cell? ⟨wr.heap.size, 0, none⟩ = some (.int .i64 (xn : Int))) (by kernel_rfl) ⟨hS1, hS2, hS3⟩ (fun hHeld => ?_)
        clear hS1 hS2 hS3
        refine take_run 0 37 (v := ?_) rfl rfl (by kernel_rfl) (by kernel_rfl) (by kernel_rfl) (fun _ _ _ h => h) (by rfl) ?_ (by assumption) ?_
        rotate_left
        · (intro wq hSw; obtain ⟨hS1, hS2, hS3⟩ := hSw; go_simp; first | done | with_reducible rfl)
        simp only [Act.put, List.setIfInBounds_toArray, List.set_cons_zero, List.set_cons_succ]
        refine take_run 1 38 (v := ?_) rfl rfl (by kernel_rfl) (by kernel_rfl) (by kernel_rfl) (fun _ _ _ h => h) (by rfl) ?_ (by assumption) ?_
        rotate_left
        · (intro wq hSw; obtain ⟨hS1, hS2, hS3⟩ := hSw; go_simp; first | done | with_reducible rfl)
        simp only [Act.put, List.setIfInBounds_toArray, List.set_cons_zero, List.set_cons_succ]
        refine take_run 2 39 (v := ?_) rfl rfl (by kernel_rfl) (by kernel_rfl) (by kernel_rfl) (fun _ _ _ h => h) (by rfl) ?_ (by assumption) ?_
        rotate_left
        · (intro wq hSw; obtain ⟨hS1, hS2, hS3⟩ := hSw; go_simp; first | done | with_reducible rfl)
        simp only [Act.put, List.setIfInBounds_toArray, List.set_cons_zero, List.set_cons_succ]
        refine take_run 3 40 (v := ?_) rfl rfl (by kernel_rfl) (by kernel_rfl) (by kernel_rfl) (fun _ _ _ h => h) (by rfl) ?_ (by assumption) ?_
        rotate_left
        · (intro wq hSw; obtain ⟨hS1, hS2, hS3⟩ := hSw; go_simp; first | done | with_reducible rfl)
        simp only [Act.put, List.setIfInBounds_toArray, List.set_cons_zero, List.set_cons_succ]
        refine take_run 4 41 (v := ?_) rfl rfl (by kernel_rfl) (by kernel_rfl) (by kernel_rfl) (fun _ _ _ h => h) (by rfl) ?_ (by assumption) ?_
        rotate_left
        · (intro wq hSw; obtain ⟨hS1, hS2, hS3⟩ := hSw; go_simp; first | done | with_reducible rfl)
        simp only [Act.put, List.setIfInBounds_toArray, List.set_cons_zero, List.set_cons_succ]
        refine take_run 5 42 (v := ?_) rfl rfl (by kernel_rfl) (by kernel_rfl) (by kernel_rfl) (fun _ _ _ h => h) (by rfl) ?_ (by assumption) ?_
        rotate_left
        · (intro wq hSw; obtain ⟨hS1, hS2, hS3⟩ := hSw; go_simp; first | done | with_reducible rfl)
        simp only [Act.put, List.setIfInBounds_toArray, List.set_cons_zero, List.set_cons_succ]
        refine take_run 6 43 (v := ?_) rfl rfl (by kernel_rfl) (by kernel_rfl) (by kernel_rfl) (fun _ _ _ h => h) (by rfl) ?_ (by assumption) ?_
        rotate_left
        · (intro wq hSw; obtain ⟨hS1, hS2, hS3⟩ := hSw; go_simp; first | done | with_reducible rfl)
        simp only [Act.put, List.setIfInBounds_toArray, List.set_cons_zero, List.set_cons_succ]
        refine take_run 7 44 (v := ?_) rfl rfl (by kernel_rfl) (by kernel_rfl) (by kernel_rfl) (fun _ _ _ h => h) (by rfl) ?_ (by assumption) ?_
        rotate_left
        · (intro wq hSw; obtain ⟨hS1, hS2, hS3⟩ := hSw; go_simp; first | done | with_reducible rfl)
        simp only [Act.put, List.setIfInBounds_toArray, List.set_cons_zero, List.set_cons_succ]
        refine take_run 8 45 (v := ?_) rfl rfl (by kernel_rfl) (by kernel_rfl) (by kernel_rfl) (fun _ _ _ h => h) (by rfl) ?_ (by assumption) ?_
        rotate_left
        · (intro wq hSw; obtain ⟨hS1, hS2, hS3⟩ := hSw; go_simp; first | done | with_reducible rfl)
        simp only [Act.put, List.setIfInBounds_toArray, List.set_cons_zero, List.set_cons_succ]
        refine take_run 9 46 (v := ?_) rfl rfl (by kernel_rfl) (by kernel_rfl) (by kernel_rfl) (fun _ _ _ h => h) (by rfl) ?_ (by assumption) ?_
        rotate_left
        · (intro wq hSw; obtain ⟨hS1, hS2, hS3⟩ := hSw; go_simp; first | done | with_reducible rfl)
        simp only [Act.put, List.setIfInBounds_toArray, List.set_cons_zero, List.set_cons_succ]
        refine take_run 10 47 (v := ?_) rfl rfl (by kernel_rfl) (by kernel_rfl) (by kernel_rfl) (fun _ _ _ h => h) (by rfl) ?_ (by assumption) ?_
        rotate_left
        · (intro wq hSw; obtain ⟨hS1, hS2, hS3⟩ := hSw; go_simp; first | done | with_reducible rfl)
        simp only [Act.put, List.setIfInBounds_toArray, List.set_cons_zero, List.set_cons_succ]
        refine wpAnyH_ready (rs := [11]) (by kernel_rfl) (by simp) ?_
        refine AllReadyH.cons rfl (fun K hK => ?_) AllReadyH.nil
        go_simp
        refine (hC).mono ?_
        rintro e wn ⟨rfl, hwn⟩
        obtain rfl : wr2.drew = wn := hwn.symm
        refine hK.out _ _ (by assumption) (fun hHeld => ?_)
        clear hK K
        refine take_run 12 49 (v := ?_) rfl rfl (by kernel_rfl) (by kernel_rfl) (by kernel_rfl) (fun _ _ _ h => h) (by rfl) ?_ (by assumption) ?_
        rotate_left
        · (intro wq hSw; obtain ⟨hS1, hS2, hS3⟩ := hSw; go_simp; first | done | with_reducible rfl)
        simp only [Act.put, List.setIfInBounds_toArray, List.set_cons_zero, List.set_cons_succ]
        refine wpAnyH_ready (rs := [13]) (by kernel_rfl) (by simp) ?_
        refine AllReadyH.cons rfl (fun K1 hK1 => ?_) AllReadyH.nil
        refine step_run (w' := wr3) 50 (goInt ((min m 256 : Nat) : Int)) rfl rfl ((exec_copy (.tmp 44) (.tmp 49) rfl gb (xn * 256) 256 256 m 256 (some ⟨wr.heap.size, 257, none⟩) rfl rfl 119 _ HGB.out _ _ HSRC.out (by simp only [List.size_toArray, fl_length be_length, List.length_append]; omega)).trans (congrArg (fun z => Result.ok (Next.value (goInt ((min m 256 : Nat) : Int))) z) HCP.out)) ?_
        refine hK1.out _ _ S3 (fun hHeld => ?_)
        clear hK1 K1
        refine wpAnyH_done (by kernel_rfl) ?_ _
        simp only [Act.put, List.setIfInBounds_toArray, List.set_cons_zero, List.set_cons_succ]
        clear S3 hHeld
        go_wp2
        go_roundw
        case rel => exact ⟨k + 1, by go_num, by omega, HI3⟩
        case measure => simp [intOf]; omega
      · have hkl : k = D.ws.length := by omega
        subst hkl
        obtain ⟨hi, hKd⟩ := H.out
        obtain ⟨hok, hd, _, _⟩ := HS.out
        have l1 : ¬ (D.ws.length : Int) < (D.ws.length : Int) := by omega
        have hS1 : wr.drew.cell? ⟨w.heap.size, 0, none⟩ = some (.pointer (some ⟨p, 0, none⟩)) := (Box.cell hi.2.2.2.1 0).trans rfl
        obtain ⟨x1, hx1⟩ : ∃ x, wr.drew.setCell ⟨p, 1, none⟩ (.slice none 0 0) = x := ⟨_, rfl⟩
        obtain ⟨x2, hx2⟩ : ∃ x, x1.setCell ⟨p, 3, none⟩ (.int .i64 (-1)) = x := ⟨_, rfl⟩
        obtain ⟨x3, hx3⟩ : ∃ x, x2.setCell ⟨p, 4, none⟩ (.bool false) = x := ⟨_, rfl⟩
        have b0 : Box wr.drew p 116 (dc gb ex (.slice Av D.ws.length cv) D) := hi.1
        have b1 := Box.put b0 1 (.slice none 0 0)
        rw [hx1] at b1
        have b2 := Box.put b1 3 (.int .i64 (-1))
        rw [hx2] at b2
        have b3 := Box.put b2 4 (.bool false)
        rw [hx3] at b3
        have g1 : wr.grownBy x1 (some p) := by rw [← hx1]; exact grown_set (grown_drew (grown_refl wr _)) 1 _
        have g2 : wr.grownBy x2 (some p) := by rw [← hx2]; exact grown_set g1 3 _
        have g3 : wr.grownBy x3 (some p) := by rw [← hx3]; exact grown_set g2 4 _
        have hne : ∀ {x : World}, wr.grownBy x (some p) → x.cell? ⟨w.heap.size, 0, none⟩ = some (.pointer (some ⟨p, 0, none⟩)) := fun hg => (Box.cell (Box.grown hi.2.2.2.1 hg (fun e => Box.ne hi.2.2.2.1 hi.1 (by decide) (by injection e))) 0).trans rfl
        have c1 : wr.drew.cell? ⟨p, 1, none⟩ = some (.slice Av D.ws.length cv) := (Box.cell b0 1).trans rfl
        have f1 := Box.frozen b0 1
        have c3 : x1.cell? ⟨p, 3, none⟩ = some (.int .i64 D.left) := (Box.cell b1 3).trans rfl
        have f3 := Box.frozen b1 3
        have c4 : x2.cell? ⟨p, 4, none⟩ = some (.bool D.down) := (Box.cell b2 4).trans rfl
        have f4 := Box.frozen b2 4
        have T1 := hne g1
        have T2 := hne g2
        have T3 := hne g3
        have hgb : Box x3 gb 119 (fl be (redo keep (undo D.bs D.ws.reverse) D.ws D.ws.length) ++ ex.2).toArray := Box.grown hi.2.1 g3 (fun e => Box.ne hi.2.1 hi.1 (by decide) (by injection e))
        have hfl : (D.fall keep).bs.length = D.bs.length := by simp [Dv.fall, redo_length, undo_length]
        have hdev : Dev x3 K p (D.fall keep) := ⟨Dv.fall_ok hok keep, gb, ex, .slice none 0 0, by
          have hdc : (((dc gb ex (.slice Av D.ws.length cv) D).setIfInBounds 1 (.slice none 0 0)).setIfInBounds 3 (.int .i64 (-1))).setIfInBounds 4 (.bool false) = dc gb ex (.slice none 0 0) (D.fall keep) := by
            unfold dc
            rw [hfl]
            rfl
          rw [← hdc]
          exact b3, hgb, World.ownsRow_nil _ _ _ _, hd.2.2.2.1, hd.2.2.2.2.1, fun k e => by cases e⟩
        have htch : Touch K w x3 := (hi.2.2.2.2.1.mono (fun k e => by rw [e]; exact hd.2.2.2.2.1)).trans (Touch.of_grown g3 (fun k e => by injection e with e; rw [← e]; exact hd.2.2.2.1))
        have hKd3 : x3.heap[Dd]? = some (.deferred (some [])) := (g3.block Dd (Array.getElem?_eq_some_iff.1 hKd).1 (fun e => by
          obtain rfl : Dd = p := by injection e
          have := hKd.symm.trans hi.1
          simp at this)).trans hKd
        have HF := Lib.hid (And.intro hdev (And.intro htch hKd3))
        have hsw : w.heap.size ≤ w3.heap.size := by omega
        have HX := Lib.hid (And.intro hx1 (And.intro hx2 hx3))
        clear hdev htch hKd3 hgb hne g1 g2 g3 b0 b1 b2 b3 hi hKd H hok hd hfl hx1 hx2 hx3
        generalize D.ws.length = m0 at *
        go_upto_region 10 with fail
        refine wp_region_held_drew (S := fun w' => w'.cell? ⟨w.heap.size, 0, none⟩ = some (.pointer (some ⟨p, 0, none⟩))) (by kernel_rfl) hS1 (fun hHeld => ?_)
        refine take_run 0 52 (v := ?_) rfl rfl (by kernel_rfl) (by kernel_rfl) (by kernel_rfl) (fun _ _ _ h => h) (by rfl) ?_ (by assumption) ?_
        rotate_left
        · (intro wq hSw; obtain hS1 := hSw; go_simp; first | done | with_reducible rfl)
        simp only [Act.put, List.setIfInBounds_toArray, List.set_cons_zero, List.set_cons_succ]
        refine take_run 1 53 (v := ?_) rfl rfl (by kernel_rfl) (by kernel_rfl) (by kernel_rfl) (fun _ _ _ h => h) (by rfl) ?_ (by assumption) ?_
        rotate_left
        · (intro wq hSw; obtain hS1 := hSw; go_simp; first | done | with_reducible rfl)
        simp only [Act.put, List.setIfInBounds_toArray, List.set_cons_zero, List.set_cons_succ]
        refine take_run 2 54 (v := ?_) rfl rfl (by kernel_rfl) (by kernel_rfl) (by kernel_rfl) (fun _ _ _ h => h) (by rfl) ?_ (by assumption) ?_
        rotate_left
        · (intro wq hSw; obtain hS1 := hSw; go_simp; first | done | with_reducible rfl)
        simp only [Act.put, List.setIfInBounds_toArray, List.set_cons_zero, List.set_cons_succ]
        refine take_run 3 55 (v := ?_) rfl rfl (by kernel_rfl) (by kernel_rfl) (by kernel_rfl) (fun _ _ _ h => h) (by rfl) ?_ (by assumption) ?_
        rotate_left
        · (intro wq hSw; obtain hS1 := hSw; go_simp; first | done | with_reducible rfl)
        simp only [Act.put, List.setIfInBounds_toArray, List.set_cons_zero, List.set_cons_succ]
        refine take_run 4 56 (v := ?_) rfl rfl (by kernel_rfl) (by kernel_rfl) (by kernel_rfl) (fun _ _ _ h => h) (by rfl) ?_ (by assumption) ?_
        rotate_left
        · (intro wq hSw; obtain hS1 := hSw; go_simp; first | done | with_reducible rfl)
        simp only [Act.put, List.setIfInBounds_toArray, List.set_cons_zero, List.set_cons_succ]
        refine wpAnyH_ready (rs := [5]) (by kernel_rfl) (by simp) ?_
        refine AllReadyH.cons rfl (fun K1 hK1 => ?_) AllReadyH.nil
        refine step_skip (w' := x1) rfl rfl ((exec_store (T := 109) (x := .tmp 56) (y := .const (.slice none 0 0)) (by kernel_rfl) rfl rfl rfl rfl rfl c1 f1).trans (congrArg (fun z => Result.ok Next.skip z) HX.out.1)) ?_
        refine hK1.out _ _ T1 (fun hHeld => ?_)
        clear hK1 K1
        refine take_run 6 57 (v := ?_) rfl rfl (by kernel_rfl) (by kernel_rfl) (by kernel_rfl) (fun _ _ _ h => h) (by rfl) ?_ (by assumption) ?_
        rotate_left
        · (intro wq hSw; obtain hS1 := hSw; go_simp; first | done | with_reducible rfl)
        simp only [Act.put, List.setIfInBounds_toArray, List.set_cons_zero, List.set_cons_succ]
        refine take_run 7 58 (v := ?_) rfl rfl (by kernel_rfl) (by kernel_rfl) (by kernel_rfl) (fun _ _ _ h => h) (by rfl) ?_ (by assumption) ?_
        rotate_left
        · (intro wq hSw; obtain hS1 := hSw; go_simp; first | done | with_reducible rfl)
        simp only [Act.put, List.setIfInBounds_toArray, List.set_cons_zero, List.set_cons_succ]
        refine wpAnyH_ready (rs := [8]) (by kernel_rfl) (by simp) ?_
        refine AllReadyH.cons rfl (fun K1 hK1 => ?_) AllReadyH.nil
        refine step_skip (w' := x2) rfl rfl ((exec_store (T := 3) (x := .tmp 58) (y := .const (.int .i64 (-1))) (by kernel_rfl) rfl rfl rfl rfl rfl c3 f3).trans (congrArg (fun z => Result.ok Next.skip z) HX.out.2.1)) ?_
        refine hK1.out _ _ T2 (fun hHeld => ?_)
        clear hK1 K1
        refine take_run 9 59 (v := ?_) rfl rfl (by kernel_rfl) (by kernel_rfl) (by kernel_rfl) (fun _ _ _ h => h) (by rfl) ?_ (by assumption) ?_
        rotate_left
        · (intro wq hSw; obtain hS1 := hSw; go_simp; first | done | with_reducible rfl)
        simp only [Act.put, List.setIfInBounds_toArray, List.set_cons_zero, List.set_cons_succ]
        refine take_run 10 60 (v := ?_) rfl rfl (by kernel_rfl) (by kernel_rfl) (by kernel_rfl) (fun _ _ _ h => h) (by rfl) ?_ (by assumption) ?_
        rotate_left
        · (intro wq hSw; obtain hS1 := hSw; go_simp; first | done | with_reducible rfl)
        simp only [Act.put, List.setIfInBounds_toArray, List.set_cons_zero, List.set_cons_succ]
        refine wpAnyH_ready (rs := [11]) (by kernel_rfl) (by simp) ?_
        refine AllReadyH.cons rfl (fun K1 hK1 => ?_) AllReadyH.nil
        refine step_skip (w' := x3) rfl rfl ((exec_store (T := 4) (x := .tmp 60) (y := .const (.bool false)) (by kernel_rfl) rfl rfl rfl rfl rfl c4 f4).trans (congrArg (fun z => Result.ok Next.skip z) HX.out.2.2)) ?_
        refine hK1.out _ _ T3 (fun hHeld => ?_)
        clear hK1 K1
        refine wpAnyH_done (by kernel_rfl) ?_ _
        clear hHeld T1 T2 T3 c1 c3 c4 f1 f3 f4 hS1
        go_wp2
        obtain ⟨f1, f2, f3⟩ := HF.out
        change LeavesInM _ _ _ _ _ _ _ _ _
        refine ⟨by simp, .inl ⟨_, _, rfl, run_takeDeferred f3, ?_⟩⟩
        exact ⟨_, results_none rfl _ _ _, rfl, f1.keep (grownBy_putObj' _ _ _) (fun r e => by injection e with e; subst e; exact ⟨_, f3, rfl⟩), f2.trans' (Touch.of_grown (K := fun k => k = Dd) (grownBy_putObj' _ _ _) (fun k e => by injection e with e; exact e.symm)) (fun k e => .inr (by omega))⟩
  case stop =>
    rintro Dd c pre W _ _ h _
    exact h.elim
end
end Go.Proofs.YtnhondkdkjehaaaGreat
