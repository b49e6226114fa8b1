/-
  Lists of ids as the reference has them ([][32]byte): '==', rows of the call's own; the law's Own, the reference's Same and Has.
-/
import Derived.Test.YtjnobakbjapfjaaIdsRef
import Derived.Test.YtjnobakbjapfjaaChosen
namespace Go.Proofs.Ytjnobakbjapfjaa
open Go.RowKit Go.Sort Go.Shelf

theorem jInfo : (Try.prog.info? 22).map (fun i => (i.zero, i.size, i.bytes)) = some (some (.agg (enc default).toArray), 32, 32) := by kernel_rfl
theorem infoJ' : (Try.prog.info? 22).map (·.size) = some 32 := by kernel_rfl
theorem infoJ (x : Id) : (Try.prog.info? 22).map (·.size) = some (enc x).length := by
  rw [enc_length]
  kernel_rfl
theorem eqlJ : EqlAt Try.prog 22 (fun x : Id => .agg (enc x).toArray) (fun x y => x.1 == y.1) :=
  ⟨fun x y w => run_eql_bytes w 22 5 32 Try.underlying22 Try.underlying5 Try.sizeOf5 x.1 y.1 x.2 y.2, GuardAt.agg _ (by kernel_rfl)⟩
theorem neqJ : NeqAt Try.prog 22 (fun x : Id => .agg (enc x).toArray) (fun x y => x.1 == y.1) :=
  ⟨fun x y w => by
    have h := run_equalIn_bytes (P := Try.prog) w 9998 22 5 32 Try.underlying22 Try.underlying5 Try.sizeOf5 x.1 y.1 x.2 y.2
    rw [run_neq_struct, show (10000 : Nat) = 9998 + 2 from rfl]
    generalize 9998 + 2 = d at h ⊢
    change Result.andThen (Sem.run Try.prog (Op.equalIn d 22 (.agg (x.1.map Extern.Stop.cell).toArray) (.agg (y.1.map Extern.Stop.cell).toArray)) w) _ = _
    rw [h]
    rfl, GuardAt.agg _ (by kernel_rfl)⟩
/-- 'x == y', 'x != y' of two ids, in a drawn region. -/
theorem wpQuiet_eqlJ {ops : Array Oper} {C : World → Prop} {K : Act → Prop} {o : Oper} {rest : List Oper} {a : Act} (hw : Region.wanted o (yielded ops a.tmps) = true) (p q : Operand) (ho : o.op = .binOp .eql 22 p q 22) (x y : Id) (r : Bool) (hr : (x.1 == y.1) = r) (hx : a.eval p = .agg (enc x).toArray) (hy : a.eval q = .agg (enc y).toArray)
    (h : wpQuiet Try.prog ops C K rest (a.put o.dst (.bool r))) : wpQuiet Try.prog ops C K (o :: rest) a := by
  simp only [wpQuiet, hw, if_true, Oper.quiet, Oper.quietAt]
  refine ⟨_, fun w hC => ?_, h⟩
  unfold execOp
  simp only [ho, hx, hy, Sem.run_bind, eqlJ.2 .eql p q x y w, eqlJ.1 x y w, Result.andThen_ok, Sem.run_pure, hr]
  exact ⟨rfl, rfl⟩
theorem wpQuiet_neqJ {ops : Array Oper} {C : World → Prop} {K : Act → Prop} {o : Oper} {rest : List Oper} {a : Act} (hw : Region.wanted o (yielded ops a.tmps) = true) (p q : Operand) (ho : o.op = .binOp .neq 22 p q 22) (x y : Id) (r : Bool) (hr : (x.1 == y.1) = r) (hx : a.eval p = .agg (enc x).toArray) (hy : a.eval q = .agg (enc y).toArray)
    (h : wpQuiet Try.prog ops C K rest (a.put o.dst (.bool (!r)))) : wpQuiet Try.prog ops C K (o :: rest) a := by
  simp only [wpQuiet, hw, if_true, Oper.quiet, Oper.quietAt]
  refine ⟨_, fun w hC => ?_, h⟩
  unfold execOp
  simp only [ho, hx, hy, Sem.run_bind, neqJ.2 .neq p q x y w, neqJ.1 x y w, Result.andThen_ok, Sem.run_pure, hr]
  exact ⟨rfl, rfl⟩

/-- A row of ids of the call's own, as the reference has them. -/
def OwnJ (w : World) (base : Nat) (v : Value) (xs : List Id) : Prop := w.ownsRow base 22 32 v xs.length (ec xs)
section
variable {w w' : World} {base : Nat} {v : Value} {xs : List Id}
theorem OwnJ.nil (w : World) (base : Nat) : OwnJ w base (.slice none 0 0) [] := World.ownsRow_nil w base _ 32
theorem OwnJ.changed (h : OwnJ w base v xs) (hg : w.grownBy w' v.ownBlock) (hb : base ≤ w.heap.size) : Below base w w' :=
  (Below.refl base w).grown hg hb (fun k hk => (World.ownsRow.lt h k hk).1)
theorem OwnJ.below (h : OwnJ w base v xs) (hb : Below w.heap.size w w') : OwnJ w' base v xs :=
  World.ownsRow.kept h (grown_of_below hb none) (by cases hv : v.ownBlock <;> simp)
theorem OwnJ.grown {g : Nat} (h : OwnJ w base v xs) (hb : w.grownBy w' (some g)) (hne : v.ownBlock ≠ some g) : OwnJ w' base v xs := World.ownsRow.kept h hb (.inr hne)
theorem OwnJ.lt (h : OwnJ w base v xs) {g : Nat} (hg : v.ownBlock = some g) : g < w.heap.size := (World.ownsRow.lt h g hg).2
theorem OwnJ.mono {base' : Nat} (h : OwnJ w base v xs) (hb : base' ≤ base) : OwnJ w base' v xs := ⟨h.1, h.2.imp id (fun ⟨g, cap, cur, h1, h2, h3⟩ => ⟨g, cap, cur, h1, Nat.le_trans hb h2, h3⟩)⟩
theorem OwnJ.ids (h : OwnJ w base v xs) : ∃ A c, v = .slice A xs.length c ∧ Ids w A xs.length c xs := by
  have hlt := World.ownsRow.lt h
  rcases h.2 with ⟨hv, hn⟩ | ⟨g, cap, cur, hv, _, _, hnc, _⟩
  · have hl : xs = [] := List.eq_nil_of_length_eq_zero hn
    subst hl
    exact ⟨none, 0, hv, Ids.nil _ _ _⟩
  · subst hv
    exact ⟨_, cap, rfl, rfl, hnc, fun _ => ⟨g, 0, rfl, (hlt g rfl).2, fun j u hu => by
      have := World.ownsRow.cells h (g := g) rfl j u hu
      rwa [Addr.add_mid] at this⟩⟩
end
/-- Ids laid one behind the other in a new block. -/
theorem wpList_build_j {w : World} {ops : Array Oper} {rest : List Oper} {o : Oper} {a : Act} {Q : Exit → Act → World → Prop} (hg : o.guard = none) (t : TypeId) (len : Nat) (parts : Array (Nat × Operand)) (ho : o.op = .buildSlice t len parts)
    (hu : Try.prog.underlying t = some (.slice 22)) (xs : List Id) (hl : xs.length = len) (h0 : 0 < len) (h1 : len ≤ 1000)
    (hp : (parts.map fun (i, x) => (i, a.eval x)).toList = ((xs.map fun x => Value.agg (enc x).toArray).zipIdx 0).map fun x => (x.2, x.1))
    (h : ∀ w', Box w' w.heap.size 22 (ec xs).toArray → w' = w.alloc (.cells (ec xs).toArray 22) → wpList Try.prog ops Q rest (a.put o.dst (.slice (some ⟨w.heap.size, 0, none⟩) len len)) w') : wpList Try.prog ops Q (o :: rest) a w := by
  obtain ⟨i0, hi, hz0, hz1, _⟩ := info_parts jInfo
  refine wpList_buildSlice hg t 22 len parts ho (ec xs).toArray i0 _ hu hi hz0 (by rw [hz1]; omega) (by rw [hz1]; omega) ?_ (h _ (Box.made _ _ _) rfl)
  rw [hp, hz1, Great.fill_whole (s := 32) (by omega) _ _ (fun v hv => by obtain ⟨x, _, rfl⟩ := List.mem_map.1 hv; simp [Value.cells, enc_length]) (by simp [hl]), cells_ids]
/-- 'append(out, l...)' of ids, run. -/
theorem run_append_j (w : World) (ot : TypeId) (base : Nat) (v : Value) (xs : List Id) (A : Option Addr) (m c : Nat) (ys : List Id) (hown : OwnJ w base v xs) (hy : Ids w A m c ys) (hA : A.isSome = true) (hz : xs.length + m ≤ 100000) (hb : base ≤ w.heap.size) :
    ∃ v' w', (Builtin.append_ #[38, 38] ot #[v, .slice A m c]).run Try.prog w = .ok v' w' ∧ OwnJ w' base v' (xs ++ ys) ∧ w.grownBy w' v.ownBlock := by
  obtain ⟨i0, hi, hz0, hz1, hz2⟩ := info_parts jInfo
  obtain ⟨ad, rfl⟩ := Option.isSome_iff_exists.1 hA
  obtain ⟨v', w', hrun, r1, r2, _⟩ := run_append_own (P := Try.prog) w base 38 ot 22 i0 _ 32 32 Try.underlying38 hi hz0 hz1 hz2 (enc_size _) (by decide) v xs.length (ec xs) hown ad m c (ec ys) (by rw [ec_length, hy.len])
    (fun j u hu => by
      have h0 : 0 < m := by
        have := (List.getElem?_eq_some_iff.1 hu).1
        rw [ec_length, hy.len] at this
        omega
      obtain ⟨b, off, he, _, hr⟩ := hy.2.2 h0
      obtain rfl := Option.some.inj he
      rw [Addr.add_mid]
      exact hr j u hu) (ec_cells ys) (by unfold maxLen; omega) (by omega) hb
  refine ⟨v', w', hrun, ?_, r2⟩
  unfold OwnJ
  rw [List.length_append, hy.len, ec_append]
  exact r1
theorem wpList_append_j {ops : Array Oper} {rest : List Oper} {o : Oper} {a : Act} {Q : Exit → Act → World → Prop} (w : World) (s x : Operand) (hgd : o.guard = none)
    (hop : o.op = .call { callee := .builtin .append, args := #[s, x], argTypes := #[38, 38] })
    (base : Nat) (v : Value) (xs : List Id) (A : Option Addr) (m c : Nat) (ys : List Id) (hs : a.eval s = v) (hx : a.eval x = .slice A m c) (hown : OwnJ w base v xs) (hy : Ids w A m c ys) (hA : A.isSome = true)
    (hz : xs.length + m ≤ 100000) (hb : base ≤ w.heap.size)
    (K : ∀ v' w', OwnJ w' base v' (xs ++ ys) → w.grownBy w' v.ownBlock → wpList Try.prog ops Q rest (a.put o.dst v') w') : wpList Try.prog ops Q (o :: rest) a w := by
  obtain ⟨v', w', hrun, r1, r2⟩ := run_append_j w o.type base v xs A m c ys hown hy hA hz hb
  refine wpList_plain hgd fun K' hK' => ?_
  unfold Oper.wp
  simp [execOp, hop, resolve, invoke, builtin, hs, hx, hrun, Result.andThen]
  exact hK' _ _ (K v' w' r1 r2)
/-- A block known whole reads as ids. -/
theorem box_ids {w : World} {g : Nat} {t : TypeId} {xs : List Id} (h : Box w g t (ec xs).toArray) {n c : Nat} (hn : xs.length = n) (hc : n ≤ c) : Ids w (some ⟨g, 0, none⟩) n c xs :=
  ⟨hn, hc, fun _ => ⟨g, 0, rfl, Box.lt h, fun j v hv => by rw [Box.cell h]; simpa using hv⟩⟩

set_option maxHeartbeats 1000000 in
/-- The law's Own: the list once more. -/
theorem own_says (w : World) (A : Option Addr) (n c : Nat) (xs : List Id) (hx : Ids w A n c xs) (hn : n ≤ 1000) :
    Calls Try.prog 17 #[.slice A n c] w fun e w' => ∃ v, e = .returned v ∧ OwnJ w' w.heap.size v xs ∧ Below w.heap.size w w' := by
  have HX := Lib.hid hx
  have hlen := hx.len
  clear hx
  go_enter Try.func17, Try.ntmps17
  go_wp2_with fail
  go_loopw [3, 4] (fun o i wr => ∃ k : Nat, i = .int .i64 (k : Int) ∧ k ≤ n ∧ Hid (OwnJ wr w.heap.size o (xs.take k) ∧ Below w.heap.size w wr)) (fun _ i _ => n - (Lib.intOf i).toNat)
  case atStart => exact ⟨0, rfl, Nat.zero_le _, Lib.hid ⟨by simpa using OwnJ.nil _ _, Below.refl _ _⟩⟩
  case round =>
    obtain ⟨k, rfl, hk, H⟩ := hrel
    by_cases hlt : k < n
    · have l1 : (k : Int) < (n : Int) := by omega
      obtain ⟨x, hx⟩ : ∃ x, xs[k]? = some x := ⟨_, List.getElem?_eq_getElem (by omega)⟩
      obtain ⟨b, off, hA, hb, hr⟩ := HX.out.at hx
      subst hA
      have HR := Lib.hid (show wr.rangeAt b (off + k * 32) (enc x) from fun j v hv => (H.out.2.cell (p := ⟨b, off + k * 32 + j, none⟩) hb).trans (hr j v hv))
      have HTK := Lib.hid (show xs.take (k + 1) = xs.take k ++ [x] from by rw [List.take_add_one, hx]; rfl)
      have HL := Lib.hid (show (xs.take k).length ≤ 1000 from by rw [List.length_take]; omega)
      clear hr hb hx
      go_wp2_with (first
        | (refine wpList_load_mid rfl 23 _ rfl b (off + k * 32) rfl (enc x) _ HR.out Try.underlying23 rfl (infoId _) ?_)
        | (refine wpList_build_j rfl 38 1 _ rfl Try.underlying38 [x] rfl (by omega) (by omega) (by go_simp) ?_; intro w6 hr6 hw6; have HR6 := Lib.hid hr6; have hb6 : Below wr.heap.size wr w6 := (by rw [hw6]; exact (Below.refl _ wr).alloc (Nat.le_refl _) _); have HO6 := Lib.hid (H.out.1.below hb6); have HW6 := Lib.hid (H.out.2.trans (hb6.mono H.out.2.size)); clear hr6 hw6 hb6)
        | (at_builtin; refine wpList_append_j w6 _ _ rfl rfl w.heap.size _ (xs.take k) (some ⟨wr.heap.size, 0, none⟩) 1 1 [x] rfl rfl HO6.out (box_ids HR6.out rfl (Nat.le_refl _)) rfl (by have := HL.out; omega) HW6.out.size ?_; intro v7 w7 ho7 hg7))
      have HO7 := Lib.hid ho7
      have HW7 := Lib.hid (HW6.out.trans (HO6.out.changed hg7 HW6.out.size))
      clear ho7 hg7
      go_wp2
      go_roundw
      case rel => exact ⟨k + 1, by go_num, by omega, Lib.hid ⟨by rw [HTK.out]; exact HO7.out, HW7.out⟩⟩
      case measure => simp [Lib.intOf]; omega
    · obtain rfl : k = n := by omega
      go_wp2
      go_ret
      refine ⟨_, rfl, ?_, H.out.2⟩
      have := H.out.1
      rwa [← hlen, List.take_length] at this

theorem take_same {xs ys : List Id} (h : xs.length = ys.length) {k : Nat} (hk : xs.length ≤ k) (ht : xs.take k = ys.take k) : xs = ys := by
  rwa [List.take_of_length_le hk, List.take_of_length_le (by omega)] at ht

set_option maxHeartbeats 1000000 in
/-- The reference's Same. -/
theorem rsame_says (w : World) (A : Option Addr) (n c : Nat) (xs : List Id) (hx : Ids w A n c xs) (B : Option Addr) (m d : Nat) (ys : List Id) (hy : Ids w B m d ys) (hn : n ≤ 1000) :
    Calls Try.prog 18 #[.slice A n c, .slice B m d] w fun e w' => e = .returned (.bool (decide (xs = ys))) ∧ Below w.heap.size w w' := by
  have HX := Lib.hid hx
  have HY := Lib.hid hy
  have hl1 := hx.len
  have hl2 := hy.len
  clear hx hy
  by_cases hnm : n = m
  · subst hnm
    go_enter Try.func18, Try.ntmps18
    go_wp2_with fail
    go_loopw [5] (fun i wr => ∃ k : Nat, i = .int .i64 (k : Int) ∧ k ≤ n ∧ Hid (xs.take k = ys.take k ∧ Below w.heap.size w wr)) (fun i _ => n - (Lib.intOf i).toNat)
    case atStart => exact ⟨0, rfl, Nat.zero_le _, Lib.hid ⟨by simp, Below.refl _ _⟩⟩
    case round =>
      obtain ⟨k, rfl, hk, H⟩ := hrel
      by_cases hlt : k < n
      · have l1 : (k : Int) < (n : Int) := by omega
        obtain ⟨x, hx⟩ : ∃ x, xs[k]? = some x := ⟨_, List.getElem?_eq_getElem (by omega)⟩
        obtain ⟨y, hy⟩ : ∃ y, ys[k]? = some y := ⟨_, List.getElem?_eq_getElem (by omega)⟩
        obtain ⟨b, off, hA, hb, hr⟩ := HX.out.at hx
        obtain ⟨b', off', hB, hb', hr'⟩ := HY.out.at hy
        subst hA hB
        have HR1 := Lib.hid (show wr.rangeAt b (off + k * 32) (enc x) from fun j v hv => (H.out.2.cell (p := ⟨b, off + k * 32 + j, none⟩) hb).trans (hr j v hv))
        have HR2 := Lib.hid (show wr.rangeAt b' (off' + k * 32) (enc y) from fun j v hv => (H.out.2.cell (p := ⟨b', off' + k * 32 + j, none⟩) hb').trans (hr' j v hv))
        have HG1 := Lib.hid (Nat.lt_of_lt_of_le hb H.out.2.size)
        have HG2 := Lib.hid (Nat.lt_of_lt_of_le hb' H.out.2.size)
        have HXY := Lib.hid (And.intro hx hy)
        clear hr hb hr' hb' hx hy
        obtain ⟨r, hr⟩ : ∃ r, (x.1 == y.1) = r := ⟨_, rfl⟩
        have HRR := Lib.hid hr
        clear hr
        go_wp2_with fail
        refine wp_region_grows (by kernel_rfl) (by kernel_rfl) ?_
        repeat (first
          | (refine wpQuiet_load rfl 22 _ rfl b (off + k * 32) rfl (enc x) _ (range_grows HR1.out HG1.out) Try.underlying22 rfl (infoJ _) ?_)
          | (refine wpQuiet_load rfl 22 _ rfl b' (off' + k * 32) rfl (enc y) _ (range_grows HR2.out HG2.out) Try.underlying22 rfl (infoJ _) ?_)
          | (refine wpQuiet_neqJ (by rfl) _ _ rfl x y r HRR.out rfl rfl ?_)
          | quiet_step (fail))
        refine wpQuiet_nil ?_
        rintro w2 ⟨⟨_, hw2⟩, rfl⟩
        have HW := Lib.hid (H.out.2.trans (hw2.mono H.out.2.size))
        clear hw2
        cases r with
        | true =>
          go_wp2
          go_roundw
          case rel =>
            refine ⟨k + 1, by go_num, by omega, Lib.hid ⟨?_, HW.out⟩⟩
            have e : x = y := Subtype.ext (by simpa using HRR.out)
            rw [List.take_add_one, List.take_add_one, H.out.1, HXY.out.1, HXY.out.2, e]
          case measure => simp [Lib.intOf]; omega
        | false =>
          go_wp2
          go_ret
          refine ⟨?_, HW.out⟩
          have hne : ¬ xs = ys := fun e => by
            have h1 := HXY.out
            rw [e] at h1
            have h2 : x = y := Option.some.inj (h1.1.symm.trans h1.2)
            have h3 := HRR.out
            rw [h2] at h3
            simp at h3
          rw [decide_eq_false hne]
          rfl
      · have l1 : ¬ (k : Int) < (n : Int) := by omega
        go_wp2
        go_ret
        refine ⟨?_, H.out.2⟩
        rw [decide_eq_true (take_same (by omega) (by omega) H.out.1)]
        rfl
  · have h1 : ¬ (n : Int) = (m : Int) := by omega
    have hne : ¬ xs = ys := fun e => by rw [e] at hl1; omega
    rw [decide_eq_false hne]
    go_enter Try.func18, Try.ntmps18
    go_wp2
    go_ret
    exact ⟨rfl, Below.refl _ _⟩

set_option maxHeartbeats 1000000 in
/-- The reference's Has. -/
theorem rhas_says (w : World) (A : Option Addr) (n c : Nat) (xs : List Id) (hx : Ids w A n c xs) (y : Id) (hn : n ≤ 1000) :
    Calls Try.prog 69 #[.slice A n c, .agg (enc y).toArray] w fun e w' => e = .returned (.bool (decide (y ∈ xs))) ∧ Below w.heap.size w w' := by
  have hs1 := enc_size y
  have HX := Lib.hid hx
  have hl1 := hx.len
  clear hx
  go_enter Try.func69, Try.ntmps69
  go_wp2_with fail
  have H0 : Hid (Box (w.alloc (Obj.cells (enc y).toArray 22)) w.heap.size 22 (enc y).toArray ∧ Below w.heap.size w (w.alloc (Obj.cells (enc y).toArray 22))) :=
    Lib.hid ⟨Box.made w _ _, (Below.refl w.heap.size w).alloc (Nat.le_refl _) _⟩
  generalize w.alloc (Obj.cells (enc y).toArray 22) = w1 at H0 ⊢
  go_loopw [5] (fun i wr => ∃ k : Nat, i = .int .i64 (k : Int) ∧ k ≤ n ∧ Hid (y ∉ xs.take k ∧ Box wr w.heap.size 22 (enc y).toArray ∧ Below w.heap.size w wr)) (fun i _ => n - (Lib.intOf i).toNat)
  case atStart => exact ⟨0, rfl, Nat.zero_le _, Lib.hid ⟨by simp, H0.out⟩⟩
  case round =>
    obtain ⟨k, rfl, hk, H⟩ := hrel
    by_cases hlt : k < n
    · have l1 : (k : Int) < (n : Int) := by omega
      obtain ⟨x, hx⟩ : ∃ x, xs[k]? = some x := ⟨_, List.getElem?_eq_getElem (by omega)⟩
      obtain ⟨b, off, hA, hb, hr⟩ := HX.out.at hx
      subst hA
      have HR1 := Lib.hid (show wr.rangeAt b (off + k * 32) (enc x) from fun j v hv => (H.out.2.2.cell (p := ⟨b, off + k * 32 + j, none⟩) hb).trans (hr j v hv))
      have HG1 := Lib.hid (Nat.lt_of_lt_of_le hb H.out.2.2.size)
      have HR2 := Lib.hid (box_range H.out.2.1)
      have HG2 := Lib.hid (Box.lt H.out.2.1)
      have HXK := Lib.hid hx
      clear hr hb hx
      obtain ⟨r, hr⟩ : ∃ r, (x.1 == y.1) = r := ⟨_, rfl⟩
      have HRR := Lib.hid hr
      clear hr
      go_wp2_with fail
      refine wp_region_grows (by kernel_rfl) (by kernel_rfl) ?_
      repeat (first
        | (refine wpQuiet_load rfl 22 _ rfl b (off + k * 32) rfl (enc x) _ (range_grows HR1.out HG1.out) Try.underlying22 rfl (infoJ _) ?_)
        | (refine wpQuiet_load rfl 22 _ rfl w.heap.size 0 rfl (enc y) _ (range_grows HR2.out HG2.out) Try.underlying22 rfl (infoJ _) ?_)
        | (refine wpQuiet_eqlJ (by rfl) _ _ rfl x y r HRR.out rfl rfl ?_)
        | quiet_step (fail))
      refine wpQuiet_nil ?_
      rintro w2 ⟨⟨_, hw2⟩, rfl⟩
      have HW := Lib.hid (And.intro (Box.below H.out.2.1 hw2 (Box.lt H.out.2.1)) (H.out.2.2.trans (hw2.mono H.out.2.2.size)))
      clear hw2
      cases r with
      | true =>
        go_wp2
        go_ret
        refine ⟨?_, HW.out.2⟩
        have e : x = y := Subtype.ext (by simpa using HRR.out)
        have hin : y ∈ xs := by rw [← e]; exact List.mem_of_getElem? HXK.out
        rw [decide_eq_true hin]
        rfl
      | false =>
        go_wp2
        go_roundw
        case rel =>
          refine ⟨k + 1, by go_num, by omega, Lib.hid ⟨?_, HW.out⟩⟩
          rw [List.take_add_one, HXK.out]
          intro h
          rcases List.mem_append.1 h with h | h
          · exact H.out.1 h
          · have e : y = x := by simpa using h
            have h3 := HRR.out
            rw [e] at h3
            simp at h3
        case measure => simp [Lib.intOf]; omega
    · have l1 : ¬ (k : Int) < (n : Int) := by omega
      go_wp2
      go_ret
      refine ⟨?_, H.out.2.2⟩
      have h1 := H.out.1
      rw [List.take_of_length_le (by omega)] at h1
      rw [decide_eq_false h1]
      rfl
end Go.Proofs.Ytjnobakbjapfjaa
