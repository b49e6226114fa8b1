/-
  Ids in order, each kept once: the contract of slices.Compact at lists of ids in a block of the call's own.
-/
import Derived.Test.YtjnobakbjapfjaaSort
import Derived.LoopN
namespace Go.Proofs.Ytjnobakbjapfjaa
open Go.RowKit Go.Sort Go.Shelf

/-- What the first j ids come to, with none that is its forerunner again. -/
def cmpTo (xs : List Id) : Nat → List Id
  | 0 => []
  | j + 1 => if 0 < j ∧ xs[j]! = xs[j - 1]! then cmpTo xs j else cmpTo xs j ++ [xs[j]!]
theorem cmpTo_le (xs : List Id) : ∀ j, (cmpTo xs j).length ≤ j
  | 0 => Nat.le_refl _
  | j + 1 => by
    have := cmpTo_le xs j
    rw [cmpTo]
    split
    · omega
    · simp; omega
theorem cmpTo_all (xs : List Id) : ∀ j, j ≤ xs.length → (∀ i, 0 < i → i < j → xs[i]! ≠ xs[i - 1]!) → cmpTo xs j = xs.take j
  | 0, _, _ => by simp [cmpTo]
  | j + 1, hj, h => by
    rw [cmpTo, if_neg (fun hh => h j hh.1 (by omega) hh.2), cmpTo_all xs j (by omega) (fun i h1 h2 => h i h1 (by omega)), List.take_add_one, getElem!_pos xs j (by omega), List.getElem?_eq_getElem (by omega)]
    rfl
theorem cmpTo_pos (xs : List Id) (j : Nat) : 0 < (cmpTo xs (j + 1)).length := by
  induction j with
  | zero => simp [cmpTo]
  | succ j ih =>
    rw [cmpTo]
    split
    · exact ih
    · simp

/-- 'x[i] == x[j]' and the like, at the operation. -/
theorem wpQuiet_eqlId {ops : Array Oper} {C : World → Prop} {K : Act → Prop} {o : Oper} {rest : List Oper} {a : Act} (hgd : o.guard = none) (p q : Operand) (ho : o.op = .binOp .eql 23 p q 23) (x y : Id) (hx : a.eval p = .agg (enc x).toArray) (hy : a.eval q = .agg (enc y).toArray)
    (h : wpQuiet Try.prog ops C K rest (a.put o.dst (.bool (x.1 == y.1)))) : wpQuiet Try.prog ops C K (o :: rest) a := by
  have hw : Region.wanted o (yielded ops a.tmps) = true := by simp [Region.wanted, hgd]
  simp only [wpQuiet, hw, if_true, Oper.quiet, Oper.quietAt]
  refine ⟨_, fun w hC => ?_, h⟩
  unfold execOp
  simp only [ho, hx, hy, Sem.run_bind, eqlId.2 .eql p q x y w, eqlId.1 x y w, Result.andThen_ok, Sem.run_pure]
  exact ⟨rfl, rfl⟩
theorem wpQuiet_neqId {ops : Array Oper} {C : World → Prop} {K : Act → Prop} {o : Oper} {rest : List Oper} {a : Act} (hgd : o.guard = none) (p q : Operand) (ho : o.op = .binOp .neq 23 p q 23) (x y : Id) (hx : a.eval p = .agg (enc x).toArray) (hy : a.eval q = .agg (enc y).toArray)
    (h : wpQuiet Try.prog ops C K rest (a.put o.dst (.bool (!(x.1 == y.1))))) : wpQuiet Try.prog ops C K (o :: rest) a := by
  have hw : Region.wanted o (yielded ops a.tmps) = true := by simp [Region.wanted, hgd]
  simp only [wpQuiet, hw, if_true, Oper.quiet, Oper.quietAt]
  refine ⟨_, fun w hC => ?_, h⟩
  unfold execOp
  simp only [ho, hx, hy, Sem.run_bind, neqId.2 .neq p q x y w, neqId.1 x y w, Result.andThen_ok, Sem.run_pure]
  exact ⟨rfl, rfl⟩

theorem Row.at {w : World} {g : Nat} {xs : List Id} (h : Row w g xs) {j : Nat} (hj : j < xs.length) : w.rangeAt g (j * 32) (enc xs[j]!) := fun i v hv => by
  rw [Box.cell h]
  have := ec_at xs j xs[j]! (by rw [getElem!_pos xs j hj]; simp [hj]) i v hv
  simpa using this

/-- 'x[m] = y', at the operation. -/
theorem wpList_store_id {w : World} {ops : Array Oper} {rest : List Oper} {o : Oper} {a : Act} {Q : Exit → Act → World → Prop} (hgd : o.guard = none) (p q : Operand) (ho : o.op = .store 23 p q) (g m : Nat) (x : Id) (hp : a.eval p = .pointer (some ⟨g, m * 32, none⟩)) (hq : a.eval q = .agg (enc x).toArray)
    {ys : List Id} (hr : Row w g ys) (hm : m < ys.length) (h : ∀ w', w' = w.setRow g (ec (ys.set m x)).toArray → wpList Try.prog ops Q rest (a.put o.dst undef) w') : wpList Try.prog ops Q (o :: rest) a w := by
  have hsz := enc_size x
  refine wpList_store_within hgd 23 p q ho g (m * 32) (enc x).toArray hp hq 23 (ec ys).toArray hr (by rw [hsz]; simp [ec_length]; omega) (by rw [hsz]; exact infoId') (enc_all x) (h _ ?_)
  rw [hsz]
  have := ec_set ys m x hm
  simp only at this ⊢
  rw [this]

theorem zeroIds (n : Nat) : (Builtin.zeroCells (enc default).toArray n).toList = ec (List.replicate n default) := by
  have h32 : (enc (default : Id)).toArray.size = 32 := enc_size _
  refine List.ext_getElem? fun t => ?_
  unfold Builtin.zeroCells
  rw [h32]
  by_cases ht : t < n * 32
  · have hv : (enc (default : Id))[t % 32]? = some (enc (default : Id))[t % 32]! := by
      have : t % 32 < (enc (default : Id)).length := by rw [enc_length]; omega
      rw [getElem!_pos _ (t % 32) this]
      simp [this]
    have h := ec_at (List.replicate n (default : Id)) (t / 32) default (by rw [List.getElem?_replicate, if_pos (by omega)]) (t % 32) _ hv
    rw [show t / 32 * 32 + t % 32 = t by omega] at h
    rw [h]
    simp [ht]
  · rw [List.getElem?_eq_none (by simp; omega), List.getElem?_eq_none (by rw [ec_length]; simp; omega)]

/-- 'clear(x[m:])', at the operation. -/
theorem wpList_clear_ids {w : World} {ops : Array Oper} {rest : List Oper} {o : Oper} {a : Act} {Q : Exit → Act → World → Prop} (hgd : o.guard = none) (d : Operand) (ho : o.op = .call { callee := .builtin .clear, args := #[d], argTypes := #[35] })
    (g m n c : Nat) (hm : m < n) (hd : a.eval d = .slice (some ⟨g, m * 32, none⟩) (n - m) (c - m)) {ys : List Id} (hr : Row w g ys) (hn : ys.length = n)
    (h : ∀ w', (m ≤ c → Ids w' (some ⟨g, 0, none⟩) m c (ys.take m)) → w.grownBy w' (some g) → wpList Try.prog ops Q rest (a.put o.dst (.tuple #[])) w') : wpList Try.prog ops Q (o :: rest) a w := by
  refine wpList_plain hgd fun K hK => ?_
  have hz : (zeroValue 23).run Try.prog w = .ok (.agg (enc default).toArray) w := by
    obtain ⟨i0, hi, hz0, _, _⟩ := info_parts idInfo
    simp [zeroValue, typeInfo, hi, hz0]
  have hrun : (Builtin.clear_ #[35] o.type #[.slice (some ⟨g, m * 32, none⟩) (n - m) (c - m)]).run Try.prog w = .ok (.tuple #[]) (w.setRow g (ec (ys.take m ++ List.replicate (n - m) default)).toArray) := by
    have hst := run_storeCells_at Try.prog g (m * 32) 23 (ec (List.replicate (n - m) default)) 0 (ec ys).toArray w hr (by rw [ec_length]; simp [ec_length, hn]; omega) (ec_cells _)
    have hdr : (ec ys).drop (m * 32 + (n - m) * 32) = [] := List.drop_eq_nil_of_le (by rw [ec_length, hn]; omega)
    simp only [Nat.add_zero, ec_length, List.length_replicate, hdr, List.append_nil, ec_take, ← ec_append] at hst
    obtain ⟨j, hj⟩ : ∃ j, n - m = j + 1 := ⟨n - m - 1, by omega⟩
    rw [hj] at hst ⊢
    simp only [Builtin.clear_, Value.cells]
    simp [run_underlying Try.underlying35, hz, zeroIds, hst]
  unfold Oper.wp
  simp [execOp, ho, resolve, invoke, builtin, hd, hrun, Result.andThen]
  have hb : Row (w.setRow g (ec (ys.take m ++ List.replicate (n - m) default)).toArray) g (ys.take m ++ List.replicate (n - m) default) := setRow_heap w g _ _ 23 _ hr
  refine hK _ _ (h _ (fun hc => ?_) (grown_row (grown_refl w _) _))
  have := (hb.ids (n := n) (c := max c n) (by simp; omega) (by omega)).first (m := m) (by omega)
  rw [List.take_append_of_le_length (by simp; omega), List.take_take, Nat.min_self] at this
  exact ⟨this.1, hc, this.2.2⟩

/-- Within the second loop: the first m ids are what the first k + k2 of the old list come to; from the one ahead of that place on, the list is as it was. -/
def CmpIn (w wr : World) (g : Nat) (xs : List Id) (k m : Nat) (ys : List Id) (k2 : Nat) : Prop :=
  m + 1 ≤ k + k2 ∧ 1 ≤ m ∧ ys.length = xs.length ∧ ys.take m = cmpTo xs (k + k2) ∧ ys.drop (k + k2 - 1) = xs.drop (k + k2 - 1) ∧ Row wr g ys ∧ w.grownBy wr (some g)

section
variable {w wr w' : World} {g k m k2 : Nat} {xs ys : List Id}
theorem CmpIn.get (h : CmpIn w wr g xs k m ys k2) {j : Nat} (hj : k + k2 - 1 ≤ j) : ys[j]! = xs[j]! := by
  have e := h.2.2.2.2.1
  have h1 := congrArg (fun l : List Id => l[j - (k + k2 - 1)]?) e
  simp only [List.getElem?_drop, Nat.add_sub_cancel' hj] at h1
  rw [List.getElem!_eq_getElem?_getD, List.getElem!_eq_getElem?_getD, h1]
theorem CmpIn.at0 (h : CmpIn w wr g xs k m ys k2) (hlt : k + k2 < xs.length) {x : Id} (hx : xs[k + k2]! = x) : wr.rangeAt g (k * 32 + k2 * 32) (enc x) := by
  have := h.2.2.2.2.2.1.at (j := k + k2) (by rw [h.2.2.1]; exact hlt)
  rwa [h.get (by omega), hx, Nat.add_mul] at this
theorem CmpIn.at1 (h : CmpIn w wr g xs k m ys k2) (h1 : 1 ≤ k2) (hlt : k + k2 ≤ xs.length) {x : Id} (hx : xs[k + k2 - 1]! = x) : wr.rangeAt g (k * 32 + (k2 - 1) * 32) (enc x) := by
  have := h.2.2.2.2.2.1.at (j := k + k2 - 1) (by rw [h.2.2.1]; omega)
  rwa [h.get (by omega), hx, show k + k2 - 1 = k + (k2 - 1) by omega, Nat.add_mul] at this
theorem CmpIn.below (h : CmpIn w wr g xs k m ys k2) (hb : Below wr.heap.size wr w') : CmpIn w w' g xs k m ys k2 :=
  ⟨h.1, h.2.1, h.2.2.1, h.2.2.2.1, h.2.2.2.2.1, Box.below h.2.2.2.2.2.1 hb (Box.lt h.2.2.2.2.2.1), grown_below h.2.2.2.2.2.2 hb⟩
/-- A round in which the id is its forerunner again. -/
theorem CmpIn.skip (h : CmpIn w wr g xs k m ys k2) (hk : 0 < k + k2) (he : xs[k + k2]! = xs[k + k2 - 1]!) : CmpIn w wr g xs k m ys (k2 + 1) := by
  refine ⟨by have := h.1; omega, h.2.1, h.2.2.1, ?_, ?_, h.2.2.2.2.2⟩
  · rw [← Nat.add_assoc, cmpTo, if_pos ⟨hk, he⟩]
    exact h.2.2.2.1
  · have := congrArg (List.drop 1) h.2.2.2.2.1
    rw [List.drop_drop, List.drop_drop] at this
    rwa [show k + k2 - 1 + 1 = k + (k2 + 1) - 1 by omega] at this
/-- A round in which it is another one. -/
theorem CmpIn.put (h : CmpIn w wr g xs k m ys k2) (hlt : k + k2 < xs.length) {x : Id} (hx : xs[k + k2]! = x) (he : x ≠ xs[k + k2 - 1]!) : CmpIn w (wr.setRow g (ec (ys.set m x)).toArray) g xs k (m + 1) (ys.set m x) (k2 + 1) := by
  have hm := h.1
  have hl := h.2.2.1
  have hl2 : (cmpTo xs (k + k2)).length = m := by rw [← h.2.2.2.1, List.length_take]; omega
  refine ⟨by omega, by omega, by rw [List.length_set]; exact hl, ?_, ?_, setRow_heap wr g _ _ 23 _ h.2.2.2.2.2.1, grown_row h.2.2.2.2.2.2 _⟩
  · rw [← Nat.add_assoc, cmpTo, if_neg (fun hh => he (by rw [← hx]; exact hh.2)), hx, ← h.2.2.2.1, List.take_set, List.take_add_one, List.getElem?_eq_getElem (by omega)]
    rw [List.set_append_right _ _ (by rw [List.length_take]; omega)]
    simp only [List.length_take, Nat.min_eq_left (show m ≤ ys.length by omega), Nat.sub_self]
    rfl
  · rw [List.drop_set_of_lt (by omega)]
    have := congrArg (List.drop 1) h.2.2.2.2.1
    rw [List.drop_drop, List.drop_drop] at this
    rwa [show k + k2 - 1 + 1 = k + (k2 + 1) - 1 by omega] at this
end

set_option maxHeartbeats 4000000 in
/-- slices.Compact. -/
theorem compact_says (w : World) (g n c : Nat) (xs : List Id) (hx : Row w g xs) (hn : xs.length = n) (hc : n ≤ c) (hs : n ≤ 1000) :
    Calls Try.prog 43 #[.slice (some ⟨g, 0, none⟩) n c] w fun e w' => ∃ m, e = .returned (.slice (some ⟨g, 0, none⟩) m c) ∧ Ids w' (some ⟨g, 0, none⟩) m c (cmpTo xs n) ∧ w.grownBy w' (some g) := by
  have HX := Lib.hid hx
  clear hx
  go_enter Try.func43, Try.ntmps43
  by_cases h2 : n < 2
  · have h2' : (n : Int) < 2 := by omega
    go_wp2
    go_ret
    refine ⟨n, rfl, ?_, grown_refl w _⟩
    rw [cmpTo_all xs n (by omega) (fun i h1 h2 => by omega), List.take_of_length_le (by omega)]
    exact HX.out.ids hn hc
  · have h2' : ¬ (n : Int) < 2 := by omega
    go_wp2
    go_loopw [3] (fun v wr => ∃ k : Nat, v = .int .i64 (k : Int) ∧ 1 ≤ k ∧ k ≤ n ∧ Hid (Row wr g xs ∧ w.grownBy wr (some g) ∧ ∀ i, 0 < i → i < k → xs[i]! ≠ xs[i - 1]!)) (fun v _ => n - (Lib.intOf v).toNat)
    case atStart => exact ⟨1, rfl, Nat.le_refl _, by omega, Lib.hid ⟨HX.out, grown_refl w _, fun i h1 h2 => by omega⟩⟩
    case round =>
      obtain ⟨k, rfl, hk1, hkn, H⟩ := hrel
      by_cases hlt : k < n
      · have l1 : (k : Int) < (n : Int) := by omega
        have l3 : k - 1 < n := by omega
        have q1 : IntKind.i64.wrap ((k : Int) - 1) = ((k - 1 : Nat) : Int) := by
          rw [show (k : Int) - 1 = ((k - 1 : Nat) : Int) by omega]
          exact IntWalk.i64_in _ (by omega)
        have HR1 := Lib.hid (H.out.1.at (j := k) (by omega))
        have HR2 := Lib.hid (H.out.1.at (j := k - 1) (by omega))
        have HG := Lib.hid (Box.lt H.out.1)
        obtain ⟨x, hx⟩ : ∃ x, xs[k]! = x := ⟨_, rfl⟩
        obtain ⟨y, hy⟩ : ∃ y, xs[k - 1]! = y := ⟨_, rfl⟩
        rw [hx] at HR1
        rw [hy] at HR2
        have HXY := Lib.hid (And.intro hx hy)
        clear hx hy
        go_wp2_with fail
        refine wp_region_grows (by kernel_rfl) (by kernel_rfl) ?_
        repeat (first
          | (refine wpQuiet_load rfl 23 _ rfl g (k * 32) rfl (enc x) _ (range_grows HR1.out HG.out) Try.underlying23 rfl (infoId _) ?_)
          | (refine wpQuiet_load rfl 23 _ rfl g ((k - 1) * 32) rfl (enc y) _ (range_grows HR2.out HG.out) Try.underlying23 rfl (infoId _) ?_)
          | (refine wpQuiet_eqlId rfl _ _ rfl x y rfl rfl ?_)
          | quiet_step (fail))
        refine wpQuiet_nil ?_
        rintro w2 ⟨⟨_, hw2⟩, rfl⟩
        have HW := Lib.hid hw2
        clear hw2
        dsimp only
        cases hb : (x.1 == y.1)
        · go_wp2
          go_roundw
          case rel =>
            refine ⟨k + 1, by go_num, by omega, by omega, Lib.hid ⟨Box.below H.out.1 HW.out (Box.lt H.out.1), grown_below H.out.2.1 HW.out, fun i h1 h2 => ?_⟩⟩
            by_cases e : i = k
            · subst e
              rw [HXY.out.1, HXY.out.2]
              intro e
              rw [e] at hb
              simp at hb
            · exact H.out.2.2 i h1 (by omega)
          case measure => simp [Lib.intOf]; omega
        · have he : x = y := Subtype.ext (by simpa using hb)
          have HE := Lib.hid he
          clear he
          go_wp2_with fail
          have HA : Hid (CmpIn w w2 g xs k k xs 1) := Lib.hid ⟨Nat.le_refl _, by omega, rfl, by
            rw [cmpTo, if_pos ⟨by omega, by rw [HXY.out.1, HXY.out.2]; exact HE.out⟩, cmpTo_all xs k (by omega) H.out.2.2], rfl, Box.below H.out.1 HW.out (Box.lt H.out.1), grown_below H.out.2.1 HW.out⟩
          go_loopw [3, 5] (fun v3 v5 wr => ∃ (m k2 : Nat) (ys : List Id), v3 = .int .i64 (m : Int) ∧ v5 = .int .i64 (k2 : Int) ∧ 1 ≤ k2 ∧ k + k2 ≤ n ∧ m ≤ n ∧ Hid (CmpIn w wr g xs k m ys k2)) (fun _ v _ => n - (Lib.intOf v).toNat)
          case atStart => exact ⟨k, 1, xs, rfl, rfl, Nat.le_refl _, by omega, by omega, HA⟩
          case round =>
            obtain ⟨m, k2, ys, rfl, rfl, hk21, hk2n, hmn, HC⟩ := hrel
            by_cases hlt2 : k + k2 < n
            · have l5 : k2 < n - k := by omega
              have l6 : k2 - 1 < n - k := by omega
              have q5 : IntKind.i64.wrap ((k2 : Int) - 1) = ((k2 - 1 : Nat) : Int) := by
                rw [show (k2 : Int) - 1 = ((k2 - 1 : Nat) : Int) by omega]
                exact IntWalk.i64_in _ (by omega)
              obtain ⟨x2, hx2⟩ : ∃ x, xs[k + k2]! = x := ⟨_, rfl⟩
              obtain ⟨y2, hy2⟩ : ∃ y, xs[k + k2 - 1]! = y := ⟨_, rfl⟩
              have HR3 := Lib.hid (show wr.rangeAt g (k * 32 + k2 * 32) (enc x2) from HC.out.at0 (by omega) hx2)
              have HR4 := Lib.hid (show wr.rangeAt g (k * 32 + (k2 - 1) * 32) (enc y2) from HC.out.at1 hk21 (by omega) hy2)
              have HXY2 := Lib.hid (And.intro hx2 hy2)
              have HG2 := Lib.hid (Box.lt HC.out.2.2.2.2.2.1)
              clear hx2 hy2
              go_wp2_with fail
              refine wp_region_grows (by kernel_rfl) (by kernel_rfl) ?_
              repeat (first
                | (refine wpQuiet_load rfl 23 _ rfl g (k * 32 + k2 * 32) rfl (enc x2) _ (range_grows HR3.out HG2.out) Try.underlying23 rfl (infoId _) ?_)
                | (refine wpQuiet_load rfl 23 _ rfl g (k * 32 + (k2 - 1) * 32) rfl (enc y2) _ (range_grows HR4.out HG2.out) Try.underlying23 rfl (infoId _) ?_)
                | (refine wpQuiet_neqId rfl _ _ rfl x2 y2 rfl rfl ?_)
                | quiet_step (fail))
              refine wpQuiet_nil ?_
              rintro w3 ⟨⟨_, hw3⟩, rfl⟩
              have HW3 := Lib.hid (HC.out.below hw3)
              have HR5 := Lib.hid (range_grows HR3.out HG2.out w3 ⟨⟨w3, hw3⟩, rfl⟩)
              clear hw3
              dsimp only
              cases hb2 : (x2.1 == y2.1)
              · have lm : m < n := by have := HC.out.1; omega
                have hsz := enc_size x2
                go_wp2_with (first
                  | (refine wpList_load_mid rfl 23 _ rfl g (k * 32 + k2 * 32) rfl (enc x2) _ HR5.out Try.underlying23 rfl (infoId _) ?_)
                  | (refine wpList_store_id rfl _ _ rfl g m x2 rfl rfl HW3.out.2.2.2.2.2.1 (by rw [HW3.out.2.2.1]; omega) ?_; intro w4 hw4; have HW4 := Lib.hid hw4; clear hw4))
                refine ⟨⟨m + 1, k2 + 1, ys.set m x2, by go_num, by go_num, by omega, by omega, by omega, Lib.hid ?_⟩, by simp [Lib.intOf]; omega⟩
                rw [HW4.out]
                refine HW3.out.put (by omega) HXY2.out.1 (fun e => ?_)
                rw [HXY2.out.2] at e
                rw [e] at hb2
                simp at hb2
              · go_wp2
                go_roundw
                case rel =>
                  refine ⟨m, k2 + 1, ys, rfl, by go_num, by omega, by omega, by omega, Lib.hid (HW3.out.skip (by omega) ?_)⟩
                  rw [HXY2.out.1, HXY2.out.2]
                  exact Subtype.ext (by simpa using hb2)
                case measure => simp [Lib.intOf]; omega
            · obtain rfl : k2 = n - k := by omega
              have lm : m < n := by have := HC.out.1; omega
              have lc : ¬ c = m := by omega
              have hmn' : (m : Int) ≤ (n : Int) := by omega
              go_wp2_with (refine wpList_clear_ids rfl _ rfl g m n c (by omega) rfl HC.out.2.2.2.2.2.1 (HC.out.2.2.1.trans hn) ?_; intro w5 hw5 hg5; have HW5 := Lib.hid (And.intro (hw5 (by omega)) hg5); clear hw5 hg5)
              go_ret
              refine ⟨m, rfl, ?_, grown_trans HC.out.2.2.2.2.2.2 HW5.out.2⟩
              have ht : cmpTo xs n = ys.take m := by
                have := HC.out.2.2.2.1
                rw [show k + (n - k) = n by omega] at this
                exact this.symm
              rw [ht]
              exact HW5.out.1
      · obtain rfl : k = n := by omega
        go_wp2
        go_ret
        refine ⟨k, rfl, ?_, H.out.2.1⟩
        rw [cmpTo_all xs k (by omega) H.out.2.2, List.take_of_length_le (by omega)]
        exact H.out.1.ids hn hc
end Go.Proofs.Ytjnobakbjapfjaa
