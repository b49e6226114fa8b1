/-
  Ids as texts: the contracts of ids.Text and of (Set).Has.
-/
import Derived.Test.YtjnobakbjapfjaaOf
import Derived.Test.YtjnobakbjapfjaaOwn
import Derived.Test.YtjnobakbjapfjaaStr
namespace Go.Proofs.Ytjnobakbjapfjaa
open Go.RowKit Go.Sort Go.Shelf

/-- The digits. -/
def digs : List UInt8 := [48, 49, 50, 51, 52, 53, 54, 55, 56, 57, 97, 98, 99, 100, 101, 102]
/-- The two digits of a byte. -/
def dig2 (b : UInt8) : List UInt8 := [digs.getD (b.toNat / 16) 0, digs.getD (b.toNat % 16) 0]
/-- The text of bytes. -/
def textL (l : List UInt8) : List UInt8 := l.flatMap dig2
theorem textL_append (l m : List UInt8) : textL (l ++ m) = textL l ++ textL m := by simp [textL]
theorem textL_length : ∀ l : List UInt8, (textL l).length = 2 * l.length
  | [] => rfl
  | b :: l => by
    show (dig2 b ++ textL l).length = _
    rw [List.length_append, textL_length l]
    simp [dig2]
    omega

/-- 'x[k]' of an id. -/
theorem index_id (x : Id) (k : Nat) (b : UInt8) (hb : x.1[k]? = some b) (w : World) : (Instr.index 23 (.agg (enc x).toArray) (.int .i64 (k : Int))).run Try.prog w = .ok (.int .u8 (b.toNat : Int)) w := by
  have hk : k < 32 := by rw [← x.2]; exact (List.getElem?_eq_some_iff.1 hb).1
  have hc : (enc x)[k]? = some (.int .u8 (b.toNat : Int)) := by simp [enc, bc, hb]
  have h1 : ¬ 32 ≤ k := by omega
  simp [Instr.index, asIntOf, run_underlying Try.underlying23, Try.sizeOf5, part, isAgg, run_underlying Try.underlying5, h1, hc]

theorem exec_index {P : Program} {a : Act} {o : Oper} (T : TypeId) (x y : Operand) (ho : o.op = .index T x y) (xv yv v : Value) (hx : a.eval x = xv) (hy : a.eval y = yv) (w : World) (h : (Instr.index T xv yv).run P w = .ok v w) : (execOp a.eval o).run P w = .ok (.value v) w := by
  unfold execOp
  simp only [ho, hx, hy, Sem.run_bind, h, Result.andThen_ok, Sem.run_pure]
theorem index_str (l : List UInt8) (k : Nat) (b : UInt8) (h : l[k]? = some b) (kd : IntKind) (w : World) : (Instr.index 9 (.string ⟨l.toArray⟩) (.int kd (k : Int))).run Try.prog w = .ok (.int .u8 (b.toNat : Int)) w := by
  have hk : k < l.length := (List.getElem?_eq_some_iff.1 h).1
  have e : (⟨l.toArray⟩ : ByteArray)[k]? = some b := by
    rw [getElem?_pos (⟨l.toArray⟩ : ByteArray) k hk]
    rw [List.getElem?_eq_getElem hk] at h
    exact h
  simp [Instr.index, asIntOf, run_underlying Try.underlying9, e]
theorem index_hi (b d : UInt8) (h : digs.getD (b.toNat / 16) 0 = d) (w : World) : (Instr.index 9 (.string ⟨#[48, 49, 50, 51, 52, 53, 54, 55, 56, 57, 97, 98, 99, 100, 101, 102]⟩) (.int .u8 ((b.toNat : Int) / 16))).run Try.prog w = .ok (.int .u8 (d.toNat : Int)) w := by
  have hb := b.toNat_lt
  have := index_str digs (b.toNat / 16) d (by rw [← h, List.getD_eq_getElem?_getD, List.getElem?_eq_getElem (by simp [digs]; omega)]; rfl) .u8 w
  exact this
theorem and15 : ∀ b : Fin 256, bits .and .u8 (b.val : Int) 15 = ((b.val % 16 : Nat) : Int) := by decide +kernel
theorem index_lo (b d : UInt8) (h : digs.getD (b.toNat % 16) 0 = d) (w : World) : (Instr.index 9 (.string ⟨#[48, 49, 50, 51, 52, 53, 54, 55, 56, 57, 97, 98, 99, 100, 101, 102]⟩) (.int .u8 (bits .and .u8 (b.toNat : Int) 15))).run Try.prog w = .ok (.int .u8 (d.toNat : Int)) w := by
  have hb := b.toNat_lt
  have e := and15 ⟨b.toNat, hb⟩
  simp only at e
  rw [e]
  have := index_str digs (b.toNat % 16) d (by rw [← h, List.getD_eq_getElem?_getD, List.getElem?_eq_getElem (by simp [digs]; omega)]; rfl) .u8 w
  exact this

/-- 'append(l, b...)' as one step of a drawn region. -/
theorem step_bytes {ops : Array Oper} {w : World} {o : Oper} {a : Act} {K : Act → World → Prop} {Q : Exit → Act → World → Prop} {E : Prop} (s x : Operand) (hgd : o.guard = none)
    (hop : o.op = .call { callee := .builtin .append, args := #[s, x], argTypes := #[34, 34] })
    (base : Nat) (v : Value) (l : List UInt8) (ad : Addr) (m c : Nat) (news : List UInt8) (hs : a.eval s = v) (hx : a.eval x = .slice (some ad) m c) (hown : Own w base v l) (hm : news.length = m) (hl : ∀ j u, (bc news)[j]? = some u → w.cell? (ad.add j) = some u)
    (hz : l.length + news.length ≤ 8589934592) (hb : base ≤ w.heap.size)
    (h : ∀ v' w', Own w' base v' (l ++ news) → w.grownBy w' v.ownBlock → K (a.put o.dst v') w') : if Region.wanted o (yielded ops a.tmps) = true then Oper.wp Try.prog o a w K Q else E := by
  obtain ⟨i0, hi, hz0, hz1, hz2⟩ := info_parts Try.byteInfo
  have hw : Region.wanted o (yielded ops a.tmps) = true := by simp [Region.wanted, hgd]
  rw [if_pos hw]
  refine wp_append_own w s x 34 hop base 5 i0 (.int .u8 0) 1 1 Try.underlying34 hi hz0 hz1 hz2 rfl (by decide) v l.length (bc l) hs hown ad m c (bc news) hx (by rw [bc_length, hm, Nat.mul_one]) hl (bc_one news) (by unfold maxLen; omega) (by omega) hb ?_
  intro v' w' h1 h2 _
  refine h v' w' ?_ h2
  unfold Own
  rw [List.length_append, bc_append, hm]
  exact h1

set_option maxHeartbeats 1000000 in
/-- (Set).Has, at a list that is not empty. -/
theorem has_says (w : World) (A : Option Addr) (n c : Nat) (xs : List Id) (x : Id) (hx : Ids w A n c xs) (h0 : 0 < n) (hn : n ≤ 1000) :
    Calls Try.prog 28 #[.slice A n c, .agg (enc x).toArray] w fun e w' => e = .returned (.bool (decide (x ∈ xs))) ∧ Below w.heap.size w w' := by
  obtain ⟨b, off, rfl, hb, hr⟩ := hx.2.2 h0
  have hl := hx.len
  have hsz := enc_size x
  have hc := AnyQ.slices_Contains Try.containsIds 32 Try.isAgg23 Try.sizeOf23 enc enc_length (fun x y => x.1 == y.1) eqlId b off n c xs x (w.alloc (Obj.cells (enc x).toArray 23)) (by omega) (by omega)
    (fun j hj i v hv => by
      rw [Nat.add_assoc]
      exact World.rangeAt_alloc hr _ _ _ (ec_at xs j xs[j]! (by rw [getElem!_pos xs j hj]; simp [hj]) i v hv))
  change Calls Try.prog 52 _ _ _ at hc
  have he : ((xs.take n).any fun y => x.1 == y.1) = decide (x ∈ xs) := by
    rw [List.take_of_length_le (by omega), Bool.eq_iff_iff, List.any_eq_true, decide_eq_true_iff]
    constructor
    · rintro ⟨y, hy, e⟩
      have : x = y := Subtype.ext (by simpa using e)
      rwa [this]
    · exact fun h => ⟨x, h, by simp⟩
  rw [he] at hc
  generalize decide (x ∈ xs) = r at hc ⊢
  clear hx hr he
  go_enter Try.func28, Try.ntmps28
  go_wp2_with (first
    | (refine wpList_load_mid rfl 23 _ rfl w.heap.size 0 rfl (enc x) _ (boxed1 w x) Try.underlying23 rfl (infoId x) ?_)
    | (go_at_call 52; refine hc.mono ?_; rintro e w' ⟨rfl, hw'⟩; have H := Lib.hid hw'; clear hw'))
  go_ret
  exact ⟨rfl, ((Below.refl w.heap.size w).alloc (Nat.le_refl _) _).trans (H.out.mono (by simp))⟩

set_option maxRecDepth 100000 in
set_option maxHeartbeats 2000000 in
/-- ids.Text. -/
theorem text_says (x : Id) (w : World) : Calls Try.prog 7 #[.agg (enc x).toArray] w fun e w' => e = .returned (.string ⟨(textL x.1).toArray⟩) ∧ Below w.heap.size w w' := by
  obtain ⟨i0, hi, hz0, hz1, hz2⟩ := info_parts Try.byteInfo
  have hsz := enc_size x
  go_enter Try.func7, Try.ntmps7
  go_wp2_with (first
    | (at_make; refine wpList_make_own _ rfl _ _ 34 rfl w.heap.size 5 i0 (.int .u8 0) 1 Try.underlying34 hi hz0 hz1 _ _ _ 64 rfl rfl rfl (by rw [hz2]; omega) (by unfold maxLen; omega) (by simp) ?_; intro w1 hown1 hg1; have HO1 := Lib.hid hown1; have HG1 := Lib.hid ((((Below.refl w.heap.size w).alloc (Nat.le_refl _) (Obj.cells (enc x).toArray 23)).grown hg1 (by simp) (fun k hk => by cases hk))); have HX1 := Lib.hid (show w1.rangeAt w.heap.size 0 (enc x) from fun j v hv => (World.cell?_of_block (hg1.block w.heap.size (by simp) (by simp))).trans (boxed1 w x j v hv)); clear hown1 hg1)
    | (refine wpList_load_mid rfl 23 _ rfl w.heap.size 0 rfl (enc x) _ HX1.out Try.underlying23 rfl (infoId x) ?_))
  go_loopw [3, 5, 8] (fun v3 _ v8 wr => ∃ k : Nat, v8 = .int .i64 (k : Int) ∧ k ≤ 32 ∧ Hid (Own wr w.heap.size v3 (textL (x.1.take k)) ∧ Below w.heap.size w wr)) (fun _ _ v _ => 32 - (Lib.intOf v).toNat)
  case atStart => exact ⟨0, rfl, by omega, Lib.hid ⟨by have := HO1.out; rw [World.size_alloc] at this; exact this, HG1.out⟩⟩
  case round =>
    obtain ⟨k, rfl, hk, H⟩ := hrel
    by_cases hlt : k < 32
    · have l1 : (k : Int) < 32 := by omega
      obtain ⟨b, hb⟩ : ∃ b, x.1[k]? = some b := ⟨_, List.getElem?_eq_getElem (by rw [x.2]; exact hlt)⟩
      have hcell : (enc x).toArray[k]? = some (.int .u8 (b.toNat : Int)) := by
        simp [enc, bc, hb]
      have hix : ∀ w, (Instr.index 23 (.agg (enc x).toArray) (.int .i64 (k : Int))).run Try.prog w = .ok (.int .u8 (b.toNat : Int)) w := fun w => index_id x k b hb w
      obtain ⟨dh, hdh⟩ : ∃ d, digs.getD (b.toNat / 16) 0 = d := ⟨_, rfl⟩
      obtain ⟨dl, hdl⟩ : ∃ d, digs.getD (b.toNat % 16) 0 = d := ⟨_, rfl⟩
      have hd := fun (_ : UInt8) w => index_hi b dh hdh w
      have hl := fun (_ : UInt8) w => index_lo b dl hdl w
      have HD := Lib.hid (And.intro hdh hdl)
      clear hdh hdl
      go_wp2_with fail
      refine wp_region_held_drew (S := fun _ => True) (by kernel_rfl) trivial (fun hHeld => ?_)
      refine take_run 0 11 (v := ?_) rfl rfl (by kernel_rfl) (by kernel_rfl) (by kernel_rfl) (fun _ _ _ h => h) (by rfl) ?_ (by assumption) ?_
      rotate_left
      · (intro wq hSw; (try dsimp only at hSw); go_simp; first | done | with_reducible rfl)
      simp only [Act.put, List.setIfInBounds_toArray, List.set_cons_zero, List.set_cons_succ]
      refine take_run 1 12 (v := ?_) rfl rfl (by kernel_rfl) (by kernel_rfl) (by kernel_rfl) (fun _ _ _ h => h) (by rfl) ?_ (by assumption) ?_
      rotate_left
      · (intro wq hSw; (try dsimp only at hSw); go_simp; first | done | with_reducible rfl)
      simp only [Act.put, List.setIfInBounds_toArray, List.set_cons_zero, List.set_cons_succ]
      refine take_run 2 13 (v := ?_) rfl rfl (by kernel_rfl) (by kernel_rfl) (by kernel_rfl) (fun _ _ _ h => h) (by rfl) ?_ (by assumption) ?_
      rotate_left
      · (intro wq hSw; (try dsimp only at hSw); go_simp; first | done | with_reducible rfl)
      simp only [Act.put, List.setIfInBounds_toArray, List.set_cons_zero, List.set_cons_succ]
      refine take_run 3 14 (v := .int .u8 ((dh : UInt8).toNat : Int)) rfl rfl (by kernel_rfl) (by kernel_rfl) (by kernel_rfl) (fun _ _ _ h => h) (by rfl) (fun w _ => by refine exec_index 9 _ _ rfl _ _ _ rfl rfl w ?_; exact hd b w) (by assumption) ?_
      simp only [Act.put, List.setIfInBounds_toArray, List.set_cons_zero, List.set_cons_succ]
      refine take_run 4 15 (v := ?_) rfl rfl (by kernel_rfl) (by kernel_rfl) (by kernel_rfl) (fun _ _ _ h => h) (by rfl) ?_ (by assumption) ?_
      rotate_left
      · (intro wq hSw; (try dsimp only at hSw); go_simp; first | done | with_reducible rfl)
      simp only [Act.put, List.setIfInBounds_toArray, List.set_cons_zero, List.set_cons_succ]
      refine take_run 5 16 (v := ?_) rfl rfl (by kernel_rfl) (by kernel_rfl) (by kernel_rfl) (fun _ _ _ h => h) (by rfl) ?_ (by assumption) ?_
      rotate_left
      · (intro wq hSw; (try dsimp only at hSw); go_simp; first | done | with_reducible rfl)
      simp only [Act.put, List.setIfInBounds_toArray, List.set_cons_zero, List.set_cons_succ]
      refine take_run 6 17 (v := .int .u8 ((dl : UInt8).toNat : Int)) rfl rfl (by kernel_rfl) (by kernel_rfl) (by kernel_rfl) (fun _ _ _ h => h) (by rfl) (fun w _ => by refine exec_index 9 _ _ rfl _ _ _ rfl rfl w ?_; exact hl b w) (by assumption) ?_
      simp only [Act.put, List.setIfInBounds_toArray, List.set_cons_zero, List.set_cons_succ]
      refine wpAnyH_ready (rs := [7]) (by kernel_rfl) (by simp) ?_
      refine AllReadyH.cons rfl (fun K hK => ?_) AllReadyH.nil
      go_simp
      refine hK.out _ _ trivial (fun hHeld => ?_)
      clear hK K
      refine wpAnyH_ready (rs := [8]) (by kernel_rfl) (by simp) ?_
      refine AllReadyH.cons rfl (fun K hK => ?_) AllReadyH.nil
      obtain ⟨hO, hB⟩ := H.out
      refine step_bytes (.tmp 11) (.tmp 18) rfl rfl w.heap.size u3 (textL (x.1.take k)) ⟨wr.heap.size, 0, none⟩ 2 2 [dh, dl] rfl rfl (hO.below (((Below.refl _ wr).drew).alloc (Nat.le_refl _) _)) rfl ?_ ?_ ?_ ?_
      · intro j u hu
        have := (Box.made wr.drew 5 #[.int .u8 (dh.toNat : Int), .int .u8 (dl.toNat : Int)]).cell j
        rw [Addr.add_mid, Nat.zero_add]
        refine this.trans ?_
        simpa [bc] using hu
      · rw [textL_length, List.length_take, x.2]
        simp
        omega
      · have := hB.size
        simp
        omega
      · intro v3 w3 hO3 hg3
        refine hK.out _ _ trivial (fun hHeld => ?_)
        clear hK K
        refine wpAnyH_ready (rs := [9]) (by kernel_rfl) (by simp) ?_
        refine AllReadyH.cons rfl (fun K hK => ?_) AllReadyH.nil
        go_simp
        refine hK.out _ _ trivial (fun hHeld => ?_)
        clear hK K
        refine wpAnyH_done (by kernel_rfl) ?_ _
        go_wp2
        go_roundw
        case rel =>
          refine ⟨k + 1, by go_num, by omega, Lib.hid ⟨?_, ?_⟩⟩
          · have e : textL (x.1.take (k + 1)) = textL (x.1.take k) ++ [dh, dl] := by
              rw [List.take_add_one, hb, textL_append, ← HD.out.1, ← HD.out.2]
              simp [textL, dig2]
            rw [e]
            exact hO3
          · have hd : Below wr.heap.size wr (wr.drew.alloc (Obj.cells #[.int .u8 (dh.toNat : Int), .int .u8 (dl.toNat : Int)] 5)) := ((Below.refl _ wr).drew).alloc (Nat.le_refl _) _
            exact (hB.trans (hd.mono hB.size)).trans ((hO.below hd).changed hg3 (Nat.le_trans hB.size hd.size))
        case measure => simp [Lib.intOf]; omega
    · obtain rfl : k = 32 := by omega
      rw [List.take_of_length_le (by rw [x.2]; exact Nat.le_refl _)] at H
      obtain ⟨A, c, rfl, hl⟩ := H.out.1.lies
      have hcv := conv_lies hl
      have HB := Lib.hid H.out.2
      clear hl H
      go_wp2
      go_ret
      exact ⟨rfl, HB.out⟩
end Go.Proofs.Ytjnobakbjapfjaa
