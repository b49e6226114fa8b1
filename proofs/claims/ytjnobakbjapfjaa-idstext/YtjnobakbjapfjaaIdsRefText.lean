/-
  The reference's Text.
-/
import Derived.Test.YtjnobakbjapfjaaIdsRef
namespace Go.Proofs.Ytjnobakbjapfjaa
open Go.RowKit Go.Sort Go.Shelf

/-- An operation whose value hangs on no memory. -/
theorem wpQuiet_val {P : Program} {ops : Array Oper} {C : World → Prop} {K : Act → Prop} {o : Oper} {rest : List Oper} {a : Act} (hw : Region.wanted o (yielded ops a.tmps) = true) (v : Value) (hy : ∀ w, (execOp a.eval o).run P w = .ok (.value v) w)
    (h : wpQuiet P ops C K rest (a.put o.dst v)) : wpQuiet P ops C K (o :: rest) a := by
  simp only [wpQuiet, hw, if_true, Oper.quiet, Oper.quietAt]
  refine ⟨_, fun w hC => ?_, h⟩
  rw [hy w]
  exact ⟨rfl, rfl⟩
theorem exec_slice {P : Program} {a : Act} {o : Oper} (T : TypeId) (x y z : Operand) (ho : o.op = .slice T x (some y) (some z) none) (xv yv zv v : Value) (hx : a.eval x = xv) (hy : a.eval y = yv) (hz : a.eval z = zv) (w : World) (h : (Instr.sliceAt T xv (some yv) (some zv) none).run P w = .ok v w) : (execOp a.eval o).run P w = .ok (.value v) w := by
  unfold execOp
  simp only [ho, hx, hy, hz, Sem.run_bind, Option.map_some, Option.map_none, h, Result.andThen_ok, Sem.run_pure]
/-- One digit, cut out of all. -/
theorem cut_dig (k : Nat) (hk : k < 16) (d : UInt8) (h : digs.getD k 0 = d) (i j : Int) (hi : i = (k : Int)) (hj : j = (k : Int) + 1) (w : World) :
    (Instr.sliceAt 9 (.string ⟨#[48, 49, 50, 51, 52, 53, 54, 55, 56, 57, 97, 98, 99, 100, 101, 102]⟩) (some (.int .u8 i)) (some (.int .u8 j)) none).run Try.prog w = .ok (.string ⟨[d].toArray⟩) w := by
  subst hi hj
  have hs : (⟨#[48, 49, 50, 51, 52, 53, 54, 55, 56, 57, 97, 98, 99, 100, 101, 102]⟩ : ByteArray).size = 16 := rfl
  rw [run_sliceAt_string w 9 _ _ _ _ Try.underlying9, run_slice_string_if w 9 _ _ _ _ _ Try.underlying9, if_pos ⟨by omega, by rw [hs]; omega⟩, if_pos ⟨by omega, by omega⟩]
  have e : ∀ k : Fin 16, (⟨#[48, 49, 50, 51, 52, 53, 54, 55, 56, 57, 97, 98, 99, 100, 101, 102]⟩ : ByteArray).extract k.val (k.val + 1) = ⟨[digs.getD k.val 0].toArray⟩ := by decide
  have := e ⟨k, hk⟩
  simp only at this
  rw [show ((k : Int) + 1).toNat = k + 1 by omega, Int.toNat_natCast, this, h]

set_option maxRecDepth 100000 in
set_option maxHeartbeats 2000000 in
theorem rtext_says (x : Id) (w : World) : Calls Try.prog 9 #[.agg (enc x).toArray] w fun e w' => e = .returned (.string ⟨(textL x.1).toArray⟩) ∧ Below w.heap.size w w' := by
  have hsz := enc_size x
  go_enter Try.func9, Try.ntmps9
  go_wp2
  have H0 := Lib.hid (Box.made w 22 (enc x).toArray)
  have HB0 := Lib.hid ((Below.refl w.heap.size w).alloc (Nat.le_refl _) (Obj.cells (enc x).toArray 22))
  generalize w.alloc (Obj.cells (enc x).toArray 22) = w1 at H0 HB0 ⊢
  go_loopw [3, 4] (fun v3 v wr => ∃ k : Nat, v = .int .i64 (k : Int) ∧ k ≤ 32 ∧ v3 = .string ⟨(textL (x.1.take k)).toArray⟩ ∧ Hid (Box wr w.heap.size 22 (enc x).toArray ∧ Below w.heap.size w wr)) (fun _ v _ => 32 - (Lib.intOf v).toNat)
  case atStart => exact ⟨0, rfl, by omega, rfl, Lib.hid ⟨H0.out, HB0.out⟩⟩
  case round =>
    obtain ⟨k, rfl, hk, rfl, H⟩ := hrel
    by_cases hlt : k < 32
    · have l1 : (k : Int) < 32 := by omega
      obtain ⟨b, hb⟩ : ∃ b, x.1[k]? = some b := ⟨_, List.getElem?_eq_getElem (by rw [x.2]; exact hlt)⟩
      have c1 := byte_cell H.out.1 hb
      have HT : Hid (textL (x.1.take (k + 1)) = textL (x.1.take k) ++ dig2 b) := Lib.hid (by rw [List.take_add_one, hb, textL_append]; simp [textL])
      have hbl := b.toNat_lt
      obtain ⟨dh, hdh⟩ : ∃ d, digs.getD (b.toNat / 16) 0 = d := ⟨_, rfl⟩
      obtain ⟨dl, hdl⟩ : ∃ d, digs.getD (b.toNat % 16) 0 = d := ⟨_, rfl⟩
      obtain ⟨nh, hnh⟩ : ∃ n, b.toNat / 16 = n := ⟨_, rfl⟩
      obtain ⟨nl, hnl⟩ : ∃ n, b.toNat % 16 = n := ⟨_, rfl⟩
      rw [hnh] at hdh
      rw [hnl] at hdl
      have HC := Lib.hid (And.intro (cut_dig nh (by omega) dh hdh _ _ rfl rfl) (cut_dig nl (by omega) dl hdl _ _ rfl rfl))
      have e1 : IntKind.u8.wrap ((b.toNat : Int) / 16) = (nh : Int) := by rw [IntKind.wrap_u8]; omega
      have e2 : IntKind.u8.wrap ((nh : Int) + 1) = (nh : Int) + 1 := by rw [IntKind.wrap_u8]; omega
      have e3 : (b.toNat : Int).tmod 16 = (nl : Int) := by rw [Int.tmod_eq_emod_of_nonneg (by omega)]; omega
      have e4 : IntKind.u8.wrap ((nl : Int) + 1) = (nl : Int) + 1 := by rw [IntKind.wrap_u8]; omega
      have HD : Hid (dig2 b = [dh, dl]) := Lib.hid (by rw [dig2, hnh, hnl, hdh, hdl])
      clear hdh hdl hb hnh hnl
      obtain ⟨T, hT⟩ : ∃ T, textL (x.1.take k) = T := ⟨_, rfl⟩
      have hTl : T.length = 2 * k := by rw [← hT, textL_length, List.length_take, x.2]; omega
      rw [hT] at HT ⊢
      obtain ⟨T2, hT2⟩ : ∃ T2, T ++ [dh] = T2 := ⟨_, rfl⟩
      obtain ⟨T3, hT3⟩ : ∃ T3, T2 ++ [dl] = T3 := ⟨_, rfl⟩
      have e5 : ({ data := T.toArray } : ByteArray) ++ { data := #[dh] } = { data := T2.toArray } := by rw [← hT2]; exact str_append T [dh]
      have e6 : ({ data := T2.toArray } : ByteArray) ++ { data := #[dl] } = { data := T3.toArray } := by rw [← hT3]; exact str_append T2 [dl]
      have t1 : ¬ 9223372036854775807 < T.length + 1 := by omega
      have t2 : ¬ 9223372036854775807 < T2.length + 1 := by rw [← hT2, List.length_append]; simp; omega
      have HT3 : Hid (textL (x.1.take (k + 1)) = T3) := Lib.hid (by rw [HT.out, HD.out, ← hT3, ← hT2]; simp)
      clear hT hTl hT2 hT3
      go_wp2_with fail
      refine wp_region_quiet_lit (by kernel_rfl) (by kernel_rfl) ?_
      repeat (first
        | (refine wpQuiet_val (by rfl) (.string ⟨[dh].toArray⟩) (fun w => ?_) ?_; · (refine exec_slice 9 _ _ _ rfl _ _ _ _ rfl rfl rfl w ?_; exact HC.out.1 w))
        | (refine wpQuiet_val (by rfl) (.string ⟨[dl].toArray⟩) (fun w => ?_) ?_; · (refine exec_slice 9 _ _ _ rfl _ _ _ _ rfl rfl rfl w ?_; exact HC.out.2 w))
        | quiet_step (fail))
      refine wpQuiet_nil ?_
      rintro w2 ⟨nq, rfl⟩
      go_wp2
      go_roundw
      case rel => exact ⟨k + 1, by go_num, by omega, by rw [HT3.out], Lib.hid ⟨H.out.1, H.out.2.trans (below_drewN_w _ _ _)⟩⟩
      case measure => simp [Lib.intOf]; omega
    · obtain rfl : k = 32 := by omega
      go_wp2
      go_ret
      refine ⟨?_, H.out.2⟩
      rw [List.take_of_length_le (by rw [x.2]; exact Nat.le_refl _)]
      rfl
end Go.Proofs.Ytjnobakbjapfjaa
