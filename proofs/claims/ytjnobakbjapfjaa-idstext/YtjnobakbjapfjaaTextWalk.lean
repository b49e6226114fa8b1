/-
  IdsText, walked.
-/
import Derived.Test.YtjnobakbjapfjaaParse
namespace Go.Proofs.Ytjnobakbjapfjaa
open Go.RowKit Go.Sort Go.Shelf

theorem digs_inj : ∀ i j : Fin 16, digs.getD i.val 0 = digs.getD j.val 0 → i = j := by decide
theorem dig2_inj {a b : UInt8} (h : dig2 a = dig2 b) : a = b := by
  have ha := a.toNat_lt
  have hb := b.toNat_lt
  simp only [dig2, List.cons.injEq, and_true] at h
  have h1 := digs_inj ⟨a.toNat / 16, by omega⟩ ⟨b.toNat / 16, by omega⟩ h.1
  have h2 := digs_inj ⟨a.toNat % 16, by omega⟩ ⟨b.toNat % 16, by omega⟩ h.2
  simp only [Fin.mk.injEq] at h1 h2
  exact UInt8.toNat_inj.1 (by omega)
theorem textL_inj : ∀ {l m : List UInt8}, textL l = textL m → l = m
  | [], [], _ => rfl
  | [], b :: m, h => by simp [textL, dig2] at h
  | a :: l, [], h => by simp [textL, dig2] at h
  | a :: l, b :: m, h => by
    have h' : dig2 a ++ textL l = dig2 b ++ textL m := by simpa [textL] using h
    obtain ⟨h1, h2⟩ := List.append_inj h' (by simp [dig2])
    rw [dig2_inj h1, textL_inj h2]
theorem parses_text {a x : Id} {f : Int} (h : Parses (textL a.1) x f) : f = 0 ∧ x = a := by
  rcases h with ⟨h1, h2⟩ | ⟨_, _, h3⟩
  · exact ⟨h1, Subtype.ext (textL_inj h2)⟩
  · exact absurd rfl (h3 a)

theorem exec_build {P : Program} {a : Act} {o : Oper} (t : TypeId) (parts : Array (Nat × Operand)) (ho : o.op = .build t parts) (cells : Array Value) (hb : P.built t (parts.map fun (i, x) => (i, a.eval x)).toList = some cells) (w : World) : (execOp a.eval o).run P w = .ok (.value (.agg cells)) w := by
  unfold execOp
  simp only [ho, Sem.run_bind, run_build w t _ _ hb, Result.andThen_ok, Sem.run_pure]

set_option maxRecDepth 100000 in
set_option maxHeartbeats 4000000 in
theorem idsText_walk (a b : Id) (s : List UInt8) (w : World) (hsl : s.length ≤ 9223372036854775807) : Calls Try.prog 3 #[.agg (enc a).toArray, .agg (enc b).toArray, .string ⟨s.toArray⟩] w fun e w' => e = .returned (.bool true) ∧ Below w.heap.size w w' := by
  have hz := (zero_of_info idZero).1
  have hza := enc_size (default : Id)
  have hb0 := built_0
  obtain ⟨zi, hzi⟩ : ∃ z : Id, z = default := ⟨_, rfl⟩
  rw [← hzi] at hz hza hb0
  have HB := Lib.hid hb0
  have HZ := Lib.hid hzi
  clear hb0 hzi
  have hsa := enc_size a
  have hsb := enc_size b
  have hsz : (⟨s.toArray⟩ : ByteArray).size = s.length := str_size s
  go_enter Try.func3, Try.ntmps3
  by_cases h200 : 200 < s.length
  · have h200' : (200 : Int) < (s.length : Int) := by omega
    go_wp2
    go_ret
    exact ⟨rfl, ((Below.refl w.heap.size w).alloc (Nat.le_refl _) _).alloc (by simp) _⟩
  · have h200' : ¬ (200 : Int) < (s.length : Int) := by omega
    obtain ⟨t, ht⟩ : ∃ t, textL a.1 = t := ⟨_, rfl⟩
    have htl : t.length ≤ 1000 := by rw [← ht, textL_length, a.2]; omega
    have hT := fun w => text_says a w
    rw [ht] at hT
    have hP1 := fun w => parse_says t htl w
    have hP2 := fun w => parse_says s (by omega) w
    go_wp2_with (refine wpList_load_mid rfl 23 _ rfl w.heap.size 0 rfl (enc a) _ (World.rangeAt_alloc (boxed1 w a) _) Try.underlying23 rfl (infoId a) ?_)
    refine (hT _).mono ?_
    rintro e w1 ⟨rfl, hb1⟩
    have HA1 := Lib.hid (Box.below ((Box.made w 23 (enc a).toArray).alloc (Obj.cells (enc b).toArray 23)) hb1 (by simp; omega))
    have HB1 := Lib.hid (Box.below (box2 w a b) hb1 (by simp))
    have HG1 := Lib.hid ((((Below.refl w.heap.size w).alloc (Nat.le_refl _) (Obj.cells (enc a).toArray 23)).alloc (by simp) (Obj.cells (enc b).toArray 23)).trans (hb1.mono (by simp; omega)))
    clear hb1
    go_wp2_with fail
    refine (hP1 w1).mono ?_
    rintro e w2 ⟨x, f, rfl, hp, hb2⟩
    have HP := Lib.hid hp
    have HA2 := Lib.hid (Box.below HA1.out hb2 (Box.lt HA1.out))
    have HB2 := Lib.hid (Box.below HB1.out hb2 (Box.lt HB1.out))
    have HG2 := Lib.hid (HG1.out.trans (hb2.mono HG1.out.size))
    clear hp hb2
    go_wp2_with (refine wpList_store_box rfl _ _ rfl w2.heap.size x zi rfl rfl (Box.made w2 _ _) ?_; intro w3 hb3 hg3)
    have HX3 := Lib.hid hb3
    have HA3 := Lib.hid (Box.grown (HA2.out.alloc _) hg3 (by have := Box.lt HA2.out; simp; omega))
    have HB3 := Lib.hid (Box.grown (HB2.out.alloc _) hg3 (by have := Box.lt HB2.out; simp; omega))
    have HG3 := Lib.hid (below_grown (HG2.out.alloc HG2.out.size _) hg3 HG2.out.size (by simp; exact Nat.le_succ_of_le HG2.out.size))
    have HL3 := Lib.hid (show w2.heap.size < w3.heap.size from Box.lt hb3)
    clear hb3 hg3
    obtain ⟨rfl, hxa⟩ := parses_text (a := a) (by rw [ht]; exact HP.out)
    obtain rfl : a = x := hxa.symm
    clear HP
    generalize w2.heap.size = g8 at HX3 HL3 ⊢
    refine (hP2 w3).mono ?_
    rintro e w4 ⟨y, f2, rfl, hp, hb4⟩
    have HQ := Lib.hid hp
    have HX4 := Lib.hid (Box.below HX3.out hb4 (Box.lt HX3.out))
    have HA4 := Lib.hid (Box.below HA3.out hb4 (Box.lt HA3.out))
    have HB4 := Lib.hid (Box.below HB3.out hb4 (Box.lt HB3.out))
    have HG4 := Lib.hid (HG3.out.trans (hb4.mono HG3.out.size))
    clear hp hb4
    go_wp2_with (refine wpList_store_box rfl _ _ rfl w4.heap.size y zi rfl rfl (Box.made w4 _ _) ?_; intro w5 hb5 hg5)
    have HRY := Lib.hid (box_range hb5)
    have HLY := Lib.hid (Box.lt hb5)
    have HX5 := Lib.hid (Box.grown (HX4.out.alloc _) hg5 (by have := Box.lt HX4.out; simp; omega))
    have HA5 := Lib.hid (Box.grown (HA4.out.alloc _) hg5 (by have := Box.lt HA4.out; simp; omega))
    have HB5 := Lib.hid (Box.grown (HB4.out.alloc _) hg5 (by have := Box.lt HB4.out; simp; omega))
    have HG5 := Lib.hid (below_grown (HG4.out.alloc HG4.out.size _) hg5 HG4.out.size (by simp; exact Nat.le_succ_of_le HG4.out.size))
    have HRX := Lib.hid (box_range HX5.out)
    have HLX := Lib.hid (Box.lt HX5.out)
    have HRA := Lib.hid (box_range HA5.out)
    have HLA := Lib.hid (Box.lt HA5.out)
    have HRB := Lib.hid (box_range HB5.out)
    have HLB := Lib.hid (Box.lt HB5.out)
    clear hb5 hg5 HX3 HX4 HA4 HB4 HG4 HA3 HB3 HG3 HA2 HB2 HG2 HA1 HB1 HG1 HL3
    generalize w4.heap.size = g10 at HRY HLY ⊢
    have hRT : ∀ p : Grows w5, Calls Try.prog 9 #[.agg (enc a).toArray] p.val fun e w'' => e = .returned (.string ⟨t.toArray⟩) ∧ ∃ p' : Grows w5, w'' = p'.val := fun p => by
      have h := rtext_says a p.val
      rw [ht] at h
      exact Calls.grows h
    obtain ⟨r, hr⟩ : ∃ r, ltId a b = r := ⟨_, rfl⟩
    have hL : ∀ p : Grows w5, Calls Try.prog 10 #[.agg (enc a).toArray, .agg (enc b).toArray] p.val fun e w'' => e = .returned (.bool r) ∧ ∃ p' : Grows w5, w'' = p'.val := fun p => by
      have h := less_says a b p.val
      rw [hr] at h
      exact Calls.grows h
    have hRL : ∀ p : Grows w5, Calls Try.prog 11 #[.agg (enc a).toArray, .agg (enc b).toArray] p.val fun e w'' => e = .returned (.bool r) ∧ ∃ p' : Grows w5, w'' = p'.val := fun p => by
      have h := rless_says a b p.val
      rw [hr] at h
      exact Calls.grows h
    have h1 : ∀ p : Grows w5, Calls Try.prog 12 #[] p.val fun e w'' => e = .returned (.bool true) ∧ ∃ p' : Grows w5, w'' = p'.val := fun p => Calls.grows (one_says p.val)
    clear hr ht hT hP1 hP2
    rcases HQ.out with ⟨rfl, hy⟩ | ⟨rfl, hy, _⟩
    · have hTY : ∀ p : Grows w5, Calls Try.prog 7 #[.agg (enc y).toArray] p.val fun e w'' => e = .returned (.string ⟨s.toArray⟩) ∧ ∃ p' : Grows w5, w'' = p'.val := fun p => by
        have h := text_says y p.val
        rw [hy] at h
        exact Calls.grows h
      clear hy HQ
      refine wp_region_grows (by kernel_rfl) (by kernel_rfl) ?_
      repeat (first
        | (with_reducible refine wpQuiet_no ?_ ?_; (· first | (go_simp; done) | (go_simp; simp [undef]; done)); simp only [Act.put, List.setIfInBounds_toArray, List.set_cons_zero, List.set_cons_succ])
        | (refine wpQuiet_load_yes (by go_simp; done) 23 _ rfl w.heap.size 0 rfl (enc a) _ (range_grows HRA.out HLA.out) Try.underlying23 rfl (infoId _) ?_; simp only [Act.put, List.setIfInBounds_toArray, List.set_cons_zero, List.set_cons_succ])
        | (refine wpQuiet_load_yes (by go_simp; done) 23 _ rfl (w.heap.size + 1) 0 rfl (enc b) _ (range_grows HRB.out HLB.out) Try.underlying23 rfl (infoId _) ?_; simp only [Act.put, List.setIfInBounds_toArray, List.set_cons_zero, List.set_cons_succ])
        | (refine wpQuiet_load_yes (by go_simp; done) 23 _ rfl g8 0 rfl (enc a) _ (range_grows HRX.out HLX.out) Try.underlying23 rfl (infoId _) ?_; simp only [Act.put, List.setIfInBounds_toArray, List.set_cons_zero, List.set_cons_succ])
        | (refine wpQuiet_load_yes (by go_simp; done) 23 _ rfl g10 0 rfl (enc y) _ (range_grows HRY.out HLY.out) Try.underlying23 rfl (infoId _) ?_; simp only [Act.put, List.setIfInBounds_toArray, List.set_cons_zero, List.set_cons_succ])
        | (refine wpQuiet_eql_yes (by go_simp; done) _ _ rfl a a true (by simp) rfl rfl ?_; simp only [Act.put, List.setIfInBounds_toArray, List.set_cons_zero, List.set_cons_succ])
        | (refine wpQuiet_eql_yes (by go_simp; done) _ _ rfl y y true (by simp) rfl rfl ?_; simp only [Act.put, List.setIfInBounds_toArray, List.set_cons_zero, List.set_cons_succ])
        | quiet_step (first | (go_at_call 9; exact hRT _) | (go_at_call 10; exact hL _) | (go_at_call 11; exact hRL _) | (go_at_call 7; exact hTY _) | (go_at_call 12; exact h1 _)))
      refine wpQuiet_nil ?_
      rintro w6 ⟨⟨_, hw6⟩, rfl⟩
      go_wp2
      go_ret
      exact ⟨rfl, HG5.out.trans (hw6.mono HG5.out.size)⟩
    · obtain rfl : y = zi := hy.trans HZ.out.symm
      clear hy HQ
      refine wp_region_grows (by kernel_rfl) (by kernel_rfl) ?_
      repeat (first
        | (with_reducible refine wpQuiet_no ?_ ?_; (· first | (go_simp; done) | (go_simp; simp [undef]; done)); simp only [Act.put, List.setIfInBounds_toArray, List.set_cons_zero, List.set_cons_succ])
        | (refine wpQuiet_load_yes (by go_simp; done) 23 _ rfl w.heap.size 0 rfl (enc a) _ (range_grows HRA.out HLA.out) Try.underlying23 rfl (infoId _) ?_; simp only [Act.put, List.setIfInBounds_toArray, List.set_cons_zero, List.set_cons_succ])
        | (refine wpQuiet_load_yes (by go_simp; done) 23 _ rfl (w.heap.size + 1) 0 rfl (enc b) _ (range_grows HRB.out HLB.out) Try.underlying23 rfl (infoId _) ?_; simp only [Act.put, List.setIfInBounds_toArray, List.set_cons_zero, List.set_cons_succ])
        | (refine wpQuiet_load_yes (by go_simp; done) 23 _ rfl g8 0 rfl (enc a) _ (range_grows HRX.out HLX.out) Try.underlying23 rfl (infoId _) ?_; simp only [Act.put, List.setIfInBounds_toArray, List.set_cons_zero, List.set_cons_succ])
        | (refine wpQuiet_load_yes (by go_simp; done) 23 _ rfl g10 0 rfl (enc y) _ (range_grows HRY.out HLY.out) Try.underlying23 rfl (infoId _) ?_; simp only [Act.put, List.setIfInBounds_toArray, List.set_cons_zero, List.set_cons_succ])
        | (refine wpQuiet_eql_yes (by go_simp; done) _ _ rfl a a true (by simp) rfl rfl ?_; simp only [Act.put, List.setIfInBounds_toArray, List.set_cons_zero, List.set_cons_succ])
        | (refine wpQuiet_eql_yes (by go_simp; done) _ _ rfl y y true (by simp) rfl rfl ?_; simp only [Act.put, List.setIfInBounds_toArray, List.set_cons_zero, List.set_cons_succ])
        | (refine wpQuiet_val (by go_simp; done) (.agg (enc y).toArray) (fun w => ?_) ?_; (· (refine exec_build 23 _ rfl _ ?_ w; go_simp; with_reducible exact HB.out)); simp only [Act.put, List.setIfInBounds_toArray, List.set_cons_zero, List.set_cons_succ])
        | quiet_step (first | (go_at_call 9; exact hRT _) | (go_at_call 10; exact hL _) | (go_at_call 11; exact hRL _) | (go_at_call 12; exact h1 _)))
      refine wpQuiet_nil ?_
      rintro w6 ⟨⟨_, hw6⟩, rfl⟩
      go_wp2
      go_ret
      exact ⟨rfl, HG5.out.trans (hw6.mono HG5.out.size)⟩
end Go.Proofs.Ytjnobakbjapfjaa
