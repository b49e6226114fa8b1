/-
  The reference's Read: the set of bytes.
-/
import Derived.Test.YtjnobakbjapfjaaRefOfPut
namespace Go.Proofs.Ytjnobakbjapfjaa
open Go.RowKit Go.Sort Go.Shelf
open Lay (St stSmall stSmallV stRaw stRawV stEnd stNum stNumV)

/-- The reference's reader, in a block. -/
def Rdj (w : World) (g : Nat) (q : St) : Prop := Box w g 61 #[.string ⟨q.1.toArray⟩, .int .i64 q.2]
/-- Within the loop: where the reader stands, what is read. -/
structure RAt (w w1 wr : World) (g : Nat) (q : St) (v : Value) (acc : List Id) : Prop where
  rds : Rdj wr g q
  own : OwnJ wr w1.heap.size v acc
  bel : Below w.heap.size w wr
  siz : w1.heap.size ≤ wr.heap.size
  low : w.heap.size ≤ g ∧ g < w1.heap.size
  err : q.2 = 0
  cnt : 32 * acc.length + q.1.length ≤ 4000

/-- A block laid, and written: all that lay lies. -/
theorem below_new {w w' : World} {o : Obj} (h : (w.alloc o).grownBy w' (some w.heap.size)) : Below w.heap.size w w' :=
  ((Below.refl _ w).alloc (Nat.le_refl _) o).grown h (by simp) (fun k hk => by cases hk; exact Nat.le_refl _)
/-- An operation that tells a value, and leaves the world. -/
theorem wpList_val {P : Program} {ops : Array Oper} {rest : List Oper} {o : Oper} {a : Act} {w : World} {Q : Exit → Act → World → Prop} (hg : o.guard = none) (v : Value) (hrun : (execOp a.eval o).run P w = .ok (.value v) w) (h : wpList P ops Q rest (a.put o.dst v) w) : wpList P ops Q (o :: rest) a w := by
  refine wpList_plain hg fun K hK => ?_
  unfold Oper.wp
  rw [hrun, Oper.upon_value]
  exact hK _ _ h
/-- The bytes so far, 0 behind them. -/
def filled (sv : List UInt8) (j : Nat) : List UInt8 := sv.take j ++ List.replicate (32 - j) 0
theorem filled_cell (sv : List UInt8) (j : Nat) (hs : sv.length = 32) (hj : j < 32) : (bc (filled sv j)).toArray[j]? = some (.int .u8 0) := by
  have e : (filled sv j)[j]? = some 0 := by
    unfold filled
    rw [List.getElem?_append_right (by rw [List.length_take]; omega), List.getElem?_replicate, if_pos (by rw [List.length_take]; omega)]
  simp [bc, e]
theorem filled_step (sv : List UInt8) (j : Nat) (u : UInt8) (hs : sv.length = 32) (hj : j < 32) (hu : sv[j]? = some u) : (bc (filled sv j)).toArray.setIfInBounds j (.int .u8 (u.toNat : Int)) = (bc (filled sv (j + 1))).toArray := by
  have e : (filled sv j).set j u = filled sv (j + 1) := by
    unfold filled
    have h1 : (sv.take j).length = j := by rw [List.length_take]; omega
    rw [List.set_append_right _ _ (by omega), h1, Nat.sub_self, show 32 - j = (32 - (j + 1)) + 1 by omega, List.replicate_succ, List.set_cons_zero, List.take_add_one, hu]
    simp
  rw [← e]
  simp [bc, List.map_set]
theorem filled_all (sv : List UInt8) (hs : sv.length = 32) : bc (filled sv 32) = enc (idOf sv) := by
  unfold filled
  rw [List.take_of_length_le (by omega), Nat.sub_self, List.replicate_zero, List.append_nil, enc, idOf, dif_pos hs]
theorem rawV_full {lq l2 : List UInt8} (h : stRaw 32 (lq, 0) = (l2, 0)) : (stRawV 32 (lq, 0)).length = 32 := by
  have h1 := raw_ok (lq, 0) rfl (by rw [h])
  rw [h] at h1
  unfold stRawV
  rw [if_pos rfl, if_neg (by omega), if_neg (by simp at h1 ⊢; omega), List.length_take]
  simp at h1 ⊢
  omega

set_option maxRecDepth 100000 in
set_option maxHeartbeats 2000000 in
theorem rread_says (l : List UInt8) (hl : l.length ≤ 4000) (most : Int) (hm : most ≤ 9223372036854775807) (w : World) : Calls Try.prog 14 #[.string ⟨l.toArray⟩, .int .i64 most] w (ReadPost l most w) := by
  obtain ⟨zi, hzi⟩ : ∃ z : Id, z = default := ⟨_, rfl⟩
  have hz : ∀ w, Sem.run Try.prog (zeroValue 22) w = Result.ok (Value.agg (enc zi).toArray) w := by
    have h0 : (Try.prog.info? 22).map (fun i => (i.zero, i.size)) = some (some (.agg (enc default).toArray), 32) := by kernel_rfl
    rw [hzi]
    exact (zero_of_info h0).1
  have hza := enc_size zi
  have HZ := Lib.hid hzi
  clear hzi
  have hS := Lay.refSmall_any (l, 0) w hl most hm
  unfold Lay.refV Lay.RefSm at hS
  dsimp only at hS
  obtain ⟨q1, hq1⟩ : ∃ q, stSmall most (l, 0) = q := ⟨_, rfl⟩
  obtain ⟨mn, hmn⟩ : ∃ m, stSmallV most (l, 0) = m := ⟨_, rfl⟩
  have hql : q1.1.length ≤ 4000 := by rw [← hq1]; exact Nat.le_trans (Lay.stSmall_len most (l, 0)) hl
  have hmn2 : mn ≤ 9223372036854775807 := by rw [← hmn]; exact smallV_le most (l, 0) hm
  rw [hq1, hmn] at hS
  have HMN := Lib.hid hmn
  have HQ1 := Lib.hid hq1
  clear hq1 hmn
  obtain ⟨l1, e1⟩ := q1
  dsimp only at hS hql
  go_enter Try.func14, Try.ntmps14
  go_wp2_with fail
  refine hS.mono ?_
  rintro e w1 ⟨rfl, hb1⟩
  have HB1 := Lib.hid hb1
  clear hb1 hS
  by_cases he : e1 = 0
  · subst he
    go_wp2_with fail
    have HRD := Lib.hid (show Rdj (w1.alloc (.cells #[.string ⟨l1.toArray⟩, .int .i64 0] 61)) w1.heap.size (l1, 0) from Box.made _ _ _)
    have HB2 := Lib.hid (HB1.out.alloc HB1.out.size (.cells #[.string ⟨l1.toArray⟩, .int .i64 0] 61))
    have HS2 := Lib.hid (show (w1.alloc (.cells #[.string ⟨l1.toArray⟩, .int .i64 0] 61)).heap.size = w1.heap.size + 1 from World.size_alloc _ _)
    generalize w1.alloc (.cells #[.string ⟨l1.toArray⟩, .int .i64 0] 61) = w2 at HRD HB2 HS2 ⊢
    have HLOW := Lib.hid HB1.out.size
    clear HB1
    generalize w1.heap.size = gr at HRD HS2 HLOW ⊢
    go_loopw [8, 9] (fun v8 v9 wr => ∃ (k : Nat) (q : St) (acc : List Id), v9 = .int .i64 (k : Int) ∧ k ≤ mn ∧ Hid (RAt w w2 wr gr q v8 acc ∧ rdIds mn (l1, 0) [] = rdIds (mn - k) q acc)) (fun _ v _ => mn - (Lib.intOf v).toNat)
    case atStart => exact ⟨0, (l1, 0), [], rfl, Nat.zero_le _, Lib.hid ⟨⟨HRD.out, OwnJ.nil _ _, HB2.out, Nat.le_refl _, ⟨HLOW.out, by have := HS2.out; omega⟩, rfl, by simpa using hql⟩, rfl⟩⟩
    case round =>
      obtain ⟨k, q, acc, rfl, hk, H⟩ := hrel
      obtain ⟨lq, eq⟩ := q
      obtain rfl : eq = 0 := H.out.1.err
      by_cases hlt : k < mn
      · have l1' : (k : Int) < (mn : Int) := by omega
        have c0 : wr.cell? ⟨gr, 0, none⟩ = some (.string ⟨lq.toArray⟩) := Box.cell H.out.1.rds 0
        have c1 : wr.cell? ⟨gr, 1, none⟩ = some (.int .i64 0) := Box.cell H.out.1.rds 1
        have hR := Lay.refRaw_any (lq, 0) wr (by have := H.out.1.cnt; simp at this ⊢; omega) 32
        unfold Lay.refV Lay.RefStr at hR
        dsimp only at hR
        obtain ⟨sv, hsv⟩ : ∃ s, stRawV 32 (lq, 0) = s := ⟨_, rfl⟩
        obtain ⟨q2, hq2⟩ : ∃ q', stRaw 32 (lq, 0) = q' := ⟨_, rfl⟩
        rw [hsv, hq2] at hR
        have HSV := Lib.hid (And.intro hsv hq2)
        clear hsv hq2
        obtain ⟨l2, e2⟩ := q2
        dsimp only at hR
        have HRAW := Lib.hid hR
        clear hR
        go_wp2_with fail
        refine HRAW.out.mono ?_
        rintro e w3 ⟨rfl, hb3⟩
        have HR3 := Lib.hid (show Rdj w3 gr (lq, 0) from Box.below H.out.1.rds hb3 (Box.lt H.out.1.rds))
        have HO3 := Lib.hid (H.out.1.own.below hb3)
        have HB3 := Lib.hid (H.out.1.bel.trans (hb3.mono H.out.1.bel.size))
        have HS3 := Lib.hid (Nat.le_trans H.out.1.siz hb3.size)
        clear hb3 c0 c1 HRAW
        go_upto_region 9 with fail
        have HR4 := Lib.hid (show Rdj (w3.alloc (.cells #[.string ⟨l2.toArray⟩, .int .i64 e2] 61)) gr (lq, 0) from Box.alloc HR3.out _)
        have HT4 := Lib.hid (show Rdj (w3.alloc (.cells #[.string ⟨l2.toArray⟩, .int .i64 e2] 61)) w3.heap.size (l2, e2) from Box.made _ _ _)
        have HO4 := Lib.hid (HO3.out.below ((Below.refl _ w3).alloc (Nat.le_refl _) (.cells #[.string ⟨l2.toArray⟩, .int .i64 e2] 61)))
        have HB4 := Lib.hid (HB3.out.alloc HB3.out.size (.cells #[.string ⟨l2.toArray⟩, .int .i64 e2] 61))
        have HS4 := Lib.hid (show w2.heap.size ≤ (w3.alloc (.cells #[.string ⟨l2.toArray⟩, .int .i64 e2] 61)).heap.size from by rw [World.size_alloc]; have := HS3.out; omega)
        have HG4 := Lib.hid (show w2.heap.size ≤ w3.heap.size from HS3.out)
        generalize w3.alloc (.cells #[.string ⟨l2.toArray⟩, .int .i64 e2] 61) = w4 at HR4 HT4 HO4 HB4 HS4 ⊢
        generalize w3.heap.size = g4 at HT4 HG4 ⊢
        clear HR3 HO3 HB3 HS3
        have c0 : w4.cell? ⟨gr, 0, none⟩ = some (.string ⟨lq.toArray⟩) := Box.cell HR4.out 0
        have c1 : w4.cell? ⟨gr, 1, none⟩ = some (.int .i64 0) := Box.cell HR4.out 1
        have f0 := Box.frozen HR4.out 0
        have f1 := Box.frozen HR4.out 1
        have d0 : w4.cell? ⟨g4, 0, none⟩ = some (.string ⟨l2.toArray⟩) := Box.cell HT4.out 0
        have d1 : w4.cell? ⟨g4, 1, none⟩ = some (.int .i64 e2) := Box.cell HT4.out 1
        go_upto_region 10 with fail
        have HR5 := Lib.hid (show Rdj ((w4.setCell ⟨gr, 0, none⟩ (.string ⟨l2.toArray⟩)).setCell ⟨gr, 1, none⟩ (.int .i64 e2)) gr (l2, e2) from Box.put (Box.put HR4.out 0 _) 1 _)
        have hgw : w4.grownBy ((w4.setCell ⟨gr, 0, none⟩ (.string ⟨l2.toArray⟩)).setCell ⟨gr, 1, none⟩ (.int .i64 e2)) (some gr) := grown_set (grown_set (grown_refl w4 _) 0 _) 1 _
        have HO5 := Lib.hid (HO4.out.grown hgw (fun e => by have h1 := (World.ownsRow.lt HO4.out _ e).1; have h2 := H.out.1.low.2; omega))
        have HB5 := Lib.hid (below_grown HB4.out hgw H.out.1.low.1 HB4.out.size)
        have HS5 := Lib.hid (Nat.le_trans HS4.out hgw.size)
        generalize (w4.setCell ⟨gr, 0, none⟩ (.string ⟨l2.toArray⟩)).setCell ⟨gr, 1, none⟩ (.int .i64 e2) = w5 at HR5 HO5 HB5 HS5 ⊢
        clear c0 c1 f0 f1 d0 d1 hgw HR4 HT4 HO4 HB4 HS4
        have c1 : w5.cell? ⟨gr, 1, none⟩ = some (.int .i64 e2) := Box.cell HR5.out 1
        have HST := Lib.hid (show rdIds mn (l1, 0) [] = rdIds (mn - (k + 1)) (l2, e2) (acc ++ [idOf sv]) from by rw [H.out.2, show mn - k = (mn - (k + 1)) + 1 by omega, rdIds, if_pos rfl, HSV.out.1, HSV.out.2])
        by_cases he2 : e2 = 0
        · subst he2
          go_upto_region 13 with fail
          have HLN := Lib.hid (show sv.length = 32 from by rw [← HSV.out.1]; exact rawV_full HSV.out.2)
          have HCN := Lib.hid (show 32 + l2.length ≤ lq.length from by have h1 := raw_ok (lq, 0) rfl (by rw [HSV.out.2]); rw [HSV.out.2] at h1; exact h1)
          have HG6 := Lib.hid (grown_refl (w5.alloc (Obj.cells (enc zi).toArray 22)) (some w5.heap.size))
          have HD6 := Lib.hid (show Box (w5.alloc (Obj.cells (enc zi).toArray 22)) w5.heap.size 22 (bc (filled sv 0)).toArray from by
            have e : enc zi = bc (filled sv 0) := by rw [HZ.out]; rfl
            rw [e]
            exact Box.made _ _ _)
          clear c1
          go_wp2_with fail
          go_loopw [13] (fun v wi => ∃ j : Nat, v = .int .i64 (j : Int) ∧ j ≤ 32 ∧ Hid (Box wi w5.heap.size 22 (bc (filled sv j)).toArray ∧ (w5.alloc (Obj.cells (enc zi).toArray 22)).grownBy wi (some w5.heap.size))) (fun v _ => 32 - (Lib.intOf v).toNat)
          case atStart => exact ⟨0, rfl, by omega, Lib.hid ⟨HD6.out, HG6.out⟩⟩
          case round =>
            obtain ⟨j, rfl, hj, HJ⟩ := hrel
            by_cases hj2 : j < 32
            · have l2' : (j : Int) < 32 := by omega
              obtain ⟨u, hu⟩ : ∃ u, sv[j]? = some u := ⟨_, List.getElem?_eq_getElem (by rw [HLN.out]; exact hj2)⟩
              have HI := Lib.hid (fun w => index_str sv j u hu .i64 w)
              have hc : wr.cell? ⟨w5.heap.size, j, none⟩ = some (.int .u8 0) := by rw [Box.cell HJ.out.1]; exact filled_cell sv j HLN.out hj2
              have hf := Box.frozen HJ.out.1 j
              have HP := Lib.hid (show Box _ w5.heap.size 22 (bc (filled sv (j + 1))).toArray from by rw [← filled_step sv j u HLN.out hj2 hu]; exact Box.put HJ.out.1 j (.int .u8 (u.toNat : Int)))
              have HQ := Lib.hid (grown_set HJ.out.2 j (.int .u8 (u.toNat : Int)))
              clear hu
              go_wp2_with (refine wpList_val rfl (.int .u8 (u.toNat : Int)) (by refine exec_index 9 _ _ rfl _ _ _ rfl rfl _ ?_; exact HI.out _) ?_)
              go_roundw
              case rel => exact ⟨j + 1, by go_num, by omega, Lib.hid ⟨HP.out, HQ.out⟩⟩
              case measure => simp [Lib.intOf]; omega
            · obtain rfl : j = 32 := by omega
              have l2' : ¬ ((32 : Nat) : Int) < 32 := by omega
              have hb7 := below_new HJ.out.2
              have HD7 := Lib.hid (show Box wr w5.heap.size 22 (enc (idOf sv)).toArray from by rw [← filled_all sv HLN.out]; exact HJ.out.1)
              have HR7 := Lib.hid (show Rdj wr gr (l2, 0) from Box.below HR5.out hb7 (Box.lt HR5.out))
              have HO7 := Lib.hid (HO5.out.below hb7)
              have HB7 := Lib.hid (HB5.out.trans (hb7.mono HB5.out.size))
              have HS7 := Lib.hid (Nat.le_trans HS5.out hb7.size)
              clear hb7 HJ
              go_wp2_with (first
                | (refine wpList_load_mid rfl 22 _ rfl w5.heap.size 0 rfl (enc (idOf sv)) _ (box_range HD7.out) Try.underlying22 rfl (infoJ _) ?_)
                | (refine wpList_build_j rfl 38 1 _ rfl Try.underlying38 [idOf sv] rfl (by omega) (by omega) (by go_simp) ?_; intro w8 hr8 hw8; have HR8 := Lib.hid hr8; have hb8 : Below wr.heap.size wr w8 := (by rw [hw8]; exact (Below.refl _ wr).alloc (Nat.le_refl _) _); have HO8 := Lib.hid (HO7.out.below hb8); have HQ8 := Lib.hid (show Rdj w8 gr (l2, 0) from Box.below HR7.out hb8 (Box.lt HR7.out)); have HB8 := Lib.hid (HB7.out.trans (hb8.mono HB7.out.size)); have HS8 := Lib.hid (Nat.le_trans HS7.out hb8.size); clear hr8 hw8 hb8)
                | (at_builtin; refine wpList_append_j w8 _ _ rfl rfl w2.heap.size _ acc (some ⟨wr.heap.size, 0, none⟩) 1 1 [idOf sv] rfl rfl HO8.out (box_ids HR8.out rfl (Nat.le_refl _)) rfl (by have := H.out.1.cnt; omega) HS8.out ?_; intro v9 w9 ho9 hg9))
              have HO9 := Lib.hid ho9
              have HQ9 := Lib.hid (show Rdj w9 gr (l2, 0) from Box.grown HQ8.out hg9 (fun e => by have h1 := (World.ownsRow.lt HO8.out _ e.symm).1; have h2 := H.out.1.low.2; omega))
              have HB9 := Lib.hid (HB8.out.trans ((HO8.out.changed hg9 HS8.out).mono (Nat.le_trans H.out.1.low.1 (Nat.le_of_lt H.out.1.low.2))))
              have HS9 := Lib.hid (Nat.le_trans HS8.out hg9.size)
              clear ho9 hg9
              go_wp2
              go_roundw
              case rel => exact ⟨k + 1, (l2, 0), acc ++ [idOf sv], by go_num, by omega, Lib.hid ⟨⟨HQ9.out, HO9.out, HB9.out, HS9.out, H.out.1.low, rfl, by have h1 := H.out.1.cnt; have h2 := HCN.out; rw [List.length_append, List.length_singleton]; simp at h1 ⊢; omega⟩, HST.out⟩⟩
              case measure => simp [Lib.intOf]; omega
        · have hd : (e2 != 0) = true := by simpa using he2
          go_wp2_with fail
          go_quiet (fail)
          go_wp2
          refine bodyPost_ret (results_tmp2 rfl _ _ _) rfl ⟨none, 0, 0, ?_, ?_, HB5.out.trans (below_drewN_w _ _ _)⟩
          · have hend : stEnd (l2, e2) = e2 := by simp [stEnd, he2]
            rw [readL_err HMN.out HQ1.out (HST.out.trans (rdIds_bad _ _ _ he2)) (by rw [hend]; exact he2), hend]
            rfl
          · have hend : stEnd (l2, e2) = e2 := by simp [stEnd, he2]
            rw [readL_err HMN.out HQ1.out (HST.out.trans (rdIds_bad _ _ _ he2)) (by rw [hend]; exact he2)]
            exact Ids.nil _ _ _
      · obtain rfl : mn = k := by omega
        have l1' : ¬ (mn : Int) < (mn : Int) := by omega
        have HEQ := Lib.hid (show rdIds mn (l1, 0) [] = (acc, (lq, 0)) from by rw [H.out.2, Nat.sub_self]; rfl)
        have c0 : wr.cell? ⟨gr, 0, none⟩ = some (.string ⟨lq.toArray⟩) := Box.cell H.out.1.rds 0
        have c1 : wr.cell? ⟨gr, 1, none⟩ = some (.int .i64 0) := Box.cell H.out.1.rds 1
        have hE := Lay.refEnd_any (lq, 0) wr
        unfold Lay.refV at hE
        dsimp only at hE
        obtain ⟨en, hen⟩ : ∃ e, stEnd (lq, 0) = e := ⟨_, rfl⟩
        rw [hen] at hE
        have HEN := Lib.hid hen
        clear hen
        go_wp2_with fail
        refine hE.mono ?_
        rintro e w8 ⟨rfl, hw8⟩
        have hb8 : Below wr.heap.size wr w8 := by rw [← hw8]; exact (Below.refl _ wr).alloc (Nat.le_refl _) _
        have HB8 := Lib.hid hb8
        clear hw8 hb8 hE c0 c1
        by_cases he : en = 0
        · subst he
          obtain ⟨A3, c3, rfl, hi⟩ := H.out.1.own.ids
          have HI := Lib.hid hi
          have hcn : acc.length ≤ 1000 := by have := H.out.1.cnt; omega
          have HI8 := Lib.hid (hi.below HB8.out (Nat.le_refl _))
          clear hi
          obtain ⟨r, hr⟩ : ∃ r, rightL acc = r := ⟨_, rfl⟩
          go_wp2_with fail
          refine (rof_says w8 A3 acc.length c3 acc HI8.out hcn).mono ?_
          rintro e w9 ⟨A9, n9, c9, rfl, hi9, _, hb9⟩
          have HI9 := Lib.hid hi9
          have HI39 := Lib.hid (HI8.out.below hb9 (Nat.le_refl _))
          have HB9 := Lib.hid (HB8.out.trans (hb9.mono HB8.out.size))
          clear hi9 hb9
          have hq := rsame_says w9 A3 acc.length c3 acc HI39.out A9 n9 c9 (ofL acc) HI9.out hcn
          rw [show decide (acc = ofL acc) = r from by rw [← hr, rightL]; exact decide_eq_decide.2 ⟨fun h => by rw [h]; exact ofL_rises _, fun h => (ofL_self h).symm⟩] at hq
          go_wp2_with fail
          refine hq.mono ?_
          rintro e w10 ⟨rfl, hb10⟩
          have HI10 := Lib.hid (HI39.out.below hb10 (Nat.le_refl _))
          have HB10 := Lib.hid (H.out.1.bel.trans ((HB9.out.trans (hb10.mono HB9.out.size)).mono H.out.1.bel.size))
          clear hb10 hq
          cases r with
          | true =>
            go_wp2
            refine bodyPost_ret (results_tmp2 rfl _ _ _) rfl ⟨A3, acc.length, c3, ?_, ?_, HB10.out⟩
            · rw [readL_ok HMN.out HQ1.out HEQ.out HEN.out hr]
              rfl
            · rw [readL_ok HMN.out HQ1.out HEQ.out HEN.out hr]
              exact HI10.out
          | false =>
            go_wp2
            refine bodyPost_ret (results_tmp2 rfl _ _ _) rfl ⟨none, 0, 0, ?_, ?_, HB10.out⟩
            · rw [readL_form HMN.out HQ1.out HEQ.out HEN.out hr]
              rfl
            · rw [readL_form HMN.out HQ1.out HEQ.out HEN.out hr]
              exact Ids.nil _ _ _
        · have hd : (en != 0) = true := by simpa using he
          have h11 : en = 11 := by
            have := HEN.out
            unfold stEnd at this
            rw [if_pos rfl] at this
            split at this
            · exact absurd this.symm he
            · exact this.symm
          have HRL := Lib.hid (readL_err HMN.out HQ1.out HEQ.out (by rw [HEN.out]; exact he))
          rw [HEN.out, h11] at HRL
          go_wp2
          refine bodyPost_ret (results_tmp2 rfl _ _ _) rfl ⟨none, 0, 0, ?_, ?_, H.out.1.bel.trans (HB8.out.mono H.out.1.bel.size)⟩
          · rw [HRL.out]
            rfl
          · rw [HRL.out]
            exact Ids.nil _ _ _
  · have hd : (e1 != 0) = true := by simpa using he
    have hend : stEnd (l1, e1) = e1 := by simp [stEnd, he]
    have HRL := Lib.hid (readL_err HMN.out HQ1.out (rdIds_bad _ _ _ he) (by rw [hend]; exact he))
    rw [hend] at HRL
    have HB2 := Lib.hid (HB1.out.alloc HB1.out.size (.cells #[.string ⟨l1.toArray⟩, .int .i64 e1] 61))
    go_wp2_with fail
    go_quiet (fail)
    go_wp2
    refine bodyPost_ret (results_tmp2 rfl _ _ _) rfl ⟨none, 0, 0, ?_, ?_, HB2.out.trans (below_drewN_w _ _ _)⟩
    · rw [HRL.out]
      rfl
    · rw [HRL.out]
      exact Ids.nil _ _ _
end Go.Proofs.Ytjnobakbjapfjaa
