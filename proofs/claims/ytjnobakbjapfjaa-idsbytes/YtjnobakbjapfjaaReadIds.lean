/-
  The set of bytes: the contract of ids.Read.
-/
import Derived.Test.YtjnobakbjapfjaaChosen
import Derived.Test.YtjnobakbjapfjaaLText
import Derived.Deep.WholeRow
namespace Go.Proofs.Ytjnobakbjapfjaa
open Go.RowKit Go.Sort Go.Shelf
open Lay (St stSmall stSmallV stRaw stRawV stEnd Rds)

/-- The id of 32 bytes; of any other bytes the one of noughts. -/
def idOf (l : List UInt8) : Id := if h : l.length = 32 then ⟨l, h⟩ else default
/-- So many ids are read, as long as there is no error. -/
def rdIds : Nat → St → List Id → List Id × St
  | 0, q, acc => (acc, q)
  | k + 1, q, acc => if q.2 = 0 then rdIds k (stRaw 32 q) (acc ++ [idOf (stRawV 32 q)]) else (acc, q)
/-- What Read tells. -/
def readL (l : List UInt8) (most : Int) : List Id × Int :=
  let r := rdIds (stSmallV most (l, 0)) (stSmall most (l, 0)) []
  if stEnd r.2 ≠ 0 then ([], stEnd r.2) else if rightL r.1 then (r.1, 0) else ([], 11)
def ReadPost (l : List UInt8) (most : Int) (w : World) (e : Ending) (w' : World) : Prop := ∃ A n c, e = .returned (.tuple #[.slice A n c, .int .i64 (readL l most).2]) ∧ Ids w' A n c (readL l most).1 ∧ Below w.heap.size w w'

theorem rdIds_bad (k : Nat) (q : St) (acc : List Id) (h : q.2 ≠ 0) : rdIds k q acc = (acc, q) := by
  cases k with
  | zero => rfl
  | succ k => rw [rdIds, if_neg h]

/-- 'copy(i[:], s)' of a string into an id's own box, as one step of a drawn region. -/
theorem step_copy_id {ops : Array Oper} {w : World} {o : Oper} {a : Act} {K : Act → World → Prop} {Q : Exit → Act → World → Prop} {E : Prop} (d s : Operand) (hgd : o.guard = none)
    (ho : o.op = .call { callee := .builtin .copy, args := #[d, s], argTypes := #[34, 9] }) (g : Nat) (l : List UInt8) (hl : l.length = 32 ∨ l = []) (hd : a.eval d = .slice (some ⟨g, 0, none⟩) 32 32) (hs : a.eval s = .string ⟨l.toArray⟩)
    (hr : Box w g 23 (enc default).toArray) (h : ∀ w', Box w' g 23 (enc (idOf l)).toArray → w.grownBy w' (some g) → K (a.put o.dst (goInt l.length)) w') : if Region.wanted o (yielded ops a.tmps) = true then Oper.wp Try.prog o a w K Q else E := by
  have hw : Region.wanted o (yielded ops a.tmps) = true := by simp [Region.wanted, hgd]
  rw [if_pos hw]
  have hfc : (Builtin.firstCells 1 l.length (.string ⟨l.toArray⟩)).run Try.prog w = .ok (bc l).toArray w := by
    simp [Builtin.firstCells, bc]
  have hrun : (Builtin.copy_ #[34, 9] o.type #[.slice (some ⟨g, 0, none⟩) 32 32, .string ⟨l.toArray⟩]).run Try.prog w = .ok (goInt l.length) (w.setRow g (enc (idOf l)).toArray) := by
    have hst : (storeCells ⟨g, 0, none⟩ (bc l) 0).run Try.prog w = .ok () (w.setRow g (enc (idOf l)).toArray) := by
      rcases hl with hl | rfl
      · have h1 := run_storeCells_at Try.prog g 0 23 (bc l) 0 (enc default).toArray w hr (by rw [bc_length, hl, enc_size]; omega) (bc_one l)
        have hdr : (enc (default : Id)).toArray.toList.drop 32 = [] := List.drop_eq_nil_of_le (by rw [Array.length_toList, enc_size]; exact Nat.le_refl _)
        simp only [Nat.add_zero, bc_length, hl, List.take_zero, List.nil_append, Nat.zero_add, hdr, List.append_nil] at h1
        have e : enc (idOf l) = bc l := by simp [idOf, hl, enc]
        rw [e]
        exact h1
      · have e : idOf [] = default := rfl
        rw [e, setRow_self w g _ 23 (0, 0) hr]
        simp [bc, storeCells]
    have hmin : Nat.min l.length 32 = l.length := Nat.min_eq_left (by rcases hl with h | h <;> simp [h])
    have hle : (⟨l.toArray⟩ : ByteArray).size = l.length := str_size l
    simp [Builtin.copy_, run_underlying Try.underlying34, Builtin.lenOf, Try.sizeOf5, hle, hmin, hfc, hst]
  unfold Oper.wp
  simp [execOp, ho, resolve, invoke, builtin, hd, hs, hrun, Result.andThen]
  exact h _ (setRow_heap w g _ _ 23 _ hr) (grown_row (grown_refl w _) _)

section
variable {l : List UInt8} {most : Int} {mn : Nat} {q1 q : St} {acc : List Id}
theorem readL_err (h1 : stSmallV most (l, 0) = mn) (h2 : stSmall most (l, 0) = q1) (h3 : rdIds mn q1 [] = (acc, q)) (h : stEnd q ≠ 0) : readL l most = ([], stEnd q) := by
  simp only [readL, h1, h2, h3]
  rw [if_pos h]
theorem readL_ok (h1 : stSmallV most (l, 0) = mn) (h2 : stSmall most (l, 0) = q1) (h3 : rdIds mn q1 [] = (acc, q)) (h : stEnd q = 0) (hr : rightL acc = true) : readL l most = (acc, 0) := by
  simp only [readL, h1, h2, h3, h, hr]
  simp
theorem readL_form (h1 : stSmallV most (l, 0) = mn) (h2 : stSmall most (l, 0) = q1) (h3 : rdIds mn q1 [] = (acc, q)) (h : stEnd q = 0) (hr : rightL acc = false) : readL l most = ([], 11) := by
  simp only [readL, h1, h2, h3, h, hr]
  simp
end
theorem smallV_le (most : Int) (q : St) (h : most ≤ 9223372036854775807) : stSmallV most q ≤ 9223372036854775807 := by
  unfold stSmallV
  split
  · split
    · omega
    · rename_i h1
      simp [Lay.tooBig] at h1
      omega
  · omega
theorem rawV_len (q : St) : (stRawV 32 q).length = 32 ∨ stRawV 32 q = [] := by
  unfold stRawV
  split
  · split
    · exact .inr rfl
    · split
      · exact .inr rfl
      · left
        rw [List.length_take]
        omega
  · exact .inr rfl
theorem raw_len (q : St) : (stRaw 32 q).1.length ≤ q.1.length := by
  unfold stRaw
  split
  · split
    · simp
    · split
      · simp
      · simp
  · exact Nat.le_refl _
theorem raw_ok (q : St) (h : q.2 = 0) (h2 : (stRaw 32 q).2 = 0) : 32 + (stRaw 32 q).1.length ≤ q.1.length := by
  unfold stRaw at h2 ⊢
  rw [if_pos h] at h2 ⊢
  split at h2
  · cases h2
  · split at h2
    · cases h2
    · rename_i h3 h4
      rw [if_neg h3, if_neg h4, List.length_drop]
      omega

/-- Within the loop: where the reader stands, what is read. -/
structure ReadAt (L : Nat) (w w1 wr : World) (g : Nat) (q : St) (v : Value) (acc : List Id) : Prop where
  rds : Rds wr g q
  own : OwnI wr w1.heap.size v acc
  bel : Below w.heap.size w wr
  siz : w1.heap.size ≤ wr.heap.size
  low : g < w1.heap.size
  len : q.1.length ≤ L
  cnt : (q.2 = 0 → 32 * acc.length + q.1.length ≤ L) ∧ 32 * acc.length ≤ L + 32

set_option maxRecDepth 100000 in
set_option maxHeartbeats 2000000 in
theorem read_says (l : List UInt8) (hl : l.length ≤ 30000) (most : Int) (hm : most ≤ 9223372036854775807) (w : World) : Calls Try.prog 13 #[.string ⟨l.toArray⟩, .int .i64 most] w (ReadPost l most w) := by
  have hz := (zero_of_info idZero).1
  have hza := enc_size (default : Id)
  obtain ⟨zi, hzi⟩ : ∃ z : Id, z = default := ⟨_, rfl⟩
  rw [← hzi] at hz hza
  have HZ := Lib.hid hzi
  clear hzi
  go_enter Try.func13, Try.ntmps13
  go_wp2_with fail
  refine (Lay.read_any _ w).mono ?_
  rintro e w1 ⟨rfl, hw1⟩
  have HR1 := Lib.hid (show Rds w1 w.heap.size (l, 0) from by rw [← hw1]; exact Box.made _ _ _)
  have HB1 := Lib.hid (show Below w.heap.size w w1 from by rw [← hw1]; exact (Below.refl _ w).alloc (Nat.le_refl _) _)
  have HS1 := Lib.hid (show w.heap.size < w1.heap.size from Box.lt HR1.out)
  clear hw1
  go_wp2_with fail
  refine (Lay.small_rds HR1.out (by unfold maxLen; simp; omega) most hm).mono ?_
  rintro e w2 ⟨rfl, hr2, hg2⟩
  obtain ⟨q1, hq1⟩ : ∃ q, stSmall most (l, 0) = q := ⟨_, rfl⟩
  obtain ⟨mn, hmn⟩ : ∃ m, stSmallV most (l, 0) = m := ⟨_, rfl⟩
  rw [hq1] at hr2
  have hql : q1.1.length ≤ l.length := by rw [← hq1]; exact Lay.stSmall_len most (l, 0)
  rw [hmn]
  have hmn2 : mn ≤ 9223372036854775807 := by rw [← hmn]; exact smallV_le most (l, 0) hm
  have HMN := Lib.hid hmn
  have HQ1 := Lib.hid hq1
  have H0 : Hid (ReadAt l.length w w2 w2 w.heap.size q1 (.slice none 0 0) [] ∧ rdIds mn q1 [] = rdIds (mn - 0) q1 []) := Lib.hid ⟨⟨hr2, OwnI.nil _ _, below_grown HB1.out hg2 (Nat.le_refl _) HB1.out.size, Nat.le_refl _, Nat.lt_of_lt_of_le HS1.out hg2.size, hql, fun _ => by simpa using hql, by simp⟩, rfl⟩
  clear hr2 hg2 hq1 hmn
  go_wp2_with fail
  go_loopw [8, 9, 10] (fun v8 v9 _ wr => ∃ (k : Nat) (q : St) (acc : List Id), v9 = .int .i64 (k : Int) ∧ k ≤ mn ∧ Hid (ReadAt l.length w w2 wr w.heap.size q v8 acc ∧ rdIds mn q1 [] = rdIds (mn - k) q acc)) (fun _ v _ _ => mn - (Lib.intOf v).toNat)
  case atStart => exact ⟨0, q1, [], rfl, Nat.zero_le _, H0⟩
  case round =>
    obtain ⟨k, q, acc, rfl, hk, H⟩ := hrel
    by_cases hlt : k < mn
    · have l1 : (k : Int) < (mn : Int) := by omega
      go_wp2_with fail
      refine (Lay.bad_rds H.out.1.rds).mono ?_
      rintro e w9 ⟨rfl, rfl⟩
      by_cases hq0 : q.2 = 0
      · rw [hq0]
        go_wp2_with fail
        have HBX := Lib.hid (Box.made wr 23 (enc zi).toArray)
        have hb3 : Below wr.heap.size wr (wr.alloc (Obj.cells (enc zi).toArray 23)) := (Below.refl _ wr).alloc (Nat.le_refl _) _
        have HR3 := Lib.hid (show Rds _ _ q from Box.below H.out.1.rds hb3 (Box.lt H.out.1.rds))
        have HO3 := Lib.hid (H.out.1.own.below hb3)
        have HW3 := Lib.hid (H.out.1.bel.trans (hb3.mono H.out.1.bel.size))
        have HNE := Lib.hid (show u8.ownBlock ≠ some wr.heap.size from fun e => Nat.lt_irrefl _ (H.out.1.own.lt e))
        have HLO := Lib.hid (show w.heap.size < wr.heap.size from Box.lt H.out.1.rds)
        have HSZ := Lib.hid (show w2.heap.size ≤ wr.heap.size from H.out.1.siz)
        clear hb3
        generalize wr.alloc (Obj.cells (enc zi).toArray 23) = w3 at HBX HR3 HO3 HW3 ⊢
        generalize wr.heap.size = gi at HBX HNE HLO HSZ ⊢
        obtain ⟨sv, hsv⟩ : ∃ s, stRawV 32 q = s := ⟨_, rfl⟩
        obtain ⟨q2, hq2⟩ : ∃ q', stRaw 32 q = q' := ⟨_, rfl⟩
        have hRaw := Lay.raw_rds (show Rds w3.drew w.heap.size q from HR3.out) (by have := H.out.1.len; omega) 32
        rw [hsv, hq2] at hRaw
        have HRAW := Lib.hid hRaw
        have HSV := Lib.hid (And.intro hsv hq2)
        clear hRaw hsv hq2
        refine wp_region_held_drew (S := fun _ => True) (by kernel_rfl) trivial (fun hHeld => ?_)
        refine take_run 0 27 (v := ?_) rfl rfl (by kernel_rfl) (by kernel_rfl) (by kernel_rfl) (fun _ _ _ h => h) (by rfl) ?_ (by assumption) ?_
        rotate_left
        · (intro wq hSw; (try dsimp only at hSw); go_simp; first | done | with_reducible rfl)
        simp only [Act.put, List.setIfInBounds_toArray, List.set_cons_zero, List.set_cons_succ]
        refine take_run 1 28 (v := ?_) rfl rfl (by kernel_rfl) (by kernel_rfl) (by kernel_rfl) (fun _ _ _ h => h) (by rfl) ?_ (by assumption) ?_
        rotate_left
        · (intro wq hSw; (try dsimp only at hSw); go_simp; first | done | with_reducible rfl)
        simp only [Act.put, List.setIfInBounds_toArray, List.set_cons_zero, List.set_cons_succ]
        refine wpAnyH_ready (rs := [2]) (by kernel_rfl) (by simp) ?_
        refine AllReadyH.cons rfl (fun K hK => ?_) AllReadyH.nil
        go_simp
        go_wp2_with (go_at_call 32; refine HRAW.out.mono ?_; rintro e w4 ⟨rfl, hr4, hg4⟩)
        have HR4 := Lib.hid hr4
        have HG4 := Lib.hid hg4
        refine hK.out _ _ trivial (fun hHeld => ?_)
        clear hK K hr4 hg4
        refine wpAnyH_ready (rs := [3]) (by kernel_rfl) (by simp) ?_
        refine AllReadyH.cons rfl (fun K hK => ?_) AllReadyH.nil
        refine step_copy_id (.tmp 27) (.tmp 29) rfl rfl gi sv ?_ rfl rfl (Box.grown (w := w3.drew) (by rw [← HZ.out]; exact HBX.out) HG4.out (by have := HLO.out; simp; omega)) ?_
        · rw [← HSV.out.1]
          exact rawV_len q
        intro w5 hb5 hg5
        have HB5 := Lib.hid hb5
        have HG5 := Lib.hid hg5
        refine hK.out _ _ trivial (fun hHeld => ?_)
        clear hK K hb5 hg5
        refine wpAnyH_done (by kernel_rfl) ?_ _
        have HR5 := Lib.hid (show Rds w5 w.heap.size q2 from Box.grown HR4.out HG5.out (by have := HLO.out; simp; omega))
        have HN0 : Hid (u8.ownBlock ≠ some w.heap.size) := Lib.hid (fun e => by have h1 := (World.ownsRow.lt H.out.1.own _ e).1; have h2 := H.out.1.low; omega)
        have HO5 := Lib.hid ((OwnI.grown (w := w3.drew) HO3.out HG4.out HN0.out).grown HG5.out HNE.out)
        have HW5 := Lib.hid (below_grown (below_grown HW3.out.drew HG4.out (Nat.le_refl _) HW3.out.drew.size) HG5.out (Nat.le_of_lt HLO.out) (Nat.le_trans HW3.out.drew.size HG4.out.size))
        have HS5 := Lib.hid (show w2.heap.size ≤ w5.heap.size from Nat.le_trans HSZ.out (Nat.le_of_lt (Box.lt HB5.out)))
        clear HR4 HG4 HG5 HRAW HO3 HW3 HR3 HBX
        go_wp2_with (first
          | (refine wpList_load_mid rfl 23 _ rfl gi 0 rfl (enc (idOf sv)) _ (box_range HB5.out) Try.underlying23 rfl (infoId _) ?_)
          | (refine wpList_build_ids rfl 35 1 _ rfl Try.underlying35 [idOf sv] rfl (by omega) (by omega) (by go_simp) ?_; intro w6 hr6 hw6; have HR6 := Lib.hid hr6; have hb6 : Below w5.heap.size w5 w6 := (by rw [hw6]; exact (Below.refl _ w5).alloc (Nat.le_refl _) _); have HO6 := Lib.hid (HO5.out.below hb6); have HQ6 := Lib.hid (show Rds w6 w.heap.size q2 from Box.below HR5.out hb6 (Box.lt HR5.out)); have HW6 := Lib.hid (HW5.out.trans (hb6.mono HW5.out.size)); have HS6 := Lib.hid (Nat.le_trans HS5.out hb6.size); clear hr6 hw6 hb6)
          | (at_builtin; refine wpList_append_id w6 (.tmp 31) (.tmp 33) rfl rfl w2.heap.size _ acc w5.heap.size (idOf sv) rfl rfl HO6.out HR6.out (by have := H.out.1.cnt.2; omega) HS6.out ?_; intro v10 w10 ho10 hg10))
        have HO10 := Lib.hid ho10
        have HQ10 := Lib.hid (show Rds w10 w.heap.size q2 from Box.grown HQ6.out hg10 (fun e => HN0.out e.symm))
        have HW10 := Lib.hid (HW6.out.trans ((HO6.out.changed hg10 HS6.out).mono (Nat.le_trans (Nat.le_of_lt H.out.1.low) (Nat.le_refl _))))
        have HS10 := Lib.hid (Nat.le_trans HS6.out hg10.size)
        clear ho10 hg10
        go_wp2
        go_roundw
        case rel =>
          refine ⟨k + 1, q2, acc ++ [idOf sv], by go_num, by omega, Lib.hid ⟨⟨HQ10.out, HO10.out, HW10.out, HS10.out, H.out.1.low, ?_, ?_⟩, ?_⟩⟩
          · rw [← HSV.out.2]
            exact Nat.le_trans (raw_len q) H.out.1.len
          · have hc := H.out.1.cnt.1 hq0
            rw [← HSV.out.2, List.length_append, List.length_singleton]
            exact ⟨fun h => by have := raw_ok q hq0 h; omega, by omega⟩
          · rw [H.out.2, show mn - k = (mn - (k + 1)) + 1 by omega, rdIds, if_pos hq0, HSV.out.1, HSV.out.2]
        case measure => simp [Lib.intOf]; omega
      · have hq0' : ¬ q.2 = 0 := hq0
        have HEQ := Lib.hid (show rdIds mn q1 [] = (acc, q) from by rw [H.out.2]; exact rdIds_bad _ _ _ hq0)
        go_wp2_with fail
        refine (Lay.end_rds H.out.1.rds).mono ?_
        rintro e w9 ⟨rfl, rfl⟩
        obtain ⟨en, hen⟩ : ∃ e, stEnd q = e := ⟨_, rfl⟩
        rw [hen]
        by_cases he : en = 0
        · have HE := Lib.hid he
          subst he
          obtain ⟨A3, c3, rfl, hi⟩ := H.out.1.own.ids
          have HI := Lib.hid hi
          have HN : Hid (acc.length ≤ 100000) := Lib.hid (by have := H.out.1.cnt.2; omega)
          have hq := right_says wr A3 acc.length c3 acc hi
          clear hi
          obtain ⟨r, hr⟩ : ∃ r, rightL acc = r := ⟨_, rfl⟩
          rw [hr] at hq
          have HQ := Lib.hid hq
          clear hq
          go_wp2_with fail
          refine (HQ.out (by have := H.out.1.cnt.2; omega)).mono ?_
          rintro e w8 ⟨rfl, hb8⟩
          have HB8 := Lib.hid hb8
          clear hb8
          cases r with
          | true =>
            go_wp2
            refine bodyPost_ret (results_tmp2 rfl _ _ _) rfl ⟨A3, acc.length, c3, ?_, ?_, H.out.1.bel.trans (HB8.out.mono H.out.1.bel.size)⟩
            · rw [readL_ok HMN.out HQ1.out HEQ.out hen hr]
              rfl
            · rw [readL_ok HMN.out HQ1.out HEQ.out hen hr]
              exact HI.out.below HB8.out (Nat.le_refl _)
          | false =>
            go_wp2
            refine bodyPost_ret (results_tmp2 rfl _ _ _) rfl ⟨none, 0, 0, ?_, ?_, H.out.1.bel.trans (HB8.out.mono H.out.1.bel.size)⟩
            · rw [readL_form HMN.out HQ1.out HEQ.out hen hr]
              rfl
            · rw [readL_form HMN.out HQ1.out HEQ.out hen hr]
              exact Ids.nil _ _ _
        · go_wp2
          refine bodyPost_ret (results_tmp2 rfl _ _ _) rfl ⟨none, 0, 0, ?_, ?_, H.out.1.bel⟩
          · rw [readL_err HMN.out HQ1.out HEQ.out (by rw [hen]; exact he), hen]
            rfl
          · rw [readL_err HMN.out HQ1.out HEQ.out (by rw [hen]; exact he)]
            exact Ids.nil _ _ _
    · obtain rfl : mn = k := by omega
      have HEQ := Lib.hid (show rdIds mn q1 [] = (acc, q) from by rw [H.out.2, Nat.sub_self]; rfl)
      go_wp2_with fail
      refine (Lay.end_rds H.out.1.rds).mono ?_
      rintro e w9 ⟨rfl, rfl⟩
      obtain ⟨en, hen⟩ : ∃ e, stEnd q = e := ⟨_, rfl⟩
      rw [hen]
      by_cases he : en = 0
      · have HE := Lib.hid he
        subst he
        obtain ⟨A3, c3, rfl, hi⟩ := H.out.1.own.ids
        have HI := Lib.hid hi
        have HN : Hid (acc.length ≤ 100000) := Lib.hid (by have := H.out.1.cnt.2; omega)
        have hq := right_says wr A3 acc.length c3 acc hi
        clear hi
        obtain ⟨r, hr⟩ : ∃ r, rightL acc = r := ⟨_, rfl⟩
        rw [hr] at hq
        have HQ := Lib.hid hq
        clear hq
        go_wp2_with fail
        refine (HQ.out (by have := H.out.1.cnt.2; omega)).mono ?_
        rintro e w8 ⟨rfl, hb8⟩
        have HB8 := Lib.hid hb8
        clear hb8
        cases r with
        | true =>
          go_wp2
          refine bodyPost_ret (results_tmp2 rfl _ _ _) rfl ⟨A3, acc.length, c3, ?_, ?_, H.out.1.bel.trans (HB8.out.mono H.out.1.bel.size)⟩
          · rw [readL_ok HMN.out HQ1.out HEQ.out hen hr]
            rfl
          · rw [readL_ok HMN.out HQ1.out HEQ.out hen hr]
            exact HI.out.below HB8.out (Nat.le_refl _)
        | false =>
          go_wp2
          refine bodyPost_ret (results_tmp2 rfl _ _ _) rfl ⟨none, 0, 0, ?_, ?_, H.out.1.bel.trans (HB8.out.mono H.out.1.bel.size)⟩
          · rw [readL_form HMN.out HQ1.out HEQ.out hen hr]
            rfl
          · rw [readL_form HMN.out HQ1.out HEQ.out hen hr]
            exact Ids.nil _ _ _
      · go_wp2
        refine bodyPost_ret (results_tmp2 rfl _ _ _) rfl ⟨none, 0, 0, ?_, ?_, H.out.1.bel⟩
        · rw [readL_err HMN.out HQ1.out HEQ.out (by rw [hen]; exact he), hen]
          rfl
        · rw [readL_err HMN.out HQ1.out HEQ.out (by rw [hen]; exact he)]
          exact Ids.nil _ _ _
end Go.Proofs.Ytjnobakbjapfjaa
