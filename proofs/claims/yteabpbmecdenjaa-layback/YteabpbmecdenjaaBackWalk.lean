/-
  The law LayBack, walked: numbers and texts that are laid are read as they were, and nothing is left; cut by a byte they are not.
-/
import Derived.Test.YteabpbmecdenjaaBackBase
import Derived.Test.YteabpbmecdenjaaPutsWalk
import Derived.Test.YteabpbmecdenjaaHeld
namespace Go.Proofs.Yteabpbmecdenjaa
open Go.RowKit

def Back1 (w : World) (vs : List Nat) (ts : List ByteArray) (b n i : Value) (wr : World) : Prop :=
  ∃ k m : Nat, k ≤ top vs ts ∧ i = .int .i64 (k : Int) ∧ n = .int .i64 (m : Int) ∧ m ≤ 2 * k ∧ (0 < m ↔ upto vs ts k ≠ []) ∧ (upto vs ts k).length ≤ 1100 * k ∧ (∀ j t, j < k → ts[j]? = some t → t.size ≤ 1000) ∧ Own wr w.heap.size b (upto vs ts k) ∧ Below w.heap.size w wr

/-- Behind the first loop. -/
def Back2 (w : World) (vs : List Nat) (ts : List ByteArray) (b n : Value) (wr : World) : Prop :=
  ∃ m : Nat, n = .int .i64 (m : Int) ∧ m ≤ 1000 ∧ (0 < m ↔ upto vs ts (top vs ts) ≠ []) ∧ (upto vs ts (top vs ts)).length ≤ 100000 ∧ (∀ (j : Nat) (t : ByteArray), ts[j]? = some t → t.size ≤ 1000) ∧ Own wr w.heap.size b (upto vs ts (top vs ts)) ∧ Below w.heap.size w wr

theorem encText_len (t : ByteArray) (h : t.size ≤ 1000) : (encText t.data.toList).length ≤ 1009 := by
  rw [encText, List.length_append, encNum_length, size_data]
  have := many_le t.size (by omega)
  omega
theorem encNum_len (x : Nat) (h : x < 18446744073709551616) : (encNum x).length ≤ 9 := by
  rw [encNum_length]
  have := many_le x h
  omega

theorem stRaw_len (n : Int) (q : St) : (stRaw n q).1.length ≤ q.1.length := by
  unfold stRaw
  split
  · split
    · simp
    · split
      · simp
      · simp
  · exact Nat.le_refl _
theorem stText_len (n : Int) (q : St) : (stText n q).1.length ≤ q.1.length := Nat.le_trans (stRaw_len _ _) (stSmall_len n q)

/-- The state of the reader while the i-th are read back. -/
def Back3 (vs : List Nat) (ts : List ByteArray) (cut rb : Nat) (w2 : World) (sm i : Value) (wx : World) : Prop :=
  ∃ (k : Nat) (q : St) (b : Bool), k ≤ top vs ts ∧ i = .int .i64 (k : Int) ∧ sm = .bool b ∧ Rds wx rb q ∧ q.1.length ≤ 100000 ∧ Back cut (behind vs ts k) q b ∧ Below rb w2 wx

theorem rds_drew {w : World} {b : Nat} {q : St} (h : Rds w b q) : Rds w.drew b q := h
theorem below_drew {B : Nat} {a b : World} (h : Below B a b) : Below B a b.drew := h.drew

/-- One number, laid behind a row of the call's own. -/
theorem put_one {w : World} {base : Nat} {v : Value} {l : List UInt8} (ho : Own w base v l) (hb : base ≤ w.heap.size) (x : Nat) (hx : x < 18446744073709551616) (hl : l.length ≤ 1000000) :
    Calls Try.prog 10 #[v, .slice (some ⟨w.heap.size, 0, none⟩) 1 1] (w.alloc (.cells #[.int .u64 (x : Int)] 26)) fun r w' => ∃ v', r = .returned v' ∧ Own w' base v' (l ++ encNum x) ∧ Below w.heap.size w w' := by
  have hS : Sl (w.alloc (.cells #[.int .u64 (x : Int)] 26)) (w.alloc (.cells #[.int .u64 (x : Int)] 26)).heap.size v (bc l) :=
    ((Sl.own ho).below ((Below.refl _ w).alloc (Nat.le_refl _) _)).wide (by simp)
  refine (putNumber_any v _ l [x] _ hS (sl_new w _ _) (by simpa using hx) (by simp; omega)).mono ?_
  rintro r w' ⟨v', rfl, ho', hb'⟩
  have e : encNums [x] = encNum x := by simp [encNums]
  rw [e] at ho'
  exact ⟨v', rfl, own_mono ho' (by simp; omega), ((Below.refl _ w).alloc (Nat.le_refl _) _).trans (hb'.mono (by simp))⟩
theorem put_text {w : World} {base : Nat} {v : Value} {l : List UInt8} (ho : Own w base v l) (hb : base ≤ w.heap.size) (t : ByteArray) (ht : t.size ≤ 1000) (hl : l.length ≤ 1000000) :
    Calls Try.prog 11 #[v, .slice (some ⟨w.heap.size, 0, none⟩) 1 1] (w.alloc (.cells #[.string t] 9)) fun r w' => ∃ v', r = .returned v' ∧ Own w' base v' (l ++ encText t.data.toList) ∧ Below w.heap.size w w' := by
  have hS : Sl (w.alloc (.cells #[.string t] 9)) (w.alloc (.cells #[.string t] 9)).heap.size v (bc l) :=
    ((Sl.own ho).below ((Below.refl _ w).alloc (Nat.le_refl _) _)).wide (by simp)
  refine (putText_any v _ l [t] _ hS (sl_new w _ _) (by simp [sizes]; omega)).mono ?_
  rintro r w' ⟨v', rfl, ho', hb'⟩
  have e : encTexts [t] = encText t.data.toList := by simp [encTexts]
  rw [e] at ho'
  exact ⟨v', rfl, own_mono ho' (by simp; omega), ((Below.refl _ w).alloc (Nat.le_refl _) _).trans (hb'.mono (by simp))⟩

set_option maxHeartbeats 8000000 in
set_option maxRecDepth 100000 in
theorem back_main (A0 A1 : Option Addr) (c0 c1 : Nat) (vs : List Nat) (ts : List ByteArray) (w : World)
    (h0 : Sl w w.heap.size (.slice A0 vs.length c0) (nc vs)) (h1 : Sl w w.heap.size (.slice A1 ts.length c1) (tc ts)) (hv : ∀ x ∈ vs, x < 18446744073709551616)
    (hvl : vs.length ≤ 60) (htl : ts.length ≤ 20) :
    Calls Try.prog 5 #[.slice A0 vs.length c0, .slice A1 ts.length c1] w (Yes w) := by
  have htop : top vs ts ≤ 60 := by unfold top; omega
  have htv : vs.length ≤ top vs ts := by unfold top; omega
  have htt : ts.length ≤ top vs ts := by unfold top; omega
  have H0 := Lib.hid h0
  have H1 := Lib.hid h1
  have HV := Lib.hid hv
  clear h0 h1 hv
  go_enter Try.func5, Try.ntmps5
  go_wp2_with fail
  go_loopw [5, 6, 7] (fun b n i wr => Back1 w vs ts b n i wr) (fun _ _ i _ => 60 - (intOf i).toNat)
  case atStart => exact ⟨0, 0, Nat.zero_le _, rfl, rfl, by omega, by simp [upto_zero], by simp [upto_zero], fun j t hj => by omega, World.ownsRow_nil _ _ _ _, Below.refl _ _⟩
  case round =>
    obtain ⟨k, m, hk, rfl, rfl, hm, hm0, hlen, hts, hown, hbel⟩ := hrel
    have HO := Lib.hid hown
    have HB := Lib.hid hbel
    have HM := Lib.hid hm0
    have HT := Lib.hid hts
    clear hown hbel hm0 hts
    by_cases kv : k < vs.length
    · have hx : (nc vs)[k]? = some (.int .u64 (vs[k] : Int)) := by simp [nc, kv]
      obtain ⟨b0, off0, rfl, hb0, hcell0⟩ := H0.out.at_ hx
      have hcr0 : wr.cell? ⟨b0, off0 + k, none⟩ = some (.int .u64 (vs[k] : Int)) := (HB.out.cell (p := ⟨b0, off0 + k, none⟩) hb0).trans hcell0
      have hxlt : vs[k] < 18446744073709551616 := HV.out _ (List.getElem_mem kv)
      have HC := Lib.hid (put_one HO.out HB.out.size vs[k] hxlt (by omega))
      have hnl := encNum_len vs[k] hxlt
      have hN := Lib.hid (numAt_lt kv)
      clear hcell0 hx
      generalize vs[k] = x at *
      by_cases kt : k < ts.length
      · have hy : (tc ts)[k]? = some (.string ts[k]) := by simp [tc, kt]
        obtain ⟨b1, off1, rfl, hb1, hcell1⟩ := H1.out.at_ hy
        have hcr1 : wr.cell? ⟨b1, off1 + k, none⟩ = some (.string ts[k]) := (HB.out.cell (p := ⟨b1, off1 + k, none⟩) hb1).trans hcell1
        have hT := Lib.hid (textAt_lt kt)
        have hTk := Lib.hid (List.getElem?_eq_getElem kt)
        have hwlt : b1 < wr.heap.size := Nat.lt_of_lt_of_le hb1 HB.out.size
        clear hcell1 hy
        generalize ts[k] = t at *
        have hu : upto vs ts (k + 1) = upto vs ts k ++ encNum x ++ encText t.data.toList := by rw [upto_succ, hN.out, hT.out]
        have HU := Lib.hid hu
        clear hu
        go_wp2_with fail
        refine HC.out.mono ?_
        rintro r w2 ⟨v2, rfl, ho2, hb2⟩
        have hc2 : w2.cell? ⟨b1, off1 + k, none⟩ = some (.string t) := (hb2.cell (p := ⟨b1, off1 + k, none⟩) hwlt).trans hcr1
        have HO2 := Lib.hid ho2
        have HB2 := Lib.hid (HB.out.trans (hb2.mono HB.out.size))
        clear ho2 hb2 hcr0 hcr1 HC
        by_cases hbig : (1000 : Int) < (t.size : Int)
        · go_wp2_with fail
          go_ret
          exact ⟨rfl, HB2.out⟩
        · have hts : t.size ≤ 1000 := by omega
          have hl2 : (upto vs ts k ++ encNum x).length ≤ 1000000 := by
            rw [List.length_append]
            omega
          have HC2 := Lib.hid (put_text HO2.out HB2.out.size t hts hl2)
          have htl2 := encText_len t hts
          clear hl2
          go_wp2_with fail
          refine HC2.out.mono ?_
          rintro r w3 ⟨v3, rfl, ho3, hb3⟩
          have HO3 := Lib.hid ho3
          have HB3 := Lib.hid (HB2.out.trans (hb3.mono HB2.out.size))
          clear ho3 hb3 hc2 HC2
          go_wp2_with fail
          go_roundw
          case rel =>
            refine ⟨k + 1, m + 2, by omega, by go_num, by go_num, by omega, ?_, ?_, ?_, ?_, HB3.out⟩
            · rw [HU.out]
              exact ⟨fun _ => by intro h; exact encText_ne t.data.toList [] (by simpa using (List.append_eq_nil_iff.1 h).2), fun _ => by omega⟩
            · rw [HU.out, List.length_append, List.length_append]
              omega
            · intro j t' hj hjt
              rcases Nat.lt_or_ge j k with h | h
              · exact HT.out j t' h hjt
              · obtain rfl : j = k := by omega
                rw [hTk.out] at hjt
                injection hjt with hjt
                subst hjt
                exact hts
            · rw [HU.out]
              exact HO3.out
          case measure => simp [intOf]; omega
      · have hu : upto vs ts (k + 1) = upto vs ts k ++ encNum x := by rw [upto_succ, hN.out, textAt_ge (by omega), List.append_nil]
        have HU := Lib.hid hu
        clear hu
        go_wp2_with fail
        refine HC.out.mono ?_
        rintro r w2 ⟨v2, rfl, ho2, hb2⟩
        have HO2 := Lib.hid ho2
        have HB2 := Lib.hid (HB.out.trans (hb2.mono HB.out.size))
        clear ho2 hb2 hcr0
        go_wp2_with fail
        go_roundw
        case rel =>
          refine ⟨k + 1, m + 1, by omega, by go_num, by go_num, by omega, ?_, ?_, ?_, ?_, HB2.out⟩
          · rw [HU.out]
            exact ⟨fun _ => by intro h; exact encNum_ne x [] (by simpa using (List.append_eq_nil_iff.1 h).2), fun _ => by omega⟩
          · rw [HU.out, List.length_append]
            omega
          · intro j t hj hjt
            rcases Nat.lt_or_ge j k with h | h
            · exact HT.out j t h hjt
            · rw [List.getElem?_eq_none (by omega)] at hjt
              cases hjt
          · rw [HU.out]
            exact HO2.out
        case measure => simp [intOf]; omega
    · by_cases kt : k < ts.length
      · have hy : (tc ts)[k]? = some (.string ts[k]) := by simp [tc, kt]
        obtain ⟨b1, off1, rfl, hb1, hcell1⟩ := H1.out.at_ hy
        have hcr1 : wr.cell? ⟨b1, off1 + k, none⟩ = some (.string ts[k]) := (HB.out.cell (p := ⟨b1, off1 + k, none⟩) hb1).trans hcell1
        have hT := Lib.hid (textAt_lt kt)
        have hTk := Lib.hid (List.getElem?_eq_getElem kt)
        clear hcell1 hy
        generalize ts[k] = t at *
        have hu : upto vs ts (k + 1) = upto vs ts k ++ encText t.data.toList := by rw [upto_succ, numAt_ge (by omega), List.append_nil, hT.out]
        have HU := Lib.hid hu
        clear hu
        by_cases hbig : (1000 : Int) < (t.size : Int)
        · go_wp2_with fail
          go_ret
          exact ⟨rfl, HB.out⟩
        · have hts : t.size ≤ 1000 := by omega
          have HC2 := Lib.hid (put_text HO.out HB.out.size t hts (by omega))
          have htl2 := encText_len t hts
          go_wp2_with fail
          refine HC2.out.mono ?_
          rintro r w3 ⟨v3, rfl, ho3, hb3⟩
          have HO3 := Lib.hid ho3
          have HB3 := Lib.hid (HB.out.trans (hb3.mono HB.out.size))
          clear ho3 hb3 hcr1 HC2
          go_wp2_with fail
          go_roundw
          case rel =>
            refine ⟨k + 1, m + 1, by omega, by go_num, by go_num, by omega, ?_, ?_, ?_, ?_, HB3.out⟩
            · rw [HU.out]
              exact ⟨fun _ => by intro h; exact encText_ne t.data.toList [] (by simpa using (List.append_eq_nil_iff.1 h).2), fun _ => by omega⟩
            · rw [HU.out, List.length_append]
              omega
            · intro j t' hj hjt
              rcases Nat.lt_or_ge j k with h | h
              · exact HT.out j t' h hjt
              · obtain rfl : j = k := by omega
                rw [hTk.out] at hjt
                injection hjt with hjt
                subst hjt
                exact hts
            · rw [HU.out]
              exact HO3.out
          case measure => simp [intOf]; omega
      · have hkt : k = top vs ts := by unfold top at hk ⊢; omega
        have HT2 : Hid (∀ (j : Nat) (t : ByteArray), ts[j]? = some t → t.size ≤ 1000) := fun j t hjt => by
          rcases Nat.lt_or_ge j k with h | h
          · exact HT.out j t h hjt
          · rw [List.getElem?_eq_none (by omega)] at hjt
            cases hjt
        rw [hkt] at HO HM hlen
        have hm2 : m ≤ 1000 := by omega
        have hlen2 : (upto vs ts (top vs ts)).length ≤ 100000 := by omega
        clear HT hlen hm
        obtain ⟨A, c, rfl, hA⟩ := Own.arg HO.out
        have hLdef : behind vs ts 0 = upto vs ts (top vs ts) := behind_zero
        generalize upto vs ts (top vs ts) = L at *
        have HA := Lib.hid hA
        have HLD := Lib.hid hLdef
        have hnc := hA.le
        clear hA hLdef HO hkt
        go_wp2_with fail
        go_loopw [8] (fun cut w2 => ∃ j : Nat, j ≤ 2 ∧ cut = .int .i64 (j : Int) ∧ Arg w2 A L.length c (bc L) ∧ Below w.heap.size w w2) (fun cut _ => 2 - (intOf cut).toNat)
        case atStart => exact ⟨0, by omega, rfl, HA.out, HB.out⟩
        case round =>
          rename World => w2
          obtain ⟨j, hj, rfl, hA2, hB2⟩ := hrel
          have HA2 := Lib.hid hA2
          have HB2 := Lib.hid hB2
          clear hA2 hB2 HA HB
          by_cases hbrk : j = 2 ∨ (j = 1 ∧ L = [])
          · rcases hbrk with rfl | ⟨rfl, rfl⟩
            · have hm0 := HM.out
              by_cases hmp : 0 < m
              · have hL0 : 0 < L.length := List.length_pos_iff.2 (hm0.1 hmp)
                clear hm0 HM
                go_wp2_with fail
                refine (one_any w2).mono ?_
                rintro r w5 ⟨rfl, hb5⟩
                have HB5 := Lib.hid (HB2.out.trans (hb5.mono HB2.out.size))
                clear hb5
                go_wp2_with fail
                go_ret
                exact ⟨rfl, HB5.out⟩
              · have hL0 : L = [] := by
                  rcases Classical.em (L = []) with h | h
                  · exact h
                  · exact absurd (hm0.2 h) hmp
                have hm00 : m = 0 := by omega
                clear hm0 HM
                subst hL0
                subst hm00
                go_wp2_with fail
                refine (one_any w2).mono ?_
                rintro r w5 ⟨rfl, hb5⟩
                have HB5 := Lib.hid (HB2.out.trans (hb5.mono HB2.out.size))
                clear hb5
                go_wp2_with fail
                go_ret
                exact ⟨rfl, HB5.out⟩
            · have hm0 := HM.out
              have hm00 : m = 0 := by
                rcases Nat.eq_zero_or_pos m with h | h
                · exact h
                · exact absurd rfl (hm0.1 h)
              clear hm0 HM
              subst hm00
              go_wp2_with fail
              refine (one_any w2).mono ?_
              rintro r w5 ⟨rfl, hb5⟩
              have HB5 := Lib.hid (HB2.out.trans (hb5.mono HB2.out.size))
              clear hb5
              go_wp2_with fail
              go_ret
              exact ⟨rfl, HB5.out⟩
          · have hj1 : j ≤ 1 := by omega
            have hjl : j ≤ L.length := by
              rcases Nat.eq_zero_or_pos j with h | h
              · omega
              · have : L ≠ [] := fun hL => hbrk (.inr ⟨by omega, hL⟩)
                have := List.length_pos_iff.2 this
                omega
            have htk : (bc L).take (L.length - j) = bc (L.take (L.length - j)) := by simp [bc]
            have hcv2 : (convert 22 9 (.slice A (L.length - j) c)).run Try.prog w2 = .ok (.string ⟨(L.take (L.length - j)).toArray⟩) w2 := by
              have h1 := HA2.out.first (m := L.length - j) (by omega)
              rw [htk] at h1
              exact conv_sl h1
            clear hbrk htk hj
            have hst : Back j (behind vs ts 0) (L.take (L.length - j), 0) true := by
              rw [HLD.out]
              rcases Nat.eq_zero_or_pos j with h | h
              · subst h
                exact .inl ⟨rfl, by rw [Nat.sub_zero, List.take_length], rfl⟩
              · obtain rfl : j = 1 := by omega
                exact .inr (.inl ⟨rfl, List.length_pos_iff.1 hjl, by rw [List.dropLast_eq_take], rfl⟩)
            have hql : (L.take (L.length - j)).length ≤ 100000 := by
              rw [List.length_take]
              omega
            have HST := Lib.hid hst
            clear hst
            go_wp2_with fail
            refine (read_any _ w2).mono ?_
            rintro r w3 ⟨rfl, hw3⟩
            have hr3 : Rds w3 w2.heap.size (L.take (L.length - j), 0) := by rw [← hw3]; exact Box.made w2 _ _
            have hb3 : Below w2.heap.size w2 w3 := by rw [← hw3]; exact (Below.refl _ w2).alloc (Nat.le_refl _) _
            have HR3 := Lib.hid hr3
            have HB3 := Lib.hid hb3
            clear hw3 hr3 hb3 hcv2
            go_wp2_with fail
            go_loopw [10, 11] (fun sm i wx => Back3 vs ts j w2.heap.size w2 sm i wx) (fun _ i _ => 60 - (intOf i).toNat)
            case atStart => exact ⟨0, _, true, Nat.zero_le _, rfl, rfl, HR3.out, hql, HST.out, HB3.out⟩
            case round =>
              rename World => w4
              obtain ⟨k, q, b, hk4, rfl, rfl, hr4, hq4, hbk, hb4⟩ := hrel
              have HR4 := Lib.hid hr4
              have HBK := Lib.hid hbk
              have HB4 := Lib.hid hb4
              have HW4 := Lib.hid (HB2.out.trans (hb4.mono HB2.out.size))
              clear hr4 hbk hb4 HST HR3 HB3 hql
              by_cases kv4 : k < vs.length
              · have hx : (nc vs)[k]? = some (.int .u64 (vs[k] : Int)) := by simp [nc, kv4]
                obtain ⟨b0, off0, rfl, hb0, hcell0⟩ := H0.out.at_ hx
                have hc0 : w4.cell? ⟨b0, off0 + k, none⟩ = some (.int .u64 (vs[k] : Int)) := (HW4.out.cell (p := ⟨b0, off0 + k, none⟩) hb0).trans hcell0
                have hxlt : vs[k] < 18446744073709551616 := HV.out _ (List.getElem_mem kv4)
                have hstep := behind_step (vs := vs) (ts := ts) (i := k) (by omega)
                rw [numAt_lt kv4] at hstep
                have hbT : b = true := HBK.out.same_true (by rw [hstep]; exact encNum_ne _ _)
                subst hbT
                have hbk2 := HBK.out
                rw [hstep] at hbk2
                have hNum := hbk2.num hxlt
                have hnc4 := number_rds (rds_drew HR4.out) (by unfold maxLen; omega)
                have hnl := stNum_len q
                have hne0 : some b0 ≠ some w2.heap.size := by
                  have := HB2.out.size
                  intro h
                  injection h with h
                  omega
                clear hcell0 hx hstep hbk2 HBK
                by_cases kt4 : k < ts.length
                · have hy : (tc ts)[k]? = some (.string ts[k]) := by simp [tc, kt4]
                  obtain ⟨b1, off1, rfl, hb1, hcell1⟩ := H1.out.at_ hy
                  have hc1 : w4.cell? ⟨b1, off1 + k, none⟩ = some (.string ts[k]) := (HW4.out.cell (p := ⟨b1, off1 + k, none⟩) hb1).trans hcell1
                  have hne1 : some b1 ≠ some w2.heap.size := by
                    have := HB2.out.size
                    intro h
                    injection h with h
                    omega
                  rw [textAt_lt kt4] at hNum
                  obtain ⟨hval, hbk3⟩ := hNum.1 (.inl (encText_ne _ _))
                  rw [hval] at hnc4
                  have hTxt := hbk3.text (by rw [size_data]; exact HT2.out k _ (List.getElem?_eq_getElem kt4))
                  have HTX := Lib.hid hTxt
                  have HNC := Lib.hid hnc4
                  clear hNum hval hbk3 hnc4 hTxt hcell1 hy
                  generalize vs[k] = x at *
                  generalize ts[k] = t at *
                  generalize stNum q = q1 at *
                  have hq1 : q1.1.length ≤ 281474976710656 := by omega
                  have hq1' : q1.1.length ≤ 100000 := by omega
                  have HE0 := Lib.hid hne0
                  have HE1 := Lib.hid hne1
                  clear hne0 hne1 hnl
                  have hgv : decide (vs.length ≤ k) = false := by simp; omega
                  have hgt : decide (ts.length ≤ k) = false := by simp; omega
                  go_wp2_with fail
                  go_region_held3 (fun w' => w'.cell? ⟨b0, off0 + k, none⟩ = some (.int .u64 (x : Int)) ∧ w'.cell? ⟨b1, off1 + k, none⟩ = some (.string t)) (first | exact ⟨hc0, hc1⟩ | exact ⟨hd0, hd1⟩ | exact ⟨he0, he1⟩)
                    (first
                      | (go_at_call 15; refine HNC.out.mono ?_; rintro r w5 ⟨rfl, hr5, hg5⟩; have HR5 := Lib.hid hr5; have HG5 := Lib.hid hg5; have hd0 := World.grownBy.cell hg5 (a := ⟨b0, off0 + k, none⟩) hc0 HE0.out; have hd1 := World.grownBy.cell hg5 (a := ⟨b1, off1 + k, none⟩) hc1 HE1.out; clear hr5 hg5)
                      | (go_at_call 19; refine (text_rds HR5.out hq1 1000 (by decide)).mono ?_; rintro r w6 ⟨rfl, hr6, hg6⟩; have HR6 := Lib.hid hr6; have HG6 := Lib.hid hg6; have he0 := World.grownBy.cell hg6 (a := ⟨b0, off0 + k, none⟩) hd0 HE0.out; have he1 := World.grownBy.cell hg6 (a := ⟨b1, off1 + k, none⟩) hd1 HE1.out; clear hr6 hg6))
                  go_wp2_with fail
                  go_roundw
                  case rel =>
                    refine ⟨k + 1, stText 1000 q1, (stTextV 1000 q1 == t.toList), by omega, by go_num, rfl, HR6.out, Nat.le_trans (stText_len 1000 q1) hq1', ?_, below_grown (below_grown HB4.out.drew HG5.out (Nat.le_refl _) HB4.out.size) HG6.out (Nat.le_refl _) (Nat.le_trans HB4.out.size HG5.out.size)⟩
                    by_cases hc : behind vs ts (k + 1) ≠ [] ∨ j = 0
                    · obtain ⟨e, hb⟩ := HTX.out.1 hc
                      rw [e, Lib.toList_data]
                      simpa using hb
                    · exact HTX.out.2 _ hc
                  case measure => simp [intOf]; omega
                · rw [textAt_ge (by omega), List.nil_append] at hNum
                  have HNM := Lib.hid hNum
                  have HNC := Lib.hid hnc4
                  clear hNum hnc4
                  generalize vs[k] = x at *
                  generalize stNumV q = y at *
                  generalize stNum q = q1 at *
                  have hq1' : q1.1.length ≤ 100000 := by omega
                  have HE0 := Lib.hid hne0
                  clear hne0 hnl
                  have hgv : decide (vs.length ≤ k) = false := by simp; omega
                  have hgt : decide (ts.length ≤ k) = true := by simp; omega
                  by_cases hyx : y = x
                  · have hyb : ((y : Int) == (x : Int)) = true := by simp [hyx]
                    have HYX := Lib.hid hyx
                    clear hyx
                    go_wp2_with fail
                    refine wp_region_held_drew (S := fun w' => w'.cell? ⟨b0, off0 + k, none⟩ = some (.int .u64 (x : Int))) (by kernel_rfl) (hc0) (fun hHeld => ?_)
                    refine take_run 0 92 (v := ?_) rfl rfl (by kernel_rfl) (by kernel_rfl) (by kernel_rfl) (fun _ _ _ h => h) (by rfl) ?_ (by assumption) ?_
                    rotate_left
                    · (intro wq hSw; (try dsimp only at hSw); go_simp; first | done | with_reducible rfl)
                    simp only [Act.put, List.setIfInBounds_toArray, List.set_cons_zero, List.set_cons_succ]
                    refine take_run 1 93 (v := ?_) rfl rfl (by kernel_rfl) (by kernel_rfl) (by kernel_rfl) (fun _ _ _ h => h) (by rfl) ?_ (by assumption) ?_
                    rotate_left
                    · (intro wq hSw; (try dsimp only at hSw); go_simp; first | done | with_reducible rfl)
                    simp only [Act.put, List.setIfInBounds_toArray, List.set_cons_zero, List.set_cons_succ]
                    refine take_run 2 94 (v := ?_) rfl rfl (by kernel_rfl) (by kernel_rfl) (by kernel_rfl) (fun _ _ _ h => h) (by rfl) ?_ (by assumption) ?_
                    rotate_left
                    · (intro wq hSw; (try dsimp only at hSw); go_simp; first | done | with_reducible rfl)
                    simp only [Act.put, List.setIfInBounds_toArray, List.set_cons_zero, List.set_cons_succ]
                    refine take_run 3 95 (v := ?_) rfl rfl (by kernel_rfl) (by kernel_rfl) (by kernel_rfl) (fun _ _ _ h => h) (by rfl) ?_ (by assumption) ?_
                    rotate_left
                    · (intro wq hSw; (try dsimp only at hSw); go_simp; first | done | with_reducible rfl)
                    simp only [Act.put, List.setIfInBounds_toArray, List.set_cons_zero, List.set_cons_succ]
                    refine take_run 4 96 (v := ?_) rfl rfl (by kernel_rfl) (by kernel_rfl) (by kernel_rfl) (fun _ _ _ h => h) (by rfl) ?_ (by assumption) ?_
                    rotate_left
                    · (intro wq hSw; (try dsimp only at hSw); go_simp; first | done | with_reducible rfl)
                    simp only [Act.put, List.setIfInBounds_toArray, List.set_cons_zero, List.set_cons_succ]
                    refine take_run 5 97 (v := ?_) rfl rfl (by kernel_rfl) (by kernel_rfl) (by kernel_rfl) (fun _ _ _ h => h) (by rfl) ?_ (by assumption) ?_
                    rotate_left
                    · (intro wq hSw; (try dsimp only at hSw); go_simp; first | done | with_reducible rfl)
                    simp only [Act.put, List.setIfInBounds_toArray, List.set_cons_zero, List.set_cons_succ]
                    refine take_run 6 98 (v := ?_) rfl rfl (by kernel_rfl) (by kernel_rfl) (by kernel_rfl) (fun _ _ _ h => h) (by rfl) ?_ (by assumption) ?_
                    rotate_left
                    · (intro wq hSw; (try dsimp only at hSw); go_simp; first | done | with_reducible rfl)
                    simp only [Act.put, List.setIfInBounds_toArray, List.set_cons_zero, List.set_cons_succ]
                    refine take_run 7 99 (v := ?_) rfl rfl (by kernel_rfl) (by kernel_rfl) (by kernel_rfl) (fun _ _ _ h => h) (by rfl) ?_ (by assumption) ?_
                    rotate_left
                    · (intro wq hSw; (try dsimp only at hSw); go_simp; first | done | with_reducible rfl)
                    simp only [Act.put, List.setIfInBounds_toArray, List.set_cons_zero, List.set_cons_succ]
                    refine take_run 9 101 (v := ?_) rfl rfl (by kernel_rfl) (by kernel_rfl) (by kernel_rfl) (fun _ _ _ h => h) (by rfl) ?_ (by assumption) ?_
                    rotate_left
                    · (intro wq hSw; (try dsimp only at hSw); go_simp; first | done | with_reducible rfl)
                    simp only [Act.put, List.setIfInBounds_toArray, List.set_cons_zero, List.set_cons_succ]
                    refine take_run 10 102 (v := ?_) rfl rfl (by kernel_rfl) (by kernel_rfl) (by kernel_rfl) (fun _ _ _ h => h) (by rfl) ?_ (by assumption) ?_
                    rotate_left
                    · (intro wq hSw; (try dsimp only at hSw); go_simp; first | done | with_reducible rfl)
                    simp only [Act.put, List.setIfInBounds_toArray, List.set_cons_zero, List.set_cons_succ]
                    refine take_run 11 103 (v := ?_) rfl rfl (by kernel_rfl) (by kernel_rfl) (by kernel_rfl) (fun _ _ _ h => h) (by rfl) ?_ (by assumption) ?_
                    rotate_left
                    · (intro wq hSw; (try dsimp only at hSw); go_simp; first | done | with_reducible rfl)
                    simp only [Act.put, List.setIfInBounds_toArray, List.set_cons_zero, List.set_cons_succ]
                    refine take_run 12 104 (v := ?_) rfl rfl (by kernel_rfl) (by kernel_rfl) (by kernel_rfl) (fun _ _ _ h => h) (by rfl) ?_ (by assumption) ?_
                    rotate_left
                    · (intro wq hSw; (try dsimp only at hSw); go_simp; first | done | with_reducible rfl)
                    simp only [Act.put, List.setIfInBounds_toArray, List.set_cons_zero, List.set_cons_succ]
                    refine wpAnyH_ready (rs := [8]) (by kernel_rfl) (by simp) ?_
                    refine AllReadyH.cons rfl (fun K hK => ?_) AllReadyH.nil
                    go_simp
                    go_wp2_with (go_at_call 15; refine HNC.out.mono ?_; rintro r w5 ⟨rfl, hr5, hg5⟩; have HR5 := Lib.hid hr5; have HG5 := Lib.hid hg5; have hd0 := World.grownBy.cell hg5 (a := ⟨b0, off0 + k, none⟩) hc0 HE0.out; clear hr5 hg5)
                    refine hK.out _ _ (hd0) (fun hHeld => ?_)
                    clear hK K
                    refine take_run 13 105 (v := ?_) rfl rfl (by kernel_rfl) (by kernel_rfl) (by kernel_rfl) (fun _ _ _ h => h) (by rfl) ?_ (by assumption) ?_
                    rotate_left
                    · (intro wq hSw; (try dsimp only at hSw); go_simp; first | done | with_reducible rfl)
                    simp only [Act.put, List.setIfInBounds_toArray, List.set_cons_zero, List.set_cons_succ]
                    refine take_run 14 106 (v := ?_) rfl rfl (by kernel_rfl) (by kernel_rfl) (by kernel_rfl) (fun _ _ _ h => h) (by rfl) ?_ (by assumption) ?_
                    rotate_left
                    · (intro wq hSw; (try dsimp only at hSw); go_simp; first | done | with_reducible rfl)
                    simp only [Act.put, List.setIfInBounds_toArray, List.set_cons_zero, List.set_cons_succ]
                    refine take_run 15 107 (v := ?_) rfl rfl (by kernel_rfl) (by kernel_rfl) (by kernel_rfl) (fun _ _ _ h => h) (by rfl) ?_ (by assumption) ?_
                    rotate_left
                    · (intro wq hSw; (try dsimp only at hSw); go_simp; first | done | with_reducible rfl)
                    simp only [Act.put, List.setIfInBounds_toArray, List.set_cons_zero, List.set_cons_succ]
                    refine take_run 16 108 (v := ?_) rfl rfl (by kernel_rfl) (by kernel_rfl) (by kernel_rfl) (fun _ _ _ h => h) (by rfl) ?_ (by assumption) ?_
                    rotate_left
                    · (intro wq hSw; (try dsimp only at hSw); go_simp; first | done | with_reducible rfl)
                    simp only [Act.put, List.setIfInBounds_toArray, List.set_cons_zero, List.set_cons_succ]
                    refine take_run 17 109 (v := ?_) rfl rfl (by kernel_rfl) (by kernel_rfl) (by kernel_rfl) (fun _ _ _ h => h) (by rfl) ?_ (by assumption) ?_
                    rotate_left
                    · (intro wq hSw; (try dsimp only at hSw); go_simp; first | done | with_reducible rfl)
                    simp only [Act.put, List.setIfInBounds_toArray, List.set_cons_zero, List.set_cons_succ]
                    refine take_run 18 110 (v := ?_) rfl rfl (by kernel_rfl) (by kernel_rfl) (by kernel_rfl) (fun _ _ _ h => h) (by rfl) ?_ (by assumption) ?_
                    rotate_left
                    · (intro wq hSw; (try dsimp only at hSw); go_simp; first | done | with_reducible rfl)
                    simp only [Act.put, List.setIfInBounds_toArray, List.set_cons_zero, List.set_cons_succ]
                    refine take_run 19 111 (v := ?_) rfl rfl (by kernel_rfl) (by kernel_rfl) (by kernel_rfl) (fun _ _ _ h => h) (by rfl) ?_ (by assumption) ?_
                    rotate_left
                    · (intro wq hSw; (try dsimp only at hSw); go_simp; first | done | with_reducible rfl)
                    simp only [Act.put, List.setIfInBounds_toArray, List.set_cons_zero, List.set_cons_succ]
                    refine take_run 20 112 (v := ?_) rfl rfl (by kernel_rfl) (by kernel_rfl) (by kernel_rfl) (fun _ _ _ h => h) (by rfl) ?_ (by assumption) ?_
                    rotate_left
                    · (intro wq hSw; (try dsimp only at hSw); go_simp; first | done | with_reducible rfl)
                    simp only [Act.put, List.setIfInBounds_toArray, List.set_cons_zero, List.set_cons_succ]
                    refine take_run 21 113 (v := ?_) rfl rfl (by kernel_rfl) (by kernel_rfl) (by kernel_rfl) (fun _ _ _ h => h) (by rfl) ?_ (by assumption) ?_
                    rotate_left
                    · (intro wq hSw; (try dsimp only at hSw); go_simp; first | done | with_reducible rfl)
                    simp only [Act.put, List.setIfInBounds_toArray, List.set_cons_zero, List.set_cons_succ]
                    refine take_skip 22 114 rfl rfl (by kernel_rfl) (by kernel_rfl) (by kernel_rfl) (fun _ _ _ h => h) (by rfl) (by assumption) ?_
                    simp only [Act.put, List.setIfInBounds_toArray, List.set_cons_zero, List.set_cons_succ]
                    refine take_skip 23 115 rfl rfl (by kernel_rfl) (by kernel_rfl) (by kernel_rfl) (fun _ _ _ h => h) (by rfl) (by assumption) ?_
                    simp only [Act.put, List.setIfInBounds_toArray, List.set_cons_zero, List.set_cons_succ]
                    refine take_skip 24 116 rfl rfl (by kernel_rfl) (by kernel_rfl) (by kernel_rfl) (fun _ _ _ h => h) (by rfl) (by assumption) ?_
                    simp only [Act.put, List.setIfInBounds_toArray, List.set_cons_zero, List.set_cons_succ]
                    refine take_skip 25 117 rfl rfl (by kernel_rfl) (by kernel_rfl) (by kernel_rfl) (fun _ _ _ h => h) (by rfl) (by assumption) ?_
                    simp only [Act.put, List.setIfInBounds_toArray, List.set_cons_zero, List.set_cons_succ]
                    refine take_skip 26 118 rfl rfl (by kernel_rfl) (by kernel_rfl) (by kernel_rfl) (fun _ _ _ h => h) (by rfl) (by assumption) ?_
                    simp only [Act.put, List.setIfInBounds_toArray, List.set_cons_zero, List.set_cons_succ]
                    refine take_skip 27 119 rfl rfl (by kernel_rfl) (by kernel_rfl) (by kernel_rfl) (fun _ _ _ h => h) (by rfl) (by assumption) ?_
                    simp only [Act.put, List.setIfInBounds_toArray, List.set_cons_zero, List.set_cons_succ]
                    refine take_skip 28 120 rfl rfl (by kernel_rfl) (by kernel_rfl) (by kernel_rfl) (fun _ _ _ h => h) (by rfl) (by assumption) ?_
                    simp only [Act.put, List.setIfInBounds_toArray, List.set_cons_zero, List.set_cons_succ]
                    refine take_run 29 121 (v := ?_) rfl rfl (by kernel_rfl) (by kernel_rfl) (by kernel_rfl) (fun _ _ _ h => h) (by rfl) ?_ (by assumption) ?_
                    rotate_left
                    · (intro wq hSw; (try dsimp only at hSw); go_simp; first | done | with_reducible rfl)
                    simp only [Act.put, List.setIfInBounds_toArray, List.set_cons_zero, List.set_cons_succ]
                    refine take_run 30 122 (v := ?_) rfl rfl (by kernel_rfl) (by kernel_rfl) (by kernel_rfl) (fun _ _ _ h => h) (by rfl) ?_ (by assumption) ?_
                    rotate_left
                    · (intro wq hSw; (try dsimp only at hSw); go_simp; first | done | with_reducible rfl)
                    simp only [Act.put, List.setIfInBounds_toArray, List.set_cons_zero, List.set_cons_succ]
                    refine take_run 31 10 (v := ?_) rfl rfl (by kernel_rfl) (by kernel_rfl) (by kernel_rfl) (fun _ _ _ h => h) (by rfl) ?_ (by assumption) ?_
                    rotate_left
                    · (intro wq hSw; (try dsimp only at hSw); go_simp; first | done | with_reducible rfl)
                    simp only [Act.put, List.setIfInBounds_toArray, List.set_cons_zero, List.set_cons_succ]
                    refine wpAnyH_done (by kernel_rfl) ?_ _
                    go_wp2_with fail
                    go_roundw
                    case rel =>
                      refine ⟨k + 1, q1, true, by omega, by go_num, rfl, HR5.out, hq1', ?_, below_grown HB4.out.drew HG5.out (Nat.le_refl _) HB4.out.size⟩
                      by_cases hc : behind vs ts (k + 1) ≠ [] ∨ j = 0
                      · exact (HNM.out.1 hc).2
                      · exact HNM.out.2 _ hc
                    case measure => simp [intOf]; omega
                  · have hyb : ((y : Int) == (x : Int)) = false := by
                      rw [beq_eq_false_iff_ne]
                      omega
                    have HYX := Lib.hid hyx
                    clear hyx
                    go_wp2_with fail
                    refine wp_region_held_drew (S := fun w' => w'.cell? ⟨b0, off0 + k, none⟩ = some (.int .u64 (x : Int))) (by kernel_rfl) (hc0) (fun hHeld => ?_)
                    refine take_run 0 92 (v := ?_) rfl rfl (by kernel_rfl) (by kernel_rfl) (by kernel_rfl) (fun _ _ _ h => h) (by rfl) ?_ (by assumption) ?_
                    rotate_left
                    · (intro wq hSw; (try dsimp only at hSw); go_simp; first | done | with_reducible rfl)
                    simp only [Act.put, List.setIfInBounds_toArray, List.set_cons_zero, List.set_cons_succ]
                    refine take_run 1 93 (v := ?_) rfl rfl (by kernel_rfl) (by kernel_rfl) (by kernel_rfl) (fun _ _ _ h => h) (by rfl) ?_ (by assumption) ?_
                    rotate_left
                    · (intro wq hSw; (try dsimp only at hSw); go_simp; first | done | with_reducible rfl)
                    simp only [Act.put, List.setIfInBounds_toArray, List.set_cons_zero, List.set_cons_succ]
                    refine take_run 2 94 (v := ?_) rfl rfl (by kernel_rfl) (by kernel_rfl) (by kernel_rfl) (fun _ _ _ h => h) (by rfl) ?_ (by assumption) ?_
                    rotate_left
                    · (intro wq hSw; (try dsimp only at hSw); go_simp; first | done | with_reducible rfl)
                    simp only [Act.put, List.setIfInBounds_toArray, List.set_cons_zero, List.set_cons_succ]
                    refine take_run 3 95 (v := ?_) rfl rfl (by kernel_rfl) (by kernel_rfl) (by kernel_rfl) (fun _ _ _ h => h) (by rfl) ?_ (by assumption) ?_
                    rotate_left
                    · (intro wq hSw; (try dsimp only at hSw); go_simp; first | done | with_reducible rfl)
                    simp only [Act.put, List.setIfInBounds_toArray, List.set_cons_zero, List.set_cons_succ]
                    refine take_run 4 96 (v := ?_) rfl rfl (by kernel_rfl) (by kernel_rfl) (by kernel_rfl) (fun _ _ _ h => h) (by rfl) ?_ (by assumption) ?_
                    rotate_left
                    · (intro wq hSw; (try dsimp only at hSw); go_simp; first | done | with_reducible rfl)
                    simp only [Act.put, List.setIfInBounds_toArray, List.set_cons_zero, List.set_cons_succ]
                    refine take_run 5 97 (v := ?_) rfl rfl (by kernel_rfl) (by kernel_rfl) (by kernel_rfl) (fun _ _ _ h => h) (by rfl) ?_ (by assumption) ?_
                    rotate_left
                    · (intro wq hSw; (try dsimp only at hSw); go_simp; first | done | with_reducible rfl)
                    simp only [Act.put, List.setIfInBounds_toArray, List.set_cons_zero, List.set_cons_succ]
                    refine take_run 6 98 (v := ?_) rfl rfl (by kernel_rfl) (by kernel_rfl) (by kernel_rfl) (fun _ _ _ h => h) (by rfl) ?_ (by assumption) ?_
                    rotate_left
                    · (intro wq hSw; (try dsimp only at hSw); go_simp; first | done | with_reducible rfl)
                    simp only [Act.put, List.setIfInBounds_toArray, List.set_cons_zero, List.set_cons_succ]
                    refine take_run 7 99 (v := ?_) rfl rfl (by kernel_rfl) (by kernel_rfl) (by kernel_rfl) (fun _ _ _ h => h) (by rfl) ?_ (by assumption) ?_
                    rotate_left
                    · (intro wq hSw; (try dsimp only at hSw); go_simp; first | done | with_reducible rfl)
                    simp only [Act.put, List.setIfInBounds_toArray, List.set_cons_zero, List.set_cons_succ]
                    refine take_run 9 101 (v := ?_) rfl rfl (by kernel_rfl) (by kernel_rfl) (by kernel_rfl) (fun _ _ _ h => h) (by rfl) ?_ (by assumption) ?_
                    rotate_left
                    · (intro wq hSw; (try dsimp only at hSw); go_simp; first | done | with_reducible rfl)
                    simp only [Act.put, List.setIfInBounds_toArray, List.set_cons_zero, List.set_cons_succ]
                    refine take_run 10 102 (v := ?_) rfl rfl (by kernel_rfl) (by kernel_rfl) (by kernel_rfl) (fun _ _ _ h => h) (by rfl) ?_ (by assumption) ?_
                    rotate_left
                    · (intro wq hSw; (try dsimp only at hSw); go_simp; first | done | with_reducible rfl)
                    simp only [Act.put, List.setIfInBounds_toArray, List.set_cons_zero, List.set_cons_succ]
                    refine take_run 11 103 (v := ?_) rfl rfl (by kernel_rfl) (by kernel_rfl) (by kernel_rfl) (fun _ _ _ h => h) (by rfl) ?_ (by assumption) ?_
                    rotate_left
                    · (intro wq hSw; (try dsimp only at hSw); go_simp; first | done | with_reducible rfl)
                    simp only [Act.put, List.setIfInBounds_toArray, List.set_cons_zero, List.set_cons_succ]
                    refine take_run 12 104 (v := ?_) rfl rfl (by kernel_rfl) (by kernel_rfl) (by kernel_rfl) (fun _ _ _ h => h) (by rfl) ?_ (by assumption) ?_
                    rotate_left
                    · (intro wq hSw; (try dsimp only at hSw); go_simp; first | done | with_reducible rfl)
                    simp only [Act.put, List.setIfInBounds_toArray, List.set_cons_zero, List.set_cons_succ]
                    refine wpAnyH_ready (rs := [8]) (by kernel_rfl) (by simp) ?_
                    refine AllReadyH.cons rfl (fun K hK => ?_) AllReadyH.nil
                    go_simp
                    go_wp2_with (go_at_call 15; refine HNC.out.mono ?_; rintro r w5 ⟨rfl, hr5, hg5⟩; have HR5 := Lib.hid hr5; have HG5 := Lib.hid hg5; have hd0 := World.grownBy.cell hg5 (a := ⟨b0, off0 + k, none⟩) hc0 HE0.out; clear hr5 hg5)
                    refine hK.out _ _ (hd0) (fun hHeld => ?_)
                    clear hK K
                    refine take_run 13 105 (v := ?_) rfl rfl (by kernel_rfl) (by kernel_rfl) (by kernel_rfl) (fun _ _ _ h => h) (by rfl) ?_ (by assumption) ?_
                    rotate_left
                    · (intro wq hSw; (try dsimp only at hSw); go_simp; first | done | with_reducible rfl)
                    simp only [Act.put, List.setIfInBounds_toArray, List.set_cons_zero, List.set_cons_succ]
                    refine take_run 14 106 (v := ?_) rfl rfl (by kernel_rfl) (by kernel_rfl) (by kernel_rfl) (fun _ _ _ h => h) (by rfl) ?_ (by assumption) ?_
                    rotate_left
                    · (intro wq hSw; (try dsimp only at hSw); go_simp; first | done | with_reducible rfl)
                    simp only [Act.put, List.setIfInBounds_toArray, List.set_cons_zero, List.set_cons_succ]
                    refine take_run 15 107 (v := ?_) rfl rfl (by kernel_rfl) (by kernel_rfl) (by kernel_rfl) (fun _ _ _ h => h) (by rfl) ?_ (by assumption) ?_
                    rotate_left
                    · (intro wq hSw; (try dsimp only at hSw); go_simp; first | done | with_reducible rfl)
                    simp only [Act.put, List.setIfInBounds_toArray, List.set_cons_zero, List.set_cons_succ]
                    refine take_run 16 108 (v := ?_) rfl rfl (by kernel_rfl) (by kernel_rfl) (by kernel_rfl) (fun _ _ _ h => h) (by rfl) ?_ (by assumption) ?_
                    rotate_left
                    · (intro wq hSw; (try dsimp only at hSw); go_simp; first | done | with_reducible rfl)
                    simp only [Act.put, List.setIfInBounds_toArray, List.set_cons_zero, List.set_cons_succ]
                    refine take_skip 17 109 rfl rfl (by kernel_rfl) (by kernel_rfl) (by kernel_rfl) (fun _ _ _ h => h) (by rfl) (by assumption) ?_
                    simp only [Act.put, List.setIfInBounds_toArray, List.set_cons_zero, List.set_cons_succ]
                    refine take_skip 18 110 rfl rfl (by kernel_rfl) (by kernel_rfl) (by kernel_rfl) (fun _ _ _ h => h) (by rfl) (by assumption) ?_
                    simp only [Act.put, List.setIfInBounds_toArray, List.set_cons_zero, List.set_cons_succ]
                    refine take_skip 19 111 rfl rfl (by kernel_rfl) (by kernel_rfl) (by kernel_rfl) (fun _ _ _ h => h) (by rfl) (by assumption) ?_
                    simp only [Act.put, List.setIfInBounds_toArray, List.set_cons_zero, List.set_cons_succ]
                    refine take_skip 20 112 rfl rfl (by kernel_rfl) (by kernel_rfl) (by kernel_rfl) (fun _ _ _ h => h) (by rfl) (by assumption) ?_
                    simp only [Act.put, List.setIfInBounds_toArray, List.set_cons_zero, List.set_cons_succ]
                    refine take_skip 21 113 rfl rfl (by kernel_rfl) (by kernel_rfl) (by kernel_rfl) (fun _ _ _ h => h) (by rfl) (by assumption) ?_
                    simp only [Act.put, List.setIfInBounds_toArray, List.set_cons_zero, List.set_cons_succ]
                    refine take_skip 22 114 rfl rfl (by kernel_rfl) (by kernel_rfl) (by kernel_rfl) (fun _ _ _ h => h) (by rfl) (by assumption) ?_
                    simp only [Act.put, List.setIfInBounds_toArray, List.set_cons_zero, List.set_cons_succ]
                    refine take_skip 23 115 rfl rfl (by kernel_rfl) (by kernel_rfl) (by kernel_rfl) (fun _ _ _ h => h) (by rfl) (by assumption) ?_
                    simp only [Act.put, List.setIfInBounds_toArray, List.set_cons_zero, List.set_cons_succ]
                    refine take_skip 24 116 rfl rfl (by kernel_rfl) (by kernel_rfl) (by kernel_rfl) (fun _ _ _ h => h) (by rfl) (by assumption) ?_
                    simp only [Act.put, List.setIfInBounds_toArray, List.set_cons_zero, List.set_cons_succ]
                    refine take_skip 25 117 rfl rfl (by kernel_rfl) (by kernel_rfl) (by kernel_rfl) (fun _ _ _ h => h) (by rfl) (by assumption) ?_
                    simp only [Act.put, List.setIfInBounds_toArray, List.set_cons_zero, List.set_cons_succ]
                    refine take_skip 26 118 rfl rfl (by kernel_rfl) (by kernel_rfl) (by kernel_rfl) (fun _ _ _ h => h) (by rfl) (by assumption) ?_
                    simp only [Act.put, List.setIfInBounds_toArray, List.set_cons_zero, List.set_cons_succ]
                    refine take_skip 27 119 rfl rfl (by kernel_rfl) (by kernel_rfl) (by kernel_rfl) (fun _ _ _ h => h) (by rfl) (by assumption) ?_
                    simp only [Act.put, List.setIfInBounds_toArray, List.set_cons_zero, List.set_cons_succ]
                    refine take_skip 28 120 rfl rfl (by kernel_rfl) (by kernel_rfl) (by kernel_rfl) (fun _ _ _ h => h) (by rfl) (by assumption) ?_
                    simp only [Act.put, List.setIfInBounds_toArray, List.set_cons_zero, List.set_cons_succ]
                    refine take_skip 29 121 rfl rfl (by kernel_rfl) (by kernel_rfl) (by kernel_rfl) (fun _ _ _ h => h) (by rfl) (by assumption) ?_
                    simp only [Act.put, List.setIfInBounds_toArray, List.set_cons_zero, List.set_cons_succ]
                    refine take_run 30 122 (v := ?_) rfl rfl (by kernel_rfl) (by kernel_rfl) (by kernel_rfl) (fun _ _ _ h => h) (by rfl) ?_ (by assumption) ?_
                    rotate_left
                    · (intro wq hSw; (try dsimp only at hSw); go_simp; first | done | with_reducible rfl)
                    simp only [Act.put, List.setIfInBounds_toArray, List.set_cons_zero, List.set_cons_succ]
                    refine take_run 31 10 (v := ?_) rfl rfl (by kernel_rfl) (by kernel_rfl) (by kernel_rfl) (fun _ _ _ h => h) (by rfl) ?_ (by assumption) ?_
                    rotate_left
                    · (intro wq hSw; (try dsimp only at hSw); go_simp; first | done | with_reducible rfl)
                    simp only [Act.put, List.setIfInBounds_toArray, List.set_cons_zero, List.set_cons_succ]
                    refine wpAnyH_done (by kernel_rfl) ?_ _
                    go_wp2_with fail
                    go_roundw
                    case rel =>
                      refine ⟨k + 1, q1, false, by omega, by go_num, rfl, HR5.out, hq1', ?_, below_grown HB4.out.drew HG5.out (Nat.le_refl _) HB4.out.size⟩
                      by_cases hc : behind vs ts (k + 1) ≠ [] ∨ j = 0
                      · exact absurd (HNM.out.1 hc).1 HYX.out
                      · exact HNM.out.2 _ hc
                    case measure => simp [intOf]; omega
              · by_cases kt4 : k < ts.length
                · have hy : (tc ts)[k]? = some (.string ts[k]) := by simp [tc, kt4]
                  obtain ⟨b1, off1, rfl, hb1, hcell1⟩ := H1.out.at_ hy
                  have hc1 : w4.cell? ⟨b1, off1 + k, none⟩ = some (.string ts[k]) := (HW4.out.cell (p := ⟨b1, off1 + k, none⟩) hb1).trans hcell1
                  have hne1 : some b1 ≠ some w2.heap.size := by
                    have := HB2.out.size
                    intro h
                    injection h with h
                    omega
                  have hstep := behind_step (vs := vs) (ts := ts) (i := k) (by omega)
                  rw [numAt_ge (by omega), textAt_lt kt4, List.nil_append] at hstep
                  have hbT : b = true := HBK.out.same_true (by rw [hstep]; exact encText_ne _ _)
                  subst hbT
                  have hbk2 := HBK.out
                  rw [hstep] at hbk2
                  have hTxt := hbk2.text (by rw [size_data]; exact HT2.out k _ (List.getElem?_eq_getElem kt4))
                  have HTX := Lib.hid hTxt
                  have HNC := Lib.hid (text_rds (rds_drew HR4.out) (by omega) 1000 (by decide))
                  clear hcell1 hy hstep hbk2 HBK hTxt
                  generalize ts[k] = t at *
                  have HE1 := Lib.hid hne1
                  clear hne1
                  have hgv : decide (vs.length ≤ k) = true := by simp; omega
                  have hgt : decide (ts.length ≤ k) = false := by simp; omega
                  go_wp2_with fail
                  refine wp_region_held_drew (S := fun w' => w'.cell? ⟨b1, off1 + k, none⟩ = some (.string t)) (by kernel_rfl) (hc1) (fun hHeld => ?_)
                  refine take_run 0 92 (v := ?_) rfl rfl (by kernel_rfl) (by kernel_rfl) (by kernel_rfl) (fun _ _ _ h => h) (by rfl) ?_ (by assumption) ?_
                  rotate_left
                  · (intro wq hSw; (try dsimp only at hSw); go_simp; first | done | with_reducible rfl)
                  simp only [Act.put, List.setIfInBounds_toArray, List.set_cons_zero, List.set_cons_succ]
                  refine take_run 1 93 (v := ?_) rfl rfl (by kernel_rfl) (by kernel_rfl) (by kernel_rfl) (fun _ _ _ h => h) (by rfl) ?_ (by assumption) ?_
                  rotate_left
                  · (intro wq hSw; (try dsimp only at hSw); go_simp; first | done | with_reducible rfl)
                  simp only [Act.put, List.setIfInBounds_toArray, List.set_cons_zero, List.set_cons_succ]
                  refine take_run 2 94 (v := ?_) rfl rfl (by kernel_rfl) (by kernel_rfl) (by kernel_rfl) (fun _ _ _ h => h) (by rfl) ?_ (by assumption) ?_
                  rotate_left
                  · (intro wq hSw; (try dsimp only at hSw); go_simp; first | done | with_reducible rfl)
                  simp only [Act.put, List.setIfInBounds_toArray, List.set_cons_zero, List.set_cons_succ]
                  refine take_run 3 95 (v := ?_) rfl rfl (by kernel_rfl) (by kernel_rfl) (by kernel_rfl) (fun _ _ _ h => h) (by rfl) ?_ (by assumption) ?_
                  rotate_left
                  · (intro wq hSw; (try dsimp only at hSw); go_simp; first | done | with_reducible rfl)
                  simp only [Act.put, List.setIfInBounds_toArray, List.set_cons_zero, List.set_cons_succ]
                  refine take_run 4 96 (v := ?_) rfl rfl (by kernel_rfl) (by kernel_rfl) (by kernel_rfl) (fun _ _ _ h => h) (by rfl) ?_ (by assumption) ?_
                  rotate_left
                  · (intro wq hSw; (try dsimp only at hSw); go_simp; first | done | with_reducible rfl)
                  simp only [Act.put, List.setIfInBounds_toArray, List.set_cons_zero, List.set_cons_succ]
                  refine take_run 5 97 (v := ?_) rfl rfl (by kernel_rfl) (by kernel_rfl) (by kernel_rfl) (fun _ _ _ h => h) (by rfl) ?_ (by assumption) ?_
                  rotate_left
                  · (intro wq hSw; (try dsimp only at hSw); go_simp; first | done | with_reducible rfl)
                  simp only [Act.put, List.setIfInBounds_toArray, List.set_cons_zero, List.set_cons_succ]
                  refine take_run 6 98 (v := ?_) rfl rfl (by kernel_rfl) (by kernel_rfl) (by kernel_rfl) (fun _ _ _ h => h) (by rfl) ?_ (by assumption) ?_
                  rotate_left
                  · (intro wq hSw; (try dsimp only at hSw); go_simp; first | done | with_reducible rfl)
                  simp only [Act.put, List.setIfInBounds_toArray, List.set_cons_zero, List.set_cons_succ]
                  refine take_skip 7 99 rfl rfl (by kernel_rfl) (by kernel_rfl) (by kernel_rfl) (fun _ _ _ h => h) (by rfl) (by assumption) ?_
                  simp only [Act.put, List.setIfInBounds_toArray, List.set_cons_zero, List.set_cons_succ]
                  refine take_skip 8 100 rfl rfl (by kernel_rfl) (by kernel_rfl) (by kernel_rfl) (fun _ _ _ h => h) (by rfl) (by assumption) ?_
                  simp only [Act.put, List.setIfInBounds_toArray, List.set_cons_zero, List.set_cons_succ]
                  refine take_skip 9 101 rfl rfl (by kernel_rfl) (by kernel_rfl) (by kernel_rfl) (fun _ _ _ h => h) (by rfl) (by assumption) ?_
                  simp only [Act.put, List.setIfInBounds_toArray, List.set_cons_zero, List.set_cons_succ]
                  refine take_skip 10 102 rfl rfl (by kernel_rfl) (by kernel_rfl) (by kernel_rfl) (fun _ _ _ h => h) (by rfl) (by assumption) ?_
                  simp only [Act.put, List.setIfInBounds_toArray, List.set_cons_zero, List.set_cons_succ]
                  refine take_skip 11 103 rfl rfl (by kernel_rfl) (by kernel_rfl) (by kernel_rfl) (fun _ _ _ h => h) (by rfl) (by assumption) ?_
                  simp only [Act.put, List.setIfInBounds_toArray, List.set_cons_zero, List.set_cons_succ]
                  refine take_skip 12 104 rfl rfl (by kernel_rfl) (by kernel_rfl) (by kernel_rfl) (fun _ _ _ h => h) (by rfl) (by assumption) ?_
                  simp only [Act.put, List.setIfInBounds_toArray, List.set_cons_zero, List.set_cons_succ]
                  refine take_skip 13 105 rfl rfl (by kernel_rfl) (by kernel_rfl) (by kernel_rfl) (fun _ _ _ h => h) (by rfl) (by assumption) ?_
                  simp only [Act.put, List.setIfInBounds_toArray, List.set_cons_zero, List.set_cons_succ]
                  refine take_run 14 106 (v := ?_) rfl rfl (by kernel_rfl) (by kernel_rfl) (by kernel_rfl) (fun _ _ _ h => h) (by rfl) ?_ (by assumption) ?_
                  rotate_left
                  · (intro wq hSw; (try dsimp only at hSw); go_simp; first | done | with_reducible rfl)
                  simp only [Act.put, List.setIfInBounds_toArray, List.set_cons_zero, List.set_cons_succ]
                  refine take_run 15 107 (v := ?_) rfl rfl (by kernel_rfl) (by kernel_rfl) (by kernel_rfl) (fun _ _ _ h => h) (by rfl) ?_ (by assumption) ?_
                  rotate_left
                  · (intro wq hSw; (try dsimp only at hSw); go_simp; first | done | with_reducible rfl)
                  simp only [Act.put, List.setIfInBounds_toArray, List.set_cons_zero, List.set_cons_succ]
                  refine take_run 16 108 (v := ?_) rfl rfl (by kernel_rfl) (by kernel_rfl) (by kernel_rfl) (fun _ _ _ h => h) (by rfl) ?_ (by assumption) ?_
                  rotate_left
                  · (intro wq hSw; (try dsimp only at hSw); go_simp; first | done | with_reducible rfl)
                  simp only [Act.put, List.setIfInBounds_toArray, List.set_cons_zero, List.set_cons_succ]
                  refine take_run 17 109 (v := ?_) rfl rfl (by kernel_rfl) (by kernel_rfl) (by kernel_rfl) (fun _ _ _ h => h) (by rfl) ?_ (by assumption) ?_
                  rotate_left
                  · (intro wq hSw; (try dsimp only at hSw); go_simp; first | done | with_reducible rfl)
                  simp only [Act.put, List.setIfInBounds_toArray, List.set_cons_zero, List.set_cons_succ]
                  refine take_run 18 110 (v := ?_) rfl rfl (by kernel_rfl) (by kernel_rfl) (by kernel_rfl) (fun _ _ _ h => h) (by rfl) ?_ (by assumption) ?_
                  rotate_left
                  · (intro wq hSw; (try dsimp only at hSw); go_simp; first | done | with_reducible rfl)
                  simp only [Act.put, List.setIfInBounds_toArray, List.set_cons_zero, List.set_cons_succ]
                  refine take_run 19 111 (v := ?_) rfl rfl (by kernel_rfl) (by kernel_rfl) (by kernel_rfl) (fun _ _ _ h => h) (by rfl) ?_ (by assumption) ?_
                  rotate_left
                  · (intro wq hSw; (try dsimp only at hSw); go_simp; first | done | with_reducible rfl)
                  simp only [Act.put, List.setIfInBounds_toArray, List.set_cons_zero, List.set_cons_succ]
                  refine take_run 20 112 (v := ?_) rfl rfl (by kernel_rfl) (by kernel_rfl) (by kernel_rfl) (fun _ _ _ h => h) (by rfl) ?_ (by assumption) ?_
                  rotate_left
                  · (intro wq hSw; (try dsimp only at hSw); go_simp; first | done | with_reducible rfl)
                  simp only [Act.put, List.setIfInBounds_toArray, List.set_cons_zero, List.set_cons_succ]
                  refine take_run 21 113 (v := ?_) rfl rfl (by kernel_rfl) (by kernel_rfl) (by kernel_rfl) (fun _ _ _ h => h) (by rfl) ?_ (by assumption) ?_
                  rotate_left
                  · (intro wq hSw; (try dsimp only at hSw); go_simp; first | done | with_reducible rfl)
                  simp only [Act.put, List.setIfInBounds_toArray, List.set_cons_zero, List.set_cons_succ]
                  refine take_run 22 114 (v := ?_) rfl rfl (by kernel_rfl) (by kernel_rfl) (by kernel_rfl) (fun _ _ _ h => h) (by rfl) ?_ (by assumption) ?_
                  rotate_left
                  · (intro wq hSw; (try dsimp only at hSw); go_simp; first | done | with_reducible rfl)
                  simp only [Act.put, List.setIfInBounds_toArray, List.set_cons_zero, List.set_cons_succ]
                  refine take_run 24 116 (v := ?_) rfl rfl (by kernel_rfl) (by kernel_rfl) (by kernel_rfl) (fun _ _ _ h => h) (by rfl) ?_ (by assumption) ?_
                  rotate_left
                  · (intro wq hSw; (try dsimp only at hSw); go_simp; first | done | with_reducible rfl)
                  simp only [Act.put, List.setIfInBounds_toArray, List.set_cons_zero, List.set_cons_succ]
                  refine take_run 25 117 (v := ?_) rfl rfl (by kernel_rfl) (by kernel_rfl) (by kernel_rfl) (fun _ _ _ h => h) (by rfl) ?_ (by assumption) ?_
                  rotate_left
                  · (intro wq hSw; (try dsimp only at hSw); go_simp; first | done | with_reducible rfl)
                  simp only [Act.put, List.setIfInBounds_toArray, List.set_cons_zero, List.set_cons_succ]
                  refine take_run 26 118 (v := ?_) rfl rfl (by kernel_rfl) (by kernel_rfl) (by kernel_rfl) (fun _ _ _ h => h) (by rfl) ?_ (by assumption) ?_
                  rotate_left
                  · (intro wq hSw; (try dsimp only at hSw); go_simp; first | done | with_reducible rfl)
                  simp only [Act.put, List.setIfInBounds_toArray, List.set_cons_zero, List.set_cons_succ]
                  refine take_run 27 119 (v := ?_) rfl rfl (by kernel_rfl) (by kernel_rfl) (by kernel_rfl) (fun _ _ _ h => h) (by rfl) ?_ (by assumption) ?_
                  rotate_left
                  · (intro wq hSw; (try dsimp only at hSw); go_simp; first | done | with_reducible rfl)
                  simp only [Act.put, List.setIfInBounds_toArray, List.set_cons_zero, List.set_cons_succ]
                  refine wpAnyH_ready (rs := [23]) (by kernel_rfl) (by simp) ?_
                  refine AllReadyH.cons rfl (fun K hK => ?_) AllReadyH.nil
                  go_simp
                  go_wp2_with (go_at_call 19; refine HNC.out.mono ?_; rintro r w6 ⟨rfl, hr6, hg6⟩; have HR6 := Lib.hid hr6; have HG6 := Lib.hid hg6; have he1 := World.grownBy.cell hg6 (a := ⟨b1, off1 + k, none⟩) hc1 HE1.out; clear hr6 hg6)
                  refine hK.out _ _ (he1) (fun hHeld => ?_)
                  clear hK K
                  refine take_run 28 120 (v := ?_) rfl rfl (by kernel_rfl) (by kernel_rfl) (by kernel_rfl) (fun _ _ _ h => h) (by rfl) ?_ (by assumption) ?_
                  rotate_left
                  · (intro wq hSw; (try dsimp only at hSw); go_simp; first | done | with_reducible rfl)
                  simp only [Act.put, List.setIfInBounds_toArray, List.set_cons_zero, List.set_cons_succ]
                  refine take_run 29 121 (v := ?_) rfl rfl (by kernel_rfl) (by kernel_rfl) (by kernel_rfl) (fun _ _ _ h => h) (by rfl) ?_ (by assumption) ?_
                  rotate_left
                  · (intro wq hSw; (try dsimp only at hSw); go_simp; first | done | with_reducible rfl)
                  simp only [Act.put, List.setIfInBounds_toArray, List.set_cons_zero, List.set_cons_succ]
                  refine take_run 30 122 (v := ?_) rfl rfl (by kernel_rfl) (by kernel_rfl) (by kernel_rfl) (fun _ _ _ h => h) (by rfl) ?_ (by assumption) ?_
                  rotate_left
                  · (intro wq hSw; (try dsimp only at hSw); go_simp; first | done | with_reducible rfl)
                  simp only [Act.put, List.setIfInBounds_toArray, List.set_cons_zero, List.set_cons_succ]
                  refine take_run 31 10 (v := ?_) rfl rfl (by kernel_rfl) (by kernel_rfl) (by kernel_rfl) (fun _ _ _ h => h) (by rfl) ?_ (by assumption) ?_
                  rotate_left
                  · (intro wq hSw; (try dsimp only at hSw); go_simp; first | done | with_reducible rfl)
                  simp only [Act.put, List.setIfInBounds_toArray, List.set_cons_zero, List.set_cons_succ]
                  refine wpAnyH_done (by kernel_rfl) ?_ _
                  go_wp2_with fail
                  go_roundw
                  case rel =>
                    refine ⟨k + 1, stText 1000 q, (stTextV 1000 q == t.toList), by omega, by go_num, rfl, HR6.out, Nat.le_trans (stText_len 1000 q) hq4, ?_, below_grown HB4.out.drew HG6.out (Nat.le_refl _) HB4.out.size⟩
                    by_cases hc : behind vs ts (k + 1) ≠ [] ∨ j = 0
                    · obtain ⟨e, hb⟩ := HTX.out.1 hc
                      rw [e, Lib.toList_data]
                      simpa using hb
                    · exact HTX.out.2 _ hc
                  case measure => simp [intOf]; omega
                · have hbt := behind_top (vs := vs) (ts := ts) (i := k) (by unfold top; omega)
                  have hbk2 := HBK.out
                  rw [hbt] at hbk2
                  have hend := end_rds HR4.out
                  have HA4 := Lib.hid (HA2.out.below HB4.out)
                  rcases hbk2 with ⟨rfl, rfl, rfl⟩ | ⟨_, hne, _⟩ | ⟨rfl, _, hq0⟩
                  · have HEN := Lib.hid hend
                    clear hend hbt HBK
                    go_wp2_with fail
                    refine HEN.out.mono ?_
                    rintro r w' ⟨rfl, rfl⟩
                    have he0 : stEnd ([], 0) = 0 := rfl
                    rw [he0]
                    clear HEN he0
                    go_wp2_with fail
                    go_roundw
                    case rel => exact ⟨1, by omega, by go_num, HA4.out, HW4.out⟩
                    case measure => simp [intOf]
                  · exact absurd rfl hne
                  · have he : stEnd q = q.2 := by
                      unfold stEnd
                      rw [if_neg hq0]
                    rw [he] at hend
                    have HEN := Lib.hid hend
                    have hqb : (q.2 == 0) = false := by simpa using hq0
                    clear hend hbt HBK he hq0
                    generalize q.2 = e at *
                    go_wp2_with fail
                    refine HEN.out.mono ?_
                    rintro r w' ⟨rfl, rfl⟩
                    clear HEN
                    go_wp2_with fail
                    go_roundw
                    case rel => exact ⟨2, by omega, by go_num, HA4.out, HW4.out⟩
                    case measure => simp [intOf]

theorem back_walk (A0 : Option Addr) (n0 c0 : Nat) (vs : List Nat) (w : World) (h0 : Arg w A0 n0 c0 (nc vs)) (hv : ∀ x ∈ vs, x < 18446744073709551616) (A1 : Option Addr) (n1 c1 : Nat) (ts : List ByteArray) (h1 : Arg w A1 n1 c1 (tc ts)) :
    Calls Try.prog 5 #[.slice A0 n0 c0, .slice A1 n1 c1] w (Yes w) := by
  by_cases b0 : (60 : Int) < (n0 : Int)
  · go_enter Try.func5, Try.ntmps5
    go_wp2
    go_ret
    exact ⟨rfl, Below.refl _ _⟩
  · by_cases b1 : (20 : Int) < (n1 : Int)
    · go_enter Try.func5, Try.ntmps5
      go_wp2
      go_ret
      exact ⟨rfl, Below.refl _ _⟩
    · have e0 : vs.length = n0 := by have := h0.len; rwa [nc_length] at this
      have e1 : ts.length = n1 := by have := h1.len; rwa [tc_length] at this
      subst e0
      subst e1
      exact back_main A0 A1 c0 c1 vs ts w h0.sl h1.sl hv (by omega) (by omega)

end Go.Proofs.Yteabpbmecdenjaa
