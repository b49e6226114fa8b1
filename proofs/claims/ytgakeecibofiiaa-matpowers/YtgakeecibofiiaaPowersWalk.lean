/-
  MatPowers walked.
-/
import Derived.Test.YtgakeecibofiiaaLawOne
import Derived.Test.YtgakeecibofiiaaPowersL
import Derived.Test.YtgakeecibofiiaaRefMake
namespace Go.Proofs.Ytgakeecibofiiaa
open Go.RowKit Go.Shelf

theorem col_succ {p : List UInt8} {k : Nat} {u : UInt8} (h : p[k]? = some u) : colL (p.take (k + 1)) = colL (p.take k) ++ [[u]] := by
  rw [List.take_add_one, h]
  simp [colL]
theorem append_rowG {ops : Array Oper} {rest : List Oper} {o : Oper} {a : Act} {Q : Exit → Act → World → Prop} (w : World) (s x : Operand) (hgd : o.guard = none)
    (hop : o.op = .call { callee := .builtin .append, args := #[s, x], argTypes := #[22, 22] })
    (base : Nat) (v : Value) (M : List (List UInt8)) (A : Option Addr) (n c : Nat) (l : List UInt8) (hn : l.length = n) (g : Nat) (hg : g = w.heap.size) (hs : a.eval s = v) (hx : a.eval x = .slice (some ⟨g, 0, none⟩) 1 1) (hbl : Bld w base v M) (hl : Lies w (Nb w) A n c (bc l)) (hz : M.length ≤ 100000) (hb : base ≤ w.heap.size)
    (K : ∀ v' w', Bld w' base v' (M ++ [l]) → Below base w w' → wpList Try.prog ops Q rest (a.put o.dst v') w') : wpList Try.prog ops Q (o :: rest) a (w.alloc (.cells #[.slice A n c] 31)) := by
  subst hg
  exact append_rowN w s x hgd hop base v M A n c l hn hs hx hbl hl hz hb K
set_option maxRecDepth 100000 in
set_option maxHeartbeats 4000000 in
theorem matPowers_walk (A : Option Addr) (n c : Nat) (l : List UInt8) (B : Option Addr) (m d : Nat) (p : List UInt8) (w : World) (hA : Lies w (fun _ => True) A n c (bc l)) (hB : Lies w (fun _ => True) B m d (bc p)) : Calls Try.prog 9 #[.slice A n c, .slice B m d] w fun e w' => e = .returned (.bool true) ∧ Below w.heap.size w w' := by
  have HB := Lib.hid (Below.refl w.heap.size w)
  have HL := Lib.hid hA
  have HP := Lib.hid hB
  have hln : l.length = n := by rw [← bc_length]; exact hA.len
  have hpm : p.length = m := by rw [← bc_length]; exact hB.len
  clear hA hB
  by_cases t1 : 12 < n
  · have t1' : (12 : Int) < (n : Int) := by omega
    go_enter Try.func9, Try.ntmps9
    go_wp2
    go_ret
    exact ⟨rfl, HB.out⟩
  by_cases t2 : 12 < m
  · have t1' : ¬ (12 : Int) < (n : Int) := by omega
    have t2' : (12 : Int) < (m : Int) := by omega
    go_enter Try.func9, Try.ntmps9
    go_wp2
    go_ret
    exact ⟨rfl, HB.out⟩
  have t1' : ¬ (12 : Int) < (n : Int) := by omega
  have t2' : ¬ (12 : Int) < (m : Int) := by omega
  have hn255 : n ≤ 255 := by omega
  by_cases h1 : n = 0
  · subst h1
    have pz : ∀ P w, Calls Try.prog 31 #[.pointer P, .slice A 0 c, .int .i64 (m : Int)] w (GivesE w [] 2) := fun P w => powers_no P A 0 c m (.inl rfl) (by omega) w
    go_enter Try.func9, Try.ntmps9
    go_wp2_with (first
      | (go_at_call 11; (with_reducible refine (new_says _).mono ?_); rintro e wn ⟨P, rfl, hbn⟩; replace HB := Lib.hid (HB.out.trans (hbn.mono HB.out.size)); (try replace HL := Lib.hid (HL.out.below hbn)); (try replace HP := Lib.hid (HP.out.below hbn)); (try replace HM := Lib.hid (HM.out.below hbn)); (try replace HC := Lib.hid (HC.out.below hbn)); (try replace HV := Lib.hid (HV.out.below hbn));  clear hbn)
      | (go_at_call 31; (with_reducible refine (pz P _).mono ?_); rintro e wn ⟨Am, nm, cm, rfl, hmm, hbn⟩; replace HB := Lib.hid (HB.out.trans (hbn.mono HB.out.size)); (try replace HL := Lib.hid (HL.out.below hbn)); (try replace HP := Lib.hid (HP.out.below hbn)); (try replace HM := Lib.hid (HM.out.below hbn)); (try replace HC := Lib.hid (HC.out.below hbn)); (try replace HV := Lib.hid (HV.out.below hbn)); obtain rfl : nm = 0 := hmm.len.symm; clear hmm; clear hbn)
      | (go_at_call 22; (with_reducible refine (lone_says _).mono ?_); rintro e wn ⟨rfl, hbn⟩; replace HB := Lib.hid (HB.out.trans (hbn.mono HB.out.size)); (try replace HL := Lib.hid (HL.out.below hbn)); (try replace HP := Lib.hid (HP.out.below hbn)); (try replace HM := Lib.hid (HM.out.below hbn)); (try replace HC := Lib.hid (HC.out.below hbn)); (try replace HV := Lib.hid (HV.out.below hbn));  clear hbn))
    go_ret
    exact ⟨rfl, HB.out⟩
  by_cases h2 : m = 0
  · subst h2
    have pz : ∀ P w, Calls Try.prog 31 #[.pointer P, .slice A n c, .int .i64 0] w (GivesE w [] 2) := fun P w => powers_no P A n c 0 (.inr rfl) (by omega) w
    have h1' : ((n : Int) == 0) = false := by simp; omega
    go_enter Try.func9, Try.ntmps9
    go_wp2_with (first
      | (go_at_call 11; (with_reducible refine (new_says _).mono ?_); rintro e wn ⟨P, rfl, hbn⟩; replace HB := Lib.hid (HB.out.trans (hbn.mono HB.out.size)); (try replace HL := Lib.hid (HL.out.below hbn)); (try replace HP := Lib.hid (HP.out.below hbn)); (try replace HM := Lib.hid (HM.out.below hbn)); (try replace HC := Lib.hid (HC.out.below hbn)); (try replace HV := Lib.hid (HV.out.below hbn));  clear hbn)
      | (go_at_call 31; (with_reducible refine (pz P _).mono ?_); rintro e wn ⟨Am, nm, cm, rfl, hmm, hbn⟩; replace HB := Lib.hid (HB.out.trans (hbn.mono HB.out.size)); (try replace HL := Lib.hid (HL.out.below hbn)); (try replace HP := Lib.hid (HP.out.below hbn)); (try replace HM := Lib.hid (HM.out.below hbn)); (try replace HC := Lib.hid (HC.out.below hbn)); (try replace HV := Lib.hid (HV.out.below hbn)); obtain rfl : nm = 0 := hmm.len.symm; clear hmm; clear hbn)
      | (go_at_call 22; (with_reducible refine (lone_says _).mono ?_); rintro e wn ⟨rfl, hbn⟩; replace HB := Lib.hid (HB.out.trans (hbn.mono HB.out.size)); (try replace HL := Lib.hid (HL.out.below hbn)); (try replace HP := Lib.hid (HP.out.below hbn)); (try replace HM := Lib.hid (HM.out.below hbn)); (try replace HC := Lib.hid (HC.out.below hbn)); (try replace HV := Lib.hid (HV.out.below hbn));  clear hbn))
    go_ret
    exact ⟨rfl, HB.out⟩
  have h1' : ((n : Int) == 0) = false := by simp; omega
  have h2' : ((m : Int) == 0) = false := by simp; omega
  have hpl := pows_lev l m
  rw [hln] at hpl
  have hpr := lev_right hpl (by omega) (by omega)
  have hcl := col_lev p
  rw [hpm] at hcl
  have hcr := lev_right hcl (by omega) (by omega)
  have F1 := Lib.hid (show mulR (matBy n m (fun i j => powL (l.getD i 0) (j : Int))) (colL p) = (appL (powsL l m) (colL p), 0) from by
    have e1 : matBy n m (fun i j => powL (l.getD i 0) (j : Int)) = powsL l m := by rw [powsL, hln]
    rw [e1, mulR, if_pos hcr.1, appR, if_pos ⟨hpr.1, by rw [hcl.1, hpr.2], right_level hcr.1⟩])
  have hvL := app_lev hpl.1 hcl (by omega)
  have hvl := hvL.1
  have HVA := Lib.hid (show ∀ i, i < n → at2 (appL (powsL l m) (colL p)) i 0 = Gf.ev p (l.getD i 0) from fun i hi => by rw [← hpm]; exact pows_col (by omega) (by omega))
  have HVL := Lib.hid hvL
  have HSQ := Lib.hid (show n = m → backR (matBy n m (fun i j => powL (l.getD i 0) (j : Int))) = (if unlikeTo l n then (backL (powsL l n) n, 0) else ([], 18)) from fun e => by
    have e1 : matBy n m (fun i j => powL (l.getD i 0) (j : Int)) = powsL l n := by rw [powsL, hln, e]
    have hq : RightM (powsL l n) ∧ colsOf (powsL l n) = (powsL l n).length := by
      have h3 := pows_lev l n
      rw [hln] at h3
      have h4 := lev_right h3 (by omega) (by omega)
      exact ⟨h4.1, by rw [h4.2, h3.1]⟩
    have hlen : (powsL l n).length = n := by rw [powsL, matBy_length]; exact hln
    rw [e1, backR, if_pos hq, hlen]
    by_cases hu : unlikeTo l n = true
    · have hf := pows_full (unlike_nodup (by rw [hln]; exact hu)) (by omega)
      rw [hln] at hf
      rw [if_pos hu, if_neg (by omega)]
    · have hu' : unlikeTo l n = false := by simpa using hu
      obtain ⟨i, k, g1, g2, g3⟩ := unlike_not hu'
      have hf := pows_less (l := l) (i := i) (k := k) (by omega) (by omega) (by omega) g3 (by omega)
      rw [hln] at hf
      rw [if_neg hu, if_pos hf])
  have hn1 : 1 ≤ n := by omega
  have hm1 : 1 ≤ m := by omega
  clear h1 h2 hpl hpr hcl hcr hvL
  go_enter Try.func9, Try.ntmps9
  go_wp2_with (first
    | (go_at_call 11; (with_reducible refine (new_says _).mono ?_); rintro e wn ⟨P, rfl, hbn⟩; replace HB := Lib.hid (HB.out.trans (hbn.mono HB.out.size)); (try replace HL := Lib.hid (HL.out.below hbn)); (try replace HP := Lib.hid (HP.out.below hbn)); (try replace HM := Lib.hid (HM.out.below hbn)); (try replace HC := Lib.hid (HC.out.below hbn)); (try replace HV := Lib.hid (HV.out.below hbn));  clear hbn)
    | (go_at_call 31; (with_reducible refine (powers_yes P A n c l m (by omega) (by omega) _ HL.out).mono ?_); rintro e wn ⟨Am, nm, cm, rfl, hmm, hbn⟩; replace HB := Lib.hid (HB.out.trans (hbn.mono HB.out.size)); (try replace HL := Lib.hid (HL.out.below hbn)); (try replace HP := Lib.hid (HP.out.below hbn)); (try replace HM := Lib.hid (HM.out.below hbn)); (try replace HC := Lib.hid (HC.out.below hbn)); (try replace HV := Lib.hid (HV.out.below hbn)); have HM := Lib.hid hmm; clear hmm; clear hbn))
  have hnm : nm ≤ 2000 := by rw [← HM.out.len, matBy_length]; omega
  obtain ⟨wb, hwb⟩ : ∃ x, x = wn := ⟨_, rfl⟩
  subst hwb
  go_loopw [8, 9] (fun o i wr => ∃ k : Nat, k ≤ m ∧ i = .int .i64 (k : Int) ∧ Hid (Bld wr wb.heap.size o (colL (p.take k)) ∧ Below wb.heap.size wb wr)) (fun _ i _ => m - (intOf i).toNat)
  case atStart => exact ⟨0, by omega, rfl, Lib.hid ⟨by simpa [colL] using Bld.nil _ _, Below.refl _ _⟩⟩
  case round =>
    obtain ⟨k, hk, rfl, H⟩ := hrel
    by_cases hlt : k < m
    · have l1 : (k : Int) < (m : Int) := by omega
      obtain ⟨u, hu⟩ : ∃ u, p[k]? = some u := ⟨_, List.getElem?_eq_getElem (by omega)⟩
      obtain ⟨b, off, hBB, _, hb, hcu⟩ := HP.out.at (j := k) (u := .int .u8 (u.toNat : Int)) (by simp [bc, hu])
      subst hBB
      have hc1 : wr.cell? ⟨b, off + k, none⟩ = some (.int .u8 (u.toNat : Int)) := (H.out.2.cell (p := ⟨b, off + k, none⟩) hb).trans hcu
      have hal : Below wr.heap.size wr (wr.alloc (.cells #[.int .u8 (u.toNat : Int)] 5)) := (Below.refl _ wr).alloc (Nat.le_refl _) _
      have HBD := Lib.hid (H.out.1.below hal)
      have HLU := Lib.hid (show Lies (wr.alloc (.cells #[.int .u8 (u.toNat : Int)] 5)) (Nb _) (some ⟨wr.heap.size, 0, none⟩) 1 1 (bc [u]) from box_liesN (Box.made wr 5 _) rfl)
      have HTK := Lib.hid (col_succ hu)
      have HLM := Lib.hid (show (colL (p.take k)).length ≤ 100000 from by simp [colL]; omega)
      have HAL := Lib.hid hal
      clear hcu hu hal
      go_wp2_with (at_builtin; refine append_rowG (wr.alloc (.cells #[.int .u8 (u.toNat : Int)] 5)) _ _ rfl rfl wb.heap.size u8 (colL (p.take k)) (some ⟨wr.heap.size, 0, none⟩) 1 1 [u] rfl (wr.heap.size + 1) (by simp) rfl rfl HBD.out HLU.out HLM.out (Nat.le_trans H.out.2.size HAL.out.size) ?_; intro v9 w9 hb9 hg9)
      have HB9 := Lib.hid (show Bld w9 wb.heap.size v9 (colL (p.take k) ++ [[u]]) ∧ Below wb.heap.size wb w9 from ⟨hb9, (H.out.2.trans (HAL.out.mono H.out.2.size)).trans hg9⟩)
      clear hb9 hg9
      go_wp2
      go_roundw
      case rel => exact ⟨k + 1, by omega, by go_num, by rw [HTK.out]; exact HB9⟩
      case measure => simp [intOf]; omega
    · obtain rfl : k = m := by omega
      have l1 : ¬ (k : Int) < (k : Int) := by omega
      have hbl := H.out.1
      rw [List.take_of_length_le (by omega)] at hbl
      obtain ⟨Ac, cc, hvc, hmc⟩ := hbl.mtx
      have hcl : (colL p).length = k := by simp [colL]; exact hpm
      rw [hcl] at hvc hmc
      subst hvc
      have hnc : k ≤ 2000 := by omega
      have HC := Lib.hid hmc
      replace HL := Lib.hid (HL.out.below H.out.2)
      replace HP := Lib.hid (HP.out.below H.out.2)
      replace HM := Lib.hid (HM.out.below H.out.2)
      replace HB := Lib.hid (HB.out.trans (H.out.2.mono HB.out.size))
      clear hbl hmc hcl H
      go_wp2_with (first
        | (go_at_call 12; (with_reducible refine (mulM_says P _ Am nm cm _ HM.out Ac _ cc _ HC.out hnm hnc).mono ?_); rintro e wn ⟨Av, nv, cv, rfl, hmv, hbn⟩; replace HB := Lib.hid (HB.out.trans (hbn.mono HB.out.size)); (try replace HL := Lib.hid (HL.out.below hbn)); (try replace HP := Lib.hid (HP.out.below hbn)); (try replace HM := Lib.hid (HM.out.below hbn)); (try replace HC := Lib.hid (HC.out.below hbn)); (try replace HV := Lib.hid (HV.out.below hbn)); rw [F1.out] at hmv ⊢; obtain rfl : n = nv := (by rw [← hmv.len]; exact hvl.symm); have HV := Lib.hid hmv; clear hmv; clear hbn))
      obtain ⟨wc, hwc⟩ : ∃ x, x = wn := ⟨_, rfl⟩
      subst hwc
      go_loopw [12, 13, 14] (fun un i _ wr => ∃ i' : Nat, i' ≤ n ∧ i = .int .i64 (i' : Int) ∧ un = .bool (unlikeTo l i') ∧ Hid (Below wc.heap.size wc wr)) (fun _ i _ _ => n - (intOf i).toNat)
      case atStart => exact ⟨0, by omega, rfl, rfl, Lib.hid (Below.refl _ _)⟩
      case round =>
        obtain ⟨i, hi, rfl, rfl, H⟩ := hrel
        by_cases hlt2 : i < n
        · have l2 : (i : Int) < (n : Int) := by omega
          obtain ⟨x, hx⟩ : ∃ x, l[i]? = some x := ⟨_, List.getElem?_eq_getElem (by omega)⟩
          have hgx : l.getD i 0 = x := by simp [List.getD_eq_getElem?_getD, hx]
          obtain ⟨bl, ol, hAl, _, hbl, hcl⟩ := HL.out.at (j := i) (u := .int .u8 (x.toNat : Int)) (by simp [bc, hx])
          obtain ⟨r, hr, hr2, hrl⟩ := HVL.out.get hlt2
          obtain ⟨bv, ov, Ar, cr, hAv, hbv, hcv, hlr⟩ := HV.out.row hr
          rw [hrl] at hcv hlr
          have hva := HVA.out i hlt2
          obtain ⟨y, hy⟩ : ∃ y, r[0]? = some y := ⟨_, List.getElem?_eq_getElem (by omega)⟩
          rw [at2_of hr hy, hgx] at hva
          obtain ⟨br, or, hAr, _, hbr, hcr⟩ := hlr.at (j := 0) (u := .int .u8 (y.toNat : Int)) (by simp [bc, hy])
          subst hAl hAv hAr
          rw [Nat.add_zero] at hcr
          have k1 := grows_cell ((H.out.cell (p := ⟨bv, ov + i, none⟩) hbv).trans hcv) (Nat.lt_of_lt_of_le hbv H.out.size)
          have k2 := grows_cell ((H.out.cell (p := ⟨br, or, none⟩) hbr).trans hcr) (Nat.lt_of_lt_of_le hbr H.out.size)
          have k3 := grows_cell ((H.out.cell (p := ⟨bl, ol + i, none⟩) hbl).trans hcl) (Nat.lt_of_lt_of_le hbl H.out.size)
          have kE : ∀ q : Grows wr, Calls Try.prog 32 #[.pointer P, .slice B k d, .int .u8 (x.toNat : Int)] q.val fun e w'' => e = .returned (.int .u8 (y.toNat : Int)) ∧ ∃ p' : Grows wr, w'' = p'.val := fun q => by
            have h5 := eval_of gfB P B k d p x q.val ((HP.out.below H.out).below q.prop) (by omega)
            rw [← hva] at h5
            exact h5.mono fun _ w'' hh => ⟨hh.1, ⟨w'', q.prop.trans (hh.2.mono q.prop.size)⟩, rfl⟩
          have HGX := Lib.hid hgx
          clear hcl hr hr2 hrl hcv hlr hva hy hcr hx hgx
          go_wp2_with fail
          refine wp_region_grows (by kernel_rfl) (by kernel_rfl) ?_
          repeat (first
            | quiet_step (first | (go_at_call 32; exact kE _)))
          refine wpQuiet_nil ?_
          rintro w2 ⟨⟨_, hw2⟩, rfl⟩
          have HW := Lib.hid (H.out.trans (hw2.mono H.out.size))
          clear hw2 k1 k2 k3 kE H
          go_wp2_with fail
          go_loopw [12, 14] (fun un j wr => ∃ k' : Nat, k' ≤ i ∧ j = .int .i64 (k' : Int) ∧ un = .bool (unlikeTo l i && freshTo l i k') ∧ Hid (Below wc.heap.size wc wr)) (fun _ j _ => i - (intOf j).toNat)
          case atStart => exact ⟨0, by omega, rfl, by simp [freshTo], HW⟩
          case round =>
            obtain ⟨j, hj, rfl, rfl, H⟩ := hrel
            by_cases hlt3 : j < i
            · have l3 : (j : Int) < (i : Int) := by omega
              obtain ⟨x2, hx2⟩ : ∃ x, l[j]? = some x := ⟨_, List.getElem?_eq_getElem (by omega)⟩
              have hgx2 : l.getD j 0 = x2 := by simp [List.getD_eq_getElem?_getD, hx2]
              obtain ⟨x1, hx1⟩ : ∃ x, l[i]? = some x := ⟨_, List.getElem?_eq_getElem (by omega)⟩
              have hgx1 : l.getD i 0 = x1 := by simp [List.getD_eq_getElem?_getD, hx1]
              obtain ⟨b1, o1, hA1, _, hb1, hc1⟩ := HL.out.at (j := i) (u := .int .u8 (x1.toNat : Int)) (by simp [bc, hx1])
              cases hA1
              obtain ⟨b2, o2, hA2, _, hb2, hc2⟩ := HL.out.at (j := j) (u := .int .u8 (x2.toNat : Int)) (by simp [bc, hx2])
              cases hA2
              have k1 := grows_cell ((H.out.cell (p := ⟨bl, ol + i, none⟩) hb1).trans hc1) (Nat.lt_of_lt_of_le hb1 H.out.size)
              have k2 := grows_cell ((H.out.cell (p := ⟨bl, ol + j, none⟩) hb1).trans hc2) (Nat.lt_of_lt_of_le hb1 H.out.size)
              have j1 : (j : Int) < (n : Int) := by omega
              have j2 : (i : Int) < (n : Int) := by omega
              have HFS := Lib.hid (show freshTo l i (j + 1) = (freshTo l i j && ((x1.toNat : Int) != (x2.toNat : Int))) from by
                rw [fresh_succ, hgx1, hgx2]
                congr 1
                by_cases h : x1 = x2
                · subst h; simp
                · have h' : x1.toNat ≠ x2.toNat := fun e => h (UInt8.toNat_inj.1 e)
                  rw [show (x1 != x2) = true by simpa using h, show ((x1.toNat : Int) != (x2.toNat : Int)) = true by simp; omega])
              clear hx1 hx2 hgx1 hgx2 hc1 hc2
              rcases Bool.eq_false_or_eq_true (unlikeTo l i && freshTo l i j) with hun | hun
              · have HUN := Lib.hid hun
                rw [hun]
                clear hun
                go_wp2_with fail
                refine wp_region_grows (by kernel_rfl) (by kernel_rfl) ?_
                repeat (first | quiet_step (fail))
                refine wpQuiet_nil ?_
                rintro w3 ⟨⟨_, hw3⟩, rfl⟩
                have HW3 := Lib.hid (H.out.trans (hw3.mono H.out.size))
                clear hw3 k1 k2 H
                go_wp2
                go_roundw
                case rel =>
                  refine ⟨j + 1, by omega, by go_num, ?_, HW3⟩
                  rw [HFS.out, ← Bool.and_assoc, HUN.out, Bool.true_and]
                case measure => simp [intOf]; omega
              · have HUN := Lib.hid hun
                rw [hun]
                clear hun
                go_wp2_with fail
                refine wp_region_grows (by kernel_rfl) (by kernel_rfl) ?_
                repeat (first
                  | (with_reducible refine wpQuiet_no ?_ ?_; (· first | (go_simp; done) | (go_simp; simp [undef]; done)); simp only [Act.put, List.setIfInBounds_toArray, List.set_cons_zero, List.set_cons_succ])
                  | quiet_step (fail))
                refine wpQuiet_nil ?_
                rintro w3 ⟨⟨_, hw3⟩, rfl⟩
                have HW3 := Lib.hid (H.out.trans (hw3.mono H.out.size))
                clear hw3 k1 k2 H
                go_wp2
                go_roundw
                case rel =>
                  refine ⟨j + 1, by omega, by go_num, ?_, HW3⟩
                  rw [HFS.out, ← Bool.and_assoc, HUN.out, Bool.false_and]
                case measure => simp [intOf]; omega
            · obtain rfl : j = i := by omega
              have l3 : ¬ (j : Int) < (j : Int) := by omega
              go_wp2
              go_roundw
              case rel => exact ⟨j + 1, by omega, by go_num, rfl, H⟩
              case measure => simp [intOf]; omega
        · obtain rfl : i = n := by omega
          have l2 : ¬ (i : Int) < (i : Int) := by omega
          replace HM := Lib.hid (HM.out.below H.out)
          replace HB := Lib.hid (HB.out.trans (H.out.mono HB.out.size))
          clear H HV HL HP HC
          by_cases hnm2 : i = k
          · subst hnm2
            have F2 := Lib.hid (HSQ.out rfl)
            rcases Bool.eq_false_or_eq_true (unlikeTo l i) with hun | hun
            · rw [hun] at F2 ⊢
              rw [if_pos rfl] at F2
              clear hun HSQ
              go_wp2_with (first
                | (go_at_call 27; (with_reducible refine (back_says P _ Am nm cm _ HM.out hnm).mono ?_); rintro e wn ⟨Ab, nb, cb, rfl, hmb, hbn⟩; replace HB := Lib.hid (HB.out.trans (hbn.mono HB.out.size)); (try replace HL := Lib.hid (HL.out.below hbn)); (try replace HP := Lib.hid (HP.out.below hbn)); (try replace HM := Lib.hid (HM.out.below hbn)); (try replace HC := Lib.hid (HC.out.below hbn)); (try replace HV := Lib.hid (HV.out.below hbn)); rw [F2.out] at hmb ⊢; clear hmb; clear hbn)
                | (go_at_call 22; (with_reducible refine (lone_says _).mono ?_); rintro e wn ⟨rfl, hbn⟩; replace HB := Lib.hid (HB.out.trans (hbn.mono HB.out.size)); (try replace HL := Lib.hid (HL.out.below hbn)); (try replace HP := Lib.hid (HP.out.below hbn)); (try replace HM := Lib.hid (HM.out.below hbn)); (try replace HC := Lib.hid (HC.out.below hbn)); (try replace HV := Lib.hid (HV.out.below hbn));  clear hbn))
              go_ret
              exact ⟨rfl, HB.out⟩
            · rw [hun] at F2 ⊢
              rw [if_neg (by decide)] at F2
              clear hun HSQ
              go_wp2_with (first
                | (go_at_call 27; (with_reducible refine (back_says P _ Am nm cm _ HM.out hnm).mono ?_); rintro e wn ⟨Ab, nb, cb, rfl, hmb, hbn⟩; replace HB := Lib.hid (HB.out.trans (hbn.mono HB.out.size)); (try replace HL := Lib.hid (HL.out.below hbn)); (try replace HP := Lib.hid (HP.out.below hbn)); (try replace HM := Lib.hid (HM.out.below hbn)); (try replace HC := Lib.hid (HC.out.below hbn)); (try replace HV := Lib.hid (HV.out.below hbn)); rw [F2.out] at hmb ⊢; clear hmb; clear hbn)
                | (go_at_call 22; (with_reducible refine (lone_says _).mono ?_); rintro e wn ⟨rfl, hbn⟩; replace HB := Lib.hid (HB.out.trans (hbn.mono HB.out.size)); (try replace HL := Lib.hid (HL.out.below hbn)); (try replace HP := Lib.hid (HP.out.below hbn)); (try replace HM := Lib.hid (HM.out.below hbn)); (try replace HC := Lib.hid (HC.out.below hbn)); (try replace HV := Lib.hid (HV.out.below hbn));  clear hbn))
              go_ret
              exact ⟨rfl, HB.out⟩
          · have hne : ((i : Int) != (k : Int)) = true := by simp; omega
            go_wp2_with (first
              | (go_at_call 22; (with_reducible refine (lone_says _).mono ?_); rintro e wn ⟨rfl, hbn⟩; replace HB := Lib.hid (HB.out.trans (hbn.mono HB.out.size)); (try replace HL := Lib.hid (HL.out.below hbn)); (try replace HP := Lib.hid (HP.out.below hbn)); (try replace HM := Lib.hid (HM.out.below hbn)); (try replace HC := Lib.hid (HC.out.below hbn)); (try replace HV := Lib.hid (HV.out.below hbn));  clear hbn))
            go_ret
            exact ⟨rfl, HB.out⟩
end Go.Proofs.Ytgakeecibofiiaa
