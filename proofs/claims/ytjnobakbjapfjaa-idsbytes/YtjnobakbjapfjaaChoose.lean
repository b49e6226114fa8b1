/-
  The contract of ids.choose, and of what is made with it: (Set).Or, And, Less, Within; and of (Set).Same.
-/
import Derived.Test.YtjnobakbjapfjaaChosen
import Derived.Deep.DeepCutAuto
import Derived.Deep.CutBlock
import Derived.StillTailTactics
namespace Go.Proofs.Ytjnobakbjapfjaa
open Go.RowKit Go.Sort Go.Shelf

/-- Is the first id of the one list the least that is left? -/
def mineB : List Id → List Id → Bool
  | _, [] => true
  | [], _ :: _ => false
  | x :: _, y :: _ => !ltId y x
theorem cho_next {s o : List Id} (hs : Rises s) (ho : Rises o) (hne : ¬ (s = [] ∧ o = [])) :
    ∃ x s' o', s = (if mineB s o then x :: s' else s') ∧ o = (if mineB o s then x :: o' else o') ∧ (mineB s o = true ∨ mineB o s = true) ∧ ∀ y, y ∈ s' ∨ y ∈ o' → ltId x y = true := by
  cases s with
  | nil =>
    cases o with
    | nil => exact absurd ⟨rfl, rfl⟩ hne
    | cons y o =>
      refine ⟨y, [], o, by simp [mineB], by simp [mineB], by simp [mineB], fun z hz => ?_⟩
      rcases hz with h | h
      · cases h
      · exact (List.pairwise_cons.1 ho).1 z h
  | cons x s =>
    cases o with
    | nil =>
      refine ⟨x, s, [], by simp [mineB], by simp [mineB], by simp [mineB], fun z hz => ?_⟩
      rcases hz with h | h
      · exact (List.pairwise_cons.1 hs).1 z h
      · cases h
    | cons y o =>
      have hx := (List.pairwise_cons.1 hs).1
      have hy := (List.pairwise_cons.1 ho).1
      simp only [mineB]
      rcases Bool.eq_false_or_eq_true (ltId x y) with h1 | h1
      · have h2 : ltId y x = false := by
          cases h2 : ltId y x with
          | false => rfl
          | true => have := ltId_trans h1 h2; rw [ltId_irrefl] at this; cases this
        simp only [h1, h2]
        refine ⟨x, s, y :: o, by simp, by simp, by simp, fun z hz => ?_⟩
        rcases hz with h | h
        · exact hx z h
        · rcases List.mem_cons.1 h with rfl | h
          · exact h1
          · exact ltId_trans h1 (hy z h)
      · rcases Bool.eq_false_or_eq_true (ltId y x) with h2 | h2
        · simp only [h1, h2]
          refine ⟨y, x :: s, o, by simp, by simp, by simp, fun z hz => ?_⟩
          rcases hz with h | h
          · rcases List.mem_cons.1 h with rfl | h
            · exact h2
            · exact ltId_trans h2 (hx z h)
          · exact hy z h
        · simp only [h1, h2]
          obtain rfl := ltId_total h1 h2
          exact ⟨x, s, o, by simp, by simp, by simp, fun z hz => hz.elim (hx z) (hy z)⟩
theorem Cho.rises {f : Bool → Bool → Bool} {S O s o acc : List Id} (h : Cho f S O s o acc) (hS : Rises S) (hO : Rises O) : Rises s ∧ Rises o := by
  obtain ⟨p, q, rfl, rfl, _⟩ := h
  exact ⟨(List.pairwise_append.1 hS).2.1, (List.pairwise_append.1 hO).2.1⟩

theorem exec_slice_l {P : Program} {a : Act} {o : Oper} (T : TypeId) (x y : Operand) (ho : o.op = .slice T x (some y) none none) (xv yv v : Value) (hx : a.eval x = xv) (hy : a.eval y = yv) (w : World) (h : (Instr.sliceAt T xv (some yv) none none).run P w = .ok v w) : (execOp a.eval o).run P w = .ok (.value v) w := by
  unfold execOp
  simp only [ho, hx, hy, Sem.run_bind, Option.map_some, Option.map_none, h, Result.andThen_ok, Sem.run_pure]
theorem step_store_box {ops : Array Oper} {w : World} {o : Oper} {a : Act} {K : Act → World → Prop} {Q : Exit → Act → World → Prop} {E : Prop} (p q : Operand) (hgd : o.guard = none) (ho : o.op = .store 23 p q) (g : Nat) (x y : Id) (hp : a.eval p = .pointer (some ⟨g, 0, none⟩)) (hq : a.eval q = .agg (enc x).toArray)
    (hr : Box w g 23 (enc y).toArray) (h : ∀ w', Box w' g 23 (enc x).toArray → w.grownBy w' (some g) → K (a.put o.dst undef) w') : if Region.wanted o (yielded ops a.tmps) = true then Oper.wp Try.prog o a w K Q else E := by
  have hw : Region.wanted o (yielded ops a.tmps) = true := by simp [Region.wanted, hgd]
  rw [if_pos hw]
  exact wp_store_row 23 p q ho g (enc x).toArray hp hq 23 (enc y).toArray hr (by rw [enc_size]; exact infoId') (by rw [enc_size, enc_size]) (enc_all x) (h _ (setRow_heap w g _ _ 23 _ hr) (grown_row (grown_refl w _) _))

def slLen : Value → Nat
  | .slice _ n _ => n
  | _ => 0
/-- Ahead of a round. -/
structure ChoAt (f : Bool → Bool → Bool) (S O : List Id) (w2 wr : World) (v : Value) (A : Option Addr) (n c : Nat) (s : List Id) (B : Option Addr) (m d : Nat) (o acc : List Id) : Prop where
  one : Ids w2 A n c s
  two : Ids w2 B m d o
  own : OwnI wr w2.heap.size v acc
  bel : Below w2.heap.size w2 wr
  cho : Cho f S O s o acc

theorem ChoAt.below {f : Bool → Bool → Bool} {S O : List Id} {w2 wr w' : World} {v : Value} {A B : Option Addr} {n c m d : Nat} {s o acc : List Id} (h : ChoAt f S O w2 wr v A n c s B m d o acc) (hb : Below wr.heap.size wr w') : ChoAt f S O w2 w' v A n c s B m d o acc :=
  ⟨h.one, h.two, h.own.below hb, h.bel.trans (hb.mono h.bel.size), h.cho⟩
theorem ChoAt.grown {f : Bool → Bool → Bool} {S O : List Id} {w2 wr w' : World} {v : Value} {A B : Option Addr} {n c m d g : Nat} {s o acc : List Id} (h : ChoAt f S O w2 wr v A n c s B m d o acc) (hg : wr.grownBy w' (some g)) (hne : v.ownBlock ≠ some g) (hle : w2.heap.size ≤ g) : ChoAt f S O w2 w' v A n c s B m d o acc :=
  ⟨h.one, h.two, h.own.grown hg hne, below_grown h.bel hg hle h.bel.size, h.cho⟩
theorem Ids.head {w : World} {A : Option Addr} {n c : Nat} {x : Id} {xs : List Id} (h : Ids w A n c (x :: xs)) : ∃ b off, A = some ⟨b, off, none⟩ ∧ b < w.heap.size ∧ w.rangeAt b off (enc x) := by
  obtain ⟨b, off, h1, h2, h3⟩ := h.at (j := 0) (x := x) rfl
  rw [Nat.zero_mul, Nat.add_zero] at h3
  exact ⟨b, off, h1, h2, h3⟩

set_option maxRecDepth 100000 in
set_option maxHeartbeats 4000000 in
theorem choose_says (f : Bool → Bool → Bool) (gf : Nat) (hF : ∀ m t w, Calls Try.prog gf #[.bool m, .bool t] w fun e w' => e = .returned (.bool (f m t)) ∧ Below w.heap.size w w') (eg : ∀ args w, (callFunc gf args).run Try.prog w = .ok (.enter gf args) w)
    (w : World) (A : Option Addr) (n c : Nat) (S : List Id) (hx : Ids w A n c S) (hn : n ≤ 1000) (B : Option Addr) (m d : Nat) (O : List Id) (hy : Ids w B m d O) (hm : m ≤ 1000) :
    Calls Try.prog 46 #[.slice A n c, .slice B m d, .func (.func gf) #[] #[]] w (GivesIds w (chosenL f S O)) := by
  have hz := (zero_of_info idZero).1
  have hza := enc_size (default : Id)
  obtain ⟨zi, hzi⟩ : ∃ z : Id, z = default := ⟨_, rfl⟩
  rw [← hzi] at hz hza
  clear hzi
  have h1 := rising_says w A n c S hx hn
  have h2 := fun w' hy' => rising_says w' B m d O hy' hm
  have HY := Lib.hid hy
  have hlS : (ofL S).length ≤ 1000 := Nat.le_trans (ofL_length S) (by rw [hx.len]; exact hn)
  have hlO : (ofL O).length ≤ 1000 := Nat.le_trans (ofL_length O) (by rw [hy.len]; exact hm)
  rw [← chosen_of]
  have HS := Lib.hid (ofL_rises S)
  have HO := Lib.hid (ofL_rises O)
  clear hx hy
  generalize ofL S = S' at h1 hlS HS ⊢
  generalize ofL O = O' at h2 hlO HO ⊢
  go_enter Try.func46, Try.ntmps46
  go_wp2_with fail
  refine h1.mono ?_
  rintro e w1 ⟨A1, n1, c1, rfl, hx1, hb1⟩
  have HX1 := Lib.hid hx1
  have HB1 := Lib.hid hb1
  clear hx1 hb1
  go_wp2_with fail
  refine (h2 w1 (HY.out.below HB1.out (Nat.le_refl _))).mono ?_
  rintro e w2 ⟨A2, n2, c2, rfl, hx2, hb2⟩
  have H0 : Hid (ChoAt f S' O' w2 w2 (.slice none 0 0) A1 n1 c1 S' A2 n2 c2 O' []) := Lib.hid ⟨HX1.out.below hb2 (Nat.le_refl _), hx2, OwnI.nil _ _, Below.refl _ _, Cho.start _ _ _⟩
  have HB2 := Lib.hid (HB1.out.trans (hb2.mono HB1.out.size))
  clear hx2 hb2 h1 h2
  go_wp2_with fail
  go_loopw [0, 1, 7, 8, 9, 10] (fun v0 v1 v7 _ _ _ wr => ∃ A n c s B m d o acc, v0 = .slice A n c ∧ v1 = .slice B m d ∧ Hid (ChoAt f S' O' w2 wr v7 A n c s B m d o acc)) (fun v0 v1 _ _ _ _ _ => slLen v0 + slLen v1)
  case atStart => exact ⟨A1, n1, c1, S', A2, n2, c2, O', [], rfl, rfl, H0⟩
  case round =>
    obtain ⟨A, n, c, s, B, m, d, o, acc, rfl, rfl, H⟩ := hrel
    have hln := H.out.one.len
    have hlm := H.out.two.len
    by_cases hex : s = [] ∧ o = []
    · obtain ⟨rfl, rfl⟩ := hex
      obtain rfl : n = 0 := by simpa using hln.symm
      obtain rfl : m = 0 := by simpa using hlm.symm
      obtain ⟨A3, c3, rfl, hi⟩ := H.out.own.ids
      go_wp2
      go_ret
      refine ⟨A3, acc.length, c3, rfl, ?_, HB2.out.trans (H.out.bel.mono HB2.out.size)⟩
      rw [← H.out.cho.done]
      exact hi
    · obtain ⟨x, s', o', hs', ho', hmt, hlt⟩ := cho_next (H.out.cho.rises HS.out HO.out).1 (H.out.cho.rises HS.out HO.out).2 hex
      have hpos : 0 < n ∨ 0 < m := by
        rcases Nat.eq_zero_or_pos n with h | h
        · right
          rcases Nat.eq_zero_or_pos m with h' | h'
          · exact absurd ⟨List.eq_nil_of_length_eq_zero (by omega), List.eq_nil_of_length_eq_zero (by omega)⟩ hex
          · exact h'
        · exact .inl h
      have HPO := Lib.hid hpos
      have HEX := Lib.hid hex
      have HST := Lib.hid (And.intro hs' (And.intro ho' (And.intro hmt hlt)))
      clear hpos hex hs' ho' hmt hlt
      go_upto_region 3 with fail
      go_cut [22] (fun v wq => v = .bool true ∧ wr = wq)
      case first =>
        rcases Nat.eq_zero_or_pos n with h | h
        · subst h
          have l1 : 0 < m := by have := HPO.out; omega
          go_wp2
          go_meet
          exact ⟨by simp, rfl⟩
        · have l1 : (0 : Int) < (n : Int) := by omega
          go_wp2
          go_meet
          exact ⟨rfl, rfl⟩
      case rest =>
        obtain ⟨rfl, rfl⟩ := hcut
        go_upto_region 4 with fail
        go_cut [8] (fun v wq => v = .bool (mineB s o) ∧ Below wr.heap.size wr wq)
        case first =>
          cases o with
          | nil =>
            obtain rfl : m = 0 := by simpa using hlm.symm
            go_wp2_with fail
            refine wp_region_grows (by kernel_rfl) (by kernel_rfl) ?_
            repeat (first | (with_reducible refine wpQuiet_no ?_ ?_; (· first | (go_simp; done) | (go_simp; simp [undef]; done)); simp only [Act.put, List.setIfInBounds_toArray, List.set_cons_zero, List.set_cons_succ]) | quiet_step (fail))
            refine wpQuiet_nil ?_
            rintro w3 ⟨⟨_, hw3⟩, rfl⟩
            go_wp2_with fail
            go_meet
            exact ⟨by simp [mineB], hw3⟩
          | cons y o =>
            have l2 : ¬ m = 0 := by have := hlm; simp at this; omega
            cases s with
            | nil =>
              obtain rfl : n = 0 := by simpa using hln.symm
              go_wp2_with fail
              refine wp_region_grows (by kernel_rfl) (by kernel_rfl) ?_
              repeat (first | (with_reducible refine wpQuiet_no ?_ ?_; (· first | (go_simp; done) | (go_simp; simp [undef]; done)); simp only [Act.put, List.setIfInBounds_toArray, List.set_cons_zero, List.set_cons_succ]) | quiet_step (fail))
              refine wpQuiet_nil ?_
              rintro w3 ⟨⟨_, hw3⟩, rfl⟩
              go_wp2_with fail
              go_meet
              exact ⟨by simp [mineB, l2], hw3⟩
            | cons x1 s =>
              have l3 : 0 < n := by have := hln; simp at this; omega
              have l4 : 0 < m := by omega
              obtain ⟨b1, o1, rfl, hb1, hr1⟩ := (H.out.one.below H.out.bel (Nat.le_refl _)).head
              obtain ⟨b2, o2, rfl, hb2, hr2⟩ := (H.out.two.below H.out.bel (Nat.le_refl _)).head
              have HR1 := Lib.hid (And.intro hb1 hr1)
              have HR2 := Lib.hid (And.intro hb2 hr2)
              clear hb1 hr1 hb2 hr2
              obtain ⟨r, hr⟩ : ∃ r, ltId y x1 = r := ⟨_, rfl⟩
              have hL : ∀ p : Grows wr, Calls Try.prog 10 #[.agg (enc y).toArray, .agg (enc x1).toArray] p.val fun e w'' => e = .returned (.bool r) ∧ ∃ p' : Grows wr, w'' = p'.val := fun p => by
                have h := less_says y x1 p.val
                rw [hr] at h
                exact Calls.grows h
              go_wp2_with fail
              refine wp_region_grows (by kernel_rfl) (by kernel_rfl) ?_
              repeat (first
                | (with_reducible refine wpQuiet_no ?_ ?_; (· first | (go_simp; done) | (go_simp; simp [undef]; done)); simp only [Act.put, List.setIfInBounds_toArray, List.set_cons_zero, List.set_cons_succ])
                | (refine wpQuiet_load_yes (by go_simp; done) 23 _ rfl b1 o1 rfl (enc x1) _ (range_grows HR1.out.2 HR1.out.1) Try.underlying23 rfl (infoId _) ?_; simp only [Act.put, List.setIfInBounds_toArray, List.set_cons_zero, List.set_cons_succ])
                | (refine wpQuiet_load_yes (by go_simp; done) 23 _ rfl b2 o2 rfl (enc y) _ (range_grows HR2.out.2 HR2.out.1) Try.underlying23 rfl (infoId _) ?_; simp only [Act.put, List.setIfInBounds_toArray, List.set_cons_zero, List.set_cons_succ])
                | quiet_step ((go_at_call 10; exact hL _)))
              refine wpQuiet_nil ?_
              rintro w3 ⟨⟨_, hw3⟩, rfl⟩
              go_wp2_with fail
              go_meet
              exact ⟨by simp [mineB, hr, l2], hw3⟩
        case rest =>
          obtain ⟨rfl, hbc⟩ := hcut
          have H1 := Lib.hid (H.out.below hbc)
          clear hbc
          generalize hmb : mineB s o = mb
          have HMB := Lib.hid hmb
          clear hmb
          go_upto_region 5 with fail
          go_cut [9] (fun v wq => v = .bool (mineB o s) ∧ ChoAt f S' O' w2 wq u7 A n c s B m d o acc)
          case first =>
            cases s with
            | nil =>
              obtain rfl : n = 0 := by simpa using hln.symm
              go_wp2_with fail
              refine wp_region_grows (by kernel_rfl) (by kernel_rfl) ?_
              repeat (first | (with_reducible refine wpQuiet_no ?_ ?_; (· first | (go_simp; done) | (go_simp; simp [undef]; done)); simp only [Act.put, List.setIfInBounds_toArray, List.set_cons_zero, List.set_cons_succ]) | quiet_step (fail))
              refine wpQuiet_nil ?_
              rintro w3 ⟨⟨_, hw3⟩, rfl⟩
              go_wp2_with fail
              go_meet
              exact ⟨by simp [mineB], H1.out.below hw3⟩
            | cons x1 s =>
              have l2 : ¬ n = 0 := by have := hln; simp at this; omega
              cases o with
              | nil =>
                obtain rfl : m = 0 := by simpa using hlm.symm
                go_wp2_with fail
                refine wp_region_grows (by kernel_rfl) (by kernel_rfl) ?_
                repeat (first | (with_reducible refine wpQuiet_no ?_ ?_; (· first | (go_simp; done) | (go_simp; simp [undef]; done)); simp only [Act.put, List.setIfInBounds_toArray, List.set_cons_zero, List.set_cons_succ]) | quiet_step (fail))
                refine wpQuiet_nil ?_
                rintro w3 ⟨⟨_, hw3⟩, rfl⟩
                go_wp2_with fail
                go_meet
                exact ⟨by simp [mineB, l2], H1.out.below hw3⟩
              | cons y o =>
                have l3 : 0 < m := by have := hlm; simp at this; omega
                have l4 : 0 < n := by omega
                obtain ⟨b1, o1, rfl, hb1, hr1⟩ := (H1.out.one.below H1.out.bel (Nat.le_refl _)).head
                obtain ⟨b2, o2, rfl, hb2, hr2⟩ := (H1.out.two.below H1.out.bel (Nat.le_refl _)).head
                have HR1 := Lib.hid (And.intro hb1 hr1)
                have HR2 := Lib.hid (And.intro hb2 hr2)
                clear hb1 hr1 hb2 hr2
                obtain ⟨r, hr⟩ : ∃ r, ltId x1 y = r := ⟨_, rfl⟩
                have hL : ∀ p : Grows wc, Calls Try.prog 10 #[.agg (enc x1).toArray, .agg (enc y).toArray] p.val fun e w'' => e = .returned (.bool r) ∧ ∃ p' : Grows wc, w'' = p'.val := fun p => by
                  have h := less_says x1 y p.val
                  rw [hr] at h
                  exact Calls.grows h
                go_wp2_with fail
                refine wp_region_grows (by kernel_rfl) (by kernel_rfl) ?_
                repeat (first
                  | (with_reducible refine wpQuiet_no ?_ ?_; (· first | (go_simp; done) | (go_simp; simp [undef]; done)); simp only [Act.put, List.setIfInBounds_toArray, List.set_cons_zero, List.set_cons_succ])
                  | (refine wpQuiet_load_yes (by go_simp; done) 23 _ rfl b1 o1 rfl (enc x1) _ (range_grows HR1.out.2 HR1.out.1) Try.underlying23 rfl (infoId _) ?_; simp only [Act.put, List.setIfInBounds_toArray, List.set_cons_zero, List.set_cons_succ])
                  | (refine wpQuiet_load_yes (by go_simp; done) 23 _ rfl b2 o2 rfl (enc y) _ (range_grows HR2.out.2 HR2.out.1) Try.underlying23 rfl (infoId _) ?_; simp only [Act.put, List.setIfInBounds_toArray, List.set_cons_zero, List.set_cons_succ])
                  | quiet_step ((go_at_call 10; exact hL _)))
                refine wpQuiet_nil ?_
                rintro w3 ⟨⟨_, hw3⟩, rfl⟩
                go_wp2_with fail
                go_meet
                exact ⟨by simp [mineB, hr, l2], H1.out.below hw3⟩
          case rest =>
            obtain ⟨rfl, hc2⟩ := hcut
            rename World => wd
            have H2 := Lib.hid hc2
            clear hc2
            generalize htb : mineB o s = tb
            have HTB := Lib.hid htb
            clear htb H1
            have HG3 := Lib.hid (Box.made wd 23 (enc zi).toArray)
            have H3 := Lib.hid (H2.out.below ((Below.refl _ wd).alloc (Nat.le_refl _) (Obj.cells (enc zi).toArray 23)))
            have HNE := Lib.hid (show u7.ownBlock ≠ some wd.heap.size from fun e => Nat.lt_irrefl _ (H2.out.own.lt e))
            have HLE := Lib.hid H2.out.bel.size
            cases mb
            · cases tb
              · have := HST.out.2.2.1
                rw [HMB.out, HTB.out] at this
                simp at this
              · have HS3 := Lib.hid HST.out.2.2.2
                have hes : s = s' := by have := HST.out.1; rw [HMB.out] at this; simpa using this
                have heo : o = x :: o' := by have := HST.out.2.1; rw [HTB.out] at this; simpa using this
                have HCH := Lib.hid (H2.out.cho.step (m := false) (t := true) (x := x) (s' := s') (o' := o') hes heo (by simp) HS3.out)
                have HI1 := Lib.hid (hes ▸ H2.out.one : Ids w2 A n c s')
                have hm1 : 1 ≤ m := by have := hlm; rw [heo] at this; simp at this; omega
                have l6 : 0 < m := by omega
                obtain ⟨b2, o2, rfl, hb2, hr2⟩ := (show Ids w2 B m d (x :: o') from heo ▸ H2.out.two).head
                have hsl2 := fun wq => sliceI_from Try.underlying35 infoId' .i64 (some ⟨b2, o2, none⟩) m d 1 hm1 wq
                have HI2 := Lib.hid (by have h := H2.out.two.from 1 hm1; rw [heo] at h; exact h : Ids w2 (cutI (some ⟨b2, o2, none⟩) d 1) (m - 1) (d - 1) o')
                have HR2 := Lib.hid (And.intro hb2 hr2)
                clear hb2 hr2
                clear hes heo
                go_wp2_with fail
                generalize wd.alloc (Obj.cells (enc zi).toArray 23) = w3 at HG3 H3 ⊢
                generalize wd.heap.size = g at HG3 HNE HLE ⊢
                refine wp_region_held_drew (S := fun w' => w'.rangeAt b2 o2 (enc x)) (by kernel_rfl) (fun j v hv => (H3.out.bel.cell (p := ⟨b2, o2 + j, none⟩) HR2.out.1).trans (HR2.out.2 j v hv)) (fun hHeld => ?_)
                refine take_run 0 66 (v := ?_) rfl rfl (by kernel_rfl) (by kernel_rfl) (by kernel_rfl) (fun _ _ _ h => h) (by rfl) ?_ (by assumption) ?_
                rotate_left
                · (intro wq hSw; (try dsimp only at hSw); go_simp; first | done | with_reducible rfl)
                simp only [Act.put, List.setIfInBounds_toArray, List.set_cons_zero, List.set_cons_succ]
                refine take_run 1 67 (v := ?_) rfl rfl (by kernel_rfl) (by kernel_rfl) (by kernel_rfl) (fun _ _ _ h => h) (by rfl) ?_ (by assumption) ?_
                rotate_left
                · (intro wq hSw; (try dsimp only at hSw); go_simp; first | done | with_reducible rfl)
                simp only [Act.put, List.setIfInBounds_toArray, List.set_cons_zero, List.set_cons_succ]
                refine take_load 2 68 23 (.tmp 67) b2 o2 (enc x) _ rfl rfl rfl (by kernel_rfl) (by kernel_rfl) (by kernel_rfl) (fun _ _ _ h => h) (by rfl) rfl (fun w h => h) Try.underlying23 rfl (infoId _) (by assumption) ?_
                simp only [Act.put, List.setIfInBounds_toArray, List.set_cons_zero, List.set_cons_succ]
                refine take_run 3 69 (v := ?_) rfl rfl (by kernel_rfl) (by kernel_rfl) (by kernel_rfl) (fun _ _ _ h => h) (by rfl) ?_ (by assumption) ?_
                rotate_left
                · (intro wq hSw; (try dsimp only at hSw); go_simp; first | done | with_reducible rfl)
                simp only [Act.put, List.setIfInBounds_toArray, List.set_cons_zero, List.set_cons_succ]
                refine take_run 4 70 (v := .slice (cutI (some ⟨b2, o2, none⟩) d 1) (m - 1) (d - 1)) rfl rfl (by kernel_rfl) (by kernel_rfl) (by kernel_rfl) (fun _ _ _ h => h) (by rfl) (fun w _ => by refine exec_slice_l 35 _ _ rfl _ _ _ rfl rfl w ?_; exact hsl2 w) (by assumption) ?_
                simp only [Act.put, List.setIfInBounds_toArray, List.set_cons_zero, List.set_cons_succ]
                refine wpAnyH_ready (rs := [5]) (by kernel_rfl) (by simp) ?_
                refine AllReadyH.cons rfl (fun K hK => ?_) AllReadyH.nil
                refine step_store_box (.tmp 10) (.tmp 68) rfl rfl g x zi rfl rfl (show Box w3.drew g _ _ from HG3.out) ?_
                intro w4 hb4 hg4
                have HG4 := Lib.hid hb4
                have H4 := Lib.hid ((H3.out.below (Below.refl _ w3).drew).grown hg4 HNE.out HLE.out)
                refine hK.out _ _ (fun j v hv => (H4.out.bel.cell (p := ⟨b2, o2 + j, none⟩) HR2.out.1).trans (HR2.out.2 j v hv)) (fun hHeld => ?_)
                clear hK K hb4 hg4
                refine wpAnyH_ready (rs := [6]) (by kernel_rfl) (by simp) ?_
                refine AllReadyH.cons rfl (fun K hK => ?_) AllReadyH.nil
                go_simp
                refine hK.out _ _ (fun j v hv => (H4.out.bel.cell (p := ⟨b2, o2 + j, none⟩) HR2.out.1).trans (HR2.out.2 j v hv)) (fun hHeld => ?_)
                clear hK K
                refine wpAnyH_done (by kernel_rfl) ?_ _
                go_wp2_with fail
                refine (hF false true _).mono ?_
                rintro e w8 ⟨rfl, hb8⟩
                have H8 := Lib.hid (H4.out.below hb8)
                have HG8 := Lib.hid (Box.below HG4.out hb8 (Box.lt HG4.out))
                clear hb8
                rcases Bool.eq_false_or_eq_true (f false true) with hf | hf
                · rw [hf] at HCH ⊢
                  go_wp2_with (first
                    | (refine wpList_load_mid rfl 23 _ rfl g 0 rfl (enc x) _ (box_range HG8.out) Try.underlying23 rfl (infoId _) ?_)
                    | (refine wpList_build_ids rfl 35 1 _ rfl Try.underlying35 [x] rfl (by omega) (by omega) (by go_simp) ?_; intro w9 hr9 hw9; have HR9 := Lib.hid hr9; have H9 := Lib.hid (show ChoAt f S' O' w2 w9 _ _ _ _ _ _ _ _ _ _ from by rw [hw9]; exact H8.out.below ((Below.refl _ w8).alloc (Nat.le_refl _) _)); clear hr9 hw9)
                    | (at_builtin; refine wpList_append_id w9 (.tmp 75) (.tmp 77) rfl rfl w2.heap.size _ acc w8.heap.size x rfl rfl H9.out.own HR9.out (by have := H9.out.cho.length hlS hlO; omega) H9.out.bel.size ?_; intro v10 w10 ho10 hg10))
                  have HB10 := Lib.hid (H9.out.bel.trans (H9.out.own.changed hg10 H9.out.bel.size))
                  have HO10 := Lib.hid ho10
                  clear ho10 hg10
                  go_roundw
                  case rel => exact ⟨_, _, _, s', _, _, _, o', acc ++ [x], rfl, rfl, Lib.hid ⟨HI1.out, HI2.out, HO10.out, HB10.out, HCH.out⟩⟩
                  case measure => simp [slLen]; omega
                · rw [hf] at HCH ⊢
                  go_wp2
                  go_roundw
                  case rel => exact ⟨_, _, _, s', _, _, _, o', acc, rfl, rfl, Lib.hid ⟨HI1.out, HI2.out, H8.out.own, H8.out.bel, HCH.out⟩⟩
                  case measure => simp [slLen]; omega
            · cases tb
              · have HS3 := Lib.hid HST.out.2.2.2
                have hes : s = x :: s' := by have := HST.out.1; rw [HMB.out] at this; simpa using this
                have heo : o = o' := by have := HST.out.2.1; rw [HTB.out] at this; simpa using this
                have HCH := Lib.hid (H2.out.cho.step (m := true) (t := false) (x := x) (s' := s') (o' := o') hes heo (by simp) HS3.out)
                have hn1 : 1 ≤ n := by have := hln; rw [hes] at this; simp at this; omega
                have l5 : 0 < n := by omega
                obtain ⟨b1, o1, rfl, hb1, hr1⟩ := (show Ids w2 A n c (x :: s') from hes ▸ H2.out.one).head
                have hsl1 := fun wq => sliceI_from Try.underlying35 infoId' .i64 (some ⟨b1, o1, none⟩) n c 1 hn1 wq
                have HI1 := Lib.hid (by have h := H2.out.one.from 1 hn1; rw [hes] at h; exact h : Ids w2 (cutI (some ⟨b1, o1, none⟩) c 1) (n - 1) (c - 1) s')
                have HR1 := Lib.hid (And.intro hb1 hr1)
                clear hb1 hr1
                have HI2 := Lib.hid (heo ▸ H2.out.two : Ids w2 B m d o')
                clear hes heo
                go_wp2_with fail
                generalize wd.alloc (Obj.cells (enc zi).toArray 23) = w3 at HG3 H3 ⊢
                generalize wd.heap.size = g at HG3 HNE HLE ⊢
                refine wp_region_held_drew (S := fun w' => w'.rangeAt b1 o1 (enc x)) (by kernel_rfl) (fun j v hv => (H3.out.bel.cell (p := ⟨b1, o1 + j, none⟩) HR1.out.1).trans (HR1.out.2 j v hv)) (fun hHeld => ?_)
                refine take_run 0 60 (v := ?_) rfl rfl (by kernel_rfl) (by kernel_rfl) (by kernel_rfl) (fun _ _ _ h => h) (by rfl) ?_ (by assumption) ?_
                rotate_left
                · (intro wq hSw; (try dsimp only at hSw); go_simp; first | done | with_reducible rfl)
                simp only [Act.put, List.setIfInBounds_toArray, List.set_cons_zero, List.set_cons_succ]
                refine take_run 1 61 (v := ?_) rfl rfl (by kernel_rfl) (by kernel_rfl) (by kernel_rfl) (fun _ _ _ h => h) (by rfl) ?_ (by assumption) ?_
                rotate_left
                · (intro wq hSw; (try dsimp only at hSw); go_simp; first | done | with_reducible rfl)
                simp only [Act.put, List.setIfInBounds_toArray, List.set_cons_zero, List.set_cons_succ]
                refine take_load 2 62 23 (.tmp 61) b1 o1 (enc x) _ rfl rfl rfl (by kernel_rfl) (by kernel_rfl) (by kernel_rfl) (fun _ _ _ h => h) (by rfl) rfl (fun w h => h) Try.underlying23 rfl (infoId _) (by assumption) ?_
                simp only [Act.put, List.setIfInBounds_toArray, List.set_cons_zero, List.set_cons_succ]
                refine take_run 3 63 (v := ?_) rfl rfl (by kernel_rfl) (by kernel_rfl) (by kernel_rfl) (fun _ _ _ h => h) (by rfl) ?_ (by assumption) ?_
                rotate_left
                · (intro wq hSw; (try dsimp only at hSw); go_simp; first | done | with_reducible rfl)
                simp only [Act.put, List.setIfInBounds_toArray, List.set_cons_zero, List.set_cons_succ]
                refine take_run 4 64 (v := .slice (cutI (some ⟨b1, o1, none⟩) c 1) (n - 1) (c - 1)) rfl rfl (by kernel_rfl) (by kernel_rfl) (by kernel_rfl) (fun _ _ _ h => h) (by rfl) (fun w _ => by refine exec_slice_l 35 _ _ rfl _ _ _ rfl rfl w ?_; exact hsl1 w) (by assumption) ?_
                simp only [Act.put, List.setIfInBounds_toArray, List.set_cons_zero, List.set_cons_succ]
                refine wpAnyH_ready (rs := [5]) (by kernel_rfl) (by simp) ?_
                refine AllReadyH.cons rfl (fun K hK => ?_) AllReadyH.nil
                refine step_store_box (.tmp 10) (.tmp 62) rfl rfl g x zi rfl rfl (show Box w3.drew g _ _ from HG3.out) ?_
                intro w4 hb4 hg4
                have HG4 := Lib.hid hb4
                have H4 := Lib.hid ((H3.out.below (Below.refl _ w3).drew).grown hg4 HNE.out HLE.out)
                refine hK.out _ _ (fun j v hv => (H4.out.bel.cell (p := ⟨b1, o1 + j, none⟩) HR1.out.1).trans (HR1.out.2 j v hv)) (fun hHeld => ?_)
                clear hK K hb4 hg4
                refine wpAnyH_ready (rs := [6]) (by kernel_rfl) (by simp) ?_
                refine AllReadyH.cons rfl (fun K hK => ?_) AllReadyH.nil
                go_simp
                refine hK.out _ _ (fun j v hv => (H4.out.bel.cell (p := ⟨b1, o1 + j, none⟩) HR1.out.1).trans (HR1.out.2 j v hv)) (fun hHeld => ?_)
                clear hK K
                refine wpAnyH_done (by kernel_rfl) ?_ _
                go_wp2_with fail
                refine (hF true false _).mono ?_
                rintro e w8 ⟨rfl, hb8⟩
                have H8 := Lib.hid (H4.out.below hb8)
                have HG8 := Lib.hid (Box.below HG4.out hb8 (Box.lt HG4.out))
                clear hb8
                rcases Bool.eq_false_or_eq_true (f true false) with hf | hf
                · rw [hf] at HCH ⊢
                  go_wp2_with (first
                    | (refine wpList_load_mid rfl 23 _ rfl g 0 rfl (enc x) _ (box_range HG8.out) Try.underlying23 rfl (infoId _) ?_)
                    | (refine wpList_build_ids rfl 35 1 _ rfl Try.underlying35 [x] rfl (by omega) (by omega) (by go_simp) ?_; intro w9 hr9 hw9; have HR9 := Lib.hid hr9; have H9 := Lib.hid (show ChoAt f S' O' w2 w9 _ _ _ _ _ _ _ _ _ _ from by rw [hw9]; exact H8.out.below ((Below.refl _ w8).alloc (Nat.le_refl _) _)); clear hr9 hw9)
                    | (at_builtin; refine wpList_append_id w9 (.tmp 75) (.tmp 77) rfl rfl w2.heap.size _ acc w8.heap.size x rfl rfl H9.out.own HR9.out (by have := H9.out.cho.length hlS hlO; omega) H9.out.bel.size ?_; intro v10 w10 ho10 hg10))
                  have HB10 := Lib.hid (H9.out.bel.trans (H9.out.own.changed hg10 H9.out.bel.size))
                  have HO10 := Lib.hid ho10
                  clear ho10 hg10
                  go_roundw
                  case rel => exact ⟨_, _, _, s', _, _, _, o', acc ++ [x], rfl, rfl, Lib.hid ⟨HI1.out, HI2.out, HO10.out, HB10.out, HCH.out⟩⟩
                  case measure => simp [slLen]; omega
                · rw [hf] at HCH ⊢
                  go_wp2
                  go_roundw
                  case rel => exact ⟨_, _, _, s', _, _, _, o', acc, rfl, rfl, Lib.hid ⟨HI1.out, HI2.out, H8.out.own, H8.out.bel, HCH.out⟩⟩
                  case measure => simp [slLen]; omega
              · have HS3 := Lib.hid HST.out.2.2.2
                have hes : s = x :: s' := by have := HST.out.1; rw [HMB.out] at this; simpa using this
                have heo : o = x :: o' := by have := HST.out.2.1; rw [HTB.out] at this; simpa using this
                have HCH := Lib.hid (H2.out.cho.step (m := true) (t := true) (x := x) (s' := s') (o' := o') hes heo (by simp) HS3.out)
                have hn1 : 1 ≤ n := by have := hln; rw [hes] at this; simp at this; omega
                have l5 : 0 < n := by omega
                obtain ⟨b1, o1, rfl, hb1, hr1⟩ := (show Ids w2 A n c (x :: s') from hes ▸ H2.out.one).head
                have hsl1 := fun wq => sliceI_from Try.underlying35 infoId' .i64 (some ⟨b1, o1, none⟩) n c 1 hn1 wq
                have HI1 := Lib.hid (by have h := H2.out.one.from 1 hn1; rw [hes] at h; exact h : Ids w2 (cutI (some ⟨b1, o1, none⟩) c 1) (n - 1) (c - 1) s')
                have HR1 := Lib.hid (And.intro hb1 hr1)
                clear hb1 hr1
                have hm1 : 1 ≤ m := by have := hlm; rw [heo] at this; simp at this; omega
                have l6 : 0 < m := by omega
                obtain ⟨b2, o2, rfl, hb2, hr2⟩ := (show Ids w2 B m d (x :: o') from heo ▸ H2.out.two).head
                have hsl2 := fun wq => sliceI_from Try.underlying35 infoId' .i64 (some ⟨b2, o2, none⟩) m d 1 hm1 wq
                have HI2 := Lib.hid (by have h := H2.out.two.from 1 hm1; rw [heo] at h; exact h : Ids w2 (cutI (some ⟨b2, o2, none⟩) d 1) (m - 1) (d - 1) o')
                have HR2 := Lib.hid (And.intro hb2 hr2)
                clear hb2 hr2
                clear hes heo
                go_wp2_with fail
                generalize wd.alloc (Obj.cells (enc zi).toArray 23) = w3 at HG3 H3 ⊢
                generalize wd.heap.size = g at HG3 HNE HLE ⊢
                refine wp_region_held_drew (S := fun w' => w'.rangeAt b1 o1 (enc x)) (by kernel_rfl) (fun j v hv => (H3.out.bel.cell (p := ⟨b1, o1 + j, none⟩) HR1.out.1).trans (HR1.out.2 j v hv)) (fun hHeld => ?_)
                refine take_run 0 60 (v := ?_) rfl rfl (by kernel_rfl) (by kernel_rfl) (by kernel_rfl) (fun _ _ _ h => h) (by rfl) ?_ (by assumption) ?_
                rotate_left
                · (intro wq hSw; (try dsimp only at hSw); go_simp; first | done | with_reducible rfl)
                simp only [Act.put, List.setIfInBounds_toArray, List.set_cons_zero, List.set_cons_succ]
                refine take_run 1 61 (v := ?_) rfl rfl (by kernel_rfl) (by kernel_rfl) (by kernel_rfl) (fun _ _ _ h => h) (by rfl) ?_ (by assumption) ?_
                rotate_left
                · (intro wq hSw; (try dsimp only at hSw); go_simp; first | done | with_reducible rfl)
                simp only [Act.put, List.setIfInBounds_toArray, List.set_cons_zero, List.set_cons_succ]
                refine take_load 2 62 23 (.tmp 61) b1 o1 (enc x) _ rfl rfl rfl (by kernel_rfl) (by kernel_rfl) (by kernel_rfl) (fun _ _ _ h => h) (by rfl) rfl (fun w h => h) Try.underlying23 rfl (infoId _) (by assumption) ?_
                simp only [Act.put, List.setIfInBounds_toArray, List.set_cons_zero, List.set_cons_succ]
                refine take_run 3 63 (v := ?_) rfl rfl (by kernel_rfl) (by kernel_rfl) (by kernel_rfl) (fun _ _ _ h => h) (by rfl) ?_ (by assumption) ?_
                rotate_left
                · (intro wq hSw; (try dsimp only at hSw); go_simp; first | done | with_reducible rfl)
                simp only [Act.put, List.setIfInBounds_toArray, List.set_cons_zero, List.set_cons_succ]
                refine take_run 4 64 (v := .slice (cutI (some ⟨b1, o1, none⟩) c 1) (n - 1) (c - 1)) rfl rfl (by kernel_rfl) (by kernel_rfl) (by kernel_rfl) (fun _ _ _ h => h) (by rfl) (fun w _ => by refine exec_slice_l 35 _ _ rfl _ _ _ rfl rfl w ?_; exact hsl1 w) (by assumption) ?_
                simp only [Act.put, List.setIfInBounds_toArray, List.set_cons_zero, List.set_cons_succ]
                refine wpAnyH_ready (rs := [5]) (by kernel_rfl) (by simp) ?_
                refine AllReadyH.cons rfl (fun K hK => ?_) AllReadyH.nil
                refine step_store_box (.tmp 10) (.tmp 62) rfl rfl g x zi rfl rfl (show Box w3.drew g _ _ from HG3.out) ?_
                intro w4 hb4 hg4
                have HG4 := Lib.hid hb4
                have H4 := Lib.hid ((H3.out.below (Below.refl _ w3).drew).grown hg4 HNE.out HLE.out)
                refine hK.out _ _ (fun j v hv => (H4.out.bel.cell (p := ⟨b1, o1 + j, none⟩) HR1.out.1).trans (HR1.out.2 j v hv)) (fun hHeld => ?_)
                clear hK K hb4 hg4
                refine wpAnyH_ready (rs := [6]) (by kernel_rfl) (by simp) ?_
                refine AllReadyH.cons rfl (fun K hK => ?_) AllReadyH.nil
                go_simp
                refine hK.out _ _ (fun j v hv => (H4.out.bel.cell (p := ⟨b1, o1 + j, none⟩) HR1.out.1).trans (HR1.out.2 j v hv)) (fun hHeld => ?_)
                clear hK K
                refine wpAnyH_done (by kernel_rfl) ?_ _
                go_wp2_with fail
                refine wp_region_held_drew (S := fun w' => w'.rangeAt b2 o2 (enc x)) (by kernel_rfl) (fun j v hv => (H4.out.bel.cell (p := ⟨b2, o2 + j, none⟩) HR2.out.1).trans (HR2.out.2 j v hv)) (fun hHeld => ?_)
                refine take_run 0 66 (v := ?_) rfl rfl (by kernel_rfl) (by kernel_rfl) (by kernel_rfl) (fun _ _ _ h => h) (by rfl) ?_ (by assumption) ?_
                rotate_left
                · (intro wq hSw; (try dsimp only at hSw); go_simp; first | done | with_reducible rfl)
                simp only [Act.put, List.setIfInBounds_toArray, List.set_cons_zero, List.set_cons_succ]
                refine take_run 1 67 (v := ?_) rfl rfl (by kernel_rfl) (by kernel_rfl) (by kernel_rfl) (fun _ _ _ h => h) (by rfl) ?_ (by assumption) ?_
                rotate_left
                · (intro wq hSw; (try dsimp only at hSw); go_simp; first | done | with_reducible rfl)
                simp only [Act.put, List.setIfInBounds_toArray, List.set_cons_zero, List.set_cons_succ]
                refine take_load 2 68 23 (.tmp 67) b2 o2 (enc x) _ rfl rfl rfl (by kernel_rfl) (by kernel_rfl) (by kernel_rfl) (fun _ _ _ h => h) (by rfl) rfl (fun w h => h) Try.underlying23 rfl (infoId _) (by assumption) ?_
                simp only [Act.put, List.setIfInBounds_toArray, List.set_cons_zero, List.set_cons_succ]
                refine take_run 3 69 (v := ?_) rfl rfl (by kernel_rfl) (by kernel_rfl) (by kernel_rfl) (fun _ _ _ h => h) (by rfl) ?_ (by assumption) ?_
                rotate_left
                · (intro wq hSw; (try dsimp only at hSw); go_simp; first | done | with_reducible rfl)
                simp only [Act.put, List.setIfInBounds_toArray, List.set_cons_zero, List.set_cons_succ]
                refine take_run 4 70 (v := .slice (cutI (some ⟨b2, o2, none⟩) d 1) (m - 1) (d - 1)) rfl rfl (by kernel_rfl) (by kernel_rfl) (by kernel_rfl) (fun _ _ _ h => h) (by rfl) (fun w _ => by refine exec_slice_l 35 _ _ rfl _ _ _ rfl rfl w ?_; exact hsl2 w) (by assumption) ?_
                simp only [Act.put, List.setIfInBounds_toArray, List.set_cons_zero, List.set_cons_succ]
                refine wpAnyH_ready (rs := [5]) (by kernel_rfl) (by simp) ?_
                refine AllReadyH.cons rfl (fun K hK => ?_) AllReadyH.nil
                refine step_store_box (.tmp 10) (.tmp 68) rfl rfl g x x rfl rfl (show Box w4.drew g _ _ from HG4.out) ?_
                intro w5 hb5 hg5
                have HG5 := Lib.hid hb5
                have H5 := Lib.hid ((H4.out.below (Below.refl _ w4).drew).grown hg5 HNE.out HLE.out)
                refine hK.out _ _ (fun j v hv => (H5.out.bel.cell (p := ⟨b2, o2 + j, none⟩) HR2.out.1).trans (HR2.out.2 j v hv)) (fun hHeld => ?_)
                clear hK K hb5 hg5
                refine wpAnyH_ready (rs := [6]) (by kernel_rfl) (by simp) ?_
                refine AllReadyH.cons rfl (fun K hK => ?_) AllReadyH.nil
                go_simp
                refine hK.out _ _ (fun j v hv => (H5.out.bel.cell (p := ⟨b2, o2 + j, none⟩) HR2.out.1).trans (HR2.out.2 j v hv)) (fun hHeld => ?_)
                clear hK K
                refine wpAnyH_done (by kernel_rfl) ?_ _
                go_wp2_with fail
                refine (hF true true _).mono ?_
                rintro e w8 ⟨rfl, hb8⟩
                have H8 := Lib.hid (H5.out.below hb8)
                have HG8 := Lib.hid (Box.below HG5.out hb8 (Box.lt HG5.out))
                clear hb8
                rcases Bool.eq_false_or_eq_true (f true true) with hf | hf
                · rw [hf] at HCH ⊢
                  go_wp2_with (first
                    | (refine wpList_load_mid rfl 23 _ rfl g 0 rfl (enc x) _ (box_range HG8.out) Try.underlying23 rfl (infoId _) ?_)
                    | (refine wpList_build_ids rfl 35 1 _ rfl Try.underlying35 [x] rfl (by omega) (by omega) (by go_simp) ?_; intro w9 hr9 hw9; have HR9 := Lib.hid hr9; have H9 := Lib.hid (show ChoAt f S' O' w2 w9 _ _ _ _ _ _ _ _ _ _ from by rw [hw9]; exact H8.out.below ((Below.refl _ w8).alloc (Nat.le_refl _) _)); clear hr9 hw9)
                    | (at_builtin; refine wpList_append_id w9 (.tmp 75) (.tmp 77) rfl rfl w2.heap.size _ acc w8.heap.size x rfl rfl H9.out.own HR9.out (by have := H9.out.cho.length hlS hlO; omega) H9.out.bel.size ?_; intro v10 w10 ho10 hg10))
                  have HB10 := Lib.hid (H9.out.bel.trans (H9.out.own.changed hg10 H9.out.bel.size))
                  have HO10 := Lib.hid ho10
                  clear ho10 hg10
                  go_roundw
                  case rel => exact ⟨_, _, _, s', _, _, _, o', acc ++ [x], rfl, rfl, Lib.hid ⟨HI1.out, HI2.out, HO10.out, HB10.out, HCH.out⟩⟩
                  case measure => simp [slLen]; omega
                · rw [hf] at HCH ⊢
                  go_wp2
                  go_roundw
                  case rel => exact ⟨_, _, _, s', _, _, _, o', acc, rfl, rfl, Lib.hid ⟨HI1.out, HI2.out, H8.out.own, H8.out.bel, HCH.out⟩⟩
                  case measure => simp [slLen]; omega
end Go.Proofs.Ytjnobakbjapfjaa
