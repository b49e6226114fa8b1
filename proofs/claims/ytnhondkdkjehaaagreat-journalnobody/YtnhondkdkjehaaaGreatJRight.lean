/-
  right: whether a transaction may have these changes.
-/
import Derived.Test.YtnhondkdkjehaaaGreatJChs
namespace Go.Proofs.YtnhondkdkjehaaaGreat
open Go.RowKit

set_option linter.unusedVariables false
set_option linter.unusedSimpArgs false
/-- Whether one of them is of that block. -/
def anyN (ys : List Ch) (n : Int) : Bool := ys.any (fun y => decide (y.n = n))
instance (home : Int) (x : Ch) : Decidable (x.fits home) := by unfold Ch.fits; exact inferInstance
/-- Whether a transaction may have these. -/
def rightL (home : Int) : List Ch → List Ch → Bool
  | _, [] => true
  | ahead, x :: r => !anyN ahead x.n && decide (x.fits home) && rightL home (ahead ++ [x]) r
def rightB (home : Int) (xs : List Ch) : Bool := decide (1 ≤ xs.length ∧ xs.length ≤ 70) && rightL home [] xs
section
variable {w : World} {N K : Nat → Prop} {A : Option Addr} {n c : Nat}
theorem same_says (w : World) (g : Nat) (x y : Ch) (hg : Box w g 51 (chc x).toArray) :
    Calls Tryz.prog 80 #[.agg (chc y).toArray, .pointer (some ⟨g, 0, none⟩)] w fun e w' => e = .returned (.bool (decide (y.n = x.n))) ∧ Below w.heap.size w w' := by
  obtain ⟨w1, hw1⟩ : ∃ z, w.alloc (.cells #[.int .i64 y.n, .slice y.a y.l y.c] 51) = z := ⟨_, rfl⟩
  have hb1 : Below w.heap.size w w1 := by rw [← hw1]; exact (Below.refl _ w).alloc (Nat.le_refl _) _
  have hm1 : Box w1 w.heap.size 51 #[.int .i64 y.n, .slice y.a y.l y.c] := by rw [← hw1]; exact Box.made w _ _
  have c0 : w1.cell? ⟨w.heap.size, 0, none⟩ = some (.int .i64 y.n) := (Box.cell hm1 0).trans rfl
  have c1 : w1.cell? ⟨g, 0, none⟩ = some (.int .i64 x.n) := (Box.cell (Box.below hg hb1 hg.lt) 0).trans rfl
  have HB := Lib.hid hb1
  have hbe : (y.n == x.n) = decide (y.n = x.n) := rfl
  clear hb1 hm1 hg
  go_enter Tryz.func80, Tryz.ntmps80
  simp only [chc]
  go_wp2
  go_ret
  exact ⟨by first | rfl | simp, HB.out⟩
set_option maxRecDepth 100000 in
set_option maxHeartbeats 2000000 in
theorem jindex_says (w : World) (g : Nat) (x : Ch) (hg : Box w g 51 (chc x).toArray) (ys : List Ch) (hy : Chs w N A n c ys) (hn : n ≤ 1000) :
    Calls Tryz.prog 106 #[.slice A n c, .func (.func 80) #[] #[.pointer (some ⟨g, 0, none⟩)]] w fun e w' => (∃ r : Int, e = .returned (.int .i64 r) ∧ decide (r ≥ 0) = anyN ys x.n) ∧ Below w.heap.size w w' := by
  have hyl : ys.length = n := hy.1
  have HY := Lib.hid hy
  have HG := Lib.hid hg
  clear hy hg
  go_enter Tryz.func106, Tryz.ntmps106
  go_wp2_with fail
  go_loopw [8] (fun v wr => ∃ k : Nat, v = .int .i64 (k : Int) ∧ k ≤ n ∧ Hid (Below w.heap.size w wr ∧ anyN (ys.take k) x.n = false)) (fun v _ => n - (intOf v).toNat)
  case atStart => exact ⟨0, rfl, by omega, Lib.hid ⟨Below.refl _ _, rfl⟩⟩
  case round =>
    obtain ⟨k, rfl, hk, H⟩ := hrel
    by_cases hlt : k < n
    · have hlt' : (k : Int) < (n : Int) := by omega
      obtain ⟨y, hyk⟩ : ∃ y, ys[k]? = some y := ⟨ys[k]'(by omega), List.getElem?_eq_getElem (by omega)⟩
      obtain ⟨bl, ol, rfl, hNb, hbl, hat, hok⟩ := (HY.out.below H.out.1).at hyk
      have htk : anyN (ys.take (k + 1)) x.n = (anyN (ys.take k) x.n || decide (y.n = x.n)) := by
        rw [List.take_add_one, hyk]
        simp [anyN]
      have HTK := Lib.hid htk
      have HAT := Lib.hid hat
      have HS := Lib.hid (same_says wr g x y (Box.below HG.out H.out.1 HG.out.lt))
      have HYK := Lib.hid hyk
      have hcl := chc_length y
      clear hat hok htk hyk
      go_wp2_with (refine wpList_load_mid rfl 51 _ rfl bl (ol + k * 2) rfl (chc y) _ HAT.out Tryz.underlying51 rfl (by kernel_rfl) ?_)
      refine HS.out.mono ?_
      rintro e w2 ⟨rfl, hb2⟩
      have HB2 := Lib.hid (H.out.1.trans (hb2.mono H.out.1.size))
      clear hb2
      by_cases he : y.n = x.n
      · have hd : decide (y.n = x.n) = true := by simpa using he
        rw [hd]
        have hany : anyN ys x.n = true := by
          unfold anyN
          rw [List.any_eq_true]
          exact ⟨y, List.mem_of_getElem? HYK.out, hd⟩
        have HAN := Lib.hid hany
        clear he hany
        go_wp2
        go_ret
        exact ⟨⟨(k : Int), rfl, by rw [HAN.out]; simp⟩, HB2.out⟩
      · have hd : decide (y.n = x.n) = false := by simpa using he
        have hn1 : anyN (ys.take (k + 1)) x.n = false := by rw [HTK.out, H.out.2, hd]; rfl
        rw [hd]
        have HN1 := Lib.hid hn1
        clear he hn1
        go_wp2
        go_roundw
        case rel => exact ⟨k + 1, by go_num, by omega, Lib.hid ⟨HB2.out, HN1.out⟩⟩
        case measure => simp [intOf]; omega
    · have hnl : ¬ (k : Int) < (n : Int) := by omega
      have hall : ys.take k = ys := List.take_of_length_le (by omega)
      have hz := H.out.2
      rw [hall] at hz
      have HZ := Lib.hid hz
      clear hz hall
      go_wp2
      go_ret
      exact ⟨⟨-1, rfl, by rw [HZ.out]; rfl⟩, H.out.1⟩
theorem jcontains_says (w : World) (g : Nat) (x : Ch) (hg : Box w g 51 (chc x).toArray) (ys : List Ch) (hy : Chs w N A n c ys) (hn : n ≤ 1000) :
    Calls Tryz.prog 79 #[.slice A n c, .func (.func 80) #[] #[.pointer (some ⟨g, 0, none⟩)]] w fun e w' => e = .returned (.bool (anyN ys x.n)) ∧ Below w.heap.size w w' := by
  have HI := Lib.hid (jindex_says w g x hg ys hy hn)
  clear hg hy
  go_enter Tryz.func79, Tryz.ntmps79
  go_wp2_with fail
  refine HI.out.mono ?_
  rintro e w1 ⟨⟨r, rfl, hr⟩, hb1⟩
  have HB := Lib.hid hb1
  have HR := Lib.hid hr
  clear hb1 hr
  go_wp2
  go_ret
  exact ⟨by rw [← HR.out]; rfl, HB.out⟩
end
section
variable {w : World} {p dp : Nat} {u : Value × Value} {L : Lg} {D : Dv} {N K : Nat → Prop}
theorem rightL_drop (home : Int) (xs : List Ch) (k : Nat) (x : Ch) (h : xs[k]? = some x) : rightL home (xs.take k) (xs.drop k) = (!anyN (xs.take k) x.n && decide (x.fits home) && rightL home (xs.take (k + 1)) (xs.drop (k + 1))) := by
  have hd : xs.drop k = x :: xs.drop (k + 1) := by
    have hk : k < xs.length := (List.getElem?_eq_some_iff.1 h).1
    rw [List.drop_eq_getElem_cons hk]
    congr 1
    rw [List.getElem?_eq_getElem hk] at h
    injection h
  have ht : xs.take (k + 1) = xs.take k ++ [x] := by rw [List.take_add_one, h]; rfl
  rw [hd, rightL, ← ht]
set_option maxRecDepth 100000 in
set_option maxHeartbeats 2000000 in
theorem jright_says (hb : Box w p 81 (lc dp u L)) (hl : 0 ≤ L.h.log ∧ L.h.log ≤ 4096) (hd : Dev w K dp D) (A : Option Addr) (n c : Nat) (xs : List Ch) (hx : Chs w N A n c xs) :
    Calls Tryz.prog 52 #[.pointer (some ⟨p, 0, none⟩), .slice A n c] w fun e w' => e = .returned (.bool (rightB (homeOf D L) xs)) ∧ Below w.heap.size w w' := by
  have hxl : xs.length = n := hx.1
  have HX := Lib.hid hx
  have HBX := Lib.hid hb
  have HD := Lib.hid hd
  have hcap : n ≤ c := hx.2.1
  clear hx hb hd
  by_cases h1 : n < 1
  · obtain rfl : n = 0 := by omega
    have hr : rightB (homeOf D L) xs = false := by rw [rightB, hxl]; rfl
    rw [hr]
    clear hr
    go_enter Tryz.func52, Tryz.ntmps52
    go_wp2
    go_ret
    exact ⟨rfl, Below.refl _ _⟩
  · by_cases h2 : 70 < n
    · have hr : rightB (homeOf D L) xs = false := by
        rw [rightB, hxl, decide_eq_false (by omega)]
        rfl
      rw [hr]
      have g1 : ¬ (n : Int) < 1 := by omega
      have g2 : (70 : Int) < (n : Int) := by omega
      clear hr
      go_enter Tryz.func52, Tryz.ntmps52
      go_wp2
      go_ret
      exact ⟨rfl, Below.refl _ _⟩
    · have hr : rightB (homeOf D L) xs = rightL (homeOf D L) (xs.take 0) (xs.drop 0) := by
        rw [rightB, hxl, decide_eq_true (by omega)]
        rfl
      have g1 : ¬ (n : Int) < 1 := by omega
      have g2 : ¬ (70 : Int) < (n : Int) := by omega
      rw [hr]
      obtain ⟨R, hR⟩ : ∃ R, rightL (homeOf D L) (xs.take 0) (xs.drop 0) = R := ⟨_, rfl⟩
      rw [hR]
      have HR := Lib.hid hR
      clear hr hR
      go_enter Tryz.func52, Tryz.ntmps52
      go_wp2_with fail
      go_loopw [18] (fun v wr => ∃ k : Nat, v = .int .i64 (k : Int) ∧ k ≤ n ∧ Hid (Below w.heap.size w wr ∧ rightL (homeOf D L) (xs.take k) (xs.drop k) = R)) (fun v _ => n - (intOf v).toNat)
      case atStart => exact ⟨0, rfl, by omega, Lib.hid ⟨Below.refl _ _, HR.out⟩⟩
      case round =>
        clear HR
        obtain ⟨k, rfl, hk, H⟩ := hrel
        by_cases hlt : k < n
        · have hlt' : (k : Int) < (n : Int) := by omega
          obtain ⟨x, hxk⟩ : ∃ x, xs[k]? = some x := ⟨xs[k]'(by omega), List.getElem?_eq_getElem (by omega)⟩
          have hxr := HX.out.below H.out.1
          obtain ⟨bl, ol, rfl, hNb, hbl, hat, hok⟩ := hxr.at hxk
          have hstep := rightL_drop (homeOf D L) xs k x hxk
          rw [H.out.2] at hstep
          have hxb : x.b.length = x.l := by rw [← hok.lies.len, bc_length]
          obtain ⟨w5, hw5⟩ : ∃ y, wr.alloc (.cells #[.int .i64 0, .slice none 0 0] 51) = y := ⟨_, rfl⟩
          have hy5 : Box w5 wr.heap.size 51 #[.int .i64 0, .slice none 0 0] := by rw [← hw5]; exact Box.made wr _ _
          have hb5 : Below wr.heap.size wr w5 := by rw [← hw5]; exact (Below.refl _ wr).alloc (Nat.le_refl _) _
          obtain ⟨w6, hw6⟩ : ∃ y, w5.setRow wr.heap.size (chc x).toArray = y := ⟨_, rfl⟩
          have hx6 : Box w6 wr.heap.size 51 (chc x).toArray := by rw [← hw6]; exact setRow_heap _ _ _ _ _ _ hy5
          have hb6 : Below wr.heap.size wr w6 := hb5.trans (by rw [← hw6]; exact (Below.refl _ w5).grown (grown_row (grown_refl _ (some wr.heap.size)) _) hb5.size (fun k e => by injection e with e; omega))
          have HCF := Lib.hid (jcontains_says w6 wr.heap.size x hx6 (xs.take k) ((hxr.below hb6).first (m := k) (by omega)) (by omega))
          have HSL : ∀ W, (Instr.sliceAt 46 (.slice (some ⟨bl, ol, none⟩) n c) none (some (.int .i64 (k : Int))) none).run Tryz.prog W = .ok (.slice (some ⟨bl, ol, none⟩) k c) W := fun W => by
            obtain ⟨h1, h2⟩ := elem_of Tryz.underlying46
            rw [run_sliceAt_slice W _ _ _ _ _ h1, run_slice_h W _ _ n c h1 .i64 (k : Int) (by omega) (by omega), h2]
            have hsz : (sizeOf 51).run Tryz.prog W = .ok 2 W := by kernel_rfl
            rw [hsz]
            simp [Result.andThen, sliced, add_zero']
          have hHB := H.out.1.trans (hb6.mono H.out.1.size)
          have HY5 := Lib.hid hy5
          have HW6 := Lib.hid hw6
          have HAT := Lib.hid hat
          have H6 := Lib.hid (And.intro hHB hx6)
          have HST := Lib.hid hstep
          have HXB := Lib.hid hxb
          have hcl := chc_length x
          clear hxr hat hok hy5 hb5 hw6 hx6 hb6 hHB hstep hxb
          go_upto_region 7 with (first
            | (refine wpList_load_mid rfl 51 _ rfl bl (ol + k * 2) rfl (chc x) _ HAT.out Tryz.underlying51 rfl (by kernel_rfl) ?_)
            | (refine wpList_store_row rfl 51 _ _ rfl wr.heap.size (chc x).toArray rfl rfl 51 _ HY5.out (show (Tryz.prog.info? 51).map (·.size) = some 2 by kernel_rfl) rfl (by simp [chc, Value.oneCell']) ?_; rw [HW6.out])
            | (go_at_call 79; refine HCF.out.mono ?_; rintro e w7 ⟨rfl, hb7⟩; have H7 := Lib.hid hb7; clear hb7))
          have hB7 := H6.out.1.trans (H7.out.mono H6.out.1.size)
          have hx7 := Box.below H6.out.2 H7.out H6.out.2.lt
          have q0 : w7.cell? ⟨wr.heap.size, 0, none⟩ = some (.int .i64 x.n) := (Box.cell hx7 0).trans rfl
          have q1 : w7.cell? ⟨wr.heap.size, 1, none⟩ = some (.slice x.a x.l x.c) := (Box.cell hx7 1).trans rfl
          have HHA := Lib.hid (jhas_says (Box.below HBX.out hB7 HBX.out.lt) hl (HD.out.below hB7) x.n)
          have HB7 := Lib.hid hB7
          clear hB7 hx7 H6 H7 HCF HY5 HW6 HAT
          cases ha : anyN (xs.take k) x.n with
          | true =>
            have hR : R = false := by rw [HST.out, ha]; rfl
            subst hR
            clear HHA
            go_wp2
            go_ret
            exact ⟨rfl, HB7.out⟩
          | false =>
            by_cases hh : 0 ≤ x.n ∧ x.n < homeOf D L
            · have hd1 : decide (0 ≤ x.n ∧ x.n < homeOf D L) = true := by simpa using hh
              rw [hd1] at HHA
              by_cases h256 : x.l = 256
              · have hR : rightL (homeOf D L) (xs.take (k + 1)) (xs.drop (k + 1)) = R := by
                  rw [HST.out, ha]
                  have : decide (x.fits (homeOf D L)) = true := by
                    rw [decide_eq_true_eq]
                    exact ⟨hh, by rw [HXB.out]; exact h256⟩
                  rw [this]
                  simp
                have HR := Lib.hid hR
                have l1 : ((x.l : Int) != 256) = false := by rw [h256]; rfl
                clear hR hh
                go_wp2_with (go_at_call 58; refine HHA.out.mono ?_; rintro e w8 ⟨rfl, rfl⟩)
                go_roundw
                case rel => exact ⟨k + 1, by go_num, by omega, Lib.hid ⟨HB7.out, HR.out⟩⟩
                case measure => simp [intOf]; omega
              · have hR : R = false := by
                  rw [HST.out, ha]
                  have : decide (x.fits (homeOf D L)) = false := by
                    rw [decide_eq_false_iff_not]
                    rintro ⟨_, h⟩
                    rw [HXB.out] at h
                    exact h256 h
                  rw [this]
                  rfl
                subst hR
                have l1 : ((x.l : Int) != 256) = true := by rw [bne_iff_ne]; omega
                clear hh
                go_wp2_with (go_at_call 58; refine HHA.out.mono ?_; rintro e w8 ⟨rfl, rfl⟩)
                go_ret
                exact ⟨rfl, HB7.out⟩
            · have hd1 : decide (0 ≤ x.n ∧ x.n < homeOf D L) = false := by simpa using hh
              rw [hd1] at HHA
              have hR : R = false := by
                rw [HST.out, ha]
                have : decide (x.fits (homeOf D L)) = false := by
                  rw [decide_eq_false_iff_not]
                  rintro ⟨h, _⟩
                  exact hh h
                rw [this]
                rfl
              subst hR
              clear hh
              go_wp2_with (go_at_call 58; refine HHA.out.mono ?_; rintro e w8 ⟨rfl, rfl⟩)
              go_ret
              exact ⟨rfl, HB7.out⟩
        · have hnl : ¬ (k : Int) < (n : Int) := by omega
          have hR : R = true := by
            rw [← H.out.2, List.drop_eq_nil_of_le (by omega)]
            rfl
          subst hR
          go_wp2
          go_ret
          exact ⟨rfl, H.out.1⟩
end
end Go.Proofs.YtnhondkdkjehaaaGreat
