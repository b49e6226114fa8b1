/-
  The law LayOne, walked: what is read of any bytes as numbers is laid again as just these bytes.
-/
import Derived.Test.YteabpbmecdenjaaNobody
import Derived.Deep.QuietTactic
import Derived.BigQuiet
namespace Go.Proofs.Yteabpbmecdenjaa
open Go.BigFrame
open Go.RowKit

/-- A slice that came in: nil, or a row with room behind its elements. -/
def Arg (w : World) (A : Option Addr) (n c : Nat) (xs : List Value) : Prop := (A = none ∧ n = 0 ∧ c = 0 ∧ xs = []) ∨ ∃ ad, A = some ad ∧ n ≤ c ∧ xs.length = n ∧ ∀ j u, xs[j]? = some u → ad.block < w.heap.size ∧ w.cell? (ad.add j) = some u

section
variable {w w' : World} {A : Option Addr} {n c : Nat} {xs : List Value}
theorem Arg.sl (h : Arg w A n c xs) : Sl w w.heap.size (.slice A n c) xs := by
  rcases h with ⟨rfl, rfl, rfl, rfl⟩ | ⟨ad, rfl, _, rfl, hc⟩
  · exact .inl ⟨rfl, rfl⟩
  · exact .inr ⟨ad, c, rfl, hc⟩
theorem Arg.le (h : Arg w A n c xs) : n ≤ c := by
  rcases h with ⟨_, rfl, rfl, _⟩ | ⟨_, _, h, _⟩
  · exact Nat.le_refl _
  · exact h
theorem Arg.len (h : Arg w A n c xs) : xs.length = n := by
  rcases h with ⟨_, rfl, _, rfl⟩ | ⟨_, _, _, h, _⟩
  · rfl
  · exact h
/-- The first m of it. -/
theorem Arg.first (h : Arg w A n c xs) {m : Nat} (hm : m ≤ n) : Sl w w.heap.size (.slice A m c) (xs.take m) := by
  rcases h with ⟨rfl, rfl, rfl, rfl⟩ | ⟨ad, rfl, _, hl, hc⟩
  · obtain rfl : m = 0 := by omega
    exact .inl ⟨rfl, rfl⟩
  · refine .inr ⟨ad, c, ?_, fun j u hu => ?_⟩
    · rw [List.length_take, hl, Nat.min_eq_left hm]
    · rw [List.getElem?_take] at hu
      split at hu
      · exact hc j u hu
      · cases hu
end

theorem own_mono {w : World} {base base' : Nat} {v : Value} {l : List UInt8} (h : Own w base v l) (hb : base' ≤ base) : Own w base' v l := by
  refine ⟨h.1, ?_⟩
  rcases h.2 with h2 | ⟨g, cap, cur, hv, hg, r⟩
  · exact .inl h2
  · exact .inr ⟨g, cap, cur, hv, Nat.le_trans hb hg, r⟩
theorem own_grown {w w' : World} {g : Nat} {v : Value} {l : List UInt8} (h : Own w (g + 1) v l) (hg : w.grownBy w' (some g)) : Own w' (g + 1) v l := by
  refine World.ownsRow.kept h hg (.inr ?_)
  intro e
  have := (World.ownsRow.lt h g e).1
  omega
theorem own_below {w w' : World} {base : Nat} {v : Value} {l : List UInt8} (h : Own w base v l) (hb : Below w.heap.size w w') : Own w' base v l := by
  refine ⟨h.1, ?_⟩
  rcases h.2 with h2 | ⟨g, cap, cur, hv, hg, hh, r⟩
  · exact .inl h2
  · exact .inr ⟨g, cap, cur, hv, hg, (hb.block g (World.ownsRow.lt h g (by rw [hv]; rfl)).2).trans hh, r⟩

theorem below_drewN' {B : Nat} {a b : World} (h : Below B a b) (k : Nat) : Below B a (b.drewN k) := ⟨h.os, h.tape, h.output, h.size, h.block⟩
theorem rds_drewN {w : World} {b : Nat} {q : St} (h : Rds w b q) (k : Nat) : Rds (w.drewN k) b q := h
theorem own_drewN {w : World} {b : Nat} {v : Value} {l : List UInt8} (h : Own w b v l) (k : Nat) : Own (w.drewN k) b v l := h
theorem left_quiet {w : World} {b : Nat} {q : St} (h : Rds w b q) (k : Nat) :
    Calls Try.prog 22 #[.pointer (some ⟨b, 0, none⟩)] (w.drewN k) fun r w' => r = .returned (.int .i64 q.1.length) ∧ ∃ m, w' = w.drewN m :=
  (left_rds (rds_drewN h k)).mono fun _ _ hh => ⟨hh.1, k, hh.2.symm⟩

def OneRel (w : World) (l : List UInt8) (v i : Value) (wr : World) : Prop := ∃ (k : Nat) (pre rest : List UInt8), i = .int .i64 (k : Int) ∧ k ≤ pre.length ∧ l = pre ++ rest ∧ Rds wr w.heap.size (rest, 0) ∧ Own wr (w.heap.size + 1) v pre ∧ Below w.heap.size w wr

set_option maxRecDepth 100000 in
theorem one_walk (A : Option Addr) (n c : Nat) (l : List UInt8) (w : World) (h : Arg w A n c (bc l)) :
    Calls Try.prog 6 #[.slice A n c] w fun r w' => r = .returned (.bool true) ∧ Below w.heap.size w w' := by
  have hn : l.length = n := by have := h.len; rwa [bc_length] at this
  by_cases hbig : (1000 : Int) < (n : Int)
  · go_enter Try.func6, Try.ntmps6
    go_wp2
    go_ret
    exact ⟨rfl, Below.refl _ _⟩
  · have hcv := conv_sl h.sl
    have HN := Lib.hid hn
    have HH := Lib.hid h
    have hnc := h.le
    have hn1000 : n ≤ 1000 := by omega
    clear h hn
    go_enter Try.func6, Try.ntmps6
    go_wp2_with fail
    refine (read_any _ w).mono ?_
    rintro r w1 ⟨rfl, hw1⟩
    have hr1 : Rds w1 w.heap.size (l, 0) := by rw [← hw1]; exact Box.made w _ _
    have hb1 : Below w.heap.size w w1 := by rw [← hw1]; exact (Below.refl _ w).alloc (Nat.le_refl _) _
    have HR := Lib.hid hr1
    have HB := Lib.hid hb1
    clear hw1 hr1 hb1 hcv
    go_wp2_with fail
    go_loopw [4, 5] (fun v i wr => OneRel w l v i wr) (fun _ i _ => 1000 - (intOf i).toNat)
    case atStart => exact ⟨0, [], l, rfl, Nat.zero_le _, rfl, HR.out, World.ownsRow_nil _ _ _ _, HB.out⟩
    case round =>
      obtain ⟨k, pre, rest, rfl, hk, hl, hr, ho, hb⟩ := hrel
      have HL := Lib.hid hl
      have hlen : pre.length + rest.length ≤ 1000 := by
        have h1 := HN.out
        rw [hl, List.length_append] at h1
        omega
      clear hl
      rcases hrest : rest with _ | ⟨x, t⟩
      · rw [hrest] at hr
        have hpre : l = pre := by rw [HL.out, hrest, List.append_nil]
        have hc1 := conv_sl (Sl.own ho)
        have hc2 := conv_sl (HH.out.sl.below hb)
        rw [hpre] at hc2
        have hb' := Lib.hid hb
        clear hrest HL hpre ho hb
        by_cases hk1 : k < 1000
        · go_wp2_with fail
          refine (left_rds hr).mono ?_
          rintro r w' ⟨rfl, rfl⟩
          go_wp2_with fail
          refine (one_any wr).mono ?_
          rintro r w3 ⟨rfl, hb3⟩
          go_wp2_with fail
          go_ret
          exact ⟨rfl, hb'.out.trans (hb3.mono hb'.out.size)⟩
        · go_wp2_with fail
          refine (one_any wr).mono ?_
          rintro r w3 ⟨rfl, hb3⟩
          go_wp2_with fail
          go_ret
          exact ⟨rfl, hb'.out.trans (hb3.mono hb'.out.size)⟩
      · have hk1 : k < 1000 := by
          rw [hrest, List.length_cons] at hlen
          omega
        have hpos : 0 < rest.length := by rw [hrest]; simp
        clear hrest
        go_wp2_with fail
        refine (left_rds hr).mono ?_
        rintro r w' ⟨rfl, rfl⟩
        go_wp2_with fail
        refine (left_rds hr).mono ?_
        rintro r w' ⟨rfl, rfl⟩
        go_wp2_with fail
        by_cases hE : numErr rest = 0
        · have hq : stNum (rest, 0) = (numRest rest, 0) := by simp only [stNum, if_true, hE]
          have hv : stNumV (rest, 0) = numVal rest := by simp only [stNumV, if_true]
          have hnm := number_rds hr (by simp only [maxLen]; omega)
          rw [hq, hv] at hnm
          refine hnm.mono ?_
          rintro r w2 ⟨rfl, hr2, hg2⟩
          have henc := enc_num hE
          have hvlt := numVal_lt rest
          have hlr : rest.length = (encNum (numVal rest)).length + (numRest rest).length := by
            have := congrArg List.length henc
            rwa [List.length_append] at this
          rw [encNum_length] at hlr
          have hlt : (numRest rest).length < rest.length := by omega
          clear hlr
          have ho2 := own_grown ho hg2
          have hb2 := below_grown hb hg2 (Nat.le_refl _) hb.size
          have hnum1 : encNums [numVal rest] = encNum (numVal rest) := by simp [encNums]
          have HENC := Lib.hid henc
          have HN1 := Lib.hid hnum1
          clear hnm hq hv hE henc hnum1 ho hb hg2 hr
          generalize numVal rest = x at *
          generalize numRest rest = rest' at *
          have HO2 := Lib.hid ho2
          have HB2 := Lib.hid hb2
          have HR2 := Lib.hid hr2
          clear ho2 hb2 hr2
          go_wp2_with fail
          refine (bad_rds HR2.out).mono ?_
          rintro r w' ⟨rfl, rfl⟩
          go_wp2_with fail
          have hS : Sl (w2.alloc (.cells #[.int .u64 (x : Int)] 26)) (w2.alloc (.cells #[.int .u64 (x : Int)] 26)).heap.size u4 (bc pre) :=
            ((Sl.own HO2.out).below ((Below.refl _ w2).alloc (Nat.le_refl _) _)).wide (by simp)
          refine (putNumber_any u4 _ pre [x] _ hS (sl_new w2 _ _) (by simpa using hvlt) (by simp; omega)).mono ?_
          rintro r w3 ⟨v3, rfl, ho3, hb3⟩
          rw [HN1.out] at ho3
          have hb23 : Below w2.heap.size w2 w3 := ((Below.refl _ w2).alloc (Nat.le_refl _) _).trans (hb3.mono (by simp))
          have hr3 : Rds w3 w.heap.size (rest', 0) := Box.below HR2.out hb23 (Box.lt HR2.out)
          have hb30 : Below w.heap.size w w3 := HB2.out.trans (hb23.mono HB2.out.size)
          have ho30 : Own w3 (w.heap.size + 1) v3 (pre ++ encNum x) := own_mono ho3 (by have := Box.lt HR2.out; simp; omega)
          have hA3 : ∀ nq, (convert 22 9 v3).run Try.prog (w3.drewN nq) = .ok (.string ⟨(pre ++ encNum x).toArray⟩) (w3.drewN nq) := fun nq => conv_sl (w := w3.drewN nq) (B := w3.heap.size) (Sl.own ho30)
          have hm : n - rest'.length = (pre ++ encNum x).length := by
            have h1 := HN.out
            rw [HL.out, HENC.out] at h1
            simp only [List.length_append] at h1 ⊢
            omega
          have htake : (bc l).take (n - rest'.length) = bc (pre ++ encNum x) := by
            rw [hm, HL.out, HENC.out, ← List.append_assoc, bc_append (pre ++ encNum x) rest', List.take_left' (bc_length _)]
          have hle : rest'.length ≤ n := by
            have h1 := HN.out
            rw [HL.out, HENC.out] at h1
            simp only [List.length_append] at h1
            omega
          have hB3 : ∀ nq, (convert 22 9 (.slice A (n - rest'.length) c)).run Try.prog (w3.drewN nq) = .ok (.string ⟨(pre ++ encNum x).toArray⟩) (w3.drewN nq) := fun nq => by
            have h1 := HH.out.first (m := n - rest'.length) (by omega)
            rw [htake] at h1
            exact conv_sl (w := w3.drewN nq) (B := w.heap.size) (h1.below (below_drewN' hb30 nq))
          have hgd : decide (rest.length ≤ rest'.length) = false := by
            simp
            omega
          have HR3 := Lib.hid hr3
          have HB3 := Lib.hid hb30
          have HO3 := Lib.hid ho30
          clear hS HN1 ho3 hb3 hb23 hr3 hb30 ho30 hm htake HO2 HB2 HR2
          go_wp2_with fail
          go_quiet ((go_at_call 22; exact left_quiet HR3.out _))
          clear hA3 hB3 hgd
          go_wp2
          go_roundw
          case rel =>
            refine ⟨k + 1, pre ++ encNum x, rest', by go_num, ?_, ?_, rds_drewN HR3.out _, own_drewN HO3.out _, below_drewN' HB3.out _⟩
            · rw [List.length_append, encNum_length]
              omega
            · rw [HL.out, HENC.out, List.append_assoc]
          case measure => simp [intOf]; omega
        · have hq : stNum (rest, 0) = ([], numErr rest) := by simp only [stNum, if_true, numRest, if_neg hE]
          have hv : stNumV (rest, 0) = 0 := by simp only [stNumV, if_true, numVal, if_neg hE]
          have hnm := number_rds hr (by simp only [maxLen]; omega)
          rw [hq, hv] at hnm
          refine hnm.mono ?_
          rintro r w2 ⟨rfl, hr2, hg2⟩
          have hb2 := below_grown hb hg2 (Nat.le_refl _) hb.size
          have hne : (numErr rest != 0) = true := by simpa using hE
          clear hnm hq hv hE ho hb hg2 hr
          generalize numErr rest = e at *
          go_wp2_with fail
          refine (bad_rds hr2).mono ?_
          rintro r w' ⟨rfl, rfl⟩
          go_wp2_with fail
          refine (left_rds hr2).mono ?_
          rintro r w' ⟨rfl, rfl⟩
          go_wp2_with fail
          refine (one_any w2).mono ?_
          rintro r w3 ⟨rfl, hb3⟩
          go_wp2_with fail
          go_ret
          exact ⟨rfl, hb2.trans (hb3.mono hb2.size)⟩
end Go.Proofs.Yteabpbmecdenjaa
