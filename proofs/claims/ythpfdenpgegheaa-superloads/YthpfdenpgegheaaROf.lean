/-
  The reference's Of.
-/
import Derived.Test.YthpfdenpgegheaaSlH
import Derived.Test.YthpfdenpgegheaaRefOpenY
import Derived.Test.YthpfdenpgegheaaSlI
namespace Go.Proofs.Ythpfdenpgegheaa
open Go.RowKit

set_option linter.unusedVariables false
set_option linter.unusedSimpArgs false
def rr2 (b : List UInt8) : Lay.St := Lay.stSmall 4096 (rq1 b)
def rr3 (b : List UInt8) : Lay.St := Lay.stNum (rr2 b)
def rr4 (b : List UInt8) : Lay.St := Lay.stSmall 4096 (rr3 b)
def headFrom' (g : Nat) (hg : g < 18446744073709551616) (b : List UInt8) : Hd :=
  ⟨g, Lay.stNumV (rq0 b), ((Lay.stSmallV 4096 (rq1 b) : Nat) : Int), Lay.stNumV (rr2 b), ((Lay.stSmallV 4096 (rr3 b) : Nat) : Int), hg, Lay.stNumV_lt _, Lay.stNumV_lt _,
    ⟨by omega, by have := small_le (rq1 b) 4096 (by omega); omega⟩, ⟨by omega, by have := small_le (rr3 b) 4096 (by omega); omega⟩⟩
theorem sm_cases (q : Lay.St) : (Lay.stSmall 4096 q = Lay.stSmall 9223372036854775807 q ∧ Lay.stSmallV 4096 q = Lay.stSmallV 9223372036854775807 q) ∨ (Lay.stSmall 4096 q = ([], 3) ∧ 4096 < Lay.stSmallV 9223372036854775807 q) := by
  by_cases h0 : (Lay.stNum q).2 = 0
  · by_cases h1 : 4096 < Lay.stNumV q
    · have t1 : Lay.tooBig 4096 (Lay.stNumV q) = true := by simp [Lay.tooBig]; omega
      by_cases h2 : (9223372036854775807 : Int) < (Lay.stNumV q : Int)
      · have t2 : Lay.tooBig 9223372036854775807 (Lay.stNumV q) = true := by simp [Lay.tooBig]; omega
        left
        simp only [Lay.stSmall, Lay.stSmallV, h0, t1, t2, if_true, and_self]
      · have t2 : Lay.tooBig 9223372036854775807 (Lay.stNumV q) = false := by simp [Lay.tooBig]; omega
        right
        simp only [Lay.stSmall, Lay.stSmallV, h0, t1, t2, if_true]
        exact ⟨trivial, by simpa using h1⟩
    · have t1 : Lay.tooBig 4096 (Lay.stNumV q) = false := by simp [Lay.tooBig]; omega
      have t2 : Lay.tooBig 9223372036854775807 (Lay.stNumV q) = false := by simp [Lay.tooBig]; omega
      left
      simp only [Lay.stSmall, Lay.stSmallV, h0, t1, t2, and_self]
  · left
    simp only [Lay.stSmall, Lay.stSmallV, if_neg h0, and_self]
theorem bad_three : Lay.stNum ([], 3) = ([], 3) ∧ Lay.stSmall 4096 ([], 3) = ([], 3) ∧ Lay.stEnd ([], 3) = 3 := ⟨rfl, rfl, rfl⟩
theorem rsame (b : List UInt8) (g : Nat) (hg : g < 18446744073709551616) :
    (if Lay.stEnd (rr4 b) = 0 ∧ (headFrom' g hg b).rightB 12 = true then some (headFrom' g hg b) else none) = (if Lay.stEnd (rq4 b) = 0 ∧ (headFrom g hg b).rightB 12 = true then some (headFrom g hg b) else none) := by
  rcases sm_cases (rq1 b) with ⟨a1, a2⟩ | ⟨a1, a2⟩
  · have b2 : rr2 b = rq2 b := a1
    have b3 : rr3 b = rq3 b := by rw [rr3, b2]; rfl
    rcases sm_cases (rq3 b) with ⟨c1, c2⟩ | ⟨c1, c2⟩
    · have b4 : rr4 b = rq4 b := by rw [rr4, b3]; exact c1
      have bh : headFrom' g hg b = headFrom g hg b := Hd.ext' rfl rfl (by show ((Lay.stSmallV 4096 (rq1 b) : Nat) : Int) = _; rw [a2]; rfl) (by show Lay.stNumV (rr2 b) = _; rw [b2]; rfl) (by show ((Lay.stSmallV 4096 (rr3 b) : Nat) : Int) = _; rw [b3, c2]; rfl)
      rw [b4, bh]
    · rw [if_neg, if_neg]
      · rintro ⟨_, hr⟩
        rw [Hd.right_iff] at hr
        have : (headFrom g hg b).log = ((Lay.stSmallV 9223372036854775807 (rq3 b) : Nat) : Int) := rfl
        rw [this] at hr
        omega
      · rintro ⟨he, _⟩
        rw [rr4, b3, c1, bad_three.2.2] at he
        cases he
  · rw [if_neg, if_neg]
    · rintro ⟨_, hr⟩
      rw [Hd.right_iff] at hr
      have : (headFrom g hg b).pos = ((Lay.stSmallV 9223372036854775807 (rq1 b) : Nat) : Int) := rfl
      rw [this] at hr
      omega
    · rintro ⟨he, _⟩
      rw [rr4, rr3, show rr2 b = ([], 3) from a1, bad_three.1, bad_three.2.1, bad_three.2.2] at he
      cases he
theorem rr2_len (b : List UInt8) : (rr2 b).1.length ≤ b.length := Nat.le_trans (stSmall_len _ _) (rq1_len b)
theorem rr3_len (b : List UInt8) : (rr3 b).1.length ≤ b.length := Nat.le_trans (Lay.stNum_len _) (rr2_len b)
theorem inInfo {a b : Value} : (Try.prog.info? 91).map (·.size) = some (#[a, b] : Array Value).size := by kernel_rfl
theorem in_one (P : ByteArray) (e : Int) : (#[.string P, .int .i64 e] : Array Value).all (·.oneCell') = true := by simp [Value.oneCell']
/-- What the reference's Of hands on. -/
def ROfSays (w : World) (l : List UInt8) (e : Ending) (w' : World) : Prop :=
  (headOf l 12 = none → e = .returned (.tuple #[.agg (hv Hd.zero), .bool false])) ∧ (∀ h, headOf l 12 = some h → e = .returned (.tuple #[.agg (hv h), .bool true])) ∧ Below w.heap.size w w'
set_option maxRecDepth 100000 in
set_option maxHeartbeats 16000000 in
theorem rof_says (w : World) (l : List UInt8) (hll : l.length = 256) : Calls Try.prog 20 #[.string ⟨l.toArray⟩, .int .i64 12] w (ROfSays w l) := by
  obtain ⟨w1, hw1⟩ : ∃ x, w.alloc (.cells #[.int .u64 0, .int .u64 0, .int .i64 0, .int .u64 0, .int .i64 0] 50) = x := ⟨_, rfl⟩
  have HB1 := Lib.hid (show Below w.heap.size w w1 by rw [← hw1]; exact (Below.refl _ w).alloc (Nat.le_refl _) _)
  have HZ1 := Lib.hid (show Box w1 w.heap.size 50 (hv Hd.zero) by rw [← hw1]; exact Box.made w _ _)
  have hro : ropens l = opens l := by rw [ropens, if_pos hll]
  have HRO := Lib.hid (ropen_says w1 l)
  obtain ⟨PL, hPL⟩ : ∃ x, (⟨l.toArray⟩ : ByteArray) = x := ⟨_, rfl⟩
  rw [hPL] at HRO ⊢
  clear hPL
  go_enter Try.func20, Try.ntmps20
  go_wp2_with fail
  refine HRO.out.mono ?_
  rintro r wa ⟨hno, hyes, hba⟩
  rw [hro] at hno hyes
  have hhead : headOf l 12 = match opens l with
    | some (m, b) => if (m.kind = 9 ∧ m.epoch = m.seq) ∧ Lay.stEnd (rq4 b) = 0 ∧ (headFrom m.epoch m.he b).rightB 12 = true then some (headFrom m.epoch m.he b) else none
    | none => none := rfl
  clear HRO hro
  cases hop : opens l with
  | none =>
    obtain rfl := hno hop
    rw [hop] at hhead
    have HN := Lib.hid hhead
    obtain ⟨wb, hwb⟩ : ∃ x, wa.alloc (.cells #[.int .u8 0, .int .u64 0, .int .u64 0] 29) = x := ⟨_, rfl⟩
    have hbwb : Below wa.heap.size wa wb := by rw [← hwb]; exact (Below.refl _ wa).alloc (Nat.le_refl _) _
    have hmwb : Box wb wa.heap.size 29 (mv Mk.zero) := by rw [← hwb]; exact Box.made wa _ _
    obtain ⟨wd, hwd⟩ : ∃ x, wb.setRow wa.heap.size (mv Mk.zero) = x := ⟨_, rfl⟩
    have hmwd : Box wd wa.heap.size 29 (mv Mk.zero) := by rw [← hwd]; exact setRow_heap _ _ _ _ _ _ hmwb
    have hbwd : Below wa.heap.size wa wd := hbwb.trans (by rw [← hwd]; exact (Below.refl _ wb).grown (grown_row (grown_refl _ (some wa.heap.size)) _) hbwb.size (fun k e => by injection e with e; omega))
    have HMwb := Lib.hid hmwb
    have HWwd := Lib.hid hwd
    have HBd := Lib.hid (HB1.out.trans ((hba.trans (hbwd.mono hba.size)).mono HB1.out.size))
    have hbad := hba.trans (hbwd.mono hba.size)
    have HZd := Lib.hid (Box.below HZ1.out hbad HZ1.out.lt)
    clear hno hyes hba hop hhead hbwb hmwb hwd hmwd hbwd hbad hll
    go_upto_region 3 with (refine wpList_store_row rfl 29 _ _ rfl wa.heap.size (mv Mk.zero) rfl rfl 29 _ HMwb.out (by rw [mv_size]; exact refInfo) rfl (mv_one _) ?_; rw [HWwd.out])
    obtain ⟨w9, hw9⟩ : ∃ x, wd.setRow w.heap.size (hv Hd.zero) = x := ⟨_, rfl⟩
    have hm9 : Box w9 w.heap.size 50 (hv Hd.zero) := by rw [← hw9]; exact setRow_heap _ _ _ _ _ _ HZd.out
    have HB9 := Lib.hid (show Below w.heap.size w w9 from HBd.out.trans (by rw [← hw9]; exact (Below.refl _ wd).grown (grown_row (grown_refl _ (some w.heap.size)) _) HBd.out.size (fun k e => by injection e with e; omega)))
    have e0' : w9.cell? ⟨w.heap.size, 0, none⟩ = some (.int .u64 (Hd.zero.gen : Int)) := (Box.cell hm9 0).trans rfl
    have e1' : w9.cell? ⟨w.heap.size, 1, none⟩ = some (.int .u64 (Hd.zero.epoch : Int)) := (Box.cell hm9 1).trans rfl
    have e2' : w9.cell? ⟨w.heap.size, 2, none⟩ = some (.int .i64 Hd.zero.pos) := (Box.cell hm9 2).trans rfl
    have e3' : w9.cell? ⟨w.heap.size, 3, none⟩ = some (.int .u64 (Hd.zero.seq : Int)) := (Box.cell hm9 3).trans rfl
    have e4' : w9.cell? ⟨w.heap.size, 4, none⟩ = some (.int .i64 Hd.zero.log) := (Box.cell hm9 4).trans rfl
    have HW9 := Lib.hid hw9
    clear hm9 hw9
    go_wp2_with (refine wpList_store_row rfl 50 _ _ rfl w.heap.size (hv Hd.zero) rfl rfl 50 _ HZd.out (by rw [hv_size]; exact rhdInfo) rfl (hv_one _) ?_; rw [HW9.out])
    exact bodyPost_ret (v := .tuple #[.agg (hv Hd.zero), .bool false]) (by simp [results, Try.results20, go_sem, e0', e1', e2', e3', e4', hv]) rfl ⟨fun _ => rfl, fun h hh => (by rw [HN.out] at hh; cases hh), HB9.out⟩
  | some mb =>
    obtain ⟨m, b⟩ := mb
    obtain rfl := hyes m b hop
    obtain ⟨_, hbl, _⟩ := opens_some hll hop
    rw [hop] at hhead
    simp only at hhead
    obtain ⟨wb, hwb⟩ : ∃ x, wa.alloc (.cells #[.int .u8 0, .int .u64 0, .int .u64 0] 29) = x := ⟨_, rfl⟩
    have hbwb : Below wa.heap.size wa wb := by rw [← hwb]; exact (Below.refl _ wa).alloc (Nat.le_refl _) _
    have hmwb : Box wb wa.heap.size 29 (mv Mk.zero) := by rw [← hwb]; exact Box.made wa _ _
    obtain ⟨wd, hwd⟩ : ∃ x, wb.setRow wa.heap.size (mv m) = x := ⟨_, rfl⟩
    have hmwd : Box wd wa.heap.size 29 (mv m) := by rw [← hwd]; exact setRow_heap _ _ _ _ _ _ hmwb
    have hbwd : Below wa.heap.size wa wd := hbwb.trans (by rw [← hwd]; exact (Below.refl _ wb).grown (grown_row (grown_refl _ (some wa.heap.size)) _) hbwb.size (fun k e => by injection e with e; omega))
    have HMwb := Lib.hid hmwb
    have HWwd := Lib.hid hwd
    have HBd := Lib.hid (HB1.out.trans ((hba.trans (hbwd.mono hba.size)).mono HB1.out.size))
    have hbad := hba.trans (hbwd.mono hba.size)
    have HZd := Lib.hid (Box.below HZ1.out hbad HZ1.out.lt)
    have m0 : wd.cell? ⟨wa.heap.size, 0, none⟩ = some (.int .u8 (m.kind.toNat : Int)) := (Box.cell hmwd 0).trans rfl
    have m1 : wd.cell? ⟨wa.heap.size, 1, none⟩ = some (.int .u64 (m.epoch : Int)) := (Box.cell hmwd 1).trans rfl
    have m2 : wd.cell? ⟨wa.heap.size, 2, none⟩ = some (.int .u64 (m.seq : Int)) := (Box.cell hmwd 2).trans rfl
    have HMd := Lib.hid hmwd
    have HHD := Lib.hid hhead
    clear hno hyes hba hop hhead hbwb hmwb hwd hmwd hbwd hbad hll
    by_cases hk : m.kind = 9
    · have d0 : ((m.kind.toNat : Int) != 9) = false := by rw [hk]; rfl
      by_cases hs : m.epoch = m.seq
      · have d1 : ((m.epoch : Int) != (m.seq : Int)) = false := by rw [hs]; simp
        have HMK := Lib.hid (And.intro hk hs)
        have HHD2 := Lib.hid (show headOf l 12 = if Lay.stEnd (rr4 b) = 0 ∧ (headFrom' m.epoch m.he b).rightB 12 = true then some (headFrom' m.epoch m.he b) else none by
          rw [HHD.out, rsame]
          by_cases hc : Lay.stEnd (rq4 b) = 0 ∧ (headFrom m.epoch m.he b).rightB 12 = true
          · rw [if_pos ⟨HMK.out, hc⟩, if_pos hc]
          · rw [if_neg (fun e => hc e.2), if_neg hc])
        clear hk hs HHD
        obtain ⟨g, hg⟩ : ∃ g, m.epoch = g := ⟨_, rfl⟩
        have hgl : g < 18446744073709551616 := by rw [← hg]; exact m.he
        have HHD3 := Lib.hid (show headOf l 12 = if Lay.stEnd (rr4 b) = 0 ∧ (headFrom' g hgl b).rightB 12 = true then some (headFrom' g hgl b) else none by subst hg; exact HHD2.out)
        rw [hg] at m1 d1
        clear hg HHD2
        go_upto_region 4 with (refine wpList_store_row rfl 29 _ _ rfl wa.heap.size (mv m) rfl rfl 29 _ HMwb.out (by rw [mv_size]; exact refInfo) rfl (mv_one _) ?_; rw [HWwd.out])
        obtain ⟨P0, hP0⟩ : ∃ x, (⟨b.toArray⟩ : ByteArray) = x := ⟨_, rfl⟩
        obtain ⟨P1, hP1⟩ : ∃ x, (⟨(rq1 b).1.toArray⟩ : ByteArray) = x := ⟨_, rfl⟩
        obtain ⟨P2, hP2⟩ : ∃ x, (⟨(rr2 b).1.toArray⟩ : ByteArray) = x := ⟨_, rfl⟩
        obtain ⟨P3, hP3⟩ : ∃ x, (⟨(rr3 b).1.toArray⟩ : ByteArray) = x := ⟨_, rfl⟩
        obtain ⟨P4, hP4⟩ : ∃ x, (⟨(rr4 b).1.toArray⟩ : ByteArray) = x := ⟨_, rfl⟩
        obtain ⟨e1, he1⟩ : ∃ x, (rq1 b).2 = x := ⟨_, rfl⟩
        obtain ⟨e2, he2⟩ : ∃ x, (rr2 b).2 = x := ⟨_, rfl⟩
        obtain ⟨e3, he3⟩ : ∃ x, (rr3 b).2 = x := ⟨_, rfl⟩
        obtain ⟨e4, he4⟩ : ∃ x, (rr4 b).2 = x := ⟨_, rfl⟩
        obtain ⟨v1, hv1⟩ : ∃ x, Lay.stNumV (rq0 b) = x := ⟨_, rfl⟩
        obtain ⟨v2, hv2⟩ : ∃ x, Lay.stSmallV 4096 (rq1 b) = x := ⟨_, rfl⟩
        obtain ⟨v3, hv3⟩ : ∃ x, Lay.stNumV (rr2 b) = x := ⟨_, rfl⟩
        obtain ⟨v4, hv4⟩ : ∃ x, Lay.stSmallV 4096 (rr3 b) = x := ⟨_, rfl⟩
        obtain ⟨en, hen⟩ : ∃ x, Lay.stEnd (rr4 b) = x := ⟨_, rfl⟩
        have C1 := Lib.hid (fun W => by have := Lay.refNum_any (rq0 b) W (by show b.length ≤ 4000; omega); unfold Lay.RefNum Lay.refV at this; rw [hv1] at this; change Calls Try.prog _ #[.agg #[.string ⟨b.toArray⟩, .int .i64 0]] W (fun r w' => r = .returned (.tuple #[.agg #[.string ⟨(rq1 b).1.toArray⟩, .int .i64 (rq1 b).2], .int .u64 (v1 : Int)]) ∧ Below W.heap.size W w') at this; rw [hP0, hP1, he1] at this; exact this : ∀ W, Calls Try.prog 43 #[.agg #[.string P0, .int .i64 0]] W (fun r w' => r = .returned (.tuple #[.agg #[.string P1, .int .i64 e1], .int .u64 (v1 : Int)]) ∧ Below W.heap.size W w'))
        have C2 := Lib.hid (fun W => by have := Lay.refSmall_any (rq1 b) W (by have := rq1_len b; omega) 4096 (by omega); unfold Lay.RefSm Lay.refV at this; rw [hv2] at this; change Calls Try.prog _ #[.agg #[.string ⟨(rq1 b).1.toArray⟩, .int .i64 (rq1 b).2], _] W (fun r w' => r = .returned (.tuple #[.agg #[.string ⟨(rr2 b).1.toArray⟩, .int .i64 (rr2 b).2], .int .i64 (v2 : Int)]) ∧ Below W.heap.size W w') at this; rw [hP1, he1, hP2, he2] at this; exact this : ∀ W, Calls Try.prog 44 #[.agg #[.string P1, .int .i64 e1], .int .i64 4096] W (fun r w' => r = .returned (.tuple #[.agg #[.string P2, .int .i64 e2], .int .i64 (v2 : Int)]) ∧ Below W.heap.size W w'))
        have C3 := Lib.hid (fun W => by have := Lay.refNum_any (rr2 b) W (by have := rr2_len b; omega); unfold Lay.RefNum Lay.refV at this; rw [hv3] at this; change Calls Try.prog _ #[.agg #[.string ⟨(rr2 b).1.toArray⟩, .int .i64 (rr2 b).2]] W (fun r w' => r = .returned (.tuple #[.agg #[.string ⟨(rr3 b).1.toArray⟩, .int .i64 (rr3 b).2], .int .u64 (v3 : Int)]) ∧ Below W.heap.size W w') at this; rw [hP2, he2, hP3, he3] at this; exact this : ∀ W, Calls Try.prog 43 #[.agg #[.string P2, .int .i64 e2]] W (fun r w' => r = .returned (.tuple #[.agg #[.string P3, .int .i64 e3], .int .u64 (v3 : Int)]) ∧ Below W.heap.size W w'))
        have C4 := Lib.hid (fun W => by have := Lay.refSmall_any (rr3 b) W (by have := rr3_len b; omega) 4096 (by omega); unfold Lay.RefSm Lay.refV at this; rw [hv4] at this; change Calls Try.prog _ #[.agg #[.string ⟨(rr3 b).1.toArray⟩, .int .i64 (rr3 b).2], _] W (fun r w' => r = .returned (.tuple #[.agg #[.string ⟨(rr4 b).1.toArray⟩, .int .i64 (rr4 b).2], .int .i64 (v4 : Int)]) ∧ Below W.heap.size W w') at this; rw [hP3, he3, hP4, he4] at this; exact this : ∀ W, Calls Try.prog 44 #[.agg #[.string P3, .int .i64 e3], .int .i64 4096] W (fun r w' => r = .returned (.tuple #[.agg #[.string P4, .int .i64 e4], .int .i64 (v4 : Int)]) ∧ Below W.heap.size W w'))
        have C5 := Lib.hid (fun W => by have := (Lay.refEnd_any (rr4 b) W).mono (R' := fun r w' => r = .returned (.int .i64 en) ∧ Below W.heap.size W w') (fun r w' hh => ⟨by rw [hh.1, hen], by rw [← hh.2]; exact (Below.refl _ W).alloc (Nat.le_refl _) _⟩); unfold Lay.refV at this; rw [hP4, he4] at this; exact this : ∀ W, Calls Try.prog 45 #[.agg #[.string P4, .int .i64 e4]] W (fun r w' => r = .returned (.int .i64 en) ∧ Below W.heap.size W w'))
        have HC5 := HHD3.out
        obtain ⟨hd, hhd⟩ : ∃ x, headFrom' g hgl b = x := ⟨_, rfl⟩
        have hvd : hv hd = #[.int .u64 (g : Int), .int .u64 (v1 : Int), .int .i64 (v2 : Int), .int .u64 (v3 : Int), .int .i64 (v4 : Int)] := by
          rw [← hhd, ← hv1, ← hv2, ← hv3, ← hv4]
          rfl
        rw [hen, hhd] at HC5
        have HHD := Lib.hid HC5
        have HVD := Lib.hid hvd
        rw [hP0]
        clear hP0 hP1 hP2 hP3 hP4 he1 he2 he3 he4 hv1 hv2 hv3 hv4 hen hhd HC5 hvd HHD3 d0 d1
        obtain ⟨we, hwe⟩ : ∃ x, wd.alloc (.cells #[.int .u64 0, .int .u64 0, .int .i64 0, .int .u64 0, .int .i64 0] 50) = x := ⟨_, rfl⟩
        have hbwe : Below wd.heap.size wd we := by rw [← hwe]; exact (Below.refl _ wd).alloc (Nat.le_refl _) _
        have hmwe : Box we wd.heap.size 50 (hv Hd.zero) := by rw [← hwe]; exact Box.made wd _ _
        obtain ⟨wf, hwf⟩ : ∃ x, we.setRow wd.heap.size #[.int .u64 (g : Int), .int .u64 0, .int .i64 0, .int .u64 0, .int .i64 0] = x := ⟨_, rfl⟩
        have hmwf : Box wf wd.heap.size 50 #[.int .u64 (g : Int), .int .u64 0, .int .i64 0, .int .u64 0, .int .i64 0] := by rw [← hwf]; exact setRow_heap _ _ _ _ _ _ hmwe
        have hbwf : Below wd.heap.size wd wf := hbwe.trans (by rw [← hwf]; exact (Below.refl _ we).grown (grown_row (grown_refl _ (some wd.heap.size)) _) hbwe.size (fun k e => by injection e with e; omega))
        have HMwe := Lib.hid hmwe
        have HWwf := Lib.hid hwf
        have hwcl : w.heap.size < wd.heap.size := HZd.out.lt
        have HBf := Lib.hid (HBd.out.trans (hbwf.mono HBd.out.size))
        have HZf := Lib.hid (Box.below HZd.out hbwf HZd.out.lt)
        have HHf := Lib.hid hmwf
        have hgf : wd.heap.size < wf.heap.size := hmwf.lt
        clear hbwf hmwf hwf hmwe hbwe HBd HZd HMd
        go_upto_region 5 with (refine wpList_store_row rfl 50 _ _ rfl wd.heap.size #[.int .u64 (g : Int), .int .u64 0, .int .i64 0, .int .u64 0, .int .i64 0] rfl rfl 50 _ HMwe.out rhdInfo rfl (by simp [Value.oneCell']) ?_; rw [HWwf.out])
        obtain ⟨gh, hgh⟩ : ∃ x, wd.heap.size = x := ⟨_, rfl⟩
        rw [hgh] at hwcl HHf hgf ⊢
        clear hgh m0 m1 m2 hwe HMwe HWwf
        go_wp2_with fail
        refine (C1.out _).mono ?_
        rintro r wg ⟨rfl, hbg⟩
        have hB := HBf.out.trans (hbg.mono HBf.out.size)
        have hZ := Box.below HZf.out hbg HZf.out.lt
        have hH := Box.below HHf.out hbg HHf.out.lt
        obtain ⟨wh, hwh⟩ : ∃ x, wg.alloc (.cells #[.string ⟨#[]⟩, .int .i64 0] 91) = x := ⟨_, rfl⟩
        have hbh : Below wg.heap.size wg wh := by rw [← hwh]; exact (Below.refl _ wg).alloc (Nat.le_refl _) _
        have hmh : Box wh wg.heap.size 91 #[.string ⟨#[]⟩, .int .i64 0] := by rw [← hwh]; exact Box.made wg _ _
        have HMI := Lib.hid hmh
        have hB := hB.trans (hbh.mono hB.size)
        have hZ := Box.below hZ hbh hZ.lt
        have hH := Box.below hH hbh hH.lt
        have hgi : gh < wg.heap.size := Nat.lt_of_lt_of_le hgf hbg.size
        obtain ⟨wI1, hwI1⟩ : ∃ x, wh.setRow wg.heap.size #[.string P1, .int .i64 e1] = x := ⟨_, rfl⟩
        have hmI : Box wI1 wg.heap.size 91 #[.string P1, .int .i64 e1] := by rw [← hwI1]; exact setRow_heap _ _ _ _ _ _ HMI.out
        have hgI : wh.grownBy wI1 (some wg.heap.size) := by rw [← hwI1]; exact grown_row (grown_refl _ _) _
        have hB := below_grown hB hgI (by omega) hB.size
        have hZ := Box.grown hZ hgI (by simp; omega)
        have hH := Box.grown hH hgI (by simp; omega)
        have k1 : wI1.cell? ⟨gh, 1, none⟩ = some (.int .u64 0) := (Box.cell hH 1).trans rfl
        have f1 := Box.frozen hH 1
        obtain ⟨wJ1, hwJ1⟩ : ∃ x, wI1.setCell ⟨gh, 1, none⟩ (.int .u64 (v1 : Int)) = x := ⟨_, rfl⟩
        have hHJ : Box wJ1 gh 50 #[.int .u64 (g : Int), .int .u64 (v1 : Int), .int .i64 0, .int .u64 0, .int .i64 0] := by
          rw [← hwJ1]
          have := Box.put hH 1 (.int .u64 (v1 : Int))
          simpa using this
        have hgJ : wI1.grownBy wJ1 (some gh) := by rw [← hwJ1]; exact grown_set (grown_refl _ _) _ _
        have hB := below_grown hB hgJ (by omega) hB.size
        have hZ := Box.grown hZ hgJ (by simp; omega)
        have hmI := Box.grown hmI hgJ (by simp; omega)
        have HWI := Lib.hid hwI1
        have HB := Lib.hid hB
        have HZ := Lib.hid hZ
        have HH := Lib.hid hHJ
        have HI := Lib.hid hmI
        clear hB hZ hH hHJ hmI hgI hgJ hmh hbh hbg hwI1 HBf HZf HHf
        go_wp2_with (first
          | (refine wpList_store_row rfl 91 _ _ rfl wg.heap.size #[.string P1, .int .i64 e1] rfl rfl 91 _ HMI.out inInfo rfl (in_one _ _) ?_; rw [HWI.out])
          | (refine wpList_load_row rfl 91 _ rfl wg.heap.size rfl 91 _ (0, 0) _ HI.out Try.underlying91 rfl inInfo ?_))
        clear k1 f1 hwJ1 hwh HMI HWI
        obtain ⟨gi, hgi'⟩ : ∃ x, wg.heap.size = x := ⟨_, rfl⟩
        rw [hgi'] at HI hgi ⊢
        clear hgi'
        refine (C2.out _).mono ?_
        rintro r wK2 ⟨rfl, hbk⟩
        have hB := HB.out.trans (hbk.mono HB.out.size)
        have hZ := Box.below HZ.out hbk HZ.out.lt
        have hH := Box.below HH.out hbk HH.out.lt
        have HMI := Lib.hid (Box.below HI.out hbk HI.out.lt)
        clear HB HZ HH HI hbk
        obtain ⟨wI2, hwI2⟩ : ∃ x, wK2.setRow gi #[.string P2, .int .i64 e2] = x := ⟨_, rfl⟩
        have hmI : Box wI2 gi 91 #[.string P2, .int .i64 e2] := by rw [← hwI2]; exact setRow_heap _ _ _ _ _ _ HMI.out
        have hgI : wK2.grownBy wI2 (some gi) := by rw [← hwI2]; exact grown_row (grown_refl _ _) _
        have hB := below_grown hB hgI (by omega) hB.size
        have hZ := Box.grown hZ hgI (by simp; omega)
        have hH := Box.grown hH hgI (by simp; omega)
        have k2 : wI2.cell? ⟨gh, 2, none⟩ = some (.int .i64 0) := (Box.cell hH 2).trans rfl
        have f2 := Box.frozen hH 2
        obtain ⟨wJ2, hwJ2⟩ : ∃ x, wI2.setCell ⟨gh, 2, none⟩ (.int .i64 (v2 : Int)) = x := ⟨_, rfl⟩
        have hHJ : Box wJ2 gh 50 #[.int .u64 (g : Int), .int .u64 (v1 : Int), .int .i64 (v2 : Int), .int .u64 0, .int .i64 0] := by
          rw [← hwJ2]
          have := Box.put hH 2 (.int .i64 (v2 : Int))
          simpa using this
        have hgJ : wI2.grownBy wJ2 (some gh) := by rw [← hwJ2]; exact grown_set (grown_refl _ _) _ _
        have hB := below_grown hB hgJ (by omega) hB.size
        have hZ := Box.grown hZ hgJ (by simp; omega)
        have hmI := Box.grown hmI hgJ (by simp; omega)
        have HWI := Lib.hid hwI2
        have HB := Lib.hid hB
        have HZ := Lib.hid hZ
        have HH := Lib.hid hHJ
        have HI := Lib.hid hmI
        clear hB hZ hH hHJ hmI hgI hgJ hwI2
        go_wp2_with (first
          | (refine wpList_store_row rfl 91 _ _ rfl gi #[.string P2, .int .i64 e2] rfl rfl 91 _ HMI.out inInfo rfl (in_one _ _) ?_; rw [HWI.out])
          | (refine wpList_load_row rfl 91 _ rfl gi rfl 91 _ (0, 0) _ HI.out Try.underlying91 rfl inInfo ?_))
        clear k2 f2 hwJ2 HMI HWI
        refine (C3.out _).mono ?_
        rintro r wK3 ⟨rfl, hbk⟩
        have hB := HB.out.trans (hbk.mono HB.out.size)
        have hZ := Box.below HZ.out hbk HZ.out.lt
        have hH := Box.below HH.out hbk HH.out.lt
        have HMI := Lib.hid (Box.below HI.out hbk HI.out.lt)
        clear HB HZ HH HI hbk
        obtain ⟨wI3, hwI3⟩ : ∃ x, wK3.setRow gi #[.string P3, .int .i64 e3] = x := ⟨_, rfl⟩
        have hmI : Box wI3 gi 91 #[.string P3, .int .i64 e3] := by rw [← hwI3]; exact setRow_heap _ _ _ _ _ _ HMI.out
        have hgI : wK3.grownBy wI3 (some gi) := by rw [← hwI3]; exact grown_row (grown_refl _ _) _
        have hB := below_grown hB hgI (by omega) hB.size
        have hZ := Box.grown hZ hgI (by simp; omega)
        have hH := Box.grown hH hgI (by simp; omega)
        have k3 : wI3.cell? ⟨gh, 3, none⟩ = some (.int .u64 0) := (Box.cell hH 3).trans rfl
        have f3 := Box.frozen hH 3
        obtain ⟨wJ3, hwJ3⟩ : ∃ x, wI3.setCell ⟨gh, 3, none⟩ (.int .u64 (v3 : Int)) = x := ⟨_, rfl⟩
        have hHJ : Box wJ3 gh 50 #[.int .u64 (g : Int), .int .u64 (v1 : Int), .int .i64 (v2 : Int), .int .u64 (v3 : Int), .int .i64 0] := by
          rw [← hwJ3]
          have := Box.put hH 3 (.int .u64 (v3 : Int))
          simpa using this
        have hgJ : wI3.grownBy wJ3 (some gh) := by rw [← hwJ3]; exact grown_set (grown_refl _ _) _ _
        have hB := below_grown hB hgJ (by omega) hB.size
        have hZ := Box.grown hZ hgJ (by simp; omega)
        have hmI := Box.grown hmI hgJ (by simp; omega)
        have HWI := Lib.hid hwI3
        have HB := Lib.hid hB
        have HZ := Lib.hid hZ
        have HH := Lib.hid hHJ
        have HI := Lib.hid hmI
        clear hB hZ hH hHJ hmI hgI hgJ hwI3
        go_wp2_with (first
          | (refine wpList_store_row rfl 91 _ _ rfl gi #[.string P3, .int .i64 e3] rfl rfl 91 _ HMI.out inInfo rfl (in_one _ _) ?_; rw [HWI.out])
          | (refine wpList_load_row rfl 91 _ rfl gi rfl 91 _ (0, 0) _ HI.out Try.underlying91 rfl inInfo ?_))
        clear k3 f3 hwJ3 HMI HWI
        refine (C4.out _).mono ?_
        rintro r wK4 ⟨rfl, hbk⟩
        have hB := HB.out.trans (hbk.mono HB.out.size)
        have hZ := Box.below HZ.out hbk HZ.out.lt
        have hH := Box.below HH.out hbk HH.out.lt
        have HMI := Lib.hid (Box.below HI.out hbk HI.out.lt)
        clear HB HZ HH HI hbk
        obtain ⟨wI4, hwI4⟩ : ∃ x, wK4.setRow gi #[.string P4, .int .i64 e4] = x := ⟨_, rfl⟩
        have hmI : Box wI4 gi 91 #[.string P4, .int .i64 e4] := by rw [← hwI4]; exact setRow_heap _ _ _ _ _ _ HMI.out
        have hgI : wK4.grownBy wI4 (some gi) := by rw [← hwI4]; exact grown_row (grown_refl _ _) _
        have hB := below_grown hB hgI (by omega) hB.size
        have hZ := Box.grown hZ hgI (by simp; omega)
        have hH := Box.grown hH hgI (by simp; omega)
        have k4 : wI4.cell? ⟨gh, 4, none⟩ = some (.int .i64 0) := (Box.cell hH 4).trans rfl
        have f4 := Box.frozen hH 4
        obtain ⟨wJ4, hwJ4⟩ : ∃ x, wI4.setCell ⟨gh, 4, none⟩ (.int .i64 (v4 : Int)) = x := ⟨_, rfl⟩
        have hHJ : Box wJ4 gh 50 #[.int .u64 (g : Int), .int .u64 (v1 : Int), .int .i64 (v2 : Int), .int .u64 (v3 : Int), .int .i64 (v4 : Int)] := by
          rw [← hwJ4]
          have := Box.put hH 4 (.int .i64 (v4 : Int))
          simpa using this
        have hgJ : wI4.grownBy wJ4 (some gh) := by rw [← hwJ4]; exact grown_set (grown_refl _ _) _ _
        have hB := below_grown hB hgJ (by omega) hB.size
        have hZ := Box.grown hZ hgJ (by simp; omega)
        have hmI := Box.grown hmI hgJ (by simp; omega)
        have HWI := Lib.hid hwI4
        have HB := Lib.hid hB
        have HZ := Lib.hid hZ
        have HH := Lib.hid hHJ
        have HI := Lib.hid hmI
        clear hB hZ hH hHJ hmI hgI hgJ hwI4
        go_wp2_with (first
          | (refine wpList_store_row rfl 91 _ _ rfl gi #[.string P4, .int .i64 e4] rfl rfl 91 _ HMI.out inInfo rfl (in_one _ _) ?_; rw [HWI.out])
          | (refine wpList_load_row rfl 91 _ rfl gi rfl 91 _ (0, 0) _ HI.out Try.underlying91 rfl inInfo ?_))
        clear k4 f4 hwJ4 HMI HWI
        refine (C5.out _).mono ?_
        rintro r wL ⟨rfl, hbl5⟩
        have HBL := Lib.hid (HB.out.trans (hbl5.mono HB.out.size))
        have HZL := Lib.hid (Box.below HZ.out hbl5 HZ.out.lt)
        have hHL := Box.below HH.out hbl5 HH.out.lt
        rw [← HVD.out] at hHL
        have HHL := Lib.hid hHL
        clear hbl5 HB HZ HH HI C1 C2 C3 C4 C5 hHL
        by_cases h0 : en = 0
        · subst h0
          have HRI := Lib.hid (rright_says wL hd)
          have q0 : wL.cell? ⟨gh, 0, none⟩ = some (.int .u64 (hd.gen : Int)) := (Box.cell HHL.out 0).trans rfl
          have q1 : wL.cell? ⟨gh, 1, none⟩ = some (.int .u64 (hd.epoch : Int)) := (Box.cell HHL.out 1).trans rfl
          have q2 : wL.cell? ⟨gh, 2, none⟩ = some (.int .i64 hd.pos) := (Box.cell HHL.out 2).trans rfl
          have q3 : wL.cell? ⟨gh, 3, none⟩ = some (.int .u64 (hd.seq : Int)) := (Box.cell HHL.out 3).trans rfl
          have q4 : wL.cell? ⟨gh, 4, none⟩ = some (.int .i64 hd.log) := (Box.cell HHL.out 4).trans rfl
          go_wp2_with fail
          clear q0 q1 q2 q3 q4
          refine HRI.out.mono ?_
          rintro r10 wF ⟨rfl, hbF⟩
          have HBF := Lib.hid (HBL.out.trans (hbF.mono HBL.out.size))
          have HZF := Lib.hid (Box.below HZL.out hbF HZL.out.lt)
          have HHF := Lib.hid (Box.below HHL.out hbF HHL.out.lt)
          clear hbF HBL HZL HHL
          cases hri : hd.rightB 12 with
          | true =>
            have HY := Lib.hid (show headOf l 12 = some hd by rw [HHD.out, if_pos (by simp [hri])])
            clear hri
            obtain ⟨w9, hw9⟩ : ∃ x, wF.setRow w.heap.size (hv hd) = x := ⟨_, rfl⟩
            have hm9 : Box w9 w.heap.size 50 (hv hd) := by rw [← hw9]; exact setRow_heap _ _ _ _ _ _ HZF.out
            have HB9 := Lib.hid (show Below w.heap.size w w9 from HBF.out.trans (by rw [← hw9]; exact (Below.refl _ wF).grown (grown_row (grown_refl _ (some w.heap.size)) _) HBF.out.size (fun k e => by injection e with e; omega)))
            have e0' : w9.cell? ⟨w.heap.size, 0, none⟩ = some (.int .u64 (hd.gen : Int)) := (Box.cell hm9 0).trans rfl
            have e1' : w9.cell? ⟨w.heap.size, 1, none⟩ = some (.int .u64 (hd.epoch : Int)) := (Box.cell hm9 1).trans rfl
            have e2' : w9.cell? ⟨w.heap.size, 2, none⟩ = some (.int .i64 hd.pos) := (Box.cell hm9 2).trans rfl
            have e3' : w9.cell? ⟨w.heap.size, 3, none⟩ = some (.int .u64 (hd.seq : Int)) := (Box.cell hm9 3).trans rfl
            have e4' : w9.cell? ⟨w.heap.size, 4, none⟩ = some (.int .i64 hd.log) := (Box.cell hm9 4).trans rfl
            have HW9 := Lib.hid hw9
            clear hm9 hw9
            go_wp2_with (first
              | (refine wpList_load_row rfl 50 _ rfl gh rfl 50 _ (0, 0) _ HHF.out Try.underlying50 rfl (by rw [hv_size]; exact rhdInfo) ?_)
              | (refine wpList_store_row rfl 50 _ _ rfl w.heap.size (hv hd) rfl rfl 50 _ HZF.out (by rw [hv_size]; exact rhdInfo) rfl (hv_one _) ?_; rw [HW9.out]))
            exact bodyPost_ret (v := .tuple #[.agg (hv hd), .bool true]) (by simp [results, Try.results20, go_sem, e0', e1', e2', e3', e4', hv]) rfl ⟨fun hh => (by rw [HY.out] at hh; cases hh), fun h hh => (by rw [HY.out] at hh; injection hh with hh; rw [hh]), HB9.out⟩
          | false =>
            have HN := Lib.hid (show headOf l 12 = none by rw [HHD.out, if_neg (by simp [hri])])
            clear hri
            obtain ⟨w9, hw9⟩ : ∃ x, wF.setRow w.heap.size (hv Hd.zero) = x := ⟨_, rfl⟩
            have hm9 : Box w9 w.heap.size 50 (hv Hd.zero) := by rw [← hw9]; exact setRow_heap _ _ _ _ _ _ HZF.out
            have HB9 := Lib.hid (show Below w.heap.size w w9 from HBF.out.trans (by rw [← hw9]; exact (Below.refl _ wF).grown (grown_row (grown_refl _ (some w.heap.size)) _) HBF.out.size (fun k e => by injection e with e; omega)))
            have e0' : w9.cell? ⟨w.heap.size, 0, none⟩ = some (.int .u64 (Hd.zero.gen : Int)) := (Box.cell hm9 0).trans rfl
            have e1' : w9.cell? ⟨w.heap.size, 1, none⟩ = some (.int .u64 (Hd.zero.epoch : Int)) := (Box.cell hm9 1).trans rfl
            have e2' : w9.cell? ⟨w.heap.size, 2, none⟩ = some (.int .i64 Hd.zero.pos) := (Box.cell hm9 2).trans rfl
            have e3' : w9.cell? ⟨w.heap.size, 3, none⟩ = some (.int .u64 (Hd.zero.seq : Int)) := (Box.cell hm9 3).trans rfl
            have e4' : w9.cell? ⟨w.heap.size, 4, none⟩ = some (.int .i64 Hd.zero.log) := (Box.cell hm9 4).trans rfl
            have HW9 := Lib.hid hw9
            clear hm9 hw9
            go_wp2_with (refine wpList_store_row rfl 50 _ _ rfl w.heap.size (hv Hd.zero) rfl rfl 50 _ HZF.out (by rw [hv_size]; exact rhdInfo) rfl (hv_one _) ?_; rw [HW9.out])
            exact bodyPost_ret (v := .tuple #[.agg (hv Hd.zero), .bool false]) (by simp [results, Try.results20, go_sem, e0', e1', e2', e3', e4', hv]) rfl ⟨fun _ => rfl, fun h hh => (by rw [HN.out] at hh; cases hh), HB9.out⟩
        · have d0 : (en != 0) = true := by rw [bne_iff_ne]; exact h0
          have HN := Lib.hid (show headOf l 12 = none by rw [HHD.out, if_neg (fun e => h0 e.1)])
          clear h0
          obtain ⟨w9, hw9⟩ : ∃ x, wL.setRow w.heap.size (hv Hd.zero) = x := ⟨_, rfl⟩
          have hm9 : Box w9 w.heap.size 50 (hv Hd.zero) := by rw [← hw9]; exact setRow_heap _ _ _ _ _ _ HZL.out
          have HB9 := Lib.hid (show Below w.heap.size w w9 from HBL.out.trans (by rw [← hw9]; exact (Below.refl _ wL).grown (grown_row (grown_refl _ (some w.heap.size)) _) HBL.out.size (fun k e => by injection e with e; omega)))
          have e0' : w9.cell? ⟨w.heap.size, 0, none⟩ = some (.int .u64 (Hd.zero.gen : Int)) := (Box.cell hm9 0).trans rfl
          have e1' : w9.cell? ⟨w.heap.size, 1, none⟩ = some (.int .u64 (Hd.zero.epoch : Int)) := (Box.cell hm9 1).trans rfl
          have e2' : w9.cell? ⟨w.heap.size, 2, none⟩ = some (.int .i64 Hd.zero.pos) := (Box.cell hm9 2).trans rfl
          have e3' : w9.cell? ⟨w.heap.size, 3, none⟩ = some (.int .u64 (Hd.zero.seq : Int)) := (Box.cell hm9 3).trans rfl
          have e4' : w9.cell? ⟨w.heap.size, 4, none⟩ = some (.int .i64 Hd.zero.log) := (Box.cell hm9 4).trans rfl
          have HW9 := Lib.hid hw9
          clear hm9 hw9
          go_wp2_with (refine wpList_store_row rfl 50 _ _ rfl w.heap.size (hv Hd.zero) rfl rfl 50 _ HZL.out (by rw [hv_size]; exact rhdInfo) rfl (hv_one _) ?_; rw [HW9.out])
          exact bodyPost_ret (v := .tuple #[.agg (hv Hd.zero), .bool false]) (by simp [results, Try.results20, go_sem, e0', e1', e2', e3', e4', hv]) rfl ⟨fun _ => rfl, fun h hh => (by rw [HN.out] at hh; cases hh), HB9.out⟩
      · have d1 : ((m.epoch : Int) != (m.seq : Int)) = true := by rw [bne_iff_ne]; omega
        have HN := Lib.hid (show headOf l 12 = none by rw [HHD.out, if_neg (fun e => hs e.1.2)])
        clear hs hk
        go_upto_region 3 with (refine wpList_store_row rfl 29 _ _ rfl wa.heap.size (mv m) rfl rfl 29 _ HMwb.out (by rw [mv_size]; exact refInfo) rfl (mv_one _) ?_; rw [HWwd.out])
        obtain ⟨w9, hw9⟩ : ∃ x, wd.setRow w.heap.size (hv Hd.zero) = x := ⟨_, rfl⟩
        have hm9 : Box w9 w.heap.size 50 (hv Hd.zero) := by rw [← hw9]; exact setRow_heap _ _ _ _ _ _ HZd.out
        have HB9 := Lib.hid (show Below w.heap.size w w9 from HBd.out.trans (by rw [← hw9]; exact (Below.refl _ wd).grown (grown_row (grown_refl _ (some w.heap.size)) _) HBd.out.size (fun k e => by injection e with e; omega)))
        have e0' : w9.cell? ⟨w.heap.size, 0, none⟩ = some (.int .u64 (Hd.zero.gen : Int)) := (Box.cell hm9 0).trans rfl
        have e1' : w9.cell? ⟨w.heap.size, 1, none⟩ = some (.int .u64 (Hd.zero.epoch : Int)) := (Box.cell hm9 1).trans rfl
        have e2' : w9.cell? ⟨w.heap.size, 2, none⟩ = some (.int .i64 Hd.zero.pos) := (Box.cell hm9 2).trans rfl
        have e3' : w9.cell? ⟨w.heap.size, 3, none⟩ = some (.int .u64 (Hd.zero.seq : Int)) := (Box.cell hm9 3).trans rfl
        have e4' : w9.cell? ⟨w.heap.size, 4, none⟩ = some (.int .i64 Hd.zero.log) := (Box.cell hm9 4).trans rfl
        have HW9 := Lib.hid hw9
        clear hm9 hw9
        go_wp2_with (refine wpList_store_row rfl 50 _ _ rfl w.heap.size (hv Hd.zero) rfl rfl 50 _ HZd.out (by rw [hv_size]; exact rhdInfo) rfl (hv_one _) ?_; rw [HW9.out])
        exact bodyPost_ret (v := .tuple #[.agg (hv Hd.zero), .bool false]) (by simp [results, Try.results20, go_sem, e0', e1', e2', e3', e4', hv]) rfl ⟨fun _ => rfl, fun h hh => (by rw [HN.out] at hh; cases hh), HB9.out⟩
    · have d0 : ((m.kind.toNat : Int) != 9) = true := by
        rw [bne_iff_ne]
        intro e
        exact hk (UInt8.toNat_inj.1 (show m.kind.toNat = 9 by omega))
      have HN := Lib.hid (show headOf l 12 = none by rw [HHD.out, if_neg (fun e => hk e.1.1)])
      clear hk
      go_upto_region 3 with (refine wpList_store_row rfl 29 _ _ rfl wa.heap.size (mv m) rfl rfl 29 _ HMwb.out (by rw [mv_size]; exact refInfo) rfl (mv_one _) ?_; rw [HWwd.out])
      obtain ⟨w9, hw9⟩ : ∃ x, wd.setRow w.heap.size (hv Hd.zero) = x := ⟨_, rfl⟩
      have hm9 : Box w9 w.heap.size 50 (hv Hd.zero) := by rw [← hw9]; exact setRow_heap _ _ _ _ _ _ HZd.out
      have HB9 := Lib.hid (show Below w.heap.size w w9 from HBd.out.trans (by rw [← hw9]; exact (Below.refl _ wd).grown (grown_row (grown_refl _ (some w.heap.size)) _) HBd.out.size (fun k e => by injection e with e; omega)))
      have e0' : w9.cell? ⟨w.heap.size, 0, none⟩ = some (.int .u64 (Hd.zero.gen : Int)) := (Box.cell hm9 0).trans rfl
      have e1' : w9.cell? ⟨w.heap.size, 1, none⟩ = some (.int .u64 (Hd.zero.epoch : Int)) := (Box.cell hm9 1).trans rfl
      have e2' : w9.cell? ⟨w.heap.size, 2, none⟩ = some (.int .i64 Hd.zero.pos) := (Box.cell hm9 2).trans rfl
      have e3' : w9.cell? ⟨w.heap.size, 3, none⟩ = some (.int .u64 (Hd.zero.seq : Int)) := (Box.cell hm9 3).trans rfl
      have e4' : w9.cell? ⟨w.heap.size, 4, none⟩ = some (.int .i64 Hd.zero.log) := (Box.cell hm9 4).trans rfl
      have HW9 := Lib.hid hw9
      clear hm9 hw9
      go_wp2_with (refine wpList_store_row rfl 50 _ _ rfl w.heap.size (hv Hd.zero) rfl rfl 50 _ HZd.out (by rw [hv_size]; exact rhdInfo) rfl (hv_one _) ?_; rw [HW9.out])
      exact bodyPost_ret (v := .tuple #[.agg (hv Hd.zero), .bool false]) (by simp [results, Try.results20, go_sem, e0', e1', e2', e3', e4', hv]) rfl ⟨fun _ => rfl, fun h hh => (by rw [HN.out] at hh; cases hh), HB9.out⟩
end Go.Proofs.Ythpfdenpgegheaa
