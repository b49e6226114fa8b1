/-
  mark's numbers: putNumber, number, empty.
  mark's marks: mayBe, putMark, markOf.
  mark.Seal.
-/
import Derived.Test.YtnhondkdkjehaaaGreatSlA
import Derived.Test.YtnhondkdkjehaaaGreatSlB
import Derived.BigQuiet
import Derived.Deep.DeepCutAuto
namespace Go.Proofs.YtnhondkdkjehaaaGreat
open Go.RowKit

theorem beN_cons : ∀ t n, beN (t + 1) n = UInt8.ofNat (n / 256 ^ t % 256) :: beN t n
  | 0, n => by simp [beN]
  | t + 1, n => by
    rw [beN, beN_cons t (n / 256), List.cons_append, ← show beN (t + 1) n = beN t (n / 256) ++ [UInt8.ofNat (n % 256)] from rfl, Nat.div_div_eq_div_mul, Nat.pow_succ, Nat.mul_comm 256]
theorem or_step (a : Nat) (b : UInt8) (h : a * 256 + b.toNat < 18446744073709551616) :
    bits .or .u64 (IntKind.u64.wrap ((a : Int) * 256)) (IntKind.u64.wrap (b.toNat : Int)) = ((a * 256 + b.toNat : Nat) : Int) := by
  have hb := b.toNat_lt
  have q1 : a * 256 < 18446744073709551616 := Nat.lt_of_le_of_lt (Nat.le_add_right _ _) h
  have q2 : b.toNat < 18446744073709551616 := Nat.lt_of_le_of_lt (Nat.le_add_left _ _) h
  have e4 : a * 256 ||| b.toNat = a * 256 + b.toNat := nat_join 8 (a * 256) b.toNat (by omega) (by omega)
  have e1 : IntKind.u64.wrap ((a : Int) * 256) = ((a * 256 : Nat) : Int) := by clear e4; rw [IntKind.wrap_u64]; omega
  have e2 : IntKind.u64.wrap (b.toNat : Int) = (b.toNat : Int) := by clear e1 e4; rw [IntKind.wrap_u64]; omega
  have e3 : bits .or .u64 ((a * 256 : Nat) : Int) ((b.toNat : Nat) : Int) = ((a * 256 ||| b.toNat : Nat) : Int) := u64_or_nat (a * 256) b.toNat q1 q2
  rw [e1, e2, e3, e4]
/-- Behind t rounds. -/
def putTo (l : List UInt8) (o k n t : Nat) : List UInt8 := laid l (o + k - t) (beN t n)
theorem putTo_zero (l : List UInt8) (o k n : Nat) : putTo l o k n 0 = l := by simp [putTo, laid, beN]
theorem putTo_all (l : List UInt8) (o k n : Nat) : putTo l o k n k = laid l o (beN k n) := by rw [putTo, show o + k - k = o by omega]
theorem putTo_set (l : List UInt8) (o k n t : Nat) (ht : t < k) (hl : o + k ≤ l.length) : (putTo l o k n t).set (o + k - t - 1) (UInt8.ofNat (n / 256 ^ t % 256)) = putTo l o k n (t + 1) := by
  rw [putTo, putTo, laid, laid, beN_length, beN_length, beN_cons]
  obtain ⟨p, hp⟩ : ∃ p, o + k - t - 1 = p := ⟨_, rfl⟩
  rw [show o + k - t = p + 1 by omega, show o + k - (t + 1) = p by omega, show p + 1 + t = p + (t + 1) by omega, Nat.add_sub_cancel]
  have hpl : p < l.length := by omega
  rw [List.take_succ_eq_append_getElem hpl, List.append_assoc, List.append_assoc, List.set_append_right _ _ (by rw [List.length_take]; omega), List.length_take, Nat.min_eq_left (by omega), Nat.sub_self]
  simp
theorem byte_wrap8 (n : Nat) : IntKind.u8.wrap (n : Int) = (((UInt8.ofNat (n % 256)).toNat : Nat) : Int) := by
  rw [IntKind.wrap_u8, UInt8.toNat_ofNat']
  omega
set_option maxRecDepth 100000 in
set_option maxHeartbeats 4000000 in
theorem putNumber_says (w : World) (g o k c : Nat) (l : List UInt8) (hb : Box w g 5 (bc l).toArray) (hl : o + k ≤ l.length) (hl2 : l.length ≤ 1000) (n : Nat) :
    Calls Tryz.prog 95 #[.slice (some ⟨g, o, none⟩) k c, .int .u64 (n : Int)] w fun e w' => e = .returned (.tuple #[]) ∧ Box w' g 5 (bc (laid l o (beN k n))).toArray ∧ w.grownBy w' (some g) := by
  have HB := Lib.hid hb
  clear hb
  have ew : IntKind.i64.wrap ((k : Int) - 1) = (k : Int) - 1 := IntWalk.i64_in _ (by omega)
  go_enter Tryz.func95, Tryz.ntmps95
  go_wp2_with fail
  go_loopw [1, 4] (fun v i wr => ∃ t : Nat, t ≤ k ∧ v = .int .u64 ((n / 256 ^ t : Nat) : Int) ∧ i = .int .i64 ((k : Int) - 1 - t) ∧ Hid (Box wr g 5 (bc (putTo l o k n t)).toArray ∧ w.grownBy wr (some g))) (fun _ i _ => (intOf i + 1).toNat)
  case atStart => exact ⟨0, by omega, by simp, by simp, Lib.hid ⟨by rw [putTo_zero]; exact HB.out, grown_refl _ _⟩⟩
  case round =>
    obtain ⟨t, ht, rfl, rfl, H⟩ := hrel
    by_cases hk : t < k
    · have g1 : (0 : Int) ≤ (k : Int) - 1 - t := by omega
      have hpl : (putTo l o k n t).length = l.length := laid_length (by rw [beN_length]; omega)
      have c1 : ∃ u, wr.cell? ⟨g, o + (k - 1 - t), none⟩ = some u := by
        rw [Box.cell H.out.1]
        exact ⟨_, Array.getElem?_eq_getElem (by simp [bc_length, hpl]; omega)⟩
      obtain ⟨u, c1⟩ := c1
      have f1 := Box.frozen H.out.1 (o + (k - 1 - t))
      obtain ⟨v, hv⟩ : ∃ v, n / 256 ^ t = v := ⟨_, rfl⟩
      have hv8 : IntKind.u8.wrap (v : Int) = (((UInt8.ofNat (v % 256)).toNat : Nat) : Int) := byte_wrap8 v
      obtain ⟨wn, hwn⟩ : ∃ wn, wr.setCell ⟨g, o + (k - 1 - t), none⟩ (.int .u8 (((UInt8.ofNat (v % 256)).toNat : Nat) : Int)) = wn := ⟨_, rfl⟩
      have hb5 := box_set H.out.1 (o + (k - 1 - t)) (UInt8.ofNat (v % 256))
      rw [show o + (k - 1 - t) = o + k - t - 1 by omega, ← hv, putTo_set l o k n t hk hl] at hb5
      rw [hv, ← show o + (k - 1 - t) = o + k - t - 1 by omega, hwn] at hb5
      have hg5 := grown_set H.out.2 (o + (k - 1 - t)) (.int .u8 (((UInt8.ofNat (v % 256)).toNat : Nat) : Int))
      rw [hwn] at hg5
      have hv2 : n / 256 ^ (t + 1) = v / 256 := by rw [Nat.pow_succ, ← Nat.div_div_eq_div_mul, hv]
      have H5 := Lib.hid (And.intro hb5 hg5)
      have hvs : (((UInt8.ofNat (v % 256)).toNat : Nat) : Int) = (v : Int) % 256 := by rw [UInt8.toNat_ofNat']; omega
      rw [hvs] at hwn
      rw [hv]
      clear hb5 hg5 H hv8 hvs
      go_wp2
      go_roundw
      case rel => exact ⟨t + 1, by omega, by rw [hv2]; simp, by congr 1; omega, H5⟩
      case measure => simp [intOf]; omega
    · obtain rfl : t = k := by omega
      go_wp2
      go_end0
      exact ⟨rfl, by have := H.out.1; rwa [putTo_all] at this, H.out.2⟩
set_option maxRecDepth 100000 in
set_option maxHeartbeats 4000000 in
theorem number_says (w : World) (N : Nat → Prop) (A : Option Addr) (k c : Nat) (l : List UInt8) (h : Lies w N A k c (bc l)) (hk : k ≤ 8) :
    Calls Tryz.prog 136 #[.slice A k c] w fun e w' => e = .returned (.int .u64 (beVal l : Int)) ∧ w' = w := by
  have hl : l.length = k := by rw [← bc_length]; exact h.len
  have HL := Lib.hid h
  clear h
  go_enter Tryz.func136, Tryz.ntmps136
  go_wp2_with fail
  go_loopw [3, 5, 8] (fun v _ i wr => ∃ t : Nat, t ≤ k ∧ v = .int .u64 (beVal (l.take t) : Int) ∧ i = .int .i64 (t : Int) ∧ wr = w) (fun _ _ i _ => k - (intOf i).toNat)
  case atStart => exact ⟨0, by omega, rfl, rfl, rfl⟩
  case round =>
    obtain ⟨t, ht, rfl, rfl, rfl⟩ := hrel
    by_cases hk : t < k
    · obtain ⟨b, off, rfl, _, hbl, hc⟩ := HL.out.at (j := t) (u := .int .u8 ((l[t]'(by omega)).toNat : Int)) (by simp [bc, show t < l.length by omega])
      generalize hz : l[t]'(by omega) = z at hc
      have e1 : beVal (l.take (t + 1)) = beVal (l.take t) * 256 + z.toNat := by rw [List.take_succ_eq_append_getElem (by omega), hz, beVal_snoc]
      have e2 := or_step (beVal (l.take t)) z (by rw [← e1]; exact beVal_lt8 _ (by rw [List.length_take]; omega))
      rw [← e1] at e2
      go_wp2
      go_roundw
      case rel => exact ⟨t + 1, by omega, by rw [e1]; simp, by go_num, trivial⟩
      case measure => simp [intOf]; omega
    · obtain rfl : t = k := by omega
      have e0 : l.take t = l := List.take_of_length_le (by omega)
      rw [e0]
      go_wp2
      go_ret
      exact ⟨rfl, rfl⟩
set_option maxRecDepth 100000 in
set_option maxHeartbeats 4000000 in
theorem empty_says (w : World) (N : Nat → Prop) (A : Option Addr) (k c : Nat) (l : List UInt8) (h : Lies w N A k c (bc l)) (hk : k ≤ 1000) :
    Calls Tryz.prog 137 #[.slice A k c] w fun e w' => e = .returned (.bool (l.all (· == 0))) ∧ w' = w := by
  have hl : l.length = k := by rw [← bc_length]; exact h.len
  have HL := Lib.hid h
  clear h
  go_enter Tryz.func137, Tryz.ntmps137
  go_wp2_with fail
  go_loopw [4, 7] (fun _ i wr => ∃ t : Nat, t ≤ k ∧ (l.take t).all (· == 0) = true ∧ i = .int .i64 (t : Int) ∧ wr = w) (fun _ i _ => k - (intOf i).toNat)
  case atStart => exact ⟨0, by omega, rfl, rfl, rfl⟩
  case round =>
    obtain ⟨t, ht, hall, rfl, rfl⟩ := hrel
    by_cases hk : t < k
    · obtain ⟨b, off, rfl, _, hbl, hc⟩ := HL.out.at (j := t) (u := .int .u8 ((l[t]'(by omega)).toNat : Int)) (by simp [bc, show t < l.length by omega])
      generalize hz : l[t]'(by omega) = z at hc
      have HA := Lib.hid hall
      clear hall
      by_cases hz0 : z = 0
      · have e1 : (z.toNat : Int) = 0 := by rw [hz0]; rfl
        go_wp2
        go_roundw
        case rel => exact ⟨t + 1, by omega, by rw [List.take_succ_eq_append_getElem (by omega), hz, List.all_append, HA.out, hz0]; rfl, by go_num, trivial⟩
        case measure => simp [intOf]; omega
      · have e1 : ((z.toNat : Int) == 0) = false := by
          have : z.toNat ≠ 0 := fun e => hz0 (UInt8.toNat_inj.1 e)
          simp; omega
        have e2 : l.all (· == 0) = false := by
          rw [Bool.eq_false_iff]
          intro he
          rw [List.all_eq_true] at he
          have := he z (by rw [← hz]; exact List.getElem_mem _)
          exact hz0 (by simpa using this)
        go_wp2
        go_ret
        exact ⟨congrArg (fun b => Ending.returned (Value.bool b)) e2.symm, rfl⟩
    · obtain rfl : t = k := by omega
      have e0 : l.take t = l := List.take_of_length_le (by omega)
      rw [e0] at hall
      have HA := Lib.hid hall
      clear hall
      go_wp2
      go_ret
      exact ⟨congrArg (fun b => Ending.returned (Value.bool b)) HA.out.symm, rfl⟩
end Go.Proofs.YtnhondkdkjehaaaGreat
namespace Go.Proofs.YtnhondkdkjehaaaGreat
open Go.RowKit

theorem mv_size (m : Mk) : (mv m).size = 3 := rfl
theorem mv_one (m : Mk) : (mv m).all (·.oneCell') = true := by simp [mv, Value.oneCell']
set_option maxRecDepth 100000 in
set_option maxHeartbeats 4000000 in
theorem mayBe_says (w : World) (m : Mk) : Calls Tryz.prog 93 #[.agg (mv m)] w fun e w' => e = .returned (.bool m.may) ∧ Below w.heap.size w w' := by
  obtain ⟨k, ep, sq, he, hs⟩ := m
  have hb : Below w.heap.size w (w.alloc (.cells #[.int .u8 (k.toNat : Int), .int .u64 (ep : Int), .int .u64 (sq : Int)] 126)) := (Below.refl _ w).alloc (Nat.le_refl _) _
  have HB := Lib.hid hb
  clear hb
  by_cases h0 : k = 0
  · have e0 : (k.toNat : Int) = 0 := by rw [h0]; rfl
    have er : Mk.may ⟨k, ep, sq, he, hs⟩ = false := by simp [Mk.may, h0]
    rw [er]
    simp only [mv, e0]
    rw [e0] at HB
    go_enter Tryz.func93, Tryz.ntmps93
    go_wp2
    go_ret
    exact ⟨rfl, HB.out⟩
  · have e0 : ((k.toNat : Int) != 0) = true := by
      have : k.toNat ≠ 0 := fun e => h0 (UInt8.toNat_inj.1 e)
      simp; omega
    have er : Mk.may ⟨k, ep, sq, he, hs⟩ = ((k.toNat : Int) != 3) := by
      have e1 : (k == 3) = ((k.toNat : Int) == 3) := by
        rw [Bool.eq_iff_iff]
        simp only [beq_iff_eq]
        constructor
        · intro h; rw [h]; rfl
        · intro h; exact UInt8.toNat_inj.1 (by have : k.toNat = 3 := by omega
                                               rw [this]; rfl)
      simp only [Mk.may, bne, e1, show (k == 0) = false by simp [h0]]
      simp
    rw [er]
    go_enter Tryz.func93, Tryz.ntmps93
    simp only [mv]
    go_wp2
    go_ret
    exact ⟨rfl, HB.out⟩
theorem infoByte : (Tryz.prog.info? 5).map (·.size) = some 1 := by kernel_rfl
/-- 'x[m:j]', of a slice into a known block. -/
theorem cut_part (g o k c m j : Nat) (hm : m ≤ j) (hj : j ≤ c) (hc : m < c) (w : World) : (Instr.sliceAt 49 (.slice (some ⟨g, o, none⟩) k c) (some (.int .i64 (m : Int))) (some (.int .i64 (j : Int))) none).run Tryz.prog w = .ok (.slice (some ⟨g, o + m, none⟩) (j - m) (c - m)) w := by
  have h1 := sliceAt_part Tryz.underlying49 infoByte .i64 .i64 (some ⟨g, o, none⟩) k c m j hm hj w
  rw [cutA, if_neg (show ¬ c = m by omega)] at h1
  rw [h1]
  simp [Addr.add_mid]
theorem cut_from (g o k c m : Nat) (hm : m ≤ k) (hc : m < c) (w : World) : (Instr.sliceAt 49 (.slice (some ⟨g, o, none⟩) k c) (some (.int .i64 (m : Int))) none none).run Tryz.prog w = .ok (.slice (some ⟨g, o + m, none⟩) (k - m) (c - m)) w := by
  have h1 := sliceAt_from Tryz.underlying49 infoByte .i64 (some ⟨g, o, none⟩) k c m hm w
  rw [cutA, if_neg (show ¬ c = m by omega)] at h1
  rw [h1]
  simp [Addr.add_mid]
theorem laid_laid (l : List UInt8) (o : Nat) (xs ys : List UInt8) (h : o + xs.length ≤ l.length) : laid (laid l o xs) (o + xs.length) ys = laid l o (xs ++ ys) := by
  have h1 : (l.take o ++ xs).length = o + xs.length := by rw [List.length_append, List.length_take]; omega
  rw [laid, laid, laid, List.take_append_of_le_length (by omega), List.take_of_length_le (by omega), List.drop_append, List.drop_eq_nil_of_le (by omega), List.nil_append, List.drop_drop, h1, List.length_append]
  simp only [List.append_assoc]
  congr 4
  omega
theorem laid_one (l : List UInt8) (o : Nat) (x : UInt8) (h : o < l.length) : l.set o x = laid l o [x] := by
  rw [laid, List.set_eq_take_append_cons_drop, if_pos h]
  simp
set_option maxRecDepth 100000 in
set_option maxHeartbeats 4000000 in
theorem putMark_says (w : World) (g o k c : Nat) (l : List UInt8) (hb : Box w g 5 (bc l).toArray) (hk : 17 ≤ k) (hc : k ≤ c) (hl : o + k ≤ l.length) (hl2 : l.length ≤ 1000) (m : Mk) :
    Calls Tryz.prog 94 #[.slice (some ⟨g, o, none⟩) k c, .agg (mv m)] w fun e w' => e = .returned (.tuple #[]) ∧ Box w' g 5 (bc (laid l o m.bytes)).toArray ∧ w.grownBy w' (some g) := by
  obtain ⟨w1, hw1⟩ : ∃ w1, w.alloc (.cells #[.int .u8 (m.kind.toNat : Int), .int .u64 (m.epoch : Int), .int .u64 (m.seq : Int)] 126) = w1 := ⟨_, rfl⟩
  have hb1 : Below w.heap.size w w1 := by rw [← hw1]; exact (Below.refl _ w).alloc (Nat.le_refl _) _
  have hm1 : Box w1 w.heap.size 126 (mv m) := by rw [← hw1]; exact Box.made w _ _
  have hg1 := Box.below hb hb1 hb.lt
  have hne : w.heap.size ≠ g := by have := hb.lt; omega
  obtain ⟨w2, hw2⟩ : ∃ w2, w1.setCell ⟨g, o, none⟩ (.int .u8 (m.kind.toNat : Int)) = w2 := ⟨_, rfl⟩
  have hg2 : Box w2 g 5 (bc (laid l o [m.kind])).toArray := by rw [← hw2, ← laid_one l o m.kind (by omega)]; exact box_set hg1 o m.kind
  have hgr2 : w.grownBy w2 (some g) := by rw [← hw2]; exact grown_set (grown_of_below hb1 _) _ _
  have hm2 : Box w2 w.heap.size 126 (mv m) := by rw [← hw2]; exact Box.grown hm1 (grown_set (grown_refl _ _) _ _) (by simpa using hne)
  have c0 : w1.cell? ⟨w.heap.size, 0, none⟩ = some (.int .u8 (m.kind.toNat : Int)) := (Box.cell hm1 0).trans rfl
  obtain ⟨u, cg⟩ : ∃ u, w1.cell? ⟨g, o, none⟩ = some u := by rw [Box.cell hg1]; exact ⟨_, Array.getElem?_eq_getElem (by simp [bc_length]; omega)⟩
  have fg := Box.frozen hg1 o
  have c1 : w2.cell? ⟨w.heap.size, 1, none⟩ = some (.int .u64 (m.epoch : Int)) := (Box.cell hm2 1).trans rfl
  have s1 : ∀ W, (Instr.sliceAt 49 (.slice (some ⟨g, o, none⟩) k c) (some (.int .i64 1)) (some (.int .i64 9)) none).run Tryz.prog W = .ok (.slice (some ⟨g, o + 1, none⟩) 8 (c - 1)) W := fun W => cut_part g o k c 1 9 (by omega) (by omega) (by omega) W
  have s2 : ∀ W, (Instr.sliceAt 49 (.slice (some ⟨g, o, none⟩) k c) (some (.int .i64 9)) (some (.int .i64 17)) none).run Tryz.prog W = .ok (.slice (some ⟨g, o + 9, none⟩) 8 (c - 9)) W := fun W => cut_part g o k c 9 17 (by omega) (by omega) (by omega) W
  have hll : (laid l o [m.kind]).length = l.length := laid_length (by simp; omega)
  have H2 := Lib.hid (And.intro hg2 (And.intro hgr2 hm2))
  clear hg2 hgr2 hm2 hb hg1 hm1 hb1
  have d1 : w2.drew.cell? ⟨w.heap.size, 1, none⟩ = some (.int .u64 (m.epoch : Int)) := c1
  go_enter Tryz.func94, Tryz.ntmps94
  simp only [mv]
  go_upto_region 2 with fail
  go_still_tail 4, (by kernel_rfl)
  change wpList _ _ _ _ _ w2.drew
  go_wp2_with fail
  refine (putNumber_says w2.drew g (o + 1) 8 (c - 1) _ H2.out.1 (by rw [hll]; omega) (by rw [hll]; exact hl2) m.epoch).mono ?_
  rintro e w3 ⟨rfl, hb3, hg3⟩
  have e3 := laid_laid l o [m.kind] (beN 8 m.epoch) (by simp; omega)
  rw [show ([m.kind] : List UInt8).length = 1 from rfl] at e3
  rw [e3] at hb3
  have hm3 : Box w3 w.heap.size 126 (mv m) := Box.grown H2.out.2.2 (grown_trans (grown_drew (grown_refl w2 (some g))) hg3) (by simpa using hne)
  have hgr3 : w.grownBy w3 (some g) := grown_trans H2.out.2.1 (grown_trans (grown_drew (grown_refl w2 (some g))) hg3)
  have hl3 : (laid l o ([m.kind] ++ beN 8 m.epoch)).length = l.length := laid_length (by simp [beN_length]; omega)
  have c2 : w3.drew.cell? ⟨w.heap.size, 2, none⟩ = some (.int .u64 (m.seq : Int)) := (Box.cell hm3 2).trans rfl
  have H3 := Lib.hid (And.intro hb3 hgr3)
  clear hb3 hg3 hm3 hgr3 e3 H2 d1 c1 c0 cg fg hw2 hw1
  go_upto_region 3 with fail
  go_still_tail 4, (by kernel_rfl)
  change wpList _ _ _ _ _ w3.drew
  go_wp2_with fail
  refine (putNumber_says w3.drew g (o + 9) 8 (c - 9) _ H3.out.1 (by rw [hl3]; omega) (by rw [hl3]; exact hl2) m.seq).mono ?_
  rintro e w4 ⟨rfl, hb4, hg4⟩
  have e4 := laid_laid l o ([m.kind] ++ beN 8 m.epoch) (beN 8 m.seq) (by simp [beN_length]; omega)
  rw [show ([m.kind] ++ beN 8 m.epoch).length = 9 by simp [beN_length]] at e4
  rw [e4] at hb4
  have H4 := Lib.hid (And.intro hb4 (grown_trans H3.out.2 (grown_trans (grown_drew (grown_refl w3 (some g))) hg4)))
  clear hb4 hg4 e4 H3 c2
  go_wp2
  go_end0
  exact ⟨rfl, by have := H4.out.1; rwa [List.append_assoc] at this, H4.out.2⟩
set_option maxRecDepth 100000 in
set_option maxHeartbeats 4000000 in
theorem markOf_says (w : World) (N : Nat → Prop) (b o n c : Nat) (l : List UInt8) (h : Lies w N (some ⟨b, o, none⟩) n c (bc l)) (hn : 17 ≤ n) :
    Calls Tryz.prog 135 #[.slice (some ⟨b, o, none⟩) n c] w fun e w' => e = .returned (.agg (mv (markAt l))) ∧ Below w.heap.size w w' := by
  have hl : l.length = n := by rw [← bc_length]; exact h.len
  have hc := h.le
  obtain ⟨w1, hw1⟩ : ∃ w1, w.alloc (.cells #[.int .u8 0, .int .u64 0, .int .u64 0] 126) = w1 := ⟨_, rfl⟩
  have hb1 : Below w.heap.size w w1 := by rw [← hw1]; exact (Below.refl _ w).alloc (Nat.le_refl _) _
  have hm1 : Box w1 w.heap.size 126 #[.int .u8 0, .int .u64 0, .int .u64 0] := by rw [← hw1]; exact Box.made w _ _
  have h1 := h.below hb1
  obtain ⟨b', o', hA, _, hbl, c0⟩ := h1.at (j := 0) (u := .int .u8 ((l[0]'(by omega)).toNat : Int)) (by simp [bc, show 0 < l.length by omega])
  injection hA with hA
  injection hA with hA1 hA2
  subst hA1 hA2
  have hk0 : l[0]'(by omega) = (markAt l).kind := by
    match l, hl with
    | k :: r, _ => rfl
    | [], hl => simp at hl; omega
  rw [hk0, Nat.add_zero] at c0
  have hl1 : Lies w1 N (some ⟨b, o + 1, none⟩) 8 (c - 1) (bc ((l.drop 1).take 8)) := by
    have := (h1.from 1 (by omega)).first (m := 8) (by omega)
    rw [cutA, if_neg (by omega), bc_drop, bc_take] at this
    simpa [Addr.add_mid] using this
  have hl2 : Lies w1 N (some ⟨b, o + 9, none⟩) 8 (c - 9) (bc ((l.drop 9).take 8)) := by
    have := (h1.from 9 (by omega)).first (m := 8) (by omega)
    rw [cutA, if_neg (by omega), bc_drop, bc_take] at this
    simpa [Addr.add_mid] using this
  have s1 : ∀ W, (Instr.sliceAt 49 (.slice (some ⟨b, o, none⟩) n c) (some (.int .i64 1)) (some (.int .i64 9)) none).run Tryz.prog W = .ok (.slice (some ⟨b, o + 1, none⟩) 8 (c - 1)) W := fun W => cut_part b o n c 1 9 (by omega) (by omega) (by omega) W
  have s2 : ∀ W, (Instr.sliceAt 49 (.slice (some ⟨b, o, none⟩) n c) (some (.int .i64 9)) (some (.int .i64 17)) none).run Tryz.prog W = .ok (.slice (some ⟨b, o + 9, none⟩) 8 (c - 9)) W := fun W => cut_part b o n c 9 17 (by omega) (by omega) (by omega) W
  have n1 : ∀ k, Calls Tryz.prog 136 #[.slice (some ⟨b, o + 1, none⟩) 8 (c - 1)] (w1.drewN k) fun e w' => e = .returned (.int .u64 ((markAt l).epoch : Int)) ∧ w' = w1.drewN k := fun k => number_says _ N _ 8 _ _ (hl1.drewN k) (by omega)
  have n2 : ∀ k, Calls Tryz.prog 136 #[.slice (some ⟨b, o + 9, none⟩) 8 (c - 9)] (w1.drewN k) fun e w' => e = .returned (.int .u64 ((markAt l).seq : Int)) ∧ w' = w1.drewN k := fun k => number_says _ N _ 8 _ _ (hl2.drewN k) (by omega)
  generalize markAt l = m at *
  have d0 : w1.drew.cell? ⟨b, o, none⟩ = some (.int .u8 (m.kind.toNat : Int)) := c0
  have H1 := Lib.hid (And.intro hb1 hm1)
  clear h h1 hl1 hl2 hb1 hm1 hk0
  go_enter Tryz.func135, Tryz.ntmps135
  go_upto_region 1 with fail
  have z1 : 0 < n := by omega
  have z2 : (0 : Int) < (n : Int) := by omega
  go_still_tail 10, (by kernel_rfl)
  still_call (n1 1)
  repeat still_step
  still_call (n2 1)
  repeat still_step
  refine wpStill_nil ?_
  obtain ⟨w2, hw2⟩ : ∃ w2, w1.drew.setRow w.heap.size (mv m) = w2 := ⟨_, rfl⟩
  have hm2 : Box w2 w.heap.size 126 (mv m) := by rw [← hw2]; exact setRow_heap _ _ _ _ _ _ H1.out.2
  have e0 : w2.cell? ⟨w.heap.size, 0, none⟩ = some (.int .u8 (m.kind.toNat : Int)) := (Box.cell hm2 0).trans rfl
  have e1 : w2.cell? ⟨w.heap.size, 1, none⟩ = some (.int .u64 (m.epoch : Int)) := (Box.cell hm2 1).trans rfl
  have e2 : w2.cell? ⟨w.heap.size, 2, none⟩ = some (.int .u64 (m.seq : Int)) := (Box.cell hm2 2).trans rfl
  have HB2 := Lib.hid (show Below w.heap.size w w2 from H1.out.1.trans (by rw [← hw2]; exact ((Below.refl _ w1).drew).grown (grown_row (grown_refl _ (some w.heap.size)) _) H1.out.1.size (fun k e => by injection e with e; omega)))
  have HW2 := Lib.hid hw2
  clear hw2 hm2
  change wpList _ _ _ _ _ w1.drew
  go_wp2_with (refine wpList_store_row rfl 126 _ _ rfl w.heap.size (mv m) rfl rfl 126 _ H1.out.2 (by rw [mv_size]; kernel_rfl) rfl (mv_one m) ?_; rw [HW2.out])
  exact bodyPost_ret (v := .agg (mv m)) (by simp [results, Tryz.results135, go_sem, e0, e1, e2, mv]) rfl ⟨rfl, HB2.out⟩
end Go.Proofs.YtnhondkdkjehaaaGreat
namespace Go.Proofs.YtnhondkdkjehaaaGreat
open Go.RowKit

theorem mkInfo : (Tryz.prog.info? 126).map (·.size) = some 3 := by kernel_rfl
/-- A mark's cells, as a list. -/
def mvl (m : Mk) : List Value := [.int .u8 (m.kind.toNat : Int), .int .u64 (m.epoch : Int), .int .u64 (m.seq : Int)]
theorem mk_range {w : World} {g : Nat} {t : TypeId} {m : Mk} (h : Box w g t (mv m)) : w.rangeAt g 0 (mvl m) := fun j v hv => by
  rw [Box.cell h, Nat.zero_add]
  simpa [mv, mvl] using hv
theorem laidAt_bc (l xs : List UInt8) (o m : Nat) (hm : m = xs.length) : laidAt (bc l).toArray xs o m = (bc (laid l o xs)).toArray := by
  subst hm
  unfold laidAt laid
  rw [List.take_length, bc_append, bc_append, ← bc_take, ← bc_drop]
theorem replicate_length' : (List.replicate 256 (0 : UInt8)).length = 256 := List.length_replicate
set_option maxRecDepth 100000 in
set_option maxHeartbeats 2000000 in
theorem seal_kind (w : World) (m : Mk) (hm : m.may = false) (A : Option Addr) (n c : Nat) :
    Calls Tryz.prog 65 #[.agg (mv m), .slice A n c] w fun e w' => e = .returned (.tuple #[.slice none 0 0, .int .i64 2]) ∧ Below w.heap.size w w' := by
  obtain ⟨w1, hw1⟩ : ∃ w1, w.alloc (.cells #[.int .u8 (m.kind.toNat : Int), .int .u64 (m.epoch : Int), .int .u64 (m.seq : Int)] 126) = w1 := ⟨_, rfl⟩
  have hb1 : Below w.heap.size w w1 := by rw [← hw1]; exact (Below.refl _ w).alloc (Nat.le_refl _) _
  have hm1 : Box w1 w.heap.size 126 (mv m) := by rw [← hw1]; exact Box.made w _ _
  have H1 := Lib.hid (And.intro hb1 hm1)
  clear hb1 hm1
  go_enter Tryz.func65, Tryz.ntmps65
  simp only [mv]
  go_wp2_with (refine wpList_load_row rfl 126 _ rfl w.heap.size rfl 126 _ (0, 0) _ H1.out.2 Tryz.underlying126 rfl (by rw [mv_size]; exact mkInfo) ?_)
  refine (mayBe_says w1 m).mono ?_
  rw [hm]
  rintro e w2 ⟨rfl, hb2⟩
  have H2 := Lib.hid (H1.out.1.trans (hb2.mono H1.out.1.size))
  clear hb2
  go_wp2
  go_ret2
  exact ⟨rfl, H2.out⟩
set_option maxRecDepth 100000 in
set_option maxHeartbeats 2000000 in
theorem seal_big (w : World) (m : Mk) (hm : m.may = true) (A : Option Addr) (n c : Nat) (hn : 220 < n) :
    Calls Tryz.prog 65 #[.agg (mv m), .slice A n c] w fun e w' => e = .returned (.tuple #[.slice none 0 0, .int .i64 3]) ∧ Below w.heap.size w w' := by
  obtain ⟨w1, hw1⟩ : ∃ w1, w.alloc (.cells #[.int .u8 (m.kind.toNat : Int), .int .u64 (m.epoch : Int), .int .u64 (m.seq : Int)] 126) = w1 := ⟨_, rfl⟩
  have hb1 : Below w.heap.size w w1 := by rw [← hw1]; exact (Below.refl _ w).alloc (Nat.le_refl _) _
  have hm1 : Box w1 w.heap.size 126 (mv m) := by rw [← hw1]; exact Box.made w _ _
  have H1 := Lib.hid (And.intro hb1 hm1)
  clear hb1 hm1
  have l1 : 220 < (n : Int) := by omega
  go_enter Tryz.func65, Tryz.ntmps65
  simp only [mv]
  go_wp2_with (refine wpList_load_row rfl 126 _ rfl w.heap.size rfl 126 _ (0, 0) _ H1.out.2 Tryz.underlying126 rfl (by rw [mv_size]; exact mkInfo) ?_)
  refine (mayBe_says w1 m).mono ?_
  rw [hm]
  rintro e w2 ⟨rfl, hb2⟩
  have H2 := Lib.hid (H1.out.1.trans (hb2.mono H1.out.1.size))
  clear hb2
  go_wp2
  go_ret2
  exact ⟨rfl, H2.out⟩
/-- What Seal hands on. -/
def SealYes (w : World) (m : Mk) (l : List UInt8) (e : Ending) (w' : World) : Prop := ∃ g, e = .returned (.tuple #[.slice (some ⟨g, 0, none⟩) 256 256, .int .i64 0]) ∧ w.heap.size ≤ g ∧ Box w' g 5 (bc (sealed m l)).toArray ∧ Below w.heap.size w w'
set_option maxRecDepth 100000 in
set_option maxHeartbeats 4000000 in
theorem seal_yes (w : World) (m : Mk) (hm : m.may = true) (A : Option Addr) (n c : Nat) (l : List UInt8) (hl : Lies w (fun _ => True) A n c (bc l)) (hn : n ≤ 220) :
    Calls Tryz.prog 65 #[.agg (mv m), .slice A n c] w (SealYes w m l) := by
  have hll : l.length = n := by rw [← bc_length]; exact hl.len
  obtain ⟨i0, hi, hz0, hz1, hz2⟩ := info_parts Tryz.byteInfo
  obtain ⟨w1, hw1⟩ : ∃ w1, w.alloc (.cells #[.int .u8 (m.kind.toNat : Int), .int .u64 (m.epoch : Int), .int .u64 (m.seq : Int)] 126) = w1 := ⟨_, rfl⟩
  have hb1 : Below w.heap.size w w1 := by rw [← hw1]; exact (Below.refl _ w).alloc (Nat.le_refl _) _
  have hm1 : Box w1 w.heap.size 126 (mv m) := by rw [← hw1]; exact Box.made w _ _
  have hL := hl.weak (N' := fun b => b < w.heap.size) (fun b h _ => h)
  have H1 := Lib.hid (And.intro hb1 (And.intro hm1 (hL.below hb1)))
  have HLL := Lib.hid hll
  clear hb1 hm1 hl hL hll
  have l1 : ¬ 220 < (n : Int) := by omega
  go_enter Tryz.func65, Tryz.ntmps65
  simp only [mv]
  go_wp2_with (refine wpList_load_row rfl 126 _ rfl w.heap.size rfl 126 _ (0, 0) _ H1.out.2.1 Tryz.underlying126 rfl (by rw [mv_size]; exact mkInfo) ?_)
  refine (mayBe_says w1 m).mono ?_
  rw [hm]
  rintro e w2 ⟨rfl, hb2⟩
  have H2 := Lib.hid (And.intro (H1.out.1.trans (hb2.mono H1.out.1.size)) (And.intro (Box.below H1.out.2.1 hb2 H1.out.2.1.lt) (H1.out.2.2.below hb2)))
  clear hb2 H1 hw1
  go_wp2_with (first
    | (at_make; refine wpList_make_full w2 rfl _ _ 49 rfl w2.heap.size 5 i0 _ 1 Tryz.underlying49 hi hz0 hz1 _ _ _ _ 256 rfl rfl rfl rfl (by rw [hz2]; omega) (by unfold maxLen; omega) (Nat.le_refl _) ?_; intro w3 hown3 hg3; rw [zero_made] at hown3; have HW3 := Lib.hid (And.intro (box_own hown3) ((Below.refl w2.heap.size w2).grown hg3 (Nat.le_refl _) (fun k hk => by cases hk))); clear hown3 hg3)
    | (have hk3 := Box.below H2.out.2.1 HW3.out.2 H2.out.2.1.lt; refine wpList_load_row rfl 126 _ rfl w.heap.size rfl 126 _ (0, 0) _ hk3 Tryz.underlying126 rfl (by rw [mv_size]; exact mkInfo) ?_; clear hk3))
  have hg0 : w.heap.size < w2.heap.size := H2.out.2.1.lt
  have H3 := Lib.hid (And.intro (H2.out.1.trans (HW3.out.2.mono H2.out.1.size)) (And.intro (Box.below H2.out.2.1 HW3.out.2 H2.out.2.1.lt) (H2.out.2.2.below HW3.out.2)))
  have hx3 := HW3.out.1
  clear H2
  refine (putMark_says w3 w2.heap.size 0 256 256 (List.replicate 256 0) hx3 (by omega) (by omega) (by rw [replicate_length']; omega) (by rw [replicate_length']; omega) m).mono ?_
  rintro e w4 ⟨rfl, hx4, hg4⟩
  have hq4 : (laid (List.replicate 256 0) 0 m.bytes).length = 256 := by rw [laid_length (by rw [m.bytes_length, replicate_length']; omega)]; exact replicate_length'
  have H4 := Lib.hid (And.intro (below_grown H3.out.1 hg4 (by omega) H3.out.1.size) (And.intro (Box.grown H3.out.2.1 hg4 (by simp; omega)) (And.intro (H3.out.2.2.grown hg4 (by omega)) hx4)))
  clear hx3 hx4 hg4 H3 HW3
  have s4 : ∀ W, (Instr.sliceAt 49 (.slice (some ⟨w2.heap.size, 0, none⟩) 256 256) (some (.int .i64 17)) (some (.int .i64 19)) none).run Tryz.prog W = .ok (.slice (some ⟨w2.heap.size, 17, none⟩) 2 239) W := fun W => by have := cut_part w2.heap.size 0 256 256 17 19 (by omega) (by omega) (by omega) W; simpa using this
  go_wp2_with fail
  refine (putNumber_says w4 w2.heap.size 17 2 239 _ H4.out.2.2.2 (by rw [hq4]; omega) (by rw [hq4]; omega) n).mono ?_
  rintro e w5 ⟨rfl, hx5, hg5⟩
  have hq5 : (laid (laid (List.replicate 256 0) 0 m.bytes) 17 (beN 2 n)).length = 256 := by rw [laid_length (by rw [hq4, beN_length]; omega)]; exact hq4
  have H5 := Lib.hid (And.intro (below_grown H4.out.1 hg5 (by omega) H4.out.1.size) (And.intro (Box.grown H4.out.2.1 hg5 (by simp; omega)) (And.intro (H4.out.2.2.1.grown hg5 (by omega)) hx5)))
  clear hx5 hg5 H4 s4
  have s5 : ∀ W, (Instr.sliceAt 49 (.slice (some ⟨w2.heap.size, 0, none⟩) 256 256) (some (.int .i64 19)) none none).run Tryz.prog W = .ok (.slice (some ⟨w2.heap.size, 19, none⟩) 237 237) W := fun W => by have := cut_from w2.heap.size 0 256 256 19 (by omega) (by omega) W; simpa using this
  go_upto_region 8 with fail
  go_wp2_with (refine wpList_copy_gen rfl (.tmp 24) (.tmp 25) rfl w2.heap.size 19 237 237 n c A rfl rfl 5 _ H5.out.2.2.2 _ l H5.out.2.2.1 (by have := hq5; simp only [List.size_toArray, bc_length]; omega) ?_; intro w6 hx6 hg6; rw [show min n 237 = n by omega, laidAt_bc _ _ _ _ HLL.out.symm] at hx6; have H6 := Lib.hid (And.intro (below_grown H5.out.1 hg6 (by omega) H5.out.1.size) (And.intro (Box.grown H5.out.2.1 hg6 (by simp; omega)) hx6)); clear hx6 hg6 H5 s5)
  have hq6 : (laid (laid (laid (List.replicate 256 0) 0 m.bytes) 17 (beN 2 n)) 19 l).length = 256 := by rw [laid_length (by rw [hq5, HLL.out]; omega)]; exact hq5
  have s6 : ∀ W, (Instr.sliceAt 49 (.slice (some ⟨w2.heap.size, 0, none⟩) 256 256) (some (.int .i64 239)) none none).run Tryz.prog W = .ok (.slice (some ⟨w2.heap.size, 239, none⟩) 17 17) W := fun W => by have := cut_from w2.heap.size 0 256 256 239 (by omega) (by omega) W; simpa using this
  have HR := Lib.hid (mk_range (show Box w6.drew w.heap.size 126 (mv m) from H6.out.2.1))
  go_still_tail 3, (by kernel_rfl)
  refine wpStill_load rfl 126 (.tmp 2) rfl w.heap.size 0 rfl (mvl m) _ HR.out Tryz.underlying126 rfl (by kernel_rfl) ?_
  simp only [Act.put, List.setIfInBounds_toArray, List.set_cons_zero, List.set_cons_succ]
  repeat still_step
  refine wpStill_nil ?_
  change wpList _ _ _ _ _ w6.drew
  go_wp2_with fail
  refine (putMark_says w6.drew w2.heap.size 239 17 17 _ H6.out.2.2 (by omega) (by omega) (by rw [hq6]; omega) (by rw [hq6]; omega) m).mono ?_
  rintro e w7 ⟨rfl, hx7, hg7⟩
  have hx7 := hx7
  rw [← HLL.out, sealed_steps m l (by rw [HLL.out]; omega)] at hx7
  have H7 := Lib.hid (And.intro (below_grown (c := w7) (show Below w.heap.size w w6.drew from H6.out.1.drew) hg7 (by omega) H6.out.1.size) hx7)
  clear hx7 hg7 H6 s6
  go_wp2
  go_ret2
  exact ⟨_, rfl, by omega, H7.out.2, H7.out.1⟩
end Go.Proofs.YtnhondkdkjehaaaGreat
