/-
  The reference's Now: a block with all that was written.
-/
import Derived.Test.YtemgphpgfdnkeaaRefRow
namespace Go.Proofs.Ytemgphpgfdnkeaa
open Go.RowKit

/-- Block n behind the first k writes. -/
def nowTo (kept : List Bk) (l2 : List Nat) (l3 : List Bk) (n : Nat) : Nat → Bk
  | 0 => kept.getD n default
  | k + 1 => if l2.getD k 0 = n then l3.getD k default else nowTo kept l2 l3 n k
theorem Rd.at {w : World} {N : Nat → Prop} {A : Option Addr} {n c : Nat} {l : List Value} (h : Rd w N A n c l) {j : Nat} {u : Value} (hu : l[j]? = some u) : ∃ b off, A = some ⟨b, off, none⟩ ∧ N b ∧ b < w.heap.size ∧ w.cell? ⟨b, off + j, none⟩ = some u := h.1.at hu
theorem scs_at {l : List Bk} {j : Nat} (h : j < l.length) : (scs l)[j]? = some (sc (l.getD j default)) := by simp [scs, h]
theorem ncs_at {l : List Nat} {j : Nat} (h : j < l.length) : (ncs l)[j]? = some (.int .i64 ((l.getD j 0 : Nat) : Int)) := by simp [ncs, h]
set_option maxRecDepth 100000 in
set_option maxHeartbeats 2000000 in
theorem rnow_low (w : World) (N : Nat → Prop) (A1 A2 A3 : Option Addr) (n1 c1 m c2 c3 : Nat) (kept : List Bk) (l2 : List Nat) (l3 : List Bk) (h1 : Rd w N A1 n1 c1 (scs kept)) (h2 : Rd w N A2 m c2 (ncs l2)) (h3 : Rd w N A3 m c3 (scs l3)) (arm : Int) (down : Bool) (ops : Int) (n : Nat) (hn : n < n1) (hm : m ≤ 1000000) :
    Calls Try.prog 18 #[.agg #[.slice A1 n1 c1, .slice A2 m c2, .slice A3 m c3, .int .i64 arm, .bool down, .int .i64 ops], .int .i64 (n : Int)] w fun e w' => e = .returned (sc (nowTo kept l2 l3 n m)) ∧ Below w.heap.size w w' := by
  obtain ⟨w1, hw1⟩ : ∃ x, w.alloc (.cells #[.slice A1 n1 c1, .slice A2 m c2, .slice A3 m c3, .int .i64 arm, .bool down, .int .i64 ops] 30) = x := ⟨_, rfl⟩
  have hB1 : Below w.heap.size w w1 := by rw [← hw1]; exact (Below.refl _ w).alloc (Nat.le_refl _) _
  have hx1 := Box.made w 30 #[.slice A1 n1 c1, .slice A2 m c2, .slice A3 m c3, .int .i64 arm, .bool down, .int .i64 ops]
  rw [hw1] at hx1
  have l1 : kept.length = n1 := by rw [← scs_length]; exact h1.1.len
  have e2 : l2.length = m := by rw [← ncs_length]; exact h2.1.len
  have e3 : l3.length = m := by rw [← scs_length]; exact h3.1.len
  obtain ⟨b1, o1, rfl, _, hb1, k1⟩ := (h1.below hB1).at (scs_at (show n < kept.length by omega))
  have c0 : w1.cell? ⟨w.heap.size, 0, none⟩ = some (.slice (some ⟨b1, o1, none⟩) n1 c1) := (Box.cell hx1 0).trans rfl
  have c1' : w1.cell? ⟨w.heap.size, 1, none⟩ = some (.slice A2 m c2) := (Box.cell hx1 1).trans rfl
  have c2' : w1.cell? ⟨w.heap.size, 2, none⟩ = some (.slice A3 m c3) := (Box.cell hx1 2).trans rfl
  have H := Lib.hid (And.intro hB1 (And.intro (h2.below hB1) (And.intro (h3.below hB1) (And.intro e2 e3))))
  have l5 : (n : Int) < (n1 : Int) := by omega
  obtain ⟨v0, hv0⟩ : ∃ s : ByteArray, sc (kept.getD n default) = .string s := ⟨_, rfl⟩
  rw [hv0] at k1
  have HV0 := Lib.hid hv0
  have hxl : w.heap.size < w1.heap.size := hx1.lt
  clear hx1 hB1 h1 h2 h3 e2 e3 l1 hb1 hv0
  go_enter Try.func18, Try.ntmps18
  go_wp2
  go_loopw [5, 6] (fun v5 v6 wr => ∃ k : Nat, v6 = .int .i64 (k : Int) ∧ k ≤ m ∧ Hid (v5 = sc (nowTo kept l2 l3 n k) ∧ Below w1.heap.size w1 wr)) (fun _ v _ => m - (intOf v).toNat)
  case atStart => exact ⟨0, rfl, Nat.zero_le _, Lib.hid ⟨HV0.out.symm, Below.refl _ _⟩⟩
  case round =>
    obtain ⟨k, rfl, hk, HS⟩ := hrel
    obtain ⟨hv5, hwr⟩ := HS.out
    have HV5 := Lib.hid hv5
    have HWR := Lib.hid hwr
    have p1 : wr.cell? ⟨w.heap.size, 1, none⟩ = some (.slice A2 m c2) := (hwr.cell (p := ⟨w.heap.size, 1, none⟩) hxl).trans c1'
    have p2 : wr.cell? ⟨w.heap.size, 2, none⟩ = some (.slice A3 m c3) := (hwr.cell (p := ⟨w.heap.size, 2, none⟩) hxl).trans c2'
    clear hv5 HS hwr
    by_cases hlt : k < m
    · obtain ⟨hB1, h2, h3, e2, e3⟩ := H.out
      obtain ⟨b2, o2, rfl, _, _, k2⟩ := (h2.below HWR.out).at (ncs_at (show k < l2.length by omega))
      obtain ⟨b3, o3, rfl, _, _, k3⟩ := (h3.below HWR.out).at (scs_at (show k < l3.length by omega))
      obtain ⟨s3, hs3⟩ : ∃ s : ByteArray, sc (l3.getD k default) = .string s := ⟨_, rfl⟩
      rw [hs3] at k3
      have l6 : (k : Int) < (m : Int) := by omega
      obtain ⟨y, hy⟩ : ∃ y, l2.getD k 0 = y := ⟨_, rfl⟩
      rw [hy] at k2
      by_cases hyn : y = n
      · have q : ((y : Int) == (n : Int)) = true := by simp; omega
        have HN := Lib.hid (show Value.string s3 = sc (nowTo kept l2 l3 n (k + 1)) by rw [nowTo, if_pos (by omega)]; exact hs3.symm)
        clear hs3 hy hB1 h2 h3 e2 e3 hyn
        go_wp2
        go_roundw
        case rel => exact ⟨k + 1, by go_num, by omega, Lib.hid ⟨HN.out, HWR.out⟩⟩
        case measure => simp [intOf]; omega
      · have q : ((y : Int) == (n : Int)) = false := by simp; omega
        have HN := Lib.hid (show u5 = sc (nowTo kept l2 l3 n (k + 1)) by rw [nowTo, if_neg (by omega)]; exact HV5.out)
        clear hs3 hy hB1 h2 h3 e2 e3 hyn
        go_wp2
        go_roundw
        case rel => exact ⟨k + 1, by go_num, by omega, Lib.hid ⟨HN.out, HWR.out⟩⟩
        case measure => simp [intOf]; omega
    · obtain rfl : k = m := by omega
      go_wp2
      go_ret
      exact ⟨congrArg Ending.returned HV5.out, H.out.1.trans (HWR.out.mono H.out.1.size)⟩
end Go.Proofs.Ytemgphpgfdnkeaa
