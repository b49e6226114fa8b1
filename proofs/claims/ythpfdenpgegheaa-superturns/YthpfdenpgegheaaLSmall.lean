/-
  lay's reader, over its states: Number, Small, Raw, Text, End, Read.
-/
import Derived.Test.YthpfdenpgegheaaLNumber
import Derived.Test.YthpfdenpgegheaaShelf
import Derived.Lib.IndexBytes
namespace Go.Proofs.Ythpfdenpgegheaa.Lay
open Go.RowKit

/-- A reader's state: what is left, and the first error. -/
abbrev St := List UInt8 × Int

def stNum (q : St) : St := if q.2 = 0 then (numRest q.1, numErr q.1) else q
def stNumV (q : St) : Nat := if q.2 = 0 then numVal q.1 else 0
def tooBig (most : Int) (v : Nat) : Bool := decide (most < 0) || decide (most < (v : Int))
def stSmall (most : Int) (q : St) : St := if (stNum q).2 = 0 then (if tooBig most (stNumV q) = true then ([], 3) else stNum q) else stNum q
def stSmallV (most : Int) (q : St) : Nat := if (stNum q).2 = 0 then (if tooBig most (stNumV q) = true then 0 else stNumV q) else 0
def stRaw (n : Int) (q : St) : St := if q.2 = 0 then (if n < 0 then ([], 2) else if (q.1.length : Int) < n then ([], 10) else (q.1.drop n.toNat, 0)) else q
def stRawV (n : Int) (q : St) : List UInt8 := if q.2 = 0 then (if n < 0 then [] else if (q.1.length : Int) < n then [] else q.1.take n.toNat) else []
def stEnd (q : St) : Int := if q.2 = 0 then (if q.1 = [] then 0 else 11) else q.2

/-- A reader that was made, in block b, at the state q. -/
def Rds (w : World) (b : Nat) (q : St) : Prop := Box w b 120 #[.bool true, .string ⟨q.1.toArray⟩, .int .i64 q.2]

section
variable {w w' : World} {b : Nat} {q : St}
theorem Rds.c0 (h : Rds w b q) : w.cell? ⟨b, 0, none⟩ = some (.bool true) := Box.cell h 0
theorem Rds.c1 (h : Rds w b q) : w.cell? ⟨b, 1, none⟩ = some (.string ⟨q.1.toArray⟩) := Box.cell h 1
theorem Rds.c2 (h : Rds w b q) : w.cell? ⟨b, 2, none⟩ = some (.int .i64 q.2) := Box.cell h 2
theorem Rds.f1 (h : Rds w b q) : w.frozen? ⟨b, 1, none⟩ = false := Box.frozen h 1
theorem Rds.f2 (h : Rds w b q) : w.frozen? ⟨b, 2, none⟩ = false := Box.frozen h 2
theorem Rds.fail (h : Rds w b q) (e : Int) : Rds (failed w b e) b ([], e) := by
  have h1 := Box.put (Box.put h 2 (.int .i64 e)) 1 (.string ByteArray.empty)
  exact h1
theorem Rds.cut (h : Rds w b q) (l : List UInt8) : Rds (w.setCell ⟨b, 1, none⟩ (.string ⟨l.toArray⟩)) b (l, q.2) := Box.put h 1 (.string ⟨l.toArray⟩)
theorem grown_fail (w : World) (b : Nat) (e : Int) : w.grownBy (failed w b e) (some b) := grown_set (grown_set (grown_refl w _) 2 _) 1 _
end

theorem string_eq (s : ByteArray) : (⟨s.data.toList.toArray⟩ : ByteArray) = s := by
  obtain ⟨⟨l⟩⟩ := s
  rfl

theorem numErr_ok {l : List UInt8} (h : numErr l = 0) : numMany l ≤ 8 ∧ numMany l < l.length := by
  unfold numMany
  rw [if_pos h]
  cases l with
  | nil => simp [numErr] at h
  | cons x t =>
    simp only [numErr] at h
    simp only [List.headD_cons, List.length_cons]
    split at h
    · simp at h
    · split at h
      · simp at h
      · omega

theorem number_rds {w : World} {b : Nat} {q : St} (h : Rds w b q) (hl : q.1.length ≤ maxLen) :
    Calls Try.prog 57 #[.pointer (some ⟨b, 0, none⟩)] w fun r w' => r = .returned (.int .u64 (stNumV q)) ∧ Rds w' b (stNum q) ∧ w.grownBy w' (some b) := by
  obtain ⟨l, e⟩ := q
  by_cases he : e = 0
  · subst he
    by_cases hE : numErr l = 0
    · obtain ⟨h8, hlt⟩ := numErr_ok hE
      have hn := number_ok b ⟨l.toArray⟩ w (by simpa [ByteArray.size] using hl) h.c0 h.c1 h.c2 h.f1 (numMany l) h8 (by simpa [ByteArray.size] using hlt) rfl hE
      refine hn.mono ?_
      rintro r w' ⟨rfl, rfl⟩
      have hm : numMany l = (l.headD 0).toNat := by rw [numMany, if_pos hE]
      have e1 : stNumV (l, 0) = beVal ((l.drop 1).take (numMany l)) := by simp only [stNumV, numVal, if_pos hE, if_true, hm]
      have e2 : stNum (l, 0) = (l.drop (1 + numMany l), 0) := by simp only [stNum, numRest, if_true, hm, hE]
      have e3 : (⟨l.toArray⟩ : ByteArray).extract (1 + numMany l) (⟨l.toArray⟩ : ByteArray).size = ⟨(l.drop (1 + numMany l)).toArray⟩ := by
        rw [← string_eq (ByteArray.extract _ _ _), Lib.extract_to_end]
      rw [e1, e2, e3]
      exact ⟨rfl, h.cut _, grown_set (grown_refl w _) 1 _⟩
    · have hn := number_err b ⟨l.toArray⟩ w (by simpa [ByteArray.size] using hl) h.c0 h.c1 h.c2 h.f1 h.f2 (by simpa using hE)
      refine hn.mono ?_
      rintro r w' ⟨rfl, rfl⟩
      have e1 : stNumV (l, 0) = 0 := by simp only [stNumV, numVal, if_neg hE, if_true]
      have e2 : stNum (l, 0) = ([], numErr l) := by simp only [stNum, numRest, if_neg hE, if_true]
      rw [e1, e2]
      exact ⟨rfl, h.fail _, grown_fail w b _⟩
  · refine (number_bad b e w h.c0 h.c2 (by simpa using he)).mono ?_
    rintro r w' ⟨rfl, rfl⟩
    have e1 : stNumV (l, e) = 0 := by simp only [stNumV, if_neg he]
    have e2 : stNum (l, e) = (l, e) := by simp only [stNum, if_neg he]
    rw [e1, e2]
    exact ⟨rfl, h, grown_refl w _⟩


theorem stNum_len (q : St) : (stNum q).1.length ≤ q.1.length := by
  unfold stNum numRest
  split
  · split <;> simp
  · exact Nat.le_refl _

theorem stNumV_lt (q : St) : stNumV q < 18446744073709551616 := by
  unfold stNumV numVal
  split
  · split
    · rename_i h
      have h8 := (numErr_ok h).1
      rw [numMany, if_pos h] at h8
      have h1 := beVal_lt ((q.1.drop 1).take (q.1.headD 0).toNat)
      have h2 : ((q.1.drop 1).take (q.1.headD 0).toNat).length ≤ 8 := Nat.le_trans (List.length_take_le _ _) h8
      have h3 : 256 ^ ((q.1.drop 1).take (q.1.headD 0).toNat).length ≤ 256 ^ 8 := Nat.pow_le_pow_right (by omega) h2
      exact Nat.lt_of_lt_of_le h1 h3
    · exact Nat.zero_lt_of_lt (show 5 < 18446744073709551616 from by decide)
  · exact Nat.zero_lt_of_lt (show 5 < 18446744073709551616 from by decide)

theorem bad_rds {w : World} {b : Nat} {q : St} (h : Rds w b q) :
    Calls Try.prog 64 #[.pointer (some ⟨b, 0, none⟩)] w fun r w' => r = .returned (.int .i64 q.2) ∧ w = w' := bad_made b q.2 w h.c0 h.c2

theorem end_rds {w : World} {b : Nat} {q : St} (h : Rds w b q) :
    Calls Try.prog 59 #[.pointer (some ⟨b, 0, none⟩)] w fun r w' => r = .returned (.int .i64 (stEnd q)) ∧ w = w' := by
  have h1 := h.c1
  have hb := Lib.hid (bad_rds h)
  clear h
  obtain ⟨l, e⟩ := q
  unfold stEnd
  by_cases he : e = 0
  · subst he
    by_cases hl : l = []
    · subst hl
      have hne : (!(⟨[].toArray⟩ : ByteArray).toList.isEmpty) = false := by simp
      go_enter Try.func59, Try.ntmps59
      go_wp2_with fail
      refine hb.out.mono ?_
      rintro r w' ⟨rfl, rfl⟩
      go_wp2_with fail
      go_ret
      exact ⟨rfl, rfl⟩
    · have hs : ∃ s : ByteArray, s.toList.isEmpty = false ∧ (⟨l.toArray⟩ : ByteArray) = s := ⟨_, by simpa [Lib.toList_data] using hl, rfl⟩
      obtain ⟨s, hne, hs⟩ := hs
      rw [hs] at h1
      have hne2 : (!s.toList.isEmpty) = true := by simp [hne]
      clear hs
      go_enter Try.func59, Try.ntmps59
      go_wp2_with fail
      refine hb.out.mono ?_
      rintro r w' ⟨rfl, rfl⟩
      go_wp2_with fail
      go_ret
      exact ⟨rfl, rfl⟩
  · have hne : (e != 0) = true := by simpa using he
    go_enter Try.func59, Try.ntmps59
    go_wp2_with fail
    refine hb.out.mono ?_
    rintro r w' ⟨rfl, rfl⟩
    go_wp2_with fail
    go_ret
    exact ⟨rfl, rfl⟩

theorem read_any (s : ByteArray) (w : World) :
    Calls Try.prog 56 #[.string s] w fun r w' => r = .returned (.pointer (some ⟨w.heap.size, 0, none⟩)) ∧ w.alloc (.cells #[.bool true, .string s, .int .i64 0] 120) = w' := by
  go_enter Try.func56, Try.ntmps56
  go_wp2
  go_ret
  exact ⟨rfl, rfl⟩

end Go.Proofs.Ythpfdenpgegheaa.Lay
