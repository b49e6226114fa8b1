/-
  Contracts of lay's reader: what each of its calls answers, and what becomes of the reader, at every state of it.
-/
import Derived.Test.YtnhondkdkjehaaaGreatProg
import Derived.Test.YtnhondkdkjehaaaGreatSlA
import Derived.WalkKit
import Derived.WalkLawsBesides
namespace Go.Proofs.YtnhondkdkjehaaaGreat.Lay
open Go.RowKit

/-- A reader that was made, in block b: the bytes l are left, e is its error. -/
def Rd (w : World) (b : Nat) (l : List UInt8) (e : Int) : Prop := Box w b 197 #[.bool true, .string ⟨l.toArray⟩, .int .i64 e]

theorem bad_made (b : Nat) (e : Int) (w : World) (h0 : w.cell? ⟨b, 0, none⟩ = some (.bool true)) (h2 : w.cell? ⟨b, 2, none⟩ = some (.int .i64 e)) :
    Calls Tryz.prog 138 #[.pointer (some ⟨b, 0, none⟩)] w fun r w' => r = .returned (.int .i64 e) ∧ w = w' := by
  go_enter Tryz.func138, Tryz.ntmps138
  go_wp2
  go_ret
  exact ⟨rfl, rfl⟩

theorem width_empty (s : ByteArray) (w : World) (h : s.toList.isEmpty = true) :
    Calls Tryz.prog 139 #[.string s] w fun r w' => r = .returned (.tuple #[.int .i64 0, .int .i64 10]) ∧ w = w' := by
  go_enter Tryz.func139, Tryz.ntmps139
  go_wp2
  go_ret2
  exact ⟨rfl, rfl⟩

theorem width_above (s : ByteArray) (w : World) (he : s.toList.isEmpty = false) (hp : 0 < s.size) (h : 8 < wrap64 ((s[0]'hp).toNat : Int)) :
    Calls Tryz.prog 139 #[.string s] w fun r w' => r = .returned (.tuple #[.int .i64 0, .int .i64 11]) ∧ w = w' := by
  go_enter Tryz.func139, Tryz.ntmps139
  go_wp2
  go_ret2
  exact ⟨rfl, rfl⟩

theorem width_short (s : ByteArray) (w : World) (hs : s.size ≤ maxLen) (he : s.toList.isEmpty = false) (hp : 0 < s.size) (h : ((s[0]'hp).toNat : Int) ≤ 8) (h' : (s.size : Int) - 1 < ((s[0]'hp).toNat : Int)) :
    Calls Tryz.prog 139 #[.string s] w fun r w' => r = .returned (.tuple #[.int .i64 0, .int .i64 10]) ∧ w = w' := by
  unfold maxLen at hs
  go_enter Tryz.func139, Tryz.ntmps139
  go_wp2
  go_ret2
  exact ⟨rfl, rfl⟩

theorem width_none (s : ByteArray) (w : World) (hs : s.size ≤ maxLen) (he : s.toList.isEmpty = false) (hp : 0 < s.size) (h : ((s[0]'hp).toNat : Int) ≤ 0) :
    Calls Tryz.prog 139 #[.string s] w fun r w' => r = .returned (.tuple #[.int .i64 ((s[0]'hp).toNat : Int), .int .i64 0]) ∧ w = w' := by
  unfold maxLen at hs
  go_enter Tryz.func139, Tryz.ntmps139
  go_wp2
  go_ret2
  exact ⟨rfl, rfl⟩

theorem width_zero (s : ByteArray) (w : World) (hs : s.size ≤ maxLen) (he : s.toList.isEmpty = false) (hp : 0 < s.size) (h1 : 1 < s.size) (h0 : 0 < ((s[0]'hp).toNat : Int)) (h : ((s[0]'hp).toNat : Int) ≤ 8) (h' : ((s[0]'hp).toNat : Int) ≤ (s.size : Int) - 1) (hz : (((s[1]'h1).toNat : Int) == 0) = true) :
    Calls Tryz.prog 139 #[.string s] w fun r w' => r = .returned (.tuple #[.int .i64 0, .int .i64 11]) ∧ w = w' := by
  unfold maxLen at hs
  go_enter Tryz.func139, Tryz.ntmps139
  go_wp2
  go_ret2
  exact ⟨rfl, rfl⟩

theorem width_full (s : ByteArray) (w : World) (hs : s.size ≤ maxLen) (he : s.toList.isEmpty = false) (hp : 0 < s.size) (h1 : 1 < s.size) (h0 : 0 < ((s[0]'hp).toNat : Int)) (h : ((s[0]'hp).toNat : Int) ≤ 8) (h' : ((s[0]'hp).toNat : Int) ≤ (s.size : Int) - 1) (hz : (((s[1]'h1).toNat : Int) == 0) = false) :
    Calls Tryz.prog 139 #[.string s] w fun r w' => r = .returned (.tuple #[.int .i64 ((s[0]'hp).toNat : Int), .int .i64 0]) ∧ w = w' := by
  unfold maxLen at hs
  go_enter Tryz.func139, Tryz.ntmps139
  go_wp2
  go_ret2
  exact ⟨rfl, rfl⟩

/-- How many bytes the number at the beginning has, where it has no error. -/
def numMany (l : List UInt8) : Nat := if numErr l = 0 then (l.headD 0).toNat else 0

theorem byte_wrap (b : UInt8) : wrap64 (b.toNat : Int) = (b.toNat : Int) := by
  have := b.toNat_lt
  unfold wrap64
  omega

theorem toList_cons (s : ByteArray) (hp : 0 < s.size) : s.data.toList = s[0] :: s.data.toList.drop 1 := by
  obtain ⟨⟨l⟩⟩ := s
  cases l with
  | nil => simp [ByteArray.size] at hp
  | cons x t => rfl

theorem toList_empty (s : ByteArray) (h : s.size = 0) : s.data.toList = [] := by
  apply List.eq_nil_of_length_eq_zero
  rw [Array.length_toList]
  exact h

theorem width_any (s : ByteArray) (w : World) (hs : s.size ≤ maxLen) :
    Calls Tryz.prog 139 #[.string s] w fun r w' => r = .returned (.tuple #[.int .i64 (numMany s.data.toList), .int .i64 (numErr s.data.toList)]) ∧ w = w' := by
  rcases Nat.eq_zero_or_pos s.size with h0 | hp
  · have hl := toList_empty s h0
    refine (width_empty s w (by rw [Lib.toList_data, hl]; rfl)).mono ?_
    rintro r w' ⟨rfl, rfl⟩
    simp [hl, numErr, numMany]
  · have hl := toList_cons s hp
    have hlen : (s.data.toList.drop 1).length = s.size - 1 := by
      rw [List.length_drop, Array.length_toList]
      rfl
    have he : s.toList.isEmpty = false := by rw [Lib.toList_data, hl]; rfl
    have hsz : s[0].toNat < 256 := s[0].toNat_lt
    by_cases h8 : 8 < s[0].toNat
    · refine (width_above s w he hp (by rw [byte_wrap]; omega)).mono ?_
      rintro r w' ⟨rfl, rfl⟩
      have hE : numErr s.data.toList = 11 := by rw [hl]; simp [numErr, h8]
      simp [numMany, hE]
    · by_cases hsh : s.size - 1 < s[0].toNat
      · refine (width_short s w hs he hp (by omega) (by omega)).mono ?_
        rintro r w' ⟨rfl, rfl⟩
        have hE : numErr s.data.toList = 10 := by
          rw [hl]
          simp only [numErr]
          rw [if_neg h8, if_pos (by rw [hlen]; exact hsh)]
        simp [numMany, hE]
      · by_cases hz : s[0].toNat = 0
        · refine (width_none s w hs he hp (by omega)).mono ?_
          rintro r w' ⟨rfl, rfl⟩
          have hE : numErr s.data.toList = 0 := by
            rw [hl]
            simp only [numErr]
            rw [if_neg h8, if_neg (by rw [hlen]; exact hsh), if_neg (by omega)]
          have hM : numMany s.data.toList = s[0].toNat := by
            rw [numMany, if_pos hE, hl]
            rfl
          rw [hE, hM]
          exact ⟨rfl, rfl⟩
        · have h1 : 1 < s.size := by omega
          have hh : (s.data.toList.drop 1).head? = some s[1] := by
            obtain ⟨⟨l⟩⟩ := s
            match l, h1 with
            | [x], h1 => simp [ByteArray.size] at h1
            | x :: y :: t, _ => rfl
          by_cases hy : s[1] = 0
          · refine (width_zero s w hs he hp h1 (by omega) (by omega) (by omega) (by rw [hy]; rfl)).mono ?_
            rintro r w' ⟨rfl, rfl⟩
            have hE : numErr s.data.toList = 11 := by
              rw [hl]
              simp only [numErr]
              rw [if_neg h8, if_neg (by rw [hlen]; exact hsh), if_pos ⟨by omega, by rw [hh, hy]⟩]
            simp [numMany, hE]
          · have hy' : s[1].toNat ≠ 0 := fun h => hy (UInt8.toNat_inj.1 (by rw [h]; rfl))
            refine (width_full s w hs he hp h1 (by omega) (by omega) (by omega) (by simp; omega)).mono ?_
            rintro r w' ⟨rfl, rfl⟩
            have hE : numErr s.data.toList = 0 := by
              rw [hl]
              simp only [numErr]
              rw [if_neg h8, if_neg (by rw [hlen]; exact hsh), if_neg (fun h => hy (by rw [hh] at h; exact Option.some.inj h.2))]
            have hM : numMany s.data.toList = s[0].toNat := by
              rw [numMany, if_pos hE, hl]
              rfl
            rw [hE, hM]
            exact ⟨rfl, rfl⟩

/-- The world behind fail. -/
def failed (w : World) (b : Nat) (e : Int) : World := (w.setCell ⟨b, 2, none⟩ (.int .i64 e)).setCell ⟨b, 1, none⟩ (.string ByteArray.empty)

theorem fail_any (b : Nat) (e : Int) (w : World) {u1 u2 : Value} (h1 : w.cell? ⟨b, 1, none⟩ = some u1) (h2 : w.cell? ⟨b, 2, none⟩ = some u2) (f1 : w.frozen? ⟨b, 1, none⟩ = false) (f2 : w.frozen? ⟨b, 2, none⟩ = false) :
    Calls Tryz.prog 140 #[.pointer (some ⟨b, 0, none⟩), .int .i64 e] w fun r w' => r = .returned (.tuple #[]) ∧ failed w b e = w' := by
  go_enter Tryz.func140, Tryz.ntmps140
  go_wp2
  go_end0
  exact ⟨rfl, rfl⟩

end Go.Proofs.YtnhondkdkjehaaaGreat.Lay
