/-
  The reference's PutNumber and PutText: a number, and a text, laid behind a text.
-/
import Derived.Test.YtjnobakbjapfjaaLStr0
namespace Go.Proofs.Ytjnobakbjapfjaa.Lay
open Go.RowKit

theorem many_of_div (x j : Nat) (hx : x < 18446744073709551616) (hj : j ≤ many x) (h : x / 256 ^ j = 0) : j = many x := by
  have hp : 0 < 256 ^ j := Nat.pow_pos (by omega)
  have hlt : x < 256 ^ j := by
    rcases Nat.lt_or_ge x (256 ^ j) with h1 | h1
    · exact h1
    · have := Nat.div_pos h1 hp
      omega
  rcases Nat.eq_zero_or_pos x with h0 | h0
  · subst h0
    rw [many_zero] at hj ⊢
    omega
  · obtain ⟨h1, h2⟩ := many_pos x hx h0
    have h3 : ¬ j < many x := fun hh => by
      have : 256 ^ j ≤ 256 ^ (many x - 1) := Nat.pow_le_pow_right (by omega) (by omega)
      omega
    omega
theorem lt_many_of_div (x j : Nat) (hx : x < 18446744073709551616) (h : 0 < x / 256 ^ j) : j < many x := by
  have h1 := lt_many x hx
  rcases Nat.lt_or_ge j (many x) with h2 | h2
  · exact h2
  · have h3 : 256 ^ many x ≤ 256 ^ j := Nat.pow_le_pow_right (by omega) h2
    have h4 : x / 256 ^ j = 0 := Nat.div_eq_of_lt (Nat.lt_of_lt_of_le h1 h3)
    omega

theorem str_append (l m : List UInt8) : (⟨l.toArray⟩ : ByteArray) ++ (⟨m.toArray⟩ : ByteArray) = ⟨(l ++ m).toArray⟩ := by
  rw [← string_eq (_ ++ _)]
  congr 1

/-- A slice of one new byte, as a text. -/
theorem conv_byte (w : World) (c : Int) (b : UInt8) (h : c = (b.toNat : Int)) : (convert 34 9 (.slice (some ⟨w.heap.size, 0, none⟩) 1 1)).run Try.prog (w.alloc (.cells #[.int .u8 c] 5)) = .ok (.string ⟨[b].toArray⟩) (w.alloc (.cells #[.int .u8 c] 5)) := by
  subst h
  exact conv_sl (l := [b]) (sl_new w _ _)

def StrPost (l : List UInt8) (w : World) (r : Ending) (w' : World) : Prop := r = .returned (.string ⟨l.toArray⟩) ∧ Below w.heap.size w w'

theorem refNumber_any (b : List UInt8) (x : Nat) (w : World) (hx : x < 18446744073709551616) (hb : b.length ≤ 1073741824) :
    Calls Try.prog 40 #[.string ⟨b.toArray⟩, .int .u64 x] w (StrPost (b ++ encNum x) w) := by
  have hm8 := many_le x hx
  generalize hB : (⟨b.toArray⟩ : ByteArray) = B
  have HB := Lib.hid hB
  clear hB
  go_enter Try.func40, Try.ntmps40
  go_wp2_with fail
  go_loopw [1, 5] (fun v s wr => ∃ (j y : Nat) (S : ByteArray), j ≤ many x ∧ Hid (y = x / 256 ^ j) ∧ y < 18446744073709551616 ∧ v = .int .u64 (y : Int) ∧ Hid (S = ⟨(encTail j x).toArray⟩) ∧ s = .string S ∧ S.size ≤ 8 ∧ Below w.heap.size w wr) (fun v _ _ => (intOf v).toNat)
  case atStart => exact ⟨0, x, ByteArray.empty, Nat.zero_le _, by simp [Hid], hx, rfl, rfl, rfl, by decide, Below.refl _ _⟩
  case round =>
    obtain ⟨j, y, S, hj, hy, hy64, rfl, hS, rfl, hS8, hbel⟩ := hrel
    by_cases hpos : 0 < (y : Int)
    · have hlt : j < many x := lt_many_of_div x j hx (by rw [← hy.out]; omega)
      have hd : decide (0 < y) = true := by simp; omega
      have hcv := conv_byte wr ((y : Int) % 256) (UInt8.ofNat (y % 256)) (by rw [ofNat_toNat]; omega)
      have hS1 : S.size = j := by rw [hS.out]; simp [ByteArray.size, encTail_length]
      have hst : (⟨[UInt8.ofNat (y % 256)].toArray⟩ : ByteArray) ++ S = ⟨(encTail (j + 1) x).toArray⟩ := by
        rw [hS.out, str_append, encTail, hy.out]
        rfl
      have hsz2 : ((⟨[UInt8.ofNat (y % 256)].toArray⟩ : ByteArray) ++ S).size ≤ 8 := by
        rw [ByteArray.size_append]
        have : (⟨[UInt8.ofNat (y % 256)].toArray⟩ : ByteArray).size = 1 := rfl
        omega
      have hy2 : y / 256 = x / 256 ^ (j + 1) := by rw [hy.out, Nat.div_div_eq_div_mul, Nat.pow_succ]
      have HST := Lib.hid hst
      have HY2 := Lib.hid hy2
      have HSZ := Lib.hid hsz2
      have HBEL := Lib.hid (hbel.alloc hbel.size (.cells #[.int .u8 ((y : Int) % 256)] 5))
      clear hS1 hst hy2 hsz2 hbel hS hy
      go_wp2_with fail
      go_roundw
      case rel =>
        refine ⟨j + 1, y / 256, _, by omega, HY2.out, by omega, by go_num, HST.out, rfl, HSZ.out, HBEL.out⟩
      case measure => simp [intOf]; omega
    · have hz : y = 0 := by omega
      subst hz
      have hjm := many_of_div x j hx hj hy.out.symm
      have hS1 : S.size = many x := by rw [hS.out, ← hjm]; simp [ByteArray.size, encTail_length]
      have hcv := conv_byte wr (S.size : Int) (UInt8.ofNat (many x)) (by rw [ofNat_toNat, hS1]; omega)
      have hst : B ++ (⟨[UInt8.ofNat (many x)].toArray⟩ : ByteArray) ++ S = ⟨(b ++ encNum x).toArray⟩ := by
        rw [hS.out, ← HB.out, str_append, str_append, hjm, encNum, List.append_assoc]
        rfl
      have hBs : B.size = b.length := by rw [← HB.out]; simp [ByteArray.size]
      have hBs2 : B.size ≤ 1073741824 := by omega
      have HST := Lib.hid hst
      have HBEL := Lib.hid (hbel.alloc hbel.size (.cells #[.int .u8 (S.size : Int)] 5))
      clear hst hbel hS hy hS1 hBs hjm
      go_wp2_with fail
      go_ret
      exact ⟨by rw [HST.out]; rfl, HBEL.out⟩

end Go.Proofs.Ytjnobakbjapfjaa.Lay
