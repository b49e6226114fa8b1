/-
  lay's reader, over its states: Number, Small, Raw, Text, End, Read.
  lay's reader, over its states: Small, Raw, Text.
  How lay writes numbers and texts, as plain lists of bytes; words for slices that are read.
  lay's addNumber: a number, laid behind a row of bytes of the call's own.
  lay's behind, PutNumber, PutText: numbers and texts, laid behind bytes, in new memory.
  Heads in plain words: their blocks, and what a block's head is. No statement about the program stands here.
-/
import Derived.Test.YtnhondkdkjehaaaGreatLNumber
import Derived.Test.YtnhondkdkjehaaaGreatShelf
import Derived.Lib.IndexBytes
import Derived.Lib.Bits
import Derived.Lib.BitFns
import Derived.Maps.AppendAt
import Derived.Laws.AppendOwnNone
import Derived.Test.YtnhondkdkjehaaaGreatSlA
import Derived.Test.YtnhondkdkjehaaaGreatSlC
namespace Go.Proofs.YtnhondkdkjehaaaGreat.Lay
open Go.RowKit

/-- A reader's state: what is left, and the first error. -/
abbrev St := List UInt8 × Int

def stNum (q : St) : St := if q.2 = 0 then (numRest q.1, numErr q.1) else q
def stNumV (q : St) : Nat := if q.2 = 0 then numVal q.1 else 0
def tooBig (most : Int) (v : Nat) : Bool := decide (most < 0) || decide (most < (v : Int))
def stSmall (most : Int) (q : St) : St := if (stNum q).2 = 0 then (if tooBig most (stNumV q) = true then ([], 3) else stNum q) else stNum q
def stSmallV (most : Int) (q : St) : Nat := if (stNum q).2 = 0 then (if tooBig most (stNumV q) = true then 0 else stNumV q) else 0
def stRaw (n : Int) (q : St) : St := if q.2 = 0 then (if n < 0 then ([], 2) else if (q.1.length : Int) < n then ([], 10) else (q.1.drop n.toNat, 0)) else q
def stRawV (n : Int) (q : St) : List UInt8 := if q.2 = 0 then (if n < 0 then [] else if (q.1.length : Int) < n then [] else q.1.take n.toNat) else []
def stEnd (q : St) : Int := if q.2 = 0 then (if q.1 = [] then 0 else 11) else q.2

/-- A reader that was made, in block b, at the state q. -/
def Rds (w : World) (b : Nat) (q : St) : Prop := Box w b 197 #[.bool true, .string ⟨q.1.toArray⟩, .int .i64 q.2]

section
variable {w w' : World} {b : Nat} {q : St}
theorem Rds.c0 (h : Rds w b q) : w.cell? ⟨b, 0, none⟩ = some (.bool true) := Box.cell h 0
theorem Rds.c1 (h : Rds w b q) : w.cell? ⟨b, 1, none⟩ = some (.string ⟨q.1.toArray⟩) := Box.cell h 1
theorem Rds.c2 (h : Rds w b q) : w.cell? ⟨b, 2, none⟩ = some (.int .i64 q.2) := Box.cell h 2
theorem Rds.f1 (h : Rds w b q) : w.frozen? ⟨b, 1, none⟩ = false := Box.frozen h 1
theorem Rds.f2 (h : Rds w b q) : w.frozen? ⟨b, 2, none⟩ = false := Box.frozen h 2
theorem Rds.fail (h : Rds w b q) (e : Int) : Rds (failed w b e) b ([], e) := by
  have h1 := Box.put (Box.put h 2 (.int .i64 e)) 1 (.string ByteArray.empty)
  exact h1
theorem Rds.cut (h : Rds w b q) (l : List UInt8) : Rds (w.setCell ⟨b, 1, none⟩ (.string ⟨l.toArray⟩)) b (l, q.2) := Box.put h 1 (.string ⟨l.toArray⟩)
theorem grown_fail (w : World) (b : Nat) (e : Int) : w.grownBy (failed w b e) (some b) := grown_set (grown_set (grown_refl w _) 2 _) 1 _
end

theorem string_eq (s : ByteArray) : (⟨s.data.toList.toArray⟩ : ByteArray) = s := by
  obtain ⟨⟨l⟩⟩ := s
  rfl

theorem numErr_ok {l : List UInt8} (h : numErr l = 0) : numMany l ≤ 8 ∧ numMany l < l.length := by
  unfold numMany
  rw [if_pos h]
  cases l with
  | nil => simp [numErr] at h
  | cons x t =>
    simp only [numErr] at h
    simp only [List.headD_cons, List.length_cons]
    split at h
    · simp at h
    · split at h
      · simp at h
      · omega

theorem number_rds {w : World} {b : Nat} {q : St} (h : Rds w b q) (hl : q.1.length ≤ maxLen) :
    Calls Tryz.prog 116 #[.pointer (some ⟨b, 0, none⟩)] w fun r w' => r = .returned (.int .u64 (stNumV q)) ∧ Rds w' b (stNum q) ∧ w.grownBy w' (some b) := by
  obtain ⟨l, e⟩ := q
  by_cases he : e = 0
  · subst he
    by_cases hE : numErr l = 0
    · obtain ⟨h8, hlt⟩ := numErr_ok hE
      have hn := number_ok b ⟨l.toArray⟩ w (by simpa [ByteArray.size] using hl) h.c0 h.c1 h.c2 h.f1 (numMany l) h8 (by simpa [ByteArray.size] using hlt) rfl hE
      refine hn.mono ?_
      rintro r w' ⟨rfl, rfl⟩
      have hm : numMany l = (l.headD 0).toNat := by rw [numMany, if_pos hE]
      have e1 : stNumV (l, 0) = beVal ((l.drop 1).take (numMany l)) := by simp only [stNumV, numVal, if_pos hE, if_true, hm]
      have e2 : stNum (l, 0) = (l.drop (1 + numMany l), 0) := by simp only [stNum, numRest, if_true, hm, hE]
      have e3 : (⟨l.toArray⟩ : ByteArray).extract (1 + numMany l) (⟨l.toArray⟩ : ByteArray).size = ⟨(l.drop (1 + numMany l)).toArray⟩ := by
        rw [← string_eq (ByteArray.extract _ _ _), Lib.extract_to_end]
      rw [e1, e2, e3]
      exact ⟨rfl, h.cut _, grown_set (grown_refl w _) 1 _⟩
    · have hn := number_err b ⟨l.toArray⟩ w (by simpa [ByteArray.size] using hl) h.c0 h.c1 h.c2 h.f1 h.f2 (by simpa using hE)
      refine hn.mono ?_
      rintro r w' ⟨rfl, rfl⟩
      have e1 : stNumV (l, 0) = 0 := by simp only [stNumV, numVal, if_neg hE, if_true]
      have e2 : stNum (l, 0) = ([], numErr l) := by simp only [stNum, numRest, if_neg hE, if_true]
      rw [e1, e2]
      exact ⟨rfl, h.fail _, grown_fail w b _⟩
  · refine (number_bad b e w h.c0 h.c2 (by simpa using he)).mono ?_
    rintro r w' ⟨rfl, rfl⟩
    have e1 : stNumV (l, e) = 0 := by simp only [stNumV, if_neg he]
    have e2 : stNum (l, e) = (l, e) := by simp only [stNum, if_neg he]
    rw [e1, e2]
    exact ⟨rfl, h, grown_refl w _⟩


theorem stNum_len (q : St) : (stNum q).1.length ≤ q.1.length := by
  unfold stNum numRest
  split
  · split <;> simp
  · exact Nat.le_refl _

theorem stNumV_lt (q : St) : stNumV q < 18446744073709551616 := by
  unfold stNumV numVal
  split
  · split
    · rename_i h
      have h8 := (numErr_ok h).1
      rw [numMany, if_pos h] at h8
      have h1 := beVal_lt ((q.1.drop 1).take (q.1.headD 0).toNat)
      have h2 : ((q.1.drop 1).take (q.1.headD 0).toNat).length ≤ 8 := Nat.le_trans (List.length_take_le _ _) h8
      have h3 : 256 ^ ((q.1.drop 1).take (q.1.headD 0).toNat).length ≤ 256 ^ 8 := Nat.pow_le_pow_right (by omega) h2
      exact Nat.lt_of_lt_of_le h1 h3
    · exact Nat.zero_lt_of_lt (show 5 < 18446744073709551616 from by decide)
  · exact Nat.zero_lt_of_lt (show 5 < 18446744073709551616 from by decide)

theorem bad_rds {w : World} {b : Nat} {q : St} (h : Rds w b q) :
    Calls Tryz.prog 138 #[.pointer (some ⟨b, 0, none⟩)] w fun r w' => r = .returned (.int .i64 q.2) ∧ w = w' := bad_made b q.2 w h.c0 h.c2

theorem end_rds {w : World} {b : Nat} {q : St} (h : Rds w b q) :
    Calls Tryz.prog 118 #[.pointer (some ⟨b, 0, none⟩)] w fun r w' => r = .returned (.int .i64 (stEnd q)) ∧ w = w' := by
  have h1 := h.c1
  have hb := Lib.hid (bad_rds h)
  clear h
  obtain ⟨l, e⟩ := q
  unfold stEnd
  by_cases he : e = 0
  · subst he
    by_cases hl : l = []
    · subst hl
      have hne : (!(⟨[].toArray⟩ : ByteArray).toList.isEmpty) = false := by simp
      go_enter Tryz.func118, Tryz.ntmps118
      go_wp2_with fail
      refine hb.out.mono ?_
      rintro r w' ⟨rfl, rfl⟩
      go_wp2_with fail
      go_ret
      exact ⟨rfl, rfl⟩
    · have hs : ∃ s : ByteArray, s.toList.isEmpty = false ∧ (⟨l.toArray⟩ : ByteArray) = s := ⟨_, by simpa [Lib.toList_data] using hl, rfl⟩
      obtain ⟨s, hne, hs⟩ := hs
      rw [hs] at h1
      have hne2 : (!s.toList.isEmpty) = true := by simp [hne]
      clear hs
      go_enter Tryz.func118, Tryz.ntmps118
      go_wp2_with fail
      refine hb.out.mono ?_
      rintro r w' ⟨rfl, rfl⟩
      go_wp2_with fail
      go_ret
      exact ⟨rfl, rfl⟩
  · have hne : (e != 0) = true := by simpa using he
    go_enter Tryz.func118, Tryz.ntmps118
    go_wp2_with fail
    refine hb.out.mono ?_
    rintro r w' ⟨rfl, rfl⟩
    go_wp2_with fail
    go_ret
    exact ⟨rfl, rfl⟩

theorem read_any (s : ByteArray) (w : World) :
    Calls Tryz.prog 115 #[.string s] w fun r w' => r = .returned (.pointer (some ⟨w.heap.size, 0, none⟩)) ∧ w.alloc (.cells #[.bool true, .string s, .int .i64 0] 197) = w' := by
  go_enter Tryz.func115, Tryz.ntmps115
  go_wp2
  go_ret
  exact ⟨rfl, rfl⟩

end Go.Proofs.YtnhondkdkjehaaaGreat.Lay
namespace Go.Proofs.YtnhondkdkjehaaaGreat.Lay
open Go.RowKit

theorem u64_of_nonneg (m : Int) (h0 : 0 ≤ m) (h1 : m ≤ 9223372036854775807) : IntKind.u64.wrap m = m := by
  rw [IntKind.wrap_u64]
  omega
theorem i64_of_small (v : Nat) (m : Int) (h : (v : Int) ≤ m) (h1 : m ≤ 9223372036854775807) : IntKind.i64.wrap (v : Int) = (v : Int) := IntWalk.i64_in _ (by omega)

theorem small_rds {w : World} {b : Nat} {q : St} (h : Rds w b q) (hl : q.1.length ≤ maxLen) (most : Int) (hm1 : most ≤ 9223372036854775807) :
    Calls Tryz.prog 117 #[.pointer (some ⟨b, 0, none⟩), .int .i64 most] w fun r w' => r = .returned (.int .i64 (stSmallV most q)) ∧ Rds w' b (stSmall most q) ∧ w.grownBy w' (some b) := by
  have hN := Lib.hid (number_rds h hl)
  have hv := stNumV_lt q
  clear h hl
  unfold stSmall stSmallV
  generalize stNum q = q1 at *
  generalize stNumV q = v at *
  by_cases he : q1.2 = 0
  · rw [if_pos he, if_pos he]
    by_cases hb : tooBig most v = true
    · rw [if_pos hb, if_pos hb]
      obtain ⟨l1, e1⟩ := q1
      obtain rfl : e1 = 0 := he
      by_cases h0 : most < 0
      · have hd : decide (most < 0) = true := by simpa using h0
        clear hb hv
        go_enter Tryz.func117, Tryz.ntmps117
        go_wp2_with fail
        refine hN.out.mono ?_
        rintro r w1 ⟨rfl, hr, hg⟩
        go_wp2_with fail
        refine (bad_rds hr).mono ?_
        rintro r w' ⟨rfl, rfl⟩
        go_wp2_with fail
        refine (fail_any b 3 w1 hr.c1 hr.c2 hr.f1 hr.f2).mono ?_
        rintro r w' ⟨rfl, rfl⟩
        go_wp2_with fail
        go_ret
        exact ⟨rfl, hr.fail 3, grown_set (grown_set hg 2 _) 1 _⟩
      · have h1 : decide (most < 0) = false := by simpa using h0
        have h2 : most < (v : Int) := by
          unfold tooBig at hb
          rw [h1] at hb
          simpa using hb
        have hw := u64_of_nonneg most (by omega) hm1
        have hd : decide (most < (v : Int)) = true := by simpa using h2
        clear hb hv
        go_enter Tryz.func117, Tryz.ntmps117
        go_wp2_with fail
        refine hN.out.mono ?_
        rintro r w1 ⟨rfl, hr, hg⟩
        go_wp2_with fail
        refine (bad_rds hr).mono ?_
        rintro r w' ⟨rfl, rfl⟩
        go_wp2_with fail
        refine (fail_any b 3 w1 hr.c1 hr.c2 hr.f1 hr.f2).mono ?_
        rintro r w' ⟨rfl, rfl⟩
        go_wp2_with fail
        go_ret
        exact ⟨rfl, hr.fail 3, grown_set (grown_set hg 2 _) 1 _⟩
    · rw [if_neg hb, if_neg hb]
      obtain ⟨l1, e1⟩ := q1
      obtain rfl : e1 = 0 := he
      have h1 : decide (most < 0) = false := by
        unfold tooBig at hb
        cases hq : decide (most < 0)
        · rfl
        · rw [hq] at hb; simp at hb
      have h2 : decide (most < (v : Int)) = false := by
        unfold tooBig at hb
        rw [h1] at hb
        simpa using hb
      have g1 : 0 ≤ most := by simpa using h1
      have g2 : (v : Int) ≤ most := by simpa using h2
      have hw := u64_of_nonneg most g1 hm1
      have hw2 := i64_of_small v most g2 hm1
      clear hb hv
      go_enter Tryz.func117, Tryz.ntmps117
      go_wp2_with fail
      refine hN.out.mono ?_
      rintro r w1 ⟨rfl, hr, hg⟩
      go_wp2_with fail
      refine (bad_rds hr).mono ?_
      rintro r w' ⟨rfl, rfl⟩
      go_wp2_with fail
      go_ret
      exact ⟨rfl, hr, hg⟩
  · rw [if_neg he, if_neg he]
    have hd : (q1.2 != 0) = true := by simpa using he
    go_enter Tryz.func117, Tryz.ntmps117
    go_wp2_with fail
    refine hN.out.mono ?_
    rintro r w1 ⟨rfl, hr, hg⟩
    go_wp2_with fail
    refine (bad_rds hr).mono ?_
    rintro r w' ⟨rfl, rfl⟩
    go_wp2_with fail
    go_ret
    exact ⟨rfl, hr, hg⟩

def stText (most : Int) (q : St) : St := stRaw (stSmallV most q) (stSmall most q)
def stTextV (most : Int) (q : St) : List UInt8 := stRawV (stSmallV most q) (stSmall most q)

theorem stSmall_len (most : Int) (q : St) : (stSmall most q).1.length ≤ q.1.length := by
  unfold stSmall
  have := stNum_len q
  split
  · split
    · simp
    · exact this
  · exact this

end Go.Proofs.YtnhondkdkjehaaaGreat.Lay
namespace Go.Proofs.YtnhondkdkjehaaaGreat.Lay
open Go.RowKit

/-- Bytes as cells. -/
def bc (l : List UInt8) : List Value := l.map fun b => Value.int .u8 (b.toNat : Int)
theorem bc_append (l m : List UInt8) : bc (l ++ m) = bc l ++ bc m := by simp [bc]
theorem bc_length (l : List UInt8) : (bc l).length = l.length := by simp [bc]
theorem bc_one (l : List UInt8) : ∀ u ∈ bc l, u.oneCell' = true := by
  intro u hu
  simp only [bc, List.mem_map] at hu
  obtain ⟨b, _, rfl⟩ := hu
  rfl

/-- The m lowest bytes of x, the highest first. -/
def encTail : Nat → Nat → List UInt8
  | 0, _ => []
  | m + 1, x => UInt8.ofNat (x / 256 ^ m % 256) :: encTail m x
theorem encTail_length (m x : Nat) : (encTail m x).length = m := by
  induction m with
  | zero => rfl
  | succ m ih => simp [encTail, ih]
/-- How many bytes a number has. -/
def many (x : Nat) : Nat := (Lib.bitLen x + 7) / 8
def encNum (x : Nat) : List UInt8 := UInt8.ofNat (many x) :: encTail (many x) x
def encText (l : List UInt8) : List UInt8 := encNum l.length ++ l
theorem encNum_length (x : Nat) : (encNum x).length = 1 + many x := by simp [encNum, encTail_length, Nat.add_comm]


theorem many_zero : many 0 = 0 := by decide +kernel
theorem many_small (x : Nat) (h0 : 0 < x) (h : x < 256) : many x = 1 := by
  have h1 : ∀ n : Fin 256, 0 < n.val → many n.val = 1 := by decide +kernel
  exact h1 ⟨x, h⟩ h0
theorem many_step (x : Nat) (h : 256 ≤ x) (hx : x < 2 ^ 64) : many x = 1 + many (x / 256) := by
  unfold many
  rw [Lib.bitLen_shift 8 x h hx]
  show (8 + Lib.bitLen (x / 256) + 7) / 8 = _
  omega
theorem many_bounds : ∀ (k x : Nat), k ≤ 8 → x < 256 ^ k → many x ≤ k ∧ x < 256 ^ many x ∧ (0 < x → 0 < many x ∧ 256 ^ (many x - 1) ≤ x)
  | 0, x, _, h => by
    have : x = 0 := by simpa using h
    subst this
    rw [many_zero]
    simp
  | k + 1, x, hk, h => by
    rcases Nat.eq_zero_or_pos x with h0 | h0
    · subst h0
      rw [many_zero]
      simp
    · by_cases hs : x < 256
      · rw [many_small x h0 hs]
        exact ⟨by omega, by simpa using hs, fun _ => ⟨by omega, by simp; omega⟩⟩
      · have hx : x < 2 ^ 64 := by
          have : 256 ^ (k + 1) ≤ 256 ^ 8 := Nat.pow_le_pow_right (by omega) hk
          exact Nat.lt_of_lt_of_le h (by simpa using this)
        have hd : x / 256 < 256 ^ k := by
          rw [Nat.div_lt_iff_lt_mul (by omega)]
          rw [Nat.pow_succ] at h
          exact h
        obtain ⟨a, b, c⟩ := many_bounds k (x / 256) (by omega) hd
        obtain ⟨c1, c2⟩ := c (Nat.div_pos (by omega) (by omega))
        rw [many_step x (by omega) hx]
        refine ⟨by omega, ?_, fun _ => ⟨by omega, ?_⟩⟩
        · rw [Nat.div_lt_iff_lt_mul (by omega)] at b
          rw [Nat.add_comm, Nat.pow_succ]
          exact b
        · rw [Nat.le_div_iff_mul_le (by omega)] at c2
          have e : 1 + many (x / 256) - 1 = (many (x / 256) - 1) + 1 := by omega
          rw [e, Nat.pow_succ]
          exact c2
theorem many_le (x : Nat) (h : x < 18446744073709551616) : many x ≤ 8 := (many_bounds 8 x (Nat.le_refl _) (by simpa using h)).1
theorem lt_many (x : Nat) (h : x < 18446744073709551616) : x < 256 ^ many x := (many_bounds 8 x (Nat.le_refl _) (by simpa using h)).2.1
theorem many_pos (x : Nat) (h : x < 18446744073709551616) (h0 : 0 < x) : 0 < many x ∧ 256 ^ (many x - 1) ≤ x := (many_bounds 8 x (Nat.le_refl _) (by simpa using h)).2.2 h0

/-- As many bytes as the number has: no more and no fewer have a first one that is not 0. -/
theorem many_unique (x m : Nat) (h : x < 18446744073709551616) (hlt : x < 256 ^ m) (hge : 0 < m → 256 ^ (m - 1) ≤ x) : many x = m := by
  rcases Nat.eq_zero_or_pos x with h0 | h0
  · subst h0
    rw [many_zero]
    rcases Nat.eq_zero_or_pos m with hm | hm
    · exact hm.symm
    · have := hge hm
      have hp : 0 < 256 ^ (m - 1) := Nat.pow_pos (by omega)
      omega
  · obtain ⟨h1, h2⟩ := many_pos x h h0
    have h3 := lt_many x h
    have hm : 0 < m := by
      rcases Nat.eq_zero_or_pos m with hm | hm
      · subst hm
        simp at hlt
        omega
      · exact hm
    have h4 := hge hm
    have a : ¬ m < many x := fun hh => by
      have : 256 ^ m ≤ 256 ^ (many x - 1) := Nat.pow_le_pow_right (by omega) (by omega)
      omega
    have b : ¬ many x < m := fun hh => by
      have : 256 ^ many x ≤ 256 ^ (m - 1) := Nat.pow_le_pow_right (by omega) (by omega)
      omega
    omega

theorem ofNat_toNat (n : Nat) : (UInt8.ofNat n).toNat = n % 256 := by simp

theorem beVal_from : ∀ (l : List UInt8) (v : Nat), l.foldl (fun v b => v * 256 + b.toNat) v = v * 256 ^ l.length + beVal l
  | [], v => by simp [beVal]
  | b :: l, v => by
    have h1 := beVal_from l (v * 256 + b.toNat)
    have h2 := beVal_from l b.toNat
    have h3 : beVal (b :: l) = l.foldl (fun v b => v * 256 + b.toNat) b.toNat := by simp [beVal]
    rw [List.foldl_cons, h1, h3, h2, List.length_cons, Nat.pow_succ, Nat.add_mul, Nat.mul_assoc, Nat.mul_comm 256, Nat.add_assoc]
theorem beVal_cons (b : UInt8) (l : List UInt8) : beVal (b :: l) = b.toNat * 256 ^ l.length + beVal l := by
  have h := beVal_from l b.toNat
  simpa [beVal] using h

theorem beVal_encTail (m x : Nat) : beVal (encTail m x) = x % 256 ^ m := by
  induction m with
  | zero => simp [encTail, beVal, Nat.mod_one]
  | succ m ih =>
    rw [encTail, beVal_cons, ih, encTail_length, ofNat_toNat, Nat.mod_mod, Nat.pow_succ, Nat.mod_mul, Nat.add_comm, Nat.mul_comm]

theorem encTail_beVal : ∀ l : List UInt8, encTail l.length (beVal l) = l
  | [] => rfl
  | b :: l => by
    have hlt := beVal_lt l
    have hb := b.toNat_lt
    have hp : 0 < 256 ^ l.length := Nat.pow_pos (by omega)
    rw [List.length_cons, encTail, beVal_cons]
    have e1 : (b.toNat * 256 ^ l.length + beVal l) / 256 ^ l.length = b.toNat := by
      rw [Nat.add_comm, Nat.add_mul_div_right _ _ hp, Nat.div_eq_of_lt hlt, Nat.zero_add]
    have e2 : ∀ (m a c : Nat), m ≤ l.length → encTail m (a * 256 ^ l.length + c) = encTail m c := by
      intro m
      induction m with
      | zero => intros; rfl
      | succ m ih =>
        intro a c hm
        have hpm : 0 < 256 ^ m := Nat.pow_pos (by omega)
        obtain ⟨d, hd⟩ : ∃ d, l.length = m + 1 + d := ⟨l.length - (m + 1), by omega⟩
        have e3 : (a * 256 ^ l.length + c) / 256 ^ m % 256 = c / 256 ^ m % 256 := by
          rw [hd, show m + 1 + d = d + 1 + m from by omega, Nat.pow_add, ← Nat.mul_assoc, Nat.add_comm, Nat.add_mul_div_right _ _ hpm, Nat.pow_succ, ← Nat.mul_assoc, Nat.add_mul_mod_self_right]
        rw [encTail, encTail, e3, ih a c (by omega)]
    rw [e1, e2 l.length b.toNat (beVal l) (Nat.le_refl _), encTail_beVal l, Nat.mod_eq_of_lt (by omega)]
    simp

/-- What is laid is read: no error, the number, and what is behind it. -/
theorem numErr_enc (x : Nat) (h : x < 18446744073709551616) (t : List UInt8) : numErr (encNum x ++ t) = 0 ∧ numMany (encNum x ++ t) = many x ∧ numVal (encNum x ++ t) = x ∧ numRest (encNum x ++ t) = t := by
  have h8 := many_le x h
  have hE : numErr (encNum x ++ t) = 0 := by
    simp only [encNum, List.cons_append, numErr, ofNat_toNat]
    rw [if_neg (by omega), if_neg (by rw [List.length_append, encTail_length]; omega), if_neg]
    rintro ⟨hp, hh⟩
    have hm : many x % 256 = many x := Nat.mod_eq_of_lt (by omega)
    rw [hm] at hp
    obtain ⟨k, hk⟩ : ∃ k, many x = k + 1 := ⟨many x - 1, by omega⟩
    rw [hk, encTail, List.cons_append, List.head?_cons, Option.some.injEq] at hh
    have h0 : 0 < x := by
      rcases Nat.eq_zero_or_pos x with h0 | h0
      · subst h0
        rw [many_zero] at hp
        omega
      · exact h0
    have h1 := (many_pos x h h0).2
    have h2 := lt_many x h
    rw [hk] at h1 h2
    have h3 : (UInt8.ofNat (x / 256 ^ k % 256)).toNat = 0 := by rw [hh]; rfl
    rw [ofNat_toNat, Nat.mod_mod] at h3
    have hpk : 0 < 256 ^ k := Nat.pow_pos (by omega)
    have h4 : x / 256 ^ k < 256 := by
      rw [Nat.div_lt_iff_lt_mul hpk, Nat.mul_comm, ← Nat.pow_succ]
      exact h2
    have h5 : 0 < x / 256 ^ k := Nat.div_pos h1 hpk
    omega
  have hH : ((encNum x ++ t).headD 0).toNat = many x := by
    simp only [encNum, List.cons_append, List.headD_cons, ofNat_toNat]
    exact Nat.mod_eq_of_lt (by omega)
  have hT : (encNum x ++ t).drop 1 = encTail (many x) x ++ t := by simp [encNum]
  refine ⟨hE, by rw [numMany, if_pos hE, hH], ?_, ?_⟩
  · rw [numVal, if_pos hE, hH, hT, List.take_left' (encTail_length _ _), beVal_encTail, Nat.mod_eq_of_lt (lt_many x h)]
  · rw [numRest, if_pos hE, hH, ← List.drop_drop, hT, List.drop_left' (encTail_length _ _)]

theorem numVal_lt (l : List UInt8) : numVal l < 18446744073709551616 := by
  have := stNumV_lt (l, 0)
  simpa [stNumV] using this

/-- What is read is laid as just these bytes. -/
theorem enc_num {l : List UInt8} (h : numErr l = 0) : l = encNum (numVal l) ++ numRest l := by
  obtain ⟨h8, hlt⟩ := numErr_ok h
  have hlt64 := numVal_lt l
  unfold numMany at h8 hlt
  rw [if_pos h] at h8 hlt
  rw [numVal, if_pos h] at hlt64
  cases l with
  | nil => simp [numErr] at h
  | cons x t =>
    simp only [List.headD_cons, List.length_cons, List.drop_succ_cons, List.drop_zero] at h8 hlt hlt64
    have hlen : (t.take x.toNat).length = x.toNat := by rw [List.length_take]; omega
    have hv : numVal (x :: t) = beVal (t.take x.toNat) := by rw [numVal, if_pos h]; rfl
    have hr : numRest (x :: t) = t.drop x.toNat := by rw [numRest, if_pos h, Nat.add_comm]; rfl
    have hm : many (beVal (t.take x.toNat)) = x.toNat := by
      refine many_unique _ _ hlt64 (by have := beVal_lt (t.take x.toNat); rwa [hlen] at this) (fun hp => ?_)
      simp only [numErr] at h
      rw [if_neg (by omega), if_neg (by omega)] at h
      split at h
      · simp at h
      · rename_i hno
        match t, hlt with
        | [], hlt => simp at hlt; omega
        | y :: t', _ =>
          have hy : y ≠ 0 := fun hy => hno ⟨hp, by rw [hy]; rfl⟩
          have hy' : 0 < y.toNat := Nat.pos_of_ne_zero (fun hh => hy (UInt8.toNat_inj.1 (by rw [hh]; rfl)))
          obtain ⟨k, hk⟩ : ∃ k, x.toNat = k + 1 := ⟨x.toNat - 1, by omega⟩
          rw [hk, List.length_take, List.length_cons] at hlen
          have hl' : (t'.take k).length = k := by rw [List.length_take]; omega
          rw [hk, List.take_succ_cons, beVal_cons, hl', Nat.add_sub_cancel]
          exact Nat.le_trans (Nat.le_mul_of_pos_left _ hy') (Nat.le_add_right _ _)
    rw [hv, hr, encNum, hm]
    have e1 : encTail x.toNat (beVal (t.take x.toNat)) = t.take x.toNat := by
      have := encTail_beVal (t.take x.toNat)
      rwa [hlen] at this
    rw [e1, List.cons_append, List.take_append_drop]
    simp

end Go.Proofs.YtnhondkdkjehaaaGreat.Lay
namespace Go.Proofs.YtnhondkdkjehaaaGreat.Lay
open Go.RowKit

theorem Tryz.byteInfo : (Tryz.prog.info? 5).map (fun i => (i.zero, i.size, i.bytes)) = some (some (.int .u8 0), 1, 1) := by kernel_rfl

/-- A row of bytes that the call owns, from block 'base' on. -/
def Own (w : World) (base : Nat) (v : Value) (l : List UInt8) : Prop := w.ownsRow base 5 1 v l.length (bc l)

theorem Own.below {w w' : World} {base : Nat} {v : Value} {l : List UInt8} (h : Own w base v l) (hg : w.grownBy w' v.ownBlock) (hb : base ≤ w.heap.size) : Below base w w' :=
  (Below.refl base w).grown hg hb (fun k hk => (World.ownsRow.lt h k hk).1)

/-- One byte, laid behind a row of the call's own: at the operation. -/
theorem wpList_byte {ops : Array Oper} {rest : List Oper} {o : Oper} {a : Act} {Q : Exit → Act → World → Prop} (w : World) (s x : Operand) (hgd : o.guard = none)
    (hop : o.op = .call { callee := .builtin .append, args := #[s, x], argTypes := #[49, 49] })
    (base : Nat) (v : Value) (l : List UInt8) (c : Int) (hs : a.eval s = v) (hx : a.eval x = .slice (some ⟨w.heap.size, 0, none⟩) 1 1) (b : UInt8) (hown : Own w base v l) (hc : c = (b.toNat : Int)) (hl : l.length ≤ 4294967296) (hb : base ≤ w.heap.size)
    (K : ∀ v' w', Own w' base v' (l ++ [b]) → Below base w w' → wpList Tryz.prog ops Q rest (a.put o.dst v') w') : wpList Tryz.prog ops Q (o :: rest) a (w.alloc (.cells #[.int .u8 c] 5)) := by
  subst hc
  obtain ⟨i0, hi, hz0, hz1, hz2⟩ := info_parts Tryz.byteInfo
  refine wpList_append_own _ hgd s x 49 hop base 5 i0 (.int .u8 0) 1 1 Tryz.underlying49 hi hz0 hz1 hz2 rfl (by decide) v l.length (bc l) hs (World.ownsRow.alloc hown _) ⟨w.heap.size, 0, none⟩ 1 1 (bc [b]) hx rfl
    (cell_one_new w _ _) (bc_one [b]) (by unfold maxLen; omega) (by omega) (by simp; omega) ?_
  intro v' w' h1 h2 _
  have hA : Below base w (w.alloc (.cells #[.int .u8 (b.toNat : Int)] 5)) := (Below.refl base w).alloc hb _
  refine K v' w' ?_ (hA.trans (Own.below (World.ownsRow.alloc hown _) h2 (by simp; omega)))
  unfold Own
  rw [List.length_append, bc_append]
  exact h1

theorem wpList_string {ops : Array Oper} {rest : List Oper} {o : Oper} {a : Act} {Q : Exit → Act → World → Prop} (w : World) (s x : Operand) (hgd : o.guard = none)
    (hop : o.op = .call { callee := .builtin .append, args := #[s, x], argTypes := #[49, 9] })
    (base : Nat) (v : Value) (l : List UInt8) (t : ByteArray) (hs : a.eval s = v) (hx : a.eval x = .string t) (hown : Own w base v l) (hl : l.length + t.size ≤ 8589934592) (hb : base ≤ w.heap.size)
    (K : ∀ v' w', Own w' base v' (l ++ t.data.toList) → Below base w w' → wpList Tryz.prog ops Q rest (a.put o.dst v') w') : wpList Tryz.prog ops Q (o :: rest) a w := by
  obtain ⟨i0, hi, hz0, hz1, hz2⟩ := info_parts Tryz.byteInfo
  refine Lib.wpList_append_own_string _ hgd s x 49 9 hop base 5 i0 Tryz.underlying49 Tryz.underlying9 hi hz0 hz1 hz2 v l.length (bc l) hs hown t hx (by unfold maxLen; omega) (by omega) hb ?_
  intro v' w' h1 h2 _
  refine K v' w' ?_ (Own.below hown h2 hb)
  unfold Own
  rw [List.length_append, bc_append]
  exact h1

theorem byte_of (x k : Nat) : (x : Int) / 2 ^ (8 * k) % 256 = ((UInt8.ofNat (x / 256 ^ k % 256)).toNat : Int) := by
  rw [ofNat_toNat, Nat.mod_mod]
  have e : (2 : Int) ^ (8 * k) = ((256 ^ k : Nat) : Int) := by
    rw [Int.pow_mul]
    simp
  rw [e]
  omega

def AddPost (base : Nat) (l : List UInt8) (x : Nat) (w : World) (r : Ending) (w' : World) : Prop := ∃ v', r = .returned v' ∧ Own w' base v' (l ++ encNum x) ∧ Below base w w'

theorem addNumber_any (base : Nat) (v : Value) (l : List UInt8) (x : Nat) (w : World) (ho : Own w base v l) (hb : base ≤ w.heap.size) (hx : x < 18446744073709551616) (hl : l.length ≤ 2147483648) :
    Calls Tryz.prog 142 #[v, .int .u64 x] w (AddPost base l x w) := by
  have hm8 := many_le x hx
  have hL := Tryz.bits_Len64 (x : Int) w (by omega) (by omega)
  rw [Int.toNat_natCast] at hL
  have hLm : many x = (Lib.bitLen x + 7) / 8 := rfl
  generalize Lib.bitLen x = L at *
  have hL64 : L ≤ 64 := by omega
  have HL := Lib.hid hL
  have HM := Lib.hid hLm
  clear hL hLm
  go_enter Tryz.func142, Tryz.ntmps142
  go_wp2_with fail
  refine HL.out.mono ?_
  rintro r w' ⟨rfl, rfl⟩
  clear HL
  go_wp2_with (at_builtin; refine wpList_byte w' (.tmp 11) (.tmp 14) rfl rfl base v l _ rfl rfl (UInt8.ofNat (many x)) ho ?_ ?_ ?_ ?_)
  · rw [ofNat_toNat, HM.out]
    omega
  · omega
  · exact hb
  intro v1 w1 hown1 hbel1
  have hb1 : base ≤ w1.heap.size := Nat.le_trans hb hbel1.size
  have HO := Lib.hid hown1
  have HB := Lib.hid hbel1
  clear hown1 hbel1 ho hb1
  go_wp2_with fail
  go_loopw [0, 6] (fun v i wr => ∃ (j : Nat) (p : List UInt8), j ≤ many x ∧ i = .int .i64 ((j : Int) - 1) ∧ p ++ encTail j x = encTail (many x) x ∧ Own wr base v (l ++ UInt8.ofNat (many x) :: p) ∧ Below base w' wr) (fun _ i _ => (intOf i + 1).toNat)
  case atStart => exact ⟨many x, [], Nat.le_refl _, by rw [HM.out]; go_num, rfl, HO.out, HB.out⟩
  case round =>
    obtain ⟨j, p, hj, rfl, hp, hown, hbel⟩ := hrel
    have HP := Lib.hid hp
    clear hp
    rcases j with _ | k
    · go_wp2
      go_ret
      refine ⟨_, rfl, ?_, hbel⟩
      have := HP.out
      simp only [encTail, List.append_nil] at this
      rw [encNum, ← this]
      exact hown
    · rw [show (((k + 1 : Nat) : Int) - 1) = (k : Int) from by omega]
      have hk8 : k ≤ 7 := by omega
      have hbr : base ≤ wr.heap.size := Nat.le_trans hb hbel.size
      have hlen : (l ++ UInt8.ofNat (many x) :: p).length ≤ 4294967296 := by
        have h1 := congrArg List.length HP.out
        rw [List.length_append, encTail_length, encTail_length] at h1
        simp only [List.length_append, List.length_cons]
        omega
      go_wp2_with (at_builtin; refine wpList_byte wr (.tmp 22) (.tmp 28) rfl rfl base _ (l ++ UInt8.ofNat (many x) :: p) _ rfl rfl (UInt8.ofNat (x / 256 ^ k % 256)) hown ?_ hlen hbr ?_)
      · exact byte_of x k
      intro v2 w2 hown2 hbel2
      have HO2 := Lib.hid hown2
      have HB2 := Lib.hid (hbel.trans hbel2)
      clear hown2 hbel2 hown hbel hlen hbr
      go_wp2
      go_roundw
      case rel =>
        refine ⟨k, p ++ [UInt8.ofNat (x / 256 ^ k % 256)], by omega, by go_num, ?_, HO2.out, HB2.out⟩
        have h1 := HP.out
        rw [encTail] at h1
        simpa using h1
      case measure => simp [intOf]
end Go.Proofs.YtnhondkdkjehaaaGreat.Lay
namespace Go.Proofs.YtnhondkdkjehaaaGreat.Lay
open Go.RowKit

/-- A slice that is read: the value V leads to the cells xs, which lie below block B (nil too). -/
def Sl (w : World) (B : Nat) (V : Value) (xs : List Value) : Prop :=
  (V = .slice none 0 0 ∧ xs = []) ∨ ∃ ad c, V = .slice (some ad) xs.length c ∧ ∀ j u, xs[j]? = some u → ad.block < B ∧ w.cell? (ad.add j) = some u

theorem add_block (a : Addr) (n : Nat) : (a.add n).block = a.block := by
  unfold Addr.add
  split <;> rfl

section
variable {w w' : World} {B : Nat} {V : Value} {xs : List Value}
theorem Sl.keep (h : Sl w B V xs) (hk : ∀ p : Addr, p.block < B → w'.cell? p = w.cell? p) : Sl w' B V xs := by
  rcases h with h | ⟨ad, c, hV, hc⟩
  · exact .inl h
  · refine .inr ⟨ad, c, hV, fun j u hu => ?_⟩
    obtain ⟨h1, h2⟩ := hc j u hu
    exact ⟨h1, (hk _ (by rw [add_block]; exact h1)).trans h2⟩
theorem Sl.below (h : Sl w B V xs) (hb : Below B w w') : Sl w' B V xs := h.keep fun _ hp => hb.cell hp
theorem Sl.wide {B' : Nat} (h : Sl w B V xs) (hB : B ≤ B') : Sl w B' V xs := by
  rcases h with h | ⟨ad, c, hV, hc⟩
  · exact .inl h
  · exact .inr ⟨ad, c, hV, fun j u hu => ⟨Nat.lt_of_lt_of_le (hc j u hu).1 hB, (hc j u hu).2⟩⟩
theorem Sl.form (h : Sl w B V xs) : ∃ A c, V = .slice A xs.length c ∧ ∀ j u, xs[j]? = some u → ∃ b off, A = some ⟨b, off, none⟩ ∧ b < B ∧ w.cell? ⟨b, off + j, none⟩ = some u := by
  rcases h with ⟨rfl, rfl⟩ | ⟨⟨b, off, spot⟩, c, rfl, hc⟩
  · exact ⟨none, 0, rfl, fun j u hu => by simp at hu⟩
  · refine ⟨some ⟨b, off, spot⟩, c, rfl, fun j u hu => ?_⟩
    obtain ⟨h1, h2⟩ := hc j u hu
    have hj : j < xs.length := by
      rcases Nat.lt_or_ge j xs.length with h | h
      · exact h
      · rw [List.getElem?_eq_none h] at hu
        cases hu
    have h0 := (hc 0 xs[0] (List.getElem?_eq_getElem (by omega))).2
    have hs : spot = none := by simpa [Addr.add] using World.cell?_spot h0
    subst hs
    refine ⟨b, off, rfl, h1, ?_⟩
    rw [← h2]
    congr 1
    unfold Addr.add
    split
    · rename_i h
      subst h
      rfl
    · rfl
theorem Sl.own {base : Nat} {v : Value} {l : List UInt8} (h : Own w base v l) : Sl w w.heap.size v (bc l) := by
  have hlt := World.ownsRow.lt h
  rcases h.2 with ⟨hv, hn⟩ | ⟨g, cap, cur, hv, _⟩
  · refine .inl ⟨hv, ?_⟩
    have : l = [] := List.eq_nil_of_length_eq_zero hn
    subst this
    rfl
  · subst hv
    refine .inr ⟨⟨g, 0, none⟩, cap, by rw [bc_length], fun j u hu => ⟨(hlt g rfl).2, World.ownsRow.cells h (g := g) rfl j u hu⟩⟩
end

def BehindPost (l : List UInt8) (w : World) (r : Ending) (w' : World) : Prop := ∃ v', r = .returned v' ∧ Own w' w.heap.size v' l ∧ Below w.heap.size w w'

theorem behind_any (V : Value) (l : List UInt8) (room : Nat) (w : World) (h : Sl w w.heap.size V (bc l)) (hl : l.length + room ≤ 2147483648) :
    Calls Tryz.prog 141 #[V, .int .i64 room] w (BehindPost l w) := by
  obtain ⟨i0, hi, hz0, hz1, hz2⟩ := info_parts Tryz.byteInfo
  have hl1 : l.length ≤ 2147483648 := by omega
  have hl2 : room ≤ 2147483648 := by omega
  rcases h with ⟨rfl, hb⟩ | ⟨ad, c, rfl, hc⟩
  · have : l = [] := by
      cases l with
      | nil => rfl
      | cons => simp [bc] at hb
    subst this
    clear hb
    go_enter Tryz.func141, Tryz.ntmps141
    go_wp2_with (first
      | (at_make; refine wpList_make_own _ rfl _ _ 49 rfl w.heap.size 5 i0 (.int .u8 0) 1 Tryz.underlying49 hi hz0 hz1 _ _ _ room rfl rfl (by omega) (by rw [hz2]; omega) (by unfold maxLen; omega) (Nat.le_refl _) ?_; intro w1 hown1 hg1)
      | (at_builtin; refine wpList_append_own_none rfl (.tmp 9) (.tmp 10) 49 rfl w.heap.size 5 i0 1 Tryz.underlying49 hi _ 0 [] rfl hown1 rfl ?_))
    go_ret
    exact ⟨_, rfl, hown1, (Below.refl _ w).grown hg1 (Nat.le_refl _) (fun k hk => by cases hk)⟩
  · rw [bc_length]
    have HC := Lib.hid hc
    clear hc
    go_enter Tryz.func141, Tryz.ntmps141
    go_wp2_with (first
      | (at_make; refine wpList_make_own _ rfl _ _ 49 rfl w.heap.size 5 i0 (.int .u8 0) 1 Tryz.underlying49 hi hz0 hz1 _ _ _ (l.length + room) rfl rfl (by omega) (by rw [hz2]; omega) (by unfold maxLen; omega) (Nat.le_refl _) ?_; intro w1 hown1 hg1; have HG1 := Lib.hid ((Below.refl w.heap.size w).grown hg1 (Nat.le_refl _) (fun k hk => by cases hk)); clear hg1)
      | (at_builtin; refine wpList_append_own _ rfl (.tmp 9) (.tmp 10) 49 rfl w.heap.size 5 i0 (.int .u8 0) 1 1 Tryz.underlying49 hi hz0 hz1 hz2 rfl (by decide) _ 0 [] rfl hown1 ad l.length c (bc l) rfl (by rw [bc_length, Nat.mul_one]) (fun j u hu => (HG1.out.cell (by rw [add_block]; exact (HC.out j u hu).1)).trans (HC.out j u hu).2) (bc_one l) (by unfold maxLen; omega) (by omega) HG1.out.size ?_; intro v2 w2 hown2 hg2 hnil2))
    go_ret
    refine ⟨_, rfl, ?_, HG1.out.trans (Own.below (l := []) hown1 hg2 HG1.out.size)⟩
    unfold Own
    simpa using hown2

/-- Numbers as cells; numbers, laid. -/
def nc (vs : List Nat) : List Value := vs.map fun x : Nat => Value.int .u64 (x : Int)
def encNums (vs : List Nat) : List UInt8 := (vs.map encNum).flatten
theorem nc_length (vs : List Nat) : (nc vs).length = vs.length := by simp [nc]
theorem encNums_snoc (vs : List Nat) (k : Nat) (h : k < vs.length) : encNums (vs.take (k + 1)) = encNums (vs.take k) ++ encNum vs[k] := by
  unfold encNums
  rw [List.take_succ_eq_append_getElem h, List.map_append, List.flatten_append]
  simp only [List.map_cons, List.map_nil, List.flatten_cons, List.flatten_nil, List.append_nil]
theorem encNums_length (vs : List Nat) (h : ∀ x ∈ vs, x < 18446744073709551616) : (encNums vs).length ≤ 9 * vs.length := by
  induction vs with
  | nil => simp [encNums]
  | cons x vs ih =>
    have h1 := ih (fun y hy => h y (List.mem_cons_of_mem _ hy))
    have h2 := many_le x (h x (List.mem_cons_self ..))
    have e : encNums (x :: vs) = encNum x ++ encNums vs := by simp [encNums]
    rw [e, List.length_append, encNum_length, List.length_cons]
    omega

def PutPost (l : List UInt8) (w : World) (r : Ending) (w' : World) : Prop := ∃ v', r = .returned v' ∧ Own w' w.heap.size v' l ∧ Below w.heap.size w w'

theorem putNumber_any (V U : Value) (l : List UInt8) (vs : List Nat) (w : World) (hV : Sl w w.heap.size V (bc l)) (hU : Sl w w.heap.size U (nc vs)) (hv : ∀ x ∈ vs, x < 18446744073709551616) (hl : l.length + 9 * vs.length ≤ 1073741824) :
    Calls Tryz.prog 120 #[V, U] w (PutPost (l ++ encNums vs) w) := by
  obtain ⟨A, c, rfl, hA⟩ := hU.form
  rw [nc_length]
  have HA := Lib.hid hA
  have HV := Lib.hid hV
  have Hv := Lib.hid hv
  clear hA hU hV hv
  have hvl : vs.length ≤ 1073741824 := by omega
  go_enter Tryz.func120, Tryz.ntmps120
  go_wp2_with fail
  rw [show (9 * (vs.length : Int)) = ((9 * vs.length : Nat) : Int) from by omega]
  refine (behind_any V l (9 * vs.length) w HV.out (by omega)).mono ?_
  rintro r w1 ⟨v1, rfl, hown1, hbel1⟩
  have HO1 := Lib.hid hown1
  have HB1 := Lib.hid hbel1
  clear hown1 hbel1
  go_wp2_with fail
  go_loopw [5, 15] (fun o i wr => ∃ k : Nat, k ≤ vs.length ∧ i = .int .i64 (k : Int) ∧ Own wr w.heap.size o (l ++ encNums (vs.take k)) ∧ Below w.heap.size w wr) (fun _ i _ => vs.length - (intOf i).toNat)
  case atStart => exact ⟨0, Nat.zero_le _, rfl, by simpa [encNums] using HO1.out, HB1.out⟩
  case round =>
    obtain ⟨k, hk, rfl, hown, hbel⟩ := hrel
    by_cases hlt : k < vs.length
    · have hx : (nc vs)[k]? = some (.int .u64 (vs[k] : Int)) := by simp [nc, hlt]
      obtain ⟨b, off, rfl, hbB, hcell⟩ := HA.out k _ hx
      have hcr : wr.cell? ⟨b, off + k, none⟩ = some (.int .u64 (vs[k] : Int)) := (hbel.cell (p := ⟨b, off + k, none⟩) hbB).trans hcell
      have hxlt : vs[k] < 18446744073709551616 := Hv.out _ (List.getElem_mem hlt)
      have hlen : (l ++ encNums (vs.take k)).length ≤ 2147483648 := by
        have h1 := encNums_length (vs.take k) (fun x hx => Hv.out x (List.mem_of_mem_take hx))
        have h2 := List.length_take_le k vs
        rw [List.length_append]
        omega
      have hsn := encNums_snoc vs k hlt
      have HSN := Lib.hid hsn
      have hsz := hbel.size
      have HC := Lib.hid (addNumber_any w.heap.size u5 (l ++ encNums (vs.take k)) vs[k] wr hown hsz hxlt hlen)
      have HBL := Lib.hid hbel
      clear hsn hcell hx hown hbel hxlt hlen HO1 HB1
      generalize vs[k] = xk at *
      go_wp2_with fail
      refine HC.out.mono ?_
      rintro r w2 ⟨v2, rfl, hown2, hbel2⟩
      have HO2 := Lib.hid hown2
      have HB2 := Lib.hid (HBL.out.trans hbel2)
      clear hown2 hbel2
      go_wp2
      go_roundw
      case rel =>
        refine ⟨k + 1, by omega, by go_num, ?_, HB2.out⟩
        rw [HSN.out, ← List.append_assoc]
        exact HO2.out
      case measure => simp [intOf]; omega
    · obtain rfl : k = vs.length := by omega
      rw [List.take_length] at hown
      go_wp2
      go_ret
      exact ⟨_, rfl, hown, hbel⟩

/-- Texts as cells; texts, laid. -/
def tc (ts : List ByteArray) : List Value := ts.map fun t => Value.string t
def encTexts (ts : List ByteArray) : List UInt8 := (ts.map fun t => encText t.data.toList).flatten
def sizes (ts : List ByteArray) : Nat := (ts.map ByteArray.size).sum
theorem tc_length (ts : List ByteArray) : (tc ts).length = ts.length := by simp [tc]
theorem encTexts_snoc (ts : List ByteArray) (k : Nat) (h : k < ts.length) : encTexts (ts.take (k + 1)) = encTexts (ts.take k) ++ encText ts[k].data.toList := by
  unfold encTexts
  rw [List.take_succ_eq_append_getElem h, List.map_append, List.flatten_append]
  simp only [List.map_cons, List.map_nil, List.flatten_cons, List.flatten_nil, List.append_nil]
theorem sizes_snoc (ts : List ByteArray) (k : Nat) (h : k < ts.length) : sizes (ts.take (k + 1)) = sizes (ts.take k) + ts[k].size := by
  unfold sizes
  rw [List.take_succ_eq_append_getElem h, List.map_append, List.sum_append]
  simp
theorem sizes_take (ts : List ByteArray) (k : Nat) : sizes (ts.take k) ≤ sizes ts := by
  have h : sizes ts = sizes (ts.take k) + sizes (ts.drop k) := by
    unfold sizes
    rw [← List.sum_append, ← List.map_append, List.take_append_drop]
  omega
theorem size_le_sizes {ts : List ByteArray} {t : ByteArray} (h : t ∈ ts) : t.size ≤ sizes ts := by
  induction ts with
  | nil => cases h
  | cons x ts ih =>
    have e : sizes (x :: ts) = x.size + sizes ts := by simp [sizes]
    rcases List.mem_cons.1 h with rfl | h
    · omega
    · have := ih h
      omega
theorem size_data (t : ByteArray) : t.data.toList.length = t.size := by rw [Array.length_toList]; rfl
theorem encTexts_length (ts : List ByteArray) (h : sizes ts ≤ 1073741824) : (encTexts ts).length ≤ 9 * ts.length + sizes ts := by
  induction ts with
  | nil => simp [encTexts]
  | cons x ts ih =>
    have e : sizes (x :: ts) = x.size + sizes ts := by simp [sizes]
    have h1 := ih (by omega)
    have h2 := many_le x.size (by omega)
    have e2 : encTexts (x :: ts) = encText x.data.toList ++ encTexts ts := by simp [encTexts]
    rw [e2, List.length_append, encText, List.length_append, encNum_length, size_data, List.length_cons, e]
    omega

end Go.Proofs.YtnhondkdkjehaaaGreat.Lay
namespace Go.Proofs.YtnhondkdkjehaaaGreat
open Go.RowKit

/-- A head. -/
structure Hd where
  gen : Nat
  epoch : Nat
  pos : Int
  seq : Nat
  log : Int
  hg : gen < 18446744073709551616
  he : epoch < 18446744073709551616
  hs : seq < 18446744073709551616
  hp : -9223372036854775808 ≤ pos ∧ pos ≤ 9223372036854775807
  hl : -9223372036854775808 ≤ log ∧ log ≤ 9223372036854775807
theorem Hd.ext' {h k : Hd} (h1 : h.gen = k.gen) (h2 : h.epoch = k.epoch) (h3 : h.pos = k.pos) (h4 : h.seq = k.seq) (h5 : h.log = k.log) : h = k := by
  obtain ⟨a, b, c, d, e, _, _, _, _, _⟩ := h
  obtain ⟨a', b', c', d', e', _, _, _, _, _⟩ := k
  subst h1 h2 h3 h4 h5
  rfl
instance : DecidableEq Hd := fun h k =>
  if e : h.gen = k.gen ∧ h.epoch = k.epoch ∧ h.pos = k.pos ∧ h.seq = k.seq ∧ h.log = k.log then isTrue (Hd.ext' e.1 e.2.1 e.2.2.1 e.2.2.2.1 e.2.2.2.2) else isFalse (fun q => e (by subst q; exact ⟨rfl, rfl, rfl, rfl, rfl⟩))
/-- Its cells. -/
def hv (h : Hd) : Array Value := #[.int .u64 (h.gen : Int), .int .u64 (h.epoch : Int), .int .i64 h.pos, .int .u64 (h.seq : Int), .int .i64 h.log]
def hvl (h : Hd) : List Value := [.int .u64 (h.gen : Int), .int .u64 (h.epoch : Int), .int .i64 h.pos, .int .u64 (h.seq : Int), .int .i64 h.log]
theorem hv_size (h : Hd) : (hv h).size = 5 := rfl
theorem hv_one (h : Hd) : (hv h).all (·.oneCell') = true := by simp [hv, Value.oneCell']
theorem hd_range {w : World} {g : Nat} {t : TypeId} {h : Hd} (hb : Box w g t (hv h)) : w.rangeAt g 0 (hvl h) := fun j v hj => by
  rw [Box.cell hb, Nat.zero_add]
  simpa [hv, hvl] using hj
/-- The head of nobody. -/
def Hd.zero : Hd := ⟨0, 0, 0, 0, 0, by omega, by omega, by omega, by omega, by omega⟩
/-- A number that is counted from 1 on. -/
def cnt (n : Nat) : Bool := decide (1 ≤ n) && decide (n ≤ 4611686018427387904)
theorem cnt_iff {n : Nat} : cnt n = true ↔ 1 ≤ n ∧ n ≤ 4611686018427387904 := by simp [cnt]
/-- Whether it may be, on a device of so many blocks. -/
def Hd.rightB (h : Hd) (blocks : Int) : Bool := cnt h.gen && cnt h.epoch && cnt h.seq && decide (3 ≤ h.log ∧ h.log ≤ max blocks 3 - 3 ∧ 0 ≤ h.pos ∧ h.pos < h.log)
theorem Hd.right_iff {h : Hd} {blocks : Int} : h.rightB blocks = true ↔ (1 ≤ h.gen ∧ h.gen ≤ 4611686018427387904) ∧ (1 ≤ h.epoch ∧ h.epoch ≤ 4611686018427387904) ∧ (1 ≤ h.seq ∧ h.seq ≤ 4611686018427387904) ∧ 3 ≤ h.log ∧ h.log ≤ max blocks 3 - 3 ∧ 0 ≤ h.pos ∧ h.pos < h.log := by
  simp only [Hd.rightB, Bool.and_eq_true, cnt_iff, decide_eq_true_eq, and_assoc]
/-- Its mark. -/
def mk9 (g : Nat) (h : g < 18446744073709551616) : Mk := ⟨9, g, g, h, h⟩
theorem mk9_may (g : Nat) (h) : (mk9 g h).may = true := rfl
/-- Its bytes. -/
def Hd.bytes (h : Hd) : List UInt8 := Lay.encNum h.epoch ++ (Lay.encNum h.pos.toNat ++ (Lay.encNum h.seq ++ Lay.encNum h.log.toNat))
theorem encNum_le9 (x : Nat) (h : x < 18446744073709551616) : (Lay.encNum x).length ≤ 9 := by
  have := Lay.many_le x h
  rw [Lay.encNum_length]
  omega
theorem Hd.bytes_length (h : Hd) : h.bytes.length ≤ 36 := by
  have h1 := encNum_le9 h.epoch h.he
  have h2 := encNum_le9 h.pos.toNat (by have := h.hp; omega)
  have h3 := encNum_le9 h.seq h.hs
  have h4 := encNum_le9 h.log.toNat (by have := h.hl; omega)
  simp only [Hd.bytes, List.length_append]
  omega
/-- Its block. -/
def Hd.block (h : Hd) : List UInt8 := sealed (mk9 h.gen h.hg) h.bytes
theorem Hd.block_length (h : Hd) : h.block.length = 256 := sealed_length _ _ (by have := h.bytes_length; omega)
/-- What is read of bytes as a head's numbers. -/
def rq0 (b : List UInt8) : Lay.St := (b, 0)
def rq1 (b : List UInt8) : Lay.St := Lay.stNum (rq0 b)
def rq2 (b : List UInt8) : Lay.St := Lay.stSmall 9223372036854775807 (rq1 b)
def rq3 (b : List UInt8) : Lay.St := Lay.stNum (rq2 b)
def rq4 (b : List UInt8) : Lay.St := Lay.stSmall 9223372036854775807 (rq3 b)
theorem small_le (q : Lay.St) (m : Int) (hm : 0 ≤ m) : ((Lay.stSmallV m q : Nat) : Int) ≤ m := by
  unfold Lay.stSmallV Lay.tooBig
  split
  · split
    · exact hm
    · rename_i h
      simp at h
      omega
  · exact hm
def headFrom (g : Nat) (hg : g < 18446744073709551616) (b : List UInt8) : Hd :=
  ⟨g, Lay.stNumV (rq0 b), ((Lay.stSmallV 9223372036854775807 (rq1 b) : Nat) : Int), Lay.stNumV (rq2 b), ((Lay.stSmallV 9223372036854775807 (rq3 b) : Nat) : Int), hg, Lay.stNumV_lt _, Lay.stNumV_lt _,
    ⟨by omega, small_le _ _ (by omega)⟩, ⟨by omega, small_le _ _ (by omega)⟩⟩
/-- The head of a block, or none. -/
def headOf (l : List UInt8) (blocks : Int) : Option Hd :=
  match opens l with
  | some (m, b) => if (m.kind = 9 ∧ m.epoch = m.seq) ∧ Lay.stEnd (rq4 b) = 0 ∧ (headFrom m.epoch m.he b).rightB blocks = true then some (headFrom m.epoch m.he b) else none
  | none => none
theorem st_enc (x : Nat) (t : List UInt8) (hx : x < 18446744073709551616) : Lay.stNum (Lay.encNum x ++ t, 0) = (t, 0) ∧ Lay.stNumV (Lay.encNum x ++ t, 0) = x := by
  obtain ⟨h1, _, h3, h4⟩ := Lay.numErr_enc x hx t
  refine ⟨?_, ?_⟩
  · simp only [Lay.stNum, if_true, h1, h4]
  · simp only [Lay.stNumV, if_true, h3]
theorem sm_enc (x : Nat) (t : List UInt8) (m : Int) (h0 : (x : Int) ≤ m) (hm : m ≤ 9223372036854775807) : Lay.stSmall m (Lay.encNum x ++ t, 0) = (t, 0) ∧ Lay.stSmallV m (Lay.encNum x ++ t, 0) = x := by
  obtain ⟨h1, h2⟩ := st_enc x t (by omega)
  have ht : Lay.tooBig m x = false := by simp [Lay.tooBig]; omega
  refine ⟨?_, ?_⟩
  · simp only [Lay.stSmall, h1, h2, ht, if_true]; rfl
  · simp only [Lay.stSmallV, h1, h2, ht, if_true]; rfl
theorem read_bytes (h : Hd) (hp : 0 ≤ h.pos) (hl : 0 ≤ h.log) (g : Nat) (hg : g < 18446744073709551616) (e : g = h.gen) : headFrom g hg h.bytes = h ∧ Lay.stEnd (rq4 h.bytes) = 0 := by
  obtain ⟨a1, a2⟩ := st_enc h.epoch (Lay.encNum h.pos.toNat ++ (Lay.encNum h.seq ++ Lay.encNum h.log.toNat)) h.he
  obtain ⟨b1, b2⟩ := sm_enc h.pos.toNat (Lay.encNum h.seq ++ Lay.encNum h.log.toNat) 9223372036854775807 (by have := h.hp; omega) (by omega)
  obtain ⟨c1, c2⟩ := st_enc h.seq (Lay.encNum h.log.toNat) h.hs
  obtain ⟨d1, d2⟩ := sm_enc h.log.toNat [] 9223372036854775807 (by have := h.hl; omega) (by omega)
  rw [List.append_nil] at d1 d2
  have q1 : rq1 h.bytes = (Lay.encNum h.pos.toNat ++ (Lay.encNum h.seq ++ Lay.encNum h.log.toNat), 0) := a1
  have q2 : rq2 h.bytes = (Lay.encNum h.seq ++ Lay.encNum h.log.toNat, 0) := by rw [rq2, q1]; exact b1
  have q3 : rq3 h.bytes = (Lay.encNum h.log.toNat, 0) := by rw [rq3, q2]; exact c1
  have q4 : rq4 h.bytes = ([], 0) := by rw [rq4, q3]; exact d1
  refine ⟨Hd.ext' e a2 ?_ ?_ ?_, by rw [q4]; rfl⟩
  · show ((Lay.stSmallV 9223372036854775807 (rq1 h.bytes) : Nat) : Int) = h.pos
    rw [q1, b2]
    omega
  · show Lay.stNumV (rq2 h.bytes) = h.seq
    rw [q2, c2]
  · show ((Lay.stSmallV 9223372036854775807 (rq3 h.bytes) : Nat) : Int) = h.log
    rw [q3, d2]
    omega
theorem headOf_block (h : Hd) (n : Int) (hr : h.rightB n = true) : headOf h.block n = some h := by
  have hq := Hd.right_iff.1 hr
  obtain ⟨e1, e2⟩ := read_bytes h (by omega) (by omega) h.gen h.hg rfl
  rw [headOf, Hd.block, opens_sealed _ _ (by have := h.bytes_length; omega) (mk9_may _ _)]
  simp only
  rw [if_pos ⟨⟨rfl, rfl⟩, e2, by rw [show headFrom (mk9 h.gen h.hg).epoch (mk9 h.gen h.hg).he h.bytes = h from e1]; exact hr⟩]
  exact congrArg some e1
theorem headOf_none {l : List UInt8} {n : Int} (h : opens l = none) : headOf l n = none := by rw [headOf, h]
theorem opens_zero : opens (List.replicate 256 0) = none := by
  rw [opens, if_neg]
  rintro ⟨h, _⟩
  rw [twin, Bool.and_eq_true] at h
  have : (markAt (List.replicate 256 0)).may = false := rfl
  rw [this] at h
  exact Bool.noConfusion h.2
end Go.Proofs.YtnhondkdkjehaaaGreat
