/-
  lay's reader, over its states: Small, Raw, Text.
-/
import Derived.Test.YthpfdenpgegheaaLSmall

namespace Go.Proofs.Ythpfdenpgegheaa.Lay
open Go.RowKit

theorem u64_of_nonneg (m : Int) (h0 : 0 ≤ m) (h1 : m ≤ 9223372036854775807) : IntKind.u64.wrap m = m := by
  rw [IntKind.wrap_u64]
  omega
theorem i64_of_small (v : Nat) (m : Int) (h : (v : Int) ≤ m) (h1 : m ≤ 9223372036854775807) : IntKind.i64.wrap (v : Int) = (v : Int) := IntWalk.i64_in _ (by omega)

theorem small_rds {w : World} {b : Nat} {q : St} (h : Rds w b q) (hl : q.1.length ≤ maxLen) (most : Int) (hm1 : most ≤ 9223372036854775807) :
    Calls Try.prog 58 #[.pointer (some ⟨b, 0, none⟩), .int .i64 most] w fun r w' => r = .returned (.int .i64 (stSmallV most q)) ∧ Rds w' b (stSmall most q) ∧ w.grownBy w' (some b) := by
  have hN := Lib.hid (number_rds h hl)
  have hv := stNumV_lt q
  clear h hl
  unfold stSmall stSmallV
  generalize stNum q = q1 at *
  generalize stNumV q = v at *
  by_cases he : q1.2 = 0
  · rw [if_pos he, if_pos he]
    by_cases hb : tooBig most v = true
    · rw [if_pos hb, if_pos hb]
      obtain ⟨l1, e1⟩ := q1
      obtain rfl : e1 = 0 := he
      by_cases h0 : most < 0
      · have hd : decide (most < 0) = true := by simpa using h0
        clear hb hv
        go_enter Try.func58, Try.ntmps58
        go_wp2_with fail
        refine hN.out.mono ?_
        rintro r w1 ⟨rfl, hr, hg⟩
        go_wp2_with fail
        refine (bad_rds hr).mono ?_
        rintro r w' ⟨rfl, rfl⟩
        go_wp2_with fail
        refine (fail_any b 3 w1 hr.c1 hr.c2 hr.f1 hr.f2).mono ?_
        rintro r w' ⟨rfl, rfl⟩
        go_wp2_with fail
        go_ret
        exact ⟨rfl, hr.fail 3, grown_set (grown_set hg 2 _) 1 _⟩
      · have h1 : decide (most < 0) = false := by simpa using h0
        have h2 : most < (v : Int) := by
          unfold tooBig at hb
          rw [h1] at hb
          simpa using hb
        have hw := u64_of_nonneg most (by omega) hm1
        have hd : decide (most < (v : Int)) = true := by simpa using h2
        clear hb hv
        go_enter Try.func58, Try.ntmps58
        go_wp2_with fail
        refine hN.out.mono ?_
        rintro r w1 ⟨rfl, hr, hg⟩
        go_wp2_with fail
        refine (bad_rds hr).mono ?_
        rintro r w' ⟨rfl, rfl⟩
        go_wp2_with fail
        refine (fail_any b 3 w1 hr.c1 hr.c2 hr.f1 hr.f2).mono ?_
        rintro r w' ⟨rfl, rfl⟩
        go_wp2_with fail
        go_ret
        exact ⟨rfl, hr.fail 3, grown_set (grown_set hg 2 _) 1 _⟩
    · rw [if_neg hb, if_neg hb]
      obtain ⟨l1, e1⟩ := q1
      obtain rfl : e1 = 0 := he
      have h1 : decide (most < 0) = false := by
        unfold tooBig at hb
        cases hq : decide (most < 0)
        · rfl
        · rw [hq] at hb; simp at hb
      have h2 : decide (most < (v : Int)) = false := by
        unfold tooBig at hb
        rw [h1] at hb
        simpa using hb
      have g1 : 0 ≤ most := by simpa using h1
      have g2 : (v : Int) ≤ most := by simpa using h2
      have hw := u64_of_nonneg most g1 hm1
      have hw2 := i64_of_small v most g2 hm1
      clear hb hv
      go_enter Try.func58, Try.ntmps58
      go_wp2_with fail
      refine hN.out.mono ?_
      rintro r w1 ⟨rfl, hr, hg⟩
      go_wp2_with fail
      refine (bad_rds hr).mono ?_
      rintro r w' ⟨rfl, rfl⟩
      go_wp2_with fail
      go_ret
      exact ⟨rfl, hr, hg⟩
  · rw [if_neg he, if_neg he]
    have hd : (q1.2 != 0) = true := by simpa using he
    go_enter Try.func58, Try.ntmps58
    go_wp2_with fail
    refine hN.out.mono ?_
    rintro r w1 ⟨rfl, hr, hg⟩
    go_wp2_with fail
    refine (bad_rds hr).mono ?_
    rintro r w' ⟨rfl, rfl⟩
    go_wp2_with fail
    go_ret
    exact ⟨rfl, hr, hg⟩

def stText (most : Int) (q : St) : St := stRaw (stSmallV most q) (stSmall most q)
def stTextV (most : Int) (q : St) : List UInt8 := stRawV (stSmallV most q) (stSmall most q)

theorem stSmall_len (most : Int) (q : St) : (stSmall most q).1.length ≤ q.1.length := by
  unfold stSmall
  have := stNum_len q
  split
  · split
    · simp
    · exact this
  · exact this

end Go.Proofs.Ythpfdenpgegheaa.Lay

