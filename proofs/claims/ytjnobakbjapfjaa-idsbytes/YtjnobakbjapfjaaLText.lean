/-
  lay's reader, over its states: Small, Raw, Text.
-/
import Derived.Test.YtjnobakbjapfjaaLSmall
namespace Go.Proofs.Ytjnobakbjapfjaa.Lay
open Go.RowKit

theorem u64_of_nonneg (m : Int) (h0 : 0 ≤ m) (h1 : m ≤ 9223372036854775807) : IntKind.u64.wrap m = m := by
  rw [IntKind.wrap_u64]
  omega
theorem i64_of_small (v : Nat) (m : Int) (h : (v : Int) ≤ m) (h1 : m ≤ 9223372036854775807) : IntKind.i64.wrap (v : Int) = (v : Int) := IntWalk.i64_in _ (by omega)

theorem small_rds {w : World} {b : Nat} {q : St} (h : Rds w b q) (hl : q.1.length ≤ maxLen) (most : Int) (hm1 : most ≤ 9223372036854775807) :
    Calls Try.prog 30 #[.pointer (some ⟨b, 0, none⟩), .int .i64 most] w fun r w' => r = .returned (.int .i64 (stSmallV most q)) ∧ Rds w' b (stSmall most q) ∧ w.grownBy w' (some b) := by
  have hN := Lib.hid (number_rds h hl)
  have hv := stNumV_lt q
  clear h hl
  unfold stSmall stSmallV
  generalize stNum q = q1 at *
  generalize stNumV q = v at *
  by_cases he : q1.2 = 0
  · rw [if_pos he, if_pos he]
    by_cases hb : tooBig most v = true
    · rw [if_pos hb, if_pos hb]
      obtain ⟨l1, e1⟩ := q1
      obtain rfl : e1 = 0 := he
      by_cases h0 : most < 0
      · have hd : decide (most < 0) = true := by simpa using h0
        clear hb hv
        go_enter Try.func30, Try.ntmps30
        go_wp2_with fail
        refine hN.out.mono ?_
        rintro r w1 ⟨rfl, hr, hg⟩
        go_wp2_with fail
        refine (bad_rds hr).mono ?_
        rintro r w' ⟨rfl, rfl⟩
        go_wp2_with fail
        refine (fail_any b 3 w1 hr.c1 hr.c2 hr.f1 hr.f2).mono ?_
        rintro r w' ⟨rfl, rfl⟩
        go_wp2_with fail
        go_ret
        exact ⟨rfl, hr.fail 3, grown_set (grown_set hg 2 _) 1 _⟩
      · have h1 : decide (most < 0) = false := by simpa using h0
        have h2 : most < (v : Int) := by
          unfold tooBig at hb
          rw [h1] at hb
          simpa using hb
        have hw := u64_of_nonneg most (by omega) hm1
        have hd : decide (most < (v : Int)) = true := by simpa using h2
        clear hb hv
        go_enter Try.func30, Try.ntmps30
        go_wp2_with fail
        refine hN.out.mono ?_
        rintro r w1 ⟨rfl, hr, hg⟩
        go_wp2_with fail
        refine (bad_rds hr).mono ?_
        rintro r w' ⟨rfl, rfl⟩
        go_wp2_with fail
        refine (fail_any b 3 w1 hr.c1 hr.c2 hr.f1 hr.f2).mono ?_
        rintro r w' ⟨rfl, rfl⟩
        go_wp2_with fail
        go_ret
        exact ⟨rfl, hr.fail 3, grown_set (grown_set hg 2 _) 1 _⟩
    · rw [if_neg hb, if_neg hb]
      obtain ⟨l1, e1⟩ := q1
      obtain rfl : e1 = 0 := he
      have h1 : decide (most < 0) = false := by
        unfold tooBig at hb
        cases hq : decide (most < 0)
        · rfl
        · rw [hq] at hb; simp at hb
      have h2 : decide (most < (v : Int)) = false := by
        unfold tooBig at hb
        rw [h1] at hb
        simpa using hb
      have g1 : 0 ≤ most := by simpa using h1
      have g2 : (v : Int) ≤ most := by simpa using h2
      have hw := u64_of_nonneg most g1 hm1
      have hw2 := i64_of_small v most g2 hm1
      clear hb hv
      go_enter Try.func30, Try.ntmps30
      go_wp2_with fail
      refine hN.out.mono ?_
      rintro r w1 ⟨rfl, hr, hg⟩
      go_wp2_with fail
      refine (bad_rds hr).mono ?_
      rintro r w' ⟨rfl, rfl⟩
      go_wp2_with fail
      go_ret
      exact ⟨rfl, hr, hg⟩
  · rw [if_neg he, if_neg he]
    have hd : (q1.2 != 0) = true := by simpa using he
    go_enter Try.func30, Try.ntmps30
    go_wp2_with fail
    refine hN.out.mono ?_
    rintro r w1 ⟨rfl, hr, hg⟩
    go_wp2_with fail
    refine (bad_rds hr).mono ?_
    rintro r w' ⟨rfl, rfl⟩
    go_wp2_with fail
    go_ret
    exact ⟨rfl, hr, hg⟩

theorem clone_any (s : ByteArray) (w : World) (hs : s.size ≤ 281474976710656) :
    Calls Try.prog 55 #[.string s] w fun r w' => r = .returned (.string s) ∧ Below w.heap.size w w' := by
  go_enter Try.func55, Try.ntmps55
  go_wp2_with fail
  refine (Try.stringslite_Clone s w hs).mono ?_
  rintro r w' ⟨rfl, hb⟩
  go_wp2_with fail
  go_ret
  exact ⟨rfl, hb⟩

/-- What is read may be as long as any string that a slice of bytes was made to. -/
theorem raw_rds {w : World} {b : Nat} {q : St} (h : Rds w b q) (hl : q.1.length ≤ 281474976710656) (n : Int) :
    Calls Try.prog 32 #[.pointer (some ⟨b, 0, none⟩), .int .i64 n] w fun r w' => r = .returned (.string ⟨(stRawV n q).toArray⟩) ∧ Rds w' b (stRaw n q) ∧ w.grownBy w' (some b) := by
  have hB := Lib.hid (bad_rds h)
  unfold stRaw stRawV
  by_cases he : q.2 = 0
  · rw [if_pos he, if_pos he]
    obtain ⟨l, e⟩ := q
    obtain rfl : e = 0 := he
    by_cases hn : n < 0
    · rw [if_pos hn, if_pos hn]
      go_enter Try.func32, Try.ntmps32
      go_wp2_with fail
      refine hB.out.mono ?_
      rintro r w' ⟨rfl, rfl⟩
      go_wp2_with fail
      refine (fail_any b 2 w h.c1 h.c2 h.f1 h.f2).mono ?_
      rintro r w' ⟨rfl, rfl⟩
      go_wp2_with fail
      go_ret
      exact ⟨rfl, h.fail 2, grown_fail w b 2⟩
    · rw [if_neg hn, if_neg hn]
      have hz : (⟨l.toArray⟩ : ByteArray).size = l.length := by simp [ByteArray.size]
      have h1 := h.c1
      have hl' : l.length ≤ 281474976710656 := hl
      have hdat : (⟨l.toArray⟩ : ByteArray).data.toList = l := rfl
      by_cases hb : (l.length : Int) < n
      · rw [if_pos hb, if_pos hb]
        have hfin := h.fail 10
        have h2 := h.c2
        have f1 := h.f1
        have f2 := h.f2
        have HF := Lib.hid hfin
        clear h hfin hl
        dsimp only at h1 hb
        generalize hs : (⟨l.toArray⟩ : ByteArray) = s at *
        have hb' : (s.size : Int) < n := by rw [hz]; exact hb
        clear hs hz hdat hb
        go_enter Try.func32, Try.ntmps32
        go_wp2_with fail
        refine hB.out.mono ?_
        rintro r w' ⟨rfl, rfl⟩
        go_wp2_with fail
        refine (fail_any b 10 w h1 h2 f1 f2).mono ?_
        rintro r w' ⟨rfl, rfl⟩
        go_wp2_with fail
        go_ret
        exact ⟨rfl, HF.out, grown_fail w b 10⟩
      · rw [if_neg hb, if_neg hb]
        obtain ⟨k, rfl⟩ := Int.eq_ofNat_of_zero_le (show 0 ≤ n by omega)
        rw [Int.toNat_natCast]
        have HH := Lib.hid h
        have f1 := h.f1
        clear h hl
        dsimp only at h1
        have hk : k ≤ l.length := by
          have : ¬ (l.length : Int) < k := hb
          omega
        clear hb hn
        have e1 : (⟨l.toArray⟩ : ByteArray).extract 0 k = ⟨(l.take k).toArray⟩ := by rw [← string_eq (ByteArray.extract _ _ _), Lib.extract_data]; simp
        have e2 : (⟨l.toArray⟩ : ByteArray).extract k (⟨l.toArray⟩ : ByteArray).size = ⟨(l.drop k).toArray⟩ := by rw [← string_eq (ByteArray.extract _ _ _), Lib.extract_to_end]
        have E1 := Lib.hid e1
        have E2 := Lib.hid e2
        clear e1 e2 hdat
        generalize hs : (⟨l.toArray⟩ : ByteArray) = s at *
        have hks : k ≤ s.size := by rw [hz]; exact hk
        have hsz : s.size ≤ 281474976710656 := by rw [hz]; exact hl'
        have hx : (s.extract 0 k).size ≤ 281474976710656 := by
          rw [ByteArray.size_extract]
          omega
        have HS := Lib.hid hs
        clear hs hz hk hl'
        go_enter Try.func32, Try.ntmps32
        go_wp2_with fail
        refine hB.out.mono ?_
        rintro r w' ⟨rfl, rfl⟩
        go_wp2_with fail
        refine (clone_any _ w hx).mono ?_
        rintro r w1 ⟨rfl, hbel⟩
        have hlt := Box.lt HH.out
        have hr0 : Rds w1 b (l, 0) := Box.below HH.out hbel hlt
        have hr1 := Lib.hid hr0
        clear hr0
        have k1 : w1.cell? ⟨b, 1, none⟩ = some (.string s) := by rw [← HS.out]; exact Rds.c1 hr1.out
        have k2 := Rds.f1 hr1.out
        have hbel' := Lib.hid hbel
        clear hbel h1 f1
        go_wp2_with fail
        go_ret
        rw [E1.out, E2.out]
        exact ⟨rfl, Rds.cut hr1.out _, grown_set (grown_below (grown_refl w _) hbel'.out) 1 _⟩
  · rw [if_neg he, if_neg he]
    have hd : (q.2 != 0) = true := by simpa using he
    go_enter Try.func32, Try.ntmps32
    go_wp2_with fail
    refine hB.out.mono ?_
    rintro r w' ⟨rfl, rfl⟩
    go_wp2_with fail
    go_ret
    exact ⟨rfl, h, grown_refl w _⟩

def stText (most : Int) (q : St) : St := stRaw (stSmallV most q) (stSmall most q)
def stTextV (most : Int) (q : St) : List UInt8 := stRawV (stSmallV most q) (stSmall most q)

theorem stSmall_len (most : Int) (q : St) : (stSmall most q).1.length ≤ q.1.length := by
  unfold stSmall
  have := stNum_len q
  split
  · split
    · simp
    · exact this
  · exact this

end Go.Proofs.Ytjnobakbjapfjaa.Lay
