/-
  The reference's reader: Raw, Text, End.
-/
import Derived.Test.YtjnobakbjapfjaaLRefText
namespace Go.Proofs.Ytjnobakbjapfjaa.Lay
open Go.RowKit

def RefStr (q : St) (t : List UInt8) (w : World) (r : Ending) (w' : World) : Prop := r = .returned (.tuple #[.agg #[.string ⟨q.1.toArray⟩, .int .i64 q.2], .string ⟨t.toArray⟩]) ∧ Below w.heap.size w w'

theorem refRaw_any (q : St) (w : World) (hl : q.1.length ≤ 4000) (n : Int) :
    Calls Try.prog 35 #[refV q, .int .i64 n] w (RefStr (stRaw n q) (stRawV n q) w) := by
  unfold refV RefStr stRaw stRawV
  obtain ⟨l, e⟩ := q
  dsimp only at hl ⊢
  by_cases he : e = 0
  · subst he
    rw [if_pos rfl, if_pos rfl]
    by_cases hn : n < 0
    · rw [if_pos hn, if_pos hn]
      generalize (⟨l.toArray⟩ : ByteArray) = s at *
      go_enter Try.func35, Try.ntmps35
      go_wp2_with fail
      refine (refBad_any s 2 _).mono ?_
      rintro r w' ⟨rfl, rfl⟩
      go_wp2_with fail
      exact bodyPost_ret (v := .tuple #[.agg #[.string ⟨#[]⟩, .int .i64 2], .string ⟨#[]⟩]) (by simp [results, Try.results35, go_sem]) rfl ⟨rfl, ((((Below.refl _ _).alloc (Nat.le_refl _) _).alloc (by simp) _).alloc (by simp; omega) _).alloc (by simp; omega) _⟩
    · rw [if_neg hn, if_neg hn]
      have hz : (⟨l.toArray⟩ : ByteArray).size = l.length := by simp [ByteArray.size]
      by_cases hb : (l.length : Int) < n
      · rw [if_pos hb, if_pos hb]
        rw [← hz] at hb hl
        generalize (⟨l.toArray⟩ : ByteArray) = s at *
        clear hz
        go_enter Try.func35, Try.ntmps35
        go_wp2_with fail
        refine (refBad_any s 10 _).mono ?_
        rintro r w' ⟨rfl, rfl⟩
        go_wp2_with fail
        exact bodyPost_ret (v := .tuple #[.agg #[.string ⟨#[]⟩, .int .i64 10], .string ⟨#[]⟩]) (by simp [results, Try.results35, go_sem]) rfl ⟨rfl, ((((Below.refl _ _).alloc (Nat.le_refl _) _).alloc (by simp) _).alloc (by simp; omega) _).alloc (by simp; omega) _⟩
      · rw [if_neg hb, if_neg hb]
        obtain ⟨k, rfl⟩ := Int.eq_ofNat_of_zero_le (show 0 ≤ n by omega)
        rw [Int.toNat_natCast]
        have hk : k ≤ l.length := by omega
        have e1 : (⟨l.toArray⟩ : ByteArray).extract 0 k = ⟨(l.take k).toArray⟩ := by rw [← string_eq (ByteArray.extract _ _ _), Lib.extract_data]; simp
        have e2 : (⟨l.toArray⟩ : ByteArray).extract k (⟨l.toArray⟩ : ByteArray).size = ⟨(l.drop k).toArray⟩ := by rw [← string_eq (ByteArray.extract _ _ _), Lib.extract_to_end]
        rw [← e1, ← e2]
        rw [← hz] at hk hl
        generalize (⟨l.toArray⟩ : ByteArray) = s at *
        clear hz e1 e2 hb hn
        go_enter Try.func35, Try.ntmps35
        go_wp2_with fail
        exact bodyPost_ret (v := .tuple #[.agg #[.string (s.extract k s.size), .int .i64 0], .string (s.extract 0 k)]) (by simp [results, Try.results35, go_sem]) rfl ⟨rfl, ((Below.refl _ _).alloc (Nat.le_refl _) _).alloc (by simp) _⟩
  · rw [if_neg he, if_neg he]
    have hd : (e != 0) = true := by simpa using he
    generalize (⟨l.toArray⟩ : ByteArray) = s at *
    go_enter Try.func35, Try.ntmps35
    go_wp2_with fail
    exact bodyPost_ret (v := .tuple #[.agg #[.string s, .int .i64 e], .string ⟨#[]⟩]) (by simp [results, Try.results35, go_sem]) rfl ⟨rfl, ((Below.refl _ _).alloc (Nat.le_refl _) _).alloc (by simp) _⟩

theorem refEnd_any (q : St) (w : World) :
    Calls Try.prog 36 #[refV q] w fun r w' => r = .returned (.int .i64 (stEnd q)) ∧ w.alloc (.cells #[.string ⟨q.1.toArray⟩, .int .i64 q.2] 61) = w' := by
  unfold refV stEnd
  obtain ⟨l, e⟩ := q
  dsimp only
  by_cases he : e = 0
  · subst he
    rw [if_pos rfl]
    by_cases hl : l = []
    · subst hl
      rw [if_pos rfl]
      go_enter Try.func36, Try.ntmps36
      go_wp2_with fail
      go_ret
      exact ⟨rfl, rfl⟩
    · rw [if_neg hl]
      have hz : 0 < (⟨l.toArray⟩ : ByteArray).size := by
        have := List.length_pos_iff.2 hl
        simpa [ByteArray.size] using this
      generalize (⟨l.toArray⟩ : ByteArray) = s at *
      clear hl
      go_enter Try.func36, Try.ntmps36
      go_wp2_with fail
      go_ret
      exact ⟨rfl, rfl⟩
  · rw [if_neg he]
    have hd : (e == 0) = false := by simpa using he
    generalize (⟨l.toArray⟩ : ByteArray) = s at *
    go_enter Try.func36, Try.ntmps36
    go_wp2_with fail
    go_ret
    exact ⟨rfl, rfl⟩
end Go.Proofs.Ytjnobakbjapfjaa.Lay
