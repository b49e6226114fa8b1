/-
  The reference's reader: Raw, Text, End.
-/
import Derived.Test.YteabpbmecdenjaaRefText
namespace Go.Proofs.Yteabpbmecdenjaa
open Go.RowKit

def RefStr (q : St) (t : List UInt8) (w : World) (r : Ending) (w' : World) : Prop := r = .returned (.tuple #[.agg #[.string ⟨q.1.toArray⟩, .int .i64 q.2], .string ⟨t.toArray⟩]) ∧ Below w.heap.size w w'

theorem refRaw_any (q : St) (w : World) (hl : q.1.length ≤ 2000) (n : Int) :
    Calls Try.prog 20 #[refV q, .int .i64 n] w (RefStr (stRaw n q) (stRawV n q) w) := by
  unfold refV RefStr stRaw stRawV
  obtain ⟨l, e⟩ := q
  dsimp only at hl ⊢
  by_cases he : e = 0
  · subst he
    rw [if_pos rfl, if_pos rfl]
    by_cases hn : n < 0
    · rw [if_pos hn, if_pos hn]
      generalize (⟨l.toArray⟩ : ByteArray) = s at *
      go_enter Try.func20, Try.ntmps20
      go_wp2_with fail
      refine (refBad_any s 2 _).mono ?_
      rintro r w' ⟨rfl, rfl⟩
      go_wp2_with fail
      exact bodyPost_ret (v := .tuple #[.agg #[.string ⟨#[]⟩, .int .i64 2], .string ⟨#[]⟩]) (by simp [results, Try.results20, go_sem]) rfl ⟨rfl, ((((Below.refl _ _).alloc (Nat.le_refl _) _).alloc (by simp) _).alloc (by simp; omega) _).alloc (by simp; omega) _⟩
    · rw [if_neg hn, if_neg hn]
      have hz : (⟨l.toArray⟩ : ByteArray).size = l.length := by simp [ByteArray.size]
      by_cases hb : (l.length : Int) < n
      · rw [if_pos hb, if_pos hb]
        rw [← hz] at hb hl
        generalize (⟨l.toArray⟩ : ByteArray) = s at *
        clear hz
        go_enter Try.func20, Try.ntmps20
        go_wp2_with fail
        refine (refBad_any s 10 _).mono ?_
        rintro r w' ⟨rfl, rfl⟩
        go_wp2_with fail
        exact bodyPost_ret (v := .tuple #[.agg #[.string ⟨#[]⟩, .int .i64 10], .string ⟨#[]⟩]) (by simp [results, Try.results20, go_sem]) rfl ⟨rfl, ((((Below.refl _ _).alloc (Nat.le_refl _) _).alloc (by simp) _).alloc (by simp; omega) _).alloc (by simp; omega) _⟩
      · rw [if_neg hb, if_neg hb]
        obtain ⟨k, rfl⟩ := Int.eq_ofNat_of_zero_le (show 0 ≤ n by omega)
        rw [Int.toNat_natCast]
        have hk : k ≤ l.length := by omega
        have e1 : (⟨l.toArray⟩ : ByteArray).extract 0 k = ⟨(l.take k).toArray⟩ := by rw [← string_eq (ByteArray.extract _ _ _), Lib.extract_data]; simp
        have e2 : (⟨l.toArray⟩ : ByteArray).extract k (⟨l.toArray⟩ : ByteArray).size = ⟨(l.drop k).toArray⟩ := by rw [← string_eq (ByteArray.extract _ _ _), Lib.extract_to_end]
        rw [← e1, ← e2]
        rw [← hz] at hk hl
        generalize (⟨l.toArray⟩ : ByteArray) = s at *
        clear hz e1 e2 hb hn
        go_enter Try.func20, Try.ntmps20
        go_wp2_with fail
        exact bodyPost_ret (v := .tuple #[.agg #[.string (s.extract k s.size), .int .i64 0], .string (s.extract 0 k)]) (by simp [results, Try.results20, go_sem]) rfl ⟨rfl, ((Below.refl _ _).alloc (Nat.le_refl _) _).alloc (by simp) _⟩
  · rw [if_neg he, if_neg he]
    have hd : (e != 0) = true := by simpa using he
    generalize (⟨l.toArray⟩ : ByteArray) = s at *
    go_enter Try.func20, Try.ntmps20
    go_wp2_with fail
    exact bodyPost_ret (v := .tuple #[.agg #[.string s, .int .i64 e], .string ⟨#[]⟩]) (by simp [results, Try.results20, go_sem]) rfl ⟨rfl, ((Below.refl _ _).alloc (Nat.le_refl _) _).alloc (by simp) _⟩

theorem refText2_any (q : St) (w : World) (hl : q.1.length ≤ 2000) (most : Int) (hm1 : most ≤ 9223372036854775807) :
    Calls Try.prog 18 #[refV q, .int .i64 most] w (RefStr (stText most q) (stTextV most q) w) := by
  have hS := fun W => refSmall_any q W hl most hm1
  have hR := fun W => refRaw_any (stSmall most q) W (Nat.le_trans (stSmall_len most q) hl) (stSmallV most q)
  unfold stText stTextV
  unfold refV RefSm at hS
  unfold RefStr refV at hR
  unfold RefStr refV
  generalize stSmall most q = q1 at *
  generalize stSmallV most q = v at *
  generalize stRaw (v : Int) q1 = q2 at *
  generalize stRawV (v : Int) q1 = t at *
  generalize (⟨q.1.toArray⟩ : ByteArray) = s at *
  generalize (⟨q1.1.toArray⟩ : ByteArray) = s1 at *
  generalize (⟨q2.1.toArray⟩ : ByteArray) = s2 at *
  generalize (⟨t.toArray⟩ : ByteArray) = s3 at *
  generalize q.2 = e at *
  generalize q1.2 = e1 at *
  generalize q2.2 = e2 at *
  have HS := Lib.hid hS
  have HR := Lib.hid hR
  clear hS hR hl
  go_enter Try.func18, Try.ntmps18
  go_wp2_with fail
  refine (HS.out _).mono ?_
  rintro r w1 ⟨rfl, hb1⟩
  have hT := (Two.made w (.string s) (.int .i64 e) (.string ⟨#[]⟩) (.int .i64 0)).below hb1
  have hbel : Below w.heap.size w w1 := (((Below.refl _ w).alloc (Nat.le_refl _) _).alloc (by simp) _).trans (hb1.mono (by simp; omega))
  have hlt : w.heap.size + 1 < w1.heap.size := hT.b.lt
  have c00 := hT.c00
  have c01 := hT.c01
  have c10 := hT.c10
  have c11 := hT.c11
  obtain ⟨f00, f01, f10, f11⟩ := hT.f
  have HB := Lib.hid hbel
  have HT := Lib.hid hT
  clear hb1 hT hbel HS
  go_wp2_with fail
  refine (HR.out _).mono ?_
  rintro r w2 ⟨rfl, hb2⟩
  have hT2 := (HT.out.write (.string s1) (.int .i64 e1)).below hb2
  have hbel2 : Below w.heap.size w w2 := ((HB.out.setCell (p := ⟨w.heap.size, 0, none⟩) (by simp) _).setCell (p := ⟨w.heap.size, 1, none⟩) (by simp) _).trans (hb2.mono (by simp [World.setCell]; omega))
  have d10 := hT2.c10
  have d11 := hT2.c11
  obtain ⟨_, _, g10, g11⟩ := hT2.f
  have HB2 := Lib.hid hbel2
  clear hb2 hT2 hbel2 c00 c01 c10 c11 f00 f01 f10 f11 hlt
  go_wp2_with fail
  exact bodyPost_ret (v := .tuple #[.agg #[.string s2, .int .i64 e2], .string s3]) (by simp [results, Try.results18, go_sem, d10, d11]) rfl ⟨rfl, by repeat (first | exact HB2.out | refine Below.setCell ?_ (by simp) _)⟩

theorem refEnd_any (q : St) (w : World) :
    Calls Try.prog 25 #[refV q] w fun r w' => r = .returned (.int .i64 (stEnd q)) ∧ w.alloc (.cells #[.string ⟨q.1.toArray⟩, .int .i64 q.2] 36) = w' := by
  unfold refV stEnd
  obtain ⟨l, e⟩ := q
  dsimp only
  by_cases he : e = 0
  · subst he
    rw [if_pos rfl]
    by_cases hl : l = []
    · subst hl
      rw [if_pos rfl]
      go_enter Try.func25, Try.ntmps25
      go_wp2_with fail
      go_ret
      exact ⟨rfl, rfl⟩
    · rw [if_neg hl]
      have hz : 0 < (⟨l.toArray⟩ : ByteArray).size := by
        have := List.length_pos_iff.2 hl
        simpa [ByteArray.size] using this
      generalize (⟨l.toArray⟩ : ByteArray) = s at *
      clear hl
      go_enter Try.func25, Try.ntmps25
      go_wp2_with fail
      go_ret
      exact ⟨rfl, rfl⟩
  · rw [if_neg he]
    have hd : (e == 0) = false := by simpa using he
    generalize (⟨l.toArray⟩ : ByteArray) = s at *
    go_enter Try.func25, Try.ntmps25
    go_wp2_with fail
    go_ret
    exact ⟨rfl, rfl⟩
end Go.Proofs.Yteabpbmecdenjaa
