/-
  IdsBack, walked, given what ids.Put hands back.
-/
import Derived.Test.YtjnobakbjapfjaaBackPure
import Derived.Test.YtjnobakbjapfjaaSets
namespace Go.Proofs.Ytjnobakbjapfjaa
open Go.RowKit Go.Sort Go.Shelf

/-- What is asked of ids.Put. -/
def PutGives : Prop := ∀ (w : World) (A : Option Addr) (n c : Nat) (xs : List Id), Ids w A n c xs → n ≤ 60 →
  Calls Try.prog 15 #[.slice A n c] w fun e w' => ∃ A' m' c', e = .returned (.slice A' m' c') ∧ Lies w' (fun _ => True) A' m' c' (bc (putL xs)) ∧ Below w.heap.size w w'

theorem putL_length (xs : List Id) (h : xs.length ≤ 60) : 0 < (putL xs).length ∧ (putL xs).length ≤ 2000 := by
  have h1 := Lay.many_le xs.length (by omega)
  rw [putL, List.length_append, Lay.encNum_length, fb_length]
  omega

set_option maxRecDepth 100000 in
set_option maxHeartbeats 2000000 in
theorem idsBack_walk (hPut : PutGives) (A : Option Addr) (n c : Nat) (S : List Id) (w : World) (hx : Ids w A n c S) :
    Calls Try.prog 5 #[.slice A n c] w fun e w' => e = .returned (.bool true) ∧ Below w.heap.size w w' := by
  by_cases h60 : 60 < n
  · have h60' : (60 : Int) < (n : Int) := by omega
    go_enter Try.func5, Try.ntmps5
    go_wp2
    go_ret
    exact ⟨rfl, Below.refl _ _⟩
  have h60' : ¬ (60 : Int) < (n : Int) := by omega
  have HLS : Hid ((ofL S).length ≤ 60) := Lib.hid (Nat.le_trans (ofL_length S) (by rw [hx.len]; omega))
  have HRS := Lib.hid (ofL_rises S)
  have hOf := of_says w A n c S hx (by omega)
  clear hx
  generalize ofL S = X at HLS HRS hOf
  go_enter Try.func5, Try.ntmps5
  go_wp2_with fail
  refine hOf.mono ?_
  rintro e w1 ⟨A1, n1, c1, rfl, hx1, hb1⟩
  have hn1 : n1 ≤ 60 := by rw [← hx1.len]; exact HLS.out
  have HX1 := Lib.hid hx1
  have HB1 := Lib.hid hb1
  clear hx1 hb1 hOf
  go_wp2_with fail
  refine (hPut w1 A1 n1 c1 X HX1.out hn1).mono ?_
  rintro e w2 ⟨A2, m2, c2, rfl, hl2, hb2⟩
  have hcv := conv_lies hl2
  have HX2 := Lib.hid (HX1.out.below hb2 (Nat.le_refl _))
  have HB2 := Lib.hid (HB1.out.trans (hb2.mono HB1.out.size))
  clear hl2 hb2
  have hXn : X.length = n1 := HX2.out.len
  have hpl := putL_length X HLS.out
  have R1 := Lib.hid (read_back X HRS.out (by omega) (n1 : Int) (by omega))
  have R2 := Lib.hid (read_big X (by omega) ((n1 : Int) - 1) (by omega))
  have R3 := Lib.hid (read_less X (by omega) 100 (by omega))
  have R4 := Lib.hid (read_more X (by omega) 120 100 (by omega))
  obtain ⟨P, hP⟩ : ∃ P, putL X = P := ⟨_, rfl⟩
  rw [hP] at hcv hpl R1 R2 R3 R4
  have hsz : (⟨P.toArray⟩ : ByteArray).size = P.length := str_size P
  have hne : ¬ P.length = 0 := by omega
  have hne' : ¬ (P.length : Int) = 0 := by omega
  go_wp2_with fail
  refine (read_says P (by omega) (n1 : Int) (by omega) w2).mono ?_
  rintro e w3 ⟨A3, n3, c3, rfl, hx3, hb3⟩
  rw [R1.out] at hx3 ⊢
  have HX3 := Lib.hid hx3
  have HS3 := Lib.hid (HX2.out.below hb3 (Nat.le_refl _))
  have HB3 := Lib.hid (HB2.out.trans (hb3.mono HB2.out.size))
  clear hx3 hb3
  have hw1 : IntKind.i64.wrap ((n1 : Int) - 1) = (n1 : Int) - 1 := IntWalk.i64_in _ (by omega)
  go_wp2_with fail
  refine (read_says P (by omega) ((n1 : Int) - 1) (by omega) w3).mono ?_
  rintro e w4 ⟨A4, n4, c4, rfl, _, hb4⟩
  rw [R2.out]
  have HX4 := Lib.hid (HX3.out.below hb4 (Nat.le_refl _))
  have HS4 := Lib.hid (HS3.out.below hb4 (Nat.le_refl _))
  have HB4 := Lib.hid (HB3.out.trans (hb4.mono HB3.out.size))
  clear hb4
  have hw2 : IntKind.i64.wrap ((P.length : Int) - 1) = ((P.length - 1 : Nat) : Int) := by rw [IntWalk.i64_in _ (by omega)]; omega
  obtain ⟨P3, hP3⟩ : ∃ P3, P.take (P.length - 1) = P3 := ⟨_, rfl⟩
  have hcut : (⟨P.toArray⟩ : ByteArray).extract 0 (P.length - 1) = ⟨P3.toArray⟩ := by
    rw [← hP3]
    apply ByteArray.ext
    simp [ByteArray.extract, ByteArray.copySlice, List.dropLast_eq_take]
  have hl3 : P3.length ≤ 2000 := by rw [← hP3, List.length_take]; omega
  rw [hP3] at R3
  obtain ⟨N1, hN1⟩ : ∃ N1, P.length - 1 = N1 := ⟨_, rfl⟩
  rw [hN1] at hcut hw2
  have hle : (N1 : Int) ≤ P.length := by omega
  clear hP3
  go_wp2_with fail
  refine (read_says P3 (by omega) 100 (by omega) w4).mono ?_
  rintro e w5 ⟨A5, n5, c5, rfl, _, hb5⟩
  obtain ⟨f5, hf5⟩ : ∃ f, (readL P3 100).2 = f := ⟨_, rfl⟩
  rw [hf5]
  have hf5' : ¬ f5 = 0 := by rw [← hf5]; exact R3.out
  have hf5b : (f5 != 0) = true := by simpa using hf5'
  have HX5 := Lib.hid (HX4.out.below hb5 (Nat.le_refl _))
  have HS5 := Lib.hid (HS4.out.below hb5 (Nat.le_refl _))
  have HB5 := Lib.hid (HB4.out.trans (hb5.mono HB4.out.size))
  clear hb5 hf5
  obtain ⟨P4, hP4⟩ : ∃ P4, P ++ [120] = P4 := ⟨_, rfl⟩
  have hcat : (⟨P.toArray⟩ : ByteArray) ++ ⟨#[120]⟩ = ⟨P4.toArray⟩ := by rw [← hP4]; exact str_append P [120]
  have hbig : ¬ 9223372036854775807 < P.length + 1 := by omega
  have hl4 : P4.length ≤ 3000 := by rw [← hP4, List.length_append]; simp; omega
  rw [hP4] at R4
  clear hP4
  go_wp2_with fail
  refine (read_says P4 (by omega) 100 (by omega) w5).mono ?_
  rintro e w6 ⟨A6, n6, c6, rfl, _, hb6⟩
  rw [R4.out]
  have HX6 := Lib.hid (HX5.out.below hb6 (Nat.le_refl _))
  have HS6 := Lib.hid (HS5.out.below hb6 (Nat.le_refl _))
  have HB6 := Lib.hid (HB5.out.trans (hb6.mono HB5.out.size))
  clear hb6
  have hn3 : n3 ≤ 60 := by rw [← HX6.out.len]; exact HLS.out
  have hq := same_says w6 A3 n3 c3 X HX6.out (by omega) A1 n1 c1 X HS6.out (by omega)
  rw [show decide (ofL X = ofL X) = true by simp] at hq
  go_wp2_with fail
  refine hq.mono ?_
  rintro e w7 ⟨rfl, hb7⟩
  have HB7 := Lib.hid (HB6.out.trans (hb7.mono HB6.out.size))
  clear hb7 hq
  go_wp2_with fail
  refine (one_says w7).mono ?_
  rintro e w8 ⟨rfl, hb8⟩
  have HB8 := Lib.hid (HB7.out.trans (hb8.mono HB7.out.size))
  clear hb8
  go_wp2
  go_ret
  exact ⟨rfl, HB8.out⟩
end Go.Proofs.Ytjnobakbjapfjaa
