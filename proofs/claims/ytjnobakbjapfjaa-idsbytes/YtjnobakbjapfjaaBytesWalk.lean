/-
  IdsBytes, walked.
-/
import Derived.Test.YtjnobakbjapfjaaRefReadIds
import Derived.Test.YtjnobakbjapfjaaPutSays
namespace Go.Proofs.Ytjnobakbjapfjaa
open Go.RowKit Go.Sort Go.Shelf
open Lay (St stSmall stSmallV stRaw stRawV stEnd)

theorem wpAnyH_weak {P : Program} {md : Region.Mode} {ops : Array Oper} {Q : Exit → Act → World → Prop} {S S' : World → Prop} (hS : ∀ w, S' w → S w) :
    ∀ {fuel : Nat} {listed : Array Bool} {a : Act} {w : World}, wpAnyH P md ops Q S' fuel listed a w → wpAnyH P md ops Q S fuel listed a w
  | 0, _, _, _, h => h
  | _ + 1, _, _, _, h => ⟨h.1, fun i hi => wpOp_mono (fun _ w' h' => ⟨hS w' h'.1, wpAnyH_weak hS h'.2⟩) (h.2 i hi)⟩
theorem rdIds_len : ∀ (k : Nat) (q : St) (acc : List Id), 32 * (rdIds k q acc).1.length ≤ 32 * acc.length + q.1.length + 32
  | 0, q, acc => by
    simp only [rdIds]
    omega
  | k + 1, q, acc => by
    rw [rdIds]
    split
    · rename_i h0
      by_cases h2 : (stRaw 32 q).2 = 0
      · have h1 := rdIds_len k (stRaw 32 q) (acc ++ [idOf (stRawV 32 q)])
        have h3 := raw_ok q h0 h2
        rw [List.length_append, List.length_singleton] at h1
        omega
      · rw [rdIds_bad _ _ _ h2, List.length_append, List.length_singleton]
        omega
    · simp only
      omega
theorem readL_len (l : List UInt8) (most : Int) (hl : l.length ≤ 4000) : (readL l most).1.length ≤ 200 := by
  have h1 := rdIds_len (stSmallV most (l, 0)) (stSmall most (l, 0)) []
  have h2 := Lay.stSmall_len most (l, 0)
  simp only [List.length_nil] at h1 h2
  unfold readL
  dsimp only
  split
  · simp
  · split
    · simp only
      omega
    · simp

set_option maxRecDepth 100000 in
set_option maxHeartbeats 4000000 in
theorem idsBytes_walk (A : Option Addr) (n c : Nat) (S : List Id) (w : World) (hx : Ids w A n c S) (B : Option Addr) (m d : Nat) (bs : List UInt8) (hb : Lies w (fun _ => True) B m d (bc bs)) (most : Int) (hm : most ≤ 9223372036854775807) :
    Calls Try.prog 4 #[.slice A n c, .slice B m d, .int .i64 most] w fun e w' => e = .returned (.bool true) ∧ Below w.heap.size w w' := by
  by_cases h60 : 60 < n
  · have h60' : (60 : Int) < (n : Int) := by omega
    go_enter Try.func4, Try.ntmps4
    go_wp2
    go_ret
    exact ⟨rfl, Below.refl _ _⟩
  have h60' : ¬ (60 : Int) < (n : Int) := by omega
  by_cases h3k : 3000 < m
  · have h3k' : (3000 : Int) < (m : Int) := by omega
    go_enter Try.func4, Try.ntmps4
    go_wp2
    go_ret
    exact ⟨rfl, Below.refl _ _⟩
  have h3k' : ¬ (3000 : Int) < (m : Int) := by omega
  have hbl : bs.length ≤ 4000 := by rw [← bc_length, hb.len]; omega
  have HX := Lib.hid hx
  have HBS := Lib.hid hb
  have hcv := conv_lies hb
  have hR1 := fun w => read_says bs (by omega) most hm w
  have hR2 := fun w => rread_says bs hbl most hm w
  unfold ReadPost at hR1 hR2
  have hRL := readL_len bs most hbl
  obtain ⟨⟨R, er⟩, hRe⟩ : ∃ r, readL bs most = r := ⟨_, rfl⟩
  rw [hRe] at hR1 hR2 hRL
  dsimp only at hR1 hR2 hRL
  have HR1 := Lib.hid hR1
  have HR2 := Lib.hid hR2
  clear hx hb hR1 hR2 hRe
  go_enter Try.func4, Try.ntmps4
  go_wp2_with fail
  refine (HR1.out w).mono ?_
  rintro e w3 ⟨A3, n3, c3, rfl, hi3, hb3⟩
  have HI3 := Lib.hid hi3
  have HB3 := Lib.hid hb3
  have hcv3 := conv_lies (HBS.out.below hb3)
  clear hi3 hb3 hcv
  go_wp2_with fail
  refine (HR2.out w3).mono ?_
  rintro e w4 ⟨A4, n4, c4, rfl, hi4, hb4⟩
  have HI4 := Lib.hid hi4
  have HI34 := Lib.hid (HI3.out.below hb4 (Nat.le_refl _))
  have HB4 := Lib.hid (HB3.out.trans (hb4.mono HB3.out.size))
  have HX4 := Lib.hid (HX.out.below HB4.out (Nat.le_refl _))
  clear hi4 hb4 hcv3 HR1 HR2 HI3 HB3 HBS
  go_wp2_with fail
  have HX5 := Lib.hid (show Ids w4.drew A n c S from HX4.out)
  have HI5 := Lib.hid (show Ids w4.drew A3 n3 c3 R from HI34.out)
  have HJ5 := Lib.hid (show Ids w4.drew A4 n4 c4 R from HI4.out)
  have HB5 := Lib.hid (show Below w.heap.size w w4.drew from HB4.out.drew)
  have hn3 : n3 ≤ 1000 := by rw [← HI34.out.len]; omega
  refine wp_region_held_drew (S := fun _ => True) (by kernel_rfl) trivial (fun hHeld => ?_)
  generalize w4.drew = wd at HX5 HI5 HJ5 HB5 ⊢
  clear HX4 HI34 HI4 HB4
  refine take_run 0 33 (v := ?_) rfl rfl (by kernel_rfl) (by kernel_rfl) (by kernel_rfl) (fun _ _ _ h => h) (by rfl) ?_ (by assumption) ?_
  rotate_left
  · (intro wq hSw; (try dsimp only at hSw); go_simp; first | done | with_reducible rfl)
  simp only [Act.put, List.setIfInBounds_toArray, List.set_cons_zero, List.set_cons_succ]
  refine take_run 3 36 (v := ?_) rfl rfl (by kernel_rfl) (by kernel_rfl) (by kernel_rfl) (fun _ _ _ h => h) (by rfl) ?_ (by assumption) ?_
  rotate_left
  · (intro wq hSw; (try dsimp only at hSw); go_simp; first | done | with_reducible rfl)
  simp only [Act.put, List.setIfInBounds_toArray, List.set_cons_zero, List.set_cons_succ]
  refine wpAnyH_ready (rs := [1]) (by kernel_rfl) (by simp) ?_
  refine AllReadyH.cons rfl (fun K hK => ?_) AllReadyH.nil
  go_simp
  refine (put_says wd A n c S HX5.out (by omega)).mono ?_
  rintro e w5 ⟨v5, rfl, ho5, hb5⟩
  obtain ⟨A5, c5, rfl, hl5⟩ := ho5.lies
  obtain ⟨PS, hPS⟩ : ∃ s : ByteArray, (⟨(putL S).toArray⟩ : ByteArray) = s := ⟨_, rfl⟩
  have HCV := Lib.hid (show ∀ u, Below w5.heap.size w5 u → (convert 34 9 (.slice A5 (putL S).length c5)).run Try.prog u = .ok (.string PS) u from fun u hu => by rw [← hPS]; exact conv_lies (hl5.below hu))
  have HX6 := Lib.hid (HX5.out.below hb5 (Nat.le_refl _))
  have HI6 := Lib.hid (HI5.out.below hb5 (Nat.le_refl _))
  have HJ6 := Lib.hid (HJ5.out.below hb5 (Nat.le_refl _))
  have HB6 := Lib.hid (HB5.out.trans (hb5.mono HB5.out.size))
  generalize (putL S).length = p5 at HCV ⊢
  clear ho5 hl5 hb5 HX5 HI5 HJ5 HB5
  refine hK.out _ _ (trivial) (fun _ => ?_)
  clear hK K
  refine wpAnyH_weak (S' := fun u => Below w5.heap.size w5 u) (fun u hu => ?_) ?_
  · trivial
  have hHeld : Below w5.heap.size w5 w5 := Below.refl _ _
  refine take_run 2 35 (v := .string PS) rfl rfl (by kernel_rfl) (by kernel_rfl) (by kernel_rfl) (fun _ _ _ h => h) (by rfl) (fun wq hSw => by have h := HCV.out wq hSw; go_simp) (by assumption) ?_
  simp only [Act.put, List.setIfInBounds_toArray, List.set_cons_zero, List.set_cons_succ]
  refine wpAnyH_ready (rs := [4]) (by kernel_rfl) (by simp) ?_
  refine AllReadyH.cons rfl (fun K hK => ?_) AllReadyH.nil
  go_simp
  refine (own_says w5 A n c S HX6.out (by omega)).mono ?_
  rintro e w6 ⟨v6, rfl, ho6, hb6⟩
  obtain ⟨A6, c6, rfl, hi6⟩ := ho6.ids
  have HO6 := Lib.hid hi6
  have HX7 := Lib.hid (HX6.out.below hb6 (Nat.le_refl _))
  have HI7 := Lib.hid (HI6.out.below hb6 (Nat.le_refl _))
  have HJ7 := Lib.hid (HJ6.out.below hb6 (Nat.le_refl _))
  have HB7 := Lib.hid (HB6.out.trans (hb6.mono HB6.out.size))
  have HSl : Hid (S.length ≤ 1000) := Lib.hid (by rw [HX7.out.len]; omega)
  have HBb := Lib.hid hb6
  clear ho6 hi6 hb6 HX6 HI6 HJ6 HB6
  have hPut := rput_says w6 A6 S.length c6 S HO6.out HSl.out
  rw [hPS] at hPut
  generalize S.length = s6 at hPut ⊢
  refine hK.out _ _ (HBb.out) (fun _ => ?_)
  clear hK K
  refine wpAnyH_weak (S' := fun u => Below w6.heap.size w6 u) (fun u hu => ?_) ?_
  · exact HBb.out.trans (hu.mono HBb.out.size)
  have hHeld : Below w6.heap.size w6 w6 := Below.refl _ _
  refine wpAnyH_ready (rs := [5]) (by kernel_rfl) (by simp) ?_
  refine AllReadyH.cons rfl (fun K hK => ?_) AllReadyH.nil
  go_simp
  refine hPut.mono ?_
  rintro e w7 ⟨rfl, hb7⟩
  have HI8 := Lib.hid (HI7.out.below hb7 (Nat.le_refl _))
  have HJ8 := Lib.hid (HJ7.out.below hb7 (Nat.le_refl _))
  have HB8 := Lib.hid (HB7.out.trans (hb7.mono HB7.out.size))
  have HBc := Lib.hid hb7
  clear hb7 HI7 HJ7 HB7 hPut
  refine hK.out _ _ (HBc.out) (fun _ => ?_)
  clear hK K
  refine wpAnyH_weak (S' := fun u => Below w7.heap.size w7 u) (fun u hu => ?_) ?_
  · exact HBc.out.trans (hu.mono HBc.out.size)
  have hHeld : Below w7.heap.size w7 w7 := Below.refl _ _
  refine take_run 6 39 (v := ?_) rfl rfl (by kernel_rfl) (by kernel_rfl) (by kernel_rfl) (fun _ _ _ h => h) (by rfl) ?_ (by assumption) ?_
  rotate_left
  · (intro wq hSw; (try dsimp only at hSw); go_simp; first | done | with_reducible rfl)
  simp only [Act.put, List.setIfInBounds_toArray, List.set_cons_zero, List.set_cons_succ]
  refine take_run 7 40 (v := ?_) rfl rfl (by kernel_rfl) (by kernel_rfl) (by kernel_rfl) (fun _ _ _ h => h) (by rfl) ?_ (by assumption) ?_
  rotate_left
  · (intro wq hSw; (try dsimp only at hSw); go_simp; first | done | with_reducible rfl)
  simp only [Act.put, List.setIfInBounds_toArray, List.set_cons_zero, List.set_cons_succ]
  refine take_run 8 41 (v := ?_) rfl rfl (by kernel_rfl) (by kernel_rfl) (by kernel_rfl) (fun _ _ _ h => h) (by rfl) ?_ (by assumption) ?_
  rotate_left
  · (intro wq hSw; (try dsimp only at hSw); go_simp; first | done | with_reducible rfl)
  simp only [Act.put, List.setIfInBounds_toArray, List.set_cons_zero, List.set_cons_succ]
  refine take_run 9 42 (v := ?_) rfl rfl (by kernel_rfl) (by kernel_rfl) (by kernel_rfl) (fun _ _ _ h => h) (by rfl) ?_ (by assumption) ?_
  rotate_left
  · (intro wq hSw; (try dsimp only at hSw); go_simp; first | done | with_reducible rfl)
  simp only [Act.put, List.setIfInBounds_toArray, List.set_cons_zero, List.set_cons_succ]
  refine take_run 10 43 (v := ?_) rfl rfl (by kernel_rfl) (by kernel_rfl) (by kernel_rfl) (fun _ _ _ h => h) (by rfl) ?_ (by assumption) ?_
  rotate_left
  · (intro wq hSw; (try dsimp only at hSw); go_simp; first | done | with_reducible rfl)
  simp only [Act.put, List.setIfInBounds_toArray, List.set_cons_zero, List.set_cons_succ]
  refine take_run 11 44 (v := ?_) rfl rfl (by kernel_rfl) (by kernel_rfl) (by kernel_rfl) (fun _ _ _ h => h) (by rfl) ?_ (by assumption) ?_
  rotate_left
  · (intro wq hSw; (try dsimp only at hSw); go_simp; first | done | with_reducible rfl)
  simp only [Act.put, List.setIfInBounds_toArray, List.set_cons_zero, List.set_cons_succ]
  refine take_run 12 45 (v := ?_) rfl rfl (by kernel_rfl) (by kernel_rfl) (by kernel_rfl) (fun _ _ _ h => h) (by rfl) ?_ (by assumption) ?_
  rotate_left
  · (intro wq hSw; (try dsimp only at hSw); go_simp; first | done | with_reducible rfl)
  simp only [Act.put, List.setIfInBounds_toArray, List.set_cons_zero, List.set_cons_succ]
  refine take_run 13 46 (v := ?_) rfl rfl (by kernel_rfl) (by kernel_rfl) (by kernel_rfl) (fun _ _ _ h => h) (by rfl) ?_ (by assumption) ?_
  rotate_left
  · (intro wq hSw; (try dsimp only at hSw); go_simp; first | done | with_reducible rfl)
  simp only [Act.put, List.setIfInBounds_toArray, List.set_cons_zero, List.set_cons_succ]
  refine take_run 15 48 (v := ?_) rfl rfl (by kernel_rfl) (by kernel_rfl) (by kernel_rfl) (fun _ _ _ h => h) (by rfl) ?_ (by assumption) ?_
  rotate_left
  · (intro wq hSw; (try dsimp only at hSw); go_simp; first | done | with_reducible rfl)
  simp only [Act.put, List.setIfInBounds_toArray, List.set_cons_zero, List.set_cons_succ]
  refine wpAnyH_ready (rs := [14]) (by kernel_rfl) (by simp) ?_
  refine AllReadyH.cons rfl (fun K hK => ?_) AllReadyH.nil
  go_simp
  refine (own_says w7 A3 n3 c3 R HI8.out hn3).mono ?_
  rintro e w8 ⟨v8, rfl, ho8, hb8⟩
  obtain ⟨A8, c8, rfl, hi8⟩ := ho8.ids
  have HO8 := Lib.hid hi8
  have HJ9 := Lib.hid (HJ8.out.below hb8 (Nat.le_refl _))
  have HB9 := Lib.hid (HB8.out.trans (hb8.mono HB8.out.size))
  have HBd := Lib.hid hb8
  have hq := rsame_says w8 A8 R.length c8 R hi8 A4 n4 c4 R HJ9.out (by omega)
  rw [decide_eq_true (rfl : R = R)] at hq
  generalize R.length = s8 at hq ⊢
  clear ho8 hi8 hb8 HI8 HJ8 HB8
  refine hK.out _ _ (HBd.out) (fun _ => ?_)
  clear hK K
  refine wpAnyH_weak (S' := fun u => Below w8.heap.size w8 u) (fun u hu => ?_) ?_
  · exact HBd.out.trans (hu.mono HBd.out.size)
  have hHeld : Below w8.heap.size w8 w8 := Below.refl _ _
  refine wpAnyH_ready (rs := [16]) (by kernel_rfl) (by simp) ?_
  refine AllReadyH.cons rfl (fun K hK => ?_) AllReadyH.nil
  go_simp
  refine hq.mono ?_
  rintro e w9 ⟨rfl, hb9⟩
  have HB10 := Lib.hid (HB9.out.trans (hb9.mono HB9.out.size))
  have HBe := Lib.hid hb9
  clear hb9 HB9 hq
  refine hK.out _ _ (HBe.out) (fun _ => ?_)
  clear hK K
  refine wpAnyH_weak (S' := fun u => Below w9.heap.size w9 u) (fun u hu => ?_) ?_
  · exact HBe.out.trans (hu.mono HBe.out.size)
  have hHeld : Below w9.heap.size w9 w9 := Below.refl _ _
  refine take_run 17 50 (v := ?_) rfl rfl (by kernel_rfl) (by kernel_rfl) (by kernel_rfl) (fun _ _ _ h => h) (by rfl) ?_ (by assumption) ?_
  rotate_left
  · (intro wq hSw; (try dsimp only at hSw); go_simp; first | done | with_reducible rfl)
  simp only [Act.put, List.setIfInBounds_toArray, List.set_cons_zero, List.set_cons_succ]
  refine take_run 18 51 (v := ?_) rfl rfl (by kernel_rfl) (by kernel_rfl) (by kernel_rfl) (fun _ _ _ h => h) (by rfl) ?_ (by assumption) ?_
  rotate_left
  · (intro wq hSw; (try dsimp only at hSw); go_simp; first | done | with_reducible rfl)
  simp only [Act.put, List.setIfInBounds_toArray, List.set_cons_zero, List.set_cons_succ]
  refine wpAnyH_ready (rs := [19]) (by kernel_rfl) (by simp) ?_
  refine AllReadyH.cons rfl (fun K hK => ?_) AllReadyH.nil
  go_simp
  refine (one_says w9).mono ?_
  rintro e w10 ⟨rfl, hb10⟩
  have HB11 := Lib.hid (HB10.out.trans (hb10.mono HB10.out.size))
  have HBf := Lib.hid hb10
  clear hb10 HB10
  refine hK.out _ _ (HBf.out) (fun _ => ?_)
  clear hK K
  refine wpAnyH_weak (S' := fun u => Below w10.heap.size w10 u) (fun u hu => ?_) ?_
  · exact HBf.out.trans (hu.mono HBf.out.size)
  have hHeld : Below w10.heap.size w10 w10 := Below.refl _ _
  refine take_run 20 53 (v := ?_) rfl rfl (by kernel_rfl) (by kernel_rfl) (by kernel_rfl) (fun _ _ _ h => h) (by rfl) ?_ (by assumption) ?_
  rotate_left
  · (intro wq hSw; (try dsimp only at hSw); go_simp; first | done | with_reducible rfl)
  simp only [Act.put, List.setIfInBounds_toArray, List.set_cons_zero, List.set_cons_succ]
  refine take_run 21 6 (v := ?_) rfl rfl (by kernel_rfl) (by kernel_rfl) (by kernel_rfl) (fun _ _ _ h => h) (by rfl) ?_ (by assumption) ?_
  rotate_left
  · (intro wq hSw; (try dsimp only at hSw); go_simp; first | done | with_reducible rfl)
  simp only [Act.put, List.setIfInBounds_toArray, List.set_cons_zero, List.set_cons_succ]
  refine wpAnyH_done (by kernel_rfl) ?_ _
  go_wp2
  go_ret
  exact ⟨rfl, HB11.out⟩
end Go.Proofs.Ytjnobakbjapfjaa
