/-
  Encode, whole.
-/
import Derived.Test.YtpbkabgjpieggaaEnc
namespace Go.Proofs.Ytpbkabgjpieggaa
open Go.RowKit

/-- The shards more are handed back; nil, if there are none. -/
def GivesB (w : World) (m : Nat) (M : List (List UInt8)) (e : Ending) (w' : World) : Prop := ∃ A c, e = .returned (.slice A m c) ∧ Mtx w' A m c M ∧ Below w.heap.size w w' ∧ (m = 0 → A = none ∧ c = 0)
theorem behind_says (w : World) (p k m : Nat) (h : Cod w p k m) (hk : 1 ≤ k) (hs : k + m ≤ 255) (A : Option Addr) (c : Nat) (X : List (List UInt8)) (hX : Mtx w A k c X) (q : Nat) (hlev : Lev k q X) (hq : q ≤ 1000) : Calls Try.prog 26 #[.pointer (some ⟨p, 0, none⟩), .slice A k c] w (GivesB w m (moreL k m X)) := by
  rcases Nat.eq_zero_or_pos m with h0 | h0
  · subst h0
    refine (behind_none w p k h _).mono ?_
    rintro e w' ⟨rfl, rfl⟩
    exact ⟨_, _, rfl, Mtx.nil _ _ _, Below.refl _ _, fun _ => ⟨rfl, rfl⟩⟩
  · refine (behind_some w p k m h hk h0 hs A c X hX q hlev hq).mono ?_
    rintro e w' ⟨A2, n2, c2, rfl, hM, hb⟩
    have hn : n2 = m := by rw [← hM.len, appL, List.length_map, matBy_length]
    subst hn
    exact ⟨_, _, rfl, by rw [moreL, if_neg (by omega)]; exact hM, hb, fun e => by omega⟩
theorem concatR_says (W : World) (b : Nat) (A1 A2 : Option Addr) (n1 n2 c1 c2 : Nat) (x y : List (List UInt8)) (h1 : W.cell? ⟨b, 0, none⟩ = some (.slice A1 n1 c1)) (h2 : W.cell? ⟨b, 1, none⟩ = some (.slice A2 n2 c2)) (hb : b < W.heap.size) (hx : Mtx W A1 n1 c1 x) (hy : Mtx W A2 n2 c2 y) (hn1 : 1 ≤ n1 ∧ n1 ≤ 1000) (hn2 : n2 ≤ 1000) (h0 : n2 = 0 → A2 = none ∧ c2 = 0) :
    Calls Try.prog 25 #[.slice (some ⟨b, 0, none⟩) 2 2] W fun e w' => ∃ v, e = .returned v ∧ RowsO w' W.heap.size v (x ++ y) ∧ Below W.heap.size W w' := by
  rcases Nat.eq_zero_or_pos n2 with h | h
  · subst h
    obtain ⟨rfl, rfl⟩ := h0 rfl
    obtain rfl : y = [] := List.eq_nil_of_length_eq_zero hy.len
    rw [List.append_nil]
    exact concat0_says W b A1 n1 c1 x h1 h2 hb hx hn1
  · exact concatM_says W b A1 A2 n1 n2 c1 c2 x y h1 h2 hb hx hy hn1 ⟨h, hn2⟩
/-- All shards. -/
def encL (k m : Nat) (X : List (List UInt8)) : List (List UInt8) := X ++ moreL k m X
theorem more_lev {k m q : Nat} {X : List (List UInt8)} (h : Lev k q X) (hk : 1 ≤ k) : Lev m q (moreL k m X) := by
  unfold moreL
  split
  · subst m; exact ⟨rfl, fun r hr => by simp at hr⟩
  · exact app_lev (matBy_length _ _ _) h hk
theorem enc_lev {k m q : Nat} {X : List (List UInt8)} (h : Lev k q X) (hk : 1 ≤ k) : Lev (k + m) q (encL k m X) := by
  have h2 := more_lev (m := m) h hk
  refine ⟨by rw [encL, List.length_append, h.1, h2.1], fun r hr => ?_⟩
  rcases List.mem_append.1 hr with h3 | h3
  · exact h.2 r h3
  · exact h2.2 r h3
theorem fill_lev {k q : Nat} {X : List (List UInt8)} (h : Lev k q X) : X.map (fillR q) = X := by
  conv => rhs; rw [← List.map_id X]
  apply List.map_congr_left
  intro r hr
  exact fillR_self (h.2 r hr)
/-- Shards of which Encode tells all. -/
def encOk (k : Nat) (S : List (Option (List UInt8))) : Prop := S.length = k ∧ S.any (·.isNone) = false ∧ levelB (bytesOf S) = true
instance (k : Nat) (S : List (Option (List UInt8))) : Decidable (encOk k S) := by unfold encOk; exact inferInstance
/-- Such rows are handed back, and no error. -/
def GivesFE (w : World) (n q : Nat) (M : List (List UInt8)) (e : Ending) (w' : World) : Prop := ∃ g B, e = .returned (.tuple #[.slice (some ⟨g, 0, none⟩) n n, .int .i64 0]) ∧ FillS w w' g n q B M
set_option maxRecDepth 100000 in
set_option maxHeartbeats 1000000 in
theorem encode_no (w : World) (p k m : Nat) (h : Cod w p k m) (hk : 1 ≤ k) (A : Option Addr) (n c : Nat) (S : List (Option (List UInt8))) (hS : Shd w A n c S) (hn : n ≤ 2000) (hno : ¬ encOk k S) : Calls Try.prog 12 #[.pointer (some ⟨p, 0, none⟩), .slice A n c] w fun e w' => e = .returned (.tuple #[.slice none 0 0, .int .i64 2]) ∧ Below w.heap.size w w' := by
  have hc := h.1
  have hp := h.2.2
  have hl := hS.len
  have HM := Lib.hid (made_yes w p k m h hk)
  by_cases h1 : n = k
  · subst h1
    have HC := Lib.hid (containsM_says w A n c S hS hn)
    cases h2 : S.any (·.isNone) with
    | true =>
      rw [h2] at HC
      clear hS h2 hno
      go_enter Try.func12, Try.ntmps12
      go_wp2_with (first
        | (go_at_call 20; refine HM.out.mono ?_; rintro e wn ⟨rfl, hwn⟩; obtain rfl : w = wn := hwn.symm)
        | (go_at_call 21; refine HC.out.mono ?_; rintro e w1 ⟨rfl, hb1⟩; have HB1 := Lib.hid hb1; clear hb1))
      go_ret2
      exact ⟨rfl, HB1.out⟩
    | false =>
      have h3 : levelB (bytesOf S) = false := by
        cases h4 : levelB (bytesOf S) with
        | false => rfl
        | true => exact absurd ⟨hl, h2, h4⟩ hno
      rw [h2] at HC
      have HS := Lib.hid hS
      have HL := Lib.hid (fun W (hb : Below w.heap.size w W) => by have := rlevel_says W A n c _ (hS.below hb).mtx hn; rwa [h3] at this)
      clear hS h2 hno h3
      go_enter Try.func12, Try.ntmps12
      go_wp2_with (first
        | (go_at_call 20; refine HM.out.mono ?_; rintro e wn ⟨rfl, hwn⟩; obtain rfl : w = wn := hwn.symm)
        | (go_at_call 21; refine HC.out.mono ?_; rintro e w1 ⟨rfl, hb1⟩; have HB1 := Lib.hid hb1; clear hb1)
        | (go_at_call 23; refine (HL.out _ HB1.out).mono ?_; rintro e w2 ⟨rfl, hb2⟩; have HB2 := Lib.hid (HB1.out.trans (hb2.mono HB1.out.size)); clear hb2))
      go_ret2
      exact ⟨rfl, HB2.out⟩
  · have h1' : ¬ (n : Int) = (k : Int) := by omega
    clear hS hno
    go_enter Try.func12, Try.ntmps12
    go_wp2_with (go_at_call 20; refine HM.out.mono ?_; rintro e wn ⟨rfl, hwn⟩; obtain rfl : w = wn := hwn.symm)
    go_ret2
    exact ⟨rfl, Below.refl _ _⟩
set_option maxRecDepth 100000 in
set_option maxHeartbeats 2000000 in
theorem encode_yes (w : World) (p k m : Nat) (h : Cod w p k m) (hk : 1 ≤ k) (hs : k + m ≤ 255) (A : Option Addr) (n c : Nat) (S : List (Option (List UInt8))) (hS : Shd w A n c S) (q : Nat) (hok : encOk k S) (hlev : Lev k q (bytesOf S)) (hq : q ≤ 1000) : Calls Try.prog 12 #[.pointer (some ⟨p, 0, none⟩), .slice A n c] w (GivesFE w (k + m) q (encL k m (bytesOf S))) := by
  have hc := h.1
  have hp := h.2.2
  have hl := hS.len
  obtain rfl : n = k := by rw [← hl]; exact hok.1
  have HM := Lib.hid (made_yes w p n m h hk)
  have HC := Lib.hid (by have := containsM_says w A n c S hS (by omega); rwa [hok.2.1] at this)
  have HL := Lib.hid (fun W (hb : Below w.heap.size w W) => by have := rlevel_says W A n c _ (hS.below hb).mtx (by omega); rwa [hok.2.2] at this)
  have HX := Lib.hid hS.mtx
  obtain ⟨r0, hr0, _, hr0l⟩ := hlev.get (show 0 < n by omega)
  obtain ⟨b0, o0, A0, c0, hA, hb0, hc0, _⟩ := hS.mtx.row hr0
  subst hA
  rw [hr0l, Nat.add_zero] at hc0
  have hn0 : 0 < n := by omega
  have hn0' : (0 : Int) < (n : Int) := by omega
  have HCO := Lib.hid h
  have HLV := Lib.hid hlev
  clear hS hok h hlev hr0 hr0l
  go_enter Try.func12, Try.ntmps12
  go_upto_region 5 with (first
    | (go_at_call 20; refine HM.out.mono ?_; rintro e wn ⟨rfl, hwn⟩; obtain rfl : w = wn := hwn.symm)
    | (go_at_call 21; refine HC.out.mono ?_; rintro e w1 ⟨rfl, hb1⟩; have HB1 := Lib.hid hb1; clear hb1)
    | (go_at_call 23; refine (HL.out _ HB1.out).mono ?_; rintro e w2 ⟨rfl, hb2⟩; have HB2 := Lib.hid (HB1.out.trans (hb2.mono HB1.out.size)); clear hb2))
  have hc2 : w2.cell? ⟨b0, o0, none⟩ = some (.slice A0 q c0) := (HB2.out.cell (p := ⟨b0, o0, none⟩) hb0).trans hc0
  refine wp_region_held_drew (S := fun w' => w'.cell? ⟨b0, o0, none⟩ = some (.slice A0 q c0)) (by kernel_rfl) hc2 (fun hHeld => ?_)
  refine take_run 0 25 (v := ?_) rfl rfl (by kernel_rfl) (by kernel_rfl) (by kernel_rfl) (fun _ _ _ h => h) (by rfl) ?_ (by assumption) ?_
  rotate_left
  · (intro wq hSw; obtain hS1 := hSw; go_simp; first | done | with_reducible rfl)
  simp only [Act.put, List.setIfInBounds_toArray, List.set_cons_zero, List.set_cons_succ]
  refine take_run 1 26 (v := ?_) rfl rfl (by kernel_rfl) (by kernel_rfl) (by kernel_rfl) (fun _ _ _ h => h) (by rfl) ?_ (by assumption) ?_
  rotate_left
  · (intro wq hSw; obtain hS1 := hSw; go_simp; first | done | with_reducible rfl)
  simp only [Act.put, List.setIfInBounds_toArray, List.set_cons_zero, List.set_cons_succ]
  refine take_run 2 27 (v := ?_) rfl rfl (by kernel_rfl) (by kernel_rfl) (by kernel_rfl) (fun _ _ _ h => h) (by rfl) ?_ (by assumption) ?_
  rotate_left
  · (intro wq hSw; obtain hS1 := hSw; go_simp; first | done | with_reducible rfl)
  simp only [Act.put, List.setIfInBounds_toArray, List.set_cons_zero, List.set_cons_succ]
  refine take_run 6 31 (v := ?_) rfl rfl (by kernel_rfl) (by kernel_rfl) (by kernel_rfl) (fun _ _ _ h => h) (by rfl) ?_ (by assumption) ?_
  rotate_left
  · (intro wq hSw; obtain hS1 := hSw; go_simp; first | done | with_reducible rfl)
  simp only [Act.put, List.setIfInBounds_toArray, List.set_cons_zero, List.set_cons_succ]
  refine take_run 7 32 (v := ?_) rfl rfl (by kernel_rfl) (by kernel_rfl) (by kernel_rfl) (fun _ _ _ h => h) (by rfl) ?_ (by assumption) ?_
  rotate_left
  · (intro wq hSw; obtain hS1 := hSw; go_simp; first | done | with_reducible rfl)
  simp only [Act.put, List.setIfInBounds_toArray, List.set_cons_zero, List.set_cons_succ]
  refine take_run 8 33 (v := ?_) rfl rfl (by kernel_rfl) (by kernel_rfl) (by kernel_rfl) (fun _ _ _ h => h) (by rfl) ?_ (by assumption) ?_
  rotate_left
  · (intro wq hSw; obtain hS1 := hSw; go_simp; first | done | with_reducible rfl)
  simp only [Act.put, List.setIfInBounds_toArray, List.set_cons_zero, List.set_cons_succ]
  refine take_run 9 34 (v := ?_) rfl rfl (by kernel_rfl) (by kernel_rfl) (by kernel_rfl) (fun _ _ _ h => h) (by rfl) ?_ (by assumption) ?_
  rotate_left
  · (intro wq hSw; obtain hS1 := hSw; go_simp; first | done | with_reducible rfl)
  simp only [Act.put, List.setIfInBounds_toArray, List.set_cons_zero, List.set_cons_succ]
  refine wpAnyH_ready (rs := [3]) (by kernel_rfl) (by simp) ?_
  refine AllReadyH.cons rfl (fun K hK => ?_) AllReadyH.nil
  go_simp
  refine (behind_says w2.drew p n m (HCO.out.below (HB2.out.trans (Below.refl _ w2).drew)) hk hs _ c _ (HX.out.below (HB2.out.trans (Below.refl _ w2).drew)) q HLV.out hq).mono ?_
  rintro e w3 ⟨A3, c3, rfl, hM3, hb3, h30⟩
  have hB3 : Below w.heap.size w w3 := (HB2.out.trans (Below.refl _ w2).drew).trans (hb3.mono HB2.out.size)
  have HB3 := Lib.hid (And.intro hM3 (And.intro hB3 h30))
  have hc3 : w3.cell? ⟨b0, o0, none⟩ = some (.slice A0 q c0) := (hB3.cell (p := ⟨b0, o0, none⟩) hb0).trans hc0
  clear hM3 hb3 h30 hB3
  refine hK.out _ _ hc3 (fun hHeld => ?_)
  clear hK K
  refine wpAnyH_ready (rs := [4]) (by kernel_rfl) (by simp) ?_
  refine AllReadyH.cons rfl (fun K hK => ?_) AllReadyH.nil
  go_simp
  have hbx := Box.made w3 22 #[.slice (some ⟨b0, o0, none⟩) n c, .slice A3 m c3]
  have hal : Below w3.heap.size w3 (w3.alloc (.cells #[.slice (some ⟨b0, o0, none⟩) n c, .slice A3 m c3] 22)) := (Below.refl _ w3).alloc (Nat.le_refl _) _
  have HAL := Lib.hid (HB3.out.2.1.trans (hal.mono HB3.out.2.1.size))
  have HCC := Lib.hid (concatR_says _ w3.heap.size _ _ n m c c3 _ _ (by exact (hbx.cell 0).trans rfl) (by exact (hbx.cell 1).trans rfl) hbx.lt (HX.out.below HAL.out) (HB3.out.1.below hal) (by omega) (by omega) HB3.out.2.2)
  have hc4 := (HAL.out.cell (p := ⟨b0, o0, none⟩) hb0).trans hc0
  clear hbx hal
  refine hK.out _ _ hc4 (fun hHeld => ?_)
  clear hK K
  refine wpAnyH_ready (rs := [5]) (by kernel_rfl) (by simp) ?_
  refine AllReadyH.cons rfl (fun K hK => ?_) AllReadyH.nil
  go_simp
  refine (HCC.out).mono ?_
  rintro e w5 ⟨v5, rfl, ho5, hb5⟩
  have hB5 : Below w.heap.size w w5 := HAL.out.trans (hb5.mono HAL.out.size)
  obtain ⟨A5, c5, rfl, hM5⟩ := ho5.mtx
  have hc5 : w5.cell? ⟨b0, o0, none⟩ = some (.slice A0 q c0) := (hB5.cell (p := ⟨b0, o0, none⟩) hb0).trans hc0
  have HLE := enc_lev (m := m) HLV.out hk
  have hle : (bytesOf S ++ moreL n m (bytesOf S)).length = n + m := HLE.1
  rw [hle] at hM5 ⊢
  have HB5 := Lib.hid (And.intro hM5 hB5)
  have HLE2 := Lib.hid HLE
  clear hM5 hB5 ho5 hb5 HLE hle
  refine hK.out _ _ hc5 (fun hHeld => ?_)
  clear hK K
  refine wpAnyH_ready (rs := [10]) (by kernel_rfl) (by simp) ?_
  refine AllReadyH.cons rfl (fun K hK => ?_) AllReadyH.nil
  go_simp
  refine (filled_says w5 A5 (n + m) c5 (encL n m (bytesOf S)) HB5.out.1 q (fun r hr => Nat.le_of_eq (HLE2.out.2 r hr)) (by omega) (by omega)).mono ?_
  rintro e w6 ⟨g6, B6, rfl, hF6⟩
  rw [fill_lev HLE2.out] at hF6
  have HF := Lib.hid hF6
  have hc6 : w6.cell? ⟨b0, o0, none⟩ = some (.slice A0 q c0) := (hF6.below.cell (p := ⟨b0, o0, none⟩) (Nat.lt_of_lt_of_le hb0 HB5.out.2.size)).trans hc5
  clear hF6
  refine hK.out _ _ hc6 (fun hHeld => ?_)
  clear hK K
  refine take_run 11 4 (v := ?_) rfl rfl (by kernel_rfl) (by kernel_rfl) (by kernel_rfl) (fun _ _ _ h => h) (by rfl) ?_ (by assumption) ?_
  rotate_left
  · (intro wq hSw; obtain hS1 := hSw; go_simp; first | done | with_reducible rfl)
  simp only [Act.put, List.setIfInBounds_toArray, List.set_cons_zero, List.set_cons_succ]
  refine take_run 12 5 (v := ?_) rfl rfl (by kernel_rfl) (by kernel_rfl) (by kernel_rfl) (fun _ _ _ h => h) (by rfl) ?_ (by assumption) ?_
  rotate_left
  · (intro wq hSw; obtain hS1 := hSw; go_simp; first | done | with_reducible rfl)
  simp only [Act.put, List.setIfInBounds_toArray, List.set_cons_zero, List.set_cons_succ]
  refine wpAnyH_done (by kernel_rfl) ?_ _
  go_wp2
  go_ret2
  exact ⟨g6, B6, rfl, HF.out.since HB5.out.2⟩
end Go.Proofs.Ytpbkabgjpieggaa
