/-
  Decode, whole.
-/
import Derived.Test.YtpbkabgjpieggaaThere
namespace Go.Proofs.Ytpbkabgjpieggaa
open Go.RowKit

theorem there_take (S : List (Option (List UInt8))) : ∀ k, k ≤ S.length → (thereL (S.take k)).length = (placesTo S false k).length
  | 0, _ => by simp [thereL, placesTo]
  | k + 1, h => by
    rw [placesTo_succ, List.length_append, ← there_take S k (by omega), List.take_add_one, List.getElem?_eq_getElem (by omega)]
    unfold thereL
    rw [List.filterMap_append, List.length_append]
    congr 1
    rw [List.getD_eq_getElem?_getD, List.getElem?_eq_getElem (by omega)]
    cases h1 : S[k]'(by omega) with
    | none => rfl
    | some r => rfl
theorem there_enough {k m : Nat} {S : List (Option (List UInt8))} (hl : S.length = k + m) (h : k ≤ (thereL S).length) : (gapsL k S).length ≤ (hereL k m S).length := by
  have h1 : (thereL S).length = (thereL (S.take k)).length + (thereL (S.drop k)).length := by
    conv => lhs; rw [← List.take_append_drop k S]
    unfold thereL
    rw [List.filterMap_append, List.length_append]
  have h2 : (thereL (S.drop k)).length = (hereL k m S).length := by
    have hd : (S.drop k).length = m := by rw [List.length_drop]; omega
    have := there_take (S.drop k) m (by omega)
    rw [List.take_of_length_le (by omega)] at this
    exact this
  have h3 : (thereL (S.take k)).length = (placesTo (S.take k) false k).length := by
    have hd : (S.take k).length = k := by rw [List.length_take]; omega
    have := there_take (S.take k) k (by omega)
    rw [List.take_of_length_le (by omega)] at this
    exact this
  have h4 := filter_parts (fun i => ((S.take k).getD i none).isNone == true) (List.range k)
  rw [List.length_range] at h4
  have h5 : (List.range k).filter (fun i => !(((S.take k).getD i none).isNone == true)) = placesTo (S.take k) false k := by
    unfold placesTo
    apply List.filter_congr
    intro i _
    cases ((S.take k).getD i none).isNone <;> rfl
  rw [h5] at h4
  have h6 : (List.range k).filter (fun i => ((S.take k).getD i none).isNone == true) = gapsL k S := rfl
  rw [h6] at h4
  omega
theorem there_mem {S : List (Option (List UInt8))} {i : Nat} {r : List UInt8} (h : S[i]? = some (some r)) : r ∈ thereL S := by
  rw [thereL, List.mem_filterMap]
  exact ⟨some r, List.mem_of_getElem? h, rfl⟩
/-- What Decode tells. -/
def decL (k m q : Nat) (S : List (Option (List UInt8))) : List (List UInt8) := mendL k m S ((bytesOf (S.take k)).map (fillR q))
theorem rlevelG (w : World) (A : Option Addr) (n c : Nat) (M : List (List UInt8)) (hM : Mtx w A n c M) (hn : n ≤ 2000) (bb : Bool) (h : levelB M = bb) (q : Grows w) : Calls Try.prog 23 #[.slice A n c] q.val fun e w'' => e = .returned (.bool bb) ∧ ∃ p' : Grows w, w'' = p'.val := by
  have h1 := rlevel_says q.val A n c M (hM.below q.prop) hn
  rw [h] at h1
  exact h1.mono fun _ w'' hh => ⟨hh.1, ⟨w'', q.prop.trans (hh.2.mono q.prop.size)⟩, rfl⟩
theorem there_le (S : List (Option (List UInt8))) : (thereL S).length ≤ S.length := List.length_filterMap_le _ _
set_option maxRecDepth 100000 in
set_option maxHeartbeats 2000000 in
theorem decode_count (w : World) (p k m km : Nat) (h : Cod w p k m) (hk : 1 ≤ k) (hs : k + m ≤ 255) (hkm : km = k + m) (A : Option Addr) (n c : Nat) (S : List (Option (List UInt8))) (hS : Shd w A n c S) (hn : n ≤ 2000) (hno : n ≠ km) : Calls Try.prog 19 #[.pointer (some ⟨p, 0, none⟩), .slice A n c] w fun e w' => e = .returned (.tuple #[.slice none 0 0, .int .i64 2]) ∧ Below w.heap.size w w' := by
  have hl := hS.len
  have hc := h.1
  have hd := h.2.1
  have hp := h.2.2
  have HM := Lib.hid (made_yes w p k m h hk)
  have HS := Lib.hid hS
  have HC := Lib.hid h
  have s1 : (k : Int) + (m : Int) = (km : Int) := by omega
  have s2 : IntKind.i64.wrap (km : Int) = (km : Int) := IntWalk.i64_in _ (by omega)
  have s3 : ((n : Int) != (km : Int)) = true := by simp; omega
  clear h hS hkm
  go_enter Try.func19, Try.ntmps19
  go_upto_region 4 with (first
    | (go_at_call 20; refine HM.out.mono ?_; rintro e wn ⟨rfl, hwn⟩; obtain rfl : w = wn := hwn.symm)
    | (go_at_call 32; refine (cloneS_says w A n c S HS.out hn).mono ?_; rintro e w1 ⟨v1, zs, rfl, ho1, hr1, hb1⟩; have HO1 := Lib.hid (And.intro ho1 (And.intro hr1 hb1)); clear ho1 hr1 hb1)
    | (go_at_call 31; refine (delete_says w w1 v1 zs S HO1.out.1 HO1.out.2.1 HO1.out.2.2 (by rw [HO1.out.2.1.1]; omega)).mono ?_; rintro e w2 ⟨A2, n2, c2, rfl, hM2, hb2⟩; have HB2 := Lib.hid (And.intro hM2 hb2); clear hM2 hb2))
  have k1 := grows_cell ((HB2.out.2.cell (p := ⟨p, 0, none⟩) hp).trans hc) (Nat.lt_of_lt_of_le hp HB2.out.2.size)
  have k2 := grows_cell ((HB2.out.2.cell (p := ⟨p, 1, none⟩) hp).trans hd) (Nat.lt_of_lt_of_le hp HB2.out.2.size)
  have hn2 : n2 ≤ 2000 := by have h3 := there_le S; have h4 := HB2.out.1.len; omega
  refine wp_region_grows (by kernel_rfl) (by kernel_rfl) ?_
  repeat (first
    | (with_reducible refine wpQuiet_no ?_ ?_; (· first | (go_simp; done) | (go_simp; simp [undef]; done)); simp only [Act.put, List.setIfInBounds_toArray, List.set_cons_zero, List.set_cons_succ])
    | quiet_step (fail))
  refine wpQuiet_nil ?_
  rintro w3 ⟨⟨_, hw3⟩, rfl⟩
  rename_i w3
  have HB3 := Lib.hid (HB2.out.2.trans (hw3.mono HB2.out.2.size))
  clear hw3 k1 k2
  go_wp2
  go_ret2
  exact ⟨rfl, HB3.out⟩
set_option maxRecDepth 100000 in
set_option maxHeartbeats 2000000 in
theorem decode_level (w : World) (p k m : Nat) (h : Cod w p k m) (hk : 1 ≤ k) (hs : k + m ≤ 255) (n : Nat) (hkm : n = k + m) (A : Option Addr) (c : Nat) (S : List (Option (List UInt8))) (hS : Shd w A n c S) (hn : n ≤ 2000) (hno : levelB (thereL S) = false) : Calls Try.prog 19 #[.pointer (some ⟨p, 0, none⟩), .slice A n c] w fun e w' => e = .returned (.tuple #[.slice none 0 0, .int .i64 2]) ∧ Below w.heap.size w w' := by
  have hl := hS.len
  have hc := h.1
  have hd := h.2.1
  have hp := h.2.2
  have HM := Lib.hid (made_yes w p k m h hk)
  have HS := Lib.hid hS
  have HC := Lib.hid h
  have s1 : (k : Int) + (m : Int) = (n : Int) := by omega
  have s2 : IntKind.i64.wrap (n : Int) = (n : Int) := IntWalk.i64_in _ (by omega)
  have HLV := Lib.hid hno
  clear h hS hno hkm
  go_enter Try.func19, Try.ntmps19
  go_upto_region 4 with (first
    | (go_at_call 20; refine HM.out.mono ?_; rintro e wn ⟨rfl, hwn⟩; obtain rfl : w = wn := hwn.symm)
    | (go_at_call 32; refine (cloneS_says w A n c S HS.out hn).mono ?_; rintro e w1 ⟨v1, zs, rfl, ho1, hr1, hb1⟩; have HO1 := Lib.hid (And.intro ho1 (And.intro hr1 hb1)); clear ho1 hr1 hb1)
    | (go_at_call 31; refine (delete_says w w1 v1 zs S HO1.out.1 HO1.out.2.1 HO1.out.2.2 (by rw [HO1.out.2.1.1]; omega)).mono ?_; rintro e w2 ⟨A2, n2, c2, rfl, hM2, hb2⟩; have HB2 := Lib.hid (And.intro hM2 hb2); clear hM2 hb2))
  have k1 := grows_cell ((HB2.out.2.cell (p := ⟨p, 0, none⟩) hp).trans hc) (Nat.lt_of_lt_of_le hp HB2.out.2.size)
  have k2 := grows_cell ((HB2.out.2.cell (p := ⟨p, 1, none⟩) hp).trans hd) (Nat.lt_of_lt_of_le hp HB2.out.2.size)
  have hn2 : n2 ≤ 2000 := by have h3 := there_le S; have h4 := HB2.out.1.len; omega
  have k3 := rlevelG w2 A2 n2 c2 _ HB2.out.1 hn2 false HLV.out
  refine wp_region_grows (by kernel_rfl) (by kernel_rfl) ?_
  repeat (first
    | (with_reducible refine wpQuiet_no ?_ ?_; (· first | (go_simp; done) | (go_simp; simp [undef]; done)); simp only [Act.put, List.setIfInBounds_toArray, List.set_cons_zero, List.set_cons_succ])
    | quiet_step (first | (go_at_call 23; exact k3 _)))
  refine wpQuiet_nil ?_
  rintro w3 ⟨⟨_, hw3⟩, rfl⟩
  rename_i w3
  have HB3 := Lib.hid (HB2.out.2.trans (hw3.mono HB2.out.2.size))
  clear hw3 k1 k2 k3
  go_wp2
  go_ret2
  exact ⟨rfl, HB3.out⟩
set_option maxRecDepth 100000 in
set_option maxHeartbeats 2000000 in
theorem decode_few (w : World) (p k m : Nat) (h : Cod w p k m) (hk : 1 ≤ k) (hs : k + m ≤ 255) (n : Nat) (hkm : n = k + m) (A : Option Addr) (c : Nat) (S : List (Option (List UInt8))) (hS : Shd w A n c S) (hn : n ≤ 2000) (hlv : levelB (thereL S) = true) (hf : (thereL S).length < k) : Calls Try.prog 19 #[.pointer (some ⟨p, 0, none⟩), .slice A n c] w fun e w' => e = .returned (.tuple #[.slice none 0 0, .int .i64 19]) ∧ Below w.heap.size w w' := by
  have hl := hS.len
  have hc := h.1
  have hd := h.2.1
  have hp := h.2.2
  have HM := Lib.hid (made_yes w p k m h hk)
  have HS := Lib.hid hS
  have HC := Lib.hid h
  have s1 : (k : Int) + (m : Int) = (n : Int) := by omega
  have s2 : IntKind.i64.wrap (n : Int) = (n : Int) := IntWalk.i64_in _ (by omega)
  have HLV := Lib.hid hlv
  have HFE := Lib.hid hf
  clear h hS hlv hf hkm
  go_enter Try.func19, Try.ntmps19
  go_upto_region 4 with (first
    | (go_at_call 20; refine HM.out.mono ?_; rintro e wn ⟨rfl, hwn⟩; obtain rfl : w = wn := hwn.symm)
    | (go_at_call 32; refine (cloneS_says w A n c S HS.out hn).mono ?_; rintro e w1 ⟨v1, zs, rfl, ho1, hr1, hb1⟩; have HO1 := Lib.hid (And.intro ho1 (And.intro hr1 hb1)); clear ho1 hr1 hb1)
    | (go_at_call 31; refine (delete_says w w1 v1 zs S HO1.out.1 HO1.out.2.1 HO1.out.2.2 (by rw [HO1.out.2.1.1]; omega)).mono ?_; rintro e w2 ⟨A2, n2, c2, rfl, hM2, hb2⟩; have HB2 := Lib.hid (And.intro hM2 hb2); clear hM2 hb2))
  have k1 := grows_cell ((HB2.out.2.cell (p := ⟨p, 0, none⟩) hp).trans hc) (Nat.lt_of_lt_of_le hp HB2.out.2.size)
  have k2 := grows_cell ((HB2.out.2.cell (p := ⟨p, 1, none⟩) hp).trans hd) (Nat.lt_of_lt_of_le hp HB2.out.2.size)
  have hn2 : n2 ≤ 2000 := by have h3 := there_le S; have h4 := HB2.out.1.len; omega
  have k3 := rlevelG w2 A2 n2 c2 _ HB2.out.1 hn2 true HLV.out
  refine wp_region_grows (by kernel_rfl) (by kernel_rfl) ?_
  repeat (first
    | (with_reducible refine wpQuiet_no ?_ ?_; (· first | (go_simp; done) | (go_simp; simp [undef]; done)); simp only [Act.put, List.setIfInBounds_toArray, List.set_cons_zero, List.set_cons_succ])
    | quiet_step (first | (go_at_call 23; exact k3 _)))
  refine wpQuiet_nil ?_
  rintro w3 ⟨⟨_, hw3⟩, rfl⟩
  rename_i w3
  have HB3 := Lib.hid (HB2.out.2.trans (hw3.mono HB2.out.2.size))
  have hf1 : n2 < k := by have := HB2.out.1.len; have := HFE.out; omega
  have hf2 : (n2 : Int) < (k : Int) := by omega
  have hc3 : w3.cell? ⟨p, 0, none⟩ = some (.int .i64 (k : Int)) := (HB3.out.cell (p := ⟨p, 0, none⟩) hp).trans hc
  clear hw3 k1 k2 k3
  go_wp2
  go_ret2
  exact ⟨rfl, HB3.out⟩
set_option maxRecDepth 100000 in
set_option maxHeartbeats 2000000 in
theorem decode_yes (w : World) (p k m : Nat) (h : Cod w p k m) (hk : 1 ≤ k) (hs : k + m ≤ 255) (n : Nat) (hkm : n = k + m) (A : Option Addr) (c : Nat) (S : List (Option (List UInt8))) (hS : Shd w A n c S) (q : Nat) (hq : q ≤ 1000) (hlv : Lev (thereL S).length q (thereL S)) (hf : k ≤ (thereL S).length) : Calls Try.prog 19 #[.pointer (some ⟨p, 0, none⟩), .slice A n c] w (GivesFE w k q (decL k m q S)) := by
  have hn : n ≤ 2000 := by omega
  have hl := hS.len
  have hc := h.1
  have hd := h.2.1
  have hp := h.2.2
  have HM := Lib.hid (made_yes w p k m h hk)
  have HS := Lib.hid hS
  have HC := Lib.hid h
  have s1 : (k : Int) + (m : Int) = (n : Int) := by omega
  have s2 : IntKind.i64.wrap (n : Int) = (n : Int) := IntWalk.i64_in _ (by omega)
  have hlb : levelB (thereL S) = true := by
    unfold levelB
    rw [List.all_eq_true]
    intro r hr
    have h1 := hlv.2 r hr
    obtain ⟨t0, ht0⟩ : ∃ t, (thereL S).headD [] = t := ⟨_, rfl⟩
    have h2 : t0.length = q := by
      rw [← ht0]
      cases hT : thereL S with
      | nil => rw [hT] at hr; cases hr
      | cons a t => exact hlv.2 a (by rw [hT]; exact List.mem_cons_self ..)
    rw [ht0, h1, h2]
    simp
  have HLV := Lib.hid hlb
  have HQ := Lib.hid hlv
  have HFE := Lib.hid hf
  have hlS : S.length = k + m := by omega
  have HEN := Lib.hid (there_enough hlS hf)
  have HROW := Lib.hid (show ∀ (i : Nat) (r : List UInt8), S[i]? = some (some r) → r.length = q from fun i r hr => hlv.2 r (there_mem hr))
  have HRQ := Lib.hid (show ∀ r ∈ bytesOf (S.take k), r.length ≤ q from fun r hr => by
    obtain ⟨s, hs', rfl⟩ := List.mem_map.1 hr
    cases s with
    | none => exact Nat.zero_le _
    | some r =>
      obtain ⟨i, hi⟩ := List.getElem?_of_mem (List.mem_of_mem_take hs')
      exact Nat.le_of_eq (hlv.2 r (there_mem hi)))
  have HDL := Lib.hid (show ((bytesOf (S.take k)).map (fillR q)).length = k from by rw [List.length_map, bytesOf_length, List.length_take]; omega)
  have hle := hS.le
  have hs1 := fun W => sliceAt_to (P := Try.prog) Try.underlying22 rowInfo1 .i64 A n c k (by omega) W
  have hn1 : n ≤ k + m := by omega
  have hn3 : k + m ≤ n := by omega
  clear h hS hlv hlb hf hkm hlS
  go_enter Try.func19, Try.ntmps19
  go_upto_region 4 with (first
    | (go_at_call 20; refine HM.out.mono ?_; rintro e wn ⟨rfl, hwn⟩; obtain rfl : w = wn := hwn.symm)
    | (go_at_call 32; refine (cloneS_says w A n c S HS.out hn).mono ?_; rintro e w1 ⟨v1, zs, rfl, ho1, hr1, hb1⟩; have HO1 := Lib.hid (And.intro ho1 (And.intro hr1 hb1)); clear ho1 hr1 hb1)
    | (go_at_call 31; refine (delete_says w w1 v1 zs S HO1.out.1 HO1.out.2.1 HO1.out.2.2 (by rw [HO1.out.2.1.1]; omega)).mono ?_; rintro e w2 ⟨A2, n2, c2, rfl, hM2, hb2⟩; have HB2 := Lib.hid (And.intro hM2 hb2); clear hM2 hb2))
  have k1 := grows_cell ((HB2.out.2.cell (p := ⟨p, 0, none⟩) hp).trans hc) (Nat.lt_of_lt_of_le hp HB2.out.2.size)
  have k2 := grows_cell ((HB2.out.2.cell (p := ⟨p, 1, none⟩) hp).trans hd) (Nat.lt_of_lt_of_le hp HB2.out.2.size)
  have hn2 : n2 ≤ 2000 := by have h3 := there_le S; have h4 := HB2.out.1.len; omega
  have k3 := rlevelG w2 A2 n2 c2 _ HB2.out.1 hn2 true HLV.out
  refine wp_region_grows (by kernel_rfl) (by kernel_rfl) ?_
  repeat (first
    | (with_reducible refine wpQuiet_no ?_ ?_; (· first | (go_simp; done) | (go_simp; simp [undef]; done)); simp only [Act.put, List.setIfInBounds_toArray, List.set_cons_zero, List.set_cons_succ])
    | quiet_step (first | (go_at_call 23; exact k3 _)))
  refine wpQuiet_nil ?_
  rintro w3 ⟨⟨_, hw3⟩, rfl⟩
  rename_i w3
  have HB3 := Lib.hid (HB2.out.2.trans (hw3.mono HB2.out.2.size))
  have hf1 : ¬ n2 < k := by have := HB2.out.1.len; have := HFE.out; omega
  have hf2 : ¬ (n2 : Int) < (k : Int) := by omega
  have hf3 : 0 < n2 := by omega
  have hf4 : (0 : Int) < (n2 : Int) := by omega
  have hc3 : w3.cell? ⟨p, 0, none⟩ = some (.int .i64 (k : Int)) := (HB3.out.cell (p := ⟨p, 0, none⟩) hp).trans hc
  obtain ⟨r0, hr0, _, hr0l⟩ := HQ.out.get (show 0 < (thereL S).length by have := HFE.out; omega)
  obtain ⟨b0, o0, A0, c0, hA2, hb0, hc0, _⟩ := (HB2.out.1.below hw3).row hr0
  rw [hr0l, Nat.add_zero] at hc0
  subst hA2
  clear hw3 k1 k2 k3 hr0 hr0l
  go_upto_region 8 with fail
  refine wp_region_held_drew (S := fun w' => w'.cell? ⟨p, 0, none⟩ = some (.int .i64 (k : Int)) ∧ w'.cell? ⟨b0, o0, none⟩ = some (.slice A0 q c0)) (by kernel_rfl) ⟨hc3, hc0⟩ (fun hHeld => ?_)
  refine take_run 0 38 (v := ?_) rfl rfl (by kernel_rfl) (by kernel_rfl) (by kernel_rfl) (fun _ _ _ h => h) (by rfl) ?_ (by assumption) ?_
  rotate_left
  · (intro wq hSw; obtain ⟨hS1, hS2⟩ := hSw; go_simp; first | done | with_reducible rfl)
  simp only [Act.put, List.setIfInBounds_toArray, List.set_cons_zero, List.set_cons_succ]
  refine take_run 1 39 (v := ?_) rfl rfl (by kernel_rfl) (by kernel_rfl) (by kernel_rfl) (fun _ _ _ h => h) (by rfl) ?_ (by assumption) ?_
  rotate_left
  · (intro wq hSw; obtain ⟨hS1, hS2⟩ := hSw; go_simp; first | done | with_reducible rfl)
  simp only [Act.put, List.setIfInBounds_toArray, List.set_cons_zero, List.set_cons_succ]
  refine take_run 2 40 (v := ?_) rfl rfl (by kernel_rfl) (by kernel_rfl) (by kernel_rfl) (fun _ _ _ h => h) (by rfl) ?_ (by assumption) ?_
  rotate_left
  · (intro wq hSw; obtain ⟨hS1, hS2⟩ := hSw; go_simp; first | done | with_reducible rfl)
  simp only [Act.put, List.setIfInBounds_toArray, List.set_cons_zero, List.set_cons_succ]
  refine take_run 3 41 (v := ?_) rfl rfl (by kernel_rfl) (by kernel_rfl) (by kernel_rfl) (fun _ _ _ h => h) (by rfl) ?_ (by assumption) ?_
  rotate_left
  · (intro wq hSw; obtain ⟨hS1, hS2⟩ := hSw; go_simp; first | done | with_reducible rfl)
  simp only [Act.put, List.setIfInBounds_toArray, List.set_cons_zero, List.set_cons_succ]
  refine take_run 4 42 (v := ?_) rfl rfl (by kernel_rfl) (by kernel_rfl) (by kernel_rfl) (fun _ _ _ h => h) (by rfl) ?_ (by assumption) ?_
  rotate_left
  · (intro wq hSw; obtain ⟨hS1, hS2⟩ := hSw; go_simp; first | done | with_reducible rfl)
  simp only [Act.put, List.setIfInBounds_toArray, List.set_cons_zero, List.set_cons_succ]
  refine take_run 5 43 (v := ?_) rfl rfl (by kernel_rfl) (by kernel_rfl) (by kernel_rfl) (fun _ _ _ h => h) (by rfl) ?_ (by assumption) ?_
  rotate_left
  · (intro wq hSw; obtain ⟨hS1, hS2⟩ := hSw; go_simp; first | done | with_reducible rfl)
  simp only [Act.put, List.setIfInBounds_toArray, List.set_cons_zero, List.set_cons_succ]
  refine take_run 6 44 (v := ?_) rfl rfl (by kernel_rfl) (by kernel_rfl) (by kernel_rfl) (fun _ _ _ h => h) (by rfl) ?_ (by assumption) ?_
  rotate_left
  · (intro wq hSw; obtain ⟨hS1, hS2⟩ := hSw; go_simp; first | done | with_reducible rfl)
  simp only [Act.put, List.setIfInBounds_toArray, List.set_cons_zero, List.set_cons_succ]
  refine take_run 7 45 (v := ?_) rfl rfl (by kernel_rfl) (by kernel_rfl) (by kernel_rfl) (fun _ _ _ h => h) (by rfl) ?_ (by assumption) ?_
  rotate_left
  · (intro wq hSw; obtain ⟨hS1, hS2⟩ := hSw; go_simp; first | done | with_reducible rfl)
  simp only [Act.put, List.setIfInBounds_toArray, List.set_cons_zero, List.set_cons_succ]
  refine take_run 8 46 (v := ?_) rfl rfl (by kernel_rfl) (by kernel_rfl) (by kernel_rfl) (fun _ _ _ h => h) (by rfl) ?_ (by assumption) ?_
  rotate_left
  · (intro wq hSw; obtain ⟨hS1, hS2⟩ := hSw; go_simp; first | done | with_reducible rfl)
  simp only [Act.put, List.setIfInBounds_toArray, List.set_cons_zero, List.set_cons_succ]
  refine take_run 9 47 (v := ?_) rfl rfl (by kernel_rfl) (by kernel_rfl) (by kernel_rfl) (fun _ _ _ h => h) (by rfl) ?_ (by assumption) ?_
  rotate_left
  · (intro wq hSw; obtain ⟨hS1, hS2⟩ := hSw; go_simp; first | done | with_reducible rfl)
  simp only [Act.put, List.setIfInBounds_toArray, List.set_cons_zero, List.set_cons_succ]
  refine wpAnyH_ready (rs := [10]) (by kernel_rfl) (by simp) ?_
  refine AllReadyH.cons rfl (fun K hK => ?_) AllReadyH.nil
  go_simp
  refine (filled_says w3.drew A k c (bytesOf (S.take k)) ((HS.out.below (HB3.out.trans (Below.refl _ w3).drew)).first (by omega)).mtx q HRQ.out (by omega) (by omega)).mono ?_
  rintro e w4 ⟨g, B, rfl, hF4⟩
  have HF4 := Lib.hid (hF4.since (HB3.out.trans (Below.refl _ w3).drew))
  have hc4 : w4.cell? ⟨p, 0, none⟩ = some (.int .i64 (k : Int)) := (HF4.out.below.cell (p := ⟨p, 0, none⟩) hp).trans hc
  have hc5 : w4.cell? ⟨b0, o0, none⟩ = some (.slice A0 q c0) := (hF4.below.cell (p := ⟨b0, o0, none⟩) hb0).trans hc0
  clear hF4
  refine hK.out _ _ ⟨hc4, hc5⟩ (fun hHeld => ?_)
  clear hK K
  refine take_run 11 7 (v := ?_) rfl rfl (by kernel_rfl) (by kernel_rfl) (by kernel_rfl) (fun _ _ _ h => h) (by rfl) ?_ (by assumption) ?_
  rotate_left
  · (intro wq hSw; obtain ⟨hS1, hS2⟩ := hSw; go_simp; first | done | with_reducible rfl)
  simp only [Act.put, List.setIfInBounds_toArray, List.set_cons_zero, List.set_cons_succ]
  refine wpAnyH_done (by kernel_rfl) ?_ _
  go_wp2_with (go_at_call 33; refine (mend_says w w4 p k m n (HC.out.below HF4.out.below) hk hs (by omega) g q B _ HF4.out HDL.out A c S (HS.out.below HF4.out.below) hq HROW.out HEN.out).mono ?_; rintro e w5 ⟨rfl, hF5⟩; have HF5 := Lib.hid hF5; clear hF5)
  go_ret2
  exact ⟨g, B, rfl, HF5.out⟩
end Go.Proofs.Ytpbkabgjpieggaa
