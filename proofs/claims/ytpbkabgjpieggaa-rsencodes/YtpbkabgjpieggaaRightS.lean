/-
  Right: whether all shards go together. What a coder that nobody made tells.
-/
import Derived.Test.YtpbkabgjpieggaaDecode
namespace Go.Proofs.Ytpbkabgjpieggaa
open Go.RowKit

/-- Whether all shards go together. -/
def rightB (k m : Nat) (S : List (Option (List UInt8))) : Bool := decide (S.length = k + m) && (!S.any (·.isNone) && (levelB (bytesOf (S.take k)) && decide (bytesOf S = encL k m (bytesOf (S.take k)))))
theorem madeG (w : World) (p k m : Nat) (h : Cod w p k m) (hk : 1 ≤ k) (q : Grows w) : Calls Try.prog 20 #[.pointer (some ⟨p, 0, none⟩)] q.val fun e w'' => e = .returned (.bool true) ∧ ∃ p' : Grows w, w'' = p'.val :=
  (made_yes q.val p k m (h.below q.prop) hk).mono fun _ _ hh => ⟨hh.1, q, hh.2⟩
theorem containsG (w : World) (A : Option Addr) (n c : Nat) (S : List (Option (List UInt8))) (h : Shd w A n c S) (hn : n ≤ 2000) (bb : Bool) (hb : S.any (·.isNone) = bb) (q : Grows w) : Calls Try.prog 21 #[.slice A n c, .func (.func 22) #[] #[]] q.val fun e w'' => e = .returned (.bool bb) ∧ ∃ p' : Grows w, w'' = p'.val := by
  have h1 := containsM_says q.val A n c S (h.below q.prop) hn
  rw [hb] at h1
  exact h1.mono fun _ w'' hh => ⟨hh.1, ⟨w'', q.prop.trans (hh.2.mono q.prop.size)⟩, rfl⟩
theorem any_take {S : List (Option (List UInt8))} (h : S.any (·.isNone) = false) (k : Nat) : (S.take k).any (·.isNone) = false := by
  rw [List.any_eq_false] at h ⊢
  exact fun x hx => h x (List.mem_of_mem_take hx)
theorem level_head {M : List (List UInt8)} (h : levelB M = true) : Lev M.length (colsOf M) M := level_lev h
set_option maxRecDepth 100000 in
set_option maxHeartbeats 2000000 in
theorem cright_says (w : World) (p k m km : Nat) (h : Cod w p k m) (hk : 1 ≤ k) (hs : k + m ≤ 255) (hkm : km = k + m) (A : Option Addr) (n c : Nat) (S : List (Option (List UInt8))) (hS : Shd w A n c S) (hn : n ≤ 2000) (hq : ∀ r ∈ bytesOf S, r.length ≤ 1000) :
    Calls Try.prog 15 #[.pointer (some ⟨p, 0, none⟩), .slice A n c] w fun e w' => e = .returned (.bool (rightB k m S)) ∧ Below w.heap.size w w' := by
  have hl := hS.len
  have hle := hS.le
  have k1 := grows_cell h.1 h.2.2
  have k2 := grows_cell h.2.1 h.2.2
  have k3 := madeG w p k m h hk
  have s1 : (k : Int) + (m : Int) = (km : Int) := by omega
  have s2 : IntKind.i64.wrap (km : Int) = (km : Int) := IntWalk.i64_in _ (by omega)
  by_cases h1 : n = km
  · subst h1
    cases h2 : S.any (·.isNone) with
    | true =>
      have k4 := containsG w A n c S hS hn true h2
      have F := Lib.hid (show rightB k m S = false from by rw [rightB, h2]; simp)
      clear h hS h2 hkm
      go_enter Try.func15, Try.ntmps15
      go_wp2_with fail
      refine wp_region_grows (by kernel_rfl) (by kernel_rfl) ?_
      repeat (first
        | (with_reducible refine wpQuiet_no ?_ ?_; (· first | (go_simp; done) | (go_simp; simp [undef]; done)); simp only [Act.put, List.setIfInBounds_toArray, List.set_cons_zero, List.set_cons_succ])
        | quiet_step (first | (go_at_call 20; exact k3 _) | (go_at_call 21; exact k4 _)))
      refine wpQuiet_nil ?_
      rintro w3 ⟨⟨_, hw3⟩, rfl⟩
      have HW3 := Lib.hid hw3
      clear hw3 k1 k2 k3 k4
      go_wp2
      go_ret
      exact ⟨by rw [F.out]; rfl, HW3.out⟩
    | false =>
      have k4 := containsG w A n c S hS hn false h2
      have hs1 := fun W => sliceAt_to (P := Try.prog) Try.underlying22 rowInfo1 .i64 A n c k (by omega) W
      have hc := h.1
      have hp := h.2.2
      have HC := Lib.hid h
      have HS := Lib.hid hS
      have hlt : (S.take k).length = k := by rw [List.length_take]; omega
      have hn1 : n ≤ k + m := by omega
      have hn2 : k + m ≤ n := by omega
      cases h3 : levelB (bytesOf (S.take k)) with
      | false =>
        have F := Lib.hid (show rightB k m S = false from by rw [rightB, h3]; simp)
        have HE := Lib.hid (fun W (hb : Below w.heap.size w W) => encode_no W p k m (HC.out.below hb) hk A k c (S.take k) ((HS.out.below hb).first (by omega)) (by omega) (fun e => by rw [e.2.2] at h3; cases h3))
        clear h hS h2 h3 hkm
        go_enter Try.func15, Try.ntmps15
        go_wp2_with fail
        refine wp_region_grows (by kernel_rfl) (by kernel_rfl) ?_
        repeat (first
          | (with_reducible refine wpQuiet_no ?_ ?_; (· first | (go_simp; done) | (go_simp; simp [undef]; done)); simp only [Act.put, List.setIfInBounds_toArray, List.set_cons_zero, List.set_cons_succ])
          | quiet_step (first | (go_at_call 20; exact k3 _) | (go_at_call 21; exact k4 _)))
        refine wpQuiet_nil ?_
        rintro w3 ⟨⟨_, hw3⟩, rfl⟩
        rename_i w3
        have HW3 := Lib.hid hw3
        have hc3 := (hw3.cell (p := ⟨p, 0, none⟩) hp).trans hc
        clear hw3 k1 k2 k3 k4
        go_wp2_with (go_at_call 12; refine (HE.out _ HW3.out).mono ?_; rintro e w4 ⟨rfl, hb4⟩; have HB4 := Lib.hid (HW3.out.trans (hb4.mono HW3.out.size)); clear hb4)
        go_ret
        exact ⟨by rw [F.out]; rfl, HB4.out⟩
      | true =>
        have hlev := level_head h3
        rw [bytesOf_length, hlt] at hlev
        have hq2 : colsOf (bytesOf (S.take k)) ≤ 1000 := by
          obtain ⟨r0, hr0, _, hr0l⟩ := hlev.get (show 0 < k by omega)
          rw [← hr0l]
          refine hq r0 ?_
          obtain ⟨s, hs', rfl⟩ := List.mem_map.1 (List.mem_of_getElem? hr0)
          exact List.mem_map.2 ⟨s, List.mem_of_mem_take hs', rfl⟩
        have hok : encOk k (S.take k) := ⟨hlt, any_take h2 k, h3⟩
        obtain ⟨q, hqe⟩ : ∃ q, colsOf (bytesOf (S.take k)) = q := ⟨_, rfl⟩
        rw [hqe] at hlev hq2
        have F := Lib.hid (show rightB k m S = decide (bytesOf S = encL k m (bytesOf (S.take k))) from by rw [rightB, h2, h3, decide_eq_true (show S.length = k + m by omega)]; simp)
        have HE := Lib.hid (fun W (hb : Below w.heap.size w W) => encode_yes W p k m (HC.out.below hb) hk hs A k c (S.take k) ((HS.out.below hb).first (by omega)) q hok hlev hq2)
        have HLE := Lib.hid (enc_lev (m := m) hlev hk)
        clear h hS h2 h3 hkm hlev hok hqe
        go_enter Try.func15, Try.ntmps15
        go_wp2_with fail
        refine wp_region_grows (by kernel_rfl) (by kernel_rfl) ?_
        repeat (first
          | (with_reducible refine wpQuiet_no ?_ ?_; (· first | (go_simp; done) | (go_simp; simp [undef]; done)); simp only [Act.put, List.setIfInBounds_toArray, List.set_cons_zero, List.set_cons_succ])
          | quiet_step (first | (go_at_call 20; exact k3 _) | (go_at_call 21; exact k4 _)))
        refine wpQuiet_nil ?_
        rintro w3 ⟨⟨_, hw3⟩, rfl⟩
        rename_i w3
        have HW3 := Lib.hid hw3
        have hc3 := (hw3.cell (p := ⟨p, 0, none⟩) hp).trans hc
        clear hw3 k1 k2 k3 k4
        go_wp2_with (first
          | (go_at_call 12; refine (HE.out _ HW3.out).mono ?_; rintro e w4 ⟨g4, B4, rfl, hF4⟩; have HF4 := Lib.hid (hF4.since HW3.out); clear hF4)
          | (go_at_call 29; refine (equalM_says w4 A n c _ (HS.out.below HF4.out.below).mtx (some ⟨g4, 0, none⟩) (k + m) (k + m) _ (HF4.out.mtx HLE.out.1) hn).mono ?_; rintro e w5 ⟨rfl, hb5⟩; have HB5 := Lib.hid (HF4.out.below.trans (hb5.mono HF4.out.below.size)); clear hb5))
        go_ret
        exact ⟨by rw [F.out]; rfl, HB5.out⟩
  · have s3 : ((n : Int) != (km : Int)) = true := by simp; omega
    have F := Lib.hid (show rightB k m S = false from by rw [rightB, decide_eq_false (by omega)]; rfl)
    clear h hS hkm
    go_enter Try.func15, Try.ntmps15
    go_wp2_with fail
    refine wp_region_grows (by kernel_rfl) (by kernel_rfl) ?_
    repeat (first
      | (with_reducible refine wpQuiet_no ?_ ?_; (· first | (go_simp; done) | (go_simp; simp [undef]; done)); simp only [Act.put, List.setIfInBounds_toArray, List.set_cons_zero, List.set_cons_succ])
      | quiet_step (first | (go_at_call 20; exact k3 _)))
    refine wpQuiet_nil ?_
    rintro w3 ⟨⟨_, hw3⟩, rfl⟩
    have HW3 := Lib.hid hw3
    clear hw3 k1 k2 k3
    go_wp2
    go_ret
    exact ⟨by rw [F.out]; rfl, HW3.out⟩
/-- A coder that nobody made. -/
def Bare (w : World) (P : Option Addr) : Prop := P = none ∨ ∃ p, P = some ⟨p, 0, none⟩ ∧ Cod w p 0 0
theorem Bare.below {w w' : World} {P : Option Addr} (h : Bare w P) (hb : Below w.heap.size w w') : Bare w' P := by
  rcases h with h | ⟨p, h1, h2⟩
  · exact .inl h
  · exact .inr ⟨p, h1, h2.below hb⟩
theorem made_no (w : World) (P : Option Addr) (h : Bare w P) : Calls Try.prog 20 #[.pointer P] w fun e w' => e = .returned (.bool false) ∧ w' = w := by
  rcases h with rfl | ⟨p, rfl, h2⟩
  · exact made_nil w
  · exact made_bare w p 0 h2
theorem encode_bare (w : World) (P : Option Addr) (h : Bare w P) (v : Value) : Calls Try.prog 12 #[.pointer P, v] w fun e w' => e = .returned (.tuple #[.slice none 0 0, .int .i64 1]) ∧ w' = w := by
  have HM := Lib.hid (made_no w P h)
  clear h
  go_enter Try.func12, Try.ntmps12
  go_wp2_with (go_at_call 20; refine HM.out.mono ?_; rintro e wn ⟨rfl, hwn⟩; obtain rfl : w = wn := hwn.symm)
  go_ret2
  exact ⟨rfl, rfl⟩
theorem decode_bare (w : World) (P : Option Addr) (h : Bare w P) (v : Value) : Calls Try.prog 19 #[.pointer P, v] w fun e w' => e = .returned (.tuple #[.slice none 0 0, .int .i64 1]) ∧ w' = w := by
  have HM := Lib.hid (made_no w P h)
  clear h
  go_enter Try.func19, Try.ntmps19
  go_wp2_with (go_at_call 20; refine HM.out.mono ?_; rintro e wn ⟨rfl, hwn⟩; obtain rfl : w = wn := hwn.symm)
  go_ret2
  exact ⟨rfl, rfl⟩
theorem counts_bare (w : World) (P : Option Addr) (h : Bare w P) : Calls Try.prog 11 #[.pointer P] w fun e w' => e = .returned (.tuple #[.int .i64 0, .int .i64 0]) ∧ w' = w := by
  have HM := Lib.hid (made_no w P h)
  clear h
  go_enter Try.func11, Try.ntmps11
  go_wp2_with (go_at_call 20; refine HM.out.mono ?_; rintro e wn ⟨rfl, hwn⟩; obtain rfl : w = wn := hwn.symm)
  go_ret2
  exact ⟨rfl, rfl⟩
set_option maxRecDepth 100000 in
theorem right_bare (w : World) (P : Option Addr) (h : Bare w P) (v : Value) : Calls Try.prog 15 #[.pointer P, v] w fun e w' => e = .returned (.bool false) ∧ Below w.heap.size w w' := by
  have k3 : ∀ q : Grows w, Calls Try.prog 20 #[.pointer P] q.val fun e w'' => e = .returned (.bool false) ∧ ∃ p' : Grows w, w'' = p'.val := fun q => (made_no q.val P (h.below q.prop)).mono fun _ _ hh => ⟨hh.1, q, hh.2⟩
  clear h
  go_enter Try.func15, Try.ntmps15
  go_wp2_with fail
  refine wp_region_grows (by kernel_rfl) (by kernel_rfl) ?_
  repeat (first
    | (with_reducible refine wpQuiet_no ?_ ?_; (· first | (go_simp; done) | (go_simp; simp [undef]; done)); simp only [Act.put, List.setIfInBounds_toArray, List.set_cons_zero, List.set_cons_succ])
    | quiet_step (first | (go_at_call 20; exact k3 _)))
  refine wpQuiet_nil ?_
  rintro w3 ⟨⟨_, hw3⟩, rfl⟩
  have HW3 := Lib.hid hw3
  clear hw3 k3
  go_wp2
  go_ret
  exact ⟨rfl, HW3.out⟩
end Go.Proofs.Ytpbkabgjpieggaa
