/-
  The reference's Of and Put at lists of ids.
-/
import Derived.Test.YtjnobakbjapfjaaRefWith
import Derived.Test.YtjnobakbjapfjaaBackPure
import Derived.Test.YtjnobakbjapfjaaLRefMore
import Derived.Test.YtjnobakbjapfjaaLRefPut
import Derived.Test.YtjnobakbjapfjaaStr
namespace Go.Proofs.Ytjnobakbjapfjaa
open Go.RowKit Go.Sort Go.Shelf

theorem ofL_step (xs : List Id) (k : Nat) (x : Id) (h : xs[k]? = some x) : ofL (ofL (xs.take k) ++ [x]) = ofL (xs.take (k + 1)) :=
  rises_ext (ofL_rises _) (ofL_rises _) (fun z => by
    rw [ofL_mem, ofL_mem, List.take_add_one, h, List.mem_append, List.mem_append, ofL_mem]
    rfl)

set_option maxHeartbeats 1000000 in
/-- The reference's Of. -/
theorem rof_says (w : World) (A : Option Addr) (n c : Nat) (xs : List Id) (hx : Ids w A n c xs) (hn : n ≤ 1000) : Calls Try.prog 37 #[.slice A n c] w (GivesJ w (ofL xs)) := by
  have HX := Lib.hid hx
  have hlen := hx.len
  clear hx
  go_enter Try.func37, Try.ntmps37
  go_wp2_with fail
  go_loopw [3, 4] (fun o i wr => ∃ (k : Nat) (A' : Option Addr) (n' c' : Nat), i = .int .i64 (k : Int) ∧ k ≤ n ∧ o = .slice A' n' c' ∧ n' ≤ 1000 ∧ Hid (Ids wr A' n' c' (ofL (xs.take k)) ∧ (A' = none → c' = 0) ∧ Below w.heap.size w wr)) (fun _ i _ => n - (Lib.intOf i).toNat)
  case atStart => exact ⟨0, none, 0, 0, rfl, Nat.zero_le _, rfl, by omega, Lib.hid ⟨by simpa [ofL, cmpTo] using Ids.nil _ _ _, fun _ => rfl, Below.refl _ _⟩⟩
  case round =>
    obtain ⟨k, A', n', c', rfl, hk, rfl, hn', H⟩ := hrel
    by_cases hlt : k < n
    · have l1 : (k : Int) < (n : Int) := by omega
      obtain ⟨x, hx⟩ : ∃ x, xs[k]? = some x := ⟨_, List.getElem?_eq_getElem (by omega)⟩
      obtain ⟨b, off, hA, hb, hr⟩ := HX.out.at hx
      subst hA
      have HR := Lib.hid (show wr.rangeAt b (off + k * 32) (enc x) from fun j v hv => (H.out.2.2.cell (p := ⟨b, off + k * 32 + j, none⟩) hb).trans (hr j v hv))
      have HST := Lib.hid (ofL_step xs k x hx)
      clear hr hb hx
      go_wp2_with (first
        | (refine wpList_load_mid rfl 22 _ rfl b (off + k * 32) rfl (enc x) _ HR.out Try.underlying22 rfl (infoJ _) ?_)
        | (go_at_call 58; refine (rwith_says wr A' n' c' (ofL (xs.take k)) H.out.1 H.out.2.1 (ofL_rises _) x hn').mono ?_; rintro e w2 ⟨A2, n2, c2, rfl, hi2, hc2, hb2⟩))
      rw [HST.out] at hi2
      have hn2 : n2 ≤ 1000 := by
        have h1 := hi2.len
        have h2 := ofL_length (xs.take (k + 1))
        have h3 := List.length_take_le (k + 1) xs
        omega
      have H2 := Lib.hid (And.intro hi2 (And.intro hc2 (H.out.2.2.trans (hb2.mono H.out.2.2.size))))
      clear hi2 hc2 hb2
      go_wp2
      go_roundw
      case rel => exact ⟨k + 1, A2, n2, c2, by go_num, by omega, rfl, hn2, H2⟩
      case measure => simp [Lib.intOf]; omega
    · obtain rfl : k = n := by omega
      have l1 : ¬ (k : Int) < (k : Int) := by omega
      go_wp2
      go_ret
      refine ⟨A', n', c', rfl, ?_, H.out.2.1, H.out.2.2⟩
      have := H.out.1
      rwa [← hlen, List.take_length] at this

theorem id_byte {w : World} {b o : Nat} {x : Id} (h : w.rangeAt b o (enc x)) {k : Nat} {u : UInt8} (hu : x.1[k]? = some u) : w.cell? ⟨b, o + k, none⟩ = some (.int .u8 (u.toNat : Int)) :=
  h k _ (by simp [enc, bc, hu])
theorem str_snoc (l : List UInt8) (x : UInt8) : (⟨l.toArray⟩ : ByteArray) ++ (⟨[x].toArray⟩ : ByteArray) = ⟨(l ++ [x]).toArray⟩ := str_append l [x]

set_option maxRecDepth 100000 in
set_option maxHeartbeats 2000000 in
/-- The reference's Put. -/
theorem rput_says (w : World) (A : Option Addr) (n c : Nat) (xs : List Id) (hx : Ids w A n c xs) (hn : n ≤ 1000) :
    Calls Try.prog 16 #[.slice A n c] w fun e w' => e = .returned (.string ⟨(putL xs).toArray⟩) ∧ Below w.heap.size w w' := by
  have HX := Lib.hid hx
  have hlen := hx.len
  clear hx
  have hm : (n : Int) % 18446744073709551616 = (n : Int) := by omega
  have hN := Lay.refNumber_any [] n w (by omega) (by simp)
  have hE : (Lay.encNum n).length ≤ 9 := by
    have := Lay.many_le n (by omega)
    rw [Lay.encNum_length]
    omega
  have hput : putL xs = Lay.encNum n ++ fb xs := by rw [putL, hlen]
  rw [hput]
  clear hput
  unfold Lay.StrPost at hN
  rw [List.nil_append] at hN
  generalize Lay.encNum n = E at hN hE ⊢
  go_enter Try.func16, Try.ntmps16
  go_wp2_with (go_at_call 40; refine hN.mono ?_; rintro e w1 ⟨rfl, hb1⟩; have HB1 := Lib.hid hb1; clear hb1)
  clear hN
  go_loopw [3, 4, 5] (fun s i _ wr => ∃ (k : Nat) (S : ByteArray), i = .int .i64 (k : Int) ∧ k ≤ n ∧ s = .string S ∧ Hid (S = ⟨(E ++ fb (xs.take k)).toArray⟩ ∧ Below w.heap.size w wr)) (fun _ i _ _ => n - (Lib.intOf i).toNat)
  case atStart => exact ⟨0, _, rfl, Nat.zero_le _, rfl, Lib.hid ⟨by simp [fb], HB1.out⟩⟩
  case round =>
    obtain ⟨k, S, rfl, hk, rfl, H⟩ := hrel
    by_cases hlt : k < n
    · have l1 : (k : Int) < (n : Int) := by omega
      obtain ⟨x, hx⟩ : ∃ x, xs[k]? = some x := ⟨_, List.getElem?_eq_getElem (by omega)⟩
      obtain ⟨b, off, hA, hb, hr⟩ := HX.out.at hx
      subst hA
      have HFB := Lib.hid (show fb (xs.take (k + 1)) = fb (xs.take k) ++ x.1 from by rw [List.take_add_one, hx, fb_append]; simp [fb])
      have HR := Lib.hid (And.intro hb hr)
      have HPL := Lib.hid (show (E ++ fb (xs.take k)).length ≤ 40000 from by rw [List.length_append, fb_length, List.length_take]; omega)
      clear hr hb hx
      go_wp2_with fail
      go_loopw [3, 5] (fun s j wr => ∃ (q : Nat) (S : ByteArray), j = .int .i64 (q : Int) ∧ q ≤ 32 ∧ s = .string S ∧ S.size ≤ 50000 ∧ Hid (S = ⟨(E ++ fb (xs.take k) ++ x.1.take q).toArray⟩ ∧ Below w.heap.size w wr)) (fun _ j _ => 32 - (Lib.intOf j).toNat)
      case atStart => exact ⟨0, S, rfl, by omega, rfl, by rw [H.out.1, str_size]; have := HPL.out; omega, Lib.hid ⟨by simpa using H.out.1, H.out.2⟩⟩
      case round =>
        obtain ⟨q, S', rfl, hq, rfl, hS', H'⟩ := hrel
        by_cases hq2 : q < 32
        · have l2 : (q : Int) < 32 := by omega
          obtain ⟨u, hu⟩ : ∃ u, x.1[q]? = some u := ⟨_, List.getElem?_eq_getElem (by rw [x.2]; exact hq2)⟩
          have hc := id_byte (show wr.rangeAt b (off + k * 32) (enc x) from fun j v hv => (H'.out.2.cell (p := ⟨b, off + k * 32 + j, none⟩) HR.out.1).trans (HR.out.2 j v hv)) hu
          have hcv := conv_byte wr (u.toNat : Int) u rfl
          have HST := Lib.hid (show S' ++ (⟨[u].toArray⟩ : ByteArray) = ⟨(E ++ fb (xs.take k) ++ x.1.take (q + 1)).toArray⟩ from by rw [H'.out.1, str_snoc, List.take_add_one, hu]; simp)
          have HSZ := Lib.hid (show (S' ++ (⟨[u].toArray⟩ : ByteArray)).size ≤ 50000 from by rw [HST.out, str_size, List.length_append, List.length_take]; have := HPL.out; omega)
          have HB' := Lib.hid (H'.out.2.alloc H'.out.2.size (.cells #[.int .u8 (u.toNat : Int)] 5))
          have hs1 : (⟨[u].toArray⟩ : ByteArray).size = 1 := rfl
          clear hu
          go_wp2_with fail
          go_roundw
          case rel => exact ⟨q + 1, _, by go_num, by omega, rfl, HSZ.out, Lib.hid ⟨HST.out, HB'.out⟩⟩
          case measure => simp [Lib.intOf]; omega
        · obtain rfl : q = 32 := by omega
          have l2 : ¬ ((32 : Nat) : Int) < 32 := by omega
          go_wp2
          go_roundw
          case rel => exact ⟨k + 1, S', by go_num, by omega, rfl, Lib.hid ⟨by rw [H'.out.1, HFB.out, show x.1.take 32 = x.1 from List.take_of_length_le (by rw [x.2]; exact Nat.le_refl _), List.append_assoc], H'.out.2⟩⟩
          case measure => simp [Lib.intOf]; omega
    · obtain rfl : k = n := by omega
      have l1 : ¬ (k : Int) < (k : Int) := by omega
      go_wp2
      go_ret
      refine ⟨?_, H.out.2⟩
      rw [H.out.1, ← hlen, List.take_length]
      rfl
end Go.Proofs.Ytjnobakbjapfjaa
