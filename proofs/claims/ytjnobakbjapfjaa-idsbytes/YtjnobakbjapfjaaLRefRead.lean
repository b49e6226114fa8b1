/-
  The reference's reader, a value: bad, Number, Small, Raw, Text, End, over the same states as lay's.
-/
import Derived.Test.YtjnobakbjapfjaaLPutNums
import Derived.Test.YtjnobakbjapfjaaLText
namespace Go.Proofs.Ytjnobakbjapfjaa.Lay
open Go.RowKit

theorem refBad_any (s : ByteArray) (e : Int) (w : World) :
    Calls Try.prog 57 #[.agg #[.string s, .int .i64 0], .int .i64 e] w fun r w' => r = .returned (.agg #[.string ⟨#[]⟩, .int .i64 e]) ∧ (w.alloc (.cells #[.string ⟨#[]⟩, .int .i64 e] 61)).alloc (.cells #[.string ⟨#[]⟩, .int .i64 e] 61) = w' := by
  go_enter Try.func57, Try.ntmps57
  go_wp2
  exact bodyPost_ret (v := .agg #[.string ⟨#[]⟩, .int .i64 e]) (by simp [results, Try.results57, go_sem]) rfl ⟨rfl, rfl⟩

def RefNum (q : St) (v : Nat) (w : World) (r : Ending) (w' : World) : Prop := r = .returned (.tuple #[.agg #[.string ⟨q.1.toArray⟩, .int .i64 q.2], .int .u64 (v : Int)]) ∧ Below w.heap.size w w'

theorem refNum_bad (s : ByteArray) (e : Int) (w : World) (he : (e != 0) = true) :
    Calls Try.prog 56 #[.agg #[.string s, .int .i64 e]] w fun r w' => r = .returned (.tuple #[.agg #[.string s, .int .i64 e], .int .u64 0]) ∧ Below w.heap.size w w' := by
  go_enter Try.func56, Try.ntmps56
  go_wp2
  exact bodyPost_ret (v := .tuple #[.agg #[.string s, .int .i64 e], .int .u64 0]) (by simp [results, Try.results56, go_sem]) rfl ⟨rfl, ((Below.refl _ _).alloc (Nat.le_refl _) _).alloc (by simp) _⟩

theorem refNum_empty (s : ByteArray) (w : World) (h : ((s.size : Int) == 0) = true) :
    Calls Try.prog 56 #[.agg #[.string s, .int .i64 0]] w fun r w' => r = .returned (.tuple #[.agg #[.string ⟨#[]⟩, .int .i64 10], .int .u64 0]) ∧ Below w.heap.size w w' := by
  go_enter Try.func56, Try.ntmps56
  go_wp2_with fail
  refine (refBad_any s 10 _).mono ?_
  rintro r w' ⟨rfl, rfl⟩
  go_wp2_with fail
  exact bodyPost_ret (v := .tuple #[.agg #[.string ⟨#[]⟩, .int .i64 10], .int .u64 0]) (by simp [results, Try.results56, go_sem]) rfl ⟨rfl, ((((Below.refl _ _).alloc (Nat.le_refl _) _).alloc (by simp) _).alloc (by simp; omega) _).alloc (by simp; omega) _⟩

theorem refNum_above (s : ByteArray) (w : World) (h0 : ((s.size : Int) == 0) = false) (hp : 0 < s.size) (h : 8 < wrap64 ((s[0]'hp).toNat : Int)) :
    Calls Try.prog 56 #[.agg #[.string s, .int .i64 0]] w fun r w' => r = .returned (.tuple #[.agg #[.string ⟨#[]⟩, .int .i64 11], .int .u64 0]) ∧ Below w.heap.size w w' := by
  go_enter Try.func56, Try.ntmps56
  go_wp2_with fail
  refine (refBad_any s 11 _).mono ?_
  rintro r w' ⟨rfl, rfl⟩
  go_wp2_with fail
  exact bodyPost_ret (v := .tuple #[.agg #[.string ⟨#[]⟩, .int .i64 11], .int .u64 0]) (by simp [results, Try.results56, go_sem]) rfl ⟨rfl, ((((Below.refl _ _).alloc (Nat.le_refl _) _).alloc (by simp) _).alloc (by simp; omega) _).alloc (by simp; omega) _⟩

theorem refNum_short (s : ByteArray) (w : World) (_hs : s.size ≤ 4000) (h0 : ((s.size : Int) == 0) = false) (hp : 0 < s.size) (h : ((s[0]'hp).toNat : Int) ≤ 8) (h' : (s.size : Int) < 1 + ((s[0]'hp).toNat : Int)) :
    Calls Try.prog 56 #[.agg #[.string s, .int .i64 0]] w fun r w' => r = .returned (.tuple #[.agg #[.string ⟨#[]⟩, .int .i64 10], .int .u64 0]) ∧ Below w.heap.size w w' := by
  go_enter Try.func56, Try.ntmps56
  go_wp2_with fail
  refine (refBad_any s 10 _).mono ?_
  rintro r w' ⟨rfl, rfl⟩
  go_wp2_with fail
  exact bodyPost_ret (v := .tuple #[.agg #[.string ⟨#[]⟩, .int .i64 10], .int .u64 0]) (by simp [results, Try.results56, go_sem]) rfl ⟨rfl, ((((Below.refl _ _).alloc (Nat.le_refl _) _).alloc (by simp) _).alloc (by simp; omega) _).alloc (by simp; omega) _⟩

theorem value_step2 (s : ByteArray) (k : Nat) (hk : k < 8) (h : k + 1 < s.size) :
    IntKind.u64.wrap (IntKind.u64.wrap (256 * ((beVal ((s.data.toList.drop 1).take k) : Nat) : Int)) + IntKind.u64.wrap ((s[k + 1]).toNat : Int)) = ((beVal ((s.data.toList.drop 1).take (k + 1)) : Nat) : Int) := by
  have hv := beVal_lt ((s.data.toList.drop 1).take k)
  have hl : ((s.data.toList.drop 1).take k).length ≤ 7 := by
    have := List.length_take_le k (s.data.toList.drop 1)
    omega
  have hp : 256 ^ ((s.data.toList.drop 1).take k).length ≤ 256 ^ 7 := Nat.pow_le_pow_right (by omega) hl
  have hb := (s[k + 1]).toNat_lt
  rw [drop1_take s k h, beVal_snoc, IntKind.wrap_u64, IntKind.wrap_u64, IntKind.wrap_u64]
  omega

theorem refNum_full (s : ByteArray) (w : World) (hs : s.size ≤ 4000) (h0 : ((s.size : Int) == 0) = false) (hp : 0 < s.size) (h : ((s[0]'hp).toNat : Int) ≤ 8) (h' : 1 + ((s[0]'hp).toNat : Int) ≤ (s.size : Int)) (e : Int)
    (he : (e = 11 ∧ ∃ h1 : 1 < s.size, (0 < (s[0]'hp).toNat) ∧ (((s[1]'h1).toNat : Int) == 0) = true) ∨ (e = 0 ∧ ∀ h1 : 1 < s.size, 0 < (s[0]'hp).toNat → (((s[1]'h1).toNat : Int) == 0) = false)) :
    Calls Try.prog 56 #[.agg #[.string s, .int .i64 0]] w fun r w' => r = .returned (.tuple #[.agg #[.string (if e = 0 then s.extract (1 + (s[0]'hp).toNat) s.size else ⟨#[]⟩), .int .i64 e], .int .u64 (if e = 0 then beVal ((s.data.toList.drop 1).take (s[0]'hp).toNat) else 0 : Nat)]) ∧ Below w.heap.size w w' := by
  have HE := Lib.hid he
  clear he
  have hd1 : decide ((8 : Int) < ((s[0]'hp).toNat : Int)) = false := by simp; omega
  have hd2 : decide ((s.size : Int) < 1 + ((s[0]'hp).toNat : Int)) = false := by simp; omega
  go_enter Try.func56, Try.ntmps56
  go_wp2_with fail
  go_loop [5, 6] (fun v i => ∃ k : Nat, k ≤ (s[0]'hp).toNat ∧ i = .int .i64 ((k : Int) + 1) ∧ v = .int .u64 (beVal ((s.data.toList.drop 1).take k))) (fun _ i => ((s[0]'hp).toNat + 1) - (intOf i).toNat)
  case atStart => exact ⟨0, Nat.zero_le _, rfl, rfl⟩
  case round =>
    obtain ⟨k, hk, rfl, rfl⟩ := hrel
    by_cases hlt : k < (s[0]'hp).toNat
    · have hv := value_step2 s k (by omega) (by omega)
      rw [List.drop_one] at hv
      have HV := Lib.hid hv
      clear hv
      go_wp2
      go_round
      case rel =>
        refine ⟨k + 1, by omega, by go_num, ?_⟩
        rw [List.drop_one, HV.out]
      case measure => simp [intOf]; omega
    · obtain rfl : k = (s[0]'hp).toNat := by omega
      rcases HE.out with ⟨rfl, h1, hm0, hz⟩ | ⟨rfl, hz⟩
      · have hm1 : (0 : Int) < ((s[0]'hp).toNat : Int) := by omega
        clear HE
        go_wp2_with fail
        refine (refBad_any s 11 _).mono ?_
        rintro r w' ⟨rfl, rfl⟩
        go_wp2_with fail
        exact bodyPost_ret (v := .tuple #[.agg #[.string ⟨#[]⟩, .int .i64 11], .int .u64 0]) (by simp [results, Try.results56, go_sem]) rfl ⟨rfl, ((((Below.refl _ _).alloc (Nat.le_refl _) _).alloc (by simp) _).alloc (by simp; omega) _).alloc (by simp; omega) _⟩
      · by_cases hm0 : (0 : Int) < ((s[0]'hp).toNat : Int)
        · have h1 : 1 < s.size := by omega
          have hz1 := hz h1 (by omega)
          clear HE hz
          go_wp2_with fail
          exact bodyPost_ret (v := .tuple #[.agg #[.string (s.extract (1 + (s[0]'hp).toNat) s.size), .int .i64 0], .int .u64 (beVal ((s.data.toList.drop 1).take (s[0]'hp).toNat) : Nat)]) (by simp [results, Try.results56, go_sem]) rfl ⟨by simp, ((Below.refl _ _).alloc (Nat.le_refl _) _).alloc (by simp) _⟩
        · clear HE hz
          go_wp2_with fail
          exact bodyPost_ret (v := .tuple #[.agg #[.string (s.extract (1 + (s[0]'hp).toNat) s.size), .int .i64 0], .int .u64 (beVal ((s.data.toList.drop 1).take (s[0]'hp).toNat) : Nat)]) (by simp [results, Try.results56, go_sem]) rfl ⟨by simp, ((Below.refl _ _).alloc (Nat.le_refl _) _).alloc (by simp) _⟩

/-- The reference's reader at the state q. -/
def refV (q : St) : Value := .agg #[.string ⟨q.1.toArray⟩, .int .i64 q.2]

theorem refNum_any (q : St) (w : World) (hl : q.1.length ≤ 4000) : Calls Try.prog 56 #[refV q] w (RefNum (stNum q) (stNumV q) w) := by
  obtain ⟨l, e⟩ := q
  unfold refV RefNum
  by_cases he : e = 0
  · subst he
    obtain ⟨s, rfl⟩ : ∃ s : ByteArray, l = s.data.toList := ⟨⟨l.toArray⟩, rfl⟩
    rw [string_eq]
    have hs : s.size ≤ 4000 := by rw [← size_data]; exact hl
    have eN : stNum (s.data.toList, 0) = (numRest s.data.toList, numErr s.data.toList) := by simp only [stNum, if_true]
    have eV : stNumV (s.data.toList, 0) = numVal s.data.toList := by simp only [stNumV, if_true]
    rw [eN, eV]
    have eBad : numErr s.data.toList ≠ 0 → numRest s.data.toList = [] ∧ numVal s.data.toList = 0 := fun h => by simp only [numRest, numVal, if_neg h, and_self]
    rcases Nat.eq_zero_or_pos s.size with hz | hp
    · have hl0 := toList_empty s hz
      have hE : numErr s.data.toList = 10 := by rw [hl0]; rfl
      obtain ⟨e1, e2⟩ := eBad (by rw [hE]; decide)
      rw [e1, e2, hE]
      exact refNum_empty s w (by rw [hz]; rfl)
    · have hcons := toList_cons s hp
      have hlen : (s.data.toList.drop 1).length = s.size - 1 := by rw [List.length_drop, size_data]
      have h0 : ((s.size : Int) == 0) = false := by
        rw [beq_eq_false_iff_ne]
        omega
      have h256 : s[0].toNat < 256 := s[0].toNat_lt
      by_cases h8 : 8 < s[0].toNat
      · have hE : numErr s.data.toList = 11 := by rw [hcons]; simp [numErr, h8]
        obtain ⟨e1, e2⟩ := eBad (by rw [hE]; decide)
        rw [e1, e2, hE]
        exact refNum_above s w h0 hp (by rw [byte_wrap]; omega)
      · by_cases hsh : s.size - 1 < s[0].toNat
        · have hE : numErr s.data.toList = 10 := by
            rw [hcons]
            simp only [numErr]
            rw [if_neg h8, if_pos (by rw [hlen]; exact hsh)]
          obtain ⟨e1, e2⟩ := eBad (by rw [hE]; decide)
          rw [e1, e2, hE]
          exact refNum_short s w hs h0 hp (by omega) (by omega)
        · have hh : ∀ h1 : 1 < s.size, (s.data.toList.drop 1).head? = some s[1] := fun h1 => by
            obtain ⟨⟨l⟩⟩ := s
            match l, h1 with
            | [x], h1 => simp [ByteArray.size] at h1
            | x :: y :: t, _ => rfl
          by_cases hzero : 0 < s[0].toNat ∧ (s.data.toList.drop 1).head? = some 0
          · have hE : numErr s.data.toList = 11 := by
              rw [hcons]
              simp only [numErr]
              rw [if_neg h8, if_neg (by rw [hlen]; exact hsh), if_pos hzero]
            obtain ⟨e1, e2⟩ := eBad (by rw [hE]; decide)
            rw [e1, e2, hE]
            have h1 : 1 < s.size := by omega
            have hy : s[1] = 0 := by
              have := hzero.2
              rw [hh h1] at this
              exact Option.some.inj this
            have hf := refNum_full s w hs h0 hp (by omega) (by omega) 11 (.inl ⟨rfl, h1, hzero.1, by rw [hy]; rfl⟩)
            simpa using hf
          · have hE : numErr s.data.toList = 0 := by
              rw [hcons]
              simp only [numErr]
              rw [if_neg h8, if_neg (by rw [hlen]; exact hsh), if_neg hzero]
            have hf := refNum_full s w hs h0 hp (by omega) (by omega) 0 (.inr ⟨rfl, fun h1 hpos => by
              rw [beq_eq_false_iff_ne]
              intro hc
              apply hzero
              refine ⟨hpos, ?_⟩
              rw [hh h1]
              have : s[1].toNat = 0 := by omega
              rw [UInt8.toNat_inj.1 (show s[1].toNat = (0 : UInt8).toNat from this)]⟩)
            have hhd : s.data.toList.headD 0 = s[0] := by rw [hcons]; rfl
            have e1 : numRest s.data.toList = (s.extract (1 + s[0].toNat) s.size).data.toList := by
              rw [numRest, if_pos hE, hhd, Lib.extract_to_end]
            have e2 : numVal s.data.toList = beVal ((s.data.toList.drop 1).take s[0].toNat) := by rw [numVal, if_pos hE, hhd]
            rw [e1, e2, hE, string_eq]
            simpa using hf
  · have e1 : stNumV (l, e) = 0 := by simp only [stNumV, if_neg he]
    have e2 : stNum (l, e) = (l, e) := by simp only [stNum, if_neg he]
    rw [e1, e2]
    exact refNum_bad _ e w (by simpa using he)

end Go.Proofs.Ytjnobakbjapfjaa.Lay
