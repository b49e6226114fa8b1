/-
  The reference's reader, a value: bad, Number, Small, Raw, Text, End, over the same states as lay's.
  The reference's reader: Small, Raw, Text, End.
  The reference's reader: Raw, Text, End.
-/
import Derived.Test.YthpfdenpgegheaaSlD
namespace Go.Proofs.Ythpfdenpgegheaa.Lay
open Go.RowKit

theorem refBad_any (s : ByteArray) (e : Int) (w : World) :
    Calls Try.prog 55 #[.agg #[.string s, .int .i64 0], .int .i64 e] w fun r w' => r = .returned (.agg #[.string ⟨#[]⟩, .int .i64 e]) ∧ (w.alloc (.cells #[.string ⟨#[]⟩, .int .i64 e] 91)).alloc (.cells #[.string ⟨#[]⟩, .int .i64 e] 91) = w' := by
  go_enter Try.func55, Try.ntmps55
  go_wp2
  exact bodyPost_ret (v := .agg #[.string ⟨#[]⟩, .int .i64 e]) (by simp [results, Try.results55, go_sem]) rfl ⟨rfl, rfl⟩

def RefNum (q : St) (v : Nat) (w : World) (r : Ending) (w' : World) : Prop := r = .returned (.tuple #[.agg #[.string ⟨q.1.toArray⟩, .int .i64 q.2], .int .u64 (v : Int)]) ∧ Below w.heap.size w w'

theorem refNum_bad (s : ByteArray) (e : Int) (w : World) (he : (e != 0) = true) :
    Calls Try.prog 43 #[.agg #[.string s, .int .i64 e]] w fun r w' => r = .returned (.tuple #[.agg #[.string s, .int .i64 e], .int .u64 0]) ∧ Below w.heap.size w w' := by
  go_enter Try.func43, Try.ntmps43
  go_wp2
  exact bodyPost_ret (v := .tuple #[.agg #[.string s, .int .i64 e], .int .u64 0]) (by simp [results, Try.results43, go_sem]) rfl ⟨rfl, ((Below.refl _ _).alloc (Nat.le_refl _) _).alloc (by simp) _⟩

theorem refNum_empty (s : ByteArray) (w : World) (h : ((s.size : Int) == 0) = true) :
    Calls Try.prog 43 #[.agg #[.string s, .int .i64 0]] w fun r w' => r = .returned (.tuple #[.agg #[.string ⟨#[]⟩, .int .i64 10], .int .u64 0]) ∧ Below w.heap.size w w' := by
  go_enter Try.func43, Try.ntmps43
  go_wp2_with fail
  refine (refBad_any s 10 _).mono ?_
  rintro r w' ⟨rfl, rfl⟩
  go_wp2_with fail
  exact bodyPost_ret (v := .tuple #[.agg #[.string ⟨#[]⟩, .int .i64 10], .int .u64 0]) (by simp [results, Try.results43, go_sem]) rfl ⟨rfl, ((((Below.refl _ _).alloc (Nat.le_refl _) _).alloc (by simp) _).alloc (by simp; omega) _).alloc (by simp; omega) _⟩

theorem refNum_above (s : ByteArray) (w : World) (h0 : ((s.size : Int) == 0) = false) (hp : 0 < s.size) (h : 8 < wrap64 ((s[0]'hp).toNat : Int)) :
    Calls Try.prog 43 #[.agg #[.string s, .int .i64 0]] w fun r w' => r = .returned (.tuple #[.agg #[.string ⟨#[]⟩, .int .i64 11], .int .u64 0]) ∧ Below w.heap.size w w' := by
  go_enter Try.func43, Try.ntmps43
  go_wp2_with fail
  refine (refBad_any s 11 _).mono ?_
  rintro r w' ⟨rfl, rfl⟩
  go_wp2_with fail
  exact bodyPost_ret (v := .tuple #[.agg #[.string ⟨#[]⟩, .int .i64 11], .int .u64 0]) (by simp [results, Try.results43, go_sem]) rfl ⟨rfl, ((((Below.refl _ _).alloc (Nat.le_refl _) _).alloc (by simp) _).alloc (by simp; omega) _).alloc (by simp; omega) _⟩

theorem refNum_short (s : ByteArray) (w : World) (_hs : s.size ≤ 4000) (h0 : ((s.size : Int) == 0) = false) (hp : 0 < s.size) (h : ((s[0]'hp).toNat : Int) ≤ 8) (h' : (s.size : Int) < 1 + ((s[0]'hp).toNat : Int)) :
    Calls Try.prog 43 #[.agg #[.string s, .int .i64 0]] w fun r w' => r = .returned (.tuple #[.agg #[.string ⟨#[]⟩, .int .i64 10], .int .u64 0]) ∧ Below w.heap.size w w' := by
  go_enter Try.func43, Try.ntmps43
  go_wp2_with fail
  refine (refBad_any s 10 _).mono ?_
  rintro r w' ⟨rfl, rfl⟩
  go_wp2_with fail
  exact bodyPost_ret (v := .tuple #[.agg #[.string ⟨#[]⟩, .int .i64 10], .int .u64 0]) (by simp [results, Try.results43, go_sem]) rfl ⟨rfl, ((((Below.refl _ _).alloc (Nat.le_refl _) _).alloc (by simp) _).alloc (by simp; omega) _).alloc (by simp; omega) _⟩

theorem value_step2 (s : ByteArray) (k : Nat) (hk : k < 8) (h : k + 1 < s.size) :
    IntKind.u64.wrap (IntKind.u64.wrap (256 * ((beVal ((s.data.toList.drop 1).take k) : Nat) : Int)) + IntKind.u64.wrap ((s[k + 1]).toNat : Int)) = ((beVal ((s.data.toList.drop 1).take (k + 1)) : Nat) : Int) := by
  have hv := beVal_lt ((s.data.toList.drop 1).take k)
  have hl : ((s.data.toList.drop 1).take k).length ≤ 7 := by
    have := List.length_take_le k (s.data.toList.drop 1)
    omega
  have hp : 256 ^ ((s.data.toList.drop 1).take k).length ≤ 256 ^ 7 := Nat.pow_le_pow_right (by omega) hl
  have hb := (s[k + 1]).toNat_lt
  rw [drop1_take s k h, beVal_snoc, IntKind.wrap_u64, IntKind.wrap_u64, IntKind.wrap_u64]
  omega

theorem refNum_full (s : ByteArray) (w : World) (hs : s.size ≤ 4000) (h0 : ((s.size : Int) == 0) = false) (hp : 0 < s.size) (h : ((s[0]'hp).toNat : Int) ≤ 8) (h' : 1 + ((s[0]'hp).toNat : Int) ≤ (s.size : Int)) (e : Int)
    (he : (e = 11 ∧ ∃ h1 : 1 < s.size, (0 < (s[0]'hp).toNat) ∧ (((s[1]'h1).toNat : Int) == 0) = true) ∨ (e = 0 ∧ ∀ h1 : 1 < s.size, 0 < (s[0]'hp).toNat → (((s[1]'h1).toNat : Int) == 0) = false)) :
    Calls Try.prog 43 #[.agg #[.string s, .int .i64 0]] w fun r w' => r = .returned (.tuple #[.agg #[.string (if e = 0 then s.extract (1 + (s[0]'hp).toNat) s.size else ⟨#[]⟩), .int .i64 e], .int .u64 (if e = 0 then beVal ((s.data.toList.drop 1).take (s[0]'hp).toNat) else 0 : Nat)]) ∧ Below w.heap.size w w' := by
  have HE := Lib.hid he
  clear he
  have hd1 : decide ((8 : Int) < ((s[0]'hp).toNat : Int)) = false := by simp; omega
  have hd2 : decide ((s.size : Int) < 1 + ((s[0]'hp).toNat : Int)) = false := by simp; omega
  go_enter Try.func43, Try.ntmps43
  go_wp2_with fail
  go_loop [5, 6] (fun v i => ∃ k : Nat, k ≤ (s[0]'hp).toNat ∧ i = .int .i64 ((k : Int) + 1) ∧ v = .int .u64 (beVal ((s.data.toList.drop 1).take k))) (fun _ i => ((s[0]'hp).toNat + 1) - (intOf i).toNat)
  case atStart => exact ⟨0, Nat.zero_le _, rfl, rfl⟩
  case round =>
    obtain ⟨k, hk, rfl, rfl⟩ := hrel
    by_cases hlt : k < (s[0]'hp).toNat
    · have hv := value_step2 s k (by omega) (by omega)
      rw [List.drop_one] at hv
      have HV := Lib.hid hv
      clear hv
      go_wp2
      go_round
      case rel =>
        refine ⟨k + 1, by omega, by go_num, ?_⟩
        rw [List.drop_one, HV.out]
      case measure => simp [intOf]; omega
    · obtain rfl : k = (s[0]'hp).toNat := by omega
      rcases HE.out with ⟨rfl, h1, hm0, hz⟩ | ⟨rfl, hz⟩
      · have hm1 : (0 : Int) < ((s[0]'hp).toNat : Int) := by omega
        clear HE
        go_wp2_with fail
        refine (refBad_any s 11 _).mono ?_
        rintro r w' ⟨rfl, rfl⟩
        go_wp2_with fail
        exact bodyPost_ret (v := .tuple #[.agg #[.string ⟨#[]⟩, .int .i64 11], .int .u64 0]) (by simp [results, Try.results43, go_sem]) rfl ⟨rfl, ((((Below.refl _ _).alloc (Nat.le_refl _) _).alloc (by simp) _).alloc (by simp; omega) _).alloc (by simp; omega) _⟩
      · by_cases hm0 : (0 : Int) < ((s[0]'hp).toNat : Int)
        · have h1 : 1 < s.size := by omega
          have hz1 := hz h1 (by omega)
          clear HE hz
          go_wp2_with fail
          exact bodyPost_ret (v := .tuple #[.agg #[.string (s.extract (1 + (s[0]'hp).toNat) s.size), .int .i64 0], .int .u64 (beVal ((s.data.toList.drop 1).take (s[0]'hp).toNat) : Nat)]) (by simp [results, Try.results43, go_sem]) rfl ⟨by simp, ((Below.refl _ _).alloc (Nat.le_refl _) _).alloc (by simp) _⟩
        · clear HE hz
          go_wp2_with fail
          exact bodyPost_ret (v := .tuple #[.agg #[.string (s.extract (1 + (s[0]'hp).toNat) s.size), .int .i64 0], .int .u64 (beVal ((s.data.toList.drop 1).take (s[0]'hp).toNat) : Nat)]) (by simp [results, Try.results43, go_sem]) rfl ⟨by simp, ((Below.refl _ _).alloc (Nat.le_refl _) _).alloc (by simp) _⟩

/-- The reference's reader at the state q. -/
def refV (q : St) : Value := .agg #[.string ⟨q.1.toArray⟩, .int .i64 q.2]

theorem refNum_any (q : St) (w : World) (hl : q.1.length ≤ 4000) : Calls Try.prog 43 #[refV q] w (RefNum (stNum q) (stNumV q) w) := by
  obtain ⟨l, e⟩ := q
  unfold refV RefNum
  by_cases he : e = 0
  · subst he
    obtain ⟨s, rfl⟩ : ∃ s : ByteArray, l = s.data.toList := ⟨⟨l.toArray⟩, rfl⟩
    rw [string_eq]
    have hs : s.size ≤ 4000 := by rw [← size_data]; exact hl
    have eN : stNum (s.data.toList, 0) = (numRest s.data.toList, numErr s.data.toList) := by simp only [stNum, if_true]
    have eV : stNumV (s.data.toList, 0) = numVal s.data.toList := by simp only [stNumV, if_true]
    rw [eN, eV]
    have eBad : numErr s.data.toList ≠ 0 → numRest s.data.toList = [] ∧ numVal s.data.toList = 0 := fun h => by simp only [numRest, numVal, if_neg h, and_self]
    rcases Nat.eq_zero_or_pos s.size with hz | hp
    · have hl0 := toList_empty s hz
      have hE : numErr s.data.toList = 10 := by rw [hl0]; rfl
      obtain ⟨e1, e2⟩ := eBad (by rw [hE]; decide)
      rw [e1, e2, hE]
      exact refNum_empty s w (by rw [hz]; rfl)
    · have hcons := toList_cons s hp
      have hlen : (s.data.toList.drop 1).length = s.size - 1 := by rw [List.length_drop, size_data]
      have h0 : ((s.size : Int) == 0) = false := by
        rw [beq_eq_false_iff_ne]
        omega
      have h256 : s[0].toNat < 256 := s[0].toNat_lt
      by_cases h8 : 8 < s[0].toNat
      · have hE : numErr s.data.toList = 11 := by rw [hcons]; simp [numErr, h8]
        obtain ⟨e1, e2⟩ := eBad (by rw [hE]; decide)
        rw [e1, e2, hE]
        exact refNum_above s w h0 hp (by rw [byte_wrap]; omega)
      · by_cases hsh : s.size - 1 < s[0].toNat
        · have hE : numErr s.data.toList = 10 := by
            rw [hcons]
            simp only [numErr]
            rw [if_neg h8, if_pos (by rw [hlen]; exact hsh)]
          obtain ⟨e1, e2⟩ := eBad (by rw [hE]; decide)
          rw [e1, e2, hE]
          exact refNum_short s w hs h0 hp (by omega) (by omega)
        · have hh : ∀ h1 : 1 < s.size, (s.data.toList.drop 1).head? = some s[1] := fun h1 => by
            obtain ⟨⟨l⟩⟩ := s
            match l, h1 with
            | [x], h1 => simp [ByteArray.size] at h1
            | x :: y :: t, _ => rfl
          by_cases hzero : 0 < s[0].toNat ∧ (s.data.toList.drop 1).head? = some 0
          · have hE : numErr s.data.toList = 11 := by
              rw [hcons]
              simp only [numErr]
              rw [if_neg h8, if_neg (by rw [hlen]; exact hsh), if_pos hzero]
            obtain ⟨e1, e2⟩ := eBad (by rw [hE]; decide)
            rw [e1, e2, hE]
            have h1 : 1 < s.size := by omega
            have hy : s[1] = 0 := by
              have := hzero.2
              rw [hh h1] at this
              exact Option.some.inj this
            have hf := refNum_full s w hs h0 hp (by omega) (by omega) 11 (.inl ⟨rfl, h1, hzero.1, by rw [hy]; rfl⟩)
            simpa using hf
          · have hE : numErr s.data.toList = 0 := by
              rw [hcons]
              simp only [numErr]
              rw [if_neg h8, if_neg (by rw [hlen]; exact hsh), if_neg hzero]
            have hf := refNum_full s w hs h0 hp (by omega) (by omega) 0 (.inr ⟨rfl, fun h1 hpos => by
              rw [beq_eq_false_iff_ne]
              intro hc
              apply hzero
              refine ⟨hpos, ?_⟩
              rw [hh h1]
              have : s[1].toNat = 0 := by omega
              rw [UInt8.toNat_inj.1 (show s[1].toNat = (0 : UInt8).toNat from this)]⟩)
            have hhd : s.data.toList.headD 0 = s[0] := by rw [hcons]; rfl
            have e1 : numRest s.data.toList = (s.extract (1 + s[0].toNat) s.size).data.toList := by
              rw [numRest, if_pos hE, hhd, Lib.extract_to_end]
            have e2 : numVal s.data.toList = beVal ((s.data.toList.drop 1).take s[0].toNat) := by rw [numVal, if_pos hE, hhd]
            rw [e1, e2, hE, string_eq]
            simpa using hf
  · have e1 : stNumV (l, e) = 0 := by simp only [stNumV, if_neg he]
    have e2 : stNum (l, e) = (l, e) := by simp only [stNum, if_neg he]
    rw [e1, e2]
    exact refNum_bad _ e w (by simpa using he)

end Go.Proofs.Ythpfdenpgegheaa.Lay
namespace Go.Proofs.Ythpfdenpgegheaa.Lay
open Go.RowKit

/-- Two blocks of the call's own: the receiver's copy, and the result's. -/
structure Two (w w1 : World) (x0 x1 y0 y1 : Value) : Prop where
  a : Box w1 w.heap.size 91 #[x0, x1]
  b : Box w1 (w.heap.size + 1) 91 #[y0, y1]

section
variable {w w1 w2 : World} {x0 x1 y0 y1 : Value}
theorem Two.c00 (h : Two w w1 x0 x1 y0 y1) : w1.cell? ⟨w.heap.size, 0, none⟩ = some x0 := h.a.cell 0
theorem Two.c01 (h : Two w w1 x0 x1 y0 y1) : w1.cell? ⟨w.heap.size, 1, none⟩ = some x1 := h.a.cell 1
theorem Two.c10 (h : Two w w1 x0 x1 y0 y1) : w1.cell? ⟨w.heap.size + 1, 0, none⟩ = some y0 := h.b.cell 0
theorem Two.c11 (h : Two w w1 x0 x1 y0 y1) : w1.cell? ⟨w.heap.size + 1, 1, none⟩ = some y1 := h.b.cell 1
theorem Two.f (h : Two w w1 x0 x1 y0 y1) : w1.frozen? ⟨w.heap.size, 0, none⟩ = false ∧ w1.frozen? ⟨w.heap.size, 1, none⟩ = false ∧ w1.frozen? ⟨w.heap.size + 1, 0, none⟩ = false ∧ w1.frozen? ⟨w.heap.size + 1, 1, none⟩ = false :=
  ⟨h.a.frozen 0, h.a.frozen 1, h.b.frozen 0, h.b.frozen 1⟩
theorem Two.made (w : World) (x0 x1 y0 y1 : Value) : Two w ((w.alloc (.cells #[x0, x1] 91)).alloc (.cells #[y0, y1] 91)) x0 x1 y0 y1 := by
  refine ⟨(Box.made w _ _).alloc _, ?_⟩
  have := Box.made (w.alloc (.cells #[x0, x1] 91)) 91 #[y0, y1]
  simpa using this
theorem Two.below (h : Two w w1 x0 x1 y0 y1) (hb : Below w1.heap.size w1 w2) : Two w w2 x0 x1 y0 y1 := ⟨h.a.below hb h.a.lt, h.b.below hb h.b.lt⟩
end

theorem box_far {w : World} {g : Nat} {t : TypeId} {cs : Array Value} (h : Box w g t cs) {p : Addr} (hp : g ≠ p.block) (u : Value) : Box (w.setCell p u) g t cs := (Below.heap_setCell w p u g hp).trans h
/-- The receiver's copy, written anew. -/
theorem Two.write {w w1 : World} {x0 x1 y0 y1 : Value} (h : Two w w1 x0 x1 y0 y1) (z0 z1 : Value) : Two w ((w1.setCell ⟨w.heap.size, 0, none⟩ z0).setCell ⟨w.heap.size, 1, none⟩ z1) z0 z1 y0 y1 :=
  ⟨Box.put (Box.put h.a 0 z0) 1 z1, box_far (box_far h.b (by simp) z0) (by simp) z1⟩
theorem refBad_b (s : ByteArray) (e : Int) (w : World) :
    Calls Try.prog 55 #[.agg #[.string s, .int .i64 0], .int .i64 e] w fun r w' => r = .returned (.agg #[.string ⟨#[]⟩, .int .i64 e]) ∧ Below w.heap.size w w' :=
  (refBad_any s e w).mono fun _ _ ⟨h1, h2⟩ => ⟨h1, by rw [← h2]; exact ((Below.refl _ w).alloc (Nat.le_refl _) _).alloc (by simp) _⟩

theorem stNumV_bad {q : St} (h : (stNum q).2 ≠ 0) : stNumV q = 0 := by
  unfold stNum at h
  unfold stNumV
  split
  · rename_i h0
    rw [if_pos h0] at h
    unfold numVal
    rw [if_neg h]
  · rfl

def RefSm (q : St) (v : Nat) (w : World) (r : Ending) (w' : World) : Prop := r = .returned (.tuple #[.agg #[.string ⟨q.1.toArray⟩, .int .i64 q.2], .int .i64 (v : Int)]) ∧ Below w.heap.size w w'

theorem refSmall_any (q : St) (w : World) (hl : q.1.length ≤ 4000) (most : Int) (hm1 : most ≤ 9223372036854775807) :
    Calls Try.prog 44 #[refV q, .int .i64 most] w (RefSm (stSmall most q) (stSmallV most q) w) := by
  have hvb := stNumV_bad (q := q)
  have hN := fun W => refNum_any q W hl
  have hv := stNumV_lt q
  unfold refV at hN ⊢
  obtain ⟨l, e⟩ := q
  dsimp only at hN ⊢
  generalize (⟨l.toArray⟩ : ByteArray) = s at *
  have HN := Lib.hid hN
  clear hN hl
  unfold stSmall stSmallV
  generalize stNum (l, e) = q1 at *
  generalize stNumV (l, e) = v at *
  obtain ⟨l1, e1⟩ := q1
  unfold RefNum at HN
  dsimp only at HN hvb ⊢
  generalize hS1 : (⟨l1.toArray⟩ : ByteArray) = s1 at *
  by_cases he : e1 = 0
  · subst he
    by_cases hb : tooBig most v = true
    · rw [if_pos rfl, if_pos rfl, if_pos hb, if_pos hb]
      by_cases h0 : most < 0
      · have hd : decide (most < 0) = true := by simpa using h0
        clear hb
        unfold RefSm
        dsimp only
        clear hv hvb hS1
        go_enter Try.func44, Try.ntmps44
        go_wp2_with fail
        refine (HN.out _).mono ?_
        rintro r w1 ⟨rfl, hb1⟩
        have hT := (Two.made w (.string s) (.int .i64 e) (.string ⟨#[]⟩) (.int .i64 0)).below hb1
        have hbel : Below w.heap.size w w1 := (((Below.refl _ w).alloc (Nat.le_refl _) _).alloc (by simp) _).trans (hb1.mono (by simp; omega))
        have hlt : w.heap.size + 1 < w1.heap.size := hT.b.lt
        have c00 := hT.c00
        have c01 := hT.c01
        have c10 := hT.c10
        have c11 := hT.c11
        obtain ⟨f00, f01, f10, f11⟩ := hT.f
        have HB := Lib.hid hbel
        have HT := Lib.hid hT
        clear hb1 hT hbel HN
        go_wp2_with fail
        refine (refBad_b s1 3 _).mono ?_
        rintro r w2 ⟨rfl, hb2⟩
        have hT2 := (HT.out.write (.string s1) (.int .i64 0)).below hb2
        have hbel2 : Below w.heap.size w w2 := ((HB.out.setCell (p := ⟨w.heap.size, 0, none⟩) (by simp) _).setCell (p := ⟨w.heap.size, 1, none⟩) (by simp) _).trans (hb2.mono (by simp [World.setCell]; omega))
        have d10 := hT2.c10
        have d11 := hT2.c11
        obtain ⟨_, _, g10, g11⟩ := hT2.f
        have HB2 := Lib.hid hbel2
        clear hb2 hT2 hbel2 c00 c01 c10 c11 f00 f01 f10 f11 hlt
        go_wp2_with fail
        exact bodyPost_ret (v := .tuple #[.agg #[.string ⟨#[]⟩, .int .i64 3], .int .i64 0]) (by simp [results, Try.results44, go_sem, d10, d11]) rfl ⟨rfl, by repeat (first | exact HB2.out | refine Below.setCell ?_ (by simp) _)⟩
      · have h1 : decide (most < 0) = false := by simpa using h0
        have h2 : most < (v : Int) := by
          unfold tooBig at hb
          rw [h1] at hb
          simpa using hb
        have hw := u64_of_nonneg most (by omega) hm1
        have hd : decide (most < (v : Int)) = true := by simpa using h2
        clear hb
        unfold RefSm
        dsimp only
        clear hv hvb hS1
        go_enter Try.func44, Try.ntmps44
        go_wp2_with fail
        refine (HN.out _).mono ?_
        rintro r w1 ⟨rfl, hb1⟩
        have hT := (Two.made w (.string s) (.int .i64 e) (.string ⟨#[]⟩) (.int .i64 0)).below hb1
        have hbel : Below w.heap.size w w1 := (((Below.refl _ w).alloc (Nat.le_refl _) _).alloc (by simp) _).trans (hb1.mono (by simp; omega))
        have hlt : w.heap.size + 1 < w1.heap.size := hT.b.lt
        have c00 := hT.c00
        have c01 := hT.c01
        have c10 := hT.c10
        have c11 := hT.c11
        obtain ⟨f00, f01, f10, f11⟩ := hT.f
        have HB := Lib.hid hbel
        have HT := Lib.hid hT
        clear hb1 hT hbel HN
        go_wp2_with fail
        refine (refBad_b s1 3 _).mono ?_
        rintro r w2 ⟨rfl, hb2⟩
        have hT2 := (HT.out.write (.string s1) (.int .i64 0)).below hb2
        have hbel2 : Below w.heap.size w w2 := ((HB.out.setCell (p := ⟨w.heap.size, 0, none⟩) (by simp) _).setCell (p := ⟨w.heap.size, 1, none⟩) (by simp) _).trans (hb2.mono (by simp [World.setCell]; omega))
        have d10 := hT2.c10
        have d11 := hT2.c11
        obtain ⟨_, _, g10, g11⟩ := hT2.f
        have HB2 := Lib.hid hbel2
        clear hb2 hT2 hbel2 c00 c01 c10 c11 f00 f01 f10 f11 hlt
        go_wp2_with fail
        exact bodyPost_ret (v := .tuple #[.agg #[.string ⟨#[]⟩, .int .i64 3], .int .i64 0]) (by simp [results, Try.results44, go_sem, d10, d11]) rfl ⟨rfl, by repeat (first | exact HB2.out | refine Below.setCell ?_ (by simp) _)⟩
    · rw [if_pos rfl, if_pos rfl, if_neg hb, if_neg hb]
      have h1 : decide (most < 0) = false := by
        unfold tooBig at hb
        cases hq : decide (most < 0)
        · rfl
        · rw [hq] at hb; simp at hb
      have h2 : decide (most < (v : Int)) = false := by
        unfold tooBig at hb
        rw [h1] at hb
        simpa using hb
      have g1 : 0 ≤ most := by simpa using h1
      have g2 : (v : Int) ≤ most := by simpa using h2
      have hw := u64_of_nonneg most g1 hm1
      have hw2 := i64_of_small v most g2 hm1
      unfold RefSm
      dsimp only
      rw [hS1]
      clear hb hv hvb hS1
      go_enter Try.func44, Try.ntmps44
      go_wp2_with fail
      refine (HN.out _).mono ?_
      rintro r w1 ⟨rfl, hb1⟩
      have hT := (Two.made w (.string s) (.int .i64 e) (.string ⟨#[]⟩) (.int .i64 0)).below hb1
      have hbel : Below w.heap.size w w1 := (((Below.refl _ w).alloc (Nat.le_refl _) _).alloc (by simp) _).trans (hb1.mono (by simp; omega))
      have c00 := hT.c00
      have c01 := hT.c01
      have c10 := hT.c10
      have c11 := hT.c11
      obtain ⟨f00, f01, f10, f11⟩ := hT.f
      have HB := Lib.hid hbel
      clear hb1 hT hbel HN
      go_wp2_with fail
      exact bodyPost_ret (v := .tuple #[.agg #[.string s1, .int .i64 0], .int .i64 (v : Int)]) (by simp [results, Try.results44, go_sem, c10, c11]) rfl ⟨rfl, by repeat (first | exact HB.out | refine Below.setCell ?_ (by simp) _)⟩
  · have hv0 : v = 0 := hvb he
    rw [if_neg he, if_neg he]
    have hd : (e1 == 0) = false := by simpa using he
    unfold RefSm
    dsimp only
    rw [hS1]
    subst hv0
    clear hvb hS1 hv
    go_enter Try.func44, Try.ntmps44
    go_wp2_with fail
    refine (HN.out _).mono ?_
    rintro r w1 ⟨rfl, hb1⟩
    have hT := (Two.made w (.string s) (.int .i64 e) (.string ⟨#[]⟩) (.int .i64 0)).below hb1
    have hbel : Below w.heap.size w w1 := (((Below.refl _ w).alloc (Nat.le_refl _) _).alloc (by simp) _).trans (hb1.mono (by simp; omega))
    have c00 := hT.c00
    have c01 := hT.c01
    have c10 := hT.c10
    have c11 := hT.c11
    obtain ⟨f00, f01, f10, f11⟩ := hT.f
    have HB := Lib.hid hbel
    clear hb1 hT hbel HN
    go_wp2_with fail
    exact bodyPost_ret (v := .tuple #[.agg #[.string s1, .int .i64 e1], .int .i64 0]) (by simp [results, Try.results44, go_sem, c10, c11]) rfl ⟨rfl, by repeat (first | exact HB.out | refine Below.setCell ?_ (by simp) _)⟩
end Go.Proofs.Ythpfdenpgegheaa.Lay
namespace Go.Proofs.Ythpfdenpgegheaa.Lay
open Go.RowKit

def RefStr (q : St) (t : List UInt8) (w : World) (r : Ending) (w' : World) : Prop := r = .returned (.tuple #[.agg #[.string ⟨q.1.toArray⟩, .int .i64 q.2], .string ⟨t.toArray⟩]) ∧ Below w.heap.size w w'

theorem refEnd_any (q : St) (w : World) :
    Calls Try.prog 45 #[refV q] w fun r w' => r = .returned (.int .i64 (stEnd q)) ∧ w.alloc (.cells #[.string ⟨q.1.toArray⟩, .int .i64 q.2] 91) = w' := by
  unfold refV stEnd
  obtain ⟨l, e⟩ := q
  dsimp only
  by_cases he : e = 0
  · subst he
    rw [if_pos rfl]
    by_cases hl : l = []
    · subst hl
      rw [if_pos rfl]
      go_enter Try.func45, Try.ntmps45
      go_wp2_with fail
      go_ret
      exact ⟨rfl, rfl⟩
    · rw [if_neg hl]
      have hz : 0 < (⟨l.toArray⟩ : ByteArray).size := by
        have := List.length_pos_iff.2 hl
        simpa [ByteArray.size] using this
      generalize (⟨l.toArray⟩ : ByteArray) = s at *
      clear hl
      go_enter Try.func45, Try.ntmps45
      go_wp2_with fail
      go_ret
      exact ⟨rfl, rfl⟩
  · rw [if_neg he]
    have hd : (e == 0) = false := by simpa using he
    generalize (⟨l.toArray⟩ : ByteArray) = s at *
    go_enter Try.func45, Try.ntmps45
    go_wp2_with fail
    go_ret
    exact ⟨rfl, rfl⟩
end Go.Proofs.Ythpfdenpgegheaa.Lay
