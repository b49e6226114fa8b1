/-
  The reference's Of: the document's sum is sha's.
-/
import Derived.Test.YtjdepjanijambaaDoorRefBlock
import Derived.Test.YtjdepjanijambaaDoorSum
import Derived.Test.YtjdepjanijambaaDoorStr
import Derived.Test.YtjdepjanijambaaDoorHeld
namespace Go.Proofs.YtjdepjanijambaaDoor
open Go.RowKit

/-- The bytes of a block, cut out of a text. -/
def part64 (L : List UInt8) (k : Nat) : List UInt8 := (L.drop (64 * k)).take 64
theorem part64_length (L : List UInt8) (k : Nat) (h : 64 * k + 64 ≤ L.length) : (part64 L k).length = 64 := by simp [part64]; omega
theorem part64_at (L : List UInt8) (k i : Nat) (hi : i < 64) : byteAt (part64 L k) i = blockF L k i := by
  unfold byteAt blockF part64
  simp only [List.getD, List.getElem?_take, if_pos hi, List.getElem?_drop]
theorem mix_part (L : List UInt8) (k : Nat) (s : S8) : mixN s (byteAt (part64 L k)) = mixN s (blockF L k) := mixN_congr (fun i hi => part64_at L k i hi) s
theorem slice_part (L : List UInt8) (S : ByteArray) (hS : S = ⟨L.toArray⟩) (k : Nat) (a b : Int) (ha : a = ((64 * k : Nat) : Int)) (hb : b = ((64 * k + 64 : Nat) : Int)) (h : 64 * k + 64 ≤ L.length) (w : World) :
    (Instr.sliceAt 9 (.string S) (some (.int .i64 a)) (some (.int .i64 b)) none).run Tryd.prog w = .ok (.string ⟨(part64 L k).toArray⟩) w := by
  subst hS ha hb
  have hz : (⟨L.toArray⟩ : ByteArray).size = L.length := str_size L
  have he : (⟨L.toArray⟩ : ByteArray).extract (64 * k) (64 * k + 64) = ⟨(part64 L k).toArray⟩ := by
    rw [← string_eq (ByteArray.extract _ _ _), Lib.extract_data]
    congr 2
    simp [part64]
  rw [run_sliceAt_string w 9 _ _ _ _ Tryd.underlying9, run_slice_string_if w 9 _ _ _ _ _ Tryd.underlying9, if_pos ⟨by omega, by rw [hz]; omega⟩, if_pos ⟨by omega, by omega⟩, Int.toNat_natCast, Int.toNat_natCast, he]

theorem pad_total (n : Nat) : (n + (padZ n + 9)) % 64 = 0 := by unfold padZ; omega
/-- What stands behind the bytes, but for how many bits they are. -/
def pre (l : List UInt8) (j : Nat) : List UInt8 := l ++ (128 :: List.replicate j 0)
theorem pre_length (l : List UInt8) (j : Nat) : (pre l j).length = l.length + 1 + j := by simp [pre]; omega
theorem pre_next (l : List UInt8) (j : Nat) : pre l j ++ [0] = pre l (j + 1) := by simp [pre, List.replicate_succ']
theorem pre_pad (l : List UInt8) : pre l (padZ l.length) ++ low 8 (8 * l.length) = l ++ pad l.length := by simp [pre, pad]
theorem low_at (x m : Nat) (h : m < 8) : (low 8 x).take (m + 1) = (low 8 x).take m ++ [UInt8.ofNat (x / 256 ^ (7 - m) % 256)] := by
  have hc : m = 0 ∨ m = 1 ∨ m = 2 ∨ m = 3 ∨ m = 4 ∨ m = 5 ∨ m = 6 ∨ m = 7 := by omega
  rcases hc with rfl | rfl | rfl | rfl | rfl | rfl | rfl | rfl <;> rfl
theorem info34 : (Tryd.prog.info? 34).map (·.size) = some 32 := by kernel_rfl
theorem info34s (B : Nat → Nat) : (Tryd.prog.info? 34).map (·.size) = some (u8s B 32).toArray.size := by
  rw [List.size_toArray, u8s_length]
  exact info34

def RO (w wr : World) : Prop := Box wr w.heap.size 28 (u32s constV 72).toArray ∧ Box wr (w.heap.size + 1) 34 (u8s noughts 32).toArray ∧ Below w.heap.size w wr

theorem padZ_lt (n : Nat) : padZ n < 64 := by unfold padZ; omega
def padOf (l : List UInt8) (v : Value) : Nat := match v with
  | .string s => s.size - l.length
  | _ => 0

theorem RO.alloc {w wr : World} (h : RO w wr) (o : Obj) : RO w (wr.alloc o) := ⟨h.1.alloc o, h.2.1.alloc o, h.2.2.alloc (by have := h.2.1.lt; omega) o⟩
theorem const_range {wr : World} {g : Nat} (h : Box wr g 28 (u32s constV 72).toArray) : wr.rangeAt g 64 (s8s First) := fun j v hv => by
  have hj : j < 8 := (List.getElem?_eq_some_iff.1 hv).1
  have h2 := wAt_get First j hj
  rw [List.getElem?_toArray] at h2
  rw [h.cell, u32s_get constV 72 (64 + j) (by omega), const_f j hj, ← hv]
  exact h2.symm

theorem infoCl (B : Nat → Nat) : (Tryd.prog.info? 28).map (·.size) = some (u32s B 72).length := infoConsts B
/-- k blocks are mixed in; the state lies in block g. -/
def RO2 (w : World) (L : List UInt8) (g k : Nat) (wr : World) : Prop := RO w wr ∧ Box wr g 25 (s8s (stateN L k)).toArray ∧ w.heap.size + 1 < g
theorem RO2.drew {w wr : World} {L : List UInt8} {g k : Nat} (h : RO2 w L g k wr) : RO2 w L g k wr.drew := ⟨⟨h.1.1.drew, h.1.2.1.drew, h.1.2.2.drew⟩, h.2.1.drew, h.2.2⟩
theorem RO2.below {w wr w' : World} {L : List UInt8} {g k : Nat} (h : RO2 w L g k wr) (hb : Below wr.heap.size wr w') : RO2 w L g k w' :=
  ⟨⟨h.1.1.below hb h.1.1.lt, h.1.2.1.below hb h.1.2.1.lt, h.1.2.2.trans (hb.mono h.1.2.2.size)⟩, h.2.1.below hb h.2.1.lt, h.2.2⟩
theorem RO2.next {w wr : World} {L : List UInt8} {g k : Nat} (h : RO2 w L g k wr) : RO2 w L g (k + 1) (wr.setRow g (s8s (mixN (stateN L k) (blockF L k))).toArray) :=
  ⟨⟨(setRow_other _ _ _ _ (by have := h.2.2; omega)).trans h.1.1, (setRow_other _ _ _ _ (by have := h.2.2; omega)).trans h.1.2.1, below_setRow h.1.2.2 (by have := h.2.2; omega) _⟩, setRow_heap _ _ _ _ _ _ h.2.1, h.2.2⟩

theorem s8_sizes (s s' : S8) : (s8s s).toArray.size = (s8s s').toArray.size := rfl

/-- The first k bytes are told. -/
def ou (s : S8) (k i : Nat) : Nat := if i < k then sumB s i else 0
theorem ou_start (s : S8) : u8s (ou s 0) 32 = u8s noughts 32 := u8s_congr fun i _ => by rw [ou, if_neg (by omega), noughts]
theorem ou_end (s : S8) : u8s (ou s 32) 32 = u8s (sumB s) 32 := u8s_congr fun i hi => by rw [ou, if_pos hi]
theorem ou_next (s : S8) (k : Nat) : (u8s (ou s k) 32).toArray.setIfInBounds k (.int .u8 ((sumB s k : Nat) : Int)) = (u8s (ou s (k + 1)) 32).toArray := by
  rw [u8s_put]
  refine congrArg List.toArray (u8s_congr fun i _ => ?_)
  unfold ou
  by_cases e : i = k
  · subst e
    rw [if_pos rfl, if_pos (by omega)]
  · rw [if_neg e]
    by_cases hl : i < k
    · rw [if_pos hl, if_pos (by omega)]
    · rw [if_neg hl, if_neg (by omega)]
def RO3 (s : S8) (w : World) (g o k : Nat) (wr : World) : Prop := Box wr o 34 (u8s (ou s k) 32).toArray ∧ Box wr (w.heap.size + 1) 34 (u8s noughts 32).toArray ∧ Box wr g 25 (s8s s).toArray ∧ Below w.heap.size w wr ∧ w.heap.size + 1 < o ∧ g < o ∧ w.heap.size + 1 < g
theorem RO3.next {s : S8} {w wr : World} {g o k : Nat} (h : RO3 s w g o k wr) : RO3 s w g o (k + 1) (wr.setCell ⟨o, k, none⟩ (.int .u8 ((sumB s k : Nat) : Int))) := by
  obtain ⟨h1, h2, h3, h4, h5, h6, h7⟩ := h
  refine ⟨?_, h2.other _ _ (by show w.heap.size + 1 ≠ o; omega), h3.other _ _ (by show g ≠ o; omega), h4.setCell (by show w.heap.size ≤ o; omega) _, h5, h6, h7⟩
  rw [← ou_next]
  exact h1.put k _

set_option maxRecDepth 100000 in
set_option maxHeartbeats 1000000 in
theorem rof_any (l : List UInt8) (hl : l.length ≤ 700) (w : World) :
    Calls Tryd.prog 20 #[.agg (u32s constV 72).toArray, .string ⟨l.toArray⟩] w fun e w' => e = .returned (.agg (sum32 l)) ∧ Below w.heap.size w w' := by
  obtain ⟨S0, hS0⟩ : ∃ S : ByteArray, S = ⟨l.toArray⟩ := ⟨_, rfl⟩
  have hz0 : S0.size = l.length := by rw [hS0, str_size]
  obtain ⟨N, hN⟩ : ∃ N, N = l.length := ⟨_, rfl⟩
  rw [← hS0]
  have hzN : S0.size ≤ 700 := by omega
  have hst : S0 ++ (⟨#[128]⟩ : ByteArray) = ⟨(pre l 0).toArray⟩ := by
    rw [hS0, show (⟨#[128]⟩ : ByteArray) = ⟨([128] : List UInt8).toArray⟩ from rfl, str_append]
    rfl
  have HST := Lib.hid hst
  have HS0 := Lib.hid hS0
  have HZ0 := Lib.hid hz0
  have HN := Lib.hid hN
  clear hst hS0 hz0 hN
  go_enter Tryd.func20, Tryd.ntmps20
  go_wp2
  rw [← zeros32]
  have HR := Lib.hid (show RO w ((w.alloc (.cells (u32s constV 72).toArray 28)).alloc (.cells (u8s noughts 32).toArray 34)) from ⟨(Box.made w _ _).alloc _, box1 w _ _ _, below2 w _ _⟩)
  generalize (w.alloc (.cells (u32s constV 72).toArray 28)).alloc (.cells (u8s noughts 32).toArray 34) = w1 at HR ⊢
  go_loop [1] (fun v => ∃ (j : Nat) (S : ByteArray), j ≤ padZ l.length ∧ v = .string S ∧ Hid (S = ⟨(pre l j).toArray⟩)) (fun v => 64 - padOf l v)
  case atStart => exact ⟨0, _, Nat.zero_le _, rfl, HST⟩
  case round =>
    obtain ⟨j, S, hj, rfl, hS⟩ := hrel
    have hz : S.size = l.length + 1 + j := by rw [hS.out, str_size, pre_length]
    have hzp := padZ_lt l.length
    by_cases hlt : j < padZ l.length
    · obtain ⟨z, hzz⟩ : ∃ z, z = S.size := ⟨_, rfl⟩
      obtain ⟨r, hr⟩ : ∃ r, r = z % 64 := ⟨_, rfl⟩
      have er : (z : Int).tmod 64 = (r : Int) := by rw [Int.tmod_eq_emod_of_nonneg (by omega)]; omega
      have er' : (z : Int) % 64 = (r : Int) := by omega
      have hr56 : r ≠ 56 := by
        rw [hr, hzz, hz]
        unfold padZ at hlt
        omega
      have d1 : ((r : Int) == 56) = false := by simp; omega
      have d2 : ((r : Int) != 56) = true := by simp; omega
      have hzl : z ≤ 800 := by omega
      have ez : (S.size : Int) = (z : Int) := by omega
      have hst : S ++ (⟨#[0]⟩ : ByteArray) = ⟨(pre l (j + 1)).toArray⟩ := by
        rw [hS.out, show (⟨#[0]⟩ : ByteArray) = ⟨([0] : List UInt8).toArray⟩ from rfl, str_append, pre_next]
      have hms : 64 - padOf l (.string (S ++ (⟨#[0]⟩ : ByteArray))) < 64 - padOf l (.string S) := by
        have h1 : (S ++ (⟨#[0]⟩ : ByteArray)).size = l.length + 1 + (j + 1) := by rw [hst, str_size, pre_length]
        show 64 - ((S ++ (⟨#[0]⟩ : ByteArray)).size - l.length) < 64 - (S.size - l.length)
        omega
      have hS800 : S.size ≤ 800 := by omega
      have HST2 := Lib.hid hst
      have HMS := Lib.hid hms
      clear hst hms hz hzz hr hzl
      go_wp2
      go_round
      case rel => exact ⟨j + 1, _, by omega, rfl, HST2⟩
      case measure => exact HMS.out
    · obtain rfl : j = padZ l.length := by omega
      obtain ⟨z, hzz⟩ : ∃ z, z = S.size := ⟨_, rfl⟩
      have er : (z : Int).tmod 64 = 56 := by
        rw [Int.tmod_eq_emod_of_nonneg (by omega), hzz, hz]
        unfold padZ
        omega
      have er' : (z : Int) % 64 = 56 := by rw [Int.tmod_eq_emod_of_nonneg (by omega)] at er; exact er
      have ez : (S.size : Int) = (z : Int) := by omega
      have hS800 : S.size ≤ 800 := by omega
      clear hz hzz
      go_wp2
      clear er er' ez
      go_loopw [1, 6] (fun v i wr => ∃ (m : Nat) (S : ByteArray), m ≤ 8 ∧ i = .int .i64 (7 - (m : Int)) ∧ v = .string S ∧ Hid (S = ⟨(pre l (padZ l.length) ++ (low 8 (8 * l.length)).take m).toArray⟩) ∧ S.size ≤ 900 ∧ RO w wr) (fun _ i _ => (intOf i + 1).toNat)
      case atStart => exact ⟨0, S, by omega, rfl, rfl, Lib.hid (by rw [hS.out, List.take_zero, List.append_nil]), by omega, HR.out⟩
      case round =>
        clear HR hS hS800
        obtain ⟨m, S, hm, rfl, rfl, hS, hS900, hr⟩ := hrel
        have HR := Lib.hid hr
        have hz : S.size = l.length + 1 + padZ l.length + m := by
          rw [hS.out, str_size, List.length_append, pre_length, List.length_take, low_length]
          omega
        by_cases hlt : m < 8
        · obtain ⟨b, hb⟩ : ∃ b : Nat, b = 7 - m := ⟨_, rfl⟩
          have eb : (7 - (m : Int)) = (b : Int) := by omega
          have p0 : 0 ≤ 8 * (b : Int) := by omega
          have l0 : 8 * (b : Int) ≤ 64 := by omega
          have q0 : (8 * (b : Int)).toNat = 8 * b := by omega
          have hC : (S0.size : Int) * 8 / 2 ^ (8 * b) % 256 = ((UInt8.ofNat (8 * l.length / 256 ^ (7 - m) % 256)).toNat : Int) := by
            rw [HZ0.out, ← hb, Int.mul_comm, low_int]
            simp
          have hcv := conv_byte wr ((S0.size : Int) * 8 / 2 ^ (8 * b) % 256) (UInt8.ofNat (8 * l.length / 256 ^ (7 - m) % 256)) hC
          have hst : S ++ (⟨[UInt8.ofNat (8 * l.length / 256 ^ (7 - m) % 256)].toArray⟩ : ByteArray) = ⟨(pre l (padZ l.length) ++ (low 8 (8 * l.length)).take (m + 1)).toArray⟩ := by
            rw [hS.out, str_append, low_at _ m hlt, List.append_assoc]
          have hsz : (S ++ (⟨[UInt8.ofNat (8 * l.length / 256 ^ (7 - m) % 256)].toArray⟩ : ByteArray)).size ≤ 900 := by
            have h1 : (⟨[UInt8.ofNat (8 * l.length / 256 ^ (7 - m) % 256)].toArray⟩ : ByteArray).size = 1 := rfl
            rw [ByteArray.size_append, h1]
            omega
          have HST2 := Lib.hid hst
          have HSZ := Lib.hid hsz
          have HR2 := Lib.hid (hr.alloc (.cells #[.int .u8 ((S0.size : Int) * 8 / 2 ^ (8 * b) % 256)] 5))
          have HBB := Lib.hid hb
          rw [eb]
          clear hst hsz hr hC hz hb eb
          go_wp2
          go_roundw
          case rel => exact ⟨m + 1, _, by omega, by rw [show (b : Int) = 7 - (m : Int) by have := HBB.out; omega]; congr 1; omega, rfl, HST2, HSZ.out, HR2.out⟩
          case measure => simp [intOf]
        · obtain rfl : m = 8 := by omega
          obtain ⟨L, hL⟩ : ∃ L : List UInt8, L = l ++ pad l.length := ⟨_, rfl⟩
          have hSL : S = ⟨L.toArray⟩ := by rw [hS.out, hL, List.take_of_length_le (by rw [low_length]; omega), pre_pad]
          obtain ⟨Q, hQ⟩ : ∃ Q, L.length = 64 * Q := by
            refine ⟨L.length / 64, ?_⟩
            rw [hL, List.length_append, pad_length]
            have := pad_total l.length
            omega
          have hSz : S.size = 64 * Q := by rw [hSL, str_size, hQ]
          have HSL := Lib.hid hSL
          have HQ := Lib.hid hQ
          have HLL := Lib.hid hL
          have HSZ := Lib.hid hSz
          have hQ14 : Q ≤ 14 := by omega
          clear hr hz hSL hQ hL hSz hS
          go_wp2_with (first | (refine wpList_load_mid rfl 25 _ rfl w.heap.size 64 rfl (s8s First) _ (const_range HR.out.1) Tryd.underlying25 rfl (info8s First) ?_) | (refine wpList_store_row rfl 25 _ _ rfl wr.heap.size (s8s First).toArray rfl rfl 25 _ (heap_alloc_new wr _) (info8s First) rfl (s8s_one First) ?_))
          rw [World.setRow_alloc_new]
          have HR2 := Lib.hid (show RO2 w L wr.heap.size 0 (wr.alloc (.cells (s8s First).toArray 25)) from ⟨HR.out.alloc _, Box.made _ _ _, HR.out.2.1.lt⟩)
          generalize wr.heap.size = g at HR2 ⊢
          generalize wr.alloc (.cells (s8s First).toArray 25) = w3 at HR2 ⊢
          clear HR
          go_loopw [8] (fun i wr => ∃ k : Nat, k ≤ Q ∧ i = .int .i64 (64 * (k : Int)) ∧ RO2 w L g k wr) (fun i _ => (64 * (Q : Int) - intOf i).toNat)
          case atStart => exact ⟨0, by omega, rfl, HR2.out⟩
          case round =>
            clear HR2
            obtain ⟨k, hk, rfl, hr⟩ := hrel
            have HR := Lib.hid hr
            clear hr
            by_cases hlt : k < Q
            · have d1 : 64 * (k : Int) < (S.size : Int) := by rw [HSZ.out]; omega
              have hsl := fun wq => slice_part L S HSL.out k (64 * (k : Int)) (64 * (k : Int) + 64) (by omega) (by omega) (by rw [HQ.out]; omega) wq
              have e1 : IntKind.i64.wrap (64 * (k : Int) + 64) = 64 * (k : Int) + 64 := IntWalk.i64_in _ (by omega)
              have b1 : 64 * (k : Int) ≤ 896 := by omega
              have b0 : 0 ≤ 64 * (k : Int) := by omega
              go_wp2_with fail
              go_still_tail 7, (by kernel_rfl)
              refine wpStill_load rfl 28 (.tmp 2) rfl w.heap.size 0 rfl (u32s constV 72) _ HR.out.1.1.drew.range Tryd.underlying28 rfl (infoCl _) ?_
              refine wpStill_load rfl 25 (.tmp 7) rfl g 0 rfl (s8s (stateN L k)) _ HR.out.2.1.drew.range Tryd.underlying25 rfl (info8s _) ?_
              simp only [Act.put, List.setIfInBounds_toArray, List.set_cons_zero, List.set_cons_succ]
              repeat still_step
              refine wpStill_nil ?_
              change wpList _ _ _ _ _ wr.drew
              clear hsl
              go_wp2_with fail
              refine (rblock_any (stateN L k) (part64 L k) (part64_length L k (by rw [HQ.out]; omega)) wr.drew).mono ?_
              rintro e w4 ⟨rfl, hb4⟩
              rw [mix_part]
              have HR4 := Lib.hid (HR.out.drew.below hb4)
              have HN4 := Lib.hid (RO2.next HR4.out)
              clear hb4
              have hst := HR4.out.2.1
              generalize mixN (stateN L k) (blockF L k) = s2 at HN4 ⊢
              generalize stateN L k = s1 at hst ⊢
              have HST4 := Lib.hid hst
              clear hst
              go_wp2_with (refine wpList_store_row rfl 25 _ _ rfl g (s8s s2).toArray rfl rfl 25 _ HST4.out (info8s s2) (s8_sizes s1 s2) (s8s_one s2) ?_)
              go_roundw
              case rel =>
                exact ⟨k + 1, by omega, by congr 1, HN4.out⟩
              case measure => simp [intOf]; omega
            · obtain rfl : k = Q := by omega
              have d1 : ¬ 64 * (k : Int) < (S.size : Int) := by rw [HSZ.out]; omega
              go_wp2
              rw [← zeros32]
              obtain ⟨s, hs⟩ : ∃ s, s = stateN L k := ⟨_, rfl⟩
              have hsS : shaS l = s := by
                unfold shaS
                rw [← HLL.out, HQ.out, hs]
                congr 1
                omega
              have HLP := Lib.hid (show RO3 s w g wr.heap.size 0 (wr.alloc (.cells (u8s noughts 32).toArray 34)) from ⟨by rw [ou_start]; exact Box.made _ _ _, HR.out.1.2.1.alloc _, by rw [hs]; exact HR.out.2.1.alloc _, HR.out.1.2.2.alloc HR.out.1.2.2.size _, HR.out.1.2.1.lt, HR.out.2.1.lt, HR.out.2.2⟩)
              generalize wr.heap.size = o at HLP ⊢
              generalize wr.alloc (.cells (u8s noughts 32).toArray 34) = w4 at HLP ⊢
              have HSS := Lib.hid hsS
              clear hs hsS HR
              go_loopw [10] (fun i wr => ∃ k : Nat, k ≤ 32 ∧ i = .int .i64 (k : Int) ∧ RO3 s w g o k wr) (fun i _ => 32 - (intOf i).toNat)
              case atStart => exact ⟨0, by omega, rfl, HLP.out⟩
              case round =>
                clear HLP
                obtain ⟨k, hk, rfl, hr⟩ := hrel
                have HR := Lib.hid hr
                clear hr
                by_cases hlt : k < 32
                · obtain ⟨q, hq⟩ : ∃ q : Nat, q = k / 4 := ⟨_, rfl⟩
                  obtain ⟨r, hr⟩ : ∃ r : Nat, r = k % 4 := ⟨_, rfl⟩
                  obtain ⟨sh, hsh⟩ : ∃ sh : Nat, sh = 24 - 8 * r := ⟨_, rfl⟩
                  have eq1 : (k : Int) / 4 = (q : Int) := by omega
                  have eq2 : (k : Int).tdiv 4 = (q : Int) := by rw [Int.tdiv_eq_ediv_of_nonneg (by omega)]; omega
                  have er1 : (k : Int) % 4 = (r : Int) := by omega
                  have er2 : (k : Int).tmod 4 = (r : Int) := by rw [Int.tmod_eq_emod_of_nonneg (by omega)]; omega
                  have es1 : 24 - 8 * (r : Int) = (sh : Int) := by omega
                  have hr4 : (r : Int) < 4 := by omega
                  have hq8 : (q : Int) < 8 := by omega
                  have hsh24 : (sh : Int) ≤ 24 := by omega
                  obtain ⟨x, hx⟩ : ∃ x : Nat, x = wAt s q := ⟨_, rfl⟩
                  have cx := (HR.out.2.2.1.cell q).trans (wAt_get s q (by omega))
                  rw [← hx] at cx
                  have co := (HR.out.1.cell k).trans (u8s_get (ou s k) 32 k hlt)
                  have fo := HR.out.1.frozen k
                  have l5 : (k : Int) < 32 := by omega
                  have hv : x / 2 ^ sh % 256 = sumB s k := by
                    unfold sumB
                    rw [hx, hsh, hr, hq]
                    rfl
                  have HV := Lib.hid hv
                  clear hq hr hsh hx hv
                  go_wp2
                  go_roundw
                  case rel =>
                    have e : (x : Int) / 2 ^ sh % 256 = ((sumB s k : Nat) : Int) := by rw [← HV.out]; simp
                    rw [e]
                    exact ⟨k + 1, by omega, by go_num, HR.out.next⟩
                  case measure => simp [intOf]; omega
                · obtain rfl : k = 32 := by omega
                  go_wp2_with (first | (refine wpList_load_row rfl 34 _ rfl o rfl 34 _ (0, 0) _ HR.out.1 Tryd.underlying34 rfl (info34s _) ?_) | (refine wpList_store_row rfl 34 _ _ rfl (w.heap.size + 1) (u8s (ou s 32) 32).toArray rfl rfl 34 _ HR.out.2.1 (info34s _) (by simp [u8s_length]) (u8s_one _ _) ?_))
                  refine bodyPost_ret (v := .agg (sum32 l)) (results_cell_row (P := Tryd.prog) (p := 4) (ty := 34) Tryd.results20 _ _ (w.heap.size + 1) 34 _ (0, 0) _ rfl ?_ Tryd.underlying34 rfl (info34s _)) rfl ⟨rfl, ?_⟩
                  · have e : sum32 l = (u8s (ou s 32) 32).toArray := by
                      unfold sum32
                      rw [HSS.out, ou_end]
                    rw [e]
                    exact setRow_heap _ _ _ _ _ _ HR.out.2.1
                  · exact below_setRow HR.out.2.2.2.1 (by omega) _
end Go.Proofs.YtjdepjanijambaaDoor
