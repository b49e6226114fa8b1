/-
  lay's addNumber: a number, laid behind a row of bytes of the call's own.
-/
import Derived.Test.YthpfdenpgegheaaLPutBase
import Derived.Maps.AppendAt
namespace Go.Proofs.Ythpfdenpgegheaa.Lay
open Go.RowKit

theorem Try.byteInfo : (Try.prog.info? 5).map (fun i => (i.zero, i.size, i.bytes)) = some (some (.int .u8 0), 1, 1) := by kernel_rfl

/-- A row of bytes that the call owns, from block 'base' on. -/
def Own (w : World) (base : Nat) (v : Value) (l : List UInt8) : Prop := w.ownsRow base 5 1 v l.length (bc l)

theorem Own.below {w w' : World} {base : Nat} {v : Value} {l : List UInt8} (h : Own w base v l) (hg : w.grownBy w' v.ownBlock) (hb : base ≤ w.heap.size) : Below base w w' :=
  (Below.refl base w).grown hg hb (fun k hk => (World.ownsRow.lt h k hk).1)

/-- One byte, laid behind a row of the call's own: at the operation. -/
theorem wpList_byte {ops : Array Oper} {rest : List Oper} {o : Oper} {a : Act} {Q : Exit → Act → World → Prop} (w : World) (s x : Operand) (hgd : o.guard = none)
    (hop : o.op = .call { callee := .builtin .append, args := #[s, x], argTypes := #[22, 22] })
    (base : Nat) (v : Value) (l : List UInt8) (c : Int) (hs : a.eval s = v) (hx : a.eval x = .slice (some ⟨w.heap.size, 0, none⟩) 1 1) (b : UInt8) (hown : Own w base v l) (hc : c = (b.toNat : Int)) (hl : l.length ≤ 4294967296) (hb : base ≤ w.heap.size)
    (K : ∀ v' w', Own w' base v' (l ++ [b]) → Below base w w' → wpList Try.prog ops Q rest (a.put o.dst v') w') : wpList Try.prog ops Q (o :: rest) a (w.alloc (.cells #[.int .u8 c] 5)) := by
  subst hc
  obtain ⟨i0, hi, hz0, hz1, hz2⟩ := info_parts Try.byteInfo
  refine wpList_append_own _ hgd s x 22 hop base 5 i0 (.int .u8 0) 1 1 Try.underlying22 hi hz0 hz1 hz2 rfl (by decide) v l.length (bc l) hs (World.ownsRow.alloc hown _) ⟨w.heap.size, 0, none⟩ 1 1 (bc [b]) hx rfl
    (cell_one_new w _ _) (bc_one [b]) (by unfold maxLen; omega) (by omega) (by simp; omega) ?_
  intro v' w' h1 h2 _
  have hA : Below base w (w.alloc (.cells #[.int .u8 (b.toNat : Int)] 5)) := (Below.refl base w).alloc hb _
  refine K v' w' ?_ (hA.trans (Own.below (World.ownsRow.alloc hown _) h2 (by simp; omega)))
  unfold Own
  rw [List.length_append, bc_append]
  exact h1

theorem wpList_string {ops : Array Oper} {rest : List Oper} {o : Oper} {a : Act} {Q : Exit → Act → World → Prop} (w : World) (s x : Operand) (hgd : o.guard = none)
    (hop : o.op = .call { callee := .builtin .append, args := #[s, x], argTypes := #[22, 9] })
    (base : Nat) (v : Value) (l : List UInt8) (t : ByteArray) (hs : a.eval s = v) (hx : a.eval x = .string t) (hown : Own w base v l) (hl : l.length + t.size ≤ 8589934592) (hb : base ≤ w.heap.size)
    (K : ∀ v' w', Own w' base v' (l ++ t.data.toList) → Below base w w' → wpList Try.prog ops Q rest (a.put o.dst v') w') : wpList Try.prog ops Q (o :: rest) a w := by
  obtain ⟨i0, hi, hz0, hz1, hz2⟩ := info_parts Try.byteInfo
  refine Lib.wpList_append_own_string _ hgd s x 22 9 hop base 5 i0 Try.underlying22 Try.underlying9 hi hz0 hz1 hz2 v l.length (bc l) hs hown t hx (by unfold maxLen; omega) (by omega) hb ?_
  intro v' w' h1 h2 _
  refine K v' w' ?_ (Own.below hown h2 hb)
  unfold Own
  rw [List.length_append, bc_append]
  exact h1

theorem byte_of (x k : Nat) : (x : Int) / 2 ^ (8 * k) % 256 = ((UInt8.ofNat (x / 256 ^ k % 256)).toNat : Int) := by
  rw [ofNat_toNat, Nat.mod_mod]
  have e : (2 : Int) ^ (8 * k) = ((256 ^ k : Nat) : Int) := by
    rw [Int.pow_mul]
    simp
  rw [e]
  omega

def AddPost (base : Nat) (l : List UInt8) (x : Nat) (w : World) (r : Ending) (w' : World) : Prop := ∃ v', r = .returned v' ∧ Own w' base v' (l ++ encNum x) ∧ Below base w w'

theorem addNumber_any (base : Nat) (v : Value) (l : List UInt8) (x : Nat) (w : World) (ho : Own w base v l) (hb : base ≤ w.heap.size) (hx : x < 18446744073709551616) (hl : l.length ≤ 2147483648) :
    Calls Try.prog 63 #[v, .int .u64 x] w (AddPost base l x w) := by
  have hm8 := many_le x hx
  have hL := Try.bits_Len64 (x : Int) w (by omega) (by omega)
  rw [Int.toNat_natCast] at hL
  have hLm : many x = (Lib.bitLen x + 7) / 8 := rfl
  generalize Lib.bitLen x = L at *
  have hL64 : L ≤ 64 := by omega
  have HL := Lib.hid hL
  have HM := Lib.hid hLm
  clear hL hLm
  go_enter Try.func63, Try.ntmps63
  go_wp2_with fail
  refine HL.out.mono ?_
  rintro r w' ⟨rfl, rfl⟩
  clear HL
  go_wp2_with (at_builtin; refine wpList_byte w' (.tmp 11) (.tmp 14) rfl rfl base v l _ rfl rfl (UInt8.ofNat (many x)) ho ?_ ?_ ?_ ?_)
  · rw [ofNat_toNat, HM.out]
    omega
  · omega
  · exact hb
  intro v1 w1 hown1 hbel1
  have hb1 : base ≤ w1.heap.size := Nat.le_trans hb hbel1.size
  have HO := Lib.hid hown1
  have HB := Lib.hid hbel1
  clear hown1 hbel1 ho hb1
  go_wp2_with fail
  go_loopw [0, 6] (fun v i wr => ∃ (j : Nat) (p : List UInt8), j ≤ many x ∧ i = .int .i64 ((j : Int) - 1) ∧ p ++ encTail j x = encTail (many x) x ∧ Own wr base v (l ++ UInt8.ofNat (many x) :: p) ∧ Below base w' wr) (fun _ i _ => (intOf i + 1).toNat)
  case atStart => exact ⟨many x, [], Nat.le_refl _, by rw [HM.out]; go_num, rfl, HO.out, HB.out⟩
  case round =>
    obtain ⟨j, p, hj, rfl, hp, hown, hbel⟩ := hrel
    have HP := Lib.hid hp
    clear hp
    rcases j with _ | k
    · go_wp2
      go_ret
      refine ⟨_, rfl, ?_, hbel⟩
      have := HP.out
      simp only [encTail, List.append_nil] at this
      rw [encNum, ← this]
      exact hown
    · rw [show (((k + 1 : Nat) : Int) - 1) = (k : Int) from by omega]
      have hk8 : k ≤ 7 := by omega
      have hbr : base ≤ wr.heap.size := Nat.le_trans hb hbel.size
      have hlen : (l ++ UInt8.ofNat (many x) :: p).length ≤ 4294967296 := by
        have h1 := congrArg List.length HP.out
        rw [List.length_append, encTail_length, encTail_length] at h1
        simp only [List.length_append, List.length_cons]
        omega
      go_wp2_with (at_builtin; refine wpList_byte wr (.tmp 22) (.tmp 28) rfl rfl base _ (l ++ UInt8.ofNat (many x) :: p) _ rfl rfl (UInt8.ofNat (x / 256 ^ k % 256)) hown ?_ hlen hbr ?_)
      · exact byte_of x k
      intro v2 w2 hown2 hbel2
      have HO2 := Lib.hid hown2
      have HB2 := Lib.hid (hbel.trans hbel2)
      clear hown2 hbel2 hown hbel hlen hbr
      go_wp2
      go_roundw
      case rel =>
        refine ⟨k, p ++ [UInt8.ofNat (x / 256 ^ k % 256)], by omega, by go_num, ?_, HO2.out, HB2.out⟩
        have h1 := HP.out
        rw [encTail] at h1
        simpa using h1
      case measure => simp [intOf]
end Go.Proofs.Ythpfdenpgegheaa.Lay
