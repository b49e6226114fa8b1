/-
  The small calls of package bitmap.
-/
import Derived.Test.YtnhondkdkjehaaaBitP
import Derived.Test.YtnhondkdkjehaaaFill
import Derived.Test.YtnhondkdkjehaaaShelf
import Derived.Lib.SliceRun
namespace Go.Proofs.Ytnhondkdkjehaaa
open Go.RowKit

set_option linter.unusedVariables false
set_option linter.unusedSimpArgs false
theorem byte_bv (c : UInt8) : BitVec.ofInt 8 (c.toNat : Int) = c.toBitVec := by
  rw [BitVec.ofInt_natCast]
  exact BitVec.eq_of_toNat_eq (by simp)
theorem wrap_byte (c : BitVec 8) : IntKind.u8.wrap ((c.toNat : Nat) : Int) = (c.toNat : Int) := by
  have := c.isLt
  simp [IntKind.wrap, IntKind.bits, IntKind.signed]
  omega
theorem bits_and (a b : UInt8) : bits .and .u8 (a.toNat : Int) (b.toNat : Int) = ((a &&& b).toNat : Int) := by
  have h : bits .and .u8 (a.toNat : Int) (b.toNat : Int) = IntKind.u8.wrap (((BitVec.ofInt 8 (a.toNat : Int) &&& BitVec.ofInt 8 (b.toNat : Int)).toNat : Nat) : Int) := rfl
  rw [h, byte_bv, byte_bv, wrap_byte]
  rfl
theorem bits_or (a b : UInt8) : bits .or .u8 (a.toNat : Int) (b.toNat : Int) = ((a ||| b).toNat : Int) := by
  have h : bits .or .u8 (a.toNat : Int) (b.toNat : Int) = IntKind.u8.wrap (((BitVec.ofInt 8 (a.toNat : Int) ||| BitVec.ofInt 8 (b.toNat : Int)).toNat : Nat) : Int) := rfl
  rw [h, byte_bv, byte_bv, wrap_byte]
  rfl
theorem bits_clr (a b : UInt8) : bits .andNot .u8 (a.toNat : Int) (b.toNat : Int) = ((a &&& ~~~ b).toNat : Int) := by
  have h : bits .andNot .u8 (a.toNat : Int) (b.toNat : Int) = IntKind.u8.wrap (((BitVec.ofInt 8 (a.toNat : Int) &&& ~~~ BitVec.ofInt 8 (b.toNat : Int)).toNat : Nat) : Int) := rfl
  rw [h, byte_bv, byte_bv, wrap_byte]
  rfl
theorem bit_says (w : World) (n : Nat) (hn : n ≤ 8192) : Calls Try.prog 17 #[.int .i64 (n : Int)] w fun e w' => e = .returned (.int .u8 ((bitU n).toNat : Int)) ∧ w' = w := by
  have h1 : (2 : Int) ^ (n % 8) % 256 = ((bitU n).toNat : Int) := by
    have h : ∀ a : Fin 8, (2 : Int) ^ a.val % 256 = ((2 ^ a.val : Nat) : Int) := by decide
    rw [bitU_nat]
    exact h ⟨n % 8, Nat.mod_lt _ (by decide)⟩
  go_enter Try.func17, Try.ntmps17
  go_wp2
  exact bodyPost_ret (v := .int .u8 ((bitU n).toNat : Int)) (by simp [results, Try.results17, go_sem, h1]) rfl ⟨rfl, rfl⟩

theorem bitsInfo : (Try.prog.info? 25).map (·.size) = some 2 := by kernel_rfl
theorem howMany_eq (b : Int) : min (max b 0) 4096 = (howMany b : Int) := by
  unfold howMany
  split
  · omega
  · split <;> omega
theorem howMany_le (b : Int) : howMany b ≤ 4096 := by
  have := howMany_eq b
  omega
/-- Bits whose struct is stored whole, beside a row of bytes of the call's own. -/
theorem bits_made {w w2 : World} {cs : Array Value} {x : Value} {l : List UInt8} (n : Nat) (hB : Below w.heap.size w w2) (hb : Box w2 w.heap.size 25 cs) (ho : Own w2 w.heap.size x l) (hne : x.ownBlock ≠ some w.heap.size) :
    Box (w2.setRow w.heap.size #[.int .i64 (n : Int), x]) w.heap.size 25 #[.int .i64 (n : Int), x] ∧ Own (w2.setRow w.heap.size #[.int .i64 (n : Int), x]) w.heap.size x l ∧ Below w.heap.size w (w2.setRow w.heap.size #[.int .i64 (n : Int), x]) := by
  have hg : w2.grownBy (w2.setRow w.heap.size #[.int .i64 (n : Int), x]) (some w.heap.size) := grown_row (grown_refl _ _) _
  exact ⟨setRow_heap _ _ _ _ _ _ hb, ho.grown hg hne, hB.grown hg hB.size (fun k e => by injection e with e; omega)⟩
set_option maxHeartbeats 2000000 in
theorem new_says (w : World) (b : Int) (hb : -9223372036854775808 ≤ b ∧ b ≤ 9223372036854775807) : Calls Try.prog 7 #[.int .i64 b] w fun e w' => ∃ g, e = .returned (.agg #[.int .i64 (howMany b : Int), .slice (some ⟨g, 0, none⟩) ((howMany b + 7) / 8) ((howMany b + 7) / 8)]) ∧ Own w' w.heap.size (.slice (some ⟨g, 0, none⟩) ((howMany b + 7) / 8) ((howMany b + 7) / 8)) (List.replicate ((howMany b + 7) / 8) 0) ∧ Below w.heap.size w w' := by
  obtain ⟨i0, hi0, hz0, hz1, hz2⟩ := info_parts Try.byteInfo
  have E := howMany_eq b
  have E2 := howMany_le b
  have HM := Lib.hid (And.intro (Box.made w 25 #[.int .i64 0, .slice none 0 0]) ((Below.refl w.heap.size w).alloc (Nat.le_refl _) (.cells #[.int .i64 0, .slice none 0 0] 25)))
  go_enter Try.func7, Try.ntmps7
  go_wp2_with (first
    | (at_make; refine wpList_make_full _ rfl _ _ 22 rfl w.heap.size 5 i0 _ 1 Try.underlying22 hi0 hz0 hz1 _ _ _ _ ((howMany b + 7) / 8) rfl rfl (by omega) (by omega) (by rw [hz2]; omega) (by unfold maxLen; omega) HM.out.2.size ?_; intro w2 hown2 hg2; have H2 := Lib.hid (And.intro hown2 (And.intro hg2 (HM.out.1.grown hg2 (by simp)))); clear hown2 hg2)
    | (refine wpList_store_row rfl 25 _ _ rfl w.heap.size #[.int .i64 (howMany b : Int), .slice (some ⟨w.heap.size + 1, 0, none⟩) ((howMany b + 7) / 8) ((howMany b + 7) / 8)] rfl rfl 25 _ H2.out.2.2 bitsInfo rfl (by simp [Value.oneCell']) ?_))
  rw [show (w.alloc (Obj.cells #[Value.int IntKind.i64 0, Value.slice none 0 0] 25)).heap.size = w.heap.size + 1 from Array.size_push _] at H2
  have ho : Own w2 w.heap.size (.slice (some ⟨w.heap.size + 1, 0, none⟩) ((howMany b + 7) / 8) ((howMany b + 7) / 8)) (List.replicate ((howMany b + 7) / 8) 0) := by
    unfold Own
    rw [List.length_replicate, ← zero_made]
    exact H2.out.1
  obtain ⟨f1, f2, f3⟩ := bits_made (howMany b) ((HM.out.2).trans ((Below.refl w.heap.size _).grown H2.out.2.1 HM.out.2.size (fun k hk => by cases hk))) H2.out.2.2 ho (by simp [Value.ownBlock])
  clear ho H2 HM
  generalize hw3 : w2.setRow w.heap.size #[.int .i64 (howMany b : Int), .slice (some ⟨w.heap.size + 1, 0, none⟩) ((howMany b + 7) / 8) ((howMany b + 7) / 8)] = w3
  rw [hw3] at f1 f2 f3
  have c0 := (Box.cell f1 0).trans rfl
  have c1 := (Box.cell f1 1).trans rfl
  exact bodyPost_ret (v := .agg #[.int .i64 (howMany b : Int), .slice (some ⟨w.heap.size + 1, 0, none⟩) ((howMany b + 7) / 8) ((howMany b + 7) / 8)]) (by simp [results, Try.results7, go_sem, Act.put, c0, c1]) rfl ⟨_, rfl, f2, f3⟩
end Go.Proofs.Ytnhondkdkjehaaa
