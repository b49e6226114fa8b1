/-
  Small facts for the law of torn blocks.
-/
import Derived.Test.YthpfdenpgegheaaOneM
import Derived.Laws.IdiomStrings
import Derived.Laws.BitsLemmas
namespace Go.Proofs.Ythpfdenpgegheaa
open Go.RowKit

theorem and255 (n : Int) : bits .and .i64 n 255 = n % 256 := by
  have h : (BitVec.ofInt 64 255).toNat = 2 ^ 8 - 1 := by decide
  have key : (BitVec.ofInt 64 n &&& BitVec.ofInt 64 255).toNat = (n % ((2 ^ 64 : Nat) : Int)).toNat % 2 ^ 8 := by
    rw [BitVec.toNat_and, BitVec.toNat_ofInt, h, Nat.and_two_pow_sub_one_eq_mod]
  show IntKind.i64.wrap ((BitVec.ofInt 64 n &&& BitVec.ofInt 64 255).toNat : Nat) = n % 256
  rw [key, IntKind.wrap_i64]
  omega
theorem u8_wrapped (n : Int) : ∃ z : UInt8, IntKind.u8.wrap n = (z.toNat : Int) := by
  refine ⟨UInt8.ofNat (n % 256).toNat, ?_⟩
  rw [IntKind.wrap_u8, UInt8.toNat_ofNat']
  omega
set_option maxRecDepth 100000 in
/-- '[]byte(s)'. -/
theorem bytes_of_str (w : World) (l : List UInt8) : ∃ c w', (convert 9 22 (.string ⟨l.toArray⟩)).run Try.prog w = .ok (.slice (some ⟨w.heap.size, 0, none⟩) l.length c) w' ∧ Below w.heap.size w w' ∧ Lies w' (fun _ => True) (some ⟨w.heap.size, 0, none⟩) l.length c (bc l) := by
  have h := run_bytes_of_string (P := Try.prog) w 9 22 5 ⟨l.toArray⟩ Try.underlying9 Try.underlying22 Try.underlying5
  rw [str_size] at h
  refine ⟨_, _, h, (Below.refl _ w).drew.alloc (Nat.le_refl _) _, bc_length l, grownCap_ge w _ 0 _, fun _ => ⟨_, rfl, trivial, by simp, fun j u hu => ?_⟩⟩
  rw [Addr.add_mid, Nat.zero_add]
  have hj : j < l.length := by
    have := (List.getElem?_eq_some_iff.1 hu).1
    rwa [bc_length] at this
  have hr := bytesRow_at ⟨l.toArray⟩ (grownCap w l.length 0 5) j (by simpa using hj)
  have hu2 : u = .int .u8 ((l[j]'hj).toNat : Int) := by
    rw [bc, List.getElem?_map, List.getElem?_eq_getElem hj] at hu
    injection hu with hu
    exact hu.symm
  rw [hu2]
  have := World.cell?_alloc_mark w.drew (bytesRow ⟨l.toArray⟩ (grownCap w l.length 0 5)) 5 ((bytesRow ⟨l.toArray⟩ (grownCap w l.length 0 5)).size, (bytesRow ⟨l.toArray⟩ (grownCap w l.length 0 5)).size + 1) j
  exact this.trans (by simpa using hr)
/-- The mark that the law takes. -/
def fixM (m : Mk) : Mk := if m.may then m else ⟨1, m.epoch, m.seq, m.he, m.hs⟩
theorem fixM_may (m : Mk) : (fixM m).may = true := by
  unfold fixM
  cases h : m.may
  · rfl
  · simpa using h
/-- What lies ahead of the torn block: zeros, or sealed by another mark. -/
def Was (m : Mk) (y : List UInt8) : Prop := y.length = 256 ∧ (y = List.replicate 256 0 ∨ ∃ o c, c.length ≤ 220 ∧ o ≠ m ∧ y = sealed o c)
theorem below_drewN' {B : Nat} {a b : World} (h : Below B a b) (n : Nat) : Below B a (b.drewN n) := ⟨h.os, h.tape, h.output, h.size, h.block⟩
theorem mod_byte (n : Int) : ∃ z : UInt8, n % 256 = (z.toNat : Int) := by
  refine ⟨UInt8.ofNat (n % 256).toNat, ?_⟩
  rw [UInt8.toNat_ofNat']
  omega
/-- A text out of a slice, as one step of a region whose callees leave all that lay. -/
theorem wpQuiet_conv {P : Program} {ops : Array Oper} {C : World → Prop} {K : Act → Prop} {o : Oper} {rest : List Oper} {a : Act} (hw : Region.wanted o (yielded ops a.tmps) = true) (s t : TypeId) (x : Operand) (ho : o.op = .convert s t x) (v : Value) (hx : a.eval x = v) (u : Value)
    (hc : ∀ w, C w → (convert s t v).run P w = .ok u w) (h : wpQuiet P ops C K rest (a.put o.dst u)) : wpQuiet P ops C K (o :: rest) a := by
  simp only [wpQuiet, hw, if_true, Oper.quiet, Oper.quietAt]
  refine ⟨_, fun w hC => ?_, h⟩
  unfold execOp
  simp only [ho, hx, Sem.run_bind, Result.andThen_ok, hc w hC, Sem.run_pure]
  exact ⟨rfl, rfl⟩
theorem conv_grows {W : World} {N : Nat → Prop} {A : Option Addr} {n c : Nat} {l : List UInt8} (h : Lies W N A n c (bc l)) : ∀ u, (∃ p : Grows W, u = p.val) → (convert 22 9 (.slice A n c)).run Try.prog u = .ok (.string ⟨l.toArray⟩) u := by
  rintro _ ⟨p, rfl⟩
  exact conv_lies (h.below p.prop)
theorem str_inj {l k : List UInt8} (h : (⟨l.toArray⟩ : ByteArray) = ⟨k.toArray⟩) : l = k := by
  have := congrArg (fun b : ByteArray => b.data.toList) h
  simpa using this
/-- What a second Seal comes to. -/
def Two (o : Mk) (v e : Value) (wx : World) : Prop :=
  (o.may = false ∧ e = .int .i64 2 ∧ v = .slice none 0 0) ∨ (o.may = true ∧ ∃ g c, e = .int .i64 0 ∧ v = .slice (some ⟨g, 0, none⟩) 256 256 ∧ c.length ≤ 220 ∧ Box wx g 5 (bc (sealed o c)).toArray)
theorem Two.below {o : Mk} {v e : Value} {wx wy : World} (h : Two o v e wx) (hb : Below wx.heap.size wx wy) : Two o v e wy :=
  h.imp id (fun ⟨h1, g, c, h2, h3, h4, h5⟩ => ⟨h1, g, c, h2, h3, h4, Box.below h5 hb h5.lt⟩)
/-- What Open of a torn block comes to, laid. -/
def Opd (l : List UInt8) (v17 v18 v19 : Value) (wx : World) : Prop :=
  ∃ b17, v17 = .pointer (some ⟨b17, 0, none⟩) ∧ ((opens l = none ∧ v18 = .slice none 0 0 ∧ v19 = .int .i64 11) ∨
    (∃ z s g, opens l = some (z, s) ∧ v18 = .slice (some ⟨g, 0, none⟩) s.length s.length ∧ v19 = .int .i64 0 ∧ Box wx g 5 (bc s).toArray ∧ Box wx b17 25 (mv z)))
theorem was_ne {m : Mk} (hm : m.may = true) {b : List UInt8} (hb : b.length ≤ 220) {y : List UInt8} (hy : Was m y) : sealed m b ≠ y := by
  rintro rfl
  have h1 := (sealed_tail m b hb).2
  rcases hy.2 with h | ⟨o, c, hc, hom, h⟩
  · rw [h, List.take_replicate] at h1
    have h0 : m.bytes.head? = some m.kind := rfl
    rw [← h1] at h0
    simp at h0
    rw [Mk.may, ← h0] at hm
    simp at hm
  · rw [h, (sealed_tail o c hc).2] at h1
    exact hom (bytes_inj h1)
theorem opens_covered (y : List UInt8) : opens (3 :: y.drop 1) = none := by
  rw [opens, if_neg]
  rintro ⟨h, _⟩
  rw [twin, Bool.and_eq_true] at h
  have : (markAt (3 :: y.drop 1)).may = false := rfl
  rw [this] at h
  simp at h
theorem uncovered (y : List UInt8) (h : y.length = 256) : y.headD 0 :: (3 :: y.drop 1).drop 1 = y := by
  match y, h with
  | a :: r, _ => rfl
end Go.Proofs.Ythpfdenpgegheaa
