/-
  sealed: the bytes of a block that has the mark of a place of the next transaction.
-/
import Derived.Test.YtnhondkdkjehaaaGreatJSm
import Derived.Test.YtnhondkdkjehaaaGreatOpenS
import Derived.Test.YtnhondkdkjehaaaGreatEqMk
namespace Go.Proofs.YtnhondkdkjehaaaGreat
open Go.RowKit

set_option linter.unusedVariables false
set_option linter.unusedSimpArgs false
/-- The bytes of a block that is sealed with that mark. -/
def sealedOf (m : Mk) (l : List UInt8) : Option (List UInt8) :=
  match opens l with
  | some (o, b) => if o = m then some b else none
  | none => none
theorem sealedOf_short {m : Mk} {l b : List UInt8} (hl : l.length = 256) (h : sealedOf m l = some b) : b.length ≤ 220 := by
  unfold sealedOf at h
  cases ho : opens l with
  | none =>
    rw [ho] at h
    cases h
  | some z =>
    obtain ⟨o, c⟩ := z
    rw [ho] at h
    simp only at h
    split at h
    · injection h with h
      subst h
      exact (opens_some hl ho).2.1
    · cases h
/-- What sealed hands on. -/
def SealedPost (w : World) (m : Mk) (l : List UInt8) (e : Ending) (w' : World) : Prop :=
  (∃ A n c ok, e = .returned (.tuple #[.slice A n c, .bool ok]) ∧ n ≤ 220 ∧ (∀ b, sealedOf m l = some b → ok = true ∧ Lies w' (fun k => w.heap.size ≤ k) A n c (bc b)) ∧ (sealedOf m l = none → ok = false)) ∧ Below w.heap.size w w'
section
variable {w : World} {p dp : Nat} {u : Value × Value} {L : Lg}
set_option maxRecDepth 100000 in
set_option maxHeartbeats 2000000 in
theorem jsealed_says (hb : Box w p 81 (lc dp u L)) (hs : L.seq < 18446744073709551616) (kind : UInt8) (A : Option Addr) (c : Nat) (l : List UInt8) (hl : Lies w (fun _ => True) A 256 c (bc l)) :
    Calls Tryz.prog 99 #[.pointer (some ⟨p, 0, none⟩), .slice A 256 c, .int .u8 (kind.toNat : Int)] w (SealedPost w (L.mark kind hs) l) := by
  have hll : l.length = 256 := by rw [← bc_length]; exact hl.len
  have HO := Lib.hid (open_says w A c l hl)
  have HB := Lib.hid hb
  obtain ⟨mk, hmk⟩ : ∃ m, L.mark kind hs = m := ⟨_, rfl⟩
  rw [hmk]
  have HMK := Lib.hid hmk
  clear hb hl hmk
  go_enter Tryz.func99, Tryz.ntmps99
  go_wp2_with fail
  refine HO.out.mono ?_
  rintro e w1 ⟨hno, hyes, hb1⟩
  obtain ⟨w2, hw2⟩ : ∃ x, w1.alloc (.cells #[.int .u8 0, .int .u64 0, .int .u64 0] 126) = x := ⟨_, rfl⟩
  have hbw2 : Below w1.heap.size w1 w2 := by rw [← hw2]; exact (Below.refl _ w1).alloc (Nat.le_refl _) _
  have hmw2 : Box w2 w1.heap.size 126 (mv Mk.zero) := by rw [← hw2]; exact Box.made w1 _ _
  cases hop : opens l with
  | none =>
    obtain rfl := hno hop
    obtain ⟨w3, hw3⟩ : ∃ x, w2.setRow w1.heap.size (mv Mk.zero) = x := ⟨_, rfl⟩
    have hbw3 : Below w1.heap.size w1 w3 := hbw2.trans (by rw [← hw3]; exact (Below.refl _ w2).grown (grown_row (grown_refl _ (some w1.heap.size)) _) hbw2.size (fun k e => by injection e with e; omega))
    have hso : sealedOf mk l = none := by rw [sealedOf, hop]
    have HSO := Lib.hid hso
    have HM2 := Lib.hid hmw2
    have HW3 := Lib.hid hw3
    have HB3 := Lib.hid (hb1.trans (hbw3.mono hb1.size))
    clear hno hyes hb1 hbw2 hmw2 hw3 hbw3 hso hop
    go_upto_region 2 with (refine wpList_store_row rfl 126 _ _ rfl w1.heap.size (mv Mk.zero) rfl rfl 126 _ HM2.out (by rw [mv_size]; kernel_rfl) rfl (mv_one _) ?_; rw [HW3.out])
    refine wp_region_grows (by kernel_rfl) (by kernel_rfl) ?_
    iterate 12 (first
        | (with_reducible refine wpQuiet_no ?_ ?_; (· first | (go_simp; done) | (go_simp; simp [undef]; done)); simp only [Act.put, List.setIfInBounds_toArray, List.set_cons_zero, List.set_cons_succ])
        | quiet_step (fail))
    refine wpQuiet_nil ?_
    rintro wx ⟨⟨_, hwx⟩, rfl⟩
    go_wp2
    go_ret2
    refine ⟨⟨none, 0, 0, false, rfl, by omega, fun b hb => ?_, fun _ => rfl⟩, HB3.out.trans (hwx.mono HB3.out.size)⟩
    rw [HSO.out] at hb
    cases hb
  | some z =>
    obtain ⟨m, b⟩ := z
    obtain ⟨g, rfl, hg, hx1⟩ := hyes m b hop
    obtain ⟨w3, hw3⟩ : ∃ x, w2.setRow w1.heap.size (mv m) = x := ⟨_, rfl⟩
    have hmw3 : Box w3 w1.heap.size 126 (mv m) := by rw [← hw3]; exact setRow_heap _ _ _ _ _ _ hmw2
    have hbw3 : Below w1.heap.size w1 w3 := hbw2.trans (by rw [← hw3]; exact (Below.refl _ w2).grown (grown_row (grown_refl _ (some w1.heap.size)) _) hbw2.size (fun k e => by injection e with e; omega))
    have hB3 : Below w.heap.size w w3 := hb1.trans (hbw3.mono hb1.size)
    have hbl : b.length ≤ 220 := (opens_some hll hop).2.1
    have hso : sealedOf mk l = if m = mk then some b else none := by rw [sealedOf, hop]
    have HSO := Lib.hid hso
    have HM2 := Lib.hid hmw2
    have HW3 := Lib.hid hw3
    have HR3 := Lib.hid (range_grows (b := w1.heap.size) (mk_range hmw3) hmw3.lt)
    have hbox3 := Box.below HB.out hB3 HB.out.lt
    have HMA := Lib.hid (show ∀ q : Grows w3, Calls Tryz.prog 108 #[.pointer (some ⟨p, 0, none⟩), .int .u8 (kind.toNat : Int)] q.val fun e w'' => e = .returned (.agg (mv mk)) ∧ ∃ p' : Grows w3, w'' = p'.val from fun q => Calls.grows (by have := jmark_says (Box.below hbox3 q.prop hbox3.lt) kind hs; rw [HMK.out] at this; exact this))
    have HX3 := Lib.hid (And.intro (Box.below hx1 hbw3 hx1.lt) hB3)
    clear hno hyes hb1 hbw2 hmw2 hw3 hmw3 hbw3 hso hop hx1 hbox3 hB3 HB
    go_upto_region 2 with (refine wpList_store_row rfl 126 _ _ rfl w1.heap.size (mv m) rfl rfl 126 _ HM2.out (by rw [mv_size]; kernel_rfl) rfl (mv_one _) ?_; rw [HW3.out])
    refine wp_region_grows (by kernel_rfl) (by kernel_rfl) ?_
    iterate 12 (first
        | (refine wpQuiet_load_yes (by go_simp; done) 126 (.tmp 8) rfl w1.heap.size 0 rfl (mvl m) _ HR3.out Tryz.underlying126 rfl (by kernel_rfl) ?_; simp only [Act.put, List.setIfInBounds_toArray, List.set_cons_zero, List.set_cons_succ])
        | (refine wpQuiet_eql_mk (by go_simp; done) (.tmp 21) (.tmp 24) rfl m mk (decide (m = mk)) rfl rfl rfl ?_; simp only [Act.put, List.setIfInBounds_toArray, List.set_cons_zero, List.set_cons_succ])
        | quiet_step (first | (go_at_call 108; exact HMA.out _)))
    refine wpQuiet_nil ?_
    rintro wx ⟨⟨_, hwx⟩, rfl⟩
    go_wp2
    go_ret2
    refine ⟨⟨some ⟨g, 0, none⟩, b.length, b.length, decide (m = mk), rfl, hbl, fun b' hb' => ?_, fun h => ?_⟩, HX3.out.2.trans (hwx.mono HX3.out.2.size)⟩
    · rw [HSO.out] at hb'
      split at hb'
      · rename_i he
        injection hb' with hb'
        subst hb'
        refine ⟨by simp [he], ?_⟩
        have h1 := (Box.below HX3.out.1 hwx HX3.out.1.lt).toLies (n := b.length) (by rw [bc_length]) (Nat.le_refl _)
        exact h1.weak (fun k _ hk => by have hk' : k = g := hk; omega)
      · cases hb'
    · rw [HSO.out] at h
      split at h
      · cases h
      · rename_i he
        simp [he]
end
end Go.Proofs.YtnhondkdkjehaaaGreat
