/-
  The reference's Less and Text at ids.
-/
import Derived.Test.YtjnobakbjapfjaaIdsOne
namespace Go.Proofs.Ytjnobakbjapfjaa
open Go.RowKit Go.Sort Go.Shelf

theorem ltB_prefix : ∀ (p l m : List UInt8) (a b : UInt8), a ≠ b → (ltB (p ++ a :: l) (p ++ b :: m) ↔ a < b)
  | [], l, m, a, b, h => by
    rw [List.nil_append, List.nil_append, ltB]
    exact ⟨fun hh => hh.elim id (fun e => absurd e.1 h), .inl⟩
  | c :: p, l, m, a, b, h => by
    rw [List.cons_append, List.cons_append, ltB, ltB_prefix p l m a b h]
    exact ⟨fun hh => hh.elim (fun e => absurd e (UInt8.lt_irrefl c)) (·.2), fun hh => .inr ⟨rfl, hh⟩⟩
/-- The first place at which two ids are unlike. -/
theorem ltId_at (x y : Id) (k : Nat) (h : x.1.take k = y.1.take k) {a b : UInt8} (ha : x.1[k]? = some a) (hb : y.1[k]? = some b) (hne : a ≠ b) : ltId x y = decide (a.toNat < b.toNat) := by
  have hx : x.1 = x.1.take k ++ a :: x.1.drop (k + 1) := by
    rw [List.getElem?_eq_some_iff] at ha
    obtain ⟨h1, h2⟩ := ha
    rw [← h2, ← List.drop_eq_getElem_cons h1, List.take_append_drop]
  have hy : y.1 = y.1.take k ++ b :: y.1.drop (k + 1) := by
    rw [List.getElem?_eq_some_iff] at hb
    obtain ⟨h1, h2⟩ := hb
    rw [← h2, ← List.drop_eq_getElem_cons h1, List.take_append_drop]
  rw [Bool.eq_iff_iff, ltId_iff, decide_eq_true_iff, hx, hy, h, ltB_prefix _ _ _ a b hne]
  exact UInt8.lt_iff_toNat_lt

theorem below_drewN_w (w : World) (B q : Nat) : Below B w (w.drewN q) := ⟨rfl, rfl, rfl, Nat.le_refl _, fun _ _ => rfl⟩
theorem cell_drewN {w : World} {p : Addr} {v : Value} (n : Nat) (h : w.cell? p = some v) : (w.drewN n).cell? p = some v := h
theorem byte_cell {w : World} {g : Nat} {t : TypeId} {x : Id} (h : Box w g t (enc x).toArray) {k : Nat} {b : UInt8} (hb : x.1[k]? = some b) : w.cell? ⟨g, k, none⟩ = some (.int .u8 (b.toNat : Int)) := by
  rw [Box.cell h]
  simp [enc, bc, hb]

set_option maxHeartbeats 1000000 in
/-- The reference's Less. -/
theorem rless_says (x y : Id) (w : World) : Calls Try.prog 11 #[.agg (enc x).toArray, .agg (enc y).toArray] w fun e w' => e = .returned (.bool (ltId x y)) ∧ Below w.heap.size w w' := by
  have hs1 := enc_size x
  have hs2 := enc_size y
  go_enter Try.func11, Try.ntmps11
  go_wp2
  have H0 : Hid (Box ((w.alloc (Obj.cells (enc x).toArray 22)).alloc (Obj.cells (enc y).toArray 22)) w.heap.size 22 (enc x).toArray ∧ Box ((w.alloc (Obj.cells (enc x).toArray 22)).alloc (Obj.cells (enc y).toArray 22)) (w.heap.size + 1) 22 (enc y).toArray ∧ Below w.heap.size w ((w.alloc (Obj.cells (enc x).toArray 22)).alloc (Obj.cells (enc y).toArray 22))) :=
    Lib.hid ⟨(Box.made w _ _).alloc _, by
      have := Box.made (w.alloc (Obj.cells (enc x).toArray 22)) 22 (enc y).toArray
      rwa [World.size_alloc] at this, ((Below.refl w.heap.size w).alloc (Nat.le_refl _) _).alloc (by simp) _⟩
  generalize (w.alloc (Obj.cells (enc x).toArray 22)).alloc (Obj.cells (enc y).toArray 22) = w1 at H0 ⊢
  go_loopw [5] (fun v wr => ∃ k : Nat, v = .int .i64 (k : Int) ∧ k ≤ 32 ∧ Hid ((Box wr w.heap.size 22 (enc x).toArray ∧ Box wr (w.heap.size + 1) 22 (enc y).toArray ∧ Below w.heap.size w wr) ∧ x.1.take k = y.1.take k)) (fun v _ => 32 - (Lib.intOf v).toNat)
  case atStart => exact ⟨0, rfl, by omega, Lib.hid ⟨H0.out, by simp⟩⟩
  case round =>
    obtain ⟨k, rfl, hk, H⟩ := hrel
    by_cases hlt : k < 32
    · have l1 : (k : Int) < 32 := by omega
      obtain ⟨a, ha⟩ : ∃ b, x.1[k]? = some b := ⟨_, List.getElem?_eq_getElem (by rw [x.2]; exact hlt)⟩
      obtain ⟨b, hb⟩ : ∃ b, y.1[k]? = some b := ⟨_, List.getElem?_eq_getElem (by rw [y.2]; exact hlt)⟩
      have c1 := byte_cell H.out.1.1 ha
      have c2 := byte_cell H.out.1.2.1 hb
      have HAB := Lib.hid (And.intro ha hb)
      clear ha hb
      by_cases hab : a = b
      · subst hab
        go_wp2_with fail
        go_quiet (fail)
        go_wp2
        go_roundw
        case rel =>
          refine ⟨k + 1, by go_num, by omega, Lib.hid ⟨⟨H.out.1.1, H.out.1.2.1, H.out.1.2.2.trans (below_drewN_w _ _ _)⟩, ?_⟩⟩
          rw [List.take_add_one, List.take_add_one, HAB.out.1, HAB.out.2, H.out.2]
        case measure => simp [Lib.intOf]; omega
      · have hne : ¬ (a.toNat : Int) = (b.toNat : Int) := fun e => hab (UInt8.toNat_inj.1 (by omega))
        go_wp2_with fail
        go_quiet (fail)
        have d1 := fun q => cell_drewN q (cell_drewN nq c1)
        have d2 := fun q => cell_drewN q (cell_drewN nq c2)
        have HB := Lib.hid (H.out.1.2.2.trans (below_drewN_w wr w.heap.size nq))
        generalize wr.drewN nq = w2 at d1 d2 HB ⊢
        clear c1 c2
        go_wp2_with fail
        go_quiet (fail)
        go_wp2
        go_ret
        refine ⟨?_, HB.out.trans (below_drewN_w _ _ _)⟩
        rw [ltId_at x y k H.out.2 HAB.out.1 HAB.out.2 hab]
        simp
    · obtain rfl : k = 32 := by omega
      go_wp2
      go_ret
      refine ⟨?_, H.out.1.2.2⟩
      have e := H.out.2
      rw [List.take_of_length_le (by rw [x.2]; exact Nat.le_refl _), List.take_of_length_le (by rw [y.2]; exact Nat.le_refl _)] at e
      rw [(ltId_false x y).2 (by rw [e]; exact ltB_irrefl _)]
      rfl
end Go.Proofs.Ytjnobakbjapfjaa
