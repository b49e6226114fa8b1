/-
  The reference's reader: Small, Raw, Text, End.
-/
import Derived.Test.YtjnobakbjapfjaaLRefRead
import Derived.Test.YtjnobakbjapfjaaLText
namespace Go.Proofs.Ytjnobakbjapfjaa.Lay
open Go.RowKit

/-- Two blocks of the call's own: the receiver's copy, and the result's. -/
structure Two (w w1 : World) (x0 x1 y0 y1 : Value) : Prop where
  a : Box w1 w.heap.size 61 #[x0, x1]
  b : Box w1 (w.heap.size + 1) 61 #[y0, y1]

section
variable {w w1 w2 : World} {x0 x1 y0 y1 : Value}
theorem Two.c00 (h : Two w w1 x0 x1 y0 y1) : w1.cell? ⟨w.heap.size, 0, none⟩ = some x0 := h.a.cell 0
theorem Two.c01 (h : Two w w1 x0 x1 y0 y1) : w1.cell? ⟨w.heap.size, 1, none⟩ = some x1 := h.a.cell 1
theorem Two.c10 (h : Two w w1 x0 x1 y0 y1) : w1.cell? ⟨w.heap.size + 1, 0, none⟩ = some y0 := h.b.cell 0
theorem Two.c11 (h : Two w w1 x0 x1 y0 y1) : w1.cell? ⟨w.heap.size + 1, 1, none⟩ = some y1 := h.b.cell 1
theorem Two.f (h : Two w w1 x0 x1 y0 y1) : w1.frozen? ⟨w.heap.size, 0, none⟩ = false ∧ w1.frozen? ⟨w.heap.size, 1, none⟩ = false ∧ w1.frozen? ⟨w.heap.size + 1, 0, none⟩ = false ∧ w1.frozen? ⟨w.heap.size + 1, 1, none⟩ = false :=
  ⟨h.a.frozen 0, h.a.frozen 1, h.b.frozen 0, h.b.frozen 1⟩
theorem Two.made (w : World) (x0 x1 y0 y1 : Value) : Two w ((w.alloc (.cells #[x0, x1] 61)).alloc (.cells #[y0, y1] 61)) x0 x1 y0 y1 := by
  refine ⟨(Box.made w _ _).alloc _, ?_⟩
  have := Box.made (w.alloc (.cells #[x0, x1] 61)) 61 #[y0, y1]
  simpa using this
theorem Two.below (h : Two w w1 x0 x1 y0 y1) (hb : Below w1.heap.size w1 w2) : Two w w2 x0 x1 y0 y1 := ⟨h.a.below hb h.a.lt, h.b.below hb h.b.lt⟩
end

theorem box_far {w : World} {g : Nat} {t : TypeId} {cs : Array Value} (h : Box w g t cs) {p : Addr} (hp : g ≠ p.block) (u : Value) : Box (w.setCell p u) g t cs := (Below.heap_setCell w p u g hp).trans h
/-- The receiver's copy, written anew. -/
theorem Two.write {w w1 : World} {x0 x1 y0 y1 : Value} (h : Two w w1 x0 x1 y0 y1) (z0 z1 : Value) : Two w ((w1.setCell ⟨w.heap.size, 0, none⟩ z0).setCell ⟨w.heap.size, 1, none⟩ z1) z0 z1 y0 y1 :=
  ⟨Box.put (Box.put h.a 0 z0) 1 z1, box_far (box_far h.b (by simp) z0) (by simp) z1⟩
theorem refBad_b (s : ByteArray) (e : Int) (w : World) :
    Calls Try.prog 57 #[.agg #[.string s, .int .i64 0], .int .i64 e] w fun r w' => r = .returned (.agg #[.string ⟨#[]⟩, .int .i64 e]) ∧ Below w.heap.size w w' :=
  (refBad_any s e w).mono fun _ _ ⟨h1, h2⟩ => ⟨h1, by rw [← h2]; exact ((Below.refl _ w).alloc (Nat.le_refl _) _).alloc (by simp) _⟩

theorem stNumV_bad {q : St} (h : (stNum q).2 ≠ 0) : stNumV q = 0 := by
  unfold stNum at h
  unfold stNumV
  split
  · rename_i h0
    rw [if_pos h0] at h
    unfold numVal
    rw [if_neg h]
  · rfl

def RefSm (q : St) (v : Nat) (w : World) (r : Ending) (w' : World) : Prop := r = .returned (.tuple #[.agg #[.string ⟨q.1.toArray⟩, .int .i64 q.2], .int .i64 (v : Int)]) ∧ Below w.heap.size w w'

theorem refSmall_any (q : St) (w : World) (hl : q.1.length ≤ 4000) (most : Int) (hm1 : most ≤ 9223372036854775807) :
    Calls Try.prog 34 #[refV q, .int .i64 most] w (RefSm (stSmall most q) (stSmallV most q) w) := by
  have hvb := stNumV_bad (q := q)
  have hN := fun W => refNum_any q W hl
  have hv := stNumV_lt q
  unfold refV at hN ⊢
  obtain ⟨l, e⟩ := q
  dsimp only at hN ⊢
  generalize (⟨l.toArray⟩ : ByteArray) = s at *
  have HN := Lib.hid hN
  clear hN hl
  unfold stSmall stSmallV
  generalize stNum (l, e) = q1 at *
  generalize stNumV (l, e) = v at *
  obtain ⟨l1, e1⟩ := q1
  unfold RefNum at HN
  dsimp only at HN hvb ⊢
  generalize hS1 : (⟨l1.toArray⟩ : ByteArray) = s1 at *
  by_cases he : e1 = 0
  · subst he
    by_cases hb : tooBig most v = true
    · rw [if_pos rfl, if_pos rfl, if_pos hb, if_pos hb]
      by_cases h0 : most < 0
      · have hd : decide (most < 0) = true := by simpa using h0
        clear hb
        unfold RefSm
        dsimp only
        clear hv hvb hS1
        go_enter Try.func34, Try.ntmps34
        go_wp2_with fail
        refine (HN.out _).mono ?_
        rintro r w1 ⟨rfl, hb1⟩
        have hT := (Two.made w (.string s) (.int .i64 e) (.string ⟨#[]⟩) (.int .i64 0)).below hb1
        have hbel : Below w.heap.size w w1 := (((Below.refl _ w).alloc (Nat.le_refl _) _).alloc (by simp) _).trans (hb1.mono (by simp; omega))
        have hlt : w.heap.size + 1 < w1.heap.size := hT.b.lt
        have c00 := hT.c00
        have c01 := hT.c01
        have c10 := hT.c10
        have c11 := hT.c11
        obtain ⟨f00, f01, f10, f11⟩ := hT.f
        have HB := Lib.hid hbel
        have HT := Lib.hid hT
        clear hb1 hT hbel HN
        go_wp2_with fail
        refine (refBad_b s1 3 _).mono ?_
        rintro r w2 ⟨rfl, hb2⟩
        have hT2 := (HT.out.write (.string s1) (.int .i64 0)).below hb2
        have hbel2 : Below w.heap.size w w2 := ((HB.out.setCell (p := ⟨w.heap.size, 0, none⟩) (by simp) _).setCell (p := ⟨w.heap.size, 1, none⟩) (by simp) _).trans (hb2.mono (by simp [World.setCell]; omega))
        have d10 := hT2.c10
        have d11 := hT2.c11
        obtain ⟨_, _, g10, g11⟩ := hT2.f
        have HB2 := Lib.hid hbel2
        clear hb2 hT2 hbel2 c00 c01 c10 c11 f00 f01 f10 f11 hlt
        go_wp2_with fail
        exact bodyPost_ret (v := .tuple #[.agg #[.string ⟨#[]⟩, .int .i64 3], .int .i64 0]) (by simp [results, Try.results34, go_sem, d10, d11]) rfl ⟨rfl, by repeat (first | exact HB2.out | refine Below.setCell ?_ (by simp) _)⟩
      · have h1 : decide (most < 0) = false := by simpa using h0
        have h2 : most < (v : Int) := by
          unfold tooBig at hb
          rw [h1] at hb
          simpa using hb
        have hw := u64_of_nonneg most (by omega) hm1
        have hd : decide (most < (v : Int)) = true := by simpa using h2
        clear hb
        unfold RefSm
        dsimp only
        clear hv hvb hS1
        go_enter Try.func34, Try.ntmps34
        go_wp2_with fail
        refine (HN.out _).mono ?_
        rintro r w1 ⟨rfl, hb1⟩
        have hT := (Two.made w (.string s) (.int .i64 e) (.string ⟨#[]⟩) (.int .i64 0)).below hb1
        have hbel : Below w.heap.size w w1 := (((Below.refl _ w).alloc (Nat.le_refl _) _).alloc (by simp) _).trans (hb1.mono (by simp; omega))
        have hlt : w.heap.size + 1 < w1.heap.size := hT.b.lt
        have c00 := hT.c00
        have c01 := hT.c01
        have c10 := hT.c10
        have c11 := hT.c11
        obtain ⟨f00, f01, f10, f11⟩ := hT.f
        have HB := Lib.hid hbel
        have HT := Lib.hid hT
        clear hb1 hT hbel HN
        go_wp2_with fail
        refine (refBad_b s1 3 _).mono ?_
        rintro r w2 ⟨rfl, hb2⟩
        have hT2 := (HT.out.write (.string s1) (.int .i64 0)).below hb2
        have hbel2 : Below w.heap.size w w2 := ((HB.out.setCell (p := ⟨w.heap.size, 0, none⟩) (by simp) _).setCell (p := ⟨w.heap.size, 1, none⟩) (by simp) _).trans (hb2.mono (by simp [World.setCell]; omega))
        have d10 := hT2.c10
        have d11 := hT2.c11
        obtain ⟨_, _, g10, g11⟩ := hT2.f
        have HB2 := Lib.hid hbel2
        clear hb2 hT2 hbel2 c00 c01 c10 c11 f00 f01 f10 f11 hlt
        go_wp2_with fail
        exact bodyPost_ret (v := .tuple #[.agg #[.string ⟨#[]⟩, .int .i64 3], .int .i64 0]) (by simp [results, Try.results34, go_sem, d10, d11]) rfl ⟨rfl, by repeat (first | exact HB2.out | refine Below.setCell ?_ (by simp) _)⟩
    · rw [if_pos rfl, if_pos rfl, if_neg hb, if_neg hb]
      have h1 : decide (most < 0) = false := by
        unfold tooBig at hb
        cases hq : decide (most < 0)
        · rfl
        · rw [hq] at hb; simp at hb
      have h2 : decide (most < (v : Int)) = false := by
        unfold tooBig at hb
        rw [h1] at hb
        simpa using hb
      have g1 : 0 ≤ most := by simpa using h1
      have g2 : (v : Int) ≤ most := by simpa using h2
      have hw := u64_of_nonneg most g1 hm1
      have hw2 := i64_of_small v most g2 hm1
      unfold RefSm
      dsimp only
      rw [hS1]
      clear hb hv hvb hS1
      go_enter Try.func34, Try.ntmps34
      go_wp2_with fail
      refine (HN.out _).mono ?_
      rintro r w1 ⟨rfl, hb1⟩
      have hT := (Two.made w (.string s) (.int .i64 e) (.string ⟨#[]⟩) (.int .i64 0)).below hb1
      have hbel : Below w.heap.size w w1 := (((Below.refl _ w).alloc (Nat.le_refl _) _).alloc (by simp) _).trans (hb1.mono (by simp; omega))
      have c00 := hT.c00
      have c01 := hT.c01
      have c10 := hT.c10
      have c11 := hT.c11
      obtain ⟨f00, f01, f10, f11⟩ := hT.f
      have HB := Lib.hid hbel
      clear hb1 hT hbel HN
      go_wp2_with fail
      exact bodyPost_ret (v := .tuple #[.agg #[.string s1, .int .i64 0], .int .i64 (v : Int)]) (by simp [results, Try.results34, go_sem, c10, c11]) rfl ⟨rfl, by repeat (first | exact HB.out | refine Below.setCell ?_ (by simp) _)⟩
  · have hv0 : v = 0 := hvb he
    rw [if_neg he, if_neg he]
    have hd : (e1 == 0) = false := by simpa using he
    unfold RefSm
    dsimp only
    rw [hS1]
    subst hv0
    clear hvb hS1 hv
    go_enter Try.func34, Try.ntmps34
    go_wp2_with fail
    refine (HN.out _).mono ?_
    rintro r w1 ⟨rfl, hb1⟩
    have hT := (Two.made w (.string s) (.int .i64 e) (.string ⟨#[]⟩) (.int .i64 0)).below hb1
    have hbel : Below w.heap.size w w1 := (((Below.refl _ w).alloc (Nat.le_refl _) _).alloc (by simp) _).trans (hb1.mono (by simp; omega))
    have c00 := hT.c00
    have c01 := hT.c01
    have c10 := hT.c10
    have c11 := hT.c11
    obtain ⟨f00, f01, f10, f11⟩ := hT.f
    have HB := Lib.hid hbel
    clear hb1 hT hbel HN
    go_wp2_with fail
    exact bodyPost_ret (v := .tuple #[.agg #[.string s1, .int .i64 e1], .int .i64 0]) (by simp [results, Try.results34, go_sem, c10, c11]) rfl ⟨rfl, by repeat (first | exact HB.out | refine Below.setCell ?_ (by simp) _)⟩
end Go.Proofs.Ytjnobakbjapfjaa.Lay
