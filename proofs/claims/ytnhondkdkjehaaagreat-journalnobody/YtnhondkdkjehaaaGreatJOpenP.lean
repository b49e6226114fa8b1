/-
  What opening a log comes to, in plain words.
-/
import Derived.Test.YtnhondkdkjehaaaGreatJReadBP
import Derived.Test.YtnhondkdkjehaaaGreatJLie0
import Derived.Test.YtnhondkdkjehaaaGreatJBeh
import Derived.Test.YtnhondkdkjehaaaGreatLoadS
namespace Go.Proofs.YtnhondkdkjehaaaGreat
open Go.RowKit

set_option linter.unusedVariables false
theorem headOf_right {l : List UInt8} {n : Int} {h : Hd} (hh : headOf l n = some h) : h.rightB n = true := by
  unfold headOf at hh
  split at hh
  · split at hh
    · rename_i hc
      injection hh with hh
      rw [← hh]
      exact hc.2.2
    · cases hh
  · cases hh
theorem lastN_right (D : Dv) : ∀ k, lastN D k = Hd.zero ∨ (lastN D k).rightB (D.bs.length : Int) = true
  | 0 => .inl rfl
  | k + 1 => by
    show pickH _ _ _ = _ ∨ (pickH _ _ _).rightB _ = true
    unfold pickH
    cases ho : headOf (D.blk k).1 (D.bs.length : Int) with
    | none => exact lastN_right D k
    | some h =>
      simp only
      split
      · exact .inr (headOf_right ho)
      · exact lastN_right D k
theorem roundB_go {L : Lg} {home : Int} {bs : List Bk} {cs : List Cg} (h : roundB L home bs = some cs) : cs.length + 2 ≤ bs.length ∧ rightC home cs = true := by
  unfold roundB at h
  split at h
  · cases h
  · rename_i told _
    split at h
    · cases h
    · rename_i hc
      cases hq : covB bs told (told.length / 3) 0 with
      | none => rw [hq] at h; cases h
      | some c =>
        rw [hq] at h
        simp only at h
        split at h
        · rename_i hr
          injection h with h
          subst h
          have hl := covB_len bs told _ _ _ hq
          exact ⟨by omega, hr.2⟩
        · cases h
theorem readB_step {home : Int} {f : Nat} {L : Lg} {done : List Cg} {bs : List Bk} (h : 2 < bs.length) : readB home (f + 1) L done bs = match roundB L home bs with
    | none => (done, L)
    | some cs => readB home f (L.next cs.length) (done ++ cs) (bs.drop (cs.length + 2)) := by
  rw [readB, if_pos h]
  cases roundB L home bs <;> rfl
theorem readB_end {home : Int} {f : Nat} {L : Lg} {done : List Cg} {bs : List Bk} (h : ¬ 2 < bs.length) : readB home (f + 1) L done bs = (done, L) := by rw [readB, if_neg h]
/-- What reading keeps to. -/
structure ReadOk (L : Lg) (R : List Cg × Lg) : Prop where
  head : R.2.h = L.h
  used : (R.2.used : Int) ≤ L.h.log
  more : L.used ≤ R.2.used
  seq : R.2.seq + L.used ≤ L.seq + R.2.used
  down : R.2.down = L.down
  low : L.seq ≤ R.2.seq
theorem readB_ok (home : Int) : ∀ (f : Nat) (L : Lg) (done : List Cg) (bs : List Bk), (L.used : Int) + bs.length ≤ L.h.log → ReadOk L (readB home f L done bs)
  | 0, L, done, bs, hu => ⟨rfl, by show (L.used : Int) ≤ _; omega, Nat.le_refl _, Nat.le_refl _, rfl, Nat.le_refl _⟩
  | f + 1, L, done, bs, hu => by
    by_cases hgo : 2 < bs.length
    · rw [readB_step hgo]
      cases hr : roundB L home bs with
      | none => exact ⟨rfl, by show (L.used : Int) ≤ _; omega, Nat.le_refl _, Nat.le_refl _, rfl, Nat.le_refl _⟩
      | some cs =>
        obtain ⟨h1, h2⟩ := roundB_go hr
        have ih := readB_ok home f (L.next cs.length) (done ++ cs) (bs.drop (cs.length + 2)) (by rw [List.length_drop]; show ((L.used + (cs.length + 2) : Nat) : Int) + _ ≤ L.h.log; omega)
        show ReadOk L (readB home f (L.next cs.length) (done ++ cs) (bs.drop (cs.length + 2)))
        generalize readB home f (L.next cs.length) (done ++ cs) (bs.drop (cs.length + 2)) = R' at ih ⊢
        obtain ⟨a1, a2, a3, a4, a5, a6⟩ := ih
        have a3 : L.used + (cs.length + 2) ≤ R'.2.used := a3
        have a4 : R'.2.seq + (L.used + (cs.length + 2)) ≤ L.seq + 1 + R'.2.used := a4
        exact ⟨a1, a2, by omega, by omega, a5, by have a6 : L.seq + 1 ≤ R'.2.seq := a6; omega⟩
    · rw [readB_end hgo]
      exact ⟨rfl, by show (L.used : Int) ≤ _; omega, Nat.le_refl _, Nat.le_refl _, rfl, Nat.le_refl _⟩
theorem readB_few (home : Int) : ∀ (f : Nat) (L : Lg) (done : List Cg) (bs : List Bk), (∀ x ∈ done, (x.1 : Int) < home) ∧ done.length ≤ L.used → (∀ x ∈ (readB home f L done bs).1, (x.1 : Int) < home) ∧ (readB home f L done bs).1.length ≤ (readB home f L done bs).2.used
  | 0, L, done, bs, h => h
  | f + 1, L, done, bs, h => by
    by_cases hgo : 2 < bs.length
    · rw [readB_step hgo]
      cases hr : roundB L home bs with
      | none => exact h
      | some cs =>
        obtain ⟨h3, h4⟩ := roundB_go hr
        refine readB_few home f _ _ _ ⟨fun y hy => ?_, ?_⟩
        · rcases List.mem_append.1 hy with hy | hy
          · exact h.1 y hy
          · have := (rightB_fits (home := home) h4).2 (chOf y) (List.mem_map_of_mem hy)
            exact this.1.2
        · rw [List.length_append]
          show done.length + cs.length ≤ L.used + (cs.length + 2)
          omega
    · rw [readB_end hgo]
      exact h
/-- A log as its head has it. -/
def lgOf (h : Hd) : Lg := ⟨h, 0, h.seq, false⟩
/-- The head that Open saves behind all that was read. -/
def Lg.bump (L : Lg) : Hd :=
  if h : (L.h.gen < 18446744073709551615 ∧ L.h.epoch < 18446744073709551615) ∧ L.seq < 18446744073709551616 ∧ (L.h.pos.toNat + L.used) % L.h.log.toNat ≤ 4096 then
    ⟨L.h.gen + 1, L.h.epoch + 1, (((L.h.pos.toNat + L.used) % L.h.log.toNat : Nat) : Int), L.seq, L.h.log, by omega, by omega, h.2.1, ⟨by omega, by omega⟩, L.h.hl⟩
  else Hd.zero
theorem bump_is {L : Lg} (hL : L.Ok) (hg : L.h.gen < 18446744073709551615) (he : L.h.epoch < 18446744073709551615) : L.bump.gen = L.h.gen + 1 ∧ L.bump.epoch = L.h.epoch + 1 ∧ L.bump.pos = (((L.h.pos.toNat + L.used) % L.h.log.toNat : Nat) : Int) ∧ L.bump.seq = L.seq ∧ L.bump.log = L.h.log := by
  have h1 := hL.log0
  have h2 := hL.log1
  have h3 := Nat.mod_lt (L.h.pos.toNat + L.used) (y := L.h.log.toNat) (by omega)
  have hc : (L.h.gen < 18446744073709551615 ∧ L.h.epoch < 18446744073709551615) ∧ L.seq < 18446744073709551616 ∧ (L.h.pos.toNat + L.used) % L.h.log.toNat ≤ 4096 := ⟨⟨hg, he⟩, hL.seq, by omega⟩
  unfold Lg.bump
  rw [dif_pos hc]
  exact ⟨rfl, rfl, rfl, rfl, rfl⟩
theorem bump_right {L : Lg} {n : Int} (hL : L.Ok) (hr : L.h.rightB n = true) (h1 : L.h.gen < 4611686018427387904) (h2 : L.h.epoch < 4611686018427387904) (h3 : 1 ≤ L.seq ∧ L.seq ≤ 4611686018427387904) : L.bump.rightB n = true := by
  obtain ⟨a, b, c, d, e⟩ := bump_is hL (by omega) (by omega)
  rw [Hd.right_iff] at hr ⊢
  obtain ⟨r1, r2, r3, r4, r5, r6, r7⟩ := hr
  have := Nat.mod_lt (L.h.pos.toNat + L.used) (y := L.h.log.toNat) (by omega)
  rw [a, b, c, d, e]
  exact ⟨by omega, by omega, h3, r4, r5, by omega, by omega⟩
/-- What Open of a device that stands comes to: the error, the log, the device. -/
def openTo (D : Dv) : Int × Lg × Dv :=
  if lastN D 2 = Hd.zero then (13, lgOf Hd.zero, callsN D 2) else
    let h := lastN D 2
    let D1 := blkTo h.log.toNat (callsN D 2)
    let R := readB (homeOf D (lgOf h)) (h.log.toNat + 1) (lgOf h) [] (logBks (lgOf h) (callsN D 2) h.log.toNat)
    ((settleTo (2 + h.log.toNat) R.1 R.2.bump D1.2).1, R.2.settled R.2.bump, (settleTo (2 + h.log.toNat) R.1 R.2.bump D1.2).2)
theorem openTo_none {D : Dv} (h : lastN D 2 = Hd.zero) : openTo D = (13, lgOf Hd.zero, callsN D 2) := by rw [openTo, if_pos h]
theorem openTo_some {D D1 : Dv} {h : Hd} {b : Bool} {R : List Cg × Lg} (hh : lastN D 2 = h) (hz : h ≠ Hd.zero) (hb : blkTo h.log.toNat (callsN D 2) = (b, D1)) (hR : readB (homeOf D (lgOf h)) (h.log.toNat + 1) (lgOf h) [] (logBks (lgOf h) (callsN D 2) h.log.toNat) = R) :
    openTo D = ((settleTo (2 + h.log.toNat) R.1 R.2.bump D1).1, R.2.settled R.2.bump, (settleTo (2 + h.log.toNat) R.1 R.2.bump D1).2) := by
  rw [openTo, hh, if_neg hz]
  simp only [hb, hR]
theorem blkTo_up : ∀ (r : Nat) (D : Dv), D.down = false → D.left = -1 → blkTo r D = (true, ⟨D.bs, D.ws, D.ops + r, -1, false⟩)
  | 0, D, h1, h2 => by obtain ⟨a, b, c, d, e⟩ := D; subst h1 h2; rfl
  | r + 1, D, h1, h2 => by
    have hc : D.call = ⟨D.bs, D.ws, D.ops + 1, -1, false⟩ := by obtain ⟨a, b, c, d, e⟩ := D; subst h1 h2; rfl
    rw [blkTo, hc, if_neg (by simp), blkTo_up r _ rfl rfl]
    show ((true, ⟨D.bs, D.ws, D.ops + 1 + r, -1, false⟩) : Bool × Dv) = _
    rw [show D.ops + 1 + r = D.ops + (r + 1) by omega]
end Go.Proofs.YtnhondkdkjehaaaGreat
