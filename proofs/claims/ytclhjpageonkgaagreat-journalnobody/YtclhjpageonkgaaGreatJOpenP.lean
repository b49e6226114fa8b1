/-
  What opening a log comes to, in plain words.
-/
import Derived.Test.YtclhjpageonkgaaGreatJReadI
import Derived.Test.YtclhjpageonkgaaGreatJLie0
import Derived.Test.YtclhjpageonkgaaGreatJBeh
import Derived.Test.YtclhjpageonkgaaGreatLoadS
namespace Go.Proofs.YtclhjpageonkgaaGreat
open Go.RowKit

set_option linter.unusedVariables false
theorem headOf_right {l : List UInt8} {n : Int} {h : Hd} (hh : headOf l n = some h) : h.rightB n = true := by
  unfold headOf at hh
  split at hh
  · split at hh
    · rename_i hc
      injection hh with hh
      rw [← hh]
      exact hc.2.2
    · cases hh
  · cases hh
theorem lastN_right (D : Dv) : ∀ k, lastN D k = Hd.zero ∨ (lastN D k).rightB (D.bs.length : Int) = true
  | 0 => .inl rfl
  | k + 1 => by
    show pickH _ _ _ = _ ∨ (pickH _ _ _).rightB _ = true
    unfold pickH
    cases ho : headOf (D.blk k).1 (D.bs.length : Int) with
    | none => exact lastN_right D k
    | some h =>
      simp only
      split
      · exact .inr (headOf_right ho)
      · exact lastN_right D k
theorem roundTo_go {L : Lg} {home : Int} {D D' : Dv} {cs : List Cg} (h : roundTo L home D = .go cs D') : D'.bs = D.bs ∧ D'.ops ≤ D.ops + (cs.length + 2) ∧ (L.used : Int) + ((cs.length + 2 : Nat) : Int) ≤ L.h.log ∧ rightC home cs = true := by
  unfold roundTo at h
  split at h
  · cases h
  · split at h
    · cases h
    · rename_i told _
      split at h
      · cases h
      · rename_i hc
        cases hq : covTo L told (told.length / 3) 0 D.call with
        | err x => rw [hq] at h; cases h
        | stop x => rw [hq] at h; cases h
        | go c x =>
          rw [hq] at h
          simp only at h
          split at h
          · cases h
          · split at h
            · rename_i hr
              injection h with h1 h2
              have hl := covTo_len L told _ _ _ _ _ hq
              have hk := covTo_calm L told (told.length / 3) 0 D.call
              rw [hq] at hk
              obtain ⟨k1, k2, _⟩ := hk
              subst h1 h2
              rw [hl]
              have k1 : x.bs = D.bs := k1
              have k2 : x.ops ≤ D.ops + 1 + told.length / 3 := k2
              refine ⟨k1, by show x.ops + 1 ≤ _; omega, by omega, hr.2⟩
            · cases h
theorem roundTo_dev (L : Lg) (home : Int) (D : Dv) (hl : 0 ≤ L.h.log) : (roundTo L home D).dev.bs = D.bs ∧ (roundTo L home D).dev.ops ≤ D.ops + (L.h.log.toNat + 2) := by
  unfold roundTo
  split
  · exact ⟨rfl, by show D.ops + 1 ≤ _; omega⟩
  · split
    · exact ⟨rfl, by show D.ops + 1 ≤ _; omega⟩
    · rename_i told _
      split
      · exact ⟨rfl, by show D.ops + 1 ≤ _; omega⟩
      · rename_i hc
        have hk := covTo_calm L told (told.length / 3) 0 D.call
        have hm : told.length / 3 ≤ L.h.log.toNat := by omega
        cases hq : covTo L told (told.length / 3) 0 D.call with
        | err x =>
          rw [hq] at hk
          obtain ⟨k1, k2, _⟩ := hk
          have k2 : x.ops ≤ D.ops + 1 + told.length / 3 := k2
          exact ⟨k1, by show x.ops ≤ _; omega⟩
        | stop x =>
          rw [hq] at hk
          obtain ⟨k1, k2, _⟩ := hk
          have k2 : x.ops ≤ D.ops + 1 + told.length / 3 := k2
          exact ⟨k1, by show x.ops ≤ _; omega⟩
        | go c x =>
          rw [hq] at hk
          obtain ⟨k1, k2, _⟩ := hk
          have k2 : x.ops ≤ D.ops + 1 + told.length / 3 := k2
          simp only
          split
          · exact ⟨k1, by show x.ops + 1 ≤ _; omega⟩
          · split
            · exact ⟨k1, by show x.ops + 1 ≤ _; omega⟩
            · exact ⟨k1, by show x.ops + 1 ≤ _; omega⟩
/-- What reading keeps to. -/
structure ReadOk (L : Lg) (D : Dv) (R : RdAll) : Prop where
  head : R.L.h = L.h
  used : (R.L.used : Int) ≤ L.h.log
  more : L.used ≤ R.L.used
  seq : R.L.seq + L.used ≤ L.seq + R.L.used
  down : R.L.down = L.down
  bs : R.D.bs = D.bs
  ops : R.D.ops + L.used ≤ D.ops + R.L.used + (L.h.log.toNat + 2)
  low : L.seq ≤ R.L.seq
theorem readTo_ok (home : Int) : ∀ (f : Nat) (L : Lg) (done : List Cg) (D : Dv), (L.used : Int) ≤ L.h.log → ReadOk L D (readTo home f L done D)
  | 0, L, done, D, hu => ⟨rfl, hu, Nat.le_refl _, Nat.le_refl _, rfl, rfl, by show D.ops + L.used ≤ _; omega, Nat.le_refl _⟩
  | f + 1, L, done, D, hu => by
    by_cases hgo : (L.used : Int) + 2 < L.h.log
    · rw [readTo_step hgo]
      cases hr : roundTo L home D with
      | err x =>
        have := roundTo_dev L home D (by omega)
        rw [hr] at this
        exact ⟨rfl, hu, Nat.le_refl _, Nat.le_refl _, rfl, this.1, by have h2 : x.ops ≤ _ := this.2; show x.ops + L.used ≤ _ + L.used + _; omega, Nat.le_refl _⟩
      | stop x =>
        have := roundTo_dev L home D (by omega)
        rw [hr] at this
        exact ⟨rfl, hu, Nat.le_refl _, Nat.le_refl _, rfl, this.1, by have h2 : x.ops ≤ _ := this.2; show x.ops + L.used ≤ _ + L.used + _; omega, Nat.le_refl _⟩
      | go cs x =>
        obtain ⟨h1, h2, h3, h4⟩ := roundTo_go hr
        have ih := readTo_ok home f (L.next cs.length) (done ++ cs) x h3
        show ReadOk L D (readTo home f (L.next cs.length) (done ++ cs) x)
        generalize readTo home f (L.next cs.length) (done ++ cs) x = R' at ih ⊢
        obtain ⟨a1, a2, a3, a4, a5, a6, a7, a8⟩ := ih
        have a2 : (R'.L.used : Int) ≤ L.h.log := a2
        have a3 : L.used + (cs.length + 2) ≤ R'.L.used := a3
        have a4 : R'.L.seq + (L.used + (cs.length + 2)) ≤ L.seq + 1 + R'.L.used := a4
        have a7 : R'.D.ops + (L.used + (cs.length + 2)) ≤ x.ops + R'.L.used + (L.h.log.toNat + 2) := a7
        exact ⟨a1, a2, by omega, by omega, a5, a6.trans h1, by omega, by have a8 : L.seq + 1 ≤ R'.L.seq := a8; omega⟩
    · rw [readTo_end hgo]
      exact ⟨rfl, hu, Nat.le_refl _, Nat.le_refl _, rfl, rfl, by show D.ops + L.used ≤ _; omega, Nat.le_refl _⟩
theorem readTo_few (home : Int) : ∀ (f : Nat) (L : Lg) (done : List Cg) (D : Dv), (∀ x ∈ done, (x.1 : Int) < home) ∧ done.length ≤ L.used → (∀ x ∈ (readTo home f L done D).cs, (x.1 : Int) < home) ∧ (readTo home f L done D).cs.length ≤ (readTo home f L done D).L.used
  | 0, L, done, D, h => h
  | f + 1, L, done, D, h => by
    by_cases hgo : (L.used : Int) + 2 < L.h.log
    · rw [readTo_step hgo]
      cases hr : roundTo L home D with
      | err x => exact h
      | stop x => exact h
      | go cs x =>
        obtain ⟨h1, h2, h3, h4⟩ := roundTo_go hr
        refine readTo_few home f _ _ _ ⟨fun y hy => ?_, ?_⟩
        · rcases List.mem_append.1 hy with hy | hy
          · exact h.1 y hy
          · have := (rightB_fits (home := home) h4).2 (chOf y) (List.mem_map_of_mem hy)
            exact this.1.2
        · rw [List.length_append]
          show done.length + cs.length ≤ L.used + (cs.length + 2)
          omega
    · rw [readTo_end hgo]
      exact h
/-- A log as its head has it. -/
def lgOf (h : Hd) : Lg := ⟨h, 0, h.seq, false⟩
/-- The head that Open saves behind all that was read. -/
def Lg.bump (L : Lg) : Hd :=
  if h : (L.h.gen < 18446744073709551615 ∧ L.h.epoch < 18446744073709551615) ∧ L.seq < 18446744073709551616 ∧ (L.h.pos.toNat + L.used) % L.h.log.toNat ≤ 4096 then
    ⟨L.h.gen + 1, L.h.epoch + 1, (((L.h.pos.toNat + L.used) % L.h.log.toNat : Nat) : Int), L.seq, L.h.log, by omega, by omega, h.2.1, ⟨by omega, by omega⟩, L.h.hl⟩
  else Hd.zero
theorem bump_is {L : Lg} (hL : L.Ok) (hg : L.h.gen < 18446744073709551615) (he : L.h.epoch < 18446744073709551615) : L.bump.gen = L.h.gen + 1 ∧ L.bump.epoch = L.h.epoch + 1 ∧ L.bump.pos = (((L.h.pos.toNat + L.used) % L.h.log.toNat : Nat) : Int) ∧ L.bump.seq = L.seq ∧ L.bump.log = L.h.log := by
  have h1 := hL.log0
  have h2 := hL.log1
  have h3 := Nat.mod_lt (L.h.pos.toNat + L.used) (y := L.h.log.toNat) (by omega)
  have hc : (L.h.gen < 18446744073709551615 ∧ L.h.epoch < 18446744073709551615) ∧ L.seq < 18446744073709551616 ∧ (L.h.pos.toNat + L.used) % L.h.log.toNat ≤ 4096 := ⟨⟨hg, he⟩, hL.seq, by omega⟩
  unfold Lg.bump
  rw [dif_pos hc]
  exact ⟨rfl, rfl, rfl, rfl, rfl⟩
theorem bump_right {L : Lg} {n : Int} (hL : L.Ok) (hr : L.h.rightB n = true) (h1 : L.h.gen < 4611686018427387904) (h2 : L.h.epoch < 4611686018427387904) (h3 : 1 ≤ L.seq ∧ L.seq ≤ 4611686018427387904) : L.bump.rightB n = true := by
  obtain ⟨a, b, c, d, e⟩ := bump_is hL (by omega) (by omega)
  rw [Hd.right_iff] at hr ⊢
  obtain ⟨r1, r2, r3, r4, r5, r6, r7⟩ := hr
  have := Nat.mod_lt (L.h.pos.toNat + L.used) (y := L.h.log.toNat) (by omega)
  rw [a, b, c, d, e]
  exact ⟨by omega, by omega, h3, r4, r5, by omega, by omega⟩
/-- What Open comes to: the error, the log, the device. -/
def openTo (D : Dv) : Int × Lg × Dv :=
  if lastN D 2 = Hd.zero then (13, lgOf Hd.zero, callsN D 2) else
  if (readTo (homeOf D (lgOf (lastN D 2))) ((lastN D 2).log.toNat + 1) (lgOf (lastN D 2)) [] (callsN D 2)).e = 0 then
    ((settleTo (2 + (lastN D 2).log.toNat) (readTo (homeOf D (lgOf (lastN D 2))) ((lastN D 2).log.toNat + 1) (lgOf (lastN D 2)) [] (callsN D 2)).cs (readTo (homeOf D (lgOf (lastN D 2))) ((lastN D 2).log.toNat + 1) (lgOf (lastN D 2)) [] (callsN D 2)).L.bump (readTo (homeOf D (lgOf (lastN D 2))) ((lastN D 2).log.toNat + 1) (lgOf (lastN D 2)) [] (callsN D 2)).D).1,
     (readTo (homeOf D (lgOf (lastN D 2))) ((lastN D 2).log.toNat + 1) (lgOf (lastN D 2)) [] (callsN D 2)).L.settled (readTo (homeOf D (lgOf (lastN D 2))) ((lastN D 2).log.toNat + 1) (lgOf (lastN D 2)) [] (callsN D 2)).L.bump,
     (settleTo (2 + (lastN D 2).log.toNat) (readTo (homeOf D (lgOf (lastN D 2))) ((lastN D 2).log.toNat + 1) (lgOf (lastN D 2)) [] (callsN D 2)).cs (readTo (homeOf D (lgOf (lastN D 2))) ((lastN D 2).log.toNat + 1) (lgOf (lastN D 2)) [] (callsN D 2)).L.bump (readTo (homeOf D (lgOf (lastN D 2))) ((lastN D 2).log.toNat + 1) (lgOf (lastN D 2)) [] (callsN D 2)).D).2)
  else ((readTo (homeOf D (lgOf (lastN D 2))) ((lastN D 2).log.toNat + 1) (lgOf (lastN D 2)) [] (callsN D 2)).e, (readTo (homeOf D (lgOf (lastN D 2))) ((lastN D 2).log.toNat + 1) (lgOf (lastN D 2)) [] (callsN D 2)).L, (readTo (homeOf D (lgOf (lastN D 2))) ((lastN D 2).log.toNat + 1) (lgOf (lastN D 2)) [] (callsN D 2)).D)
theorem openTo_none {D : Dv} (h : lastN D 2 = Hd.zero) : openTo D = (13, lgOf Hd.zero, callsN D 2) := by rw [openTo, if_pos h]
theorem openTo_some {D : Dv} {h : Hd} {R : RdAll} (hh : lastN D 2 = h) (hz : h ≠ Hd.zero) (hR : readTo (homeOf D (lgOf h)) (h.log.toNat + 1) (lgOf h) [] (callsN D 2) = R) : openTo D = if R.e = 0 then ((settleTo (2 + h.log.toNat) R.cs R.L.bump R.D).1, R.L.settled R.L.bump, (settleTo (2 + h.log.toNat) R.cs R.L.bump R.D).2) else (R.e, R.L, R.D) := by
  rw [openTo, hh, if_neg hz, hR]
end Go.Proofs.YtclhjpageonkgaaGreat
