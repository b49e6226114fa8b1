/-
  What reading a log's transactions comes to, in plain words.
-/
import Derived.Test.YtclhjpageonkgaaGreatJSealed
import Derived.Test.YtclhjpageonkgaaGreatJRight
import Derived.Test.YtclhjpageonkgaaGreatJEntP
namespace Go.Proofs.YtclhjpageonkgaaGreat
open Go.RowKit

set_option linter.unusedVariables false
/-- A mark of a place of the next transaction. -/
def Lg.mk8 (L : Lg) (kind : UInt8) : Mk := ⟨kind, L.h.epoch, L.seq % 18446744073709551616, L.h.he, Nat.mod_lt _ (by omega)⟩
theorem mk8_eq (L : Lg) (kind : UInt8) (hs : L.seq < 18446744073709551616) : L.mark kind hs = L.mk8 kind :=
  Mk.ext' rfl rfl (by show L.seq = L.seq % _; omega)
/-- A change in plain words, as one that lies would. -/
def chOf (x : Cg) : Ch := ⟨(x.1 : Int), none, 0, 0, x.2.1⟩
def rightC (home : Int) (cs : List Cg) : Bool := rightB home (cs.map chOf)
theorem anyN_congr {xs ys : List Ch} (h : xs.map (·.n) = ys.map (·.n)) (n : Int) : anyN xs n = anyN ys n := by
  have h1 : ∀ zs : List Ch, anyN zs n = (zs.map (·.n)).any (fun m => decide (m = n)) := fun zs => by simp [anyN, List.any_map, Function.comp_def]
  rw [h1, h1, h]
theorem rightL_congr (home : Int) : ∀ (xs ys az bs : List Ch), xs.map (fun x => (x.n, x.b)) = ys.map (fun x => (x.n, x.b)) → az.map (·.n) = bs.map (·.n) → rightL home az xs = rightL home bs ys
  | [], [], az, bs, _, _ => rfl
  | [], y :: ys, az, bs, h, _ => by simp at h
  | x :: xs, [], az, bs, h, _ => by simp at h
  | x :: xs, y :: ys, az, bs, h, ha => by
    simp only [List.map_cons, List.cons.injEq, Prod.mk.injEq] at h
    obtain ⟨⟨h1, h2⟩, h3⟩ := h
    have hf : decide (x.fits home) = decide (y.fits home) := decide_eq_decide.2 (by unfold Ch.fits; rw [h1, h2])
    rw [rightL, rightL, rightL_congr home xs ys (az ++ [x]) (bs ++ [y]) h3 (by simp [ha, h1]), hf, h1, anyN_congr ha]
theorem rightB_congr (home : Int) (xs ys : List Ch) (h : xs.map (fun x => (x.n, x.b)) = ys.map (fun x => (x.n, x.b))) : rightB home xs = rightB home ys := by
  have hl : xs.length = ys.length := by simpa using congrArg List.length h
  rw [rightB, rightB, hl, rightL_congr home xs ys [] [] h rfl]
/-- Changes that lie, of whole blocks. -/
def whole (xs : List Ch) : Prop := ∀ x ∈ xs, 0 ≤ x.n ∧ x.b.length = 256
theorem right_whole {home : Int} {xs : List Ch} (hw : whole xs) : rightB home xs = rightC home (xs.map Ch.cg) := by
  unfold rightC
  apply rightB_congr
  rw [List.map_map, List.map_map]
  apply List.map_congr_left
  intro x hx
  obtain ⟨h1, h2⟩ := hw x hx
  show (x.n, x.b) = (((x.n.toNat : Nat) : Int), (bkOf x.b).1)
  rw [bkOf_val h2]
  congr 1
  omega
/-- What changes that are right keep to. -/
theorem rightL_fits (home : Int) : ∀ (xs az : List Ch), rightL home az xs = true → ∀ x ∈ xs, x.fits home
  | [], _, _, x, hx => by cases hx
  | y :: ys, az, h, x, hx => by
    rw [rightL, Bool.and_eq_true, Bool.and_eq_true, decide_eq_true_eq] at h
    rcases List.mem_cons.1 hx with rfl | hx
    · exact h.1.2
    · exact rightL_fits home ys _ h.2 x hx
theorem rightB_fits {home : Int} {xs : List Ch} (h : rightB home xs = true) : (1 ≤ xs.length ∧ xs.length ≤ 70) ∧ ∀ x ∈ xs, x.fits home := by
  rw [rightB, Bool.and_eq_true, decide_eq_true_eq] at h
  exact ⟨h.1, rightL_fits home xs [] h.2⟩
/-- What reading some places comes to: an error, no transaction, or one. -/
inductive Rd where
  | err (D : Dv)
  | stop (D : Dv)
  | go (cs : List Cg) (D : Dv)
/-- With some ahead. -/
def Rd.pre (cs : List Cg) : Rd → Rd
  | .go c D => .go (cs ++ c) D
  | o => o
theorem Rd.pre_nil (r : Rd) : r.pre [] = r := by cases r <;> rfl
theorem Rd.pre_pre (a b : List Cg) (r : Rd) : (r.pre b).pre a = r.pre (a ++ b) := by cases r <;> simp [Rd.pre]
/-- The change that the place i tells. -/
def chgAt (told : List UInt8) (i : Nat) (b : Bk) : Cg := ((told.getD (3 * i) 0).toNat * 256 + (told.getD (3 * i + 1) 0).toNat, bkOf (told.getD (3 * i + 2) 0 :: b.1.drop 1))
/-- The covered places are read. -/
def covTo (L : Lg) (told : List UInt8) : Nat → Nat → Dv → Rd
  | 0, _, D => .go [] D
  | r + 1, i, D => if D.call.down = true then .err D.call else
    if (D.blk (L.place (1 + i))).1.headD 0 = 3 then (covTo L told r (i + 1) D.call).pre [chgAt told i (D.blk (L.place (1 + i)))] else .stop D.call
/-- One transaction is read. -/
def roundTo (L : Lg) (home : Int) (D : Dv) : Rd :=
  if D.call.down = true then .err D.call else
  match sealedOf (L.mk8 1) (D.blk (L.place 0)).1 with
  | none => .stop D.call
  | some told =>
    if told.length % 3 ≠ 0 ∨ (L.used : Int) + (told.length / 3 : Nat) + 2 > L.h.log then .stop D.call else
    match covTo L told (told.length / 3) 0 D.call with
    | .go cs D2 => if D2.call.down = true then .err D2.call else
      if sealedOf (L.mk8 2) (D2.blk (L.place (1 + told.length / 3))).1 = some [] ∧ rightC home cs = true then .go cs D2.call else .stop D2.call
    | o => o
/-- A log behind a transaction of so many changes. -/
def Lg.next (L : Lg) (n : Nat) : Lg := { L with used := L.used + (n + 2), seq := L.seq + 1 }
/-- What is read of a log: the error, the changes, the log, the device. -/
structure RdAll where
  e : Int
  cs : List Cg
  L : Lg
  D : Dv
/-- All transactions are read. -/
def readTo (home : Int) : Nat → Lg → List Cg → Dv → RdAll
  | 0, L, done, D => ⟨0, done, L, D⟩
  | f + 1, L, done, D => if (L.used : Int) + 2 < L.h.log then
      match roundTo L home D with
      | .err D' => ⟨17, done, L, D'⟩
      | .stop D' => ⟨0, done, L, D'⟩
      | .go cs D' => readTo home f (L.next cs.length) (done ++ cs) D'
    else ⟨0, done, L, D⟩
/-- Reading turns nothing but how many calls there were. -/
def Calm (D D' : Dv) (k : Nat) : Prop := D'.bs = D.bs ∧ D'.ops ≤ D.ops + k ∧ D'.ws = D.ws
theorem Calm.call {D D' : Dv} {k : Nat} (h : Calm D D' k) : Calm D D'.call (k + 1) := ⟨h.1, by have := h.2.1; show D'.ops + 1 ≤ _; omega, h.2.2⟩
theorem Calm.mono {D D' : Dv} {k m : Nat} (h : Calm D D' k) (hm : k ≤ m) : Calm D D' m := ⟨h.1, by have := h.2.1; omega, h.2.2⟩
theorem Calm.refl (D : Dv) : Calm D D 0 := ⟨rfl, Nat.le_refl _, rfl⟩
theorem Calm.trans {D D' D'' : Dv} {k m : Nat} (h : Calm D D' k) (h' : Calm D' D'' m) : Calm D D'' (k + m) := ⟨h'.1.trans h.1, by have := h.2.1; have := h'.2.1; omega, h'.2.2.trans h.2.2⟩
def Rd.dev : Rd → Dv
  | .err D => D
  | .stop D => D
  | .go _ D => D
theorem Rd.pre_dev (cs : List Cg) (r : Rd) : (r.pre cs).dev = r.dev := by cases r <;> rfl
theorem covTo_calm (L : Lg) (told : List UInt8) : ∀ (r i : Nat) (D : Dv), Calm D (covTo L told r i D).dev r
  | 0, i, D => Calm.refl D
  | r + 1, i, D => by
    unfold covTo
    split
    · exact (Calm.refl D).call.mono (by omega)
    · split
      · rw [Rd.pre_dev]
        have := (Calm.refl D).call.trans (covTo_calm L told r (i + 1) D.call)
        exact this.mono (by omega)
      · exact (Calm.refl D).call.mono (by omega)
theorem covTo_len (L : Lg) (told : List UInt8) : ∀ (r i : Nat) (D : Dv) (cs : List Cg) (D' : Dv), covTo L told r i D = .go cs D' → cs.length = r
  | 0, i, D, cs, D', h => by
    unfold covTo at h
    injection h with h1 _
    rw [← h1]
    rfl
  | r + 1, i, D, cs, D', h => by
    unfold covTo at h
    split at h
    · cases h
    · split at h
      · cases hq : covTo L told r (i + 1) D.call with
        | err x => rw [hq] at h; cases h
        | stop x => rw [hq] at h; cases h
        | go c x =>
          rw [hq] at h
          injection h with h1 _
          rw [← h1]
          have := covTo_len L told r (i + 1) _ _ _ hq
          simp [this]
      · cases h
end Go.Proofs.YtclhjpageonkgaaGreat
