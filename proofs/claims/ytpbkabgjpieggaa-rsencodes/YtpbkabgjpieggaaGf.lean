/-
  The field of 256 numbers, in plain mathematics: products of polynomials over 0 and 1, modulo 11d (hex).
-/
namespace Go.Proofs.Ytpbkabgjpieggaa.Gf

/-- One bit's part of a product, and one step of what is left of it. -/
def part (a b i : Nat) : Nat := if b.testBit i then a <<< i else 0
def step (i p : Nat) : Nat := if p.testBit i then p ^^^ (285 <<< (i - 8)) else p
/-- The product, ahead of what is left. -/
def cl (a b : Nat) : Nat := part a b 0 ^^^ part a b 1 ^^^ part a b 2 ^^^ part a b 3 ^^^ part a b 4 ^^^ part a b 5 ^^^ part a b 6 ^^^ part a b 7
def red (p : Nat) : Nat := step 8 (step 9 (step 10 (step 11 (step 12 (step 13 (step 14 p))))))
/-- The product. -/
def gm (a b : Nat) : Nat := red (cl a b)

theorem xor4 (a b c d : Nat) : (a ^^^ b) ^^^ (c ^^^ d) = (a ^^^ c) ^^^ (b ^^^ d) := by
  rw [Nat.xor_assoc, Nat.xor_assoc, ← Nat.xor_assoc b c d, Nat.xor_comm b c, Nat.xor_assoc c b d]
theorem part_left (a a' b i : Nat) : part (a ^^^ a') b i = part a b i ^^^ part a' b i := by
  unfold part
  split
  · exact Nat.shiftLeft_xor_distrib
  · simp
theorem part_right (a b b' i : Nat) : part a (b ^^^ b') i = part a b i ^^^ part a b' i := by
  unfold part
  rw [Nat.testBit_xor]
  cases h1 : b.testBit i <;> cases h2 : b'.testBit i <;> simp
theorem step_xor (i p q : Nat) : step i (p ^^^ q) = step i p ^^^ step i q := by
  unfold step
  rw [Nat.testBit_xor]
  cases h1 : p.testBit i <;> cases h2 : q.testBit i
  · simp
  · simp [Nat.xor_assoc]
  · simp
    rw [Nat.xor_assoc, Nat.xor_comm q, ← Nat.xor_assoc]
  · simp
    rw [xor4]
    simp
theorem red_xor (p q : Nat) : red (p ^^^ q) = red p ^^^ red q := by simp only [red, step_xor]
theorem cl_left (a a' b : Nat) : cl (a ^^^ a') b = cl a b ^^^ cl a' b := by
  simp only [cl, part_left]
  simp only [xor4]
theorem cl_right (a b b' : Nat) : cl a (b ^^^ b') = cl a b ^^^ cl a b' := by
  simp only [cl, part_right]
  simp only [xor4]
theorem gm_left (a a' b : Nat) : gm (a ^^^ a') b = gm a b ^^^ gm a' b := by rw [gm, cl_left, red_xor]; rfl
theorem gm_right (a b b' : Nat) : gm a (b ^^^ b') = gm a b ^^^ gm a b' := by rw [gm, cl_right, red_xor]; rfl

/-- What holds of 0, of the powers of 2, and of sums, holds of all. -/
theorem bits_less : ∀ a, a < 256 → a ≠ 0 → ∃ i, i < 8 ∧ a ^^^ 2 ^ i < a := by decide +kernel
theorem bits_ind {P : Nat → Prop} (h0 : P 0) (h1 : ∀ i, i < 8 → P (2 ^ i)) (hx : ∀ a b, a < 256 → b < 256 → P a → P b → P (a ^^^ b)) : ∀ a, a < 256 → P a := by
  intro a
  induction a using Nat.strongRecOn with
  | ind a ih =>
    intro ha
    by_cases hz : a = 0
    · rw [hz]; exact h0
    · obtain ⟨i, hi, hl⟩ := bits_less a ha hz
      have h2 : (2 : Nat) ^ i < 256 := Nat.lt_of_lt_of_le (Nat.pow_lt_pow_right (by omega) hi) (by decide)
      have h3 := hx (a ^^^ 2 ^ i) (2 ^ i) (by omega) h2 (ih _ hl (by omega)) (h1 i hi)
      rwa [Nat.xor_assoc, Nat.xor_self, Nat.xor_zero] at h3

theorem gm_zero_left (b : Nat) : gm 0 b = 0 := by
  have h := gm_left 0 0 b
  rwa [Nat.xor_self, Nat.xor_self] at h
theorem gm_zero_right (a : Nat) : gm a 0 = 0 := by
  have h := gm_right a 0 0
  rwa [Nat.xor_self, Nat.xor_self] at h
theorem lt_xor {a b : Nat} (ha : a < 256) (hb : b < 256) : a ^^^ b < 256 := Nat.xor_lt_two_pow (n := 8) ha hb
theorem basis_lt : ∀ i, i < 8 → ∀ j, j < 8 → gm (2 ^ i) (2 ^ j) < 256 := by decide +kernel
theorem gm_lt (a b : Nat) (ha : a < 256) (hb : b < 256) : gm a b < 256 := by
  refine bits_ind (P := fun a => gm a b < 256) ?_ (fun i hi => ?_) (fun x y _ _ hx hy => ?_) a ha
  · simp [gm_zero_left]
  · refine bits_ind (P := fun b => gm (2 ^ i) b < 256) ?_ (fun j hj => basis_lt i hi j hj) (fun x y _ _ hx hy => ?_) b hb
    · simp [gm_zero_right]
    · rw [gm_right]; exact lt_xor hx hy
  · show gm (x ^^^ y) b < 256
    rw [gm_left]; exact lt_xor hx hy
theorem basis_comm : ∀ i, i < 8 → ∀ j, j < 8 → gm (2 ^ i) (2 ^ j) = gm (2 ^ j) (2 ^ i) := by decide +kernel
theorem gm_comm (a b : Nat) (ha : a < 256) (hb : b < 256) : gm a b = gm b a := by
  refine bits_ind (P := fun a => gm a b = gm b a) ?_ (fun i hi => ?_) (fun x y _ _ hx hy => ?_) a ha
  · simp [gm_zero_left, gm_zero_right]
  · refine bits_ind (P := fun b => gm (2 ^ i) b = gm b (2 ^ i)) ?_ (fun j hj => basis_comm i hi j hj) (fun x y _ _ hx hy => ?_) b hb
    · simp [gm_zero_left, gm_zero_right]
    · show gm (2 ^ i) (x ^^^ y) = gm (x ^^^ y) (2 ^ i)
      rw [gm_right, gm_left, hx, hy]
  · show gm (x ^^^ y) b = gm b (x ^^^ y)
    rw [gm_right, gm_left, hx, hy]
theorem basis_assoc : ∀ i, i < 8 → ∀ j, j < 8 → ∀ k, k < 8 → gm (gm (2 ^ i) (2 ^ j)) (2 ^ k) = gm (2 ^ i) (gm (2 ^ j) (2 ^ k)) := by decide +kernel
theorem gm_assoc (a b c : Nat) (ha : a < 256) (hb : b < 256) (hc : c < 256) : gm (gm a b) c = gm a (gm b c) := by
  refine bits_ind (P := fun a => gm (gm a b) c = gm a (gm b c)) ?_ (fun i hi => ?_) (fun x y _ _ hx hy => ?_) a ha
  · simp [gm_zero_left]
  · refine bits_ind (P := fun b => gm (gm (2 ^ i) b) c = gm (2 ^ i) (gm b c)) ?_ (fun j hj => ?_) (fun x y _ _ hx hy => ?_) b hb
    · simp [gm_zero_left, gm_zero_right]
    · refine bits_ind (P := fun c => gm (gm (2 ^ i) (2 ^ j)) c = gm (2 ^ i) (gm (2 ^ j) c)) ?_ (fun k hk => basis_assoc i hi j hj k hk) (fun x y _ _ hx hy => ?_) c hc
      · simp [gm_zero_right]
      · show gm (gm (2 ^ i) (2 ^ j)) (x ^^^ y) = gm (2 ^ i) (gm (2 ^ j) (x ^^^ y))
        rw [gm_right, gm_right, gm_right, hx, hy]
    · show gm (gm (2 ^ i) (x ^^^ y)) c = gm (2 ^ i) (gm (x ^^^ y) c)
      rw [gm_right, gm_left, gm_left, gm_right, hx, hy]
  · show gm (gm (x ^^^ y) b) c = gm (x ^^^ y) (gm b c)
    rw [gm_left, gm_left, gm_left, hx, hy]
theorem gm_one (a : Nat) (ha : a < 256) : gm a 1 = a := by
  have h : ∀ a, a < 256 → gm a 1 = a := by decide +kernel
  exact h a ha
theorem gm_one_left (a : Nat) (ha : a < 256) : gm 1 a = a := by rw [gm_comm 1 a (by omega) ha, gm_one a ha]

/-- The inverse: the first number whose product is 1. -/
def invFrom (a : Nat) : Nat → Nat → Nat
  | 0, _ => 0
  | k + 1, b => if gm a b = 1 then b else invFrom a k (b + 1)
def ginv (a : Nat) : Nat := invFrom a 255 1
theorem ginv_table : ∀ a, a < 256 → ginv a < 256 ∧ (a ≠ 0 → gm a (ginv a) = 1) ∧ (a = 0 → ginv a = 0) := by decide +kernel

/-- Powers. -/
def gpow (a : Nat) : Nat → Nat
  | 0 => 1
  | n + 1 => gm (gpow a n) a
theorem gpow_lt (a : Nat) (ha : a < 256) : ∀ n, gpow a n < 256
  | 0 => by simp [gpow]
  | n + 1 => gm_lt _ _ (gpow_lt a ha n) ha
theorem gpow_add (a : Nat) (ha : a < 256) (n : Nat) : ∀ m, gpow a (n + m) = gm (gpow a n) (gpow a m)
  | 0 => by rw [Nat.add_zero, gpow, gm_one _ (gpow_lt a ha n)]
  | m + 1 => by rw [Nat.add_succ, gpow, gpow, gpow_add a ha n m, gm_assoc _ _ _ (gpow_lt a ha n) (gpow_lt a ha m) ha]
theorem gpow_one_left : ∀ n, gpow 1 n = 1
  | 0 => rfl
  | n + 1 => by rw [gpow, gpow_one_left n]; decide
theorem gpow_mul (a : Nat) (ha : a < 256) (n : Nat) : ∀ m, gpow a (n * m) = gpow (gpow a n) m
  | 0 => rfl
  | m + 1 => by rw [Nat.mul_succ, gpow_add a ha, gpow_mul a ha n m, gpow]
/-- a to the power of 255, by squares. -/
def sq (a : Nat) : Nat := gm a a
def p255 (a : Nat) : Nat :=
  let b := sq a; let c := sq b; let d := sq c; let e := sq d; let f := sq e; let g := sq f; let h := sq g
  gm a (gm b (gm c (gm d (gm e (gm f (gm g h))))))
theorem p255_table : ∀ a, a < 256 → a ≠ 0 → p255 a = 1 := by decide +kernel
theorem gpow_two (a : Nat) (ha : a < 256) : gpow a 2 = sq a := by
  show gm (gm 1 a) a = gm a a
  rw [gm_one_left a ha]
theorem sq_pow (a : Nat) (ha : a < 256) (n : Nat) : sq (gpow a n) = gpow a (n + n) := by rw [gpow_add a ha]; rfl
theorem gpow_one (a : Nat) (ha : a < 256) : gpow a 1 = a := gm_one_left a ha
theorem gpow_255 (a : Nat) (ha : a < 256) (h : a ≠ 0) : gpow a 255 = 1 := by
  have h1 := p255_table a ha h
  have e : p255 a = gm (gpow a 1) (gm (gpow a 2) (gm (gpow a 4) (gm (gpow a 8) (gm (gpow a 16) (gm (gpow a 32) (gm (gpow a 64) (gpow a 128))))))) := by
    have s1 : gpow a 2 = sq a := gpow_two a ha
    have s2 : gpow a 4 = sq (sq a) := by rw [← s1, sq_pow a ha]
    have s3 : gpow a 8 = sq (sq (sq a)) := by rw [← s2, sq_pow a ha]
    have s4 : gpow a 16 = sq (sq (sq (sq a))) := by rw [← s3, sq_pow a ha]
    have s5 : gpow a 32 = sq (sq (sq (sq (sq a)))) := by rw [← s4, sq_pow a ha]
    have s6 : gpow a 64 = sq (sq (sq (sq (sq (sq a))))) := by rw [← s5, sq_pow a ha]
    have s7 : gpow a 128 = sq (sq (sq (sq (sq (sq (sq a)))))) := by rw [← s6, sq_pow a ha]
    rw [gpow_one a ha, s1, s2, s3, s4, s5, s6, s7]
    rfl
  rw [h1] at e
  rw [e, ← gpow_add a ha, ← gpow_add a ha, ← gpow_add a ha, ← gpow_add a ha, ← gpow_add a ha, ← gpow_add a ha, ← gpow_add a ha]

/-- Of which power of 2 a number is: looked for one by one. -/
def logFrom (a : Nat) : Nat → Nat → Nat → Nat
  | 0, _, n => n
  | k + 1, e, n => if e = a then n else logFrom a k (gm e 2) (n + 1)
def glog (a : Nat) : Nat := logFrom a 255 1 0
theorem logFrom_spec (a : Nat) : ∀ k n, (∃ j, n ≤ j ∧ j < n + k ∧ gpow 2 j = a) → n ≤ logFrom a k (gpow 2 n) n ∧ logFrom a k (gpow 2 n) n < n + k ∧ gpow 2 (logFrom a k (gpow 2 n) n) = a ∧ ∀ j, n ≤ j → j < logFrom a k (gpow 2 n) n → gpow 2 j ≠ a
  | 0, n, h => by obtain ⟨j, h1, h2, _⟩ := h; omega
  | k + 1, n, h => by
    rw [logFrom]
    split
    · rename_i he
      exact ⟨Nat.le_refl _, by omega, he, fun j h1 h2 => by omega⟩
    · rename_i he
      have hx : ∃ j, n + 1 ≤ j ∧ j < n + 1 + k ∧ gpow 2 j = a := by
        obtain ⟨j, h1, h2, h3⟩ := h
        refine ⟨j, ?_, by omega, h3⟩
        rcases Nat.eq_or_lt_of_le h1 with h4 | h4
        · exact absurd (h4 ▸ h3) he
        · exact h4
      have ih := logFrom_spec a k (n + 1) hx
      rw [show gpow 2 (n + 1) = gm (gpow 2 n) 2 from rfl] at ih
      refine ⟨by omega, by omega, ih.2.2.1, fun j h1 h2 => ?_⟩
      rcases Nat.eq_or_lt_of_le h1 with h4 | h4
      · exact h4 ▸ he
      · exact ih.2.2.2 j h4 h2
/-- All of them are powers of 2. -/
def allFrom : Nat → Nat → List Nat
  | 0, _ => []
  | k + 1, e => e :: allFrom k (gm e 2)
theorem allFrom_get : ∀ k n j, j < k → (allFrom k (gpow 2 n))[j]? = some (gpow 2 (n + j))
  | k + 1, n, 0, _ => rfl
  | k + 1, n, j + 1, h => by
    have := allFrom_get k (n + 1) j (by omega)
    rw [show n + (j + 1) = n + 1 + j by omega, ← this]
    rfl
theorem all_powers : ∀ a, a < 256 → a ≠ 0 → a ∈ allFrom 255 1 := by decide +kernel
theorem is_power (a : Nat) (ha : a < 256) (h : a ≠ 0) : ∃ j, j < 255 ∧ gpow 2 j = a := by
  obtain ⟨j, hj⟩ := List.getElem?_of_mem (all_powers a ha h)
  have hl : ∀ k e, (allFrom k e).length = k := fun k => by
    induction k with
    | zero => intro e; rfl
    | succ k ih => intro e; simp [allFrom, ih]
  have h1 : j < 255 := by
    have := (List.getElem?_eq_some_iff.1 hj).1
    rwa [hl] at this
  have h2 := allFrom_get 255 0 j h1
  rw [show gpow 2 0 = 1 from rfl, hj, Nat.zero_add] at h2
  exact ⟨j, h1, (Option.some.inj h2).symm⟩
theorem glog_spec (a : Nat) (ha : a < 256) (h : a ≠ 0) : glog a < 255 ∧ gpow 2 (glog a) = a ∧ ∀ j, j < glog a → gpow 2 j ≠ a := by
  obtain ⟨j, h1, h2⟩ := is_power a ha h
  have := logFrom_spec a 255 0 ⟨j, Nat.zero_le _, by omega, h2⟩
  exact ⟨by have h3 := this.2.1; simpa [glog, gpow] using h3, this.2.2.1, fun j hj => this.2.2.2 j (Nat.zero_le _) hj⟩
end Go.Proofs.Ytpbkabgjpieggaa.Gf
