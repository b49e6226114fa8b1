/-
  Polynomials over the field, in plain mathematics: values, roots, products; Cauchy's matrices.
-/
import Derived.Test.YtgakeecibofiiaaLin
namespace Go.Proofs.Ytgakeecibofiiaa.Gf

instance : Std.Associative (α := UInt8) (· ^^^ ·) := ⟨add_assoc⟩
instance : Std.Commutative (α := UInt8) (· ^^^ ·) := ⟨add_comm⟩

/-- Powers. -/
def pw (a : UInt8) : Nat → UInt8
  | 0 => 1
  | n + 1 => mul (pw a n) a
theorem pw_toNat (a : UInt8) : ∀ n, (pw a n).toNat = gpow a.toNat n
  | 0 => rfl
  | n + 1 => by rw [pw, mul_toNat, pw_toNat a n]; rfl
theorem pw_add (a : UInt8) (n : Nat) : ∀ m, pw a (n + m) = mul (pw a n) (pw a m)
  | 0 => (mul_one _).symm
  | m + 1 => by rw [Nat.add_succ, pw, pw, pw_add a n m, mul_assoc]
theorem pw_ne {a : UInt8} (h : a ≠ 0) : ∀ n, pw a n ≠ 0
  | 0 => one_ne
  | n + 1 => mul_ne (pw_ne h n) h
theorem pw_zero : ∀ n, 0 < n → pw 0 n = 0
  | _ + 1, _ => mul_zero _
theorem pw_255 {a : UInt8} (h : a ≠ 0) : pw a 255 = 1 := UInt8.toNat_inj.1 (by rw [pw_toNat]; exact gpow_255 _ (lt256 a) (toNat_ne h))
theorem pw_one_left : ∀ n, pw 1 n = 1
  | 0 => rfl
  | n + 1 => by rw [pw, pw_one_left n, mul_one]
theorem pw_mul (a : UInt8) (n : Nat) : ∀ m, pw a (n * m) = pw (pw a n) m
  | 0 => rfl
  | m + 1 => by rw [Nat.mul_succ, pw_add, pw_mul a n m, pw]
theorem pw_mod {a : UInt8} (h : a ≠ 0) (n : Nat) : pw a (n % 255) = pw a n := by
  have e : n = 255 * (n / 255) + n % 255 := by omega
  conv => rhs; rw [e]
  rw [pw_add, pw_mul, pw_255 h, pw_one_left, one_mul]
theorem pw_succ_left (a : UInt8) (n : Nat) : pw a (n + 1) = mul a (pw a n) := mul_comm _ _
theorem pw_inv {a : UInt8} (h : a ≠ 0) (n : Nat) : pw (inv a) n = inv (pw a n) := by
  refine inv_uniq ?_
  induction n with
  | zero => exact mul_one 1
  | succ n ih => rw [pw, pw, mul_assoc, ← mul_assoc a, mul_comm a, mul_assoc (pw (inv a) n), mul_inv h, mul_one, ih]

/-- A polynomial's value: the first number is that of x to the power of 0. -/
def ev : List UInt8 → UInt8 → UInt8
  | [], _ => 0
  | c :: p, x => c ^^^ mul x (ev p x)
theorem ev_sum : ∀ (p : List UInt8) (x : UInt8), ev p x = sum p.length (fun i => mul (p.getD i 0) (pw x i))
  | [], _ => rfl
  | c :: p, x => by
    rw [ev, ev_sum p x, List.length_cons, sum_front]
    show c ^^^ mul x (lsum _ _) = mul c 1 ^^^ lsum _ _
    rw [mul_one, ← lsum_mul]
    congr 1
    refine lsum_congr (fun i _ => ?_)
    rw [pw_succ_left, ← mul_assoc, mul_comm x, mul_assoc]
    rfl
theorem ev_append (x : UInt8) (q : List UInt8) : ∀ p, ev (p ++ q) x = ev p x ^^^ mul (pw x p.length) (ev q x)
  | [] => by rw [List.nil_append, ev, zero_add, List.length_nil, pw, one_mul]
  | c :: p => by rw [List.cons_append, ev, ev, ev_append x q p, mul_add, List.length_cons, pw_succ_left, mul_assoc, add_assoc]
theorem ev_scale (c x : UInt8) : ∀ p : List UInt8, ev (p.map (fun a => mul a c)) x = mul (ev p x) c
  | [] => (zero_mul c).symm
  | a :: p => by rw [List.map_cons, ev, ev, ev_scale c x p, add_mul, mul_assoc]
/-- The sum, as far as the longer one goes. -/
def padd : List UInt8 → List UInt8 → List UInt8
  | [], q => q
  | p, [] => p
  | a :: p, b :: q => (a ^^^ b) :: padd p q
theorem padd_length : ∀ p q : List UInt8, (padd p q).length = max p.length q.length
  | [], q => by simp [padd]
  | a :: p, [] => by simp [padd]
  | a :: p, b :: q => by rw [padd, List.length_cons, padd_length p q, List.length_cons, List.length_cons]; omega
theorem padd_get : ∀ (p q : List UInt8) (i : Nat), (padd p q).getD i 0 = p.getD i 0 ^^^ q.getD i 0
  | [], q, i => by simp [padd]
  | a :: p, [], i => by simp [padd]
  | a :: p, b :: q, 0 => rfl
  | a :: p, b :: q, i + 1 => padd_get p q i
theorem ev_padd (x : UInt8) : ∀ p q : List UInt8, ev (padd p q) x = ev p x ^^^ ev q x
  | [], q => by rw [padd, ev, zero_add]
  | a :: p, [] => by simp [padd, ev]
  | a :: p, b :: q => by rw [padd, ev, ev, ev, ev_padd x p q, mul_add, add_four]

theorem ev_zero {p : List UInt8} (hp : ∀ c ∈ p, c = 0) (x : UInt8) : ev p x = 0 := by
  induction p with
  | nil => rfl
  | cons c p ih => rw [ev, hp c (List.mem_cons_self ..), ih (fun d hd => hp d (List.mem_cons_of_mem _ hd)), mul_zero, add_zero]
/-- What is left when a root is taken out. -/
def quo (a : UInt8) : List UInt8 → List UInt8
  | [] => []
  | d :: p => ev (d :: p) a :: quo a p
theorem quo_length (a : UInt8) : ∀ p, (quo a p).length = p.length
  | [] => rfl
  | d :: p => by rw [quo, List.length_cons, quo_length a p, List.length_cons]
theorem quo_ev (a x : UInt8) : ∀ (p : List UInt8), mul x (ev p x) ^^^ mul a (ev p a) = mul (x ^^^ a) (ev (quo a p) x)
  | [] => by rw [quo, ev, ev, mul_zero, mul_zero, mul_zero, add_zero]
  | d :: p => by
    rw [quo, show ev (ev (d :: p) a :: quo a p) x = ev (d :: p) a ^^^ mul x (ev (quo a p) x) from rfl, mul_add, ← mul_assoc (x ^^^ a), mul_comm (x ^^^ a) x, mul_assoc x, ← quo_ev a x p, ev, ev]
    simp only [mul_add, add_mul]
    have e : ∀ xd xxp ad aap xap : UInt8, (xd ^^^ xxp) ^^^ (ad ^^^ aap) = (xd ^^^ ad ^^^ (xap ^^^ aap)) ^^^ (xxp ^^^ xap) := fun xd xxp ad aap xap => by
      have e1 : (xd ^^^ ad ^^^ (xap ^^^ aap)) ^^^ (xxp ^^^ xap) = ((xd ^^^ xxp) ^^^ (ad ^^^ aap)) ^^^ (xap ^^^ xap) := by ac_rfl
      rw [e1, add_self, add_zero]
    exact e _ _ _ _ _
theorem quo_zero (a : UInt8) : ∀ p : List UInt8, (∀ c ∈ quo a p, c = 0) → ∀ c ∈ p, c = 0
  | [], _ => fun c hc => by cases hc
  | d :: p, h => by
    have hp := quo_zero a p (fun c hc => h c (List.mem_cons_of_mem _ hc))
    have h0 : ev p a = 0 := ev_zero hp a
    have h1 : ev (d :: p) a = 0 := h _ (List.mem_cons_self ..)
    rw [ev, h0, mul_zero, add_zero] at h1
    intro c hc
    rcases List.mem_cons.1 hc with rfl | hc
    · exact h1
    · exact hp c hc
/-- With as many roots as numbers, all are 0. -/
theorem roots : ∀ (xs p : List UInt8), xs.Nodup → p.length ≤ xs.length → (∀ x ∈ xs, ev p x = 0) → ∀ c ∈ p, c = 0
  | _, [], _, _, _ => fun c hc => by cases hc
  | [], c :: p, _, hl, _ => by simp at hl
  | a :: xs, c :: p, hn, hl, h => by
    rw [List.nodup_cons] at hn
    have ha := h a (List.mem_cons_self ..)
    have hq := roots xs (quo a p) hn.2 (by rw [quo_length]; simp at hl; omega) (fun x hx => by
      have hx0 := h x (List.mem_cons_of_mem _ hx)
      have e := quo_ev a x p
      have e2 : mul x (ev p x) ^^^ mul a (ev p a) = ev (c :: p) x ^^^ ev (c :: p) a := by
        rw [ev, ev]
        have e3 : (c ^^^ mul x (ev p x)) ^^^ (c ^^^ mul a (ev p a)) = (c ^^^ c) ^^^ (mul x (ev p x) ^^^ mul a (ev p a)) := add_four _ _ _ _
        rw [e3, add_self, zero_add]
      rw [e2, hx0, ha, add_zero] at e
      exact (mul_eq_zero e.symm).resolve_left (add_ne (fun e => hn.1 (e ▸ hx))))
    have hp := quo_zero a p hq
    have h0 : ev p a = 0 := ev_zero hp a
    rw [ev, h0, mul_zero, add_zero] at ha
    intro d hd
    rcases List.mem_cons.1 hd with rfl | hd
    · exact ha
    · exact hp d hd

theorem cross (x x0 y y0 : UInt8) : mul (x ^^^ y0) (x0 ^^^ y) ^^^ mul (x0 ^^^ y0) (x ^^^ y) = mul (x ^^^ x0) (y ^^^ y0) := by
  simp only [mul_add, add_mul]
  rw [mul_comm x0 x, mul_comm y0 x, mul_comm y0 x0]
  have e : ∀ p q r s u v : UInt8, (p ^^^ r ^^^ (q ^^^ s)) ^^^ (p ^^^ v ^^^ (u ^^^ s)) = q ^^^ u ^^^ (v ^^^ r) := fun p q r s u v => by
    have e1 : (p ^^^ r ^^^ (q ^^^ s)) ^^^ (p ^^^ v ^^^ (u ^^^ s)) = (p ^^^ p) ^^^ ((s ^^^ s) ^^^ (q ^^^ u ^^^ (v ^^^ r))) := by ac_rfl
    rw [e1, add_self, add_self, zero_add, zero_add]
  exact e _ _ _ _ _ _
theorem frac (x x0 y y0 : UInt8) (h1 : x ≠ y) (h2 : x0 ≠ y) : mul (x ^^^ y0) (inv (x ^^^ y)) ^^^ mul (x0 ^^^ y0) (inv (x0 ^^^ y)) = mul (mul (x ^^^ x0) (mul (y ^^^ y0) (inv (x0 ^^^ y)))) (inv (x ^^^ y)) := by
  have n1 := add_ne h1
  have n2 := add_ne h2
  refine mul_cancel n1 (mul_cancel n2 ?_)
  have e1 : mul (x0 ^^^ y) (mul (x ^^^ y) (mul (x ^^^ y0) (inv (x ^^^ y)) ^^^ mul (x0 ^^^ y0) (inv (x0 ^^^ y)))) = mul (x ^^^ y0) (x0 ^^^ y) ^^^ mul (x0 ^^^ y0) (x ^^^ y) := by
    rw [mul_add, mul_add]
    congr 1
    · rw [← mul_assoc (x ^^^ y), mul_comm (x ^^^ y), mul_assoc (x ^^^ y0), mul_inv n1, mul_one, mul_comm]
    · rw [mul_comm (x ^^^ y), mul_assoc, ← mul_assoc (x0 ^^^ y), mul_comm (x0 ^^^ y), mul_assoc (x0 ^^^ y0), mul_comm (inv (x0 ^^^ y)), ← mul_assoc (x0 ^^^ y), mul_comm (x0 ^^^ y) (x ^^^ y), mul_assoc (x ^^^ y), mul_inv n2, mul_one]
  have e2 : mul (x0 ^^^ y) (mul (x ^^^ y) (mul (mul (x ^^^ x0) (mul (y ^^^ y0) (inv (x0 ^^^ y)))) (inv (x ^^^ y)))) = mul (x ^^^ x0) (y ^^^ y0) := by
    rw [← mul_assoc (x ^^^ y), mul_comm (x ^^^ y), mul_assoc _ (x ^^^ y), mul_inv n1, mul_one, ← mul_assoc (x ^^^ x0), ← mul_assoc (x0 ^^^ y), mul_comm (x0 ^^^ y), mul_assoc _ (x0 ^^^ y), mul_inv n2, mul_one]
  rw [e1, e2, cross]
/-- Cauchy: sums of parts by unlike places, that are 0 at as many others, are of parts that are 0. -/
theorem cauchy : ∀ (ys xs : List UInt8) (w : UInt8 → UInt8), xs.Nodup → ys.Nodup → xs.length = ys.length → (∀ x ∈ xs, ∀ y ∈ ys, x ≠ y) → (∀ x ∈ xs, lsum ys (fun y => mul (w y) (inv (x ^^^ y))) = 0) → ∀ y ∈ ys, w y = 0
  | [], _, _, _, _, _, _, _ => fun y hy => by cases hy
  | y0 :: ys, [], _, _, _, hl, _, _ => by simp at hl
  | y0 :: ys, x0 :: xs, w, hx, hy, hl, hne, h => by
    rw [List.nodup_cons] at hx hy
    have h0 := h x0 (List.mem_cons_self ..)
    have n0 : x0 ≠ y0 := hne x0 (List.mem_cons_self ..) y0 (List.mem_cons_self ..)
    rw [lsum_cons] at h0
    have hw := cauchy ys xs (fun y => mul (w y) (mul (y ^^^ y0) (inv (x0 ^^^ y)))) hx.2 hy.2 (by simpa using hl) (fun x h1 y h2 => hne x (List.mem_cons_of_mem _ h1) y (List.mem_cons_of_mem _ h2)) (fun x hxm => by
      have h1 := h x (List.mem_cons_of_mem _ hxm)
      have n1 : x ≠ y0 := hne x (List.mem_cons_of_mem _ hxm) y0 (List.mem_cons_self ..)
      have nx : x ≠ x0 := fun e => hx.1 (e ▸ hxm)
      rw [lsum_cons] at h1
      refine mul_cancel (add_ne nx) ?_
      rw [mul_zero, ← lsum_mul]
      have e1 : mul (x ^^^ y0) (lsum ys (fun y => mul (w y) (inv (x ^^^ y)))) = w y0 := by
        rw [← eq_of_add h1, ← mul_assoc, mul_comm (x ^^^ y0), mul_assoc, mul_inv (add_ne n1), mul_one]
      have e0 : mul (x0 ^^^ y0) (lsum ys (fun y => mul (w y) (inv (x0 ^^^ y)))) = w y0 := by
        rw [← eq_of_add h0, ← mul_assoc, mul_comm (x0 ^^^ y0), mul_assoc, mul_inv (add_ne n0), mul_one]
      have e2 : mul (x ^^^ y0) (lsum ys (fun y => mul (w y) (inv (x ^^^ y)))) ^^^ mul (x0 ^^^ y0) (lsum ys (fun y => mul (w y) (inv (x0 ^^^ y)))) = 0 := by rw [e1, e0, add_self]
      rw [← lsum_mul, ← lsum_mul, ← lsum_add] at e2
      rw [← e2]
      refine lsum_congr (fun y hym => ?_)
      have f := frac x x0 y y0 (hne x (List.mem_cons_of_mem _ hxm) y (List.mem_cons_of_mem _ hym)) (hne x0 (List.mem_cons_self ..) y (List.mem_cons_of_mem _ hym))
      have l1 : mul (x ^^^ y0) (mul (w y) (inv (x ^^^ y))) ^^^ mul (x0 ^^^ y0) (mul (w y) (inv (x0 ^^^ y))) = mul (w y) (mul (x ^^^ y0) (inv (x ^^^ y)) ^^^ mul (x0 ^^^ y0) (inv (x0 ^^^ y))) := by
        rw [mul_add, ← mul_assoc (x ^^^ y0), mul_comm (x ^^^ y0), mul_assoc (w y), ← mul_assoc (x0 ^^^ y0), mul_comm (x0 ^^^ y0), mul_assoc (w y)]
      rw [l1, f, mul_assoc, ← mul_assoc (x ^^^ x0) (w y), mul_comm (x ^^^ x0) (w y), mul_assoc (w y), ← mul_assoc (x ^^^ x0), mul_assoc])
    have hz : ∀ y ∈ ys, w y = 0 := fun y hym => by
      have h1 := hw y hym
      have n1 : y ≠ y0 := fun e => hy.1 (e ▸ hym)
      have n2 : x0 ≠ y := hne x0 (List.mem_cons_self ..) y (List.mem_cons_of_mem _ hym)
      exact (mul_eq_zero h1).resolve_right (mul_ne (add_ne n1) (inv_ne (add_ne n2)))
    rw [lsum_zero (fun y hym => by rw [hz y hym, zero_mul]), add_zero] at h0
    intro y hym
    rcases List.mem_cons.1 hym with rfl | hym
    · exact (mul_eq_zero h0).resolve_right (inv_ne (add_ne n0))
    · exact hz y hym
end Go.Proofs.Ytgakeecibofiiaa.Gf
