/-
  What the loops of read keep to.
-/
import Derived.Test.YtclhjpageonkgaaGreatJReadP
namespace Go.Proofs.YtclhjpageonkgaaGreat
open Go.RowKit

set_option linter.unusedVariables false
/-- The log, the changes that were told, and all else as it was. -/
structure RB (w : World) (K : Nat → Prop) (p dp : Nat) (u : Value) (L : Lg) (xs : List Ch) (v : Value) (wr : World) : Prop where
  box : Box wr p 81 (lc dp u L)
  touch : Touch (fun k => K k ∨ k = p) w wr
  own : wr.ownsRow w.heap.size 51 2 v xs.length (fl chc xs)
  lie : ∀ x ∈ xs, x.Ok wr (fun k => w.heap.size ≤ k ∧ v.ownBlock ≠ some k)
theorem RB.on {w wr wx : World} {K T : Nat → Prop} {p dp : Nat} {u : Value} {L : Lg} {xs : List Ch} {v : Value} (h : RB w K p dp u L xs v wr) (ht : Touch T wr wx) (hT : ∀ k, T k → K k ∨ wr.heap.size ≤ k) (hK : ∀ k, K k → k < w.heap.size) (hp : ¬ K p) : RB w K p dp u L xs v wx := by
  obtain ⟨h1, h2, h3, h4⟩ := h
  have hpT : ¬ T p := fun h => (hT p h).elim hp (fun q => by have := h1.lt; omega)
  have hnew : ∀ k, w.heap.size ≤ k → k < wr.heap.size → ¬ T k := fun k a b h => (hT k h).elim (fun q => by have := hK k q; omega) (fun q => by omega)
  refine ⟨ht.box h1 hpT, h2.trans' ht (fun k h => (hT k h).elim (fun q => .inl (.inl q)) (fun q => .inr (Nat.le_trans h2.size q))), ?_, fun x hx => ?_⟩
  · refine ⟨h3.1, h3.2.imp id fun ⟨g, cap, cur, e1, e2, e3, e4⟩ => ⟨g, cap, cur, e1, e2, ?_, e4⟩⟩
    have hg := World.ownsRow.lt h3 g (by rw [e1]; rfl)
    exact (ht.block g hg.2 (hnew g hg.1 hg.2)).trans e3
  · obtain ⟨a, b, c⟩ := h4 x hx
    refine ⟨a, b, c.keep (fun q hq hl => World.cell?_of_block (w := wr) (ht.block q.block hl (hnew _ hq.1 hl))) ht.size⟩
/-- What the outer loop keeps to. -/
structure RI (w : World) (K : Nat → Prop) (p dp : Nat) (u : Value) (home : Int) (F : Nat) (L0 : Lg) (D0 : Dv) (L : Lg) (done : List Cg) (D : Dv) (xs : List Ch) (f : Nat) (v : Value) (wr : World) : Prop where
  rb : RB w K p dp u L xs v wr
  dev : Dev wr K dp D
  head : L.h = L0.h
  used : (L.used : Int) ≤ L.h.log
  seq : L.seq ≤ L0.seq + L.used
  up : L.down = false
  cgs : xs.map Ch.cg = done
  wh : whole xs
  same : readTo home F L0 [] D0 = readTo home f L done D
  fuel : L.h.log.toNat ≤ f + L.used
  calm : Calm D0 D L.used
  few : xs.length ≤ L.used
def zCh : Ch := ⟨0, none, 0, 0, []⟩
/-- What the inner loop keeps to. -/
structure CI (K : Nat → Prop) (dp : Nat) (L : Lg) (told : List UInt8) (many : Nat) (D : Dv) (w4 : World) (k : Nat) (cs : List Cg) (ys : List Ch) (D' : Dv) (wq : World) : Prop where
  dev : Dev wq K dp D'
  touch : Touch (fun b => K b ∨ w4.heap.size ≤ b) w4 wq
  tab : Box wq w4.heap.size 51 (fl chc (ys ++ List.replicate (many - k) zCh)).toArray
  lie : ∀ y ∈ ys, y.Ok wq (fun b => w4.heap.size < b)
  cg : ys.map Ch.cg = cs
  wh : whole ys
  len : ys.length = k
  same : covTo L told many 0 D = (covTo L told (many - k) k D').pre cs
  calm : Calm D D' k
/-- Places for changes, of zeros. -/
theorem madeChs (n : Nat) : (madeCells (Value.agg #[.int .i64 0, .slice none 0 0]).cells (n * 2)).toList = fl chc (List.replicate n zCh) := by
  have h32 : (Value.agg #[.int .i64 0, .slice none 0 0]).cells = (chc zCh).toArray := rfl
  rw [h32]
  refine List.ext_getElem? fun t => ?_
  unfold madeCells
  rw [show (chc zCh).toArray.size = 2 from rfl]
  by_cases ht : t < n * 2
  · have hv : (chc zCh)[t % 2]? = some (chc zCh)[t % 2]! := by
      have : t % 2 < (chc zCh).length := by rw [chc_length]; omega
      rw [getElem!_pos _ (t % 2) this]
      simp [this]
    have h := fl_at chc_length (List.replicate n zCh) (t / 2) zCh (by rw [List.getElem?_replicate, if_pos (by omega)]) (t % 2) _ hv
    rw [show t / 2 * 2 + t % 2 = t by omega] at h
    rw [h]
    simp [ht]
  · rw [List.getElem?_eq_none (by simp; omega), List.getElem?_eq_none (by rw [fl_length chc_length]; simp; omega)]
theorem chInfo3 : (Tryz.prog.info? 51).map (fun i => (i.zero, i.size, i.bytes)) = some (some (.agg #[.int .i64 0, .slice none 0 0]), 2, 32) := by kernel_rfl
/-- How many places are in use, as the world has it. -/
def usedIn (p : Nat) (w : World) : Int := match w.cell? ⟨p, 6, none⟩ with | some (.int _ n) => n | _ => 0
theorem RB.used {w wr : World} {K : Nat → Prop} {p dp : Nat} {u : Value} {L : Lg} {xs : List Ch} {v : Value} (h : RB w K p dp u L xs v wr) : usedIn p wr = (L.used : Int) := by
  have c6 : wr.cell? ⟨p, 6, none⟩ = some (.int .i64 (L.used : Int)) := (Box.cell h.box 6).trans rfl
  rw [usedIn, c6]
/-- The table's first changes, as a slice. -/
theorem tab_chs {w4 wq : World} {many : Nat} {ys : List Ch} (hb : Box wq w4.heap.size 51 (fl chc ys).toArray) (hl : ys.length = many) (hlie : ∀ y ∈ ys, y.Ok wq (fun b => w4.heap.size < b)) : Chs wq (fun b => w4.heap.size ≤ b) (some ⟨w4.heap.size, 0, none⟩) many many ys := by
  refine ⟨hl, Nat.le_refl _, fun h0 => ⟨w4.heap.size, 0, rfl, Nat.le_refl _, hb.lt, fun j v hv => ?_⟩, fun y hy => ?_⟩
  · rw [Box.cell hb, Nat.zero_add]
    simpa using hv
  · obtain ⟨a, b, c⟩ := hlie y hy
    exact ⟨a, b, c.weak (fun b _ hb => Nat.le_of_lt hb)⟩
/-- What follows a round. -/
def afterRd (home : Int) (f : Nat) (L : Lg) (done : List Cg) : Rd → RdAll
  | .err D' => ⟨17, done, L, D'⟩
  | .stop D' => ⟨0, done, L, D'⟩
  | .go cs D' => readTo home f (L.next cs.length) (done ++ cs) D'
theorem readTo_step {home : Int} {f : Nat} {L : Lg} {done : List Cg} {D : Dv} (h : (L.used : Int) + 2 < L.h.log) : readTo home (f + 1) L done D = afterRd home f L done (roundTo L home D) := by
  rw [readTo, if_pos h]
  cases roundTo L home D <;> rfl
theorem readTo_end {home : Int} {f : Nat} {L : Lg} {done : List Cg} {D : Dv} (h : ¬ (L.used : Int) + 2 < L.h.log) : readTo home f L done D = ⟨0, done, L, D⟩ := by
  cases f with
  | zero => rfl
  | succ f => rw [readTo, if_neg h]
theorem RB.chs {w wr : World} {K : Nat → Prop} {p dp : Nat} {u : Value} {L : Lg} {xs : List Ch} {v : Value} (h : RB w K p dp u L xs v wr) : ∃ A c, v = .slice A xs.length c ∧ Chs wr (fun k => w.heap.size ≤ k) A xs.length c xs := by
  obtain ⟨h1, h2, h3, h4⟩ := h
  have hlt := World.ownsRow.lt h3
  rcases h3.2 with ⟨hv, hn⟩ | ⟨g, cap, cur, hv, _, _, hnc, _⟩
  · have hl : xs = [] := List.eq_nil_of_length_eq_zero hn
    subst hl
    exact ⟨none, 0, hv, Chs.nil _ _⟩
  · subst hv
    refine ⟨_, cap, rfl, rfl, hnc, fun _ => ⟨g, 0, rfl, (hlt g rfl).1, (hlt g rfl).2, fun j u hu => ?_⟩, fun x hx => ?_⟩
    · have := World.ownsRow.cells h3 (g := g) rfl j u hu
      rw [Addr.add_mid] at this
      exact this
    · obtain ⟨a, b, c⟩ := h4 x hx
      exact ⟨a, b, c.weak (fun k _ hk => hk.1)⟩
/-- The number that two bytes tell. -/
theorem two_bytes (a b : UInt8) : bits .or .i64 ((a.toNat : Int) * 256) (b.toNat : Int) = ((a.toNat * 256 + b.toNat : Nat) : Int) := by
  have ha := a.toNat_lt
  have hb := b.toNat_lt
  have e4 : a.toNat * 256 ||| b.toNat = a.toNat * 256 + b.toNat := nat_join 8 (a.toNat * 256) b.toNat (by omega) (by omega)
  have key : bits .or .i64 (((a.toNat * 256 : Nat)) : Int) (b.toNat : Int) = ((a.toNat * 256 ||| b.toNat : Nat) : Int) := by
    have hx : a.toNat * 256 ||| b.toNat < 2 ^ 62 := Nat.or_lt_two_pow (by omega) (by omega)
    show IntKind.i64.wrap ((BitVec.ofInt 64 ((a.toNat * 256 : Nat) : Int) ||| BitVec.ofInt 64 (b.toNat : Int)).toNat : Int) = _
    rw [BitVec.toNat_or, ofInt_u64 _ (by omega), ofInt_u64 b.toNat (by omega), IntKind.wrap_i64]
    omega
  rw [e4] at key
  simpa using key
end Go.Proofs.YtclhjpageonkgaaGreat
