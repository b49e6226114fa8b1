/-
  What reading a log's transactions out of its blocks comes to, in plain words.
-/
import Derived.Test.YtnhondkdkjehaaaGreatJBlocks
import Derived.WalkMore
namespace Go.Proofs.YtnhondkdkjehaaaGreat
open Go.RowKit

set_option linter.unusedVariables false
def bkAt (bs : List Bk) (i : Nat) : Bk := bs.getD i default
/-- The covered places. -/
def covB (bs : List Bk) (told : List UInt8) : Nat → Nat → Option (List Cg)
  | 0, _ => some []
  | r + 1, i => if (bkAt bs (1 + i)).1.headD 0 = 3 then (covB bs told r (i + 1)).map (chgAt told i (bkAt bs (1 + i)) :: ·) else none
/-- One transaction. -/
def roundB (L : Lg) (home : Int) (bs : List Bk) : Option (List Cg) :=
  match sealedOf (L.mk8 1) (bkAt bs 0).1 with
  | none => none
  | some told =>
    if told.length % 3 ≠ 0 ∨ told.length / 3 + 2 > bs.length then none else
    match covB bs told (told.length / 3) 0 with
    | none => none
    | some cs => if sealedOf (L.mk8 2) (bkAt bs (1 + told.length / 3)).1 = some [] ∧ rightC home cs = true then some cs else none
/-- All transactions: the changes, and the log behind them. -/
def readB (home : Int) : Nat → Lg → List Cg → List Bk → List Cg × Lg
  | 0, L, done, _ => (done, L)
  | f + 1, L, done, bs => if 2 < bs.length then
      match roundB L home bs with
      | none => (done, L)
      | some cs => readB home f (L.next cs.length) (done ++ cs) (bs.drop (cs.length + 2))
    else (done, L)
theorem covB_len (bs : List Bk) (told : List UInt8) : ∀ (r i : Nat) (cs : List Cg), covB bs told r i = some cs → cs.length = r
  | 0, _, cs, h => by cases h; rfl
  | r + 1, i, cs, h => by
    unfold covB at h
    split at h
    · cases hq : covB bs told r (i + 1) with
      | none => rw [hq] at h; cases h
      | some c =>
        rw [hq] at h
        injection h with h
        rw [← h, List.length_cons, covB_len bs told r (i + 1) c hq]
    · cases h
def pre? (cs : List Cg) (o : Option (List Cg)) : Option (List Cg) := o.map (cs ++ ·)
theorem pre?_nil (o : Option (List Cg)) : pre? [] o = o := by cases o <;> simp [pre?]
theorem pre?_step (bs : List Bk) (told : List UInt8) (cs : List Cg) (r i : Nat) (h : (bkAt bs (1 + i)).1.headD 0 = 3) : pre? cs (covB bs told (r + 1) i) = pre? (cs ++ [chgAt told i (bkAt bs (1 + i))]) (covB bs told r (i + 1)) := by
  rw [covB, if_pos h]
  cases covB bs told r (i + 1) <;> simp [pre?]
def sliceLen : Value → Nat
  | .slice _ n _ => n
  | _ => 0
/-- What the outer loop keeps to. -/
structure RIB (w : World) (K : Nat → Prop) (p dp gb : Nat) (NR : Nat → Prop) (u : Value × Value) (home : Int) (F : Nat) (L0 : Lg) (D : Dv) (bs0 : List Bk) (L : Lg) (done : List Cg) (xs : List Ch) (f : Nat) (A : Option Addr) (c : Nat) (vs : List (Nat × Nat)) (bs : List Bk) (v : Value) (wr : World) : Prop where
  rb : RB w K p dp u L xs v wr
  dev : Dev wr K dp D
  head : L.h = L0.h
  used : (L.used : Int) + bs.length ≤ L.h.log
  seq : L.seq ≤ L0.seq + L.used
  up : L.down = false
  cgs : xs.map Ch.cg = done
  wh : whole xs
  same : readB home F L0 [] bs0 = readB home f L done bs
  fuel : bs.length ≤ f
  few : xs.length ≤ L.used
  tab : Lies wr (fun b => b = gb) A bs.length c (vs.map rwc)
  rws : RwsAt wr NR vs bs
/-- What the inner loop keeps to. -/
structure CIB (told : List UInt8) (many : Nat) (bs : List Bk) (w4 : World) (k : Nat) (cs : List Cg) (ys : List Ch) (wq : World) : Prop where
  bel : Below w4.heap.size w4 wq
  tab : Box wq w4.heap.size 51 (fl chc (ys ++ List.replicate (many - k) zCh)).toArray
  lie : ∀ y ∈ ys, y.Ok wq (fun b => w4.heap.size < b)
  cg : ys.map Ch.cg = cs
  wh : whole ys
  len : ys.length = k
  same : covB bs told many 0 = pre? cs (covB bs told (many - k) k)
theorem RwsAt.drop {w : World} {N : Nat → Prop} {vs : List (Nat × Nat)} {bs : List Bk} (h : RwsAt w N vs bs) (m : Nat) : RwsAt w N (vs.drop m) (bs.drop m) :=
  ⟨by rw [List.length_drop, List.length_drop, h.1], fun i v b hv hb => by
    rw [List.getElem?_drop] at hv hb
    exact h.2 _ v b hv hb⟩
/-- A row of the table. -/
theorem rows_at {w : World} {gb : Nat} {NR : Nat → Prop} {A : Option Addr} {n c : Nat} {vs : List (Nat × Nat)} {bs : List Bk} (ht : Lies w (fun b => b = gb) A n c (vs.map rwc)) (hr : RwsAt w NR vs bs) {i : Nat} (hi : i < n) :
    ∃ off g ci, A = some ⟨gb, off, none⟩ ∧ w.cell? ⟨gb, off + i, none⟩ = some (.slice (some ⟨g, 0, none⟩) 256 ci) ∧ NR g ∧ Lies w (fun k => k = g) (some ⟨g, 0, none⟩) 256 ci (bc (bkAt bs i).1) := by
  have hl := ht.1
  rw [List.length_map] at hl
  obtain ⟨v, hv⟩ : ∃ v, vs[i]? = some v := ⟨_, List.getElem?_eq_getElem (by omega)⟩
  have hb : bs[i]? = some (bkAt bs i) := by
    have : i < bs.length := by rw [← hr.1]; omega
    simp [bkAt, List.getD, List.getElem?_eq_getElem this]
  obtain ⟨b, off, hA, hbb, _, hc⟩ := ht.at (j := i) (u := rwc v) (by simp [hv])
  obtain ⟨h1, h2⟩ := hr.2 i v _ hv hb
  subst hbb
  exact ⟨off, v.1, v.2, hA, hc, h1, h2⟩
end Go.Proofs.YtnhondkdkjehaaaGreat
