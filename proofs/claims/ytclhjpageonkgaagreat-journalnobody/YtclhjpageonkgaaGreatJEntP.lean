/-
  What entering a transaction comes to, in plain words; writes and flushes in one form. No statement about the laws stands here.
-/
import Derived.Test.YtclhjpageonkgaaGreatJSeal
import Derived.Test.YtclhjpageonkgaaGreatCoverS
import Derived.Test.YtclhjpageonkgaaGreatRowsN
import Derived.Maps.AppendAt
namespace Go.Proofs.YtclhjpageonkgaaGreat
open Go.RowKit

set_option linter.unusedVariables false
theorem writeTo_or (D : Dv) (n : Nat) (x : Bk) : (writeTo D n x).1 = 0 ∨ (writeTo D n x).1 = 17 := by
  unfold writeTo
  split
  · exact .inr rfl
  · exact .inl rfl
theorem writeTo_len (D : Dv) (n : Nat) (x : Bk) : (writeTo D n x).2.bs.length = D.bs.length := by
  unfold writeTo
  split
  · rfl
  · show (D.bs.set _ _).length = _
    rw [List.length_set]
theorem writeTo_ops (D : Dv) (n : Nat) (x : Bk) : (writeTo D n x).2.ops = D.ops + 1 := by
  unfold writeTo
  split <;> rfl
/-- What a flush comes to. -/
def flushTo (D : Dv) : Int × Dv := if D.call.down = true then (17, D.call) else (0, D.call.flush)
theorem flushTo_or (D : Dv) : (flushTo D).1 = 0 ∨ (flushTo D).1 = 17 := by
  unfold flushTo
  split
  · exact .inr rfl
  · exact .inl rfl
theorem flushTo_len (D : Dv) : (flushTo D).2.bs.length = D.bs.length := by
  unfold flushTo
  split <;> rfl
theorem flushTo_ops (D : Dv) : (flushTo D).2.ops = D.ops + 1 := by
  unfold flushTo
  split <;> rfl
section
variable {w : World} {K : Nat → Prop} {p : Nat} {D : Dv}
theorem flush_says (h : Dev w K p D) (ho : D.ops ≤ 100000) :
    Calls Tryz.prog 84 #[.pointer (some ⟨p, 0, none⟩)] w fun e w' => e = .returned (.int .i64 (flushTo D).1) ∧ Dev w' K p (flushTo D).2 ∧ Touch K w w' := by
  cases hd : D.call.down with
  | true =>
    rw [show flushTo D = (17, D.call) by rw [flushTo, if_pos hd]]
    exact flush_down h ho hd
  | false =>
    rw [show flushTo D = (0, D.call.flush) by rw [flushTo, if_neg (by rw [hd]; simp)]]
    exact flush_up h ho hd
theorem write_says (h : Dev w K p D) (hK : ∀ k, w.heap.size ≤ k → K k) (ho : D.ops ≤ 100000) (n : Nat) (hn : n < D.bs.length) (N : Nat → Prop) (A : Option Addr) (c : Nat) (x : Bk) (hx : Lies w N A 256 c (bc x.1)) (hN : ∀ k, N k → ¬ K k) :
    Calls Tryz.prog 82 #[.pointer (some ⟨p, 0, none⟩), .int .i64 (n : Int), .slice A 256 c] w fun e w' => e = .returned (.int .i64 (writeTo D n x).1) ∧ Dev w' K p (writeTo D n x).2 ∧ Touch K w w' := by
  cases hd : D.call.down with
  | true =>
    rw [show writeTo D n x = (17, D.call) by rw [writeTo, if_pos hd]]
    exact write_down h ho hd (n : Int) (by omega) A c
  | false =>
    rw [show writeTo D n x = (0, D.call.write n x) by rw [writeTo, if_neg (by rw [hd]; simp)]]
    exact write_up h hK ho hd n hn N A c x hx hN
/-- The device, apart from all that was made since, with what will be made. -/
def Since (K : Nat → Prop) (w w1 : World) (k : Nat) : Prop := (K k ∧ k < w.heap.size) ∨ w1.heap.size ≤ k
theorem Dev.since {w1 : World} (hd : Dev w K p D) (hb : Below w.heap.size w w1) : Dev w1 (Since K w w1) p D :=
  (hd.inside.below hb).weak (fun k h => .inl h)
theorem Touch.since {w1 w2 : World} (ht : Touch (Since K w w1) w1 w2) (hb : Below w.heap.size w w1) (hK : ∀ k, w.heap.size ≤ k → K k) : Touch K w w2 :=
  (Touch.of_below (K := K) hb).trans (ht.mono (fun k h => h.elim (fun q => q.1) (fun q => hK k (by have := hb.size; omega))))
theorem Dev.unsince {w1 w2 : World} (hd : Dev w2 (Since K w w1) p D) (hb : Below w.heap.size w w1) (hK : ∀ k, w.heap.size ≤ k → K k) : Dev w2 K p D :=
  hd.weak (fun k h => h.elim (fun q => q.1) (fun q => hK k (by have := hb.size; omega)))
end
/-- A block, covered. -/
def coverBk (x : Bk) : Bk := ⟨3 :: x.1.drop 1, by simp [x.2]⟩
/-- What a transaction's first place has. -/
def toldCg (x : Cg) : List UInt8 := [UInt8.ofNat (x.1 / 256 % 256), UInt8.ofNat (x.1 % 256), x.2.1.headD 0]
def toldOf (cs : List Cg) : List UInt8 := cs.flatMap toldCg
theorem toldOf_length (cs : List Cg) : (toldOf cs).length = 3 * cs.length := by
  induction cs with
  | nil => rfl
  | cons x r ih =>
    have : toldOf (x :: r) = toldCg x ++ toldOf r := by simp [toldOf]
    rw [this, List.length_append, ih]
    simp only [toldCg, List.length_cons, List.length_nil]
    omega
theorem toldOf_snoc (cs : List Cg) (x : Cg) : toldOf (cs ++ [x]) = toldOf cs ++ toldCg x := by simp [toldOf]
/-- The covered blocks are written. -/
def coversTo (L : Lg) : Nat → List Bk → Dv → Int × Dv
  | _, [], D => (0, D)
  | i, x :: r, D => if D.call.down = true then (17, D.call) else coversTo L (i + 1) r (D.call.write (L.place i) x)
theorem coversTo_or (L : Lg) : ∀ (bs : List Bk) (i : Nat) (D : Dv), (coversTo L i bs D).1 = 0 ∨ (coversTo L i bs D).1 = 17
  | [], i, D => .inl rfl
  | x :: r, i, D => by
    unfold coversTo
    split
    · exact .inr rfl
    · exact coversTo_or L r _ _
theorem coversTo_len (L : Lg) : ∀ (bs : List Bk) (i : Nat) (D : Dv), (coversTo L i bs D).2.bs.length = D.bs.length
  | [], i, D => rfl
  | x :: r, i, D => by
    unfold coversTo
    split
    · rfl
    · rw [coversTo_len L r]
      show (D.bs.set _ _).length = _
      rw [List.length_set]
theorem coversTo_ops (L : Lg) : ∀ (bs : List Bk) (i : Nat) (D : Dv), (coversTo L i bs D).2.ops ≤ D.ops + bs.length
  | [], i, D => Nat.le_refl _
  | x :: r, i, D => by
    unfold coversTo
    split
    · show D.ops + 1 ≤ _
      simp only [List.length_cons]
      omega
    · have := coversTo_ops L r (i + 1) (D.call.write (L.place i) x)
      have h : (D.call.write (L.place i) x).ops = D.ops + 1 := rfl
      rw [h] at this
      simp only [List.length_cons]
      omega
/-- What follows where one was done. -/
def andThen (a : Int × Dv) (f : Dv → Int × Dv) : Int × Dv := if a.1 = 0 then f a.2 else a
/-- A transaction entered. -/
def enterTo (L : Lg) (hs : L.seq < 18446744073709551616) (cs : List Cg) (D : Dv) : Int × Dv :=
  andThen (writeTo D (L.place 0) (sealBk (L.mark 1 hs) (toldOf cs))) fun D1 =>
  andThen (coversTo L 1 (cs.map (fun x => coverBk x.2)) D1) fun D2 =>
  andThen (flushTo D2) fun D3 =>
  andThen (writeTo D3 (L.place (1 + cs.length)) (sealBk (L.mark 2 hs) [])) fun D4 => flushTo D4
theorem place_lt {L : Lg} (hL : L.Ok) (i : Nat) : L.place i < 2 + L.h.log.toNat := by
  have h1 := hL.log0
  have := Nat.mod_lt (L.h.pos.toNat + L.used + i) (y := L.h.log.toNat) (by omega)
  unfold Lg.place
  omega
/-- 'append(told, b...)', which tells where the new row lies. -/
theorem wpList_bytes_at {ops : Array Oper} {rest : List Oper} {o : Oper} {a : Act} {Q : Exit → Act → World → Prop} (w : World) (s x : Operand) (hgd : o.guard = none)
    (hop : o.op = .call { callee := .builtin .append, args := #[s, x], argTypes := #[49, 49] })
    (base : Nat) (v : Value) (l : List UInt8) (ad : Addr) (m c : Nat) (news : List UInt8) (hs : a.eval s = v) (hx : a.eval x = .slice (some ad) m c) (hown : Own w base v l) (hm : news.length = m)
    (hl : ∀ j u, (bc news)[j]? = some u → w.cell? (ad.add j) = some u) (hz : l.length + news.length ≤ 8589934592) (hb : base ≤ w.heap.size)
    (K : ∀ v' w', Own w' base v' (l ++ news) → w.grownBy w' v.ownBlock → (v'.ownBlock = v.ownBlock ∨ v'.ownBlock = some w.heap.size) → wpList Tryz.prog ops Q rest (a.put o.dst v') w') : wpList Tryz.prog ops Q (o :: rest) a w := by
  obtain ⟨i0, hi, hz0, hz1, hz2⟩ := info_parts Tryz.byteInfo
  refine wpList_append_own_at w hgd s x 49 hop base 5 i0 (.int .u8 0) 1 1 Tryz.underlying49 hi hz0 hz1 hz2 rfl (by decide) v l.length (bc l) hs hown ad m c (bc news) hx (by rw [bc_length, hm, Nat.mul_one])
    hl (bc_one news) (by unfold maxLen; omega) (by omega) hb ?_
  intro v' w' h1 h2 _ h4
  refine K v' w' ?_ h2 h4
  unfold Own
  rw [List.length_append, bc_append, hm]
  exact h1
section
variable {w w' : World} {g n : Nat} {N K : Nat → Prop} {M : List (List UInt8)}
theorem RowsN.touch (h : RowsN w g n N M) (ht : Touch K w w') (hg : ¬ K g) (hN : ∀ b, N b → ¬ K b) : RowsN w' g n N M := by
  obtain ⟨cur, h1, h2, h3, h4⟩ := h
  refine ⟨cur, ht.box h1 hg, h2, h3, fun i l hl => ?_⟩
  obtain ⟨Ai, ci, h5, h6⟩ := h4 i l hl
  exact ⟨Ai, ci, h5, ht.lies h6 hN⟩
theorem RowsN.grown {row : Option Nat} (h : RowsN w g n N M) (hb : w.grownBy w' row) (hg : row ≠ some g) (hN : ∀ b, N b → row ≠ some b) : RowsN w' g n N M := by
  obtain ⟨cur, h1, h2, h3, h4⟩ := h
  refine ⟨cur, Box.grown h1 hb (fun e => hg e.symm), h2, h3, fun i l hl => ?_⟩
  obtain ⟨Ai, ci, h5, h6⟩ := h4 i l hl
  exact ⟨Ai, ci, h5, h6.keep (fun p hp hl => World.cell?_of_block (w := w) (hb.block p.block hl (fun e => hN _ hp e.symm))) hb.size⟩
end
end Go.Proofs.YtclhjpageonkgaaGreat
