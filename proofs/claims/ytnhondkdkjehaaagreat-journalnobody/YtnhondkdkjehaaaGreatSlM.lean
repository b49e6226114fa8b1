/-
  What entering a transaction comes to, in plain words; writes and flushes in one form. No statement about the laws stands here.
  What reading a log's transactions comes to, in plain words.
  What the loops of read keep to.
  The blocks of a log, as slices of rows; what reading them comes to.
-/
import Derived.Test.YtnhondkdkjehaaaGreatJSeal
import Derived.Test.YtnhondkdkjehaaaGreatCoverS
import Derived.Test.YtnhondkdkjehaaaGreatSlN
import Derived.Maps.AppendAt
import Derived.Test.YtnhondkdkjehaaaGreatJSealed
import Derived.Test.YtnhondkdkjehaaaGreatJRight
import Derived.Test.YtnhondkdkjehaaaGreatJMind
namespace Go.Proofs.YtnhondkdkjehaaaGreat
open Go.RowKit

set_option linter.unusedVariables false
theorem writeTo_or (D : Dv) (n : Nat) (x : Bk) : (writeTo D n x).1 = 0 ∨ (writeTo D n x).1 = 17 := by
  unfold writeTo
  split
  · exact .inr rfl
  · exact .inl rfl
theorem writeTo_len (D : Dv) (n : Nat) (x : Bk) : (writeTo D n x).2.bs.length = D.bs.length := by
  unfold writeTo
  split
  · rfl
  · show (D.bs.set _ _).length = _
    rw [List.length_set]
theorem writeTo_ops (D : Dv) (n : Nat) (x : Bk) : (writeTo D n x).2.ops = D.ops + 1 := by
  unfold writeTo
  split <;> rfl
/-- What a flush comes to. -/
def flushTo (D : Dv) : Int × Dv := if D.call.down = true then (17, D.call) else (0, D.call.flush)
theorem flushTo_or (D : Dv) : (flushTo D).1 = 0 ∨ (flushTo D).1 = 17 := by
  unfold flushTo
  split
  · exact .inr rfl
  · exact .inl rfl
theorem flushTo_len (D : Dv) : (flushTo D).2.bs.length = D.bs.length := by
  unfold flushTo
  split <;> rfl
theorem flushTo_ops (D : Dv) : (flushTo D).2.ops = D.ops + 1 := by
  unfold flushTo
  split <;> rfl
section
variable {w : World} {K : Nat → Prop} {p : Nat} {D : Dv}
theorem flush_says (h : Dev w K p D) (ho : D.ops ≤ 100000) :
    Calls Tryz.prog 83 #[.pointer (some ⟨p, 0, none⟩)] w fun e w' => e = .returned (.int .i64 (flushTo D).1) ∧ Dev w' K p (flushTo D).2 ∧ Touch K w w' := by
  cases hd : D.call.down with
  | true =>
    rw [show flushTo D = (17, D.call) by rw [flushTo, if_pos hd]]
    exact flush_down h ho hd
  | false =>
    rw [show flushTo D = (0, D.call.flush) by rw [flushTo, if_neg (by rw [hd]; simp)]]
    exact flush_up h ho hd
theorem write_says (h : Dev w K p D) (hK : ∀ k, w.heap.size ≤ k → K k) (ho : D.ops ≤ 100000) (n : Nat) (hn : n < D.bs.length) (N : Nat → Prop) (A : Option Addr) (c : Nat) (x : Bk) (hx : Lies w N A 256 c (bc x.1)) (hN : ∀ k, N k → ¬ K k) :
    Calls Tryz.prog 84 #[.pointer (some ⟨p, 0, none⟩), .int .i64 (n : Int), .slice A 256 c] w fun e w' => e = .returned (.int .i64 (writeTo D n x).1) ∧ Dev w' K p (writeTo D n x).2 ∧ Touch K w w' := by
  cases hd : D.call.down with
  | true =>
    rw [show writeTo D n x = (17, D.call) by rw [writeTo, if_pos hd]]
    exact write_down h ho hd (n : Int) (by omega) A c
  | false =>
    rw [show writeTo D n x = (0, D.call.write n x) by rw [writeTo, if_neg (by rw [hd]; simp)]]
    exact write_up h hK ho hd n hn N A c x hx hN
/-- The device, apart from all that was made since, with what will be made. -/
def Since (K : Nat → Prop) (w w1 : World) (k : Nat) : Prop := (K k ∧ k < w.heap.size) ∨ w1.heap.size ≤ k
theorem Dev.since {w1 : World} (hd : Dev w K p D) (hb : Below w.heap.size w w1) : Dev w1 (Since K w w1) p D :=
  (hd.inside.below hb).weak (fun k h => .inl h)
theorem Touch.since {w1 w2 : World} (ht : Touch (Since K w w1) w1 w2) (hb : Below w.heap.size w w1) (hK : ∀ k, w.heap.size ≤ k → K k) : Touch K w w2 :=
  (Touch.of_below (K := K) hb).trans (ht.mono (fun k h => h.elim (fun q => q.1) (fun q => hK k (by have := hb.size; omega))))
theorem Dev.unsince {w1 w2 : World} (hd : Dev w2 (Since K w w1) p D) (hb : Below w.heap.size w w1) (hK : ∀ k, w.heap.size ≤ k → K k) : Dev w2 K p D :=
  hd.weak (fun k h => h.elim (fun q => q.1) (fun q => hK k (by have := hb.size; omega)))
end
/-- A block, covered. -/
def coverBk (x : Bk) : Bk := ⟨3 :: x.1.drop 1, by simp [x.2]⟩
/-- What a transaction's first place has. -/
def toldCg (x : Cg) : List UInt8 := [UInt8.ofNat (x.1 / 256 % 256), UInt8.ofNat (x.1 % 256), x.2.1.headD 0]
def toldOf (cs : List Cg) : List UInt8 := cs.flatMap toldCg
theorem toldOf_length (cs : List Cg) : (toldOf cs).length = 3 * cs.length := by
  induction cs with
  | nil => rfl
  | cons x r ih =>
    have : toldOf (x :: r) = toldCg x ++ toldOf r := by simp [toldOf]
    rw [this, List.length_append, ih]
    simp only [toldCg, List.length_cons, List.length_nil]
    omega
theorem toldOf_snoc (cs : List Cg) (x : Cg) : toldOf (cs ++ [x]) = toldOf cs ++ toldCg x := by simp [toldOf]
/-- The covered blocks are written. -/
def coversTo (L : Lg) : Nat → List Bk → Dv → Int × Dv
  | _, [], D => (0, D)
  | i, x :: r, D => if D.call.down = true then (17, D.call) else coversTo L (i + 1) r (D.call.write (L.place i) x)
theorem coversTo_or (L : Lg) : ∀ (bs : List Bk) (i : Nat) (D : Dv), (coversTo L i bs D).1 = 0 ∨ (coversTo L i bs D).1 = 17
  | [], i, D => .inl rfl
  | x :: r, i, D => by
    unfold coversTo
    split
    · exact .inr rfl
    · exact coversTo_or L r _ _
theorem coversTo_len (L : Lg) : ∀ (bs : List Bk) (i : Nat) (D : Dv), (coversTo L i bs D).2.bs.length = D.bs.length
  | [], i, D => rfl
  | x :: r, i, D => by
    unfold coversTo
    split
    · rfl
    · rw [coversTo_len L r]
      show (D.bs.set _ _).length = _
      rw [List.length_set]
theorem coversTo_ops (L : Lg) : ∀ (bs : List Bk) (i : Nat) (D : Dv), (coversTo L i bs D).2.ops ≤ D.ops + bs.length
  | [], i, D => Nat.le_refl _
  | x :: r, i, D => by
    unfold coversTo
    split
    · show D.ops + 1 ≤ _
      simp only [List.length_cons]
      omega
    · have := coversTo_ops L r (i + 1) (D.call.write (L.place i) x)
      have h : (D.call.write (L.place i) x).ops = D.ops + 1 := rfl
      rw [h] at this
      simp only [List.length_cons]
      omega
/-- What follows where one was done. -/
def andThen (a : Int × Dv) (f : Dv → Int × Dv) : Int × Dv := if a.1 = 0 then f a.2 else a
/-- A transaction entered. -/
def enterTo (L : Lg) (hs : L.seq < 18446744073709551616) (cs : List Cg) (D : Dv) : Int × Dv :=
  andThen (writeTo D (L.place 0) (sealBk (L.mark 1 hs) (toldOf cs))) fun D1 =>
  andThen (coversTo L 1 (cs.map (fun x => coverBk x.2)) D1) fun D2 =>
  andThen (flushTo D2) fun D3 =>
  andThen (writeTo D3 (L.place (1 + cs.length)) (sealBk (L.mark 2 hs) [])) fun D4 => flushTo D4
theorem place_lt {L : Lg} (hL : L.Ok) (i : Nat) : L.place i < 2 + L.h.log.toNat := by
  have h1 := hL.log0
  have := Nat.mod_lt (L.h.pos.toNat + L.used + i) (y := L.h.log.toNat) (by omega)
  unfold Lg.place
  omega
/-- 'append(told, b...)', which tells where the new row lies. -/
theorem wpList_bytes_at {ops : Array Oper} {rest : List Oper} {o : Oper} {a : Act} {Q : Exit → Act → World → Prop} (w : World) (s x : Operand) (hgd : o.guard = none)
    (hop : o.op = .call { callee := .builtin .append, args := #[s, x], argTypes := #[49, 49] })
    (base : Nat) (v : Value) (l : List UInt8) (ad : Addr) (m c : Nat) (news : List UInt8) (hs : a.eval s = v) (hx : a.eval x = .slice (some ad) m c) (hown : Own w base v l) (hm : news.length = m)
    (hl : ∀ j u, (bc news)[j]? = some u → w.cell? (ad.add j) = some u) (hz : l.length + news.length ≤ 8589934592) (hb : base ≤ w.heap.size)
    (K : ∀ v' w', Own w' base v' (l ++ news) → w.grownBy w' v.ownBlock → (v'.ownBlock = v.ownBlock ∨ v'.ownBlock = some w.heap.size) → wpList Tryz.prog ops Q rest (a.put o.dst v') w') : wpList Tryz.prog ops Q (o :: rest) a w := by
  obtain ⟨i0, hi, hz0, hz1, hz2⟩ := info_parts Tryz.byteInfo
  refine wpList_append_own_at w hgd s x 49 hop base 5 i0 (.int .u8 0) 1 1 Tryz.underlying49 hi hz0 hz1 hz2 rfl (by decide) v l.length (bc l) hs hown ad m c (bc news) hx (by rw [bc_length, hm, Nat.mul_one])
    hl (bc_one news) (by unfold maxLen; omega) (by omega) hb ?_
  intro v' w' h1 h2 _ h4
  refine K v' w' ?_ h2 h4
  unfold Own
  rw [List.length_append, bc_append, hm]
  exact h1
section
variable {w w' : World} {g n : Nat} {N K : Nat → Prop} {M : List (List UInt8)}
theorem RowsN.touch (h : RowsN w g n N M) (ht : Touch K w w') (hg : ¬ K g) (hN : ∀ b, N b → ¬ K b) : RowsN w' g n N M := by
  obtain ⟨cur, h1, h2, h3, h4⟩ := h
  refine ⟨cur, ht.box h1 hg, h2, h3, fun i l hl => ?_⟩
  obtain ⟨Ai, ci, h5, h6⟩ := h4 i l hl
  exact ⟨Ai, ci, h5, ht.lies h6 hN⟩
theorem RowsN.grown {row : Option Nat} (h : RowsN w g n N M) (hb : w.grownBy w' row) (hg : row ≠ some g) (hN : ∀ b, N b → row ≠ some b) : RowsN w' g n N M := by
  obtain ⟨cur, h1, h2, h3, h4⟩ := h
  refine ⟨cur, Box.grown h1 hb (fun e => hg e.symm), h2, h3, fun i l hl => ?_⟩
  obtain ⟨Ai, ci, h5, h6⟩ := h4 i l hl
  exact ⟨Ai, ci, h5, h6.keep (fun p hp hl => World.cell?_of_block (w := w) (hb.block p.block hl (fun e => hN _ hp e.symm))) hb.size⟩
end
end Go.Proofs.YtnhondkdkjehaaaGreat
namespace Go.Proofs.YtnhondkdkjehaaaGreat
open Go.RowKit

set_option linter.unusedVariables false
/-- A mark of a place of the next transaction. -/
def Lg.mk8 (L : Lg) (kind : UInt8) : Mk := ⟨kind, L.h.epoch, L.seq % 18446744073709551616, L.h.he, Nat.mod_lt _ (by omega)⟩
theorem mk8_eq (L : Lg) (kind : UInt8) (hs : L.seq < 18446744073709551616) : L.mark kind hs = L.mk8 kind :=
  Mk.ext' rfl rfl (by show L.seq = L.seq % _; omega)
/-- A change in plain words, as one that lies would. -/
def chOf (x : Cg) : Ch := ⟨(x.1 : Int), none, 0, 0, x.2.1⟩
def rightC (home : Int) (cs : List Cg) : Bool := rightB home (cs.map chOf)
theorem anyN_congr {xs ys : List Ch} (h : xs.map (·.n) = ys.map (·.n)) (n : Int) : anyN xs n = anyN ys n := by
  have h1 : ∀ zs : List Ch, anyN zs n = (zs.map (·.n)).any (fun m => decide (m = n)) := fun zs => by simp [anyN, List.any_map, Function.comp_def]
  rw [h1, h1, h]
theorem rightL_congr (home : Int) : ∀ (xs ys az bs : List Ch), xs.map (fun x => (x.n, x.b)) = ys.map (fun x => (x.n, x.b)) → az.map (·.n) = bs.map (·.n) → rightL home az xs = rightL home bs ys
  | [], [], az, bs, _, _ => rfl
  | [], y :: ys, az, bs, h, _ => by simp at h
  | x :: xs, [], az, bs, h, _ => by simp at h
  | x :: xs, y :: ys, az, bs, h, ha => by
    simp only [List.map_cons, List.cons.injEq, Prod.mk.injEq] at h
    obtain ⟨⟨h1, h2⟩, h3⟩ := h
    have hf : decide (x.fits home) = decide (y.fits home) := decide_eq_decide.2 (by unfold Ch.fits; rw [h1, h2])
    rw [rightL, rightL, rightL_congr home xs ys (az ++ [x]) (bs ++ [y]) h3 (by simp [ha, h1]), hf, h1, anyN_congr ha]
theorem rightB_congr (home : Int) (xs ys : List Ch) (h : xs.map (fun x => (x.n, x.b)) = ys.map (fun x => (x.n, x.b))) : rightB home xs = rightB home ys := by
  have hl : xs.length = ys.length := by simpa using congrArg List.length h
  rw [rightB, rightB, hl, rightL_congr home xs ys [] [] h rfl]
/-- Changes that lie, of whole blocks. -/
def whole (xs : List Ch) : Prop := ∀ x ∈ xs, 0 ≤ x.n ∧ x.b.length = 256
theorem right_whole {home : Int} {xs : List Ch} (hw : whole xs) : rightB home xs = rightC home (xs.map Ch.cg) := by
  unfold rightC
  apply rightB_congr
  rw [List.map_map, List.map_map]
  apply List.map_congr_left
  intro x hx
  obtain ⟨h1, h2⟩ := hw x hx
  show (x.n, x.b) = (((x.n.toNat : Nat) : Int), (bkOf x.b).1)
  rw [bkOf_val h2]
  congr 1
  omega
/-- What changes that are right keep to. -/
theorem rightL_fits (home : Int) : ∀ (xs az : List Ch), rightL home az xs = true → ∀ x ∈ xs, x.fits home
  | [], _, _, x, hx => by cases hx
  | y :: ys, az, h, x, hx => by
    rw [rightL, Bool.and_eq_true, Bool.and_eq_true, decide_eq_true_eq] at h
    rcases List.mem_cons.1 hx with rfl | hx
    · exact h.1.2
    · exact rightL_fits home ys _ h.2 x hx
theorem rightB_fits {home : Int} {xs : List Ch} (h : rightB home xs = true) : (1 ≤ xs.length ∧ xs.length ≤ 70) ∧ ∀ x ∈ xs, x.fits home := by
  rw [rightB, Bool.and_eq_true, decide_eq_true_eq] at h
  exact ⟨h.1, rightL_fits home xs [] h.2⟩
/-- What reading some places comes to: an error, no transaction, or one. -/
inductive Rd where
  | err (D : Dv)
  | stop (D : Dv)
  | go (cs : List Cg) (D : Dv)
/-- With some ahead. -/
def Rd.pre (cs : List Cg) : Rd → Rd
  | .go c D => .go (cs ++ c) D
  | o => o
theorem Rd.pre_nil (r : Rd) : r.pre [] = r := by cases r <;> rfl
theorem Rd.pre_pre (a b : List Cg) (r : Rd) : (r.pre b).pre a = r.pre (a ++ b) := by cases r <;> simp [Rd.pre]
/-- The change that the place i tells. -/
def chgAt (told : List UInt8) (i : Nat) (b : Bk) : Cg := ((told.getD (3 * i) 0).toNat * 256 + (told.getD (3 * i + 1) 0).toNat, bkOf (told.getD (3 * i + 2) 0 :: b.1.drop 1))
/-- The covered places are read. -/
def covTo (L : Lg) (told : List UInt8) : Nat → Nat → Dv → Rd
  | 0, _, D => .go [] D
  | r + 1, i, D => if D.call.down = true then .err D.call else
    if (D.blk (L.place (1 + i))).1.headD 0 = 3 then (covTo L told r (i + 1) D.call).pre [chgAt told i (D.blk (L.place (1 + i)))] else .stop D.call
/-- One transaction is read. -/
def roundTo (L : Lg) (home : Int) (D : Dv) : Rd :=
  if D.call.down = true then .err D.call else
  match sealedOf (L.mk8 1) (D.blk (L.place 0)).1 with
  | none => .stop D.call
  | some told =>
    if told.length % 3 ≠ 0 ∨ (L.used : Int) + (told.length / 3 : Nat) + 2 > L.h.log then .stop D.call else
    match covTo L told (told.length / 3) 0 D.call with
    | .go cs D2 => if D2.call.down = true then .err D2.call else
      if sealedOf (L.mk8 2) (D2.blk (L.place (1 + told.length / 3))).1 = some [] ∧ rightC home cs = true then .go cs D2.call else .stop D2.call
    | o => o
/-- A log behind a transaction of so many changes. -/
def Lg.next (L : Lg) (n : Nat) : Lg := { L with used := L.used + (n + 2), seq := L.seq + 1 }
/-- What is read of a log: the error, the changes, the log, the device. -/
structure RdAll where
  e : Int
  cs : List Cg
  L : Lg
  D : Dv
/-- All transactions are read. -/
def readTo (home : Int) : Nat → Lg → List Cg → Dv → RdAll
  | 0, L, done, D => ⟨0, done, L, D⟩
  | f + 1, L, done, D => if (L.used : Int) + 2 < L.h.log then
      match roundTo L home D with
      | .err D' => ⟨17, done, L, D'⟩
      | .stop D' => ⟨0, done, L, D'⟩
      | .go cs D' => readTo home f (L.next cs.length) (done ++ cs) D'
    else ⟨0, done, L, D⟩
/-- Reading turns nothing but how many calls there were. -/
def Calm (D D' : Dv) (k : Nat) : Prop := D'.bs = D.bs ∧ D'.ops ≤ D.ops + k ∧ D'.ws = D.ws
theorem Calm.call {D D' : Dv} {k : Nat} (h : Calm D D' k) : Calm D D'.call (k + 1) := ⟨h.1, by have := h.2.1; show D'.ops + 1 ≤ _; omega, h.2.2⟩
theorem Calm.mono {D D' : Dv} {k m : Nat} (h : Calm D D' k) (hm : k ≤ m) : Calm D D' m := ⟨h.1, by have := h.2.1; omega, h.2.2⟩
theorem Calm.refl (D : Dv) : Calm D D 0 := ⟨rfl, Nat.le_refl _, rfl⟩
theorem Calm.trans {D D' D'' : Dv} {k m : Nat} (h : Calm D D' k) (h' : Calm D' D'' m) : Calm D D'' (k + m) := ⟨h'.1.trans h.1, by have := h.2.1; have := h'.2.1; omega, h'.2.2.trans h.2.2⟩
def Rd.dev : Rd → Dv
  | .err D => D
  | .stop D => D
  | .go _ D => D
theorem Rd.pre_dev (cs : List Cg) (r : Rd) : (r.pre cs).dev = r.dev := by cases r <;> rfl
theorem covTo_calm (L : Lg) (told : List UInt8) : ∀ (r i : Nat) (D : Dv), Calm D (covTo L told r i D).dev r
  | 0, i, D => Calm.refl D
  | r + 1, i, D => by
    unfold covTo
    split
    · exact (Calm.refl D).call.mono (by omega)
    · split
      · rw [Rd.pre_dev]
        have := (Calm.refl D).call.trans (covTo_calm L told r (i + 1) D.call)
        exact this.mono (by omega)
      · exact (Calm.refl D).call.mono (by omega)
theorem covTo_len (L : Lg) (told : List UInt8) : ∀ (r i : Nat) (D : Dv) (cs : List Cg) (D' : Dv), covTo L told r i D = .go cs D' → cs.length = r
  | 0, i, D, cs, D', h => by
    unfold covTo at h
    injection h with h1 _
    rw [← h1]
    rfl
  | r + 1, i, D, cs, D', h => by
    unfold covTo at h
    split at h
    · cases h
    · split at h
      · cases hq : covTo L told r (i + 1) D.call with
        | err x => rw [hq] at h; cases h
        | stop x => rw [hq] at h; cases h
        | go c x =>
          rw [hq] at h
          injection h with h1 _
          rw [← h1]
          have := covTo_len L told r (i + 1) _ _ _ hq
          simp [this]
      · cases h
end Go.Proofs.YtnhondkdkjehaaaGreat
namespace Go.Proofs.YtnhondkdkjehaaaGreat
open Go.RowKit

set_option linter.unusedVariables false
/-- The log, the changes that were told, and all else as it was. -/
structure RB (w : World) (K : Nat → Prop) (p dp : Nat) (u : Value × Value) (L : Lg) (xs : List Ch) (v : Value) (wr : World) : Prop where
  box : Box wr p 81 (lc dp u L)
  touch : Touch (fun k => K k ∨ k = p) w wr
  own : wr.ownsRow w.heap.size 51 2 v xs.length (fl chc xs)
  lie : ∀ x ∈ xs, x.Ok wr (fun k => w.heap.size ≤ k ∧ v.ownBlock ≠ some k)
theorem RB.on {w wr wx : World} {K T : Nat → Prop} {p dp : Nat} {u : Value × Value} {L : Lg} {xs : List Ch} {v : Value} (h : RB w K p dp u L xs v wr) (ht : Touch T wr wx) (hT : ∀ k, T k → K k ∨ wr.heap.size ≤ k) (hK : ∀ k, K k → k < w.heap.size) (hp : ¬ K p) : RB w K p dp u L xs v wx := by
  obtain ⟨h1, h2, h3, h4⟩ := h
  have hpT : ¬ T p := fun h => (hT p h).elim hp (fun q => by have := h1.lt; omega)
  have hnew : ∀ k, w.heap.size ≤ k → k < wr.heap.size → ¬ T k := fun k a b h => (hT k h).elim (fun q => by have := hK k q; omega) (fun q => by omega)
  refine ⟨ht.box h1 hpT, h2.trans' ht (fun k h => (hT k h).elim (fun q => .inl (.inl q)) (fun q => .inr (Nat.le_trans h2.size q))), ?_, fun x hx => ?_⟩
  · refine ⟨h3.1, h3.2.imp id fun ⟨g, cap, cur, e1, e2, e3, e4⟩ => ⟨g, cap, cur, e1, e2, ?_, e4⟩⟩
    have hg := World.ownsRow.lt h3 g (by rw [e1]; rfl)
    exact (ht.block g hg.2 (hnew g hg.1 hg.2)).trans e3
  · obtain ⟨a, b, c⟩ := h4 x hx
    refine ⟨a, b, c.keep (fun q hq hl => World.cell?_of_block (w := wr) (ht.block q.block hl (hnew _ hq.1 hl))) ht.size⟩
/-- What the outer loop keeps to. -/
structure RI (w : World) (K : Nat → Prop) (p dp : Nat) (u : Value × Value) (home : Int) (F : Nat) (L0 : Lg) (D0 : Dv) (L : Lg) (done : List Cg) (D : Dv) (xs : List Ch) (f : Nat) (v : Value) (wr : World) : Prop where
  rb : RB w K p dp u L xs v wr
  dev : Dev wr K dp D
  head : L.h = L0.h
  used : (L.used : Int) ≤ L.h.log
  seq : L.seq ≤ L0.seq + L.used
  up : L.down = false
  cgs : xs.map Ch.cg = done
  wh : whole xs
  same : readTo home F L0 [] D0 = readTo home f L done D
  fuel : L.h.log.toNat ≤ f + L.used
  calm : Calm D0 D L.used
  few : xs.length ≤ L.used
def zCh : Ch := ⟨0, none, 0, 0, []⟩
/-- What the inner loop keeps to. -/
structure CI (K : Nat → Prop) (dp : Nat) (L : Lg) (told : List UInt8) (many : Nat) (D : Dv) (w4 : World) (k : Nat) (cs : List Cg) (ys : List Ch) (D' : Dv) (wq : World) : Prop where
  dev : Dev wq K dp D'
  touch : Touch (fun b => K b ∨ w4.heap.size ≤ b) w4 wq
  tab : Box wq w4.heap.size 51 (fl chc (ys ++ List.replicate (many - k) zCh)).toArray
  lie : ∀ y ∈ ys, y.Ok wq (fun b => w4.heap.size < b)
  cg : ys.map Ch.cg = cs
  wh : whole ys
  len : ys.length = k
  same : covTo L told many 0 D = (covTo L told (many - k) k D').pre cs
  calm : Calm D D' k
/-- Places for changes, of zeros. -/
theorem madeChs (n : Nat) : (madeCells (Value.agg #[.int .i64 0, .slice none 0 0]).cells (n * 2)).toList = fl chc (List.replicate n zCh) := by
  have h32 : (Value.agg #[.int .i64 0, .slice none 0 0]).cells = (chc zCh).toArray := rfl
  rw [h32]
  refine List.ext_getElem? fun t => ?_
  unfold madeCells
  rw [show (chc zCh).toArray.size = 2 from rfl]
  by_cases ht : t < n * 2
  · have hv : (chc zCh)[t % 2]? = some (chc zCh)[t % 2]! := by
      have : t % 2 < (chc zCh).length := by rw [chc_length]; omega
      rw [getElem!_pos _ (t % 2) this]
      simp [this]
    have h := fl_at chc_length (List.replicate n zCh) (t / 2) zCh (by rw [List.getElem?_replicate, if_pos (by omega)]) (t % 2) _ hv
    rw [show t / 2 * 2 + t % 2 = t by omega] at h
    rw [h]
    simp [ht]
  · rw [List.getElem?_eq_none (by simp; omega), List.getElem?_eq_none (by rw [fl_length chc_length]; simp; omega)]
theorem chInfo3 : (Tryz.prog.info? 51).map (fun i => (i.zero, i.size, i.bytes)) = some (some (.agg #[.int .i64 0, .slice none 0 0]), 2, 32) := by kernel_rfl
/-- How many places are in use, as the world has it. -/
def usedIn (p : Nat) (w : World) : Int := match w.cell? ⟨p, 6, none⟩ with | some (.int _ n) => n | _ => 0
theorem RB.used {w wr : World} {K : Nat → Prop} {p dp : Nat} {u : Value × Value} {L : Lg} {xs : List Ch} {v : Value} (h : RB w K p dp u L xs v wr) : usedIn p wr = (L.used : Int) := by
  have c6 : wr.cell? ⟨p, 6, none⟩ = some (.int .i64 (L.used : Int)) := (Box.cell h.box 6).trans rfl
  rw [usedIn, c6]
/-- The table's first changes, as a slice. -/
theorem tab_chs {w4 wq : World} {many : Nat} {ys : List Ch} (hb : Box wq w4.heap.size 51 (fl chc ys).toArray) (hl : ys.length = many) (hlie : ∀ y ∈ ys, y.Ok wq (fun b => w4.heap.size < b)) : Chs wq (fun b => w4.heap.size ≤ b) (some ⟨w4.heap.size, 0, none⟩) many many ys := by
  refine ⟨hl, Nat.le_refl _, fun h0 => ⟨w4.heap.size, 0, rfl, Nat.le_refl _, hb.lt, fun j v hv => ?_⟩, fun y hy => ?_⟩
  · rw [Box.cell hb, Nat.zero_add]
    simpa using hv
  · obtain ⟨a, b, c⟩ := hlie y hy
    exact ⟨a, b, c.weak (fun b _ hb => Nat.le_of_lt hb)⟩
/-- What follows a round. -/
def afterRd (home : Int) (f : Nat) (L : Lg) (done : List Cg) : Rd → RdAll
  | .err D' => ⟨17, done, L, D'⟩
  | .stop D' => ⟨0, done, L, D'⟩
  | .go cs D' => readTo home f (L.next cs.length) (done ++ cs) D'
theorem readTo_step {home : Int} {f : Nat} {L : Lg} {done : List Cg} {D : Dv} (h : (L.used : Int) + 2 < L.h.log) : readTo home (f + 1) L done D = afterRd home f L done (roundTo L home D) := by
  rw [readTo, if_pos h]
  cases roundTo L home D <;> rfl
theorem readTo_end {home : Int} {f : Nat} {L : Lg} {done : List Cg} {D : Dv} (h : ¬ (L.used : Int) + 2 < L.h.log) : readTo home f L done D = ⟨0, done, L, D⟩ := by
  cases f with
  | zero => rfl
  | succ f => rw [readTo, if_neg h]
theorem RB.chs {w wr : World} {K : Nat → Prop} {p dp : Nat} {u : Value × Value} {L : Lg} {xs : List Ch} {v : Value} (h : RB w K p dp u L xs v wr) : ∃ A c, v = .slice A xs.length c ∧ Chs wr (fun k => w.heap.size ≤ k) A xs.length c xs := by
  obtain ⟨h1, h2, h3, h4⟩ := h
  have hlt := World.ownsRow.lt h3
  rcases h3.2 with ⟨hv, hn⟩ | ⟨g, cap, cur, hv, _, _, hnc, _⟩
  · have hl : xs = [] := List.eq_nil_of_length_eq_zero hn
    subst hl
    exact ⟨none, 0, hv, Chs.nil _ _⟩
  · subst hv
    refine ⟨_, cap, rfl, rfl, hnc, fun _ => ⟨g, 0, rfl, (hlt g rfl).1, (hlt g rfl).2, fun j u hu => ?_⟩, fun x hx => ?_⟩
    · have := World.ownsRow.cells h3 (g := g) rfl j u hu
      rw [Addr.add_mid] at this
      exact this
    · obtain ⟨a, b, c⟩ := h4 x hx
      exact ⟨a, b, c.weak (fun k _ hk => hk.1)⟩
/-- The number that two bytes tell. -/
theorem two_bytes (a b : UInt8) : bits .or .i64 ((a.toNat : Int) * 256) (b.toNat : Int) = ((a.toNat * 256 + b.toNat : Nat) : Int) := by
  have ha := a.toNat_lt
  have hb := b.toNat_lt
  have e4 : a.toNat * 256 ||| b.toNat = a.toNat * 256 + b.toNat := nat_join 8 (a.toNat * 256) b.toNat (by omega) (by omega)
  have key : bits .or .i64 (((a.toNat * 256 : Nat)) : Int) (b.toNat : Int) = ((a.toNat * 256 ||| b.toNat : Nat) : Int) := by
    have hx : a.toNat * 256 ||| b.toNat < 2 ^ 62 := Nat.or_lt_two_pow (by omega) (by omega)
    show IntKind.i64.wrap ((BitVec.ofInt 64 ((a.toNat * 256 : Nat) : Int) ||| BitVec.ofInt 64 (b.toNat : Int)).toNat : Int) = _
    rw [BitVec.toNat_or, ofInt_u64 _ (by omega), ofInt_u64 b.toNat (by omega), IntKind.wrap_i64]
    omega
  rw [e4] at key
  simpa using key
end Go.Proofs.YtnhondkdkjehaaaGreat
namespace Go.Proofs.YtnhondkdkjehaaaGreat
open Go.RowKit

set_option linter.unusedVariables false
/-- A row, as a cell. -/
def rwc (x : Nat × Nat) : Value := .slice (some ⟨x.1, 0, none⟩) 256 x.2
/-- Rows that lie, each from the head of a block that fits N. -/
def RwsAt (w : World) (N : Nat → Prop) (vs : List (Nat × Nat)) (bs : List Bk) : Prop :=
  vs.length = bs.length ∧ ∀ (i : Nat) (v : Nat × Nat) (b : Bk), vs[i]? = some v → bs[i]? = some b → N v.1 ∧ Lies w (fun k => k = v.1) (some ⟨v.1, 0, none⟩) 256 v.2 (bc b.1)
theorem RwsAt.nil (w : World) (N : Nat → Prop) : RwsAt w N [] [] := ⟨rfl, fun i v b h => by simp at h⟩
theorem RwsAt.keep {w w' : World} {N : Nat → Prop} {vs : List (Nat × Nat)} {bs : List Bk} {K : Nat → Prop} (h : RwsAt w N vs bs) (ht : Touch K w w') (hN : ∀ k, N k → k < w.heap.size → ¬ K k) : RwsAt w' N vs bs :=
  ⟨h.1, fun i v b hv hb => by
    obtain ⟨h1, h2⟩ := h.2 i v b hv hb
    obtain ⟨ad, q1, q2, q3, _⟩ := h2.2.2 (by omega)
    injection q1 with q1
    subst q1
    exact ⟨h1, ht.lies h2 (fun k hk => by have hk' : k = v.1 := hk; rw [hk']; exact hN _ h1 q3)⟩⟩
theorem RwsAt.weak {w : World} {N N' : Nat → Prop} {vs : List (Nat × Nat)} {bs : List Bk} (h : RwsAt w N vs bs) (hN : ∀ k, k < w.heap.size → N k → N' k) : RwsAt w N' vs bs :=
  ⟨h.1, fun i v b hv hb => by
    obtain ⟨h1, h2⟩ := h.2 i v b hv hb
    obtain ⟨ad, q1, q2, q3, _⟩ := h2.2.2 (by omega)
    injection q1 with q1
    subst q1
    exact ⟨hN _ q3 h1, h2⟩⟩
theorem RwsAt.snoc {w : World} {N : Nat → Prop} {vs : List (Nat × Nat)} {bs : List Bk} (h : RwsAt w N vs bs) {v : Nat × Nat} {b : Bk} (h1 : N v.1) (h2 : Lies w (fun k => k = v.1) (some ⟨v.1, 0, none⟩) 256 v.2 (bc b.1)) : RwsAt w N (vs ++ [v]) (bs ++ [b]) := by
  refine ⟨by simp [h.1], fun i x y hx hy => ?_⟩
  by_cases hi : i < vs.length
  · rw [List.getElem?_append_left hi] at hx
    rw [List.getElem?_append_left (by rw [← h.1]; exact hi)] at hy
    exact h.2 i x y hx hy
  · have hi' : i = vs.length := by
      have := (List.getElem?_eq_some_iff.1 hx).1
      simp at this
      omega
    subst hi'
    simp at hx
    rw [h.1] at hy
    simp at hy
    subst hx hy
    exact ⟨h1, h2⟩
/-- The log's blocks are read: whether the device stands, and the device. -/
def blkTo : Nat → Dv → Bool × Dv
  | 0, D => (true, D)
  | r + 1, D => if D.call.down = true then (false, D.call) else blkTo r D.call
theorem blkTo_calm : ∀ (r : Nat) (D : Dv), Calm D (blkTo r D).2 r
  | 0, D => Calm.refl D
  | r + 1, D => by
    unfold blkTo
    split
    · exact (Calm.refl D).call.mono (by omega)
    · have h := (Calm.refl D).call.trans (blkTo_calm r D.call)
      exact h.mono (by omega)
/-- The blocks, from the first place on; and the notes on them. -/
def logBks (L : Lg) (D : Dv) (k : Nat) : List Bk := (List.range k).map fun i => D.blk (L.place i)
theorem logBks_length (L : Lg) (D : Dv) (k : Nat) : (logBks L D k).length = k := by simp [logBks]
theorem logBks_succ (L : Lg) (D : Dv) (k : Nat) : logBks L D (k + 1) = logBks L D k ++ [D.blk (L.place k)] := by simp [logBks, List.range_succ]
def mindTo (L : Lg) (D : Dv) (al : Nat → Option Bk) : Nat → Nat → Option Bk
  | 0 => al
  | k + 1 => minded (mindTo L D al k) (L.place k) (D.blk (L.place k))
end Go.Proofs.YtnhondkdkjehaaaGreat
