/-
  Blocks on which another one was begun: what opening them comes to. No statement about the program stands here.
  A device that is up and falls at no call: what laying, entering and opening come to. No statement about the program stands here.
-/
import Derived.Test.YtnhondkdkjehaaaGreatSlA
import Derived.Test.YtnhondkdkjehaaaGreatJOpenP
import Derived.Test.YtnhondkdkjehaaaGreatJFmt
namespace Go.Proofs.YtnhondkdkjehaaaGreat
open Go.RowKit

set_option linter.unusedVariables false

/-- A block that is none of the mark m: its end is not m's, and its beginning, with some first bytes of m's, is its end only if it was so. -/
def Near (m : Mk) (y : List UInt8) : Prop :=
  y.length = 256 ∧ y.drop 239 ≠ m.bytes ∧ ∀ k, k ≤ 17 → m.bytes.take k ++ (y.take 17).drop k = y.drop 239 → (markAt (y.drop 239)).may = false ∨ m.bytes.take k ++ (y.take 17).drop k = y.take 17
theorem near_zero (m : Mk) (hm : m.may = true) : Near m (List.replicate 256 0) := by
  refine ⟨List.length_replicate, ?_, fun k _ _ => .inl rfl⟩
  intro h
  rw [List.drop_replicate] at h
  have h0 : m.bytes.head? = some m.kind := rfl
  rw [← h] at h0
  simp at h0
  rw [Mk.may, ← h0] at hm
  simp at hm
theorem near_sealed (m o : Mk) (c : List UInt8) (hc : c.length ≤ 220) (hne : o ≠ m) : Near m (sealed o c) := by
  obtain ⟨h1, h2⟩ := sealed_tail o c hc
  refine ⟨sealed_length o c hc, ?_, fun k _ h => .inr ?_⟩
  · rw [h1]
    exact fun e => hne (bytes_inj e)
  · rw [h, h1, h2]
theorem opens_ends {l : List UInt8} (hl : l.length = 256) (h : opens l ≠ none) : l.take 17 = l.drop 239 ∧ (markAt (l.drop 239)).may = true := by
  cases ho : opens l with
  | none => exact absurd ho h
  | some z =>
    obtain ⟨m, b⟩ := z
    obtain ⟨hm, hb, rfl⟩ := opens_some hl ho
    obtain ⟨h1, h2⟩ := sealed_tail m b hb
    refine ⟨by rw [h1, h2], ?_⟩
    rw [h1]
    have := markAt_bytes m []
    rw [List.append_nil] at this
    rw [this]
    exact hm
theorem torn_take {x y : List UInt8} {m : Mk} (hx : x.length = 256) (hy : y.length = 256) (hxt : x.take 17 = m.bytes) (k : Nat) (hk : k ≤ 256) : (torn x y k).take 17 = m.bytes.take (min k 17) ++ (y.take 17).drop (min k 17) := by
  rw [torn, ← hxt, List.take_take, List.drop_take, List.take_append, List.take_take, List.length_take, hx]
  rw [show min (min k 17) 17 = min 17 k by omega, show min k 256 = k by omega]
  rcases Nat.lt_or_ge k 17 with h | h
  · rw [show min k 17 = k by omega]
  · rw [show min k 17 = 17 by omega, show 17 - k = 0 by omega, List.take_zero, Nat.sub_self, List.take_zero]
theorem torn_drop {x y : List UInt8} {m : Mk} (hx : x.length = 256) (hy : y.length = 256) (hxd : x.drop 239 = m.bytes) (k : Nat) (hk : k ≤ 256) : (torn x y k).drop 239 = m.bytes.take (k - 239) ++ (y.drop 239).drop (k - 239) := by
  rw [torn, ← hxd, List.drop_append, List.length_take, hx, List.drop_drop, List.take_drop, show min k 256 = k by omega, List.drop_drop]
  rcases Nat.lt_or_ge 239 k with h | h
  · rw [show 239 + (k - 239) = k by omega, show 239 - k = 0 by omega, Nat.add_zero]
  · have z1 : List.drop 239 (List.take k x) = [] := List.drop_eq_nil_of_le (by rw [List.length_take]; omega)
    have z2 : List.drop 239 (List.take 239 x) = [] := List.drop_eq_nil_of_le (by rw [List.length_take]; omega)
    rw [show k - 239 = 0 by omega, Nat.add_zero, show k + (239 - k) = 239 by omega, z1, z2]
theorem near_torn {m : Mk} {b y : List UInt8} (hb : b.length ≤ 220) (h : Near m y) (k : Nat) (hk : k ≤ 256) :
    torn (sealed m b) y k = sealed m b ∨ (Near m (torn (sealed m b) y k) ∧ (opens (torn (sealed m b) y k) = none ∨ torn (sealed m b) y k = y)) := by
  obtain ⟨hyl, hE, hI⟩ := h
  have hxl := sealed_length m b hb
  obtain ⟨hxd, hxt⟩ := sealed_tail m b hb
  obtain ⟨x, hx⟩ : ∃ x, sealed m b = x := ⟨_, rfl⟩
  rw [hx] at hxl hxd hxt ⊢
  have hml := m.bytes_length
  have ht := torn_take hxl hyl hxt k hk
  have hd := torn_drop hxl hyl hxd k hk
  have htl := torn_length hxl hyl k hk
  have hyt : (y.take 17).length = 17 := by rw [List.length_take]; omega
  by_cases hfull : (torn x y k).drop 239 = m.bytes
  · -- its end is m's: it is x
    left
    have hk9 : 239 < k := by
      rcases Nat.lt_or_ge 239 k with h | h
      · exact h
      · rw [hd, show k - 239 = 0 by omega, List.take_zero, List.nil_append, List.drop_zero] at hfull
        exact absurd hfull hE
    have h1 : (torn x y k).take 239 = x.take 239 := by
      rw [torn, List.take_append, List.take_take, List.length_take, hxl, show min 239 k = 239 by omega, show 239 - min k 256 = 0 by omega, List.take_zero, List.append_nil]
    rw [← List.take_append_drop 239 (torn x y k), h1, hfull, ← hxd, List.take_append_drop]
  · right
    -- what the beginning comes to
    have key : ∀ j, j ≤ 17 → m.bytes.take j ++ ((torn x y k).take 17).drop j = (torn x y k).drop 239 → (markAt ((torn x y k).drop 239)).may = false ∨ (m.bytes.take j ++ ((torn x y k).take 17).drop j = (torn x y k).take 17 ∧ torn x y k = y) := by
      intro j hj he
      obtain ⟨q, hq⟩ : ∃ q, min k 17 = q := ⟨_, rfl⟩
      have hq17 : q ≤ 17 := by omega
      have hmq : (m.bytes.take q).length = q := by rw [List.length_take]; omega
      have e1 : m.bytes.take j ++ ((torn x y k).take 17).drop j = m.bytes.take (max j q) ++ (y.take 17).drop (max j q) := by
        rw [ht, hq, List.drop_append, hmq]
        rcases Nat.lt_or_ge j q with h | h
        · rw [show max j q = q by omega, show j - q = 0 by omega, List.drop_zero, ← List.append_assoc]
          congr 1
          rw [List.drop_take, ← List.take_add, show j + (q - j) = q by omega]
        · rw [show max j q = j by omega, List.drop_eq_nil_of_le (by omega), List.nil_append, List.drop_drop, show q + (j - q) = j by omega]
      rcases Nat.lt_or_ge 239 k with h9 | h9
      · -- the beginning is m's
        exfalso
        apply hfull
        rw [← he, e1, show max j q = 17 by omega, List.take_of_length_le (by omega), List.drop_eq_nil_of_le (by omega), List.append_nil]
      · have hd' : (torn x y k).drop 239 = y.drop 239 := by rw [hd, show k - 239 = 0 by omega, List.take_zero, List.nil_append, List.drop_zero]
        rw [e1, hd'] at he
        rcases hI (max j q) (by omega) he with hz | hz
        · exact .inl (by rw [hd']; exact hz)
        · right
          -- the first bytes are those that were there
          have hmx : m.bytes.take (max j q) = (y.take 17).take (max j q) := by
            have := congrArg (List.take (max j q)) hz
            rwa [List.take_append_of_le_length (by rw [List.length_take]; omega), List.take_take, Nat.min_self] at this
          have hmq' : m.bytes.take q = (y.take 17).take q := by
            have := congrArg (List.take q) hmx
            rwa [List.take_take, List.take_take, show min q (max j q) = q by omega] at this
          have ht' : (torn x y k).take 17 = y.take 17 := by rw [ht, hq, hmq', List.take_append_drop]
          refine ⟨by rw [e1, hz, ht'], ?_⟩
          rcases Nat.lt_or_ge k 17 with h17 | h17
          · have hkq : q = k := by omega
            have hxk : x.take k = y.take k := by
              have a1 : x.take k = m.bytes.take k := by rw [← hxt, List.take_take, show min k 17 = k by omega]
              rw [a1, ← hkq, hmq', List.take_take, show min q 17 = q by omega]
            rw [torn, hxk, List.take_append_drop]
          · exfalso
            have hq' : q = 17 := by omega
            apply hE
            rw [← he, show max j q = 17 by omega, List.take_of_length_le (by omega), List.drop_eq_nil_of_le (by omega), List.append_nil]
    refine ⟨⟨htl, hfull, fun j hj he => (key j hj he).imp id And.left⟩, ?_⟩
    by_cases ho : opens (torn x y k) = none
    · exact .inl ho
    · right
      obtain ⟨e1, e2⟩ := opens_ends htl ho
      rcases key 0 (by omega) (by rw [List.take_zero, List.nil_append, List.drop_zero]; exact e1) with h | h
      · rw [h] at e2
        cases e2
      · exact h.2
end Go.Proofs.YtnhondkdkjehaaaGreat
namespace Go.Proofs.YtnhondkdkjehaaaGreat
open Go.RowKit

set_option linter.unusedVariables false
theorem call_up {D : Dv} (h1 : D.down = false) (h2 : D.left = -1) : D.call = ⟨D.bs, D.ws, D.ops + 1, -1, false⟩ := by
  obtain ⟨a, b, c, d, e⟩ := D
  subst h1 h2
  rfl
/-- Blocks with others laid. -/
def putB (base : Nat) (cs : List Cg) (bs : List Bk) : List Bk := cs.foldl (fun b x => b.set (base + x.1) x.2) bs
theorem layTo_up (base : Nat) : ∀ (cs : List Cg) (D : Dv), D.down = false → D.left = -1 → layTo base cs D = (0, ⟨putB base cs D.bs, [], D.ops + cs.length + 1, -1, false⟩)
  | [], D, h1, h2 => by
    rw [layTo, call_up h1 h2, if_neg (by simp)]
    rfl
  | x :: r, D, h1, h2 => by
    rw [layTo, call_up h1 h2, if_neg (by simp), layTo_up base r _ rfl rfl]
    show ((0 : Int), (⟨putB base r (D.bs.set (base + x.1) x.2), [], D.ops + 1 + r.length + 1, -1, false⟩ : Dv)) = (0, ⟨putB base (x :: r) D.bs, [], D.ops + (r.length + 1) + 1, -1, false⟩)
    rw [show D.ops + 1 + r.length + 1 = D.ops + (r.length + 1) + 1 by omega]
    rfl
theorem saveTo_up {D : Dv} (h1 : D.down = false) (h2 : D.left = -1) (h : Hd) : saveTo D h = (0, ⟨D.bs.set (h.gen % 2) h.blk, [], D.ops + 2, -1, false⟩) := by
  rw [saveTo, call_up h1 h2, if_neg (by simp), call_up (D := Dv.write _ _ _) rfl rfl, if_neg (by simp)]
  rfl
theorem callsN_is {D : Dv} (h1 : D.down = false) (h2 : D.left = -1) (k : Nat) (hk : 0 < k) : callsN D k = ⟨D.bs, D.ws, D.ops + k, -1, false⟩ := by
  match k, hk with
  | 1, _ => exact call_up h1 h2
  | k + 2, _ =>
    show (callsN D (k + 1)).call = _
    rw [callsN_is h1 h2 (k + 1) (by omega), call_up rfl rfl]
    rfl
theorem settleTo_up {D : Dv} (h1 : D.down = false) (h2 : D.left = -1) (base : Nat) (cs : List Cg) (next : Hd) : ∃ o, settleTo base cs next D = (0, ⟨(putB base cs D.bs).set (next.gen % 2) next.blk, [], o, -1, false⟩) ∧ o ≤ D.ops + cs.length + 3 := by
  unfold settleTo
  by_cases hc : cs = []
  · subst hc
    refine ⟨D.ops + 2, ?_, by simp⟩
    rw [if_pos rfl, andThen, if_pos rfl, saveTo_up h1 h2]
    rfl
  · refine ⟨D.ops + cs.length + 1 + 2, ?_, by omega⟩
    rw [if_neg hc, layTo_up base cs D h1 h2, andThen, if_pos rfl, saveTo_up rfl rfl]
theorem zero_val : (default : Bk).1 = List.replicate 256 0 := rfl
theorem putB_zero (base B : Nat) (m : Nat) : putB base (zeroCgs m) (List.replicate B (default : Bk)) = List.replicate B default := by
  induction m with
  | zero => rfl
  | succ m ih =>
    rw [zeroCgs_succ, putB, List.foldl_append]
    show (putB base (zeroCgs m) (List.replicate B default)).set (base + m) default = _
    rw [ih]
    exact List.set_replicate_self
/-- A device that was formatted. -/
theorem formatTo_new {B : Nat} {n : Int} (hn : -9223372036854775808 ≤ n ∧ n ≤ 9223372036854775807) (hr : (fmtHd n hn).rightB (B : Int) = true) : ∃ o, formatTo n hn (Dv.new B) = (0, ⟨(List.replicate B default).set 1 (fmtHd n hn).blk, [], o, -1, false⟩) ∧ o ≤ B + 3 := by
  have hl : (Dv.new B).bs.length = B := List.length_replicate
  have hri := Hd.right_iff.1 hr
  refine ⟨0 + ((B : Int) - (2 + n)).toNat + 1 + 2, ?_, ?_⟩
  · rw [formatTo, hl, if_pos hr, layTo_up _ _ _ rfl rfl, andThen, if_pos rfl, saveTo_up rfl rfl, zeroCgs_length]
    show ((0 : Int), (⟨(putB (2 + n.toNat) (zeroCgs ((B : Int) - (2 + n)).toNat) (List.replicate B default)).set (1 % 2) (fmtHd n hn).blk, [], 0 + ((B : Int) - (2 + n)).toNat + 1 + 2, -1, false⟩ : Dv)) = _
    rw [putB_zero]
  · have : (fmtHd n hn).log = n := rfl
    rw [this] at hri
    omega
theorem bkAt_log (L : Lg) (D : Dv) (k i : Nat) (h : i < k) : bkAt (logBks L D k) i = D.blk (L.place i) := by
  unfold bkAt logBks
  rw [List.getD_eq_getElem?_getD, List.getElem?_map, List.getElem?_range h]
  rfl
theorem minded_none (b : Bk) (n : Nat) (hb : kindy b = false) : minded (fun _ => none) n b = fun _ => none := by
  funext i
  simp [minded, hb]
theorem mindTo_none (L : Lg) (D : Dv) : ∀ k, (∀ i, i < k → kindy (D.blk (L.place i)) = false) → mindTo L D (fun _ => none) k = fun _ => none
  | 0, _ => rfl
  | k + 1, h => by rw [mindTo, mindTo_none L D k (fun i hi => h i (by omega)), minded_none _ _ (h k (by omega))]
theorem sealedOf_zero (m : Mk) : sealedOf m (List.replicate 256 0) = none := by rw [sealedOf, opens_zero]
theorem lastN_two {D : Dv} {h : Hd} {a b : Option Hd} (ha : headOf (D.blk 0).1 (D.bs.length : Int) = a) (hb : headOf (D.blk 1).1 (D.bs.length : Int) = b) : lastN D 2 = pickH (pickH Hd.zero 0 a) 1 b := by
  show pickH (pickH Hd.zero 0 (headOf (D.blk 0).1 _)) 1 (headOf (D.blk 1).1 _) = _
  rw [ha, hb]
/-- The second head of a log of so many blocks. -/
def hd2 (n : Int) (h : -9223372036854775808 ≤ n ∧ n ≤ 9223372036854775807) : Hd := ⟨2, 2, 0, 1, n, by omega, by omega, by omega, by omega, h⟩
/-- A log that was just formatted, opened. -/
theorem openTo_fresh {B : Nat} {n : Int} (hn : -9223372036854775808 ≤ n ∧ n ≤ 9223372036854775807) (hr : (fmtHd n hn).rightB (B : Int) = true) (hB4 : B ≤ 4096) (o : Nat) :
    lastN ⟨(List.replicate B default).set 1 (fmtHd n hn).blk, [], o, -1, false⟩ 2 = fmtHd n hn ∧
    mindTo (lgOf (fmtHd n hn)) (callsN ⟨(List.replicate B default).set 1 (fmtHd n hn).blk, [], o, -1, false⟩ 2) (fun _ => none) (fmtHd n hn).log.toNat = (fun _ => none) ∧
    ∃ o', openTo ⟨(List.replicate B default).set 1 (fmtHd n hn).blk, [], o, -1, false⟩ = (0, ⟨hd2 n hn, 0, 1, false⟩, ⟨((List.replicate B default).set 1 (fmtHd n hn).blk).set 0 (hd2 n hn).blk, [], o', -1, false⟩) ∧ o' ≤ o + 4200 := by
  obtain ⟨D, hD⟩ : ∃ D : Dv, (⟨(List.replicate B default).set 1 (fmtHd n hn).blk, [], o, -1, false⟩ : Dv) = D := ⟨_, rfl⟩
  have hbs : D.bs = (List.replicate B default).set 1 (fmtHd n hn).blk := by rw [← hD]
  have hdn : D.down = false := by rw [← hD]
  have hlf : D.left = -1 := by rw [← hD]
  have hws : D.ws = [] := by rw [← hD]
  have hop : D.ops = o := by rw [← hD]
  have hri := Hd.right_iff.1 hr
  have hlog : (fmtHd n hn).log = n := rfl
  rw [hlog] at hri
  have hlen : D.bs.length = B := by rw [hbs, List.length_set, List.length_replicate]
  have hB : 6 ≤ B := by omega
  have b1 : D.blk 1 = (fmtHd n hn).blk := by
    rw [Dv.blk, hbs, List.getD_eq_getElem?_getD, List.getElem?_set_self (by rw [List.length_replicate]; omega)]
    rfl
  have bz : ∀ i, i ≠ 1 → D.blk i = default := fun i hi => by
    rw [Dv.blk, hbs, List.getD_eq_getElem?_getD, List.getElem?_set_ne (fun e => hi e.symm), List.getElem?_replicate]
    split <;> rfl
  have h0 : headOf (D.blk 0).1 (D.bs.length : Int) = none := by rw [bz 0 (by omega), zero_val]; exact headOf_none opens_zero
  have h1 : headOf (D.blk 1).1 (D.bs.length : Int) = some (fmtHd n hn) := by rw [b1, hlen]; exact headOf_block _ _ hr
  have hl2 : lastN D 2 = fmtHd n hn := by
    rw [lastN_two (h := fmtHd n hn) h0 h1]
    show (if 1 % 2 = 1 ∧ (0 : Nat) < 1 then fmtHd n hn else Hd.zero) = _
    rw [if_pos ⟨rfl, by omega⟩]
  rw [hD]
  refine ⟨hl2, ?_⟩
  have hnz : fmtHd n hn ≠ Hd.zero := fun e => by
    have : (1 : Nat) = 0 := congrArg Hd.gen e
    omega
  have hca := callsN_is hdn hlf 2 (by omega)
  have hbt : blkTo (fmtHd n hn).log.toNat (callsN D 2) = (true, ⟨D.bs, D.ws, D.ops + 2 + n.toNat, -1, false⟩) := by
    rw [hca, blkTo_up _ _ rfl rfl]
    rfl
  have hbk : ∀ i, (callsN D 2).blk ((lgOf (fmtHd n hn)).place i) = default := fun i => by
    rw [hca]
    exact bz _ (by unfold Lg.place; omega)
  have hrd : readB (homeOf D (lgOf (fmtHd n hn))) ((fmtHd n hn).log.toNat + 1) (lgOf (fmtHd n hn)) [] (logBks (lgOf (fmtHd n hn)) (callsN D 2) (fmtHd n hn).log.toNat) = ([], lgOf (fmtHd n hn)) := by
    have hro : roundB (lgOf (fmtHd n hn)) (homeOf D (lgOf (fmtHd n hn))) (logBks (lgOf (fmtHd n hn)) (callsN D 2) (fmtHd n hn).log.toNat) = none := by
      rw [roundB, bkAt_log _ _ _ _ (by show 0 < n.toNat; omega), hbk, zero_val, sealedOf_zero]
    rw [readB_step (by rw [logBks_length]; show 2 < n.toNat; omega), hro]
  rw [openTo_some hl2 hnz hbt hrd]
  refine ⟨mindTo_none _ _ _ (fun i _ => by rw [hbk]; decide), ?_⟩
  have hbump : (lgOf (fmtHd n hn)).bump = hd2 n hn := by
    have hL : (lgOf (fmtHd n hn)).Ok := ⟨by show 3 ≤ n; omega, by show n ≤ 4096; omega, by show (0 : Int) ≤ 0; omega, by show (0 : Int) < n; omega, by show ((0 : Nat) : Int) ≤ n; omega, by show 1 < 18446744073709551616; omega, rfl⟩
    obtain ⟨a, b, c, d, e⟩ := bump_is hL (by show 1 < 18446744073709551615; omega) (by show 1 < 18446744073709551615; omega)
    refine Hd.ext' a b ?_ d e
    rw [c]
    show (((0 + 0) % n.toNat : Nat) : Int) = 0
    simp
  rw [hbump]
  obtain ⟨o', hs, ho⟩ := settleTo_up (D := ⟨D.bs, D.ws, D.ops + 2 + n.toNat, -1, false⟩) rfl rfl (2 + (fmtHd n hn).log.toNat) [] (hd2 n hn)
  refine ⟨o', ?_, ?_⟩
  · rw [hs]
    simp only [putB, List.foldl_nil]
    rw [show (hd2 n hn).gen % 2 = 0 from by simp [hd2], hbs]
    rfl
  · have ho : o' ≤ D.ops + 2 + n.toNat + 0 + 3 := ho
    omega
end Go.Proofs.YtnhondkdkjehaaaGreat
