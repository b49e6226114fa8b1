/-
  Which of some blocks are in use, bit by bit, in bytes; runs of them. No statement about the program stands here.
-/
import Derived.Test.YtnhondkdkjehaaaOwn
import Derived.Test.YtnhondkdkjehaaaGrows
namespace Go.Proofs.Ytnhondkdkjehaaa
open Go.RowKit

/-- Bit k of bytes. -/
def hasB (l : List UInt8) (k : Nat) : Bool := (l.getD (k / 8) 0).toBitVec.getLsbD (k % 8)
def bitU (k : Nat) : UInt8 := UInt8.ofNat (2 ^ (k % 8))
theorem bitU_get (k j : Nat) (hj : j < 8) : (bitU k).toBitVec.getLsbD j = decide (j = k % 8) := by
  have h : ∀ a : Fin 8, ∀ b : Fin 8, (UInt8.ofNat (2 ^ a.val)).toBitVec.getLsbD b.val = decide (b.val = a.val) := by decide
  exact h ⟨k % 8, Nat.mod_lt _ (by decide)⟩ ⟨j, hj⟩
theorem bitU_nat (k : Nat) : (bitU k).toNat = 2 ^ (k % 8) := by
  have h : ∀ a : Fin 8, (UInt8.ofNat (2 ^ a.val)).toNat = 2 ^ a.val := by decide
  exact h ⟨k % 8, Nat.mod_lt _ (by decide)⟩
theorem byte_ext {a b : UInt8} (h : ∀ j, j < 8 → a.toBitVec.getLsbD j = b.toBitVec.getLsbD j) : a = b := by
  have : a.toBitVec = b.toBitVec := BitVec.eq_of_getLsbD_eq (fun i hi => h i hi)
  exact UInt8.toBitVec_inj.1 this
theorem hasB_behind (l : List UInt8) (k : Nat) (h : 8 * l.length ≤ k) : hasB l k = false := by
  unfold hasB
  simp [List.getD, List.getElem?_eq_none (show l.length ≤ k / 8 by omega)]
theorem hasB_ext {l m : List UInt8} (hl : l.length = m.length) (h : ∀ k, k < 8 * l.length → hasB l k = hasB m k) : l = m := by
  apply List.ext_getElem hl
  intro i h1 h2
  apply byte_ext
  intro j hj
  have := h (8 * i + j) (by omega)
  unfold hasB at this
  rw [show (8 * i + j) / 8 = i by omega, show (8 * i + j) % 8 = j by omega] at this
  simpa [List.getD, List.getElem?_eq_getElem h1, List.getElem?_eq_getElem h2] using this
def setB (l : List UInt8) (k : Nat) : List UInt8 := l.set (k / 8) (l.getD (k / 8) 0 ||| bitU k)
def clrB (l : List UInt8) (k : Nat) : List UInt8 := l.set (k / 8) (l.getD (k / 8) 0 &&& ~~~ bitU k)
theorem setB_length (l : List UInt8) (k : Nat) : (setB l k).length = l.length := by simp [setB]
theorem clrB_length (l : List UInt8) (k : Nat) : (clrB l k).length = l.length := by simp [clrB]
theorem getD_set (l : List UInt8) (i j : Nat) (u : UInt8) (hi : i < l.length) : (l.set i u).getD j 0 = if j = i then u else l.getD j 0 := by
  simp only [List.getD, List.getElem?_set]
  by_cases h : j = i
  · subst h
    simp [hi]
  · rw [if_neg h, if_neg (fun e => h e.symm)]
theorem hasB_setB (l : List UInt8) (k j : Nat) (hk : k < 8 * l.length) : hasB (setB l k) j = (decide (j = k) || hasB l j) := by
  have h8 : j % 8 < 8 := Nat.mod_lt _ (by decide)
  unfold hasB setB
  rw [getD_set _ _ _ _ (by omega)]
  by_cases h : j / 8 = k / 8
  · rw [if_pos h, h, UInt8.toBitVec_or, BitVec.getLsbD_or, bitU_get k _ h8]
    by_cases h2 : j % 8 = k % 8
    · rw [show j = k by omega]
      simp
    · simp [h2, show ¬ j = k by intro e; subst e; exact h2 rfl]
  · rw [if_neg h]
    simp [show ¬ j = k by intro e; subst e; exact h rfl]
theorem hasB_clrB (l : List UInt8) (k j : Nat) (hk : k < 8 * l.length) : hasB (clrB l k) j = (!decide (j = k) && hasB l j) := by
  have h8 : j % 8 < 8 := Nat.mod_lt _ (by decide)
  unfold hasB clrB
  rw [getD_set _ _ _ _ (by omega)]
  by_cases h : j / 8 = k / 8
  · rw [if_pos h, h, UInt8.toBitVec_and, BitVec.getLsbD_and, UInt8.toBitVec_not, BitVec.getLsbD_not, bitU_get k _ h8]
    by_cases h2 : j % 8 = k % 8
    · rw [show j = k by omega]
      simp
    · simp [h2, h8, show ¬ j = k by intro e; subst e; exact h2 rfl]
  · rw [if_neg h]
    simp [show ¬ j = k by intro e; subst e; exact h rfl]
/-- As many bits set, or cleared, from a on. -/
def withL (l : List UInt8) (a : Nat) : Nat → List UInt8
  | 0 => l
  | j + 1 => setB (withL l a j) (a + j)
def woutL (l : List UInt8) (a : Nat) : Nat → List UInt8
  | 0 => l
  | j + 1 => clrB (woutL l a j) (a + j)
theorem withL_length (l : List UInt8) (a j : Nat) : (withL l a j).length = l.length := by
  induction j with
  | zero => rfl
  | succ j ih => rw [withL, setB_length, ih]
theorem woutL_length (l : List UInt8) (a j : Nat) : (woutL l a j).length = l.length := by
  induction j with
  | zero => rfl
  | succ j ih => rw [woutL, clrB_length, ih]
theorem hasB_withL (l : List UInt8) (a j k : Nat) (h : a + j ≤ 8 * l.length) : hasB (withL l a j) k = (decide (a ≤ k ∧ k < a + j) || hasB l k) := by
  induction j with
  | zero =>
    rw [withL, decide_eq_false (by omega)]
    rfl
  | succ j ih =>
    rw [withL, hasB_setB _ _ _ (by rw [withL_length]; omega), ih (by omega), ← Bool.or_assoc]
    congr 1
    rw [← Bool.decide_or]
    exact decide_eq_decide.2 (by omega)
theorem hasB_woutL (l : List UInt8) (a j k : Nat) (h : a + j ≤ 8 * l.length) : hasB (woutL l a j) k = (!decide (a ≤ k ∧ k < a + j) && hasB l k) := by
  induction j with
  | zero =>
    rw [woutL, decide_eq_false (by omega)]
    rfl
  | succ j ih =>
    rw [woutL, hasB_clrB _ _ _ (by rw [woutL_length]; omega), ih (by omega), ← Bool.and_assoc]
    congr 1
    rw [← Bool.not_or, ← Bool.decide_or]
    congr 1
    exact decide_eq_decide.2 (by omega)

/-- Where a run begins, and what is behind it, as far as there are blocks. -/
def runA (n : Nat) (f m : Int) : Int := if m < 1 then 0 else if 0 ≤ f ∧ (n : Int) - f < m then f else if f < 0 then 0 else f
def runZ (n : Nat) (f m : Int) : Int := if m < 1 then 0 else if 0 ≤ f ∧ (n : Int) - f < m then n else if (n : Int) < f + m then n else f + m
def inRun (n : Nat) (f m : Int) (k : Nat) : Bool := decide (k < n ∧ 0 < m ∧ f ≤ (k : Int) ∧ (k : Int) - f < m)
theorem runA_nonneg (n : Nat) (f m : Int) : 0 ≤ runA n f m := by
  unfold runA
  split
  · omega
  · split
    · omega
    · split <;> omega
theorem runZ_le (n : Nat) (f m : Int) : runZ n f m ≤ n := by
  unfold runZ
  split
  · omega
  · split
    · omega
    · split <;> omega
theorem inRun_eq (n : Nat) (f m : Int) (k : Nat) : decide ((runA n f m).toNat ≤ k ∧ k < (runA n f m).toNat + (runZ n f m - runA n f m).toNat) = inRun n f m k := by
  unfold inRun
  apply decide_eq_decide.2
  unfold runA runZ
  by_cases h1 : m < 1
  · rw [if_pos h1, if_pos h1]
    omega
  · rw [if_neg h1, if_neg h1]
    by_cases h2 : 0 ≤ f ∧ (n : Int) - f < m
    · rw [if_pos h2, if_pos h2]
      omega
    · rw [if_neg h2, if_neg h2]
      by_cases h3 : f < 0
      · rw [if_pos h3]
        split <;> omega
      · rw [if_neg h3]
        split <;> omega
def withA (n : Nat) (l : List UInt8) (f m : Int) : List UInt8 := withL l (runA n f m).toNat (runZ n f m - runA n f m).toNat
def woutA (n : Nat) (l : List UInt8) (f m : Int) : List UInt8 := woutL l (runA n f m).toNat (runZ n f m - runA n f m).toNat
theorem withA_length (n : Nat) (l : List UInt8) (f m : Int) : (withA n l f m).length = l.length := withL_length _ _ _
theorem woutA_length (n : Nat) (l : List UInt8) (f m : Int) : (woutA n l f m).length = l.length := woutL_length _ _ _
theorem run_room (n : Nat) (l : List UInt8) (f m : Int) (hl : n ≤ 8 * l.length) (h : runA n f m < runZ n f m) : (runA n f m).toNat + (runZ n f m - runA n f m).toNat ≤ 8 * l.length := by
  have h1 := runA_nonneg n f m
  have h2 := runZ_le n f m
  omega
theorem hasB_withA (n : Nat) (l : List UInt8) (f m : Int) (k : Nat) (hl : n ≤ 8 * l.length) : hasB (withA n l f m) k = (inRun n f m k || hasB l k) := by
  rw [← inRun_eq, withA]
  by_cases h : runA n f m < runZ n f m
  · exact hasB_withL _ _ _ _ (run_room n l f m hl h)
  · rw [show (runZ n f m - runA n f m).toNat = 0 by omega, decide_eq_false (by omega)]
    rfl
theorem hasB_woutA (n : Nat) (l : List UInt8) (f m : Int) (k : Nat) (hl : n ≤ 8 * l.length) : hasB (woutA n l f m) k = (!inRun n f m k && hasB l k) := by
  rw [← inRun_eq, woutA]
  by_cases h : runA n f m < runZ n f m
  · exact hasB_woutL _ _ _ _ (run_room n l f m hl h)
  · rw [show (runZ n f m - runA n f m).toNat = 0 by omega, decide_eq_false (by omega)]
    rfl

/-- Bytes, cut to so many blocks. -/
def howMany (b : Int) : Nat := if b < 0 then 0 else if 4096 < b then 4096 else b.toNat
def ofT (b : List UInt8) (n : Nat) : List UInt8 := b.take ((n + 7) / 8) ++ List.replicate ((n + 7) / 8 - b.length) 0
theorem ofT_length (b : List UInt8) (n : Nat) : (ofT b n).length = (n + 7) / 8 := by
  simp [ofT]
  omega
def ofL (b : List UInt8) (n : Nat) : List UInt8 := if n % 8 = 0 then ofT b n else (ofT b n).set ((n + 7) / 8 - 1) ((ofT b n).getD ((n + 7) / 8 - 1) 0 &&& (bitU n - 1))
theorem ofL_length (b : List UInt8) (n : Nat) : (ofL b n).length = (n + 7) / 8 := by
  unfold ofL
  split
  · exact ofT_length b n
  · rw [List.length_set]
    exact ofT_length b n
theorem hasB_ofT (b : List UInt8) (n k : Nat) (h : k / 8 < (n + 7) / 8) : hasB (ofT b n) k = hasB b k := by
  unfold hasB ofT
  congr 2
  simp only [List.getD, List.getElem?_append, List.length_take, List.getElem?_take, List.getElem?_replicate]
  by_cases h2 : k / 8 < b.length
  · rw [if_pos (by omega), if_pos h]
  · rw [if_neg (by omega), List.getElem?_eq_none (show b.length ≤ k / 8 by omega)]
    split <;> rfl
theorem mask_get (n j : Nat) (hj : j < 8) : (bitU n - 1).toBitVec.getLsbD j = decide (j < n % 8) := by
  have h : ∀ a : Fin 8, ∀ b : Fin 8, (UInt8.ofNat (2 ^ a.val) - 1).toBitVec.getLsbD b.val = decide (b.val < a.val) := by decide
  exact h ⟨n % 8, Nat.mod_lt _ (by decide)⟩ ⟨j, hj⟩
theorem hasB_ofL (b : List UInt8) (n k : Nat) : hasB (ofL b n) k = (decide (k < n) && hasB b k) := by
  by_cases hk : k / 8 < (n + 7) / 8
  · unfold ofL
    split
    · rename_i h0
      rw [hasB_ofT b n k hk, decide_eq_true (by omega)]
      rfl
    · rename_i h0
      by_cases h1 : k / 8 = (n + 7) / 8 - 1
      · have h8 : k % 8 < 8 := Nat.mod_lt _ (by decide)
        have ht := hasB_ofT b n k hk
        unfold hasB at ht
        unfold hasB
        rw [getD_set _ _ _ _ (by rw [ofT_length]; omega), if_pos h1, UInt8.toBitVec_and, BitVec.getLsbD_and, mask_get n _ h8, ← h1, ht, Bool.and_comm]
        congr 1
        exact decide_eq_decide.2 (by omega)
      · have ht := hasB_ofT b n k hk
        unfold hasB at ht
        unfold hasB
        rw [getD_set _ _ _ _ (by rw [ofT_length]; omega), if_neg h1, ht, decide_eq_true (by omega)]
        rfl
  · rw [hasB_behind _ _ (by rw [ofL_length]; omega), decide_eq_false (by omega)]
    rfl
/-- Bytes in which no bit behind the n-th is set, as few as hold them. -/
def Cut (n : Nat) (l : List UInt8) : Prop := l.length = (n + 7) / 8 ∧ ∀ k, n ≤ k → hasB l k = false
theorem cut_ofL (b : List UInt8) (n : Nat) : Cut n (ofL b n) := ⟨ofL_length b n, fun k hk => by rw [hasB_ofL, decide_eq_false (by omega)]; rfl⟩
theorem Cut.room {n : Nat} {l : List UInt8} (h : Cut n l) : n ≤ 8 * l.length := by rw [h.1]; omega
theorem Cut.with {n : Nat} {l : List UInt8} (h : Cut n l) (f m : Int) : Cut n (withA n l f m) := ⟨by rw [withA_length, h.1], fun k hk => by
  rw [hasB_withA _ _ _ _ _ h.room, h.2 k hk, inRun, decide_eq_false (by omega)]
  rfl⟩
theorem Cut.wout {n : Nat} {l : List UInt8} (h : Cut n l) (f m : Int) : Cut n (woutA n l f m) := ⟨by rw [woutA_length, h.1], fun k hk => by
  rw [hasB_woutA _ _ _ _ _ h.room, h.2 k hk, Bool.and_false]⟩
theorem Cut.eq {n : Nat} {l m : List UInt8} (h : Cut n l) (h' : Cut n m) (hh : ∀ k, k < n → hasB l k = hasB m k) : l = m :=
  hasB_ext (h.1.trans h'.1.symm) (fun k _ => by
    by_cases hk : k < n
    · exact hh k hk
    · rw [h.2 k (by omega), h'.2 k (by omega)])
theorem Cut.of {n : Nat} {l : List UInt8} (h : Cut n l) : ofL l n = l := (cut_ofL l n).eq h (fun k hk => by rw [hasB_ofL, decide_eq_true hk]; rfl)
theorem ofL_zeros (n : Nat) : List.replicate ((n + 7) / 8) (0 : UInt8) = ofL [] n := by
  apply hasB_ext
  · rw [ofL_length, List.length_replicate]
  · intro k _
    rw [hasB_ofL, show hasB [] k = false from hasB_behind [] k (by simp), Bool.and_false]
    unfold hasB
    rw [show (List.replicate ((n + 7) / 8) (0 : UInt8)).getD (k / 8) 0 = 0 by simp only [List.getD, List.getElem?_replicate]; split <;> rfl]
    simp

/-- How many bits are set. -/
def pop (b : UInt8) : Nat := (List.range 8).countP fun j => b.toBitVec.getLsbD j
def usedL (l : List UInt8) : Nat := (l.map pop).sum
theorem pop_le (b : UInt8) : pop b ≤ 8 := by
  have := List.countP_le_length (p := fun j => b.toBitVec.getLsbD j) (l := List.range 8)
  simpa [pop] using this
theorem usedL_le (l : List UInt8) : usedL l ≤ 8 * l.length := by
  induction l with
  | nil => simp [usedL]
  | cons b l ih =>
    have := pop_le b
    simp only [usedL, List.map_cons, List.sum_cons, List.length_cons] at ih ⊢
    omega
theorem range_add (m n : Nat) : List.range (m + n) = List.range m ++ (List.range n).map (m + ·) := List.range_add
theorem usedL_eq (l : List UInt8) : usedL l = (List.range (8 * l.length)).countP (hasB l) := by
  induction l with
  | nil => simp [usedL]
  | cons b l ih =>
    rw [List.length_cons, show 8 * (l.length + 1) = 8 + 8 * l.length by omega, range_add, List.countP_append, List.countP_map]
    have h1 : usedL (b :: l) = pop b + usedL l := by simp [usedL]
    rw [h1, ih]
    have e1 : pop b = List.countP (hasB (b :: l)) (List.range 8) := by
      unfold pop
      refine List.countP_congr (fun j hj => ?_)
      have := List.mem_range.1 hj
      unfold hasB
      rw [show j / 8 = 0 by omega, show j % 8 = j by omega]
      simp
    have e2 : List.countP (hasB l) (List.range (8 * l.length)) = List.countP (hasB (b :: l) ∘ fun x => 8 + x) (List.range (8 * l.length)) := by
      refine List.countP_congr (fun j _ => ?_)
      simp only [Function.comp]
      unfold hasB
      rw [show (8 + j) / 8 = j / 8 + 1 by omega, show (8 + j) % 8 = j % 8 by omega]
      simp
    rw [e1, e2]
theorem countP_range_more (p : Nat → Bool) (n m : Nat) (h : n ≤ m) (hp : ∀ k, n ≤ k → p k = false) : (List.range m).countP p = (List.range n).countP p := by
  obtain ⟨d, rfl⟩ : ∃ d, m = n + d := ⟨m - n, by omega⟩
  rw [range_add, List.countP_append, List.countP_map]
  have : List.countP (p ∘ fun x => n + x) (List.range d) = 0 := by
    rw [List.countP_eq_zero]
    intro k _
    simp [hp (n + k) (by omega)]
  omega
theorem Cut.used {n : Nat} {l : List UInt8} (h : Cut n l) : usedL l = (List.range n).countP (hasB l) := by
  rw [usedL_eq]
  exact countP_range_more _ _ _ h.room h.2
theorem countP_run (p q : Nat → Bool) (n i many : Nat) (hn : i + many ≤ n) (hq : ∀ k, q k = (decide (i ≤ k ∧ k < i + many) || p k)) (hf : ∀ k, i ≤ k → k < i + many → p k = false) : (List.range n).countP q = (List.range n).countP p + many := by
  obtain ⟨d, rfl⟩ : ∃ d, n = i + (many + d) := ⟨n - i - many, by omega⟩
  rw [range_add i, List.countP_append, List.countP_append, List.countP_map, List.countP_map, range_add many, List.countP_append, List.countP_append, List.countP_map, List.countP_map]
  have h1 : List.countP q (List.range i) = List.countP p (List.range i) := List.countP_congr (fun k hk => by
    have := List.mem_range.1 hk
    rw [hq, decide_eq_false (by omega)]
    simp)
  have h2 : List.countP (q ∘ fun x => i + x) (List.range many) = many := by
    have : List.countP (q ∘ fun x => i + x) (List.range many) = (List.range many).length := by
      rw [List.countP_eq_length]
      intro k hk
      have := List.mem_range.1 hk
      simp [hq, this]
    rw [this, List.length_range]
  have h3 : List.countP (p ∘ fun x => i + x) (List.range many) = 0 := by
    rw [List.countP_eq_zero]
    intro k hk
    have := List.mem_range.1 hk
    simp [hf (i + k) (by omega) (by omega)]
  have h4 : List.countP ((q ∘ fun x => i + x) ∘ fun x => many + x) (List.range d) = List.countP ((p ∘ fun x => i + x) ∘ fun x => many + x) (List.range d) := List.countP_congr (fun k _ => by
    simp only [Function.comp]
    rw [hq, decide_eq_false (by omega)]
    simp)
  omega

/-- A run of so many from i on that are all there and not in use; the least one, or none. -/
def freeAt (f : Nat → Bool) (n : Nat) (many : Int) (i : Nat) : Prop := (i : Int) + many ≤ n ∧ ∀ k : Nat, i ≤ k → (k : Int) < i + many → f k = false
def IsRun (f : Nat → Bool) (n : Nat) (many : Int) (r : Int) : Prop :=
  (∃ i : Nat, r = i ∧ 1 ≤ many ∧ freeAt f n many i ∧ ∀ j, j < i → ¬ freeAt f n many j) ∨ (r = -1 ∧ (many < 1 ∨ ∀ i, ¬ freeAt f n many i))
theorem IsRun.one {f : Nat → Bool} {n : Nat} {many r s : Int} (h : IsRun f n many r) (h' : IsRun f n many s) : r = s := by
  rcases h with ⟨i, rfl, h1, h2, h3⟩ | ⟨rfl, h1⟩
  · rcases h' with ⟨j, rfl, g1, g2, g3⟩ | ⟨rfl, g1⟩
    · congr 1
      rcases Nat.lt_trichotomy i j with h | h | h
      · exact absurd h2 (g3 i h)
      · exact h
      · exact absurd g2 (h3 j h)
    · rcases g1 with g1 | g1
      · omega
      · exact absurd h2 (g1 i)
  · rcases h' with ⟨j, rfl, g1, g2, g3⟩ | ⟨rfl, g1⟩
    · rcases h1 with h1 | h1
      · omega
      · exact absurd g2 (h1 j)
    · rfl
theorem IsRun.congr {f g : Nat → Bool} {n : Nat} {many r : Int} (h : IsRun f n many r) (hfg : ∀ k, k < n → f k = g k) : IsRun g n many r := by
  have e : ∀ i, freeAt f n many i ↔ freeAt g n many i := fun i => ⟨fun ⟨a, b⟩ => ⟨a, fun k h1 h2 => by rw [← hfg k (by omega)]; exact b k h1 h2⟩, fun ⟨a, b⟩ => ⟨a, fun k h1 h2 => by rw [hfg k (by omega)]; exact b k h1 h2⟩⟩
  rcases h with ⟨i, h0, h1, h2, h3⟩ | ⟨h0, h1⟩
  · exact .inl ⟨i, h0, h1, (e i).1 h2, fun j hj hg => h3 j hj ((e j).2 hg)⟩
  · exact .inr ⟨h0, h1.imp id fun h i hg => h i ((e i).2 hg)⟩
theorem IsRun.range {f : Nat → Bool} {n : Nat} {many r : Int} (h : IsRun f n many r) : -1 ≤ r ∧ r ≤ n := by
  rcases h with ⟨i, rfl, h1, h2, h3⟩ | ⟨rfl, h1⟩
  · have := h2.1
    omega
  · omega

end Go.Proofs.Ytnhondkdkjehaaa
