/-
  What a hash holds: the words that its contracts are stated in, and the plain mathematics of taking in bytes part by part.
-/
import Derived.Test.YtjdepjanijambaaDoorMix
import Derived.Test.YtjdepjanijambaaDoorMem
namespace Go.Proofs.YtjdepjanijambaaDoor
open Go.RowKit

/-- The cells of a hash: made, the state, the block, how many bytes were taken in. -/
def hcells (s : S8) (B : Nat → Nat) (n : Nat) : List Value := .bool true :: (s8s s ++ (u8s B 64 ++ [.int .u64 (n : Int)]))
theorem s8s_length (s : S8) : (s8s s).length = 8 := rfl
theorem hcells_length (s : S8) (B : Nat → Nat) (n : Nat) : (hcells s B n).length = 74 := by simp [hcells, s8s_length, u8s_length]
theorem hcells_n (s : S8) (B : Nat → Nat) (n : Nat) : (hcells s B n)[73]? = some (.int .u64 (n : Int)) := by
  have : hcells s B n = (Value.bool true :: (s8s s ++ u8s B 64)) ++ [.int .u64 (n : Int)] := by simp [hcells]
  rw [this, List.getElem?_append_right (by simp [s8s_length, u8s_length])]
  simp [s8s_length, u8s_length]
theorem hcells_B (s : S8) (B : Nat → Nat) (n i : Nat) (h : i < 64) : (hcells s B n)[9 + i]? = some (.int .u8 (B i : Int)) := by
  rw [show 9 + i = (8 + i) + 1 by omega]
  simp only [hcells, List.getElem?_cons_succ]
  rw [List.getElem?_append_right (by rw [s8s_length]; omega), s8s_length, show 8 + i - 8 = i by omega, List.getElem?_append_left (by rw [u8s_length]; exact h)]
  simp [u8s, h]
theorem hcells_s (s : S8) (B : Nat → Nat) (n i : Nat) (v : Value) (h : (s8s s)[i]? = some v) : (hcells s B n)[1 + i]? = some v := by
  have hi : i < 8 := by
    have := (List.getElem?_eq_some_iff.1 h).1
    simpa [s8s_length] using this
  rw [show 1 + i = i + 1 by omega]
  simp only [hcells, List.getElem?_cons_succ]
  rw [List.getElem?_append_left (by rw [s8s_length]; exact hi), h]
theorem hcells_one (s : S8) (B : Nat → Nat) (n : Nat) : (hcells s B n).toArray.all (·.oneCell') = true := all_oneCell_toArray (by
  intro v hv
  simp only [hcells, List.mem_cons, List.mem_append, List.not_mem_nil, or_false] at hv
  rcases hv with rfl | hv | hv | rfl
  · rfl
  · exact (Array.all_eq_true_iff_forall_mem.1 (s8s_one s)) v (by simpa using hv)
  · exact (Array.all_eq_true_iff_forall_mem.1 (u8s_one B 64)) v (by simpa using hv)
  · rfl)

/-- Bytes m laid over B from o on. -/
def over (B : Nat → Nat) (o : Nat) (m : List UInt8) (i : Nat) : Nat := if o ≤ i ∧ i < o + m.length then (m.getD (i - o) 0).toNat else B i

theorem hcells_put (s : S8) (B : Nat → Nat) (n m : Nat) : (hcells s B n).toArray.setIfInBounds 73 (.int .u64 (m : Int)) = (hcells s B m).toArray := by
  apply Array.ext_getElem?
  intro i
  rw [Array.getElem?_setIfInBounds]
  by_cases h : 73 = i
  · subst h
    rw [if_pos rfl, if_pos (by rw [List.size_toArray, hcells_length]; omega), List.getElem?_toArray, hcells_n]
  · rw [if_neg h]
    simp only [List.getElem?_toArray]
    by_cases hi : i < 73
    · have e : ∀ k : Nat, (hcells s B k)[i]? = (Value.bool true :: (s8s s ++ u8s B 64))[i]? := by
        intro k
        have : hcells s B k = (Value.bool true :: (s8s s ++ u8s B 64)) ++ [.int .u64 (k : Int)] := by simp [hcells]
        rw [this, List.getElem?_append_left (by simp [s8s_length, u8s_length]; omega)]
      rw [e, e]
    · rw [List.getElem?_eq_none (by rw [hcells_length]; omega), List.getElem?_eq_none (by rw [hcells_length]; omega)]
theorem hcells_state (s s' : S8) (B : Nat → Nat) (n : Nat) : (hcells s B n).take 1 ++ s8s s' ++ (hcells s B n).drop 9 = hcells s' B n := rfl
theorem hcells_copy (s : S8) (B : Nat → Nat) (n o : Nat) (m : List UInt8) (h : o + m.length ≤ 64) : (hcells s B n).take (9 + o) ++ (bc m ++ (hcells s B n).drop (9 + o + (bc m).length)) = hcells s (over B o m) n := by
  have hL := hcells_length s B n
  have hb := bc_length m
  apply List.ext_getElem?
  intro i
  by_cases h1 : i < 9 + o
  · rw [List.getElem?_append_left (by rw [List.length_take, hL]; omega), List.getElem?_take, if_pos h1]
    by_cases h9 : i < 9
    · rcases Nat.eq_zero_or_pos i with rfl | hp
      · rfl
      · obtain ⟨j, rfl⟩ : ∃ j, i = 1 + j := ⟨i - 1, by omega⟩
        obtain ⟨v, hv⟩ : ∃ v, (s8s s)[j]? = some v := ⟨_, List.getElem?_eq_getElem (by rw [s8s_length]; omega)⟩
        rw [hcells_s s B n j v hv, hcells_s s _ n j v hv]
    · obtain ⟨j, rfl⟩ : ∃ j, i = 9 + j := ⟨i - 9, by omega⟩
      rw [hcells_B s B n j (by omega), hcells_B s _ n j (by omega), over, if_neg (by omega)]
  · have ht : ((hcells s B n).take (9 + o)).length = 9 + o := by rw [List.length_take, hL]; omega
    rw [List.getElem?_append_right (by rw [ht]; omega), ht]
    by_cases h2 : i < 9 + o + m.length
    · rw [List.getElem?_append_left (by rw [hb]; omega)]
      obtain ⟨j, rfl⟩ : ∃ j, i = 9 + j := ⟨i - 9, by omega⟩
      rw [hcells_B s _ n j (by omega), over, if_pos (by omega)]
      have hj : j - o < m.length := by omega
      simp only [bc, List.getElem?_map, show 9 + j - (9 + o) = j - o by omega, List.getD, List.getElem?_eq_getElem hj]
      rfl
    · rw [List.getElem?_append_right (by rw [hb]; omega), hb, List.getElem?_drop, show 9 + o + m.length + (i - (9 + o) - m.length) = i by omega]
      by_cases h3 : i < 73
      · obtain ⟨j, rfl⟩ : ∃ j, i = 9 + j := ⟨i - 9, by omega⟩
        rw [hcells_B s B n j (by omega), hcells_B s _ n j (by omega), over, if_neg (by omega)]
      · by_cases h4 : i = 73
        · subst h4
          rw [hcells_n, hcells_n]
        · rw [List.getElem?_eq_none (by rw [hL]; omega), List.getElem?_eq_none (by rw [hcells_length]; omega)]

/-- Byte i of block k of bytes. -/
def blockF (l : List UInt8) (k i : Nat) : Nat := (l.getD (64 * k + i) 0).toNat
/-- The state behind the first k blocks. -/
def stateN (l : List UInt8) : Nat → S8
  | 0 => First
  | k + 1 => mixN (stateN l k) (blockF l k)

theorem word4_congr {B B' : Nat → Nat} (h : ∀ i, i < 64 → B i = B' i) (t : Nat) (ht : t < 16) : word4 B t = word4 B' t := by
  unfold word4
  rw [h _ (by omega), h _ (by omega), h _ (by omega), h _ (by omega)]
theorem wordsN_congr {B B' : Nat → Nat} (h : ∀ i, i < 64 → B i = B' i) : ∀ n, wordsN B n = wordsN B' n
  | 0 => rfl
  | n + 1 => by
    simp only [wordsN]
    rw [wordsN_congr h n]
    by_cases hn : n < 16
    · rw [if_pos hn, if_pos hn, word4_congr h n hn]
    · rw [if_neg hn, if_neg hn]
theorem mixN_congr {B B' : Nat → Nat} (h : ∀ i, i < 64 → B i = B' i) (s : S8) : mixN s B = mixN s B' := by
  unfold mixN
  rw [wordsN_congr h 64]
theorem getD_left (l m : List UInt8) (i : Nat) (h : i < l.length) : (l ++ m).getD i 0 = l.getD i 0 := by
  simp [List.getD, List.getElem?_append, h]
theorem getD_right (l m : List UInt8) (i : Nat) (h : l.length ≤ i) : (l ++ m).getD i 0 = m.getD (i - l.length) 0 := by
  simp only [List.getD]
  rw [List.getElem?_append_right h]
theorem stateN_append (l m : List UInt8) : ∀ k, 64 * k ≤ l.length → stateN (l ++ m) k = stateN l k
  | 0, _ => rfl
  | k + 1, h => by
    simp only [stateN]
    rw [stateN_append l m k (by omega)]
    refine mixN_congr (fun i hi => ?_) _
    unfold blockF
    rw [getD_left l m _ (by omega)]

/-- Block g is a hash that has taken in the bytes l. -/
def Hsh (w : World) (g : Nat) (l : List UInt8) : Prop :=
  ∃ B, Box w g 49 (hcells (stateN l (l.length / 64)) B l.length).toArray ∧ ∀ i, i < l.length % 64 → B i = (l.getD (64 * (l.length / 64) + i) 0).toNat

theorem over_fits {l m : List UInt8} {B : Nat → Nat} (hB : ∀ i, i < l.length % 64 → B i = (l.getD (64 * (l.length / 64) + i) 0).toNat) (i : Nat) (hi : i < l.length % 64 + m.length) :
    over B (l.length % 64) m i = ((l ++ m).getD (64 * (l.length / 64) + i) 0).toNat := by
  unfold over
  by_cases h : i < l.length % 64
  · rw [if_neg (by omega), hB i h, getD_left l m _ (by omega)]
  · rw [if_pos (by omega), getD_right l m _ (by omega)]
    congr 2
    omega
/-- Behind bytes that leave the block open. -/
theorem hsh_open {w : World} {g : Nat} {l m : List UInt8} {B : Nat → Nat} (hB : ∀ i, i < l.length % 64 → B i = (l.getD (64 * (l.length / 64) + i) 0).toNat) (hm : l.length % 64 + m.length < 64)
    (hb : Box w g 49 (hcells (stateN l (l.length / 64)) (over B (l.length % 64) m) (l.length + m.length)).toArray) : Hsh w g (l ++ m) := by
  have hq : (l ++ m).length / 64 = l.length / 64 := by rw [List.length_append]; omega
  have hr : (l ++ m).length % 64 = l.length % 64 + m.length := by rw [List.length_append]; omega
  refine ⟨over B (l.length % 64) m, ?_, fun i hi => ?_⟩
  · rw [hq, stateN_append l m _ (by omega), List.length_append]
    exact hb
  · rw [hq]
    exact over_fits hB i (by omega)
/-- Behind bytes that fill the block, once it is mixed in. -/
theorem hsh_full {w : World} {g : Nat} {l m : List UInt8} {B : Nat → Nat} (hB : ∀ i, i < l.length % 64 → B i = (l.getD (64 * (l.length / 64) + i) 0).toNat) (hm : l.length % 64 + m.length = 64)
    (hb : Box w g 49 (hcells (mixN (stateN l (l.length / 64)) (over B (l.length % 64) m)) (over B (l.length % 64) m) (l.length + m.length)).toArray) : Hsh w g (l ++ m) := by
  have hq : (l ++ m).length / 64 = l.length / 64 + 1 := by rw [List.length_append]; omega
  have hr : (l ++ m).length % 64 = 0 := by rw [List.length_append]; omega
  refine ⟨over B (l.length % 64) m, ?_, fun i hi => ?_⟩
  · rw [hq, List.length_append]
    simp only [stateN]
    have e : mixN (stateN l (l.length / 64)) (over B (l.length % 64) m) = mixN (stateN l (l.length / 64)) (blockF (l ++ m) (l.length / 64)) := mixN_congr (fun i hi => over_fits hB i (by omega)) _
    rw [stateN_append l m _ (by omega), ← e]
    exact hb
  · omega

end Go.Proofs.YtjdepjanijambaaDoor
