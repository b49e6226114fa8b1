/-
  Missing shards, mended: they come to what they were.
-/
import Derived.Test.YtpbkabgjpieggaaMendL
namespace Go.Proofs.Ytpbkabgjpieggaa
open Gf (mul inv sum lsum idm mm Eqm IsRank Inv)

/-- The first t rows of L, each with a row of V added. -/
def lackTo (L V : List (List UInt8)) : Nat → List (List UInt8)
  | 0 => L
  | t + 1 => (lackTo L V t).set t (Gf.padd (L.getD t []) (V.getD t []))
section
variable {L V : List (List UInt8)} {g q : Nat}
theorem lackTo_length (L V : List (List UInt8)) : ∀ t, (lackTo L V t).length = L.length
  | 0 => rfl
  | t + 1 => by rw [lackTo, List.length_set, lackTo_length L V t]
theorem lackTo_get (L V : List (List UInt8)) : ∀ t j, t ≤ j → (lackTo L V t)[j]? = L[j]?
  | 0, _, _ => rfl
  | t + 1, j, h => by rw [lackTo, List.getElem?_set_ne (by omega), lackTo_get L V t j (by omega)]
theorem lackTo_done (L V : List (List UInt8)) : ∀ t j, j < t → j < L.length → (lackTo L V t)[j]? = some (Gf.padd (L.getD j []) (V.getD j []))
  | 0, _, h, _ => by omega
  | t + 1, j, h, hl => by
    rw [lackTo]
    by_cases e : t = j
    · subst e
      rw [List.getElem?_set_self (by rw [lackTo_length]; exact hl)]
    · rw [List.getElem?_set_ne e, lackTo_done L V t j (by omega) hl]
theorem lackTo_lev (hL : Lev g q L) (hV : Lev g q V) : ∀ t, t ≤ g → Lev g q (lackTo L V t)
  | 0, _ => hL
  | t + 1, h => by
    rw [lackTo]
    refine (lackTo_lev hL hV t (by omega)).set t ?_
    obtain ⟨r, _, h2, h3⟩ := hL.get (show t < g by omega)
    obtain ⟨s, _, h5, h6⟩ := hV.get (show t < g by omega)
    rw [Gf.padd_length, h2, h5, h3, h6, Nat.max_self]
theorem lack_at (hL : L.length = g) {i : Nat} (hi : i < g) (c : Nat) : at2 (lackTo L V g) i c = at2 L i c ^^^ at2 V i c := by
  have h1 := lackTo_done L V g i hi (by omega)
  unfold at2
  rw [List.getD_eq_getElem?_getD (l := lackTo L V g), h1]
  exact Gf.padd_get _ _ _
end
/-- Rows of D at the places G are put anew. -/
def mendTo (D F : List (List UInt8)) (G : List Nat) : Nat → List (List UInt8)
  | 0 => D
  | t + 1 => (mendTo D F G t).set (G.getD t 0) (F.getD t [])
section
variable {D F X : List (List UInt8)} {G : List Nat} {k q : Nat}
theorem mendTo_length (D F : List (List UInt8)) (G : List Nat) : ∀ t, (mendTo D F G t).length = D.length
  | 0 => rfl
  | t + 1 => by rw [mendTo, List.length_set, mendTo_length D F G t]
theorem mendTo_row (hlen : D.length = k) (hG : ∀ c ∈ G, c < k) (hF : ∀ t, t < G.length → F.getD t [] = X.getD (G.getD t 0) []) (hout : ∀ j, j < k → j ∉ G → D.getD j [] = X.getD j []) : ∀ t, t ≤ G.length → ∀ j, j < k → (j ∈ G.take t ∨ j ∉ G) → (mendTo D F G t).getD j [] = X.getD j []
  | 0, _, j, hj, h => by
    rcases h with h | h
    · simp at h
    · exact hout j hj h
  | t + 1, ht, j, hj, h => by
    have hgt : G.getD t 0 = G[t]'(by omega) := by rw [List.getD_eq_getElem?_getD, List.getElem?_eq_getElem (by omega)]; rfl
    rw [mendTo]
    by_cases e : G.getD t 0 = j
    · rw [e, List.getD_eq_getElem?_getD, List.getElem?_set_self (by rw [mendTo_length]; omega), ← e]
      exact hF t (by omega)
    · rw [List.getD_eq_getElem?_getD, List.getElem?_set_ne e, ← List.getD_eq_getElem?_getD]
      refine mendTo_row hlen hG hF hout t (by omega) j hj ?_
      rcases h with h | h
      · rw [List.take_add_one, List.getElem?_eq_getElem (by omega)] at h
        rcases List.mem_append.1 h with h2 | h2
        · exact .inl h2
        · simp at h2
          exact absurd (by rw [hgt, h2]) e
      · exact .inr h
theorem mendTo_is (hlen : D.length = k) (hX : X.length = k) (hG : ∀ c ∈ G, c < k) (hF : ∀ t, t < G.length → F.getD t [] = X.getD (G.getD t 0) []) (hout : ∀ j, j < k → j ∉ G → D.getD j [] = X.getD j []) : mendTo D F G G.length = X := by
  apply List.ext_getElem?
  intro j
  rcases Nat.lt_or_ge j k with hj | hj
  · have h1 := mendTo_row hlen hG hF hout G.length (Nat.le_refl _) j hj (by rw [List.take_length]; exact Classical.em _)
    have hl := mendTo_length D F G G.length
    rw [List.getD_eq_getElem?_getD, List.getD_eq_getElem?_getD, List.getElem?_eq_getElem (by omega), List.getElem?_eq_getElem (by omega)] at h1
    rw [List.getElem?_eq_getElem (by omega), List.getElem?_eq_getElem (by omega)]
    exact congrArg some h1
  · rw [List.getElem?_eq_none (by rw [mendTo_length]; omega), List.getElem?_eq_none (by omega)]
end
section
variable {k m q : Nat} {U : List Nat}
/-- What is found. -/
def foundL (k m : Nat) (U G : List Nat) (LK : List (List UInt8)) : List (List UInt8) := appL (backL (partL k m U G) G.length) LK
theorem found_at (qf : Nat → Bool) (hU : ∀ u ∈ U, u < m) (hnd : U.Nodup) (hk : 1 ≤ k ∧ k ≤ 255) (hs : k + m ≤ 256) (h1 : 1 ≤ U.length ∧ U.length ≤ 255) {G : List Nat} (hGe : (List.range k).filter qf = G) (hl : U.length = G.length) {X D V : List (List UInt8)} (hX : Lev k q X) (hD : Lev k q D) (hV : Lev G.length q V)
    (hDX : ∀ j, j < k → ∀ c, c < q → at2 D j c = if qf j then 0 else at2 X j c) (hVX : ∀ i, i < G.length → ∀ c, c < q → at2 V i c = at2 (appL (matBy m k (cauF k)) X) (U.getD i 0) c) :
    ∀ t, t < G.length → ∀ c, c < q → at2 (foundL k m U G (lackTo (appL (usedL k m U) D) V G.length)) t c = at2 X (G.getD t 0) c := by
  have hG : ∀ c ∈ G, c < k := fun c hc => by rw [← hGe, List.mem_filter] at hc; exact List.mem_range.1 hc.1
  have hfull := part_full (U := U) (m := m) qf hU hnd hk hs h1 (by rw [hGe]; exact hl)
  rw [hGe] at hfull
  have hlev := part_lev (m := m) hU hk h1 hG hl
  have hd : (sweepTo (besideL (partL k m U G) G.length G.length) G.length).2 = G.length := by
    have h2 := square_rank hfull.1
    rw [hlev.1] at h2
    rw [h2, hfull.2]
  have hI := back_inv hlev hd
  have hBL := back_lev (partL k m U G) G.length
  have hul := used_lev (k := k) hU
  have hA : Lev G.length q (appL (usedL k m U) D) := app_lev (by rw [hul.1]; exact hl) hD hk.1
  have hLK := lackTo_lev hA hV G.length (Nat.le_refl _)
  have hlk : ∀ i, i < G.length → ∀ c, c < q → at2 (lackTo (appL (usedL k m U) D) V G.length) i c = mm G.length (at2 (partL k m U G)) (fun t c => at2 X (G.getD t 0) c) i c := fun i hi c hc => by
    have hiU := hU _ (getD_mem (show i < U.length by omega))
    rw [lack_at hA.1 hi, app_at (by rw [hul.1]; omega), hD.1, hVX i hi c hc, app_at (by rw [matBy_length]; exact hiU), hX.1]
    unfold mm
    rw [← sum_add, ← hGe]
    have e1 : sum k (fun j => mul (at2 (usedL k m U) i j) (at2 D j c) ^^^ mul (at2 (matBy m k (cauF k)) (U.getD i 0) j) (at2 X j c)) = sum k (fun j => mul (rowP k (k + U.getD i 0) j) (if qf j then at2 X j c else 0)) := by
      refine Gf.sum_congr (fun j hj => ?_)
      rw [used_at hU (by omega) hj, matBy_at2 hiU hj, hDX j hj c hc, cauF]
      have e2 : rowP k (k + U.getD i 0) j = inv (UInt8.ofNat (U.getD i 0 + k) ^^^ UInt8.ofNat j) := by rw [rowP, if_neg (by omega), Nat.add_comm]
      rw [← e2, ← Gf.mul_add]
      congr 1
      by_cases hq : qf j = true
      · rw [if_pos hq, if_pos hq, Gf.zero_add]
      · rw [if_neg hq, if_neg hq, UInt8.xor_self]
    rw [e1, sum_gaps qf k _ (fun j _ hj => by rw [if_neg (by simp [hj]), Gf.mul_zero])]
    refine Gf.sum_congr (fun t ht => ?_)
    rw [hGe] at ht ⊢
    have hq : qf (G.getD t 0) = true := by
      have := getD_mem ht
      rw [← hGe, List.mem_filter] at this
      rw [← hGe]
      exact this.2
    rw [if_pos hq, part_at hU hk h1 hG hl hi ht]
  intro t ht c hc
  rw [foundL, app_at (by rw [hBL.1]; exact ht), hLK.1]
  have e3 : mm G.length (at2 (backL (partL k m U G) G.length)) (at2 (lackTo (appL (usedL k m U) D) V G.length)) t c = mm G.length (at2 (backL (partL k m U G) G.length)) (mm G.length (at2 (partL k m U G)) (fun t c => at2 X (G.getD t 0) c)) t c := Gf.sum_congr (fun j hj => by rw [hlk j hj c hc])
  rw [e3, ← Gf.mm_assoc]
  have e4 : mm G.length (mm G.length (at2 (backL (partL k m U G) G.length)) (at2 (partL k m U G))) (fun t c => at2 X (G.getD t 0) c) t c = mm G.length idm (fun t c => at2 X (G.getD t 0) c) t c := Gf.sum_congr (fun j hj => by rw [hI.1 t ht j hj])
  rw [e4, Gf.id_mm _ _ _ _ ht]
theorem found_lev {G : List Nat} {LK : List (List UInt8)} (hg : 1 ≤ G.length) (h : Lev G.length q LK) : Lev G.length q (foundL k m U G LK) := app_lev (back_lev _ _).1 h hg
end
end Go.Proofs.Ytpbkabgjpieggaa
