/-
  What was encoded is decoded as it was, whichever shards are missing.
-/
import Derived.Test.YtpbkabgjpieggaaRightS
namespace Go.Proofs.Ytpbkabgjpieggaa
open Gf (mul inv sum lsum idm mm Eqm IsRank Inv)

section
variable {k m q : Nat} {X : List (List UInt8)} {S : List (Option (List UInt8))}
theorem enc_first (hX : X.length = k) {i : Nat} (hi : i < k) : (encL k m X)[i]? = X[i]? := by rw [encL, List.getElem?_append_left (by omega)]
theorem enc_more (hX : X.length = k) (u : Nat) : (encL k m X)[k + u]? = (moreL k m X)[u]? := by rw [encL, List.getElem?_append_right (by omega), hX, Nat.add_sub_cancel_left]
theorem data_row (hX : Lev k q X) (hS : ∀ (i : Nat) (r : List UInt8), S[i]? = some (some r) → (encL k m X)[i]? = some r) (hl : S.length = k + m) {j : Nat} (hj : j < k) : ((bytesOf (S.take k)).map (fillR q)).getD j [] = if (S.getD j none).isNone then List.replicate q 0 else X.getD j [] := by
  obtain ⟨s, hs⟩ : ∃ s, S[j]? = some s := ⟨_, List.getElem?_eq_getElem (by omega)⟩
  have h1 : ((bytesOf (S.take k)).map (fillR q)).getD j [] = fillR q (s.getD []) := by
    rw [List.getD_eq_getElem?_getD, List.getElem?_map, bytesOf, List.getElem?_map, List.getElem?_take_of_lt hj, hs]
    rfl
  rw [h1, List.getD_eq_getElem?_getD, hs]
  cases s with
  | none => simp [fillR]
  | some r =>
    have h2 := hS j r hs
    rw [enc_first hX.1 hj] at h2
    have h3 : r.length = q := hX.at h2
    rw [List.getD_eq_getElem?_getD, h2]
    simp [fillR_self h3]
theorem data_lev (hX : Lev k q X) (hS : ∀ (i : Nat) (r : List UInt8), S[i]? = some (some r) → (encL k m X)[i]? = some r) (hl : S.length = k + m) : Lev k q ((bytesOf (S.take k)).map (fillR q)) := by
  refine ⟨by rw [List.length_map, bytesOf_length, List.length_take]; omega, fun r hr => ?_⟩
  obtain ⟨j, hj⟩ := List.getElem?_of_mem hr
  have hjl := (List.getElem?_eq_some_iff.1 hj).1
  rw [List.length_map, bytesOf_length, List.length_take] at hjl
  have h1 := data_row hX hS hl (show j < k by omega)
  rw [List.getD_eq_getElem?_getD, hj] at h1
  have h2 : r = if (S.getD j none).isNone then List.replicate q 0 else X.getD j [] := h1
  rw [h2]
  split
  · simp
  · obtain ⟨x, _, h3, h4⟩ := hX.get (show j < k by omega)
    rw [h3, h4]
theorem dec_is (hX : Lev k q X) (hk : 1 ≤ k) (hs : k + m ≤ 255) (hl : S.length = k + m) (hS : ∀ (i : Nat) (r : List UInt8), S[i]? = some (some r) → (encL k m X)[i]? = some r) (hen : (gapsL k S).length ≤ (hereL k m S).length) : decL k m q S = X := by
  have hD := data_lev (m := m) hX hS hl
  have hgq : ∀ j, j ∈ gapsL k S → (S.getD j none).isNone = true := fun j hj => by
    rw [← gaps_filter, List.mem_filter] at hj
    exact hj.2
  refine mendTo_is hD.1 hX.1 gaps_lt (fun t ht => ?_) (fun j hj hn => ?_)
  · have hUl := used_len hen
    have hgl := gaps_le (k := k) (S := S)
    have hhl := here_le (k := k) (m := m) (S := S)
    have hrow : ∀ (i : Nat) (r : List UInt8), S[i]? = some (some r) → r.length = q := fun i r hr => (enc_lev (m := m) hX hk).at (hS i r hr)
    have hV := rowsU_lev hl hrow (used_mem (k := k) (m := m) (S := S))
    rw [hUl] at hV
    have hVX : ∀ i, i < (gapsL k S).length → ∀ c, c < q → at2 (rowsU k S (usedU k m S)) i c = at2 (appL (matBy m k (cauF k)) X) ((usedU k m S).getD i 0) c := fun i hi c _ => by
      obtain ⟨u, hu⟩ : ∃ u, (usedU k m S)[i]? = some u := ⟨_, List.getElem?_eq_getElem (by omega)⟩
      have hum := List.mem_of_getElem? hu
      obtain ⟨r, hr⟩ := here_some hl (used_mem u hum)
      have h2 := hS _ r hr
      rw [enc_more hX.1, moreL, if_neg (by omega)] at h2
      have h3 : (usedU k m S).getD i 0 = u := by rw [List.getD_eq_getElem?_getD, hu]; rfl
      unfold at2
      rw [rowsU_at hu hr, h3, List.getD_eq_getElem?_getD (l := appL (matBy m k (cauF k)) X), h2]
      rfl
    have hfa := found_at (U := usedU k m S) (m := m) (fun i => (S.getD i none).isNone) used_lt used_nodup (by omega) (by omega) (by omega) gaps_filter hUl hX hD hV (fun j hj c hc => by
      unfold at2
      rw [data_row hX hS hl hj]
      split
      · rw [List.getD_eq_getElem?_getD, List.getElem?_replicate, if_pos hc]
        rfl
      · rfl) hVX
    have hA : Lev (gapsL k S).length q (appL (usedL k m (usedU k m S)) ((bytesOf (S.take k)).map (fillR q))) := app_lev (by rw [(used_lev (k := k) used_lt).1]; exact hUl) hD hk
    have hF := found_lev (k := k) (m := m) (U := usedU k m S) (by omega) (lackTo_lev hA hV _ (Nat.le_refl _))
    obtain ⟨f, _, hf2, hfl⟩ := hF.get ht
    have hck := gaps_lt _ (getD_mem ht)
    obtain ⟨x, _, hx2, hxl⟩ := hX.get hck
    refine row_ext (L := q) (by rw [hf2]; exact hfl) (by rw [hx2]; exact hxl) (fun c hc => ?_)
    exact hfa t ht c hc
  · rw [data_row hX hS hl hj, if_neg]
    intro e
    apply hn
    rw [← gaps_filter, List.mem_filter]
    exact ⟨List.mem_range.2 hj, e⟩
theorem right_enc (hX : Lev k q X) (hk : 1 ≤ k) : rightB k m ((encL k m X).map some) = true := by
  have hE := enc_lev (m := m) hX hk
  have h1 : bytesOf (((encL k m X).map some).take k) = X := by
    rw [← List.map_take, bytesOf_some, encL, List.take_left' hX.1]
  have h2 : ((encL k m X).map some).any (·.isNone) = false := by simp
  have h3 : levelB X = true := by
    unfold levelB
    rw [List.all_eq_true]
    intro r hr
    cases X with
    | nil => cases hr
    | cons a t => simp [hX.2 r hr, hX.2 a (List.mem_cons_self ..)]
  rw [rightB, h1, h2, h3, bytesOf_some, decide_eq_true (by rw [List.length_map]; exact hE.1)]
  simp
end
end Go.Proofs.Ytpbkabgjpieggaa
