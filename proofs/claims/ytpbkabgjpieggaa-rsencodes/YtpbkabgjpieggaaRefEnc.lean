/-
  The reference's Encode tells the same.
-/
import Derived.Test.YtpbkabgjpieggaaOneS
namespace Go.Proofs.Ytpbkabgjpieggaa
open Go.RowKit

/-- Values of rows that are not nil, in blocks that fit N. -/
def ValsAt (w : World) (N : Nat → Prop) (vals : List Value) (M : List (List UInt8)) : Prop := vals.length = M.length ∧ ∀ (i : Nat) (l : List UInt8), M[i]? = some l → ∃ ad ci, vals[i]? = some (Value.slice (some ad) l.length ci) ∧ Lies w N (some ad) l.length ci (bc l)
section
variable {w w' : World} {N : Nat → Prop} {vals news : List Value} {M X : List (List UInt8)} {base : Nat} {v : Value}
theorem ValsAt.append (h : ValsAt w N vals M) (k : ValsAt w N news X) : ValsAt w N (vals ++ news) (M ++ X) := by
  refine ⟨by simp [h.1, k.1], fun i l hl => ?_⟩
  rcases Nat.lt_or_ge i M.length with h1 | h1
  · rw [List.getElem?_append_left h1] at hl
    rw [List.getElem?_append_left (by rw [h.1]; exact h1)]
    exact h.2 i l hl
  · rw [List.getElem?_append_right h1] at hl
    rw [List.getElem?_append_right (by rw [h.1]; exact h1), h.1]
    exact k.2 _ l hl
theorem ValsAt.one (h : ValsAt w N vals M) : ∀ u ∈ vals, u.oneCell' = true := fun u hu => by
  obtain ⟨i, hi⟩ := List.getElem?_of_mem hu
  have hil := (List.getElem?_eq_some_iff.1 hi).1
  obtain ⟨ad, ci, h1, _⟩ := h.2 i _ (List.getElem?_eq_getElem (by rw [← h.1]; exact hil))
  rw [hi] at h1
  cases h1
  rfl
theorem ValsAt.weak {N' : Nat → Prop} (h : ValsAt w N vals M) (hN : ∀ b, b < w.heap.size → N b → N' b) : ValsAt w N' vals M := ⟨h.1, fun i l hl => by
  obtain ⟨ad, ci, h1, h2⟩ := h.2 i l hl
  exact ⟨ad, ci, h1, h2.weak hN⟩⟩
theorem ValsAt.below (h : ValsAt w N vals M) (hb : Below w.heap.size w w') : ValsAt w' N vals M := ⟨h.1, fun i l hl => by
  obtain ⟨ad, ci, h1, h2⟩ := h.2 i l hl
  exact ⟨ad, ci, h1, h2.below hb⟩⟩
theorem ValsAt.old (h : ValsAt w (fun b => b < base) vals M) (hb : Below base w w') : ValsAt w' (fun b => b < base) vals M := ⟨h.1, fun i l hl => by
  obtain ⟨ad, ci, h1, h2⟩ := h.2 i l hl
  exact ⟨ad, ci, h1, lies_below h2 hb (fun _ h => h)⟩⟩
theorem own_shd (h : w.ownsRow base 31 1 v vals.length vals) (hv : ValsAt w N vals M) : ∃ A c, v = .slice A M.length c ∧ Shd w A M.length c (M.map some) := by
  have hlt := World.ownsRow.lt h
  have h2 := hv.1
  rcases h.2 with ⟨hv', hn⟩ | ⟨g, cap, cur, hv', _, _, hnc, _⟩
  · have hl : M = [] := List.eq_nil_of_length_eq_zero (by omega)
    subst hl
    exact ⟨none, 0, hv', rfl, Nat.le_refl _, fun h => absurd h (Nat.lt_irrefl _)⟩
  · refine ⟨some ⟨g, 0, none⟩, cap, by rw [hv', h2], by simp, by omega, fun _ => ⟨g, 0, rfl, (hlt g (by rw [hv']; rfl)).2, fun i s hs => ?_⟩⟩
    obtain ⟨l, hl, rfl⟩ : ∃ l, M[i]? = some l ∧ some l = s := by
      simp only [List.getElem?_map] at hs
      cases hr : M[i]? with
      | none => rw [hr] at hs; cases hs
      | some x => rw [hr] at hs; exact ⟨x, rfl, by simpa using hs⟩
    obtain ⟨ad, ci, h4, h5⟩ := hv.2 i l hl
    subst hv'
    have := World.ownsRow.cells h (g := g) rfl i _ h4
    rw [Addr.add_mid] at this
    exact ⟨_, this, ad, ci, rfl, h5.weak (fun _ _ _ => trivial)⟩
theorem shd_vals {A : Option Addr} {n c : Nat} (h : Shd w A n c (M.map some)) (h0 : 0 < n) : ∃ b off vals, A = some ⟨b, off, none⟩ ∧ b < w.heap.size ∧ ValsAt w (fun b => b < w.heap.size) vals M ∧ ∀ (j : Nat) (u : Value), vals[j]? = some u → w.cell? ⟨b, off + j, none⟩ = some u := by
  obtain ⟨b, off, zs, h1, h2, h3, h4, h5⟩ := h.vals h0
  have hl : M.length = n := by have := h.len; simpa using this
  refine ⟨b, off, zs.map encS, h1, h2, ⟨by simp [h3, hl], fun i l hl' => ?_⟩, fun j u hu => ?_⟩
  · have hi := (List.getElem?_eq_some_iff.1 hl').1
    obtain ⟨h6, _⟩ := h5 i (some l) (by simp [hl'])
    obtain ⟨ad, ci, h7, h8⟩ := h6
    refine ⟨ad, ci, ?_, h8.weak (fun _ hb _ => hb)⟩
    rw [List.getElem?_map, List.getElem?_eq_getElem (by omega)]
    rw [getElem!_pos zs i (by omega)] at h7
    simp [h7]
  · have hj := (List.getElem?_eq_some_iff.1 hu).1
    rw [List.length_map] at hj
    have h6 := h4 j hj
    rw [getElem!_pos zs j hj] at h6
    rw [List.getElem?_map, List.getElem?_eq_getElem hj] at hu
    cases hu
    exact h6
end
theorem bld_vals {w : World} {base : Nat} {v : Value} {M : List (List UInt8)} (h : Bld w base v M) (h0 : 0 < M.length) (hr : ∀ r ∈ M, 1 ≤ r.length) : ∃ g c vals, v = .slice (some ⟨g, 0, none⟩) M.length c ∧ ValsAt w (Nb w) vals M ∧ ∀ (j : Nat) (u : Value), vals[j]? = some u → w.cell? ((⟨g, 0, none⟩ : Addr).add j) = some u := by
  obtain ⟨vals, h1, h2, h3⟩ := h
  rcases h1.2 with ⟨_, hn⟩ | ⟨g, cap, cur, hv, _⟩
  · omega
  · refine ⟨g, cap, vals, by rw [hv, h2], ⟨h2, fun i l hl => ?_⟩, fun j u hu => World.ownsRow.cells h1 (g := g) (by rw [hv]; rfl) j u hu⟩
    obtain ⟨Ai, ci, h4, h5⟩ := h3 i l hl
    obtain ⟨ad, rfl, _⟩ := h5.2.2 (hr l (List.mem_of_getElem? hl))
    exact ⟨ad, ci, h4, h5⟩
theorem own_block {w : World} {base : Nat} {v : Value} {vals : List Value} (h : w.ownsRow base 31 1 v vals.length vals) (h0 : 0 < vals.length) : ∃ g cur, v.ownBlock = some g ∧ w.heap[g]? = some (.cells cur 31 (0, 0)) := by
  rcases h.2 with ⟨_, hn⟩ | ⟨g, cap, cur, hv, _, hh, _⟩
  · omega
  · exact ⟨g, cur, by rw [hv]; rfl, hh⟩
/-- What the reference makes. -/
def GivesR (w : World) (M : List (List UInt8)) (e : Ending) (w' : World) : Prop := ∃ A n c, e = .returned (.slice A n c) ∧ Shd w' A n c (M.map some) ∧ Below w.heap.size w w'
theorem cau_same (m k : Nat) : cauL m k = matBy m k (cauF k) := rfl
theorem lev_zero {m : Nat} {M : List (List UInt8)} (h : Lev m 0 M) : M = List.replicate m [] := by
  apply List.ext_getElem?
  intro i
  rcases Nat.lt_or_ge i m with hi | hi
  · obtain ⟨r, h1, _, h3⟩ := h.get hi
    rw [h1, List.getElem?_replicate, if_pos hi, List.eq_nil_of_length_eq_zero h3]
  · rw [List.getElem?_eq_none (by rw [h.1]; exact hi), List.getElem?_eq_none (by simpa using hi)]
set_option maxRecDepth 100000 in
set_option maxHeartbeats 4000000 in
theorem renc_says (w : World) (A : Option Addr) (k c m q : Nat) (X : List (List UInt8)) (hS : Shd w A k c (X.map some)) (hX : Lev k q X) (hk : 1 ≤ k) (hs : k + m ≤ 255) (hq : q ≤ 300) :
    Calls Try.prog 13 #[.slice A k c, .int .i64 (m : Int)] w (GivesR w (encL k m X)) := by
  obtain ⟨j0, hj0, jz0, jz1, jz2⟩ := info_parts rowInfo
  obtain ⟨b, off, vals, hA, hb, hv, hc⟩ := shd_vals hS (by omega)
  obtain ⟨x0, hx0, _, hx0l⟩ := hX.get (show 0 < k by omega)
  obtain ⟨b', o', A0, c0, hA', _, hc0, _⟩ := hS.mtx.row (i := 0) (l := x0) (by rw [bytesOf_some]; exact hx0)
  rw [hx0l, Nat.add_zero] at hc0
  rw [hA] at hA'
  cases hA'
  have hb1 : Below w.heap.size w (w.alloc (.cells #[] 31)) := (Below.refl _ w).alloc (Nat.le_refl _) _
  have hvl := hv.1
  rw [hX.1] at hvl
  have HO := Lib.hid (show (w.alloc (.cells #[] 31)).ownsRow w.heap.size 31 1 (.slice (some ⟨w.heap.size, 0, none⟩) 0 0) 0 [] from World.ownsRow_made w #[] 0 (Nat.le_refl _) (Nat.zero_le _) rfl)
  have HB := Lib.hid hb1
  have HCE := Lib.hid (show ∀ (j : Nat) (u : Value), vals[j]? = some u → (w.alloc (.cells #[] 31)).cell? ((⟨b, off, none⟩ : Addr).add j) = some u from fun j u hu => by rw [Addr.add_mid]; exact (hb1.cell (p := ⟨b, off + j, none⟩) hb).trans (hc j u hu))
  have HV := Lib.hid hv
  have HX := Lib.hid hX
  have HSH := Lib.hid hS
  subst hA
  clear hS hv hc hX hx0 hx0l hb1
  by_cases hm : m = 0
  · subst hm
    have F := Lib.hid (show encL k 0 X = X from by rw [encL, moreL, if_pos rfl, List.append_nil])
    rw [F.out]
    go_enter Try.func13, Try.ntmps13
    go_wp2_with (at_builtin; refine wpList_append_own _ rfl _ _ 22 rfl w.heap.size 31 j0 (.slice none 0 0) 1 24 Try.underlying22 hj0 jz0 jz1 jz2 rfl (by decide) _ 0 [] rfl HO.out ⟨b, off, none⟩ k c vals rfl (by omega) HCE.out HV.out.one (by unfold maxLen; omega) (by omega) (by simp) ?_; intro v9 w9 ho9 hg9 _; have HO9 := Lib.hid (And.intro ho9 hg9); clear ho9 hg9)
    have hB9 := HB.out.trans ((Below.refl w.heap.size (w.alloc (.cells #[] 31))).grown HO9.out.2 (by simp) (fun k hk => by cases hk; exact Nat.le_refl _))
    have ho := HO9.out.1
    rw [List.nil_append, Nat.zero_add, ← hvl] at ho
    obtain ⟨A9, c9, hv9, hS9⟩ := own_shd ho (HV.out.old hB9)
    have HR := Lib.hid (And.intro hS9 hB9)
    subst hv9
    clear ho hS9 hB9
    go_wp2
    go_ret
    exact ⟨_, _, _, rfl, HR.out.1, HR.out.2⟩
  · have hm' : ((m : Int) == 0) = false := by simp; omega
    go_enter Try.func13, Try.ntmps13
    go_upto_region 2 with (at_builtin; refine wpList_append_own _ rfl _ _ 22 rfl w.heap.size 31 j0 (.slice none 0 0) 1 24 Try.underlying22 hj0 jz0 jz1 jz2 rfl (by decide) _ 0 [] rfl HO.out ⟨b, off, none⟩ k c vals rfl (by omega) HCE.out HV.out.one (by unfold maxLen; omega) (by omega) (by simp) ?_; intro v9 w9 ho9 hg9 _; have HO9 := Lib.hid (And.intro ho9 hg9); clear ho9 hg9)
    have hB9 := HB.out.trans ((Below.refl w.heap.size (w.alloc (.cells #[] 31))).grown HO9.out.2 (by simp) (fun k hk => by cases hk; exact Nat.le_refl _))
    have ho := HO9.out.1
    rw [List.nil_append, Nat.zero_add, ← hvl] at ho
    have HV9 := Lib.hid (HV.out.old hB9)
    have HO1 := Lib.hid (And.intro ho hB9)
    have hc9 : w9.cell? ⟨b, off, none⟩ = some (.slice A0 q c0) := (hB9.cell (p := ⟨b, off, none⟩) hb).trans hc0
    have hk0 : 0 < k := by omega
    have hk0' : (0 : Int) < (k : Int) := by omega
    clear ho hB9 HO9
    by_cases hq0 : q = 0
    · subst hq0
      have HM := Lib.hid (show moreL k m X = List.replicate m [] from lev_zero (more_lev HX.out hk))
      go_wp2_with fail
      go_loopw [5, 6] (fun ov i wr => ∃ j : Nat, j ≤ m ∧ i = .int .i64 (j : Int) ∧ Hid (∃ vs, wr.ownsRow w.heap.size 31 1 ov vs.length vs ∧ ValsAt wr (fun b => b < w.heap.size) vs (X ++ List.replicate j []) ∧ Below w.heap.size w wr)) (fun _ i _ => m - (intOf i).toNat)
      case atStart => exact ⟨0, by omega, rfl, Lib.hid ⟨vals, HO1.out.1, by simpa using HV9.out, HO1.out.2⟩⟩
      case round =>
        obtain ⟨j, hj, rfl, H⟩ := hrel
        obtain ⟨vs, h1, h2, h3⟩ := H.out
        by_cases hlt : j < m
        · have l1 : (j : Int) < (m : Int) := by omega
          have hvs : vs.length ≤ 1000 := by rw [h2.1, List.length_append, List.length_replicate, HX.out.1]; omega
          have hbt : Below wr.heap.size wr ((wr.alloc (.cells #[] 5)).alloc (.cells #[.slice (some ⟨wr.heap.size, 0, none⟩) 0 0] 31)) := ((Below.refl _ wr).alloc (Nat.le_refl _) _).alloc (by simp) _
          have HOW := Lib.hid (show ((wr.alloc (.cells #[] 5)).alloc (.cells #[.slice (some ⟨wr.heap.size, 0, none⟩) 0 0] 31)).ownsRow w.heap.size 31 1 u5 vs.length vs from World.ownsRow.kept h1 (grown_of_below hbt none) (by cases hv : u5.ownBlock <;> simp))
          have HVW := Lib.hid (h2.old (hbt.mono h3.size))
          have HBT := Lib.hid (h3.trans (hbt.mono h3.size))
          have HCN := Lib.hid (show ∀ (j : Nat) (u : Value), [Value.slice (some ⟨wr.heap.size, 0, none⟩) 0 0][j]? = some u → ((wr.alloc (.cells #[] 5)).alloc (.cells #[.slice (some ⟨wr.heap.size, 0, none⟩) 0 0] 31)).cell? ((⟨wr.heap.size + 1, 0, none⟩ : Addr).add j) = some u from fun j u hu => by
            have h5 := cell_one_new (wr.alloc (.cells #[] 5)) (.slice (some ⟨wr.heap.size, 0, none⟩) 0 0) 31 j u hu
            simpa using h5)
          have HBS := Lib.hid (show w.heap.size ≤ ((wr.alloc (.cells #[] 5)).alloc (.cells #[.slice (some ⟨wr.heap.size, 0, none⟩) 0 0] 31)).heap.size from HBT.out.size)
          clear hbt h1 h2 h3 H
          go_wp2_with (at_builtin; refine wpList_append_own _ rfl _ _ 22 rfl w.heap.size 31 j0 (.slice none 0 0) 1 24 Try.underlying22 hj0 jz0 jz1 jz2 rfl (by decide) u5 vs.length vs rfl HOW.out ⟨wr.heap.size + 1, 0, none⟩ 1 1 [.slice (some ⟨wr.heap.size, 0, none⟩) 0 0] rfl rfl HCN.out (by simp [Value.oneCell']) (by unfold maxLen; omega) (by omega) HBS.out ?_; intro v8 w8 ho8 hg8 _; have HO8 := Lib.hid (And.intro ho8 hg8); clear ho8 hg8)
          go_roundw
          case rel =>
            have hB8 : Below w.heap.size ((wr.alloc (.cells #[] 5)).alloc (.cells #[.slice (some ⟨wr.heap.size, 0, none⟩) 0 0] 31)) w8 := (Below.refl _ _).grown HO8.out.2 HBS.out (fun y hy => (World.ownsRow.lt HOW.out y hy).1)
            refine ⟨j + 1, by omega, by go_num, Lib.hid ⟨vs ++ [.slice (some ⟨wr.heap.size, 0, none⟩) 0 0], ?_, ?_, HBT.out.trans hB8⟩⟩
            · have := HO8.out.1
              rwa [show vs.length + 1 = (vs ++ [Value.slice (some ⟨wr.heap.size, 0, none⟩) 0 0]).length from by simp] at this
            · rw [List.replicate_succ', ← List.append_assoc]
              refine (HVW.out.old hB8).append ⟨rfl, fun i l hl => ?_⟩
              rcases i with _ | i
              · cases hl
                exact ⟨_, 0, rfl, rfl, Nat.le_refl _, fun h => absurd h (Nat.lt_irrefl _)⟩
              · simp at hl
          case measure => simp [intOf]; omega
        · obtain rfl : j = m := by omega
          have l1 : ¬ (j : Int) < (j : Int) := by omega
          obtain ⟨A9, c9, hv9, hS9⟩ := own_shd h1 h2
          generalize (X ++ List.replicate j []).length = nl at hv9 hS9
          have HR := Lib.hid (And.intro hS9 h3)
          have HEE := Lib.hid (show encL k j X = X ++ List.replicate j [] from by rw [encL, HM.out])
          subst hv9
          clear hS9 h1 h2 h3 H
          go_wp2
          go_ret
          exact ⟨_, _, _, rfl, by rw [HEE.out]; exact HR.out.1, HR.out.2⟩
    · have hq0' : ¬ (q : Int) = 0 := by omega
      have HE := Lib.hid (show encL k m X = X ++ mulL (cauL m k) X from by rw [encL, moreL, if_neg hm, cau_same, app_mul (matBy_length _ _ _) HX.out hk])
      have hml : Lev m q (mulL (cauL m k) X) := by rw [cau_same, ← app_mul (matBy_length _ _ _) HX.out hk]; exact app_lev (matBy_length _ _ _) HX.out hk
      have HML := Lib.hid hml
      have HCL := Lib.hid (show (cauL m k).length = m ∧ ∀ r ∈ cauL m k, r.length = k from by rw [cau_same]; exact matBy_lev m k _)
      have hvp : 0 < vals.length := by omega
      clear hml
      go_wp2_with (first
        | (go_at_call 28; refine (rcauchy_says _ m k (by omega) (by omega) (by omega)).mono ?_; rintro e w10 ⟨v10, rfl, hB10, hb10⟩; obtain ⟨A10, c10, hv10, hM10⟩ := hB10.mtx; rw [HCL.out.1] at hv10 hM10; subst hv10; have HM10 := Lib.hid (And.intro hM10 hb10); clear hM10 hB10 hb10)
        | (go_at_call 27; refine (rmulM_says w10 A10 m c10 _ HM10.out.1 (some ⟨b, off, none⟩) k c X (by have h5 := (HSH.out.below (HO1.out.2.trans (HM10.out.2.mono HO1.out.2.size))).mtx; rwa [bytesOf_some] at h5) (by omega) (by omega) q hq HCL.out.2 HX.out.2).mono ?_; rintro e w11 ⟨v11, rfl, hB11, hb11⟩; obtain ⟨g11, c11, vals2, hv11, hva, hce⟩ := bld_vals hB11 (by rw [HML.out.1]; omega) (fun r hr => by rw [HML.out.2 r hr]; omega); rw [HML.out.1] at hv11; subst hv11; have HW11 := Lib.hid (And.intro hva (And.intro hce (HM10.out.2.trans (hb11.mono HM10.out.2.size)))); clear hB11 hb11 hva hce)
        | (at_builtin; refine wpList_append_own w11 rfl _ _ 22 rfl w.heap.size 31 j0 (.slice none 0 0) 1 24 Try.underlying22 hj0 jz0 jz1 jz2 rfl (by decide) v9 vals.length vals rfl (World.ownsRow.kept HO1.out.1 (grown_of_below HW11.out.2.2 none) (by cases hv : v9.ownBlock <;> simp)) ⟨g11, 0, none⟩ m c11 vals2 rfl (by rw [HW11.out.1.1, HML.out.1]; omega) HW11.out.2.1 HW11.out.1.one (by unfold maxLen; omega) (by omega) (Nat.le_trans HO1.out.2.size HW11.out.2.2.size) ?_; intro v12 w12 ho12 hg12 _; have HO12 := Lib.hid (And.intro ho12 hg12); clear ho12 hg12))
      go_ret
      have hB12 : Below w.heap.size w11 w12 := (Below.refl _ _).grown HO12.out.2 (Nat.le_trans HO1.out.2.size HW11.out.2.2.size) (fun y hy => (World.ownsRow.lt HO1.out.1 y hy).1)
      have hBW := (HO1.out.2.trans (HW11.out.2.2.mono HO1.out.2.size)).trans hB12
      obtain ⟨g9, cur9, hg9, hh9⟩ := own_block HO1.out.1 hvp
      have hh11 : w11.heap[g9]? = some (.cells cur9 31 (0, 0)) := (HW11.out.2.2.block g9 (Array.getElem?_eq_some_iff.1 hh9).1).trans hh9
      have hV2 : ValsAt w12 (fun _ => True) vals2 (mulL (cauL m k) X) := ⟨HW11.out.1.1, fun i l hl => by
        obtain ⟨ad, ci, h4, h5⟩ := HW11.out.1.2 i l hl
        have hg12 := HO12.out.2
        rw [hg9] at hg12
        exact ⟨ad, ci, h4, (h5.nb_grown hg12 hh11 (by decide)).weak (fun _ _ _ => trivial)⟩⟩
      have hV1 : ValsAt w12 (fun _ => True) vals X := ((HV9.out.old (HW11.out.2.2.mono HO1.out.2.size)).old hB12).weak (fun _ _ _ => trivial)
      have ho := HO12.out.1
      rw [show vals.length + m = (vals ++ vals2).length from by rw [List.length_append, HW11.out.1.1, HML.out.1]] at ho
      obtain ⟨A12, c12, hv12, hS12⟩ := own_shd ho (hV1.append hV2)
      refine ⟨A12, _, c12, by rw [← hv12]; rfl, ?_, hBW⟩
      rw [HE.out]
      exact hS12
end Go.Proofs.Ytpbkabgjpieggaa
