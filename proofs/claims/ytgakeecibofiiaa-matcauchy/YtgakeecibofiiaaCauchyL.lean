/-
  Any rows of the one that changes nothing, with those of a Cauchy matrix behind it, may be turned back.
-/
import Derived.Test.YtgakeecibofiiaaBackN
import Derived.Test.YtgakeecibofiiaaJoin
namespace Go.Proofs.Ytgakeecibofiiaa
open Gf (mul inv sum lsum idm mm Eqm IsRank Inv)

theorem nodup_le : ∀ (l m : List Nat), l.Nodup → (∀ x ∈ l, x ∈ m) → l.length ≤ m.length
  | [], _, _, _ => Nat.zero_le _
  | x :: l, m, hn, h => by
    rw [List.nodup_cons] at hn
    have hx := h x (List.mem_cons_self ..)
    have h1 := nodup_le l (m.erase x) hn.2 (fun y hy => (List.mem_erase_of_ne (fun e => hn.1 (by rw [← (show y = x from e)]; exact hy))).2 (h y (List.mem_cons_of_mem _ hy)))
    rw [List.length_erase_of_mem hx] at h1
    have h2 : 0 < m.length := List.length_pos_of_mem hx
    rw [List.length_cons]
    omega
theorem filter_parts (q : Nat → Bool) : ∀ l : List Nat, (l.filter q).length + (l.filter (fun x => !q x)).length = l.length
  | [] => rfl
  | x :: l => by
    have ih := filter_parts q l
    by_cases h : q x = true
    · simp [h]
      omega
    · simp [h]
      omega
theorem lsum_filter (q : Nat → Bool) (f : Nat → UInt8) : ∀ l : List Nat, (∀ x ∈ l, q x = false → f x = 0) → lsum l f = lsum (l.filter q) f
  | [], _ => rfl
  | x :: l, h => by
    have ih := lsum_filter q f l (fun y hy => h y (List.mem_cons_of_mem _ hy))
    rw [Gf.lsum_cons, ih]
    by_cases hq : q x = true
    · rw [List.filter_cons_of_pos hq, Gf.lsum_cons]
    · rw [List.filter_cons_of_neg hq, h x (List.mem_cons_self ..) (by simpa using hq), Gf.zero_add]
/-- Row p of the two, one behind the other. -/
def rowP (cols p j : Nat) : UInt8 := if p < cols then oneF p j else inv (UInt8.ofNat p ^^^ UInt8.ofNat j)
theorem ofNat_inj {a b : Nat} (ha : a < 256) (hb : b < 256) (h : UInt8.ofNat a = UInt8.ofNat b) : a = b := by
  have := congrArg UInt8.toNat h
  rwa [Gf.ofNat_toNat' a ha, Gf.ofNat_toNat' b hb] at this
theorem map_nodup : ∀ {l : List Nat}, l.Nodup → (∀ x ∈ l, x < 256) → (l.map UInt8.ofNat).Nodup
  | [], _, _ => List.nodup_nil
  | x :: l, hn, h => by
    rw [List.nodup_cons] at hn
    rw [List.map_cons, List.nodup_cons]
    refine ⟨fun hm => ?_, map_nodup hn.2 (fun y hy => h y (List.mem_cons_of_mem _ hy))⟩
    obtain ⟨y, hy, he⟩ := List.mem_map.1 hm
    exact hn.1 ((ofNat_inj (h y (List.mem_cons_of_mem _ hy)) (h x (List.mem_cons_self ..)) he) ▸ hy)
theorem filter_nodup {l : List Nat} (h : l.Nodup) (q : Nat → Bool) : (l.filter q).Nodup := List.Pairwise.filter q h
/-- They lose nothing. -/
theorem picked_inj {cols N : Nat} {l : List Nat} (hnd : l.Nodup) (hlen : l.length = cols) (hlt : ∀ p ∈ l, p < N) (hN : N ≤ 256) (hc : cols ≤ N) (z : Nat → UInt8) (h : ∀ p ∈ l, sum cols (fun j => mul (rowP cols p j) (z j)) = 0) : ∀ j, j < cols → z j = 0 := by
  have hu : ∀ p, p ∈ l → p < cols → z p = 0 := fun p hp hpc => by
    have h1 := h p hp
    rw [Gf.sum_one hpc (fun k _ hk => by rw [rowP, if_pos hpc, oneF, if_neg (fun e => hk e.symm), Gf.zero_mul]), rowP, if_pos hpc, oneF, if_pos rfl, Gf.one_mul] at h1
    exact h1
  let js := (List.range cols).filter (fun j => !decide (j ∈ l))
  let ps := l.filter (fun p => !decide (p < cols))
  have hjs : ∀ j ∈ js, j < cols ∧ j ∉ l := fun j hj => by
    have := List.mem_filter.1 hj
    exact ⟨List.mem_range.1 this.1, by simpa using this.2⟩
  have hps : ∀ p ∈ ps, p ∈ l ∧ ¬ p < cols := fun p hp => by
    have := List.mem_filter.1 hp
    exact ⟨this.1, by simpa using this.2⟩
  have hl1 := filter_parts (fun j => decide (j ∈ l)) (List.range cols)
  have hl2 := filter_parts (fun p => decide (p < cols)) l
  rw [List.length_range] at hl1
  have e1 : ((List.range cols).filter (fun j => decide (j ∈ l))).length = (l.filter (fun p => decide (p < cols))).length := by
    refine Nat.le_antisymm (nodup_le _ _ (filter_nodup List.nodup_range _) (fun x hx => ?_)) (nodup_le _ _ (filter_nodup hnd _) (fun x hx => ?_))
    · have := List.mem_filter.1 hx
      exact List.mem_filter.2 ⟨by simpa using this.2, by simpa using this.1⟩
    · have := List.mem_filter.1 hx
      exact List.mem_filter.2 ⟨by simpa using this.2, by simpa using this.1⟩
  have hlen2 : ps.length = js.length := by
    show (l.filter (fun p => !decide (p < cols))).length = ((List.range cols).filter (fun j => !decide (j ∈ l))).length
    omega
  have hw := Gf.cauchy (js.map UInt8.ofNat) (ps.map UInt8.ofNat) (fun y => z y.toNat) (map_nodup (filter_nodup hnd _) (fun x hx => by have := hlt x (hps x hx).1; omega)) (map_nodup (filter_nodup List.nodup_range _) (fun x hx => by have := (hjs x hx).1; omega)) (by rw [List.length_map, List.length_map]; exact hlen2)
    (fun x hx y hy e => by
      obtain ⟨p, hp, rfl⟩ := List.mem_map.1 hx
      obtain ⟨j, hj, rfl⟩ := List.mem_map.1 hy
      have h1 := hps p hp
      have h2 := hjs j hj
      have h3 := hlt p h1.1
      have := ofNat_inj (by omega) (by omega) e
      omega)
    (fun x hx => by
      obtain ⟨p, hp, rfl⟩ := List.mem_map.1 hx
      have h1 := hps p hp
      have h2 := h p h1.1
      have h3 : sum cols (fun j => mul (rowP cols p j) (z j)) = lsum js (fun j => mul (rowP cols p j) (z j)) := lsum_filter _ _ _ (fun j hj hq => by
        have hjl : j ∈ l := by simpa using hq
        rw [hu j hjl (List.mem_range.1 hj), Gf.mul_zero])
      rw [h3] at h2
      rw [Gf.lsum_map, ← h2]
      refine Gf.lsum_congr (fun j hj => ?_)
      rw [Gf.ofNat_toNat' j (by have := (hjs j hj).1; omega), rowP, if_neg h1.2, Gf.mul_comm])
  intro j hj
  by_cases hjl : j ∈ l
  · exact hu j hjl hj
  · have hm : j ∈ js := List.mem_filter.2 ⟨List.mem_range.2 hj, by simpa using hjl⟩
    have h1 := hw (UInt8.ofNat j) (List.mem_map.2 ⟨j, hm, rfl⟩)
    have h2 : (UInt8.ofNat j).toNat = j := Gf.ofNat_toNat' j (by omega)
    simp only [h2] at h1
    exact h1
theorem getD_left {A B : List (List UInt8)} {p : Nat} (h : p < A.length) : (A ++ B).getD p [] = A.getD p [] := by simp [List.getD_eq_getElem?_getD, List.getElem?_append_left h]
theorem getD_right {A B : List (List UInt8)} {p : Nat} (h : A.length ≤ p) : (A ++ B).getD p [] = B.getD (p - A.length) [] := by simp [List.getD_eq_getElem?_getD, List.getElem?_append_right h]
/-- The two, one behind the other. -/
def allL (cols rows : Nat) : List (List UInt8) := matBy cols cols oneF ++ matBy rows cols (cauF cols)
theorem all_lev (cols rows : Nat) : Lev (cols + rows) cols (allL cols rows) := ⟨by rw [allL, List.length_append, matBy_length, matBy_length], fun r hr => by
  rcases List.mem_append.1 hr with h | h
  · exact (matBy_lev _ _ _).2 r h
  · exact (matBy_lev _ _ _).2 r h⟩
theorem all_at {cols rows p j : Nat} (hp : p < cols + rows) (hj : j < cols) : at2 (allL cols rows) p j = rowP cols p j := by
  unfold rowP
  by_cases h : p < cols
  · rw [if_pos h, ← matBy_at2 (n := cols) (L := cols) (F := oneF) h hj]
    unfold at2 allL
    rw [getD_left (by rw [matBy_length]; exact h)]
  · have h1 : at2 (allL cols rows) p j = at2 (matBy rows cols (cauF cols)) (p - cols) j := by
      unfold at2 allL
      rw [getD_right (by rw [matBy_length]; omega), matBy_length]
    rw [if_neg h, h1, matBy_at2 (by omega) hj, cauF, show p - cols + cols = p by omega]
/-- The rows that were picked. -/
def pickN (cols rows : Nat) (l : List Nat) : List (List UInt8) := pickL (allL cols rows) (l.map (fun (p : Nat) => (p : Int)))
theorem pick_at {cols rows : Nat} {l : List Nat} {i j : Nat} (hi : i < l.length) (hlt : ∀ p ∈ l, p < cols + rows) (hj : j < cols) : at2 (pickN cols rows l) i j = rowP cols (l.getD i 0) j := by
  have h1 : (pickN cols rows l).getD i [] = (allL cols rows).getD (l.getD i 0) [] := by
    simp [pickN, pickL, List.getD_eq_getElem?_getD, List.getElem?_eq_getElem hi]
  have h2 : l.getD i 0 < cols + rows := hlt _ (by rw [List.getD_eq_getElem?_getD, List.getElem?_eq_getElem hi]; exact List.getElem_mem hi)
  rw [← all_at h2 hj]
  unfold at2
  rw [h1]
theorem pick_lev {cols rows : Nat} {l : List Nat} (hlt : ∀ p ∈ l, p < cols + rows) : Lev l.length cols (pickN cols rows l) := ⟨by simp [pickN, pickL], fun r hr => by
  obtain ⟨x, hx, rfl⟩ := List.mem_map.1 hr
  obtain ⟨p, hp, rfl⟩ := List.mem_map.1 hx
  obtain ⟨s, _, h2, h3⟩ := (all_lev cols rows).get (hlt p hp)
  rw [Int.toNat_natCast, h2, h3]⟩
theorem pick_full {cols rows : Nat} {l : List Nat} (hnd : l.Nodup) (hlen : l.length = cols) (hlt : ∀ p ∈ l, p < cols + rows) (hc : 1 ≤ cols ∧ cols ≤ 8) (hr : rows ≤ 8) : (RightM (pickN cols rows l) ∧ colsOf (pickN cols rows l) = (pickN cols rows l).length) ∧ rankL (pickN cols rows l) = cols := by
  have hlev := pick_lev hlt
  rw [hlen] at hlev
  have hR := lev_right hlev (by omega) (by omega)
  refine ⟨⟨hR.1, by rw [hR.2, hlev.1]⟩, ?_⟩
  have h2 := rank_right hR.1
  rw [hR.2, hlev.1] at h2
  refine h2.unique (Gf.inv_of_inj (fun z hz => picked_inj hnd hlen hlt (by omega) (by omega) z (fun p hp => ?_))).1
  obtain ⟨i, hi⟩ := List.getElem?_of_mem hp
  have hil := (List.getElem?_eq_some_iff.1 hi).1
  have he : l.getD i 0 = p := by simp [List.getD_eq_getElem?_getD, hi]
  rw [← hz i (by omega)]
  exact Gf.sum_congr (fun j hj => by rw [pick_at hil hlt hj, he])
end Go.Proofs.Ytgakeecibofiiaa
