/-
  filled: shards of one size, each in memory of its own.
-/
import Derived.Test.YtpbkabgjpieggaaCopy
namespace Go.Proofs.Ytpbkabgjpieggaa
open Go.RowKit

/-- A shard of q bytes: what is there, and bytes 0 behind. -/
def fillR (q : Nat) (r : List UInt8) : List UInt8 := r ++ List.replicate (q - r.length) 0
theorem fillR_length {q : Nat} {r : List UInt8} (h : r.length ≤ q) : (fillR q r).length = q := by simp [fillR]; omega
theorem fillR_self {q : Nat} {r : List UInt8} (h : r.length = q) : fillR q r = r := by simp [fillR, h]
theorem fill_patched {q : Nat} {r : List UInt8} (h : r.length ≤ q) : patched (List.replicate q 0) r 0 (min r.length q) = fillR q r := by
  rw [Nat.min_eq_left h]
  simp [patched, fillR]
/-- Rows of q bytes in blocks of their own, in a block of n places, all made since w. -/
structure FillS (w wr : World) (g n q : Nat) (B : Nat → Nat) (M : List (List UInt8)) : Prop where
  tab : Tab wr g n B (fun _ => q) M
  box : ∀ (i : Nat) (r : List UInt8), M[i]? = some r → Box wr (B i) 5 (bc r).toArray
  inj : ∀ i j, i < M.length → j < M.length → B i = B j → i = j
  len : ∀ r ∈ M, r.length = q
  lo : ∀ i, i < M.length → w.heap.size ≤ B i
  glo : w.heap.size ≤ g
  below : Below w.heap.size w wr
section
variable {w wr w' : World} {g n q : Nat} {B : Nat → Nat} {M : List (List UInt8)}
theorem Box.blk {b : Nat} {r : List UInt8} (h : Box w b 5 (bc r).toArray) (c : Nat) (hc : r.length ≤ c) : RowBlk w b c r :=
  ⟨hc, (bc r).toArray, h, by simp [bc_length], fun j u hu => by simp [bc, hu]⟩
theorem FillS.blk (h : FillS w wr g n q B M) : Blks wr B (fun _ => q) M := ⟨fun i r hr => (h.box i r hr).blk q (Nat.le_of_eq (h.len r (List.mem_of_getElem? hr))), h.inj⟩
theorem FillS.then (h : FillS w wr g n q B M) (hb : Below wr.heap.size wr w') : FillS w w' g n q B M :=
  ⟨h.tab.keep (hb.block _ h.tab.lt), fun i r hr => (hb.block _ (h.box i r hr).lt).trans (h.box i r hr), h.inj, h.len, h.lo, h.glo, h.below.trans (hb.mono h.below.size)⟩
theorem FillS.mtx (h : FillS w wr g n q B M) (hn : M.length = n) : Mtx wr (some ⟨g, 0, none⟩) n n M := by
  refine ⟨hn, Nat.le_refl _, fun _ => ⟨g, 0, rfl, h.tab.lt, fun i l hl => ⟨_, _, by rw [Nat.zero_add]; exact (h.tab.at hl).1, (h.blk.blk i l hl).lies⟩⟩⟩
theorem FillS.shd (h : FillS w wr g n q B M) (hn : M.length = n) : Shd wr (some ⟨g, 0, none⟩) n n (M.map some) := by
  refine ⟨by simpa using hn, Nat.le_refl _, fun _ => ⟨g, 0, rfl, h.tab.lt, fun i s hs => ?_⟩⟩
  obtain ⟨l, hl, rfl⟩ : ∃ l, M[i]? = some l ∧ some l = s := by
    simp only [List.getElem?_map] at hs
    cases hr : M[i]? with
    | none => rw [hr] at hs; cases hs
    | some x => rw [hr] at hs; exact ⟨x, rfl, by simpa using hs⟩
  exact ⟨_, by rw [Nat.zero_add]; exact (h.tab.at hl).1, _, _, rfl, (h.blk.blk i l hl).lies⟩
theorem FillS.made {w1 w2 w3 : World} {n : Nat} (hb : Below w1.heap.size w1 w2) (h : w3.ownsRow w2.heap.size 31 1 (.slice (some ⟨w2.heap.size, 0, none⟩) n n) n (madeCells (Value.slice none 0 0).cells (n * 1)).toList) (hg : w2.grownBy w3 none) (q : Nat) (B : Nat → Nat) : FillS w1 w3 w2.heap.size n q B [] := by
  rw [zero_rows] at h
  exact ⟨⟨List.replicate n (.slice none 0 0), box_own' h, by simp, by simp, fun i l hl => by simp at hl⟩, fun i r hr => by simp at hr, fun i j hi => by simp at hi, fun r hr => by simp at hr, fun i hi => by simp at hi, hb.size, hb.trans (((Below.refl w2.heap.size w2).grown hg (Nat.le_refl _) (fun k hk => by cases hk)).mono hb.size)⟩
theorem FillS.since {w0 : World} (h : FillS w wr g n q B M) (hb : Below w0.heap.size w0 w) : FillS w0 wr g n q B M :=
  ⟨h.tab, h.box, h.inj, h.len, fun i hi => Nat.le_trans hb.size (h.lo i hi), Nat.le_trans hb.size h.glo, hb.trans (h.below.mono hb.size)⟩
/-- A row is written anew. -/
theorem FillS.put {i : Nat} {row : List UInt8} (h : FillS w wr g n q B M) (hi : i < M.length) (hg : wr.grownBy w' (some (B i))) (hx : Box w' (B i) 5 (bc row).toArray) (hr : row.length = q) : FillS w w' g n q B (M.set i row) := by
  have hsep := h.tab.sep h.blk hi
  have hlo := h.lo i hi
  refine ⟨(h.tab.keep (hg.block g h.tab.lt (fun e => by injection e with e; exact hsep e.symm))).same (by simp) (fun j r s hr' hs => ?_), fun j r hj => ?_, fun a b ha hb => h.inj a b (by simpa using ha) (by simpa using hb), fun r hr' => ?_, fun j hj => h.lo j (by simpa using hj), h.glo, h.below.grown hg h.below.size (fun k hk => by injection hk with hk; omega)⟩
  · rw [h.len r (List.mem_of_getElem? hr')]
    rcases List.mem_or_eq_of_mem_set (List.mem_of_getElem? hs) with h1 | h1
    · exact (h.len s h1).symm
    · rw [h1, hr]
  · by_cases hk : i = j
    · subst hk
      rw [List.getElem?_set_self hi] at hj
      cases hj
      exact hx
    · rw [List.getElem?_set_ne hk] at hj
      have hjl := (List.getElem?_eq_some_iff.1 hj).1
      exact (hg.block (B j) (h.box j r hj).lt (fun e => by injection e with e; exact hk (h.inj i j hi hjl e.symm))).trans (h.box j r hj)
  · rcases List.mem_or_eq_of_mem_set hr' with h1 | h1
    · exact h.len r h1
    · rw [h1, hr]
/-- One row more. -/
theorem FillS.push {w4 w5 w6 : World} {k : Nat} {row : List UInt8} (h : FillS w wr g n q B M) (hk : M.length = k) (hlt : k < n) (hb4 : Below wr.heap.size wr w4) (hs4 : wr.heap.size < w4.heap.size) (hw5 : w5 = w4.setCell ⟨g, k, none⟩ (.slice (some ⟨wr.heap.size, 0, none⟩) q q)) (hg6 : w5.grownBy w6 (some wr.heap.size)) (hx6 : Box w6 wr.heap.size 5 (bc row).toArray) (hr : row.length = q) :
    FillS w w6 g n q (fun i => if i = k then wr.heap.size else B i) (M ++ [row]) := by
  obtain ⟨cur, c1, c2, c3, c4⟩ := h.tab
  have hgl := c1.lt
  have hsz5 : w5.heap.size = w4.heap.size := by rw [hw5]; simp
  have hkeep : ∀ j, j < wr.heap.size → j ≠ g → w6.heap[j]? = wr.heap[j]? := fun j hj hjg => by
    rw [hg6.block j (by omega) (fun e => by injection e with e; omega), hw5]
    rw [Below.heap_setCell w4 ⟨g, k, none⟩ _ j hjg]
    exact hb4.block j hj
  have hgt : Box w6 g 31 ((cur.set k (.slice (some ⟨wr.heap.size, 0, none⟩) q q)).toArray) := by
    have e4 : Box w4 g 31 cur.toArray := (hb4.block g hgl).trans c1
    have e5 : Box w5 g 31 (cur.toArray.setIfInBounds k (.slice (some ⟨wr.heap.size, 0, none⟩) q q)) := by rw [hw5]; exact e4.put k _
    rw [List.setIfInBounds_toArray] at e5
    exact (hg6.block g (by omega) (fun e => by injection e with e; omega)).trans e5
  refine ⟨⟨_, hgt, by simpa using c2, by simp; omega, fun i r hi => ?_⟩, fun i r hi => ?_, fun i j hi hj he => ?_, fun r hr' => ?_, fun i hi => ?_, h.glo, ?_⟩
  · rcases Nat.lt_or_ge i k with h1 | h1
    · rw [List.getElem?_append_left (by omega)] at hi
      rw [List.getElem?_set_ne (by omega)]
      simp only [if_neg (show i ≠ k by omega)]
      exact c4 i r hi
    · have hil := (List.getElem?_eq_some_iff.1 hi).1
      simp at hil
      obtain rfl : i = k := by omega
      rw [List.getElem?_append_right (by omega), hk, Nat.sub_self] at hi
      simp at hi
      subst hi
      rw [List.getElem?_set_self (by omega)]
      simp [hr]
  · rcases Nat.lt_or_ge i k with h1 | h1
    · rw [List.getElem?_append_left (by omega)] at hi
      simp only [if_neg (show i ≠ k by omega)]
      have hb := h.box i r hi
      exact (hkeep _ hb.lt (h.tab.sep h.blk (by omega))).trans hb
    · have hil := (List.getElem?_eq_some_iff.1 hi).1
      simp at hil
      obtain rfl : i = k := by omega
      rw [List.getElem?_append_right (by omega), hk, Nat.sub_self] at hi
      simp at hi
      subst hi
      simp only [if_true]
      exact hx6
  · simp at hi hj
    have hBlt : ∀ i, i < M.length → B i < wr.heap.size := fun i hi => (h.blk.blk i _ (List.getElem?_eq_getElem hi)).lt
    by_cases e1 : i = k
    · by_cases e2 : j = k
      · omega
      · rw [if_pos e1, if_neg e2] at he
        have := hBlt j (by omega)
        omega
    · by_cases e2 : j = k
      · rw [if_neg e1, if_pos e2] at he
        have := hBlt i (by omega)
        omega
      · rw [if_neg e1, if_neg e2] at he
        exact h.blk.inj i j (by omega) (by omega) he
  · rcases List.mem_append.1 hr' with h1 | h1
    · exact h.len r h1
    · simp at h1
      rw [h1]; exact hr
  · simp at hi
    by_cases e1 : i = k
    · rw [if_pos e1]
      exact h.below.size
    · rw [if_neg e1]
      exact h.lo i (by omega)
  · have b4 := h.below.trans (hb4.mono h.below.size)
    have b5 : Below w.heap.size w w5 := by rw [hw5]; exact b4.setCell (p := ⟨g, k, none⟩) h.glo _
    have hs := h.below.size
    exact b5.grown hg6 (by omega) (fun j hj => by injection hj with hj; omega)
end

/-- Such rows are handed back. -/
def GivesF (w : World) (n q : Nat) (M : List (List UInt8)) (e : Ending) (w' : World) : Prop := ∃ g B, e = .returned (.slice (some ⟨g, 0, none⟩) n n) ∧ FillS w w' g n q B M
set_option maxRecDepth 100000 in
set_option maxHeartbeats 2000000 in
theorem filled_says (w : World) (A : Option Addr) (n c : Nat) (M : List (List UInt8)) (hM : Mtx w A n c M) (q : Nat) (hq : ∀ r ∈ M, r.length ≤ q) (hn : n ≤ 2000) (hq2 : q ≤ 100000) :
    Calls Try.prog 24 #[.slice A n c, .int .i64 (q : Int)] w (GivesF w n q (M.map (fillR q))) := by
  have hl := hM.len
  obtain ⟨i0, hi0, hz0, hz1, hz2⟩ := info_parts Try.byteInfo
  obtain ⟨j0, hj0, jz0, jz1, jz2⟩ := info_parts rowInfo
  have HM := Lib.hid hM
  have HQ := Lib.hid hq
  clear hM hq
  go_enter Try.func24, Try.ntmps24
  go_wp2_with (at_make; refine wpList_make_full w rfl _ _ 22 rfl w.heap.size 31 j0 _ 1 Try.underlying22 hj0 jz0 jz1 _ _ _ _ n rfl rfl rfl rfl (by rw [jz2]; omega) (by unfold maxLen; omega) (Nat.le_refl _) ?_; intro w3 hown3 hg3)
  have H3 := Lib.hid (FillS.made (Below.refl _ w) hown3 hg3 q (fun _ => 0))
  generalize w.heap.size = g at H3
  clear hown3 hg3
  go_loopw [6, 12] (fun _ i wr => ∃ (k : Nat), k ≤ n ∧ i = .int .i64 (k : Int) ∧ Hid (∃ B, FillS w wr g n q B ((M.take k).map (fillR q)))) (fun _ i _ => n - (intOf i).toNat)
  case atStart => exact ⟨0, by omega, rfl, Lib.hid ⟨_, by simpa using H3.out⟩⟩
  case round =>
    obtain ⟨k, hk, rfl, H⟩ := hrel
    by_cases hlt : k < n
    · have l1 : (k : Int) < (n : Int) := by omega
      obtain ⟨r, hrk⟩ : ∃ r, M[k]? = some r := ⟨_, List.getElem?_eq_getElem (by omega)⟩
      obtain ⟨b', o', Ak, ck, rfl, hb', hck, hlk⟩ := HM.out.row hrk
      obtain ⟨B, HF⟩ := H.out
      have hrq := HQ.out r (List.mem_of_getElem? hrk)
      obtain ⟨nk, hnk⟩ : ∃ t, r.length = t := ⟨_, rfl⟩
      rw [hnk] at hck hlk
      have HLK := Lib.hid ((hlk.weak (N' := fun b => b < w.heap.size) (fun b hb _ => hb)).below HF.below)
      have hc1 : wr.cell? ⟨b', o' + k, none⟩ = some (.slice Ak nk ck) := (HF.below.cell (p := ⟨b', o' + k, none⟩) hb').trans hck
      have hbg : b' ≠ g := by have := HF.glo; omega
      have hbw : b' < wr.heap.size := Nat.lt_of_lt_of_le hb' HF.below.size
      have hgw := HF.tab.lt
      have HFF := Lib.hid HF
      have hDl : ((M.take k).map (fillR q)).length = k := by simp; omega
      have HD1 := Lib.hid (show (M.take (k + 1)).map (fillR q) = (M.take k).map (fillR q) ++ [fillR q r] from by rw [List.take_add_one, hrk]; simp)
      have HDL := Lib.hid hDl
      have HNK := Lib.hid hnk
      have HRQ := Lib.hid hrq
      clear HF H hrk hck hlk hDl hnk hrq
      go_upto_region 6 with (at_make; refine wpList_make_full wr rfl _ _ 31 rfl wr.heap.size 5 i0 _ 1 Try.underlying31 hi0 hz0 hz1 _ _ _ _ q rfl rfl rfl rfl (by rw [hz2]; omega) (by unfold maxLen; omega) (Nat.le_refl _) ?_; intro w4 hown4 hg4; rw [zero_made] at hown4; have hB4 := (Below.refl wr.heap.size wr).grown hg4 (Nat.le_refl _) (fun k hk => by cases hk); obtain ⟨cur, hcur, hcl, _⟩ := (HFF.out.then hB4).tab; have hv0 : w4.cell? ⟨g, k, none⟩ = some (cur[k]'(by omega)) := (by rw [hcur.cell]; first | done | simp); have hf0 := hcur.frozen k; have hc4 := (hB4.cell (p := ⟨b', o' + k, none⟩) hbw).trans hc1; have HX4 := Lib.hid (And.intro (box_own hown4) hB4); clear hown4 hg4 hB4)
      have hs4 : wr.heap.size < w4.heap.size := HX4.out.1.lt
      generalize hw5 : w4.setCell (⟨g, k, none⟩ : Addr) (Value.slice (some ⟨wr.heap.size, 0, none⟩) q q) = w5
      have hcg : w5.cell? ⟨g, k, none⟩ = some (.slice (some ⟨wr.heap.size, 0, none⟩) q q) := by rw [← hw5]; exact World.cell?_setCell_same _ _ _ hv0
      have hcr : w5.cell? ⟨b', o' + k, none⟩ = some (.slice Ak nk ck) := by rw [← hw5]; exact (World.cell?_setCell_other _ _ _ _ (fun e => by injection e with e; omega)).trans hc4
      have HX5 := Lib.hid (show Box w5.drew wr.heap.size 5 (bc (List.replicate q 0)).toArray ∧ Lies w5.drew (fun b => b < w.heap.size) Ak nk ck (bc r) ∧ w5.heap.size = w4.heap.size from by
        have hglo := HFF.out.glo
        subst hw5
        exact ⟨box_off HX4.out.1 (p := ⟨g, k, none⟩) (fun e => by have e' : wr.heap.size = g := e; omega) _, lies_set (HLK.out.below HX4.out.2) (p := ⟨g, k, none⟩) (fun h => by have h' : g < w.heap.size := h; omega) _, by simp⟩)
      clear hv0 hf0 hc4 hcur
      refine wp_region_held_drew (S := fun w' => w'.cell? ⟨g, k, none⟩ = some (.slice (some ⟨wr.heap.size, 0, none⟩) q q) ∧ w'.cell? ⟨b', o' + k, none⟩ = some (.slice Ak nk ck)) (by kernel_rfl) ⟨hcg, hcr⟩ (fun hHeld => ?_)
      refine take_run 0 20 (v := ?_) rfl rfl (by kernel_rfl) (by kernel_rfl) (by kernel_rfl) (fun _ _ _ h => h) (by rfl) ?_ (by assumption) ?_
      rotate_left
      · (intro wq hSw; obtain ⟨hS1, hS2⟩ := hSw; go_simp; first | done | with_reducible rfl)
      simp only [Act.put, List.setIfInBounds_toArray, List.set_cons_zero, List.set_cons_succ]
      refine take_run 1 21 (v := ?_) rfl rfl (by kernel_rfl) (by kernel_rfl) (by kernel_rfl) (fun _ _ _ h => h) (by rfl) ?_ (by assumption) ?_
      rotate_left
      · (intro wq hSw; obtain ⟨hS1, hS2⟩ := hSw; go_simp; first | done | with_reducible rfl)
      simp only [Act.put, List.setIfInBounds_toArray, List.set_cons_zero, List.set_cons_succ]
      refine take_run 2 22 (v := ?_) rfl rfl (by kernel_rfl) (by kernel_rfl) (by kernel_rfl) (fun _ _ _ h => h) (by rfl) ?_ (by assumption) ?_
      rotate_left
      · (intro wq hSw; obtain ⟨hS1, hS2⟩ := hSw; go_simp; first | done | with_reducible rfl)
      simp only [Act.put, List.setIfInBounds_toArray, List.set_cons_zero, List.set_cons_succ]
      refine take_run 3 23 (v := ?_) rfl rfl (by kernel_rfl) (by kernel_rfl) (by kernel_rfl) (fun _ _ _ h => h) (by rfl) ?_ (by assumption) ?_
      rotate_left
      · (intro wq hSw; obtain ⟨hS1, hS2⟩ := hSw; go_simp; first | done | with_reducible rfl)
      simp only [Act.put, List.setIfInBounds_toArray, List.set_cons_zero, List.set_cons_succ]
      refine take_run 4 24 (v := ?_) rfl rfl (by kernel_rfl) (by kernel_rfl) (by kernel_rfl) (fun _ _ _ h => h) (by rfl) ?_ (by assumption) ?_
      rotate_left
      · (intro wq hSw; obtain ⟨hS1, hS2⟩ := hSw; go_simp; first | done | with_reducible rfl)
      simp only [Act.put, List.setIfInBounds_toArray, List.set_cons_zero, List.set_cons_succ]
      refine take_run 5 25 (v := ?_) rfl rfl (by kernel_rfl) (by kernel_rfl) (by kernel_rfl) (fun _ _ _ h => h) (by rfl) ?_ (by assumption) ?_
      rotate_left
      · (intro wq hSw; obtain ⟨hS1, hS2⟩ := hSw; go_simp; first | done | with_reducible rfl)
      simp only [Act.put, List.setIfInBounds_toArray, List.set_cons_zero, List.set_cons_succ]
      refine take_run 6 26 (v := ?_) rfl rfl (by kernel_rfl) (by kernel_rfl) (by kernel_rfl) (fun _ _ _ h => h) (by rfl) ?_ (by assumption) ?_
      rotate_left
      · (intro wq hSw; obtain ⟨hS1, hS2⟩ := hSw; go_simp; first | done | with_reducible rfl)
      simp only [Act.put, List.setIfInBounds_toArray, List.set_cons_zero, List.set_cons_succ]
      refine take_run 7 27 (v := ?_) rfl rfl (by kernel_rfl) (by kernel_rfl) (by kernel_rfl) (fun _ _ _ h => h) (by rfl) ?_ (by assumption) ?_
      rotate_left
      · (intro wq hSw; obtain ⟨hS1, hS2⟩ := hSw; go_simp; first | done | with_reducible rfl)
      simp only [Act.put, List.setIfInBounds_toArray, List.set_cons_zero, List.set_cons_succ]
      refine wpAnyH_ready (rs := [8]) (by kernel_rfl) (by simp) ?_
      refine AllReadyH.cons rfl (fun K hK => ?_) AllReadyH.nil
      refine wp_copy_any _ _ rfl wr.heap.size 0 q q nk ck Ak rfl rfl (List.replicate q 0) HX5.out.1 _ r HX5.out.2.1 (by simp) ?_
      intro w6 hx6 hg6
      refine hK.out _ _ ?_ (fun _ => ?_)
      · have h5 := HX5.out.2.2
        exact ⟨(World.cell?_of_block (w := w5) (hg6.block g (by show g < w5.heap.size; omega) (fun e => by injection e with e; omega))).trans hcg, (World.cell?_of_block (w := w5) (hg6.block b' (by show b' < w5.heap.size; omega) (fun e => by injection e with e; omega))).trans hcr⟩
      rw [← HNK.out, fill_patched HRQ.out] at hx6
      have HX6 := Lib.hid (And.intro hx6 hg6)
      clear hx6 hg6
      clear hK K
      refine wpAnyH_done (by kernel_rfl) ?_ _
      go_wp2
      go_roundw
      case rel =>
        have hg6 := HX6.out.2
        exact ⟨k + 1, by omega, by go_num, Lib.hid ⟨_, by rw [HD1.out]; exact HFF.out.push HDL.out hlt HX4.out.2 hs4 hw5.symm ⟨hg6.os, hg6.tape, hg6.output, hg6.size, hg6.block⟩ HX6.out.1 (fillR_length HRQ.out)⟩⟩
      case measure => simp [intOf]; omega
    · obtain rfl : k = n := by omega
      have l1 : ¬ (k : Int) < (k : Int) := by omega
      obtain ⟨B, HF⟩ := H.out
      have HFF := Lib.hid (show FillS w wr g k q B (M.map (fillR q)) from by rw [← List.take_of_length_le (l := M) (i := k) (by omega)]; exact HF)
      clear HF H
      go_wp2
      go_ret
      exact ⟨g, B, rfl, HFF.out⟩
end Go.Proofs.Ytpbkabgjpieggaa
