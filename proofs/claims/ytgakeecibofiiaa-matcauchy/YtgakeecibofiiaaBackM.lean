/-
  Back of package mat.
-/
import Derived.Test.YtgakeecibofiiaaConcat
import Derived.Test.YtgakeecibofiiaaRankM
namespace Go.Proofs.Ytgakeecibofiiaa
open Go.RowKit Go.Shelf

/-- The matrix with the one that changes nothing beside it. -/
def besideL (M : List (List UInt8)) (n k : Nat) : List (List UInt8) := (List.range k).map (fun i => M.getD i [] ++ byRule n (oneF i))
theorem beside_length (M : List (List UInt8)) (n k : Nat) : (besideL M n k).length = k := by simp [besideL]
theorem beside_succ (M : List (List UInt8)) (n k : Nat) : besideL M n (k + 1) = besideL M n k ++ [M.getD k [] ++ byRule n (oneF k)] := by simp [besideL, List.range_succ]
theorem beside_lev {M : List (List UInt8)} {n : Nat} (h : Lev n n M) : Lev n (n + n) (besideL M n n) := ⟨beside_length _ _ _, fun r hr => by
  obtain ⟨i, hi, rfl⟩ := List.mem_map.1 hr
  obtain ⟨x, _, h2, h3⟩ := h.get (List.mem_range.1 hi)
  rw [h2, List.length_append, h3, byRule_length]⟩
/-- What turns it back, if all columns lead. -/
def backL (M : List (List UInt8)) (n : Nat) : List (List UInt8) := matBy n n (fun i j => at2 (sweepTo (besideL M n n) n).1 i (n + j))

set_option maxRecDepth 100000 in
set_option maxHeartbeats 1000000 in
theorem back1_says (W : World) (h10 h7 g n L c : Nat) (E : List (List UInt8)) (cap : Nat) (hc10 : W.cell? ⟨h10, 0, none⟩ = some (.slice (some ⟨g, 0, none⟩) n c)) (hc7 : W.cell? ⟨h7, 0, none⟩ = some (.int .i64 (n : Int))) (hl10 : h10 < W.heap.size) (hl7 : h7 < W.heap.size) (hR : RowsN W g cap (fun b => b ≠ g) E) (hE : Lev n L E) (hL : n + n ≤ L) (hL2 : L ≤ 1000) (i j : Nat) (hi : i < n) (hj : j < n) :
    Calls Try.prog 49 #[.int .i64 (i : Int), .int .i64 (j : Int), .pointer (some ⟨h10, 0, none⟩), .pointer (some ⟨h7, 0, none⟩)] W fun e w' => e = .returned (.int .u8 ((at2 E i (n + j)).toNat : Int)) ∧ Below W.heap.size W w' := by
  obtain ⟨r, hr, _, hrl⟩ := hE.get hi
  obtain ⟨u, hu⟩ : ∃ u, r[n + j]? = some u := ⟨_, List.getElem?_eq_getElem (by omega)⟩
  obtain ⟨Ai, ci, hci, hli⟩ := hR.row hr
  rw [hrl] at hci hli
  obtain ⟨b, off, hA, _, hb, hcu⟩ := hli.at (j := n + j) (u := .int .u8 (u.toNat : Int)) (by simp [bc, hu])
  subst hA
  rw [at2_of hr hu]
  have k1 := grows_cell hc10 hl10
  have k2 := grows_cell hc7 hl7
  have k3 := grows_cell hci hR.lt
  have k4 := grows_cell hcu hb
  have m1 : (0 : Int) ≤ (n : Int) + (j : Int) := by omega
  have m2 : (n : Int) + (j : Int) < (L : Int) := by omega
  have m3 : ((n : Int) + (j : Int)).toNat = n + j := by omega
  have m4 : IntKind.i64.wrap ((n : Int) + (j : Int)) = (n : Int) + (j : Int) := IntWalk.i64_in _ (by omega)
  have m5 : (i : Int) < (n : Int) := by omega
  clear hR hE hr hu hli hci hcu hc10 hc7 hrl
  go_enter Try.func49, Try.ntmps49
  go_wp2_with fail
  refine wp_region_grows (by kernel_rfl) (by kernel_rfl) ?_
  repeat (first | quiet_step (fail))
  refine wpQuiet_nil ?_
  rintro w2 ⟨⟨_, hw2⟩, rfl⟩
  have HW := Lib.hid hw2
  clear hw2 k1 k2 k3 k4
  go_wp2
  go_ret
  exact ⟨rfl, HW.out⟩

/-- Ahead of row k. -/
structure BackAt (w3 wr : World) (g h10 n k : Nat) (M : List (List UInt8)) : Prop where
  rows : RowsN wr g n (fun b => b ≠ g) (besideL M n k)
  box : wr.cell? ⟨h10, 0, none⟩ = some (.slice (some ⟨g, 0, none⟩) n n)
  lt : h10 < wr.heap.size ∧ h10 ≠ g
  bel : Below w3.heap.size w3 wr

set_option maxRecDepth 100000 in
set_option maxHeartbeats 4000000 in
theorem back_square (P : Option Addr) (w : World) (A : Option Addr) (n c : Nat) (M : List (List UInt8)) (hM : Mtx w A n c M) (hr : RightM M) (hsq : colsOf M = n) :
    Calls Try.prog 27 #[.pointer P, .slice A n c] w (if (sweepTo (besideL M n n) n).2 < n then GivesE w [] 18 else GivesE w (backL M n) 0) := by
  have hl := hM.len
  obtain ⟨d, hd⟩ : ∃ T, (sweepTo (besideL M n n) n).2 = T := ⟨_, rfl⟩
  rw [hd]
  have HD := Lib.hid hd
  clear hd
  have hn1 : 1 ≤ n := by have := hr.1; omega
  have hn2 : n ≤ 255 := by have := hr.2.1; omega
  have hlev : Lev n n M := by have := right_lev hr; rwa [hl, hsq] at this
  obtain ⟨j0, hj0, jz0, jz1, jz2⟩ := info_parts rowInfo
  have HS := Lib.hid (by have := size_says w A n c M hM (by omega); rwa [sizeL, if_pos hr, hl, hsq] at this)
  have HO := Lib.hid (fun W => one_yes n ⟨hn1, hn2⟩ W)
  obtain ⟨r0, hr0, _, hr0l⟩ := hlev.get (show 0 < n by omega)
  obtain ⟨bm, om, _, _, hA, hbm, _, _⟩ := hM.row hr0
  subst hA
  have HM := Lib.hid hM
  have HLV := Lib.hid hlev
  clear hM hr hsq hlev hr0 hr0l
  go_enter Try.func27, Try.ntmps27
  go_upto_region 6 with (first
    | (go_at_call 17; refine HS.out.mono ?_; rintro e w1 ⟨rfl, hb1⟩; have HB1 := Lib.hid hb1; clear hb1)
    | (go_at_call 23; refine (HO.out _).mono ?_; rintro e w3 ⟨A3, n3, c3, rfl, hm3, hb3⟩; have hc7 : w3.cell? ⟨w1.heap.size, 0, none⟩ = some (.int .i64 (n : Int)) := (hb3.cell (p := ⟨w1.heap.size, 0, none⟩) (by simp)).trans (cell_one_new w1 _ _ 0 _ rfl); have HM3 := Lib.hid hm3; have HB3 := Lib.hid (show Below w.heap.size w w3 ∧ w1.heap.size < w3.heap.size from ⟨HB1.out.trans ((((Below.refl _ w1).alloc (Nat.le_refl _) (.cells #[.int .i64 (n : Int)] 3)).trans (hb3.mono (by simp))).mono HB1.out.size), Nat.lt_of_lt_of_le (by simp) hb3.size⟩); clear hm3 hb3)
    | (at_make; refine wpList_make_full w3 rfl _ _ 22 rfl w3.heap.size 31 j0 _ 1 Try.underlying22 hj0 jz0 jz1 _ _ _ _ n rfl rfl rfl rfl (by rw [jz2]; omega) (by unfold maxLen; omega) (Nat.le_refl _) ?_; intro w4 hown4 hg4; have HX4 := Lib.hid (And.intro (rows_made (fun b => b ≠ w3.heap.size) hown4) ((Below.refl w3.heap.size w3).grown hg4 (Nat.le_refl _) (fun k hk => by cases hk))); clear hown4 hg4))
  generalize hw5 : w4.alloc (.cells #[.slice (some ⟨w3.heap.size, 0, none⟩) n n] 22) = w5
  have HI := Lib.hid (show BackAt w3 w5 w3.heap.size w4.heap.size n 0 M from by
    subst hw5
    have hb5 : Below w4.heap.size w4 (w4.alloc (.cells #[.slice (some ⟨w3.heap.size, 0, none⟩) n n] 22)) := (Below.refl _ w4).alloc (Nat.le_refl _) _
    exact ⟨HX4.out.1.below hb5, cell_one_new w4 _ _ 0 _ rfl, ⟨by simp, by have := HX4.out.1.lt; omega⟩, HX4.out.2.trans (hb5.mono HX4.out.2.size)⟩)
  obtain ⟨h7, hh7⟩ : ∃ x, w1.heap.size = x := ⟨_, rfl⟩
  obtain ⟨g, hg⟩ : ∃ x, w3.heap.size = x := ⟨_, rfl⟩
  obtain ⟨h10, hh10⟩ : ∃ x, w4.heap.size = x := ⟨_, rfl⟩
  rw [hh7] at hc7 HB3 ⊢
  rw [hg] at HI HB3 ⊢
  rw [hh10] at HI ⊢
  have HC7 := Lib.hid hc7
  have HG := Lib.hid hg
  have hcb := HI.out.box
  clear hw5 HX4 hc7 HB1 HS HO hh7 hh10 hg
  obtain ⟨q0, hq0, _, _⟩ := (show Lev n n (matBy n n oneF) from ⟨matBy_length _ _ _, fun r hr => by obtain ⟨i, _, rfl⟩ := List.mem_map.1 hr; exact byRule_length _ _⟩).get (show 0 < n by omega)
  obtain ⟨bo, oo, _, _, hA3, hbo, _, _⟩ := HM3.out.row hq0
  subst hA3
  have hn3 : n3 = n := by rw [← HM3.out.len, matBy_length]
  subst hn3
  clear hq0
  go_wp2_with fail
  clear hcb
  go_loopw [11, 33] (fun _ i wr => ∃ (k : Nat), k ≤ n3 ∧ i = .int .i64 (k : Int) ∧ Hid (BackAt w3 wr g h10 n3 k M)) (fun _ i _ => n3 - (intOf i).toNat)
  case atStart => exact ⟨0, by omega, rfl, HI⟩
  case round =>
    obtain ⟨k, hk, rfl, H⟩ := hrel
    by_cases hlt : k < n3
    · have l1 : (k : Int) < (n3 : Int) := by omega
      obtain ⟨r, hrk, hrk2, hrl⟩ := HLV.out.get hlt
      have hok : (matBy n3 n3 oneF)[k]? = some (byRule n3 (oneF k)) := matBy_at _ _ _ hlt
      obtain ⟨b', o', Am, cm, hA, _, hcm, hlm⟩ := HM.out.row hrk
      obtain ⟨rfl, rfl⟩ : bm = b' ∧ om = o' := by
        injection hA with hA
        injection hA with h1 h2
        exact ⟨h1, h2⟩
      obtain ⟨b'', o'', Ao, co, hA2, _, hco, hlo⟩ := HM3.out.row hok
      obtain ⟨rfl, rfl⟩ : bo = b'' ∧ oo = o'' := by
        injection hA2 with hA2
        injection hA2 with h1 h2
        exact ⟨h1, h2⟩
      rw [hrl] at hcm hlm
      rw [byRule_length] at hco hlo
      have hwb : Below w.heap.size w wr := HB3.out.1.trans (H.out.bel.mono HB3.out.1.size)
      have k1 := H.out.box
      have k2 : wr.cell? ⟨bm, om + k, none⟩ = some (.slice Am n3 cm) := (hwb.cell (p := ⟨bm, om + k, none⟩) hbm).trans hcm
      have k3 : wr.cell? ⟨bo, oo + k, none⟩ = some (.slice Ao n3 co) := (H.out.bel.cell (p := ⟨bo, oo + k, none⟩) hbo).trans hco
      have HLM := Lib.hid (hlm.below hwb)
      have HLO := Lib.hid (hlo.below H.out.bel)
      have HRK := Lib.hid (And.intro hrk2 hrl)
      have hgw : g < wr.heap.size := H.out.rows.lt
      have hbmw : bm < wr.heap.size := Nat.lt_of_lt_of_le hbm hwb.size
      have hbow : bo < wr.heap.size := Nat.lt_of_lt_of_le hbo H.out.bel.size
      have hbmg : bm ≠ g := by have := HB3.out.1.size; have := HG.out; omega
      have hbog : bo ≠ g := by have := HG.out; omega
      have h10l := H.out.lt
      clear hrk hrk2 hrl hok hA hA2 hcm hlm hco hlo hwb
      go_wp2_with fail
      refine wp_region_held_drew (S := fun w' => w'.cell? ⟨h10, 0, none⟩ = some (.slice (some ⟨g, 0, none⟩) n3 n3) ∧ w'.cell? ⟨bm, om + k, none⟩ = some (.slice Am n3 cm) ∧ w'.cell? ⟨bo, oo + k, none⟩ = some (.slice Ao n3 co)) (by kernel_rfl) ⟨k1, k2, k3⟩ (fun hHeld => ?_)
      refine take_run 0 36 (v := ?_) rfl rfl (by kernel_rfl) (by kernel_rfl) (by kernel_rfl) (fun _ _ _ h => h) (by rfl) ?_ (by assumption) ?_
      rotate_left
      · (intro wq hSw; obtain ⟨hS1, hS2, hS3⟩ := hSw; go_simp; first | done | with_reducible rfl)
      simp only [Act.put, List.setIfInBounds_toArray, List.set_cons_zero, List.set_cons_succ]
      refine take_run 1 37 (v := ?_) rfl rfl (by kernel_rfl) (by kernel_rfl) (by kernel_rfl) (fun _ _ _ h => h) (by rfl) ?_ (by assumption) ?_
      rotate_left
      · (intro wq hSw; obtain ⟨hS1, hS2, hS3⟩ := hSw; go_simp; first | done | with_reducible rfl)
      simp only [Act.put, List.setIfInBounds_toArray, List.set_cons_zero, List.set_cons_succ]
      refine take_run 2 38 (v := ?_) rfl rfl (by kernel_rfl) (by kernel_rfl) (by kernel_rfl) (fun _ _ _ h => h) (by rfl) ?_ (by assumption) ?_
      rotate_left
      · (intro wq hSw; obtain ⟨hS1, hS2, hS3⟩ := hSw; go_simp; first | done | with_reducible rfl)
      simp only [Act.put, List.setIfInBounds_toArray, List.set_cons_zero, List.set_cons_succ]
      refine take_run 3 39 (v := ?_) rfl rfl (by kernel_rfl) (by kernel_rfl) (by kernel_rfl) (fun _ _ _ h => h) (by rfl) ?_ (by assumption) ?_
      rotate_left
      · (intro wq hSw; obtain ⟨hS1, hS2, hS3⟩ := hSw; go_simp; first | done | with_reducible rfl)
      simp only [Act.put, List.setIfInBounds_toArray, List.set_cons_zero, List.set_cons_succ]
      refine take_run 4 40 (v := ?_) rfl rfl (by kernel_rfl) (by kernel_rfl) (by kernel_rfl) (fun _ _ _ h => h) (by rfl) ?_ (by assumption) ?_
      rotate_left
      · (intro wq hSw; obtain ⟨hS1, hS2, hS3⟩ := hSw; go_simp; first | done | with_reducible rfl)
      simp only [Act.put, List.setIfInBounds_toArray, List.set_cons_zero, List.set_cons_succ]
      refine take_run 5 41 (v := ?_) rfl rfl (by kernel_rfl) (by kernel_rfl) (by kernel_rfl) (fun _ _ _ h => h) (by rfl) ?_ (by assumption) ?_
      rotate_left
      · (intro wq hSw; obtain ⟨hS1, hS2, hS3⟩ := hSw; go_simp; first | done | with_reducible rfl)
      simp only [Act.put, List.setIfInBounds_toArray, List.set_cons_zero, List.set_cons_succ]
      refine take_run 6 42 (v := ?_) rfl rfl (by kernel_rfl) (by kernel_rfl) (by kernel_rfl) (fun _ _ _ h => h) (by rfl) ?_ (by assumption) ?_
      rotate_left
      · (intro wq hSw; obtain ⟨hS1, hS2, hS3⟩ := hSw; go_simp; first | done | with_reducible rfl)
      simp only [Act.put, List.setIfInBounds_toArray, List.set_cons_zero, List.set_cons_succ]
      refine take_run 7 43 (v := ?_) rfl rfl (by kernel_rfl) (by kernel_rfl) (by kernel_rfl) (fun _ _ _ h => h) (by rfl) ?_ (by assumption) ?_
      rotate_left
      · (intro wq hSw; obtain ⟨hS1, hS2, hS3⟩ := hSw; go_simp; first | done | with_reducible rfl)
      simp only [Act.put, List.setIfInBounds_toArray, List.set_cons_zero, List.set_cons_succ]
      refine take_run 8 44 (v := ?_) rfl rfl (by kernel_rfl) (by kernel_rfl) (by kernel_rfl) (fun _ _ _ h => h) (by rfl) ?_ (by assumption) ?_
      rotate_left
      · (intro wq hSw; obtain ⟨hS1, hS2, hS3⟩ := hSw; go_simp; first | done | with_reducible rfl)
      simp only [Act.put, List.setIfInBounds_toArray, List.set_cons_zero, List.set_cons_succ]
      refine take_run 9 45 (v := ?_) rfl rfl (by kernel_rfl) (by kernel_rfl) (by kernel_rfl) (fun _ _ _ h => h) (by rfl) ?_ (by assumption) ?_
      rotate_left
      · (intro wq hSw; obtain ⟨hS1, hS2, hS3⟩ := hSw; go_simp; first | done | with_reducible rfl)
      simp only [Act.put, List.setIfInBounds_toArray, List.set_cons_zero, List.set_cons_succ]
      refine wpAnyH_ready (rs := [10]) (by kernel_rfl) (by simp) ?_
      refine AllReadyH.cons rfl (fun K hK => ?_) AllReadyH.nil
      go_simp
      have hba : Below wr.heap.size wr (wr.drew.alloc (.cells #[.slice Am n3 cm, .slice Ao n3 co] 31)) := (Below.refl _ wr).drew.trans ((Below.refl _ wr.drew).alloc (Nat.le_refl _) _)
      refine hK.out _ _ ⟨(hba.cell (p := ⟨h10, 0, none⟩) h10l.1).trans k1, (hba.cell (p := ⟨bm, om + k, none⟩) hbmw).trans k2, (hba.cell (p := ⟨bo, oo + k, none⟩) hbow).trans k3⟩ (fun hHeld => ?_)
      clear hK K
      refine wpAnyH_ready (rs := [11]) (by kernel_rfl) (by simp) ?_
      refine AllReadyH.cons rfl (fun K hK => ?_) AllReadyH.nil
      go_simp
      have hbox := Box.made wr.drew 31 #[.slice Am n3 cm, .slice Ao n3 co]
      refine (concatB_says _ wr.heap.size Am Ao n3 n3 cm co r (byRule n3 (oneF k)) (by exact (hbox.cell 0).trans rfl) (by exact (hbox.cell 1).trans rfl) hbox.lt (HLM.out.below hba) (HLO.out.below hba) (by omega) (by omega)).mono ?_
      rintro e w6 ⟨B6, n6, c6, rfl, hl6, hb6⟩
      have hB6 : Below wr.heap.size wr w6 := hba.trans (hb6.mono hba.size)
      have hn6 : (r ++ byRule n3 (oneF k)).length = n6 := by rw [← bc_length]; exact hl6.len
      have HL6 := Lib.hid (show Lies w6 (fun b => b ≠ g) B6 n6 c6 (bc (r ++ byRule n3 (oneF k))) from hl6.weak (fun b _ hb => by have := hba.size; have hb' : (wr.drew.alloc (.cells #[.slice Am n3 cm, .slice Ao n3 co] 31)).heap.size ≤ b := hb; omega))
      have hR6 := H.out.rows.below hB6
      obtain ⟨⟨v6, hc6⟩, hf6⟩ := hR6.place hlt
      have HR6 := Lib.hid (And.intro hR6 (And.intro hB6 hn6))
      clear hl6 hb6 hR6 hn6 hbox hba
      refine hK.out _ _ ⟨(hB6.cell (p := ⟨h10, 0, none⟩) h10l.1).trans k1, (hB6.cell (p := ⟨bm, om + k, none⟩) hbmw).trans k2, (hB6.cell (p := ⟨bo, oo + k, none⟩) hbow).trans k3⟩ (fun hHeld => ?_)
      clear hK K hB6
      refine take_run 12 48 (v := ?_) rfl rfl (by kernel_rfl) (by kernel_rfl) (by kernel_rfl) (fun _ _ _ h => h) (by rfl) ?_ (by assumption) ?_
      rotate_left
      · (intro wq hSw; obtain ⟨hS1, hS2, hS3⟩ := hSw; go_simp; first | done | with_reducible rfl)
      simp only [Act.put, List.setIfInBounds_toArray, List.set_cons_zero, List.set_cons_succ]
      refine wpAnyH_ready (rs := [13]) (by kernel_rfl) (by simp) ?_
      refine AllReadyH.cons rfl (fun K hK => ?_) AllReadyH.nil
      go_simp
      refine hK.out _ _ ?_ (fun _ => ?_)
      · exact ⟨(World.cell?_setCell_other _ _ _ _ (fun e => by injection e with e; exact h10l.2 e.symm)).trans hHeld.1, (World.cell?_setCell_other _ _ _ _ (fun e => by injection e with e; exact hbmg e.symm)).trans hHeld.2.1, (World.cell?_setCell_other _ _ _ _ (fun e => by injection e with e; exact hbog e.symm)).trans hHeld.2.2⟩
      clear hK K
      refine wpAnyH_done (by kernel_rfl) ?_ _
      go_wp2
      go_roundw
      case rel =>
        refine ⟨k + 1, by omega, by go_num, Lib.hid ⟨?_, ?_, ⟨?_, h10l.2⟩, ?_⟩⟩
        · rw [beside_succ, HRK.out.1]
          have h1 := HR6.out.1.push (fun e => e rfl) (by rw [beside_length]; exact hlt) HR6.out.2.2 HL6.out
          rwa [beside_length] at h1
        · exact (World.cell?_setCell_other _ _ _ _ (fun e => by injection e with e; exact h10l.2 e.symm)).trans hHeld.1
        · simpa using Nat.lt_of_lt_of_le h10l.1 HR6.out.2.1.size
        · exact (H.out.bel.trans (HR6.out.2.1.mono H.out.bel.size)).setCell (p := ⟨g, k, none⟩) (by rw [HG.out]; exact Nat.le_refl _) _
      case measure => simp [intOf]; omega
    · obtain rfl : k = n3 := by omega
      have l1 : ¬ (k : Int) < (k : Int) := by omega
      have k1 := H.out.box
      have h7g : h7 < g := HB3.out.2
      have k2 : wr.cell? ⟨h7, 0, none⟩ = some (.int .i64 (k : Int)) := (H.out.bel.cell (p := ⟨h7, 0, none⟩) (by rw [HG.out]; exact h7g)).trans HC7.out
      have hgw : g < wr.heap.size := H.out.rows.lt
      have hwb : Below w.heap.size w wr := HB3.out.1.trans (H.out.bel.mono HB3.out.1.size)
      have hLB := beside_lev HLV.out
      have HSW := Lib.hid (fun (W : World) (hR : RowsN W g k (fun b => b ≠ g) (besideL M k k)) => sweep_says P W g k k (k + k) k k (besideL M k k) hR hLB (Nat.le_refl _) (by omega) (by omega) (by omega))
      have HWB := Lib.hid hwb
      have HLB := Lib.hid (sweep_lev hLB k)
      obtain ⟨T, hT⟩ : ∃ T, (sweepTo (besideL M k k) k).1 = T := ⟨_, rfl⟩
      have HBL := Lib.hid (show backL M k = matBy k k (fun i j => at2 T i (k + j)) from by rw [← hT]; rfl)
      rw [hT, HD.out] at HSW
      rw [hT] at HLB
      have h10l := H.out.lt
      clear hwb hLB hT
      go_wp2_with fail
      refine wp_region_held_drew (S := fun w' => w'.cell? ⟨h10, 0, none⟩ = some (.slice (some ⟨g, 0, none⟩) k k) ∧ w'.cell? ⟨h7, 0, none⟩ = some (.int .i64 (k : Int)) ∧ True) (by kernel_rfl) ⟨k1, k2, trivial⟩ (fun hHeld => ?_)
      refine take_run 0 50 (v := ?_) rfl rfl (by kernel_rfl) (by kernel_rfl) (by kernel_rfl) (fun _ _ _ h => h) (by rfl) ?_ (by assumption) ?_
      rotate_left
      · (intro wq hSw; obtain ⟨hS1, hS2, _⟩ := hSw; go_simp; first | done | with_reducible rfl)
      simp only [Act.put, List.setIfInBounds_toArray, List.set_cons_zero, List.set_cons_succ]
      refine take_run 1 51 (v := ?_) rfl rfl (by kernel_rfl) (by kernel_rfl) (by kernel_rfl) (fun _ _ _ h => h) (by rfl) ?_ (by assumption) ?_
      rotate_left
      · (intro wq hSw; obtain ⟨hS1, hS2, _⟩ := hSw; go_simp; first | done | with_reducible rfl)
      simp only [Act.put, List.setIfInBounds_toArray, List.set_cons_zero, List.set_cons_succ]
      refine take_run 2 52 (v := ?_) rfl rfl (by kernel_rfl) (by kernel_rfl) (by kernel_rfl) (fun _ _ _ h => h) (by rfl) ?_ (by assumption) ?_
      rotate_left
      · (intro wq hSw; obtain ⟨hS1, hS2, _⟩ := hSw; go_simp; first | done | with_reducible rfl)
      simp only [Act.put, List.setIfInBounds_toArray, List.set_cons_zero, List.set_cons_succ]
      refine take_run 4 54 (v := ?_) rfl rfl (by kernel_rfl) (by kernel_rfl) (by kernel_rfl) (fun _ _ _ h => h) (by rfl) ?_ (by assumption) ?_
      rotate_left
      · (intro wq hSw; obtain ⟨hS1, hS2, _⟩ := hSw; go_simp; first | done | with_reducible rfl)
      simp only [Act.put, List.setIfInBounds_toArray, List.set_cons_zero, List.set_cons_succ]
      refine wpAnyH_ready (rs := [3]) (by kernel_rfl) (by simp) ?_
      refine AllReadyH.cons rfl (fun K hK => ?_) AllReadyH.nil
      go_simp
      refine (HSW.out wr.drew H.out.rows).mono ?_
      rintro e w7 ⟨rfl, hR7, hg7⟩
      have hg7' : wr.grownBy w7 (some g) := ⟨hg7.os, hg7.tape, hg7.output, hg7.size, hg7.block⟩
      have j1 := cell_grown hg7' h10l.1 h10l.2 k1
      have j2 := cell_grown hg7' (Nat.lt_trans h7g hgw) (by omega) k2
      have HR7 := Lib.hid (show RowsN w7 g k (fun b => b ≠ g) T ∧ Below w.heap.size w w7 ∧ wr.heap.size ≤ w7.heap.size from ⟨hR7, HWB.out.trans ((Below.refl w.heap.size wr).grown hg7' HWB.out.size (fun k hk => by cases hk; have := HG.out; have := HB3.out.1.size; omega)), hg7'.size⟩)
      clear hR7 hg7 hg7'
      refine hK.out _ _ ⟨j1, j2, trivial⟩ (fun hHeld => ?_)
      clear hK K
      refine take_run 5 55 (v := ?_) rfl rfl (by kernel_rfl) (by kernel_rfl) (by kernel_rfl) (fun _ _ _ h => h) (by rfl) ?_ (by assumption) ?_
      rotate_left
      · (intro wq hSw; obtain ⟨hS1, hS2, _⟩ := hSw; go_simp; first | done | with_reducible rfl)
      simp only [Act.put, List.setIfInBounds_toArray, List.set_cons_zero, List.set_cons_succ]
      refine wpAnyH_done (by kernel_rfl) ?_ _
      clear k1 k2 hHeld
      by_cases hdk : d < k
      · have hdk' : (d : Int) < (k : Int) := by omega
        go_wp2
        go_ret2
        (try rw [if_pos hdk])
        exact ⟨_, _, _, rfl, Mtx.nil _ _ _, HR7.out.2.1⟩
      · have hdk' : ¬ (d : Int) < (k : Int) := by omega
        have HMD := Lib.hid (made_says k k (by omega) (by omega) 49 #[.pointer (some ⟨h10, 0, none⟩), .pointer (some ⟨h7, 0, none⟩)] (fun i j => at2 T i (k + j)) (enters_of Try.func49 (by kernel_rfl) rfl) w7
          (fun W i j hi hj hW => back1_says W h10 h7 g k (k + k) k T k ((hW.cell (p := ⟨h10, 0, none⟩) (Nat.lt_of_lt_of_le h10l.1 HR7.out.2.2)).trans j1) ((hW.cell (p := ⟨h7, 0, none⟩) (Nat.lt_of_lt_of_le (Nat.lt_trans h7g hgw) HR7.out.2.2)).trans j2) (Nat.lt_of_lt_of_le (Nat.lt_of_lt_of_le h10l.1 HR7.out.2.2) hW.size) (Nat.lt_of_lt_of_le (Nat.lt_of_lt_of_le (Nat.lt_trans h7g hgw) HR7.out.2.2) hW.size) (HR7.out.1.below hW) HLB.out (Nat.le_refl _) (by omega) i j hi hj))
        go_wp2_with (go_at_call 43; refine HMD.out.mono ?_; rintro e w8 ⟨A8, n8, c8, rfl, hm8, hb8⟩; have HR8 := Lib.hid (And.intro hm8 hb8); clear hm8 hb8)
        go_ret2
        (try rw [if_neg hdk])
        refine ⟨_, _, _, rfl, ?_, HR7.out.2.1.trans (HR8.out.2.mono HR7.out.2.1.size)⟩
        rw [HBL.out]
        exact HR8.out.1
end Go.Proofs.Ytgakeecibofiiaa
