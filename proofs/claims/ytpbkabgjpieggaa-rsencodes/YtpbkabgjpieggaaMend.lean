/-
  mend: the shards of data that are missing are put in their places.
-/
import Derived.Test.YtpbkabgjpieggaaMendA
namespace Go.Proofs.Ytpbkabgjpieggaa
open Go.RowKit

theorem intInfo1 : (Try.prog.info? 3).map (·.size) = some 1 := by
  obtain ⟨i0, h0, _, h2, _⟩ := info_parts intInfo
  rw [h0]; simp [h2]
/-- What is known, and stays known, once the rows that are used are picked. -/
structure MendAt (w0 w : World) (p k m n q g : Nat) (B : Nat → Nat) (D : List (List UInt8)) (A : Option Addr) (c : Nat) (S : List (Option (List UInt8))) (lo : Nat) (A1 : Option Addr) (ng c1 : Nat) (A4 : Option Addr) (c4 : Nat) : Prop where
  cod : Cod w p k m
  fill : FillS w0 w g k q B D
  shd : Shd w A n c S
  gaps : Lies w (fun b => lo ≤ b) A1 ng c1 (ics (intsN (gapsL k S)))
  used : Lies w (fun _ => True) A4 ng c4 (ics (intsN (usedU k m S)))
theorem MendAt.below {w0 w w' : World} {p k m n q g : Nat} {B : Nat → Nat} {D : List (List UInt8)} {A : Option Addr} {c : Nat} {S : List (Option (List UInt8))} {lo : Nat} {A1 : Option Addr} {ng c1 : Nat} {A4 : Option Addr} {c4 : Nat} (h : MendAt w0 w p k m n q g B D A c S lo A1 ng c1 A4 c4) (hb : Below w.heap.size w w') : MendAt w0 w' p k m n q g B D A c S lo A1 ng c1 A4 c4 :=
  ⟨h.cod.below hb, h.fill.then hb, h.shd.below hb, h.gaps.below hb, h.used.below hb⟩
set_option maxRecDepth 100000 in
set_option maxHeartbeats 1000000 in
theorem mend_none (w0 w : World) (p k m n : Nat) (hC : Cod w p k m) (hs : k + m ≤ 255) (hnn : n = k + m) (g q : Nat) (B : Nat → Nat) (D : List (List UInt8)) (hF : FillS w0 w g k q B D) (A : Option Addr) (c : Nat) (S : List (Option (List UInt8))) (hS : Shd w A n c S) (hg : (gapsL k S).length = 0) :
    Calls Try.prog 33 #[.pointer (some ⟨p, 0, none⟩), .slice (some ⟨g, 0, none⟩) k k, .slice A n c] w fun e w' => e = .returned (.tuple #[]) ∧ FillS w0 w' g k q B (mendL k m S D) := by
  have hc := hC.1
  have hl := hS.len
  have hle := hS.le
  have hs1 := fun W => sliceAt_to (P := Try.prog) Try.underlying22 rowInfo1 .i64 A n c k (by omega) W
  have hlt : (S.take k).length = k := by rw [List.length_take]; omega
  have HP1 := Lib.hid (places_says w A k c (S.take k) (hS.first (by omega)) (by omega))
  have HF := Lib.hid hF
  have HE := Lib.hid (show mendL k m S D = D from by rw [mendL, hg, mendTo])
  unfold GivesP at HP1
  rw [hlt, show placesTo (S.take k) true k = gapsL k S from rfl, hg] at HP1
  generalize (placesTo (S.take k) false k).length = nt at HP1
  clear hS hF hC hg hlt
  go_enter Try.func33, Try.ntmps33
  go_wp2_with (go_at_call 42; refine HP1.out.mono ?_; rintro e w1 ⟨A1, c1, A2, c2, rfl, hg1, ht1, hb1⟩; have HB1 := Lib.hid hb1; clear hg1 ht1 hb1)
  refine bodyPost_ret (results_none Try.results33 _ _ _) rfl ⟨rfl, ?_⟩
  rw [HE.out]
  exact HF.out.then HB1.out
set_option maxRecDepth 100000 in
set_option maxHeartbeats 4000000 in
theorem mend_some (w0 w : World) (p k m n : Nat) (hC : Cod w p k m) (hk : 1 ≤ k) (hs : k + m ≤ 255) (hnn : n = k + m) (g q : Nat) (B : Nat → Nat) (D : List (List UInt8)) (hF : FillS w0 w g k q B D) (hDl : D.length = k) (A : Option Addr) (c : Nat) (S : List (Option (List UInt8))) (hS : Shd w A n c S) (hq : q ≤ 1000) (hrow : ∀ (i : Nat) (r : List UInt8), S[i]? = some (some r) → r.length = q) (ng : Nat) (hng : (gapsL k S).length = ng) (hg1 : 1 ≤ ng) (hen : ng ≤ (hereL k m S).length) :
    Calls Try.prog 33 #[.pointer (some ⟨p, 0, none⟩), .slice (some ⟨g, 0, none⟩) k k, .slice A n c] w fun e w' => e = .returned (.tuple #[]) ∧ FillS w0 w' g k q B (mendL k m S D) := by
  have hc := hC.1
  have hp := hC.2.2
  have hl := hS.len
  have hle := hS.le
  have hgl := gaps_le (k := k) (S := S)
  have hhl := here_le (k := k) (m := m) (S := S)
  have hDlev : Lev k q D := ⟨hDl, hF.len⟩
  have hlS : S.length = k + m := by omega
  have HUL := used_len (k := k) (m := m) (S := S) (by omega)
  rw [hng] at HUL
  have HVL := rowsU_lev (k := k) (m := m) hlS hrow (used_mem (k := k) (m := m) (S := S))
  rw [HUL] at HVL
  have hs1 := fun W => sliceAt_to (P := Try.prog) Try.underlying22 rowInfo1 .i64 A n c k (by omega) W
  have hs2 := fun W => sliceAt_from (P := Try.prog) Try.underlying22 rowInfo1 .i64 A n c k (by omega) W
  have hlt : (S.take k).length = k := by rw [List.length_take]; omega
  have hld : (S.drop k).length = m := by rw [List.length_drop]; omega
  have HP1 := Lib.hid (places_says w A k c (S.take k) (hS.first (by omega)) (by omega))
  have HP2 := Lib.hid (fun W (hb : Below w.heap.size w W) => places_says W (cutA A c k) (n - k) (c - k) (S.drop k) ((hS.below hb).tail (by omega)) (by omega))
  unfold GivesP at HP1 HP2
  rw [hlt, show placesTo (S.take k) true k = gapsL k S from rfl, hng] at HP1
  rw [hld, show placesTo (S.drop k) false m = hereL k m S from rfl] at HP2
  obtain ⟨nu, hnu⟩ : ∃ t, (hereL k m S).length = t := ⟨_, rfl⟩
  rw [hnu] at HP2 hen hhl
  generalize (placesTo (S.take k) false k).length = nt at HP1
  generalize (placesTo (S.drop k) true m).length = nt2 at HP2
  have HRU := Lib.hid (rows_used (k := k) (m := m) (U := usedU k m S) used_lt (by omega) (by omega) (by omega))
  have HRC := Lib.hid (rows_cols (k := k) (m := m) (U := usedU k m S) (G := gapsL k S) used_lt (by omega) (by omega) gaps_lt (by omega))
  have HBP := Lib.hid (back_part (k := k) (m := m) (U := usedU k m S) (G := gapsL k S) (fun i => (S.getD i none).isNone) used_lt used_nodup (by omega) (by omega) (by omega) gaps_filter (by omega))
  have HUR := Lib.hid (used_right (k := k) (m := m) (U := usedU k m S) used_lt (by omega) (by omega))
  have HPL := Lib.hid (part_lev (k := k) (m := m) (U := usedU k m S) (G := gapsL k S) used_lt (by omega) (by omega) gaps_lt (by omega))
  have HUSL := Lib.hid (used_lev (k := k) (m := m) (U := usedU k m S) used_lt)
  have HC := Lib.hid hC
  have HF := Lib.hid hF
  have HS := Lib.hid hS
  have HROW := Lib.hid hrow
  have HNG := Lib.hid hng
  have HNU := Lib.hid hnu
  have HUL' := Lib.hid HUL
  have HVL' := Lib.hid HVL
  have HDL := Lib.hid hDlev
  have HLS := Lib.hid hlS
  have hz : ¬ (ng : Int) = 0 := by omega
  have hn1 : n ≤ k + m := by omega
  have hn2 : k + m ≤ n := by omega
  clear hnn
  clear hS hF hC hng hnu hlt hld hrow HUL HVL hDlev hl hDl hgl hlS
  go_enter Try.func33, Try.ntmps33
  go_upto_region 4 with (first
    | (go_at_call 42; (with_reducible refine HP1.out.mono ?_); rintro e w1 ⟨A1, c1, A2, c2, rfl, hg1', ht1, hb1⟩; have hc1 := (hb1.cell (p := ⟨p, 0, none⟩) hp).trans hc; have HB1 := Lib.hid (And.intro hg1' hb1); clear hg1' ht1 hb1)
    | (go_at_call 42; (with_reducible refine (HP2.out _ HB1.out.2).mono ?_); rintro e w2 ⟨A3, c3, A4, c4, rfl, hg2', ht2, hb2⟩; have HB2 := Lib.hid (And.intro ht2 (HB1.out.2.trans (hb2.mono HB1.out.2.size))); have HG2 := Lib.hid (HB1.out.1.below hb2); clear hg2' ht2 hb2)
    | (go_at_call 38; refine (new_says _).mono ?_; rintro e w3 ⟨P, rfl, hb3⟩; have HB3 := Lib.hid (And.intro (HB2.out.1.below hb3) (HB2.out.2.trans (hb3.mono HB2.out.2.size))); have HG3 := Lib.hid (HG2.out.below hb3); clear hb3))
  have hs3 := fun W => sliceAt_to (P := Try.prog) Try.underlying44 intInfo1 .i64 A4 nu c4 ng (by have := HB3.out.1.le; omega) W
  have HM3 := Lib.hid (show MendAt w0 w3.drew p k m n q g B D A c S w.heap.size A1 ng c1 A4 c4 from by
    have hb := HB3.out.2.trans (Below.refl _ w3).drew
    refine ⟨HC.out.below hb, HF.out.then hb, HS.out.below hb, HG3.out.drew, ?_⟩
    have h1 := (HB3.out.1.first hen).drew
    rw [ints_take, show List.take ng (hereL k m S) = usedU k m S from by rw [usedU, HNG.out]] at h1
    exact h1.weak (fun _ _ _ => trivial))
  clear HB1 HB2 HG2 HP1 HP2 hc1
  refine wp_region_held_drew (S := fun _ => True) (by kernel_rfl) trivial (fun hHeld => ?_)
  refine take_run 0 49 (v := ?_) rfl rfl (by kernel_rfl) (by kernel_rfl) (by kernel_rfl) (fun _ _ _ h => h) (by rfl) ?_ (by assumption) ?_
  rotate_left
  · (intro wq hSw; go_simp; first | done | with_reducible rfl)
  simp only [Act.put, List.setIfInBounds_toArray, List.set_cons_zero, List.set_cons_succ]
  refine take_run 2 51 (v := ?_) rfl rfl (by kernel_rfl) (by kernel_rfl) (by kernel_rfl) (fun _ _ _ h => h) (by rfl) ?_ (by assumption) ?_
  rotate_left
  · (intro wq hSw; go_simp; first | done | with_reducible rfl)
  simp only [Act.put, List.setIfInBounds_toArray, List.set_cons_zero, List.set_cons_succ]
  refine take_run 3 52 (v := ?_) rfl rfl (by kernel_rfl) (by kernel_rfl) (by kernel_rfl) (fun _ _ _ h => h) (by rfl) ?_ (by assumption) ?_
  rotate_left
  · (intro wq hSw; go_simp; first | done | with_reducible rfl)
  simp only [Act.put, List.setIfInBounds_toArray, List.set_cons_zero, List.set_cons_succ]
  refine take_run 4 53 (v := ?_) rfl rfl (by kernel_rfl) (by kernel_rfl) (by kernel_rfl) (fun _ _ _ h => h) (by rfl) ?_ (by assumption) ?_
  rotate_left
  · (intro wq hSw; go_simp; first | done | with_reducible rfl)
  simp only [Act.put, List.setIfInBounds_toArray, List.set_cons_zero, List.set_cons_succ]
  refine take_run 5 54 (v := ?_) rfl rfl (by kernel_rfl) (by kernel_rfl) (by kernel_rfl) (fun _ _ _ h => h) (by rfl) ?_ (by assumption) ?_
  rotate_left
  · (intro wq hSw; go_simp; first | done | with_reducible rfl)
  simp only [Act.put, List.setIfInBounds_toArray, List.set_cons_zero, List.set_cons_succ]
  refine wpAnyH_ready (rs := [1]) (by kernel_rfl) (by simp) ?_
  refine AllReadyH.cons rfl (fun K hK => ?_) AllReadyH.nil
  go_simp
  refine (matrix_says w3.drew p k m HM3.out.cod hk (by omega) hs).mono ?_
  rintro e w4 ⟨A5, n5, c5, rfl, hM5, hb5⟩
  have HM4 := Lib.hid (And.intro (HM3.out.below hb5) hM5)
  have HB4 := Lib.hid ((HB3.out.2.trans (Below.refl _ w3).drew).trans (hb5.mono (HB3.out.2.trans (Below.refl _ w3).drew).size))
  have hn5 : n5 ≤ 2000 := by rw [← hM5.len, matBy_length]; omega
  clear hM5 hb5
  refine hK.out _ _ trivial (fun hHeld => ?_)
  clear hK K
  refine wpAnyH_ready (rs := [6]) (by kernel_rfl) (by simp) ?_
  refine AllReadyH.cons rfl (fun K hK => ?_) AllReadyH.nil
  go_simp
  refine (rows_says w4 A5 n5 c5 _ HM4.out.2 hn5 A4 ng c4 (intsN (usedU k m S)) HM4.out.1.used (by omega)).mono ?_
  rintro e w5 ⟨A6, n6, c6, rfl, hM6, hb6⟩
  rw [HRU.out] at hM6 ⊢
  have HM5 := Lib.hid (And.intro (HM4.out.1.below hb6) hM6)
  have HB5 := Lib.hid (HB4.out.trans (hb6.mono HB4.out.size))
  have hn6 : n6 = ng := by rw [← hM6.len, HUSL.out.1, HUL'.out]
  subst hn6
  clear hM6 hb6
  refine hK.out _ _ trivial (fun hHeld => ?_)
  clear hK K
  refine take_run 7 48 (v := ?_) rfl rfl (by kernel_rfl) (by kernel_rfl) (by kernel_rfl) (fun _ _ _ h => h) (by rfl) ?_ (by assumption) ?_
  rotate_left
  · (intro wq hSw; go_simp; first | done | with_reducible rfl)
  simp only [Act.put, List.setIfInBounds_toArray, List.set_cons_zero, List.set_cons_succ]
  refine take_run 8 56 (v := ?_) rfl rfl (by kernel_rfl) (by kernel_rfl) (by kernel_rfl) (fun _ _ _ h => h) (by rfl) ?_ (by assumption) ?_
  rotate_left
  · (intro wq hSw; go_simp; first | done | with_reducible rfl)
  simp only [Act.put, List.setIfInBounds_toArray, List.set_cons_zero, List.set_cons_succ]
  refine take_run 9 57 (v := ?_) rfl rfl (by kernel_rfl) (by kernel_rfl) (by kernel_rfl) (fun _ _ _ h => h) (by rfl) ?_ (by assumption) ?_
  rotate_left
  · (intro wq hSw; go_simp; first | done | with_reducible rfl)
  simp only [Act.put, List.setIfInBounds_toArray, List.set_cons_zero, List.set_cons_succ]
  refine take_run 10 11 (v := ?_) rfl rfl (by kernel_rfl) (by kernel_rfl) (by kernel_rfl) (fun _ _ _ h => h) (by rfl) ?_ (by assumption) ?_
  rotate_left
  · (intro wq hSw; go_simp; first | done | with_reducible rfl)
  simp only [Act.put, List.setIfInBounds_toArray, List.set_cons_zero, List.set_cons_succ]
  refine take_run 11 12 (v := ?_) rfl rfl (by kernel_rfl) (by kernel_rfl) (by kernel_rfl) (fun _ _ _ h => h) (by rfl) ?_ (by assumption) ?_
  rotate_left
  · (intro wq hSw; go_simp; first | done | with_reducible rfl)
  simp only [Act.put, List.setIfInBounds_toArray, List.set_cons_zero, List.set_cons_succ]
  refine wpAnyH_done (by kernel_rfl) ?_ _
  clear HM3 HM4 HB3 HG3 HB4 hs1 hs2 hs3
  go_wp2_with (go_at_call 37; refine (apply_new P w5 A6 n6 c6 _ HM5.out.2 (some ⟨g, 0, none⟩) k k D (HM5.out.1.fill.mtx HDL.out.1) HUR.out.1 HUR.out.2.symm q HDL.out hq).mono ?_; rintro e w6 ⟨gl, n7, rfl, hgl7, hln7, hR7, hb7⟩; have hn7 : n6 = n7 := (by rw [← hln7, appL, List.length_map, HUSL.out.1, HUL'.out]); subst hn7; have HR6 := Lib.hid (And.intro hR7 hb7); clear hR7 hb7 hln7)
  obtain ⟨L0, hL0⟩ : ∃ L, appL (usedL k m (usedU k m S)) D = L := ⟨_, rfl⟩
  rw [hL0] at HR6
  have HL0 := Lib.hid hL0
  have HLL := Lib.hid (show Lev n6 q L0 from by rw [← hL0]; exact app_lev (by rw [HUSL.out.1, HUL'.out]) HDL.out hk)
  obtain ⟨V, hV⟩ : ∃ V, rowsU k S (usedU k m S) = V := ⟨_, rfl⟩
  rw [hV] at HVL'
  have HV := Lib.hid hV
  clear hL0 hV
  go_loopw [15, 67] (fun _ i wr => ∃ t : Nat, t ≤ n6 ∧ i = .int .i64 (t : Int) ∧ Hid (RowsN wr gl n6 (fun b => b ≠ gl ∧ w5.heap.size ≤ b) (lackTo L0 V t) ∧ Below w5.heap.size w5 wr)) (fun _ i _ => n6 - (intOf i).toNat)
  case atStart => exact ⟨0, by omega, rfl, HR6⟩
  case round =>
    obtain ⟨t, ht, rfl, H⟩ := hrel
    by_cases hlt : t < n6
    · have l1 : (t : Int) < (n6 : Int) := by omega
      have l2 : (t : Int) < (nu : Int) := by omega
      have l3 : t < nu := by omega
      have hM := HM5.out.1.below H.out.2
      obtain ⟨u, hu⟩ : ∃ u, (usedU k m S)[t]? = some u := ⟨_, List.getElem?_eq_getElem (by rw [HUL'.out]; exact hlt)⟩
      obtain ⟨bu, ou, hA4, _, hbu, hcu⟩ := ints_at hM.used hu
      obtain ⟨r, hr⟩ := here_some HLS.out (used_mem u (List.mem_of_getElem? hu))
      have hrq := HROW.out _ r hr
      have hum := used_lt u (List.mem_of_getElem? hu)
      obtain ⟨bs, os, v, hAs, hbs, hcs, hsr⟩ := hM.shd.row hr
      obtain ⟨ad, cr, hv, hlr⟩ := hsr
      rw [hv, hrq] at hcs
      rw [hrq] at hlr
      obtain ⟨ku, hku⟩ : ∃ x, k + u = x := ⟨_, rfl⟩
      rw [hku] at hcs
      obtain ⟨a, ha, ha2, hal⟩ := HLL.out.get hlt
      obtain ⟨Ao, co, hco, hlo⟩ := H.out.1.row (i := t) (l := a) (by rw [lackTo_get L0 V t t (Nat.le_refl _)]; exact ha)
      rw [hal] at hco hlo
      have HAC := Lib.hid (show lackTo L0 V (t + 1) = (lackTo L0 V t).set t (Gf.padd a r) from by rw [lackTo, ha2, ← HV.out, rowsU_at hu hr])
      have HPN := Lib.hid (show (Gf.padd a r).length = q from by rw [Gf.padd_length, hal, hrq, Nat.max_self])
      have hcp : wr.cell? ⟨p, 0, none⟩ = some (.int .i64 (k : Int)) := hM.cod.1
      have hbp := hM.cod.2.2
      have HLO := Lib.hid hlo
      have HLR := Lib.hid hlr
      have hglt := H.out.1.lt
      have hbgs : ∀ b, b < w5.heap.size → b ≠ gl := fun b hb e => by omega
      have s1 : (k : Int) + (u : Int) = (ku : Int) := by omega
      have s2 : IntKind.i64.wrap (ku : Int) = (ku : Int) := IntWalk.i64_in _ (by omega)
      have s3 : (ku : Int) < (n : Int) := by omega
      have s4 : ku < n := by omega
      subst hA4 hAs
      have hb5p := HM5.out.1.cod.2.2
      obtain ⟨_, _, e1, _, hbu5, _⟩ := ints_at HM5.out.1.used hu
      cases e1
      obtain ⟨_, _, _, e2, hbs5, _, _⟩ := HM5.out.1.shd.row hr
      cases e2
      have hbu6 := hbgs _ hbu5
      have hbs6 := hbgs _ hbs5
      have hbp6 := hbgs _ hb5p
      clear hM hv hlr hu hr hrq ha ha2 hal hlo hum hku hbgs
      go_wp2_with fail
      refine wp_region_held_drew (S := fun w' => w'.cell? ⟨p, 0, none⟩ = some (.int .i64 (k : Int)) ∧ w'.cell? ⟨bu, ou + t, none⟩ = some (.int .i64 (u : Int)) ∧ w'.cell? ⟨bs, os + ku, none⟩ = some (.slice (some ad) q cr)) (by kernel_rfl) ⟨hcp, hcu, hcs⟩ (fun hHeld => ?_)
      refine take_run 0 70 (v := ?_) rfl rfl (by kernel_rfl) (by kernel_rfl) (by kernel_rfl) (fun _ _ _ h => h) (by rfl) ?_ (by assumption) ?_
      rotate_left
      · (intro wq hSw; obtain ⟨hS1, hS2, hS3⟩ := hSw; go_simp; first | done | with_reducible rfl)
      simp only [Act.put, List.setIfInBounds_toArray, List.set_cons_zero, List.set_cons_succ]
      refine take_run 1 71 (v := ?_) rfl rfl (by kernel_rfl) (by kernel_rfl) (by kernel_rfl) (fun _ _ _ h => h) (by rfl) ?_ (by assumption) ?_
      rotate_left
      · (intro wq hSw; obtain ⟨hS1, hS2, hS3⟩ := hSw; go_simp; first | done | with_reducible rfl)
      simp only [Act.put, List.setIfInBounds_toArray, List.set_cons_zero, List.set_cons_succ]
      refine take_run 2 72 (v := ?_) rfl rfl (by kernel_rfl) (by kernel_rfl) (by kernel_rfl) (fun _ _ _ h => h) (by rfl) ?_ (by assumption) ?_
      rotate_left
      · (intro wq hSw; obtain ⟨hS1, hS2, hS3⟩ := hSw; go_simp; first | done | with_reducible rfl)
      simp only [Act.put, List.setIfInBounds_toArray, List.set_cons_zero, List.set_cons_succ]
      refine take_run 3 73 (v := ?_) rfl rfl (by kernel_rfl) (by kernel_rfl) (by kernel_rfl) (fun _ _ _ h => h) (by rfl) ?_ (by assumption) ?_
      rotate_left
      · (intro wq hSw; obtain ⟨hS1, hS2, hS3⟩ := hSw; go_simp; first | done | with_reducible rfl)
      simp only [Act.put, List.setIfInBounds_toArray, List.set_cons_zero, List.set_cons_succ]
      refine take_run 4 74 (v := ?_) rfl rfl (by kernel_rfl) (by kernel_rfl) (by kernel_rfl) (fun _ _ _ h => h) (by rfl) ?_ (by assumption) ?_
      rotate_left
      · (intro wq hSw; obtain ⟨hS1, hS2, hS3⟩ := hSw; go_simp; first | done | with_reducible rfl)
      simp only [Act.put, List.setIfInBounds_toArray, List.set_cons_zero, List.set_cons_succ]
      refine take_run 5 75 (v := ?_) rfl rfl (by kernel_rfl) (by kernel_rfl) (by kernel_rfl) (fun _ _ _ h => h) (by rfl) ?_ (by assumption) ?_
      rotate_left
      · (intro wq hSw; obtain ⟨hS1, hS2, hS3⟩ := hSw; go_simp; first | done | with_reducible rfl)
      simp only [Act.put, List.setIfInBounds_toArray, List.set_cons_zero, List.set_cons_succ]
      refine take_run 7 77 (v := ?_) rfl rfl (by kernel_rfl) (by kernel_rfl) (by kernel_rfl) (fun _ _ _ h => h) (by rfl) ?_ (by assumption) ?_
      rotate_left
      · (intro wq hSw; obtain ⟨hS1, hS2, hS3⟩ := hSw; go_simp; first | done | with_reducible rfl)
      simp only [Act.put, List.setIfInBounds_toArray, List.set_cons_zero, List.set_cons_succ]
      refine take_run 8 78 (v := ?_) rfl rfl (by kernel_rfl) (by kernel_rfl) (by kernel_rfl) (fun _ _ _ h => h) (by rfl) ?_ (by assumption) ?_
      rotate_left
      · (intro wq hSw; obtain ⟨hS1, hS2, hS3⟩ := hSw; go_simp; first | done | with_reducible rfl)
      simp only [Act.put, List.setIfInBounds_toArray, List.set_cons_zero, List.set_cons_succ]
      refine take_run 9 79 (v := ?_) rfl rfl (by kernel_rfl) (by kernel_rfl) (by kernel_rfl) (fun _ _ _ h => h) (by rfl) ?_ (by assumption) ?_
      rotate_left
      · (intro wq hSw; obtain ⟨hS1, hS2, hS3⟩ := hSw; go_simp; first | done | with_reducible rfl)
      simp only [Act.put, List.setIfInBounds_toArray, List.set_cons_zero, List.set_cons_succ]
      refine take_run 10 80 (v := ?_) rfl rfl (by kernel_rfl) (by kernel_rfl) (by kernel_rfl) (fun _ _ _ h => h) (by rfl) ?_ (by assumption) ?_
      rotate_left
      · (intro wq hSw; obtain ⟨hS1, hS2, hS3⟩ := hSw; go_simp; first | done | with_reducible rfl)
      simp only [Act.put, List.setIfInBounds_toArray, List.set_cons_zero, List.set_cons_succ]
      refine take_run 11 81 (v := ?_) rfl rfl (by kernel_rfl) (by kernel_rfl) (by kernel_rfl) (fun _ _ _ h => h) (by rfl) ?_ (by assumption) ?_
      rotate_left
      · (intro wq hSw; obtain ⟨hS1, hS2, hS3⟩ := hSw; go_simp; first | done | with_reducible rfl)
      simp only [Act.put, List.setIfInBounds_toArray, List.set_cons_zero, List.set_cons_succ]
      refine take_run 12 82 (v := ?_) rfl rfl (by kernel_rfl) (by kernel_rfl) (by kernel_rfl) (fun _ _ _ h => h) (by rfl) ?_ (by assumption) ?_
      rotate_left
      · (intro wq hSw; obtain ⟨hS1, hS2, hS3⟩ := hSw; go_simp; first | done | with_reducible rfl)
      simp only [Act.put, List.setIfInBounds_toArray, List.set_cons_zero, List.set_cons_succ]
      refine take_run 13 83 (v := ?_) rfl rfl (by kernel_rfl) (by kernel_rfl) (by kernel_rfl) (fun _ _ _ h => h) (by rfl) ?_ (by assumption) ?_
      rotate_left
      · (intro wq hSw; obtain ⟨hS1, hS2, hS3⟩ := hSw; go_simp; first | done | with_reducible rfl)
      simp only [Act.put, List.setIfInBounds_toArray, List.set_cons_zero, List.set_cons_succ]
      refine take_run 14 84 (v := ?_) rfl rfl (by kernel_rfl) (by kernel_rfl) (by kernel_rfl) (fun _ _ _ h => h) (by rfl) ?_ (by assumption) ?_
      rotate_left
      · (intro wq hSw; obtain ⟨hS1, hS2, hS3⟩ := hSw; go_simp; first | done | with_reducible rfl)
      simp only [Act.put, List.setIfInBounds_toArray, List.set_cons_zero, List.set_cons_succ]
      refine take_run 15 85 (v := ?_) rfl rfl (by kernel_rfl) (by kernel_rfl) (by kernel_rfl) (fun _ _ _ h => h) (by rfl) ?_ (by assumption) ?_
      rotate_left
      · (intro wq hSw; obtain ⟨hS1, hS2, hS3⟩ := hSw; go_simp; first | done | with_reducible rfl)
      simp only [Act.put, List.setIfInBounds_toArray, List.set_cons_zero, List.set_cons_succ]
      refine take_run 16 86 (v := ?_) rfl rfl (by kernel_rfl) (by kernel_rfl) (by kernel_rfl) (fun _ _ _ h => h) (by rfl) ?_ (by assumption) ?_
      rotate_left
      · (intro wq hSw; obtain ⟨hS1, hS2, hS3⟩ := hSw; go_simp; first | done | with_reducible rfl)
      simp only [Act.put, List.setIfInBounds_toArray, List.set_cons_zero, List.set_cons_succ]
      refine take_run 17 87 (v := ?_) rfl rfl (by kernel_rfl) (by kernel_rfl) (by kernel_rfl) (fun _ _ _ h => h) (by rfl) ?_ (by assumption) ?_
      rotate_left
      · (intro wq hSw; obtain ⟨hS1, hS2, hS3⟩ := hSw; go_simp; first | done | with_reducible rfl)
      simp only [Act.put, List.setIfInBounds_toArray, List.set_cons_zero, List.set_cons_succ]
      refine take_run 18 88 (v := ?_) rfl rfl (by kernel_rfl) (by kernel_rfl) (by kernel_rfl) (fun _ _ _ h => h) (by rfl) ?_ (by assumption) ?_
      rotate_left
      · (intro wq hSw; obtain ⟨hS1, hS2, hS3⟩ := hSw; go_simp; first | done | with_reducible rfl)
      simp only [Act.put, List.setIfInBounds_toArray, List.set_cons_zero, List.set_cons_succ]
      refine wpAnyH_ready (rs := [6]) (by kernel_rfl) (by simp) ?_
      refine AllReadyH.cons rfl (fun K hK => ?_) AllReadyH.nil
      go_simp
      refine hK.out _ _ hHeld (fun _ => ?_)
      clear hK K
      refine wpAnyH_ready (rs := [19]) (by kernel_rfl) (by simp) ?_
      refine AllReadyH.cons rfl (fun K hK => ?_) AllReadyH.nil
      go_simp
      refine (sum_of gfB P Ao q co a (some ad) q cr r wr.drew (HLO.out.weak (fun _ _ _ => trivial)) HLR.out (by omega) (by omega)).mono ?_
      rintro e w7 ⟨B7, n7, c7, rfl, hl7, hb7⟩
      obtain rfl : q = n7 := by rw [← hl7.len, bc_length]; exact HPN.out.symm
      have hB7 : Below wr.heap.size wr w7 := (Below.refl _ wr).drew.trans hb7
      have HL7 := Lib.hid (show Lies w7 (fun b => b ≠ gl ∧ w5.heap.size ≤ b) B7 q c7 (bc (Gf.padd a r)) from hl7.weak (fun b _ hb => by have hb' : wr.heap.size ≤ b := hb; have hs' := H.out.2.size; exact ⟨by omega, by omega⟩))
      have hR7 := H.out.1.below hB7
      obtain ⟨⟨v7, hc7⟩, hf7⟩ := hR7.place (i := t) (by omega)
      have hcp7 := (hB7.cell (p := ⟨p, 0, none⟩) hbp).trans hcp
      have hcu7 := (hB7.cell (p := ⟨bu, ou + t, none⟩) hbu).trans hcu
      have hcs7 := (hB7.cell (p := ⟨bs, os + ku, none⟩) hbs).trans hcs
      have HR7 := Lib.hid (And.intro hR7 hB7)
      clear hl7 hb7 hR7 hB7
      refine hK.out _ _ ⟨hcp7, hcu7, hcs7⟩ (fun hHeld => ?_)
      clear hK K
      refine take_run 20 90 (v := ?_) rfl rfl (by kernel_rfl) (by kernel_rfl) (by kernel_rfl) (fun _ _ _ h => h) (by rfl) ?_ (by assumption) ?_
      rotate_left
      · (intro wq hSw; obtain ⟨hS1, hS2, hS3⟩ := hSw; go_simp; first | done | with_reducible rfl)
      simp only [Act.put, List.setIfInBounds_toArray, List.set_cons_zero, List.set_cons_succ]
      refine wpAnyH_ready (rs := [21]) (by kernel_rfl) (by simp) ?_
      refine AllReadyH.cons rfl (fun K hK => ?_) AllReadyH.nil
      go_simp
      refine hK.out _ _ ?_ (fun _ => ?_)
      · exact ⟨(World.cell?_setCell_other _ _ _ _ (fun e => by injection e with e; omega)).trans hcp7, (World.cell?_setCell_other _ _ _ _ (fun e => by injection e with e; omega)).trans hcu7, (World.cell?_setCell_other _ _ _ _ (fun e => by injection e with e; omega)).trans hcs7⟩
      clear hK K
      refine wpAnyH_done (by kernel_rfl) ?_ _
      go_wp2
      go_roundw
      case rel =>
        refine ⟨t + 1, by omega, by go_num, Lib.hid ⟨?_, ?_⟩⟩
        · rw [HAC.out]
          exact HR7.out.1.put (i := t) (fun e => e.1 rfl) HPN.out HL7.out
        · exact (H.out.2.trans (HR7.out.2.mono H.out.2.size)).setCell (p := ⟨gl, t, none⟩) hgl7 _
      case measure => simp [intOf]; omega
    · obtain rfl : t = n6 := by omega
      have l1 : ¬ (t : Int) < (t : Int) := by omega
      have HLK := Lib.hid (lackTo_lev HLL.out HVL'.out t (Nat.le_refl _))
      obtain ⟨LK, hLK⟩ : ∃ L, lackTo L0 V t = L := ⟨_, rfl⟩
      have HLKe := Lib.hid hLK
      rw [hLK] at H HLK
      clear hLK
      have HME := Lib.hid (show mendL k m S D = mendTo D (foundL k m (usedU k m S) (gapsL k S) LK) (gapsL k S) t from by rw [mendL, HL0.out, HV.out, HNG.out, HLKe.out])
      have HMR := Lib.hid (HM5.out.1.below H.out.2)
      have HUR' := Lib.hid (HM5.out.2.below H.out.2)
      have HWR := Lib.hid (HB5.out.trans (H.out.2.mono HB5.out.size))
      have HLM := Lib.hid (H.out.1.mtx (m := t) (c := t) HLK.out.1 (Nat.le_refl _))
      have hBlt : ∀ j, j < k → B j < w.heap.size := fun j hj => (HF.out.box j _ (List.getElem?_eq_getElem (by rw [HDL.out.1]; exact hj))).lt
      have HBLT := Lib.hid hBlt
      obtain ⟨F, hF⟩ : ∃ F, foundL k m (usedU k m S) (gapsL k S) LK = F := ⟨_, rfl⟩
      have HFL := Lib.hid (show Lev t q F from by have h1 := found_lev (k := k) (m := m) (U := usedU k m S) (G := gapsL k S) (LK := LK) (q := q) (by rw [HNG.out]; exact hg1) (by rw [HNG.out]; exact HLK.out); rw [HNG.out, hF] at h1; exact h1)
      have HFE := Lib.hid hF
      rw [hF] at HME
      have HBR := Lib.hid (lev_right (back_lev (partL k m (usedU k m S) (gapsL k S)) (gapsL k S).length) (by rw [HNG.out]; omega) (by rw [HNG.out]; omega))
      clear H hBlt hF HLKe HM5 HB5 HR6
      go_wp2_with (first
        | (go_at_call 45; (with_reducible refine (turn_says _ A6 t c6 _ HUR'.out (by omega)).mono ?_); rintro e w7 ⟨A8, n8, c8, rfl, hM8, hb8⟩; have hn8 : n8 ≤ 2000 := (by rw [← hM8.len, (turn_lev HUR.out.1).1, HUR.out.2]; omega); have HM8 := Lib.hid (And.intro hM8 (And.intro (HMR.out.below hb8) (And.intro (HLM.out.below hb8) (HWR.out.trans (hb8.mono HWR.out.size))))); clear hM8 hb8)
        | (go_at_call 43; (with_reducible refine (rows_says _ A8 n8 c8 _ HM8.out.1 hn8 A1 t c1 (intsN (gapsL k S)) (HM8.out.2.1.gaps.weak (fun _ _ _ => trivial)) (by omega)).mono ?_); rw [HRC.out]; rintro e w8 ⟨A9, n9, c9, rfl, hM9, hb9⟩; dsimp only at hM9; have hn9 : n9 ≤ 2000 := (by have h9 := hM9.len; simp [pickL, intsN] at h9; have hgg := HNG.out; omega); have HM9 := Lib.hid (And.intro hM9 (And.intro (HM8.out.2.1.below hb9) (And.intro (HM8.out.2.2.1.below hb9) (HM8.out.2.2.2.trans (hb9.mono HM8.out.2.2.2.size))))); clear hM9 hb9)
        | (go_at_call 45; (with_reducible refine (turn_says _ A9 n9 c9 _ HM9.out.1 hn9).mono ?_); rw [show turnL (pickL (turnL (usedL k m (usedU k m S))) (intsN (gapsL k S))) = partL k m (usedU k m S) (gapsL k S) from rfl]; rintro e w9 ⟨A10, n10, c10, rfl, hM10, hb10⟩; have hn10 : n10 ≤ 2000 := (by rw [← hM10.len, HPL.out.1, HNG.out]; omega); have HM10 := Lib.hid (And.intro hM10 (And.intro (HM9.out.2.1.below hb10) (And.intro (HM9.out.2.2.1.below hb10) (HM9.out.2.2.2.trans (hb10.mono HM9.out.2.2.2.size))))); clear hM10 hb10)
        | (go_at_call 46; (with_reducible refine (back_says P _ A10 n10 c10 _ HM10.out.1 hn10).mono ?_); rw [HBP.out]; rintro e w10 ⟨A11, n11, c11, rfl, hM11, hb11⟩; dsimp only at hM11; have HM11 := Lib.hid (And.intro hM11 (And.intro (HM10.out.2.1.below hb11) (And.intro (HM10.out.2.2.1.below hb11) (HM10.out.2.2.2.trans (hb11.mono HM10.out.2.2.2.size))))); clear hM11 hb11)
        | (go_at_call 37; (with_reducible refine (apply_new P _ A11 n11 c11 _ HM11.out.1 (some ⟨gl, 0, none⟩) t t LK HM11.out.2.2.1 HBR.out.1 (by rw [HBR.out.2, HNG.out]) q HLK.out hq).mono ?_); rw [show appL (backL (partL k m (usedU k m S) (gapsL k S)) (gapsL k S).length) LK = F from HFE.out]; rintro e w11 ⟨gf, n12, rfl, hgf12, hln12, hR12, hb12⟩; have hn12 : n12 = t := (by rw [← hln12]; exact HFL.out.1); subst hn12; have HM12 := Lib.hid (And.intro hR12 (And.intro (HM11.out.2.1.below hb12) (Nat.le_trans HM11.out.2.2.2.size hgf12))); have hgw := HM11.out.2.2.2.size; clear hR12 hb12 hln12))
      go_loopw [22, 23, 115] (fun _ _ i wr => ∃ s : Nat, s ≤ n12 ∧ i = .int .i64 (s : Int) ∧ Hid (FillS w0 wr g k q B (mendTo D F (gapsL k S) s) ∧ RowsN wr gf n12 (fun b => b ≠ gf ∧ w10.heap.size ≤ b) F ∧ Lies wr (fun b => w.heap.size ≤ b) A1 n12 c1 (ics (intsN (gapsL k S))))) (fun _ _ i _ => n12 - (intOf i).toNat)
      case atStart => exact ⟨0, by omega, rfl, Lib.hid ⟨HM12.out.2.1.fill, HM12.out.1, HM12.out.2.1.gaps⟩⟩
      case round =>
        obtain ⟨s, hs', rfl, H⟩ := hrel
        by_cases hlt2 : s < n12
        · have l4 : (s : Int) < (n12 : Int) := by omega
          obtain ⟨y, hy⟩ : ∃ y, (gapsL k S)[s]? = some y := ⟨_, List.getElem?_eq_getElem (by rw [HNG.out]; exact hlt2)⟩
          have hyk := gaps_lt y (List.mem_of_getElem? hy)
          obtain ⟨bg, og, hA1, hbg1, hbg2, hcg⟩ := ints_at H.out.2.2 hy
          obtain ⟨f, hf, hf2, hfl⟩ := HFL.out.get hlt2
          obtain ⟨Af, cf, hcf, hlf⟩ := H.out.2.1.row hf
          rw [hfl] at hcf hlf
          have hlm : (mendTo D F (gapsL k S) s).length = k := by rw [mendTo_length]; exact HDL.out.1
          obtain ⟨rc, hrc⟩ : ∃ r, (mendTo D F (gapsL k S) s)[y]? = some r := ⟨_, List.getElem?_eq_getElem (by omega)⟩
          have hrcl := H.out.1.len rc (List.mem_of_getElem? hrc)
          have hcd := (H.out.1.tab.at hrc).1
          rw [hrcl] at hcd
          have hsep := H.out.1.tab.sep H.out.1.blk (i := y) (by omega)
          have hBy := HBLT.out y hyk
          have hgl1 := H.out.1.tab.lt
          have hgl2 := H.out.2.1.lt
          have HBX := Lib.hid (H.out.1.box y rc hrc)
          have HLF := Lib.hid hlf
          have HST := Lib.hid (show mendTo D F (gapsL k S) (s + 1) = (mendTo D F (gapsL k S) s).set y f from by rw [mendTo, hf2, List.getD_eq_getElem?_getD, hy]; rfl)
          have HPA := Lib.hid (show patched rc f 0 (min q q) = f from by rw [patched, Nat.min_self, List.take_zero, List.take_of_length_le (by omega), List.drop_of_length_le (by omega)]; simp)
          have HLM' := Lib.hid hlm
          have HFQ := Lib.hid hfl
          have HRQ := Lib.hid hrcl
          subst hA1
          have hyn : (y : Int) < (k : Int) := by omega
          clear hy hf hf2 hfl hlf hrc hrcl hlm hbg1
          obtain ⟨By, hBe⟩ : ∃ x, B y = x := ⟨_, rfl⟩
          rw [hBe] at hcd hsep hBy HBX
          have HBE := Lib.hid hBe
          clear hBe
          go_wp2_with fail
          refine wp_region_held_drew (S := fun w' => w'.cell? ⟨g, y, none⟩ = some (.slice (some ⟨By, 0, none⟩) q q) ∧ w'.cell? ⟨gf, s, none⟩ = some (.slice Af q cf)) (by kernel_rfl) ⟨hcd, hcf⟩ (fun hHeld => ?_)
          refine take_run 0 120 (v := ?_) rfl rfl (by kernel_rfl) (by kernel_rfl) (by kernel_rfl) (fun _ _ _ h => h) (by rfl) ?_ (by assumption) ?_
          rotate_left
          · (intro wq hSw; obtain ⟨hS1, hS2⟩ := hSw; go_simp; first | done | with_reducible rfl)
          simp only [Act.put, List.setIfInBounds_toArray, List.set_cons_zero, List.set_cons_succ]
          refine take_run 1 121 (v := ?_) rfl rfl (by kernel_rfl) (by kernel_rfl) (by kernel_rfl) (fun _ _ _ h => h) (by rfl) ?_ (by assumption) ?_
          rotate_left
          · (intro wq hSw; obtain ⟨hS1, hS2⟩ := hSw; go_simp; first | done | with_reducible rfl)
          simp only [Act.put, List.setIfInBounds_toArray, List.set_cons_zero, List.set_cons_succ]
          refine take_run 2 122 (v := ?_) rfl rfl (by kernel_rfl) (by kernel_rfl) (by kernel_rfl) (fun _ _ _ h => h) (by rfl) ?_ (by assumption) ?_
          rotate_left
          · (intro wq hSw; obtain ⟨hS1, hS2⟩ := hSw; go_simp; first | done | with_reducible rfl)
          simp only [Act.put, List.setIfInBounds_toArray, List.set_cons_zero, List.set_cons_succ]
          refine take_run 3 123 (v := ?_) rfl rfl (by kernel_rfl) (by kernel_rfl) (by kernel_rfl) (fun _ _ _ h => h) (by rfl) ?_ (by assumption) ?_
          rotate_left
          · (intro wq hSw; obtain ⟨hS1, hS2⟩ := hSw; go_simp; first | done | with_reducible rfl)
          simp only [Act.put, List.setIfInBounds_toArray, List.set_cons_zero, List.set_cons_succ]
          refine take_run 4 124 (v := ?_) rfl rfl (by kernel_rfl) (by kernel_rfl) (by kernel_rfl) (fun _ _ _ h => h) (by rfl) ?_ (by assumption) ?_
          rotate_left
          · (intro wq hSw; obtain ⟨hS1, hS2⟩ := hSw; go_simp; first | done | with_reducible rfl)
          simp only [Act.put, List.setIfInBounds_toArray, List.set_cons_zero, List.set_cons_succ]
          refine take_run 5 125 (v := ?_) rfl rfl (by kernel_rfl) (by kernel_rfl) (by kernel_rfl) (fun _ _ _ h => h) (by rfl) ?_ (by assumption) ?_
          rotate_left
          · (intro wq hSw; obtain ⟨hS1, hS2⟩ := hSw; go_simp; first | done | with_reducible rfl)
          simp only [Act.put, List.setIfInBounds_toArray, List.set_cons_zero, List.set_cons_succ]
          refine take_run 6 126 (v := ?_) rfl rfl (by kernel_rfl) (by kernel_rfl) (by kernel_rfl) (fun _ _ _ h => h) (by rfl) ?_ (by assumption) ?_
          rotate_left
          · (intro wq hSw; obtain ⟨hS1, hS2⟩ := hSw; go_simp; first | done | with_reducible rfl)
          simp only [Act.put, List.setIfInBounds_toArray, List.set_cons_zero, List.set_cons_succ]
          refine take_run 7 127 (v := ?_) rfl rfl (by kernel_rfl) (by kernel_rfl) (by kernel_rfl) (fun _ _ _ h => h) (by rfl) ?_ (by assumption) ?_
          rotate_left
          · (intro wq hSw; obtain ⟨hS1, hS2⟩ := hSw; go_simp; first | done | with_reducible rfl)
          simp only [Act.put, List.setIfInBounds_toArray, List.set_cons_zero, List.set_cons_succ]
          refine wpAnyH_ready (rs := [8]) (by kernel_rfl) (by simp) ?_
          refine AllReadyH.cons rfl (fun K hK => ?_) AllReadyH.nil
          refine wp_copy_any _ _ rfl By 0 q q q cf Af rfl rfl rc HBX.out _ f HLF.out.drew (by rw [HRQ.out]; omega) ?_
          intro wc hxc hgc
          rw [HPA.out] at hxc
          refine hK.out _ _ ?_ (fun _ => ?_)
          · exact ⟨(World.cell?_of_block (w := wr) (hgc.block g hgl1 (fun e => by injection e with e; omega))).trans hcd, (World.cell?_of_block (w := wr) (hgc.block gf hgl2 (fun e => by injection e with e; omega))).trans hcf⟩
          have HXC := Lib.hid (And.intro hxc (show wr.grownBy wc (some By) from ⟨hgc.os, hgc.tape, hgc.output, hgc.size, hgc.block⟩))
          clear hxc hgc
          clear hK K
          refine wpAnyH_done (by kernel_rfl) ?_ _
          go_wp2
          go_roundw
          case rel =>
            refine ⟨s + 1, by omega, by go_num, Lib.hid ⟨?_, ?_, ?_⟩⟩
            · rw [HST.out]
              exact H.out.1.put (i := y) (by rw [HLM'.out]; exact hyk) (by rw [HBE.out]; exact HXC.out.2) (by rw [HBE.out]; exact HXC.out.1) HFQ.out
            · exact H.out.2.1.grown HXC.out.2 (fun h => by have h' : w10.heap.size ≤ By := h.2; omega) (by omega)
            · exact H.out.2.2.grown HXC.out.2 (fun h => by have h' : w.heap.size ≤ By := h; omega)
          case measure => simp [intOf]; omega
        · obtain rfl : s = n12 := by omega
          have l4 : ¬ (s : Int) < (s : Int) := by omega
          go_wp2
          go_end0
          refine ⟨rfl, ?_⟩
          rw [HME.out]
          exact H.out.1
theorem mend_says (w0 w : World) (p k m n : Nat) (hC : Cod w p k m) (hk : 1 ≤ k) (hs : k + m ≤ 255) (hnn : n = k + m) (g q : Nat) (B : Nat → Nat) (D : List (List UInt8)) (hF : FillS w0 w g k q B D) (hDl : D.length = k) (A : Option Addr) (c : Nat) (S : List (Option (List UInt8))) (hS : Shd w A n c S) (hq : q ≤ 1000) (hrow : ∀ (i : Nat) (r : List UInt8), S[i]? = some (some r) → r.length = q) (hen : (gapsL k S).length ≤ (hereL k m S).length) :
    Calls Try.prog 33 #[.pointer (some ⟨p, 0, none⟩), .slice (some ⟨g, 0, none⟩) k k, .slice A n c] w fun e w' => e = .returned (.tuple #[]) ∧ FillS w0 w' g k q B (mendL k m S D) := by
  rcases Nat.eq_zero_or_pos (gapsL k S).length with h | h
  · exact mend_none w0 w p k m n hC hs hnn g q B D hF A c S hS h
  · exact mend_some w0 w p k m n hC hk hs hnn g q B D hF hDl A c S hS hq hrow _ rfl h hen
end Go.Proofs.Ytpbkabgjpieggaa
