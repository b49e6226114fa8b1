/-
  Clone: another device that is the same.
-/
import Derived.Test.YtemgphpgfdnkeaaLaws
import Derived.Lib.SliceRun
import Derived.Test.YtemgphpgfdnkeaaWriteS
namespace Go.Proofs.Ytemgphpgfdnkeaa
open Go.RowKit

/-- A row of parts of many cells in a block of its own: how it reads. -/
theorem own_open {w : World} {base n size : Nat} {e : TypeId} {v : Value} {xs : List Value} (h : w.ownsRow base e size v n xs) (hn : 0 < n) : ∃ g cap r, v = .slice (some ⟨g, 0, none⟩) n cap ∧ base ≤ g ∧ Box w g e (xs ++ r).toArray := by
  obtain ⟨h1, h2 | ⟨g, cap, cur, h2, h3, h4, h5, h6, h7, h8⟩⟩ := h
  · omega
  · refine ⟨g, cap, cur.toList.drop (n * size), h2, h3, ?_⟩
    rw [← h8, List.take_append_drop]
    simpa [Box] using h4
set_option maxHeartbeats 1000000 in
theorem clone_blocks (w : World) (gb C : Nat) (bs : List Bk) (r : List Value) (hb : Box w gb 70 (fl be bs ++ r).toArray) (h1 : 0 < bs.length) (h2 : bs.length ≤ 4096) :
    Calls Try.prog 31 #[.slice (some ⟨gb, 0, none⟩) bs.length C] w fun e w' => ∃ g cap r', e = .returned (.slice (some ⟨g, 0, none⟩) bs.length cap) ∧ w.heap.size ≤ g ∧ Box w' g 70 (fl be bs ++ r').toArray ∧ Below w.heap.size w w' := by
  obtain ⟨i0, hi, hz0, hz1, hz2⟩ := info_parts blkInfo
  have hcell : ∀ w', Below w.heap.size w w' → ∀ j u, (fl be bs)[j]? = some u → w'.cell? ((⟨gb, 0, none⟩ : Addr).add j) = some u := fun w' hB j u hu => by
    rw [Addr.add_mid, Nat.zero_add, Box.cell (Box.below hb hB hb.lt), List.getElem?_toArray, List.getElem?_append_left (List.getElem?_eq_some_iff.1 hu).1]
    exact hu
  have HC := Lib.hid hcell
  obtain ⟨n, hn⟩ : ∃ n, bs.length = n := ⟨_, rfl⟩
  rw [hn] at h1 h2 ⊢
  have hlen : (fl be bs).length = n * 256 := by rw [fl_length be_length, hn]
  clear hcell hb
  have hn' : ¬ n = 0 := by omega
  obtain ⟨w1, hw1⟩ : ∃ x, w.alloc (.cells #[] 70) = x := ⟨_, rfl⟩
  have hB1 : Below w.heap.size w w1 := by rw [← hw1]; exact (Below.refl _ w).alloc (Nat.le_refl _) _
  have hx1 : Box w1 w.heap.size 70 #[] := by rw [← hw1]; exact Box.made w _ _
  have hown : w1.ownsRow w.heap.size 70 256 (.slice (some ⟨w.heap.size, 0, none⟩) 0 0) 0 [] := ⟨rfl, .inr ⟨w.heap.size, 0, #[], rfl, Nat.le_refl _, hx1, Nat.le_refl _, by unfold maxLen; omega, rfl, rfl⟩⟩
  have HO := Lib.hid (And.intro hown hB1)
  have HL := Lib.hid hlen
  clear hown hB1 hx1 hlen
  have q22 : ∀ (w : World) (a : Option Addr) (n c n' c' : Nat), (binOp .eql 56 (.slice a n c) (.slice none n' c')).run Try.prog w = .ok (.bool a.isNone) w := fun w a n c n' c' => Lib.run_eql_slice_nil w _ _ a n c n' c' Try.underlying56
  go_enter Try.func31, Try.ntmps31
  go_wp2_with (first
    | (at_builtin; refine wpList_append_own _ rfl _ _ 56 rfl w.heap.size 70 i0 _ 256 256 Try.underlying56 hi hz0 hz1 hz2 (be_size _) (by decide) _ 0 [] rfl HO.out.1 ⟨gb, 0, none⟩ n C (fl be bs) rfl HL.out (HC.out w1 HO.out.2) (fl_cells be_one bs) (by unfold maxLen; omega) (by omega) HO.out.2.size ?_; intro v2 w2 hown2 hg2 _; have H2 := Lib.hid (And.intro hown2 hg2); clear hown2 hg2))
  obtain ⟨hown2, hg2⟩ := H2.out
  rw [Nat.zero_add, List.nil_append] at hown2
  obtain ⟨g, cap, r', rfl, hg, hb⟩ := own_open hown2 h1
  have HF := Lib.hid (And.intro hg (And.intro hb (HO.out.2.trans ((Below.refl _ w1).grown hg2 HO.out.2.size (fun k e => by have e' : some w.heap.size = some k := e; injection e' with e'; omega)))))
  clear hown2 hg2 hb hg H2
  go_wp2
  go_ret
  exact ⟨g, cap, r', rfl, HF.out⟩
set_option maxHeartbeats 1000000 in
theorem clone_writes (w : World) (v : Value) (ws : List Wr) (hown0 : w.ownsRow 0 72 513 v ws.length (fl we ws)) (h2 : ws.length ≤ 100000) :
    Calls Try.prog 32 #[v] w fun e w' => ∃ v', e = .returned v' ∧ w'.ownsRow w.heap.size 72 513 v' ws.length (fl we ws) ∧ Below w.heap.size w w' := by
  have q22 : ∀ (w : World) (a : Option Addr) (n c n' c' : Nat), (binOp .eql 57 (.slice a n c) (.slice none n' c')).run Try.prog w = .ok (.bool a.isNone) w := fun w a n c n' c' => Lib.run_eql_slice_nil w _ _ a n c n' c' Try.underlying57
  rcases hown0.2 with ⟨rfl, h0⟩ | ⟨g, C, cur, rfl, _, hgb, hnc, _⟩
  · have hws : ws = [] := List.eq_nil_of_length_eq_zero h0
    subst hws
    clear hown0
    go_enter Try.func32, Try.ntmps32
    go_wp2
    go_ret
    exact ⟨_, rfl, World.ownsRow_nil _ _ _ _, Below.refl _ _⟩
  · obtain ⟨i0, hi, hz0, hz1, hz2⟩ := info_parts wrInfo
    have hglt : g < w.heap.size := (Array.getElem?_eq_some_iff.1 hgb).1
    have hcell : ∀ w', Below w.heap.size w w' → ∀ j u, (fl we ws)[j]? = some u → w'.cell? ((⟨g, 0, none⟩ : Addr).add j) = some u := fun w' hB j u hu => by
      have := hown0.cells (g := g) rfl j u hu
      rw [Addr.add_mid] at this ⊢
      exact (hB.cell (p := ⟨g, 0 + j, none⟩) hglt).trans this
    have HC := Lib.hid hcell
    obtain ⟨n, hn⟩ : ∃ n, ws.length = n := ⟨_, rfl⟩
    rw [hn] at h2 ⊢
    have hlen : (fl we ws).length = n * 513 := by rw [fl_length we_length, hn]
    clear hcell hown0 hgb hnc hglt
    obtain ⟨w1, hw1⟩ : ∃ x, w.alloc (.cells #[] 72) = x := ⟨_, rfl⟩
    have hB1 : Below w.heap.size w w1 := by rw [← hw1]; exact (Below.refl _ w).alloc (Nat.le_refl _) _
    have hx1 : Box w1 w.heap.size 72 #[] := by rw [← hw1]; exact Box.made w _ _
    have hown : w1.ownsRow w.heap.size 72 513 (.slice (some ⟨w.heap.size, 0, none⟩) 0 0) 0 [] := ⟨rfl, .inr ⟨w.heap.size, 0, #[], rfl, Nat.le_refl _, hx1, Nat.le_refl _, by unfold maxLen; omega, rfl, rfl⟩⟩
    have HO := Lib.hid (And.intro hown hB1)
    have HL := Lib.hid hlen
    clear hown hB1 hx1 hlen
    go_enter Try.func32, Try.ntmps32
    go_wp2_with (first
      | (at_builtin; refine wpList_append_own _ rfl _ _ 57 rfl w.heap.size 72 i0 _ 513 520 Try.underlying57 hi hz0 hz1 hz2 (we_size _) (by decide) _ 0 [] rfl HO.out.1 ⟨g, 0, none⟩ n C (fl we ws) rfl HL.out (HC.out w1 HO.out.2) (fl_cells we_one ws) (by unfold maxLen; omega) (by omega) HO.out.2.size ?_; intro v2 w2 hown2 hg2 _; have H2 := Lib.hid (And.intro hown2 hg2); clear hown2 hg2))
    obtain ⟨hown2, hg2⟩ := H2.out
    rw [Nat.zero_add, List.nil_append] at hown2
    have HF := Lib.hid (And.intro hown2 (HO.out.2.trans ((Below.refl _ w1).grown hg2 HO.out.2.size (fun k e => by have e' : some w.heap.size = some k := e; injection e' with e'; omega))))
    clear hown2 hg2 H2
    go_wp2
    go_ret
    exact ⟨_, rfl, HF.out⟩

section
variable {w : World} {K : Nat → Prop} {p : Nat} {D : Dv}
set_option maxRecDepth 100000 in
set_option maxHeartbeats 4000000 in
theorem clone_says (h : Dev w K p D) (ho : D.ws.length ≤ 100000) :
    Calls Try.prog 24 #[.pointer (some ⟨p, 0, none⟩)] w fun e w' => ∃ q, e = .returned (.pointer (some ⟨q, 0, none⟩)) ∧ Dev w' (fun k => w.heap.size ≤ k ∧ k < w'.heap.size) q D ∧ Below w.heap.size w w' := by
  have hM := made_yes h
  obtain ⟨hok, gb, ex, v, hd⟩ := h
  obtain ⟨Av, cv, rfl⟩ := hd.slice
  have S0 : w.drew.cell? ⟨p, 0, none⟩ = some (.slice (some ⟨gb, 0, none⟩) D.bs.length ex.1) := (Box.cell hd.1 0).trans rfl
  have S1 : w.drew.cell? ⟨p, 1, none⟩ = some (.slice Av D.ws.length cv) := (Box.cell hd.1 1).trans rfl
  have S3 : w.drew.cell? ⟨p, 3, none⟩ = some (.int .i64 D.left) := (Box.cell hd.1 3).trans rfl
  have S4 : w.drew.cell? ⟨p, 4, none⟩ = some (.bool D.down) := (Box.cell hd.1 4).trans rfl
  have hS : ∀ w', Below w.heap.size w w' → w'.cell? ⟨p, 0, none⟩ = some (.slice (some ⟨gb, 0, none⟩) D.bs.length ex.1) ∧ w'.cell? ⟨p, 1, none⟩ = some (.slice Av D.ws.length cv) ∧ w'.cell? ⟨p, 3, none⟩ = some (.int .i64 D.left) ∧ w'.cell? ⟨p, 4, none⟩ = some (.bool D.down) := fun w' hB =>
    ⟨(hB.cell (p := ⟨p, 0, none⟩) hd.1.lt).trans S0, (hB.cell (p := ⟨p, 1, none⟩) hd.1.lt).trans S1, (hB.cell (p := ⟨p, 3, none⟩) hd.1.lt).trans S3, (hB.cell (p := ⟨p, 4, none⟩) hd.1.lt).trans S4⟩
  have HS := Lib.hid hS
  have HD := Lib.hid (And.intro hok hd)
  have hpl : p < w.heap.size := hd.1.lt
  have hC1 := clone_blocks w.drew gb ex.1 D.bs ex.2 hd.2.1 hok.pos hok.most
  have HC1 := Lib.hid hC1
  clear hS hok hd hC1
  go_enter Try.func24, Try.ntmps24
  go_upto_region 3 with (go_at_call 25; refine hM.mono ?_; rintro e wn ⟨rfl, hwn⟩; obtain rfl : w = wn := hwn.symm; clear hwn)
  refine wp_region_held_drew (S := fun w' => w'.cell? ⟨p, 0, none⟩ = some (.slice (some ⟨gb, 0, none⟩) D.bs.length ex.1) ∧ w'.cell? ⟨p, 1, none⟩ = some (.slice Av D.ws.length cv) ∧ w'.cell? ⟨p, 3, none⟩ = some (.int .i64 D.left) ∧ w'.cell? ⟨p, 4, none⟩ = some (.bool D.down)) (by kernel_rfl) ⟨S0, S1, S3, S4⟩ (fun hHeld => ?_)
  clear S0 S1 S3 S4
  refine take_run 0 7 (v := ?_) rfl rfl (by kernel_rfl) (by kernel_rfl) (by kernel_rfl) (fun _ _ _ h => h) (by rfl) ?_ (by assumption) ?_
  rotate_left
  · (intro wq hSw; obtain ⟨hS1, hS2, hS3, hS4⟩ := hSw; go_simp; first | done | with_reducible rfl)
  simp only [Act.put, List.setIfInBounds_toArray, List.set_cons_zero, List.set_cons_succ]
  refine take_run 1 8 (v := ?_) rfl rfl (by kernel_rfl) (by kernel_rfl) (by kernel_rfl) (fun _ _ _ h => h) (by rfl) ?_ (by assumption) ?_
  rotate_left
  · (intro wq hSw; obtain ⟨hS1, hS2, hS3, hS4⟩ := hSw; go_simp; first | done | with_reducible rfl)
  simp only [Act.put, List.setIfInBounds_toArray, List.set_cons_zero, List.set_cons_succ]
  refine take_run 2 9 (v := ?_) rfl rfl (by kernel_rfl) (by kernel_rfl) (by kernel_rfl) (fun _ _ _ h => h) (by rfl) ?_ (by assumption) ?_
  rotate_left
  · (intro wq hSw; obtain ⟨hS1, hS2, hS3, hS4⟩ := hSw; go_simp; first | done | with_reducible rfl)
  simp only [Act.put, List.setIfInBounds_toArray, List.set_cons_zero, List.set_cons_succ]
  refine take_run 3 10 (v := ?_) rfl rfl (by kernel_rfl) (by kernel_rfl) (by kernel_rfl) (fun _ _ _ h => h) (by rfl) ?_ (by assumption) ?_
  rotate_left
  · (intro wq hSw; obtain ⟨hS1, hS2, hS3, hS4⟩ := hSw; go_simp; first | done | with_reducible rfl)
  simp only [Act.put, List.setIfInBounds_toArray, List.set_cons_zero, List.set_cons_succ]
  refine take_run 5 12 (v := ?_) rfl rfl (by kernel_rfl) (by kernel_rfl) (by kernel_rfl) (fun _ _ _ h => h) (by rfl) ?_ (by assumption) ?_
  rotate_left
  · (intro wq hSw; obtain ⟨hS1, hS2, hS3, hS4⟩ := hSw; go_simp; first | done | with_reducible rfl)
  simp only [Act.put, List.setIfInBounds_toArray, List.set_cons_zero, List.set_cons_succ]
  refine take_run 6 13 (v := ?_) rfl rfl (by kernel_rfl) (by kernel_rfl) (by kernel_rfl) (fun _ _ _ h => h) (by rfl) ?_ (by assumption) ?_
  rotate_left
  · (intro wq hSw; obtain ⟨hS1, hS2, hS3, hS4⟩ := hSw; go_simp; first | done | with_reducible rfl)
  simp only [Act.put, List.setIfInBounds_toArray, List.set_cons_zero, List.set_cons_succ]
  refine take_run 7 14 (v := ?_) rfl rfl (by kernel_rfl) (by kernel_rfl) (by kernel_rfl) (fun _ _ _ h => h) (by rfl) ?_ (by assumption) ?_
  rotate_left
  · (intro wq hSw; obtain ⟨hS1, hS2, hS3, hS4⟩ := hSw; go_simp; first | done | with_reducible rfl)
  simp only [Act.put, List.setIfInBounds_toArray, List.set_cons_zero, List.set_cons_succ]
  refine take_run 8 15 (v := ?_) rfl rfl (by kernel_rfl) (by kernel_rfl) (by kernel_rfl) (fun _ _ _ h => h) (by rfl) ?_ (by assumption) ?_
  rotate_left
  · (intro wq hSw; obtain ⟨hS1, hS2, hS3, hS4⟩ := hSw; go_simp; first | done | with_reducible rfl)
  simp only [Act.put, List.setIfInBounds_toArray, List.set_cons_zero, List.set_cons_succ]
  refine take_run 10 17 (v := ?_) rfl rfl (by kernel_rfl) (by kernel_rfl) (by kernel_rfl) (fun _ _ _ h => h) (by rfl) ?_ (by assumption) ?_
  rotate_left
  · (intro wq hSw; obtain ⟨hS1, hS2, hS3, hS4⟩ := hSw; go_simp; first | done | with_reducible rfl)
  simp only [Act.put, List.setIfInBounds_toArray, List.set_cons_zero, List.set_cons_succ]
  refine take_run 11 18 (v := ?_) rfl rfl (by kernel_rfl) (by kernel_rfl) (by kernel_rfl) (fun _ _ _ h => h) (by rfl) ?_ (by assumption) ?_
  rotate_left
  · (intro wq hSw; obtain ⟨hS1, hS2, hS3, hS4⟩ := hSw; go_simp; first | done | with_reducible rfl)
  simp only [Act.put, List.setIfInBounds_toArray, List.set_cons_zero, List.set_cons_succ]
  refine take_run 12 19 (v := ?_) rfl rfl (by kernel_rfl) (by kernel_rfl) (by kernel_rfl) (fun _ _ _ h => h) (by rfl) ?_ (by assumption) ?_
  rotate_left
  · (intro wq hSw; obtain ⟨hS1, hS2, hS3, hS4⟩ := hSw; go_simp; first | done | with_reducible rfl)
  simp only [Act.put, List.setIfInBounds_toArray, List.set_cons_zero, List.set_cons_succ]
  refine take_run 13 20 (v := ?_) rfl rfl (by kernel_rfl) (by kernel_rfl) (by kernel_rfl) (fun _ _ _ h => h) (by rfl) ?_ (by assumption) ?_
  rotate_left
  · (intro wq hSw; obtain ⟨hS1, hS2, hS3, hS4⟩ := hSw; go_simp; first | done | with_reducible rfl)
  simp only [Act.put, List.setIfInBounds_toArray, List.set_cons_zero, List.set_cons_succ]
  refine take_run 14 21 (v := ?_) rfl rfl (by kernel_rfl) (by kernel_rfl) (by kernel_rfl) (fun _ _ _ h => h) (by rfl) ?_ (by assumption) ?_
  rotate_left
  · (intro wq hSw; obtain ⟨hS1, hS2, hS3, hS4⟩ := hSw; go_simp; first | done | with_reducible rfl)
  simp only [Act.put, List.setIfInBounds_toArray, List.set_cons_zero, List.set_cons_succ]
  refine take_run 15 22 (v := ?_) rfl rfl (by kernel_rfl) (by kernel_rfl) (by kernel_rfl) (fun _ _ _ h => h) (by rfl) ?_ (by assumption) ?_
  rotate_left
  · (intro wq hSw; obtain ⟨hS1, hS2, hS3, hS4⟩ := hSw; go_simp; first | done | with_reducible rfl)
  simp only [Act.put, List.setIfInBounds_toArray, List.set_cons_zero, List.set_cons_succ]
  refine take_run 16 23 (v := ?_) rfl rfl (by kernel_rfl) (by kernel_rfl) (by kernel_rfl) (fun _ _ _ h => h) (by rfl) ?_ (by assumption) ?_
  rotate_left
  · (intro wq hSw; obtain ⟨hS1, hS2, hS3, hS4⟩ := hSw; go_simp; first | done | with_reducible rfl)
  simp only [Act.put, List.setIfInBounds_toArray, List.set_cons_zero, List.set_cons_succ]
  refine take_run 17 24 (v := ?_) rfl rfl (by kernel_rfl) (by kernel_rfl) (by kernel_rfl) (fun _ _ _ h => h) (by rfl) ?_ (by assumption) ?_
  rotate_left
  · (intro wq hSw; obtain ⟨hS1, hS2, hS3, hS4⟩ := hSw; go_simp; first | done | with_reducible rfl)
  simp only [Act.put, List.setIfInBounds_toArray, List.set_cons_zero, List.set_cons_succ]
  refine wpAnyH_ready (rs := [4]) (by kernel_rfl) (by simp) ?_
  refine AllReadyH.cons rfl (fun K hK => ?_) AllReadyH.nil
  go_simp
  refine (HC1.out).mono ?_
  rintro e w1 ⟨g1, cap1, r1, rfl, hg1, hb1, hB1⟩
  have hB1 : Below w.heap.size w w1 := (Below.refl _ w).drew.trans hB1
  have hown1 : w1.ownsRow 0 72 513 (.slice Av D.ws.length cv) D.ws.length (fl we D.ws) := World.ownsRow.kept HD.out.2.2.2.1 (grown_of_below hB1 none) (by cases hv : (Value.slice Av D.ws.length cv).ownBlock <;> simp)
  have H1 := Lib.hid (And.intro hg1 (And.intro hb1 (And.intro hB1 hown1)))
  clear hg1 hb1 hB1 hown1
  refine hK.out _ _ (HS.out w1 H1.out.2.2.1) (fun hHeld => ?_)
  clear hK K
  refine wpAnyH_ready (rs := [9]) (by kernel_rfl) (by simp) ?_
  refine AllReadyH.cons rfl (fun K hK => ?_) AllReadyH.nil
  go_simp
  refine ((clone_writes w1 _ D.ws H1.out.2.2.2 ho)).mono ?_
  rintro e w2 ⟨v2, rfl, hown2, hB2⟩
  have hB2 : Below w.heap.size w w2 := H1.out.2.2.1.trans (hB2.mono H1.out.2.2.1.size)
  have hb2 := Box.below H1.out.2.1 ‹Below w1.heap.size w1 w2› H1.out.2.1.lt
  obtain ⟨A2, c2, hv2⟩ : ∃ A c, v2 = .slice A D.ws.length c := (by rcases hown2.2 with ⟨hv, hn⟩ | ⟨g, cap, cur, hv, _⟩; exact ⟨none, 0, by rw [hn]; exact hv⟩; exact ⟨_, cap, hv⟩)
  subst hv2
  have H2 := Lib.hid (And.intro hb2 (And.intro hown2 hB2))
  clear hb2 hown2 hB2 ‹Below w1.heap.size w1 w2›
  refine hK.out _ _ (HS.out w2 H2.out.2.2) (fun hHeld => ?_)
  clear hK K
  refine take_run 18 25 (v := ?_) rfl rfl (by kernel_rfl) (by kernel_rfl) (by kernel_rfl) (fun _ _ _ h => h) (by rfl) ?_ (by assumption) ?_
  rotate_left
  · (intro wq hSw; obtain ⟨hS1, hS2, hS3, hS4⟩ := hSw; go_simp; first | done | with_reducible rfl)
  simp only [Act.put, List.setIfInBounds_toArray, List.set_cons_zero, List.set_cons_succ]
  obtain ⟨w3, hw3⟩ : ∃ x, w2.alloc (.cells #[.slice (some ⟨g1, 0, none⟩) D.bs.length cap1, .slice A2 D.ws.length c2, .int .i64 0, .int .i64 D.left, .bool D.down] 64) = x := ⟨_, rfl⟩
  have hB3 : Below w.heap.size w w3 := by rw [← hw3]; exact H2.out.2.2.alloc H2.out.2.2.size _
  have hB3' : Below w2.heap.size w2 w3 := by rw [← hw3]; exact (Below.refl _ w2).alloc (Nat.le_refl _) _
  have hq3 : Box w3 w2.heap.size 64 #[.slice (some ⟨g1, 0, none⟩) D.bs.length cap1, .slice A2 D.ws.length c2, .int .i64 0, .int .i64 D.left, .bool D.down] := by rw [← hw3]; exact Box.made w2 _ _
  have hb3 := Box.below H2.out.1 hB3' H2.out.1.lt
  have hown3 : w3.ownsRow w1.heap.size 72 513 (.slice A2 D.ws.length c2) D.ws.length (fl we D.ws) := World.ownsRow.kept H2.out.2.1 (grown_of_below hB3' none) (by cases hv : (Value.slice A2 D.ws.length c2).ownBlock <;> simp)
  have HW3 := Lib.hid hw3
  have H3 := Lib.hid (And.intro hq3 (And.intro hb3 (And.intro hown3 hB3)))
  have T3 := HS.out w3 hB3
  clear hB3 hB3' hq3 hb3 hown3 hw3
  refine wpAnyH_ready (rs := [19]) (by kernel_rfl) (by simp) ?_
  refine AllReadyH.cons rfl (fun K1 hK1 => ?_) AllReadyH.nil
  refine step_run (w' := w3) 26 (.pointer (some ⟨w2.heap.size, 0, none⟩)) rfl rfl (by rw [← HW3.out]; go_simp; first | done | rfl) ?_
  refine hK1.out _ _ T3 (fun hHeld => ?_)
  clear hK1 K1 T3
  simp only [Act.put, List.setIfInBounds_toArray, List.set_cons_zero, List.set_cons_succ]
  refine take_run 20 3 (v := ?_) rfl rfl (by kernel_rfl) (by kernel_rfl) (by kernel_rfl) (fun _ _ _ h => h) (by rfl) ?_ (by assumption) ?_
  rotate_left
  · (intro wq hSw; obtain ⟨hS1, hS2, hS3, hS4⟩ := hSw; go_simp; first | done | with_reducible rfl)
  simp only [Act.put, List.setIfInBounds_toArray, List.set_cons_zero, List.set_cons_succ]
  refine wpAnyH_done (by kernel_rfl) ?_ _
  obtain ⟨hq3, hb3, hown3, hB3⟩ := H3.out
  have hs1 : w.heap.size ≤ w1.heap.size := H1.out.2.2.1.size
  have hs2 : w.heap.size ≤ w2.heap.size := H2.out.2.2.size
  have hg1 : w.heap.size ≤ g1 := H1.out.1
  have R0 : w3.drew.cell? ⟨p, 2, none⟩ = some (.int .i64 (D.ops : Int)) := (hB3.cell (p := ⟨p, 2, none⟩) hpl).trans ((Box.cell HD.out.2.1 2).trans rfl)
  have hLd := load_low w3.drew p 2 (D.ops : Int) R0
  have hSt := store_low w3.drew w2.heap.size 2 (D.ops : Int) _ (show w3.drew.cell? ⟨w2.heap.size, 2, none⟩ = some (.int .i64 0) from (Box.cell hq3 2).trans rfl) (Box.frozen hq3 2)
  obtain ⟨w4, hw4⟩ : ∃ x, w3.drew.setCell ⟨w2.heap.size, 2, none⟩ (.int .i64 (D.ops : Int)) = x := ⟨_, rfl⟩
  rw [hw4] at hSt
  have hg4 : w3.grownBy w4 (some w2.heap.size) := by rw [← hw4]; exact grown_set (grown_drew (grown_refl w3 _)) 2 _
  have hq4 : Box w4 w2.heap.size 64 (dc g1 (cap1, r1) (.slice A2 D.ws.length c2) D) := by
    rw [← hw4]
    exact Box.put (w := w3.drew) hq3 2 _
  have hb4 := Box.grown hb3 hg4 (fun e => by
    have e : g1 = w2.heap.size := by injection e
    have := H2.out.1.lt
    omega)
  have hown4 := World.ownsRow.kept hown3 hg4 (.inr (Box.apart hq3 hown3 (by decide)))
  have hB4 : Below w.heap.size w w4 := hB3.trans ((Below.refl _ w3).grown hg4 hB3.size (fun k e => by injection e with e; omega))
  have R4 : w4.cell? ⟨p, 2, none⟩ = some (.int .i64 (D.ops : Int)) := (hB4.cell (p := ⟨p, 2, none⟩) hpl).trans ((Box.cell HD.out.2.1 2).trans rfl)
  have hfin : Dev w4 (fun k => w.heap.size ≤ k ∧ k < w4.heap.size) w2.heap.size D ∧ Below w.heap.size w w4 :=
    ⟨⟨HD.out.1, g1, (cap1, r1), .slice A2 D.ws.length c2, hq4, hb4, ⟨hown4.1, hown4.2.imp id (fun ⟨g, cap, cur, h1, h2, h3⟩ => ⟨g, cap, cur, h1, Nat.zero_le _, h3⟩)⟩, ⟨hs2, hq4.lt⟩, ⟨hg1, hb4.lt⟩, fun k e => by have := World.ownsRow.lt hown4 k e; omega⟩, hB4⟩
  have HF := Lib.hid hfin
  clear hfin hq4 hb4 hown4 hB4 hg4 hw4 hq3 hb3 hown3 hB3 H3 H2 H1 HC1 HS HD hHeld hM
  generalize D.ops = ops at *
  generalize D.ws.length = nw at *
  generalize D.bs.length = nb at *
  go_upto_region 4 with fail
  refine wp_region_held_drew (S := fun w' => w'.cell? ⟨p, 2, none⟩ = some (.int .i64 (ops : Int))) (by kernel_rfl) R0 (fun hHeld => ?_)
  refine take_run 0 27 (v := ?_) rfl rfl (by kernel_rfl) (by kernel_rfl) (by kernel_rfl) (fun _ _ _ h => h) (by rfl) ?_ (by assumption) ?_
  rotate_left
  · (intro wq hSw; obtain hS1 := hSw; go_simp; first | done | with_reducible rfl)
  simp only [Act.put, List.setIfInBounds_toArray, List.set_cons_zero, List.set_cons_succ]
  refine take_run 1 28 (v := ?_) rfl rfl (by kernel_rfl) (by kernel_rfl) (by kernel_rfl) (fun _ _ _ h => h) (by rfl) ?_ (by assumption) ?_
  rotate_left
  · (intro wq hSw; obtain hS1 := hSw; go_simp; first | done | with_reducible rfl)
  simp only [Act.put, List.setIfInBounds_toArray, List.set_cons_zero, List.set_cons_succ]
  refine take_run 2 29 (v := ?_) rfl rfl (by kernel_rfl) (by kernel_rfl) (by kernel_rfl) (fun _ _ _ h => h) (by rfl) ?_ (by assumption) ?_
  rotate_left
  · (intro wq hSw; obtain hS1 := hSw; go_simp; first | done | with_reducible rfl)
  simp only [Act.put, List.setIfInBounds_toArray, List.set_cons_zero, List.set_cons_succ]
  refine take_run 3 30 (v := ?_) rfl rfl (by kernel_rfl) (by kernel_rfl) (by kernel_rfl) (fun _ _ _ h => h) (by rfl) ?_ (by assumption) ?_
  rotate_left
  · (intro wq hSw; obtain hS1 := hSw; go_simp; first | done | with_reducible rfl)
  simp only [Act.put, List.setIfInBounds_toArray, List.set_cons_zero, List.set_cons_succ]
  refine take_run 4 31 (v := ?_) rfl rfl (by kernel_rfl) (by kernel_rfl) (by kernel_rfl) (fun _ _ _ h => h) (by rfl) ?_ (by assumption) ?_
  rotate_left
  · (intro wq hSw; obtain hS1 := hSw; go_simp; first | done | with_reducible rfl)
  simp only [Act.put, List.setIfInBounds_toArray, List.set_cons_zero, List.set_cons_succ]
  refine take_run 5 32 (v := ?_) rfl rfl (by kernel_rfl) (by kernel_rfl) (by kernel_rfl) (fun _ _ _ h => h) (by rfl) ?_ (by assumption) ?_
  rotate_left
  · (intro wq hSw; obtain hS1 := hSw; go_simp; first | done | with_reducible rfl)
  simp only [Act.put, List.setIfInBounds_toArray, List.set_cons_zero, List.set_cons_succ]
  refine wpAnyH_ready (rs := [6]) (by kernel_rfl) (by simp) ?_
  refine AllReadyH.cons rfl (fun K hK => ?_) AllReadyH.nil
  go_simp
  refine (hLd).mono ?_
  rintro e wn ⟨rfl, hwn⟩
  obtain rfl : w3.drew = wn := hwn.symm
  clear hwn
  refine hK.out _ _ (by assumption) (fun hHeld => ?_)
  clear hK K
  refine wpAnyH_ready (rs := [7]) (by kernel_rfl) (by simp) ?_
  refine AllReadyH.cons rfl (fun K hK => ?_) AllReadyH.nil
  go_simp
  refine (hSt).mono ?_
  rintro e wn ⟨rfl, hwn⟩
  obtain rfl : w4 = wn := hwn.symm
  clear hwn
  refine hK.out _ _ R4 (fun hHeld => ?_)
  clear hK K
  refine wpAnyH_done (by kernel_rfl) ?_ _
  clear hHeld R0 R4 hLd hSt
  go_wp2
  go_ret
  exact ⟨_, rfl, HF.out⟩
end
end Go.Proofs.Ytemgphpgfdnkeaa
