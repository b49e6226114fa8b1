/-
  seal: a sealed place of the next transaction is written.
-/
import Derived.Test.YtclhjpageonkgaaGreatJChs
namespace Go.Proofs.YtclhjpageonkgaaGreat
open Go.RowKit

set_option linter.unusedVariables false
set_option linter.unusedSimpArgs false
/-- A sealed block, as a device's. -/
def sealBk (m : Mk) (l : List UInt8) : Bk := bkOf (sealed m l)
theorem sealBk_val (m : Mk) (l : List UInt8) (h : l.length ≤ 220) : (sealBk m l).1 = sealed m l := bkOf_val (sealed_length m l h)
/-- What one write comes to. -/
def writeTo (D : Dv) (n : Nat) (x : Bk) : Int × Dv := if D.call.down = true then (17, D.call) else (0, D.call.write n x)
section
variable {w : World} {K : Nat → Prop} {p dp : Nat} {u : Value} {L : Lg} {D : Dv}
set_option maxRecDepth 100000 in
set_option maxHeartbeats 4000000 in
theorem jseal_says (hb : Box w p 81 (lc dp u L)) (hL : L.Ok) (hp : ¬ K p) (hd : Dev w K dp D) (hK' : ∀ k, w.heap.size ≤ k → K k) (ho : D.ops ≤ 90000) (i : Nat) (hi : i ≤ 1000000) (hin : L.place i < D.bs.length)
    (kind : UInt8) (hk : kind = 1 ∨ kind = 2) (A : Option Addr) (n c : Nat) (l : List UInt8) (hl : Lies w (fun _ => True) A n c (bc l)) (hn : n ≤ 220) :
    Calls Tryz.prog 81 #[.pointer (some ⟨p, 0, none⟩), .int .i64 (i : Int), .int .u8 (kind.toNat : Int), .slice A n c] w fun e w' =>
      e = .returned (.int .i64 (writeTo D (L.place i) (sealBk (L.mark kind hL.seq) l)).1) ∧ Dev w' K dp (writeTo D (L.place i) (sealBk (L.mark kind hL.seq) l)).2 ∧ Touch K w w' := by
  obtain ⟨X, hX⟩ : ∃ X, sealBk (L.mark kind hL.seq) l = X := ⟨_, rfl⟩
  have hll : l.length ≤ 220 := by rw [← bc_length, hl.len]; exact hn
  have hXv : sealed (L.mark kind hL.seq) l = X.1 := by rw [← hX, sealBk_val _ _ hll]
  have hXl : (sealed (L.mark kind hL.seq) l).length = 256 := sealed_length _ _ hll
  rw [hX]
  obtain ⟨nn, hnn⟩ : ∃ m, L.place i = m := ⟨_, rfl⟩
  rw [hnn] at hin ⊢
  have hmay : (L.mark kind hL.seq).may = true := by rcases hk with rfl | rfl <;> rfl
  have HM := Lib.hid (jmark_says hb kind hL.seq)
  generalize hmk : L.mark kind hL.seq = m at *
  have HB := Lib.hid hb
  have HD := Lib.hid hd
  clear hb hd hX
  go_enter Tryz.func81, Tryz.ntmps81
  go_wp2_with fail
  refine HM.out.mono ?_
  rintro e w1 ⟨rfl, hb1⟩
  have HSY := Lib.hid (seal_yes w1 m hmay A n c l (hl.below hb1) hn)
  have HB1 := Lib.hid hb1
  clear hb1 hl HM
  go_wp2_with fail
  refine HSY.out.mono ?_
  rintro e w2 ⟨g, rfl, hg, hx2, hb2⟩
  have hB2 : Below w.heap.size w w2 := HB1.out.trans (hb2.mono HB1.out.size)
  have hgw : w.heap.size ≤ g := Nat.le_trans HB1.out.size hg
  have H2 := Lib.hid (And.intro hB2 (And.intro hgw (And.intro hx2 (And.intro (Box.below HB.out hB2 HB.out.lt) (And.intro (HD.out.aside hB2 g hgw) trivial)))))
  clear hb2 hB2 hx2 hg hgw HSY HB1
  cases hdn : D.call.down with
  | true =>
    have hans : writeTo D nn X = (17, D.call) := by rw [writeTo, if_pos hdn]
    have HA := Lib.hid hans
    clear hans
    go_upto_region 4 with fail
    rename_i KX kx
    have KK := Lib.hid kx
    clear kx
    refine wp_region_held_drew (S := fun u => u.cell? ⟨p, 0, none⟩ = some (.pointer (some ⟨dp, 0, none⟩))) (by kernel_rfl) ((Box.cell (show Box w2.drew p _ _ from H2.out.2.2.2.1) 0).trans rfl) (fun hHeld => ?_)
    refine take_run 0 22 (v := ?_) rfl rfl (by kernel_rfl) (by kernel_rfl) (by kernel_rfl) (fun _ _ _ h => h) (by rfl) ?_ (by assumption) ?_
    rotate_left
    · (intro wq hSw; have hS1 := hSw; go_simp; first | done | with_reducible rfl)
    simp only [Act.put, List.setIfInBounds_toArray, List.set_cons_zero, List.set_cons_succ]
    refine take_run 1 23 (v := ?_) rfl rfl (by kernel_rfl) (by kernel_rfl) (by kernel_rfl) (fun _ _ _ h => h) (by rfl) ?_ (by assumption) ?_
    rotate_left
    · (intro wq hSw; have hS1 := hSw; go_simp; first | done | with_reducible rfl)
    simp only [Act.put, List.setIfInBounds_toArray, List.set_cons_zero, List.set_cons_succ]
    refine take_run 2 24 (v := ?_) rfl rfl (by kernel_rfl) (by kernel_rfl) (by kernel_rfl) (fun _ _ _ h => h) (by rfl) ?_ (by assumption) ?_
    rotate_left
    · (intro wq hSw; have hS1 := hSw; go_simp; first | done | with_reducible rfl)
    simp only [Act.put, List.setIfInBounds_toArray, List.set_cons_zero, List.set_cons_succ]
    refine take_run 3 25 (v := ?_) rfl rfl (by kernel_rfl) (by kernel_rfl) (by kernel_rfl) (fun _ _ _ h => h) (by rfl) ?_ (by assumption) ?_
    rotate_left
    · (intro wq hSw; have hS1 := hSw; go_simp; first | done | with_reducible rfl)
    simp only [Act.put, List.setIfInBounds_toArray, List.set_cons_zero, List.set_cons_succ]
    refine take_run 4 26 (v := ?_) rfl rfl (by kernel_rfl) (by kernel_rfl) (by kernel_rfl) (fun _ _ _ h => h) (by rfl) ?_ (by assumption) ?_
    rotate_left
    · (intro wq hSw; have hS1 := hSw; go_simp; first | done | with_reducible rfl)
    simp only [Act.put, List.setIfInBounds_toArray, List.set_cons_zero, List.set_cons_succ]
    refine take_run 5 27 (v := ?_) rfl rfl (by kernel_rfl) (by kernel_rfl) (by kernel_rfl) (fun _ _ _ h => h) (by rfl) ?_ (by assumption) ?_
    rotate_left
    · (intro wq hSw; have hS1 := hSw; go_simp; first | done | with_reducible rfl)
    simp only [Act.put, List.setIfInBounds_toArray, List.set_cons_zero, List.set_cons_succ]
    refine take_run 7 29 (v := ?_) rfl rfl (by kernel_rfl) (by kernel_rfl) (by kernel_rfl) (fun _ _ _ h => h) (by rfl) ?_ (by assumption) ?_
    rotate_left
    · (intro wq hSw; have hS1 := hSw; go_simp; first | done | with_reducible rfl)
    simp only [Act.put, List.setIfInBounds_toArray, List.set_cons_zero, List.set_cons_succ]
    refine wpAnyH_ready (rs := [6]) (by kernel_rfl) (by simp) ?_
    refine AllReadyH.cons rfl (fun KR hK => ?_) AllReadyH.nil
    go_simp
    refine (jplace_says (w := w2.drew) H2.out.2.2.2.1 hL i hi).mono ?_
    rintro e w3 ⟨rfl, hb3⟩
    have hb3 : Below w2.heap.size w2 w3 := ⟨hb3.os, hb3.tape, hb3.output, hb3.size, hb3.block⟩
    have hx3 := Box.below H2.out.2.2.2.1 hb3 H2.out.2.2.2.1.lt
    have hd3 : Dev w3 (fun k => K k ∧ k ≠ g) dp D := H2.out.2.2.2.2.1.below hb3
    have hX3 := Box.below H2.out.2.2.1 hb3 H2.out.2.2.1.lt
    have hB3 : Below w.heap.size w w3 := H2.out.1.trans (hb3.mono H2.out.1.size)
    have H3 := Lib.hid (And.intro hx3 (And.intro hd3 (And.intro hX3 hB3)))
    clear hd3 hX3 hB3 hb3
    refine hK.out _ _ ((Box.cell hx3 0).trans rfl) (fun hHeld => ?_)
    clear hK KR
    try simp only [Act.put, List.setIfInBounds_toArray, List.set_cons_zero, List.set_cons_succ]
    clear hHeld hx3
    refine wpAnyH_ready (rs := [8]) (by kernel_rfl) (by simp) ?_
    refine AllReadyH.cons rfl (fun K9 hK => ?_) AllReadyH.nil
    go_simp
    refine (write_down H3.out.2.1 (by omega) hdn (nn : Int) (by omega) (some ⟨g, 0, none⟩) 256).mono ?_
    rintro e w4 ⟨rfl, hd4, ht4⟩
    have hx4 := ht4.box H3.out.1 (fun q => hp q.1)
    have HZ := Lib.hid (And.intro (hd4.weak (K' := K) (fun _ q => q.1)) ((Touch.of_below H3.out.2.2.2).trans (ht4.mono (fun _ q => q.1))))
    clear hd4 ht4
    refine hK.out _ _ ((Box.cell hx4 0).trans rfl) (fun hHeld => ?_)
    clear hK K9 hx4
    try simp only [Act.put, List.setIfInBounds_toArray, List.set_cons_zero, List.set_cons_succ]
    refine take_run 9 8 (v := ?_) rfl rfl (by kernel_rfl) (by kernel_rfl) (by kernel_rfl) (fun _ _ _ h => h) (by rfl) ?_ (by assumption) ?_
    rotate_left
    · (intro wq hSw; have hS1 := hSw; go_simp; first | done | with_reducible rfl)
    simp only [Act.put, List.setIfInBounds_toArray, List.set_cons_zero, List.set_cons_succ]
    refine wpAnyH_done (by kernel_rfl) ?_ _
    refine KK.out _ _ ?_
    clear KK KX hHeld
    go_wp2
    go_ret
    rw [HA.out]
    exact ⟨rfl, HZ.out.1, HZ.out.2⟩
  | false =>
    have hans : writeTo D nn X = (0, D.call.write nn X) := by rw [writeTo, if_neg (by rw [hdn]; simp)]
    have HA := Lib.hid hans
    clear hans
    go_upto_region 4 with fail
    rename_i KX kx
    have KK := Lib.hid kx
    clear kx
    refine wp_region_held_drew (S := fun u => u.cell? ⟨p, 0, none⟩ = some (.pointer (some ⟨dp, 0, none⟩))) (by kernel_rfl) ((Box.cell (show Box w2.drew p _ _ from H2.out.2.2.2.1) 0).trans rfl) (fun hHeld => ?_)
    refine take_run 0 22 (v := ?_) rfl rfl (by kernel_rfl) (by kernel_rfl) (by kernel_rfl) (fun _ _ _ h => h) (by rfl) ?_ (by assumption) ?_
    rotate_left
    · (intro wq hSw; have hS1 := hSw; go_simp; first | done | with_reducible rfl)
    simp only [Act.put, List.setIfInBounds_toArray, List.set_cons_zero, List.set_cons_succ]
    refine take_run 1 23 (v := ?_) rfl rfl (by kernel_rfl) (by kernel_rfl) (by kernel_rfl) (fun _ _ _ h => h) (by rfl) ?_ (by assumption) ?_
    rotate_left
    · (intro wq hSw; have hS1 := hSw; go_simp; first | done | with_reducible rfl)
    simp only [Act.put, List.setIfInBounds_toArray, List.set_cons_zero, List.set_cons_succ]
    refine take_run 2 24 (v := ?_) rfl rfl (by kernel_rfl) (by kernel_rfl) (by kernel_rfl) (fun _ _ _ h => h) (by rfl) ?_ (by assumption) ?_
    rotate_left
    · (intro wq hSw; have hS1 := hSw; go_simp; first | done | with_reducible rfl)
    simp only [Act.put, List.setIfInBounds_toArray, List.set_cons_zero, List.set_cons_succ]
    refine take_run 3 25 (v := ?_) rfl rfl (by kernel_rfl) (by kernel_rfl) (by kernel_rfl) (fun _ _ _ h => h) (by rfl) ?_ (by assumption) ?_
    rotate_left
    · (intro wq hSw; have hS1 := hSw; go_simp; first | done | with_reducible rfl)
    simp only [Act.put, List.setIfInBounds_toArray, List.set_cons_zero, List.set_cons_succ]
    refine take_run 4 26 (v := ?_) rfl rfl (by kernel_rfl) (by kernel_rfl) (by kernel_rfl) (fun _ _ _ h => h) (by rfl) ?_ (by assumption) ?_
    rotate_left
    · (intro wq hSw; have hS1 := hSw; go_simp; first | done | with_reducible rfl)
    simp only [Act.put, List.setIfInBounds_toArray, List.set_cons_zero, List.set_cons_succ]
    refine take_run 5 27 (v := ?_) rfl rfl (by kernel_rfl) (by kernel_rfl) (by kernel_rfl) (fun _ _ _ h => h) (by rfl) ?_ (by assumption) ?_
    rotate_left
    · (intro wq hSw; have hS1 := hSw; go_simp; first | done | with_reducible rfl)
    simp only [Act.put, List.setIfInBounds_toArray, List.set_cons_zero, List.set_cons_succ]
    refine take_run 7 29 (v := ?_) rfl rfl (by kernel_rfl) (by kernel_rfl) (by kernel_rfl) (fun _ _ _ h => h) (by rfl) ?_ (by assumption) ?_
    rotate_left
    · (intro wq hSw; have hS1 := hSw; go_simp; first | done | with_reducible rfl)
    simp only [Act.put, List.setIfInBounds_toArray, List.set_cons_zero, List.set_cons_succ]
    refine wpAnyH_ready (rs := [6]) (by kernel_rfl) (by simp) ?_
    refine AllReadyH.cons rfl (fun KR hK => ?_) AllReadyH.nil
    go_simp
    refine (jplace_says (w := w2.drew) H2.out.2.2.2.1 hL i hi).mono ?_
    rintro e w3 ⟨rfl, hb3⟩
    have hb3 : Below w2.heap.size w2 w3 := ⟨hb3.os, hb3.tape, hb3.output, hb3.size, hb3.block⟩
    have hx3 := Box.below H2.out.2.2.2.1 hb3 H2.out.2.2.2.1.lt
    have hd3 : Dev w3 (fun k => K k ∧ k ≠ g) dp D := H2.out.2.2.2.2.1.below hb3
    have hX3 := Box.below H2.out.2.2.1 hb3 H2.out.2.2.1.lt
    have hB3 : Below w.heap.size w w3 := H2.out.1.trans (hb3.mono H2.out.1.size)
    have H3 := Lib.hid (And.intro hx3 (And.intro hd3 (And.intro hX3 hB3)))
    clear hd3 hX3 hB3 hb3
    refine hK.out _ _ ((Box.cell hx3 0).trans rfl) (fun hHeld => ?_)
    clear hK KR
    try simp only [Act.put, List.setIfInBounds_toArray, List.set_cons_zero, List.set_cons_succ]
    clear hHeld hx3
    refine wpAnyH_ready (rs := [8]) (by kernel_rfl) (by simp) ?_
    refine AllReadyH.cons rfl (fun K9 hK => ?_) AllReadyH.nil
    go_simp
    refine (write_up H3.out.2.1 (fun k hk => ⟨hK' k (by have := H3.out.2.2.2.size; omega), by have := H3.out.2.2.1.lt; omega⟩) (by omega) hdn nn hin (fun k => k = g) (some ⟨g, 0, none⟩) 256 X (by
      have := H3.out.2.2.1.toLies (n := 256) (by rw [bc_length]; exact hXl) (Nat.le_refl 256)
      rw [hXv] at this
      exact this) (fun k q1 q2 => q2.2 q1)).mono ?_
    rintro e w4 ⟨rfl, hd4, ht4⟩
    have hx4 := ht4.box H3.out.1 (fun q => hp q.1)
    have HZ := Lib.hid (And.intro (hd4.weak (K' := K) (fun _ q => q.1)) ((Touch.of_below H3.out.2.2.2).trans (ht4.mono (fun _ q => q.1))))
    clear hd4 ht4
    refine hK.out _ _ ((Box.cell hx4 0).trans rfl) (fun hHeld => ?_)
    clear hK K9 hx4
    try simp only [Act.put, List.setIfInBounds_toArray, List.set_cons_zero, List.set_cons_succ]
    refine take_run 9 8 (v := ?_) rfl rfl (by kernel_rfl) (by kernel_rfl) (by kernel_rfl) (fun _ _ _ h => h) (by rfl) ?_ (by assumption) ?_
    rotate_left
    · (intro wq hSw; have hS1 := hSw; go_simp; first | done | with_reducible rfl)
    simp only [Act.put, List.setIfInBounds_toArray, List.set_cons_zero, List.set_cons_succ]
    refine wpAnyH_done (by kernel_rfl) ?_ _
    refine KK.out _ _ ?_
    clear KK KX hHeld
    go_wp2
    go_ret
    rw [HA.out]
    exact ⟨rfl, HZ.out.1, HZ.out.2⟩
end
end Go.Proofs.YtclhjpageonkgaaGreat
