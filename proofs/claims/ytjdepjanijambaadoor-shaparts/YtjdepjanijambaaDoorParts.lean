/-
  The law ShaParts, walked.
-/
import Derived.Test.YtjdepjanijambaaDoorOfWalk
import Derived.Test.YtjdepjanijambaaDoorOwn
import Derived.Test.YtjdepjanijambaaDoorOpenRows
import Derived.Deep.DeepCutAuto
import Derived.Deep.CutBlock
namespace Go.Proofs.YtjdepjanijambaaDoor
open Go.RowKit

theorem eql_Sum (l : List UInt8) (w : World) : (Op.equalIn 10000 41 (.agg (sum32 l)) (.agg (sum32 l))).run Tryd.prog w = .ok true w := by
  obtain ⟨i, hi⟩ := info_byte
  rw [show (10000 : Nat) = 9999 + 1 from rfl, run_equalIn_array w 9999 _ _ Tryd.underlying41 hi]
  exact eqItems_same (sumB (shaS l)) 32 9998 w (List.range 32) (fun i hi => by simpa using hi)
theorem const_lies_ne (w : World) (l : List UInt8) (g : Nat) (hg : g < w.heap.size) : Lies (w.alloc (.cells (bc l).toArray 5 (l.length, l.length + 1))) (· ≠ g) (some ⟨w.heap.size, 0, none⟩) l.length l.length (bc l) := by
  refine ⟨bc_length l, Nat.le_refl _, fun _ => ⟨_, rfl, Nat.ne_of_gt hg, by simp, fun j u hu => ?_⟩⟩
  rw [Addr.add_mid, World.cell?_alloc_mark, Nat.zero_add, List.getElem?_toArray]
  exact hu
theorem x_lies (w : World) (g : Nat) (hg : g < w.heap.size) : Lies (w.alloc (.cells #[Value.int .u8 120] 5 (1, 2))) (· ≠ g) (some ⟨w.heap.size, 0, none⟩) 1 1 (bc [120]) := const_lies_ne w [120] g hg
theorem Hsh.apart {w w' : World} {g base : Nat} {l m : List UInt8} {v : Value} (h : Hsh w g l) (ho : Own w base v m) (hg : w.grownBy w' v.ownBlock) : Hsh w' g l := by
  obtain ⟨B, h1, h2⟩ := h
  exact ⟨B, h1.grown hg (fun e => h1.apart ho (by decide) e.symm), h2⟩
theorem Hsh.ne {w : World} {g base : Nat} {l m : List UInt8} {v : Value} (h : Hsh w g l) (ho : Own w base v m) : v.ownBlock ≠ some g := by
  obtain ⟨B, h1, h2⟩ := h
  exact h1.apart ho (by decide)

theorem below_grown' {w wr w' : World} {gh : Nat} {v : Value} {l : List UInt8} (h : Below gh w wr) (ho : Own wr (gh + 1) v l) (hg : wr.grownBy w' v.ownBlock) (hb : gh + 1 ≤ wr.heap.size) : Below gh w w' :=
  h.trans ((ho.changed hg hb).mono (by omega))

/-- Between two rounds. -/
structure PInv (w : World) (gh : Nat) (v : Value) (p : List UInt8) (wr : World) : Prop where
  own : Own wr (gh + 1) v p
  hsh : Hsh wr gh p
  tabs : Tabs wr
  bel : Below gh w wr
  base : gh + 1 ≤ wr.heap.size
/-- Behind the append of a round: q was taken in behind p. -/
structure PMid (w : World) (gh gc : Nat) (A : Option Addr) (n c : Nat) (p q : List UInt8) (wr : World) : Prop where
  inv : PInv w gh (.slice A n c) q wr
  clone : Hsh wr gc p
  lies : Lies wr (fun _ => True) A n c (bc q)

section
variable {w wr w' : World} {gh gc : Nat} {v : Value} {A : Option Addr} {n c : Nat} {p q : List UInt8}
theorem PInv.below (h : PInv w gh v p wr) (hb : Below wr.heap.size wr w') : PInv w gh v p w' :=
  ⟨h.own.below hb, h.hsh.below hb, h.tabs.below hb h.tabs.two, h.bel.trans (hb.mono (by have := h.base; omega)), Nat.le_trans h.base hb.size⟩
theorem PMid.below (h : PMid w gh gc A n c p q wr) (hb : Below wr.heap.size wr w') : PMid w gh gc A n c p q w' := ⟨h.inv.below hb, h.clone.below hb, h.lies.below hb⟩
theorem PMid.first (h : PMid w gh gc A n c p q wr) (hp : p.length ≤ n ∧ q.take p.length = p) : Lies wr (fun _ => True) A p.length c (bc p) := by
  have h1 := h.lies.first hp.1
  rw [bc_take, hp.2] at h1
  exact h1
theorem PInv.drew (h : PInv w gh v p wr) : PInv w gh v p wr.drew := ⟨h.own, h.hsh, tabs_heap h.tabs rfl, h.bel.drew, h.base⟩
theorem PMid.drew (h : PMid w gh gc A n c p q wr) : PMid w gh gc A n c p q wr.drew := ⟨h.inv.drew, h.clone, h.lies⟩
end

set_option maxRecDepth 100000 in
set_option maxHeartbeats 2000000 in
theorem parts_walk (A : Option Addr) (n c : Nat) (w : World) (hr : LiesRows w A n c) (ht : Tabs w) :
    Calls Tryd.prog 5 #[.slice A n c] w fun e w' => e = .returned (.bool true) ∧ Below w.heap.size w w' := by
  have hbt := ht.two
  obtain ⟨xs, hx, hxs⟩ := hr
  have HX := Lib.hid hx
  have HXS := Lib.hid hxs
  have HT := Lib.hid ht
  clear hx hxs ht
  go_enter Tryd.func5, Tryd.ntmps5
  go_wp2_with fail
  refine (new_any w HT.out).mono ?_
  rintro e w1 ⟨rfl, hw1⟩
  have hb1 := below1 w (.cells (hcells First noughts 0).toArray 49)
  have hh1 := hsh_new (w := w)
  have hz1 : (w.alloc (.cells (hcells First noughts 0).toArray 49)).heap.size = w.heap.size + 1 := by simp
  rw [hw1] at hb1 hh1 hz1
  have HI := Lib.hid (show PInv w w.heap.size (.slice none 0 0) [] w1 from ⟨Own.nil _ _, hh1, HT.out.below hb1 hbt, hb1, Nat.le_of_eq hz1.symm⟩)
  clear hb1 hh1 hz1 hw1
  obtain ⟨gh, hgh⟩ : ∃ gh, gh = w.heap.size := ⟨_, rfl⟩
  have HGH := Lib.hid hgh
  rw [← hgh] at HI hbt ⊢
  clear hgh
  go_wp2_with fail
  go_loopw [4, 5] (fun v i wr => ∃ (k : Nat) (p : List UInt8), k ≤ 12 ∧ i = .int .i64 (k : Int) ∧ p.length ≤ 200 * k ∧ PInv w gh v p wr) (fun _ i _ => 12 - (intOf i).toNat)
  case atStart => exact ⟨0, [], by omega, rfl, by simp, HI.out⟩
  case round =>
    clear HI
    obtain ⟨k, p, hk, rfl, hp, hi⟩ := hrel
    have HI := Lib.hid hi
    have HP := Lib.hid hp
    clear hi hp
    by_cases hgo : k < n ∧ k < 12
    · obtain ⟨hk1, hk12⟩ := hgo
      obtain ⟨A', n', c', l, hu, hl, hnil⟩ := HXS.out k hk1
      have hbel := HI.out.bel
      rw [HGH.out] at hbel
      obtain ⟨b, off, rfl, _, _, hcz⟩ := (HX.out.below hbel).at hu
      have HL := Lib.hid ((hl.weak (N' := (· < gh)) (fun _ h _ => by rw [HGH.out]; exact h)).below hbel)
      have HN := Lib.hid hnil
      have hnc := hl.le
      have hln : l.length = n' := by rw [← bc_length]; exact hl.len
      have HLN := Lib.hid hln
      clear hu hl hnil hbel hln
      have d1 : decide ((k : Int) < (n : Int)) = true := by simp; omega
      have d2 : decide ((k : Int) < 12) = true := by simp; omega
      have d3 : (k : Int) < (n : Int) := by omega
      go_upto_if 25 with fail
      go_cut [6] (fun v wq => ∃ A2 m2 c2 l2, v = .slice A2 m2 c2 ∧ m2 ≤ 200 ∧ Lies wr (· < gh) A2 m2 c2 (bc l2) ∧ (A2 = none → c2 = 0) ∧ wr = wq)
      case first =>
        by_cases hbig : 200 < n'
        · have e1 : (200 : Int) < (n' : Int) := by omega
          have hsl := fun wq => sliceAt_to Tryd.underlying32 infoByte .i64 A' n' c' 200 (by omega) wq
          go_wp2
          go_meet
          exact ⟨_, 200, _, l.take 200, rfl, Nat.le_refl _, by rw [← bc_take]; exact HL.out.first (by omega), HN.out, rfl⟩
        · have e1 : ¬ (200 : Int) < (n' : Int) := by omega
          go_wp2
          go_meet
          exact ⟨_, n', _, l, rfl, by omega, HL.out, HN.out, rfl⟩
      case rest =>
        obtain ⟨A2, m2, c2, l2, rfl, hm2, hl2, hnil2, rfl⟩ := hcut
        clear HL HN hnc HLN hcz d1 d2 d3
        have hln2 : l2.length = m2 := by rw [← bc_length]; exact hl2.len
        have HL2 := Lib.hid hl2
        have HN2 := Lib.hid hnil2
        have HLN2 := Lib.hid hln2
        clear hl2 hnil2 hln2
        go_wp2_with fail
        refine (clone_made gh p wr HI.out.hsh).mono ?_
        rintro e w2 ⟨rfl, hh2, hb2⟩
        have HI2 := Lib.hid (HI.out.below hb2)
        have HC2 := Lib.hid hh2
        have HL3 := Lib.hid (HL2.out.below hb2)
        have hgc : gh < wr.heap.size := HI.out.hsh.lt
        clear hh2 hb2 HL2 HI
        generalize wr.heap.size = gc at HC2 hgc ⊢
        go_wp2_with fail
        have hplen : p.length ≤ 2400 := by have := HP.out; omega
        refine (take_any gh p l2 _ _ _ w2 HI2.out.hsh (HL3.out.weak (fun _ _ h => Nat.ne_of_lt h)) HI2.out.tabs (by omega) (by have := HLN2.out; omega)).mono ?_
        rintro e w3 ⟨rfl, hh3, hg3⟩
        have HH3 := Lib.hid hh3
        have HC3 := Lib.hid (HC2.out.grown hg3 (by omega))
        have HO3 := Lib.hid (HI2.out.own.grown hg3 (HI2.out.own.ne (by omega)))
        have HT3 := Lib.hid (HI2.out.tabs.grown hg3 (by omega))
        have HB3 := Lib.hid (below_grown HI2.out.bel hg3 (Nat.le_refl _) (by have := HI2.out.base; omega))
        have HZ3 := Lib.hid (Nat.le_trans HI2.out.base hg3.size)
        have HL4 := Lib.hid (HL3.out.grown hg3 (by omega))
        clear hh3 hg3 HI2 HC2 HL3
        rename Value => v
        have hq2 : p.length + l2.length ≤ 8589934592 := by have := HLN2.out; omega
        have hz3 := HZ3.out
        go_wp2_with (at_builtin; refine wpList_bytes w3 (.tmp 33) (.tmp 34) rfl rfl (gh + 1) _ p A2 m2 c2 l2 rfl rfl HO3.out HL4.out HN2.out hq2 hz3 ?_; intro v4 w4 hown4 hg4)
        have hbel4 := below_grown' HB3.out HO3.out hg4 HZ3.out
        have HI4 := Lib.hid (show PInv w gh v4 (p ++ l2) w4 from ⟨hown4, HH3.out.apart HO3.out hg4, HT3.out.below (HO3.out.changed hg4 HZ3.out) (by omega), hbel4, Nat.le_trans HZ3.out hg4.size⟩)
        have HC4 := Lib.hid (HC3.out.apart HO3.out hg4)
        clear hbel4 hown4 hg4 HH3 HC3 HO3 HT3 HB3 HZ3 hz3 HL4
        obtain ⟨A5, c5, rfl, hl5⟩ := HI4.out.own.lies
        obtain ⟨q, hq⟩ : ∃ q, q = p ++ l2 := ⟨_, rfl⟩
        have hqn : q.length = p.length + m2 := by rw [hq, List.length_append, HLN2.out]
        have hqp : q.take p.length = p := by rw [hq]; simp
        have hz4 := Nat.lt_of_lt_of_le hgc (Nat.le_of_lt HC4.out.lt)
        rw [← hq] at HI4 hl5 ⊢
        have HM := Lib.hid (show PMid w gh gc A5 q.length c5 p q w4 from ⟨HI4.out, HC4.out, hl5⟩)
        have hqc := hl5.le
        clear hq hl5 HI4 HC4
        obtain ⟨N5, hN5⟩ : ∃ N5, N5 = q.length := ⟨_, rfl⟩
        have HN5 := Lib.hid hN5
        have HQP := Lib.hid hqp
        have esub : (N5 : Int) - (m2 : Int) = (p.length : Int) := by omega
        have ewp : IntKind.i64.wrap (p.length : Int) = (p.length : Int) := IntWalk.i64_in _ (by omega)
        have hsl := fun wq => sliceAt_to Tryd.underlying32 infoByte .i64 A5 N5 c5 p.length (by omega) wq
        have heq := eql_Sum q
        have hep := eql_Sum p
        rw [← hN5] at HM hqc ⊢
        have HQL := Lib.hid (show q.length ≤ 200 * (k + 1) by have := HP.out; omega)
        have hN5b : N5 ≤ 2600 := by omega
        have hqz := Lib.hid (show q.length < 576460752303423488 by omega)
        have hpz := Lib.hid (show p.length < 576460752303423488 by omega)
        have hlp := Lib.hid (show p.length ≤ N5 ∧ q.take p.length = p from ⟨by omega, hqp⟩)
        clear hqn hqp hN5 hqc
        refine wp_region_held_drew (S := fun w' => PMid w gh gc A5 N5 c5 p q w') (by kernel_rfl) (HM.out.drew) (fun hHeld => ?_)
        refine take_run 0 36 (v := ?_) rfl rfl (by kernel_rfl) (by kernel_rfl) (by kernel_rfl) (fun _ _ _ h => h) (by rfl) ?_ (by assumption) ?_
        rotate_left
        · (intro wq hSw; (try dsimp only at hSw); go_simp; first | done | with_reducible rfl)
        simp only [Act.put, List.setIfInBounds_toArray, List.set_cons_zero, List.set_cons_succ]
        refine take_run 2 38 (v := ?_) rfl rfl (by kernel_rfl) (by kernel_rfl) (by kernel_rfl) (fun _ _ _ h => h) (by rfl) ?_ (by assumption) ?_
        rotate_left
        · (intro wq hSw; (try dsimp only at hSw); go_simp; first | done | with_reducible rfl)
        simp only [Act.put, List.setIfInBounds_toArray, List.set_cons_zero, List.set_cons_succ]
        refine wpAnyH_ready (rs := [1]) (by kernel_rfl) (by simp) ?_
        refine AllReadyH.cons rfl (fun K hK => ?_) AllReadyH.nil
        go_simp
        refine (sum_made gh q _ hHeld.inv.hsh hHeld.inv.tabs hqz.out).mono ?_
        rintro r wc ⟨rfl, hbc⟩
        dsimp only
        refine hK.out _ _ (hHeld.below hbc) (fun hHeld => ?_)
        clear hK K
        refine wpAnyH_ready (rs := [3]) (by kernel_rfl) (by simp) ?_
        refine AllReadyH.cons rfl (fun K hK => ?_) AllReadyH.nil
        go_simp
        refine (of_any A5 N5 c5 q _ hHeld.lies hHeld.inv.tabs hqz.out).mono ?_
        rintro r wc ⟨rfl, hbc⟩
        dsimp only
        refine hK.out _ _ (hHeld.below hbc) (fun hHeld => ?_)
        clear hK K
        refine take_run 4 40 (v := ?_) rfl rfl (by kernel_rfl) (by kernel_rfl) (by kernel_rfl) (fun _ _ _ h => h) (by rfl) ?_ (by assumption) ?_
        rotate_left
        · (intro wq hSw; (try dsimp only at hSw); go_simp; first | done | with_reducible rfl)
        simp only [Act.put, List.setIfInBounds_toArray, List.set_cons_zero, List.set_cons_succ]
        refine take_run 5 41 (v := ?_) rfl rfl (by kernel_rfl) (by kernel_rfl) (by kernel_rfl) (fun _ _ _ h => h) (by rfl) ?_ (by assumption) ?_
        rotate_left
        · (intro wq hSw; (try dsimp only at hSw); go_simp; first | done | with_reducible rfl)
        simp only [Act.put, List.setIfInBounds_toArray, List.set_cons_zero, List.set_cons_succ]
        refine take_run 6 42 (v := ?_) rfl rfl (by kernel_rfl) (by kernel_rfl) (by kernel_rfl) (fun _ _ _ h => h) (by rfl) ?_ (by assumption) ?_
        rotate_left
        · (intro wq hSw; (try dsimp only at hSw); go_simp; first | done | with_reducible rfl)
        simp only [Act.put, List.setIfInBounds_toArray, List.set_cons_zero, List.set_cons_succ]
        refine take_run 8 44 (v := ?_) rfl rfl (by kernel_rfl) (by kernel_rfl) (by kernel_rfl) (fun _ _ _ h => h) (by rfl) ?_ (by assumption) ?_
        rotate_left
        · (intro wq hSw; (try dsimp only at hSw); go_simp; first | done | with_reducible rfl)
        simp only [Act.put, List.setIfInBounds_toArray, List.set_cons_zero, List.set_cons_succ]
        refine wpAnyH_ready (rs := [7]) (by kernel_rfl) (by simp) ?_
        refine AllReadyH.cons rfl (fun K hK => ?_) AllReadyH.nil
        go_simp
        refine (sum_made gh q _ hHeld.inv.hsh hHeld.inv.tabs hqz.out).mono ?_
        rintro r wc ⟨rfl, hbc⟩
        dsimp only
        refine hK.out _ _ (hHeld.below hbc) (fun hHeld => ?_)
        clear hK K
        refine wpAnyH_ready (rs := [9]) (by kernel_rfl) (by simp) ?_
        refine AllReadyH.cons rfl (fun K hK => ?_) AllReadyH.nil
        go_simp
        refine (sum_made gh q _ hHeld.inv.hsh hHeld.inv.tabs hqz.out).mono ?_
        rintro r wc ⟨rfl, hbc⟩
        dsimp only
        refine hK.out _ _ (hHeld.below hbc) (fun hHeld => ?_)
        clear hK K
        refine take_run 10 46 (v := ?_) rfl rfl (by kernel_rfl) (by kernel_rfl) (by kernel_rfl) (fun _ _ _ h => h) (by rfl) ?_ (by assumption) ?_
        rotate_left
        · (intro wq hSw; (try dsimp only at hSw); go_simp; first | done | with_reducible rfl)
        simp only [Act.put, List.setIfInBounds_toArray, List.set_cons_zero, List.set_cons_succ]
        refine take_run 11 47 (v := ?_) rfl rfl (by kernel_rfl) (by kernel_rfl) (by kernel_rfl) (fun _ _ _ h => h) (by rfl) ?_ (by assumption) ?_
        rotate_left
        · (intro wq hSw; (try dsimp only at hSw); go_simp; first | done | with_reducible rfl)
        simp only [Act.put, List.setIfInBounds_toArray, List.set_cons_zero, List.set_cons_succ]
        refine take_run 12 48 (v := ?_) rfl rfl (by kernel_rfl) (by kernel_rfl) (by kernel_rfl) (fun _ _ _ h => h) (by rfl) ?_ (by assumption) ?_
        rotate_left
        · (intro wq hSw; (try dsimp only at hSw); go_simp; first | done | with_reducible rfl)
        simp only [Act.put, List.setIfInBounds_toArray, List.set_cons_zero, List.set_cons_succ]
        refine take_run 13 49 (v := ?_) rfl rfl (by kernel_rfl) (by kernel_rfl) (by kernel_rfl) (fun _ _ _ h => h) (by rfl) ?_ (by assumption) ?_
        rotate_left
        · (intro wq hSw; (try dsimp only at hSw); go_simp; first | done | with_reducible rfl)
        simp only [Act.put, List.setIfInBounds_toArray, List.set_cons_zero, List.set_cons_succ]
        refine take_run 15 51 (v := ?_) rfl rfl (by kernel_rfl) (by kernel_rfl) (by kernel_rfl) (fun _ _ _ h => h) (by rfl) ?_ (by assumption) ?_
        rotate_left
        · (intro wq hSw; (try dsimp only at hSw); go_simp; first | done | with_reducible rfl)
        simp only [Act.put, List.setIfInBounds_toArray, List.set_cons_zero, List.set_cons_succ]
        refine take_run 16 52 (v := ?_) rfl rfl (by kernel_rfl) (by kernel_rfl) (by kernel_rfl) (fun _ _ _ h => h) (by rfl) ?_ (by assumption) ?_
        rotate_left
        · (intro wq hSw; (try dsimp only at hSw); go_simp; first | done | with_reducible rfl)
        simp only [Act.put, List.setIfInBounds_toArray, List.set_cons_zero, List.set_cons_succ]
        refine take_run 17 53 (v := ?_) rfl rfl (by kernel_rfl) (by kernel_rfl) (by kernel_rfl) (fun _ _ _ h => h) (by rfl) ?_ (by assumption) ?_
        rotate_left
        · (intro wq hSw; (try dsimp only at hSw); go_simp; first | done | with_reducible rfl)
        simp only [Act.put, List.setIfInBounds_toArray, List.set_cons_zero, List.set_cons_succ]
        refine take_run 18 54 (v := ?_) rfl rfl (by kernel_rfl) (by kernel_rfl) (by kernel_rfl) (fun _ _ _ h => h) (by rfl) ?_ (by assumption) ?_
        rotate_left
        · (intro wq hSw; (try dsimp only at hSw); go_simp; first | done | with_reducible rfl)
        simp only [Act.put, List.setIfInBounds_toArray, List.set_cons_zero, List.set_cons_succ]
        refine take_run 19 55 (v := ?_) rfl rfl (by kernel_rfl) (by kernel_rfl) (by kernel_rfl) (fun _ _ _ h => h) (by rfl) ?_ (by assumption) ?_
        rotate_left
        · (intro wq hSw; (try dsimp only at hSw); go_simp; first | done | with_reducible rfl)
        simp only [Act.put, List.setIfInBounds_toArray, List.set_cons_zero, List.set_cons_succ]
        refine take_run 20 56 (v := ?_) rfl rfl (by kernel_rfl) (by kernel_rfl) (by kernel_rfl) (fun _ _ _ h => h) (by rfl) ?_ (by assumption) ?_
        rotate_left
        · (intro wq hSw; (try dsimp only at hSw); go_simp; first | done | with_reducible rfl)
        simp only [Act.put, List.setIfInBounds_toArray, List.set_cons_zero, List.set_cons_succ]
        refine take_run 21 57 (v := ?_) rfl rfl (by kernel_rfl) (by kernel_rfl) (by kernel_rfl) (fun _ _ _ h => h) (by rfl) ?_ (by assumption) ?_
        rotate_left
        · (intro wq hSw; (try dsimp only at hSw); go_simp; first | done | with_reducible rfl)
        simp only [Act.put, List.setIfInBounds_toArray, List.set_cons_zero, List.set_cons_succ]
        refine wpAnyH_ready (rs := [14]) (by kernel_rfl) (by simp) ?_
        refine AllReadyH.cons rfl (fun K hK => ?_) AllReadyH.nil
        go_simp
        refine (sum_made gc p _ hHeld.clone hHeld.inv.tabs hpz.out).mono ?_
        rintro r wc ⟨rfl, hbc⟩
        dsimp only
        refine hK.out _ _ (hHeld.below hbc) (fun hHeld => ?_)
        clear hK K
        refine wpAnyH_ready (rs := [22]) (by kernel_rfl) (by simp) ?_
        refine AllReadyH.cons rfl (fun K hK => ?_) AllReadyH.nil
        go_simp
        refine (of_any A5 p.length c5 p _ (hHeld.first hlp.out) hHeld.inv.tabs hpz.out).mono ?_
        rintro r wc ⟨rfl, hbc⟩
        dsimp only
        refine hK.out _ _ (hHeld.below hbc) (fun hHeld => ?_)
        clear hK K
        refine take_run 23 59 (v := ?_) rfl rfl (by kernel_rfl) (by kernel_rfl) (by kernel_rfl) (fun _ _ _ h => h) (by rfl) ?_ (by assumption) ?_
        rotate_left
        · (intro wq hSw; (try dsimp only at hSw); go_simp; first | done | with_reducible rfl)
        simp only [Act.put, List.setIfInBounds_toArray, List.set_cons_zero, List.set_cons_succ]
        refine take_run 24 60 (v := ?_) rfl rfl (by kernel_rfl) (by kernel_rfl) (by kernel_rfl) (fun _ _ _ h => h) (by rfl) ?_ (by assumption) ?_
        rotate_left
        · (intro wq hSw; (try dsimp only at hSw); go_simp; first | done | with_reducible rfl)
        simp only [Act.put, List.setIfInBounds_toArray, List.set_cons_zero, List.set_cons_succ]
        refine wpAnyH_done (by kernel_rfl) ?_ _
        have HM5 := Lib.hid hHeld
        clear hHeld HM hsl heq hep
        have hcv := fun (w : World) (C : Array Value) (n c : Nat) => Lib.run_convert_bytes_const (P := Tryd.prog) w 32 5 C n c Tryd.underlying32 Tryd.underlying5
        go_wp2_with fail
        clear hcv
        have HL6 := Lib.hid (x_lies wc gc HM5.out.clone.lt)
        have HM6 := Lib.hid (HM5.out.below (below1 wc (.cells #[Value.int .u8 120] 5 (1, 2))))
        clear HM5
        generalize wc.alloc (.cells #[Value.int .u8 120] 5 (1, 2)) = w6 at HL6 HM6 ⊢
        refine (take_any gc p [120] _ _ _ w6 HM6.out.clone HL6.out HM6.out.inv.tabs (by omega) (by simp; omega)).mono ?_
        rintro e w7 ⟨rfl, _, hg7⟩
        have HI7 := Lib.hid (show PInv w gh (.slice A5 N5 c5) q w7 from ⟨HM6.out.inv.own.grown hg7 (HM6.out.clone.ne HM6.out.inv.own), HM6.out.inv.hsh.grown hg7 (by omega), HM6.out.inv.tabs.grown hg7 (by omega), below_grown HM6.out.inv.bel hg7 (by omega) (by have := HM6.out.inv.base; omega), Nat.le_trans HM6.out.inv.base hg7.size⟩)
        clear hg7 HM6 HL6
        have elm : IntKind.u64.wrap (N5 : Int) = (N5 : Int) := u64_small (by omega)
        have elm' : (N5 : Int) % 18446744073709551616 = (N5 : Int) := by omega
        go_wp2_with fail
        refine (len_made_n gh q N5 w7 HI7.out.hsh HN5.out.symm).mono ?_
        rintro e w8 ⟨rfl, rfl⟩
        go_wp2_with fail
        go_roundw
        case rel => exact ⟨k + 1, q, by omega, by go_num, HQL.out, HI7.out⟩
        case measure => simp [intOf]; omega
    · obtain ⟨A5, c5, rfl, hl5⟩ := HI.out.own.lies
      have HL5 := Lib.hid hl5
      have heq := eql_Sum p
      have hpz : p.length < 576460752303423488 := by have := HP.out; omega
      have HPZ := Lib.hid hpz
      clear hl5 hpz HP
      generalize hN5 : p.length = N5 at HI HL5 HPZ ⊢
      have HN5 := Lib.hid hN5
      clear hN5
      have hin : (decide (k < n) = true ∧ decide ((k : Int) < (n : Int)) = true ∧ decide (k < 12) = false ∧ decide ((k : Int) < 12) = false) ∨ (decide (k < n) = false ∧ decide ((k : Int) < (n : Int)) = false) := by
        by_cases h1 : k < n
        · exact .inl ⟨by simp; omega, by simp; omega, by simp; omega, by simp; omega⟩
        · exact .inr ⟨by simp; omega, by simp; omega⟩
      clear hgo
      rcases hin with ⟨d1, d1', d2, d2'⟩ | ⟨d1, d1'⟩
      · go_wp2_with fail
        clear d1 d1' d2 d2'
        refine (sum_made gh p wr HI.out.hsh HI.out.tabs (by rw [HN5.out]; exact HPZ.out)).mono ?_
        rintro e w2 ⟨rfl, hb2⟩
        have HI2 := Lib.hid (HI.out.below hb2)
        have HL2 := Lib.hid (HL5.out.below hb2)
        clear hb2 HI HL5
        go_wp2_with fail
        refine (of_any A5 N5 c5 p w2 HL2.out HI2.out.tabs (by rw [HN5.out]; exact HPZ.out)).mono ?_
        rintro e w3 ⟨rfl, hb3⟩
        have HI3 := Lib.hid (HI2.out.below hb3)
        clear hb3 HI2 HL2
        go_wp2_with fail
        refine (one_any w3 HI3.out.tabs).mono ?_
        rintro e w4 ⟨rfl, hb4⟩
        have HI4 := Lib.hid (HI3.out.below hb4)
        clear hb4 HI3
        go_wp2_with fail
        go_ret
        exact ⟨rfl, by rw [← HGH.out]; exact HI4.out.bel⟩
      · go_wp2_with fail
        clear d1 d1'
        refine (sum_made gh p wr HI.out.hsh HI.out.tabs (by rw [HN5.out]; exact HPZ.out)).mono ?_
        rintro e w2 ⟨rfl, hb2⟩
        have HI2 := Lib.hid (HI.out.below hb2)
        have HL2 := Lib.hid (HL5.out.below hb2)
        clear hb2 HI HL5
        go_wp2_with fail
        refine (of_any A5 N5 c5 p w2 HL2.out HI2.out.tabs (by rw [HN5.out]; exact HPZ.out)).mono ?_
        rintro e w3 ⟨rfl, hb3⟩
        have HI3 := Lib.hid (HI2.out.below hb3)
        clear hb3 HI2 HL2
        go_wp2_with fail
        refine (one_any w3 HI3.out.tabs).mono ?_
        rintro e w4 ⟨rfl, hb4⟩
        have HI4 := Lib.hid (HI3.out.below hb4)
        clear hb4 HI3
        go_wp2_with fail
        go_ret
        exact ⟨rfl, by rw [← HGH.out]; exact HI4.out.bel⟩
end Go.Proofs.YtjdepjanijambaaDoor
