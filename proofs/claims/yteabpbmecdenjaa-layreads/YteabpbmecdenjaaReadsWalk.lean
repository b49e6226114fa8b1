/-
  The law LayReads, walked: whatever is asked of any bytes, a reader tells what the reference tells, has as many left, and is as bad.
-/
import Derived.Test.YteabpbmecdenjaaRefMore
import Derived.Test.YteabpbmecdenjaaHeld
import Derived.Deep.DeepCutAuto
import Derived.Deep.CutBlock
namespace Go.Proofs.Yteabpbmecdenjaa
open Go.RowKit

/-- What is asked: kinds and numbers, two cells each. -/
def Asks (w : World) (B : Nat) (A : Option Addr) (qs : List (Int × Int)) : Prop :=
  ∀ j p, qs[j]? = some p → ∃ b off, A = some ⟨b, off, none⟩ ∧ b < B ∧ w.cell? ⟨b, off + j * 2, none⟩ = some (.int .i64 p.1) ∧ w.cell? ⟨b, off + j * 2 + 1, none⟩ = some (.int .i64 p.2) ∧ p.2 ≤ 9223372036854775807

/-- The reader and the reference's, at one state, in two blocks of the call's own. -/
structure Both (w wx : World) (rb xb : Nat) (q : St) : Prop where
  r : Rds wx rb q
  x : Box wx xb 36 #[.string ⟨q.1.toArray⟩, .int .i64 q.2]
  ne : rb ≠ xb
  rlow : w.heap.size ≤ rb
  xlow : w.heap.size ≤ xb
  len : q.1.length ≤ 2000
  below : Below w.heap.size w wx

theorem fresh_both {w : World} (l : List UInt8) (hl : l.length ≤ 2000) :
    Both w ((w.alloc (.cells #[.bool true, .string ⟨l.toArray⟩, .int .i64 0] 55)).alloc (.cells #[.string ⟨l.toArray⟩, .int .i64 0] 36)) w.heap.size (w.heap.size + 1) (l, 0) := by
  refine ⟨(Box.made w _ _).alloc _, ?_, by omega, Nat.le_refl _, by omega, hl, ((Below.refl _ w).alloc (Nat.le_refl _) _).alloc (by simp) _⟩
  have := Box.made (w.alloc (.cells #[.bool true, .string ⟨l.toArray⟩, .int .i64 0] 55)) 36 #[.string ⟨l.toArray⟩, .int .i64 0]
  simpa using this
theorem fresh_both' {w : World} (l : List UInt8) (hl : l.length ≤ 2000) :
    Both w ((w.alloc (.cells #[.string ⟨l.toArray⟩, .int .i64 0] 36)).alloc (.cells #[.bool true, .string ⟨l.toArray⟩, .int .i64 0] 55)) (w.heap.size + 1) w.heap.size (l, 0) := by
  refine ⟨?_, (Box.made w _ _).alloc _, by omega, by omega, Nat.le_refl _, hl, ((Below.refl _ w).alloc (Nat.le_refl _) _).alloc (by simp) _⟩
  have h := Box.made (w.alloc (.cells #[.string ⟨l.toArray⟩, .int .i64 0] 36)) 55 #[.bool true, .string ⟨l.toArray⟩, .int .i64 0]
  rw [show (w.alloc (.cells #[.string ⟨l.toArray⟩, .int .i64 0] 36)).heap.size = w.heap.size + 1 by simp] at h
  exact h
theorem Both.drew {w wx : World} {rb xb : Nat} {q : St} (h : Both w wx rb xb q) : Both w wx.drew rb xb q := ⟨h.r, h.x, h.ne, h.rlow, h.xlow, h.len, h.below.drew⟩

/-- The reference's has gone on, the reader not yet. -/
structure Mid (w wx : World) (rb xb : Nat) (q q' : St) : Prop where
  r : Rds wx rb q
  x : Box wx xb 36 #[.string ⟨q'.1.toArray⟩, .int .i64 q'.2]
  ne : rb ≠ xb
  rlow : w.heap.size ≤ rb
  xlow : w.heap.size ≤ xb
  len : q.1.length ≤ 2000
  len' : q'.1.length ≤ 2000
  below : Below w.heap.size w wx

section
variable {w wx wy : World} {rb xb : Nat} {q q' : St}
theorem Both.go_on (h : Both w wx rb xb q) (hb : Below wx.heap.size wx wy) : Both w wy rb xb q :=
  ⟨Box.below h.r hb (Box.lt h.r), Box.below h.x hb h.x.lt, h.ne, h.rlow, h.xlow, h.len, h.below.trans (hb.mono h.below.size)⟩
theorem Both.write (h : Both w wx rb xb q) (q' : St) (hl : q'.1.length ≤ 2000) : Mid w ((wx.setCell ⟨xb, 0, none⟩ (.string ⟨q'.1.toArray⟩)).setCell ⟨xb, 1, none⟩ (.int .i64 q'.2)) rb xb q q' :=
  ⟨box_far (box_far h.r (p := ⟨xb, 0, none⟩) h.ne _) (p := ⟨xb, 1, none⟩) h.ne _, Box.put (Box.put h.x 0 _) 1 _, h.ne, h.rlow, h.xlow, h.len, hl, (h.below.setCell (p := ⟨xb, 0, none⟩) h.xlow _).setCell (p := ⟨xb, 1, none⟩) h.xlow _⟩
theorem Mid.over (h : Mid w wx rb xb q q') (hr : Rds wy rb q') (hg : wx.grownBy wy (some rb)) : Both w wy rb xb q' :=
  ⟨hr, Box.grown h.x hg (fun e => h.ne (by injection e with e; exact e.symm)), h.ne, h.rlow, h.xlow, h.len', below_grown h.below hg h.rlow h.below.size⟩
theorem Both.x0 (h : Both w wx rb xb q) : wx.cell? ⟨xb, 0, none⟩ = some (.string ⟨q.1.toArray⟩) := h.x.cell 0
theorem Both.x1 (h : Both w wx rb xb q) : wx.cell? ⟨xb, 1, none⟩ = some (.int .i64 q.2) := h.x.cell 1
end

theorem Both.far {w wx : World} {rb xb yb : Nat} {q : St} (h : Both w wx rb xb q) (hr : rb ≠ yb) (hx : xb ≠ yb) (hy : w.heap.size ≤ yb) (u v : Value) : Both w ((wx.setCell ⟨yb, 0, none⟩ u).setCell ⟨yb, 1, none⟩ v) rb xb q :=
  ⟨box_far (box_far h.r (p := ⟨yb, 0, none⟩) hr _) (p := ⟨yb, 1, none⟩) hr _, box_far (box_far h.x (p := ⟨yb, 0, none⟩) hx _) (p := ⟨yb, 1, none⟩) hx _, h.ne, h.rlow, h.xlow, h.len, (h.below.setCell (p := ⟨yb, 0, none⟩) hy _).setCell (p := ⟨yb, 1, none⟩) hy _⟩
theorem Both.ask {w wx : World} {rb xb b o : Nat} {q : St} {v : Value} (h : Both w wx rb xb q) (hb : b < w.heap.size) (hc : w.cell? ⟨b, o, none⟩ = some v) : wx.cell? ⟨b, o, none⟩ = some v :=
  (h.below.cell (p := ⟨b, o, none⟩) hb).trans hc
theorem Mid.ask {w wx : World} {rb xb b o : Nat} {q q' : St} {v : Value} (h : Mid w wx rb xb q q') (hb : b < w.heap.size) (hc : w.cell? ⟨b, o, none⟩ = some v) : wx.cell? ⟨b, o, none⟩ = some v :=
  (h.below.cell (p := ⟨b, o, none⟩) hb).trans hc
theorem reads_rawlen (n : Int) (q : St) : (stRaw n q).1.length ≤ q.1.length := by
  unfold stRaw
  split
  · split
    · simp
    · split
      · simp
      · simp
  · exact Nat.le_refl _

/-- What the reference's call leaves: its new state in a block of its own, and its answer. -/
def AskRel (w : World) (rb xb : Nat) (q q' : St) (V : Value) (y v : Value) (wx : World) : Prop :=
  ∃ yb, y = .pointer (some ⟨yb, 0, none⟩) ∧ v = V ∧ Box wx yb 36 #[.string ⟨q'.1.toArray⟩, .int .i64 q'.2] ∧ yb ≠ xb ∧ Both w wx rb xb q

theorem ask_new {w wx wy : World} {rb xb : Nat} {q q' : St} {V : Value} (h : Both w wx rb xb q) (hb : Below wx.heap.size wx wy) :
    AskRel w rb xb q q' V (.pointer (some ⟨wy.heap.size, 0, none⟩)) V (wy.alloc (.cells #[.string ⟨q'.1.toArray⟩, .int .i64 q'.2] 36)) :=
  ⟨_, rfl, rfl, Box.made wy _ _, by have := h.x.lt; have := hb.size; omega, (h.go_on hb).go_on ((Below.refl _ wy).alloc (Nat.le_refl _) _)⟩

set_option maxHeartbeats 8000000 in
set_option maxRecDepth 100000 in
theorem reads_main (A0 A1 : Option Addr) (n0 c0 n1 c1 : Nat) (l : List UInt8) (qs : List (Int × Int)) (w : World)
    (h0 : Arg w A0 n0 c0 (bc l)) (h1 : Asks w w.heap.size A1 qs) (hq : qs.length = n1) (hl : n0 ≤ 2000) :
    Calls Try.prog 4 #[.slice A0 n0 c0, .slice A1 n1 c1] w (Yes w) := by
  have hln : l.length = n0 := by have := h0.len; rwa [bc_length] at this
  have hd0 : decide ((2000 : Int) < (n0 : Int)) = false := by simp; omega
  have HS0 := Lib.hid (h0.sl)
  have H1 := Lib.hid h1
  have HQ := Lib.hid hq
  have hl2 : l.length ≤ 2000 := by omega
  clear h0 h1 hq hln
  go_enter Try.func4, Try.ntmps4
  go_upto_region 3 with fail
  go_cut [5, 6] (fun r x wx => ∃ rb xb, r = .pointer (some ⟨rb, 0, none⟩) ∧ x = .pointer (some ⟨xb, 0, none⟩) ∧ Both w wx rb xb (l, 0))
  case first =>
    refine wp_region_held_drew (S := fun w' => (convert 22 9 (.slice A0 n0 c0)).run Try.prog w' = .ok (.string ⟨l.toArray⟩) w') (by kernel_rfl) (conv_sl (w := w.drew) HS0.out) (fun hHeld => ?_)
    refine take_run 0 19 (v := ?_) rfl rfl (by kernel_rfl) (by kernel_rfl) (by kernel_rfl) (fun _ _ _ h => h) (by rfl) ?_ (by assumption) ?_
    rotate_left
    · (intro wq hSw; (try dsimp only at hSw); go_simp; first | done | with_reducible rfl)
    simp only [Act.put, List.setIfInBounds_toArray, List.set_cons_zero, List.set_cons_succ]
    refine take_run 1 20 (v := ?_) rfl rfl (by kernel_rfl) (by kernel_rfl) (by kernel_rfl) (fun _ _ _ h => h) (by rfl) ?_ (by assumption) ?_
    rotate_left
    · (intro wq hSw; (try dsimp only at hSw); go_simp; first | done | with_reducible rfl)
    simp only [Act.put, List.setIfInBounds_toArray, List.set_cons_zero, List.set_cons_succ]
    refine take_run 3 22 (v := ?_) rfl rfl (by kernel_rfl) (by kernel_rfl) (by kernel_rfl) (fun _ _ _ h => h) (by rfl) ?_ (by assumption) ?_
    rotate_left
    · (intro wq hSw; (try dsimp only at hSw); go_simp; first | done | with_reducible rfl)
    simp only [Act.put, List.setIfInBounds_toArray, List.set_cons_zero, List.set_cons_succ]
    refine take_run 4 23 (v := ?_) rfl rfl (by kernel_rfl) (by kernel_rfl) (by kernel_rfl) (fun _ _ _ h => h) (by rfl) ?_ (by assumption) ?_
    rotate_left
    · (intro wq hSw; (try dsimp only at hSw); go_simp; first | done | with_reducible rfl)
    simp only [Act.put, List.setIfInBounds_toArray, List.set_cons_zero, List.set_cons_succ]
    refine take_run 5 24 (v := ?_) rfl rfl (by kernel_rfl) (by kernel_rfl) (by kernel_rfl) (fun _ _ _ h => h) (by rfl) ?_ (by assumption) ?_
    rotate_left
    · (intro wq hSw; (try dsimp only at hSw); go_simp; first | done | with_reducible rfl)
    simp only [Act.put, List.setIfInBounds_toArray, List.set_cons_zero, List.set_cons_succ]
    refine wpAnyH_ready (rs := [2, 6]) (by kernel_rfl) (by simp) ?_
    refine AllReadyH.cons rfl (fun K hK => ?_) (AllReadyH.cons rfl (fun K hK => ?_) AllReadyH.nil)
    · go_simp
      go_wp2_with (go_at_call 13; refine (read_any _ _).mono ?_; rintro r w1 ⟨rfl, rfl⟩)
      refine hK.out _ _ (conv_sl (B := w.heap.size) (HS0.out.below ((Below.refl _ w).alloc (Nat.le_refl _) _).drew)) (fun hHeld => ?_)
      clear hK K
      refine wpAnyH_ready (rs := [6]) (by kernel_rfl) (by simp) ?_
      refine AllReadyH.cons rfl (fun K hK => ?_) AllReadyH.nil
      go_simp
      refine hK.out _ _ (conv_sl (B := w.heap.size) (HS0.out.below (((Below.refl _ w).alloc (Nat.le_refl _) _).alloc (by simp) _).drew)) (fun hHeld => ?_)
      clear hK K
      refine take_run 7 5 (v := ?_) rfl rfl (by kernel_rfl) (by kernel_rfl) (by kernel_rfl) (fun _ _ _ h => h) (by rfl) ?_ (by assumption) ?_
      rotate_left
      · (intro wq hSw; (try dsimp only at hSw); go_simp; first | done | with_reducible rfl)
      simp only [Act.put, List.setIfInBounds_toArray, List.set_cons_zero, List.set_cons_succ]
      refine wpAnyH_ready (rs := [8]) (by kernel_rfl) (by simp) ?_
      refine AllReadyH.cons rfl (fun K hK => ?_) AllReadyH.nil
      go_simp
      refine hK.out _ _ (conv_sl (B := w.heap.size) (HS0.out.below (((Below.refl _ w).alloc (Nat.le_refl _) _).alloc (by simp) _).drew)) (fun hHeld => ?_)
      clear hK K
      refine wpAnyH_done (by kernel_rfl) ?_ _
      go_wp2_with fail
      go_meet
      exact ⟨_, _, rfl, rfl, (fresh_both l hl2).drew⟩
    · go_simp
      refine hK.out _ _ (conv_sl (B := w.heap.size) (HS0.out.below ((Below.refl _ w).alloc (Nat.le_refl _) _).drew)) (fun hHeld => ?_)
      clear hK K
      refine wpAnyH_ready (rs := [2]) (by kernel_rfl) (by simp) ?_
      refine AllReadyH.cons rfl (fun K hK => ?_) AllReadyH.nil
      go_simp
      go_wp2_with (go_at_call 13; refine (read_any _ _).mono ?_; rintro r w1 ⟨rfl, rfl⟩)
      refine hK.out _ _ (conv_sl (B := w.heap.size) (HS0.out.below (((Below.refl _ w).alloc (Nat.le_refl _) _).alloc (by simp) _).drew)) (fun hHeld => ?_)
      clear hK K
      refine take_run 7 5 (v := ?_) rfl rfl (by kernel_rfl) (by kernel_rfl) (by kernel_rfl) (fun _ _ _ h => h) (by rfl) ?_ (by assumption) ?_
      rotate_left
      · (intro wq hSw; (try dsimp only at hSw); go_simp; first | done | with_reducible rfl)
      simp only [Act.put, List.setIfInBounds_toArray, List.set_cons_zero, List.set_cons_succ]
      refine wpAnyH_ready (rs := [8]) (by kernel_rfl) (by simp) ?_
      refine AllReadyH.cons rfl (fun K hK => ?_) AllReadyH.nil
      go_simp
      refine hK.out _ _ (conv_sl (B := w.heap.size) (HS0.out.below (((Below.refl _ w).alloc (Nat.le_refl _) _).alloc (by simp) _).drew)) (fun hHeld => ?_)
      clear hK K
      refine wpAnyH_done (by kernel_rfl) ?_ _
      go_wp2_with fail
      go_meet
      exact ⟨_, _, rfl, rfl, (fresh_both' l hl2).drew⟩
  case rest =>
    obtain ⟨rb, xb, rfl, rfl, hB⟩ := hcut
    have HB := Lib.hid hB
    clear hB
    go_wp2_with fail
    go_loopw [7] (fun i wx => ∃ (k : Nat) (q : St), k ≤ n1 ∧ k ≤ 60 ∧ i = .int .i64 (k : Int) ∧ Both w wx rb xb q) (fun i _ => 60 - (intOf i).toNat)
    case atStart => exact ⟨0, _, Nat.zero_le _, Nat.zero_le _, rfl, HB.out⟩
    case round =>
      obtain ⟨k, q, hk1, hk60, rfl, hB2⟩ := hrel
      have HB2 := Lib.hid hB2
      clear hB2 HB
      by_cases hk : k < n1 ∧ k < 60
      · obtain ⟨hkn, hk6⟩ := hk
        have hlt : k < qs.length := by rw [HQ.out]; exact hkn
        obtain ⟨b, off, rfl, hbB, hc0, hc1, hN⟩ := H1.out k _ (List.getElem?_eq_getElem hlt)
        have hr0 : wr.cell? ⟨b, off + k * 2, none⟩ = some (.int .i64 qs[k].1) := (HB2.out.below.cell (p := ⟨b, off + k * 2, none⟩) hbB).trans hc0
        have hr1 : wr.cell? ⟨b, off + k * 2 + 1, none⟩ = some (.int .i64 qs[k].2) := (HB2.out.below.cell (p := ⟨b, off + k * 2 + 1, none⟩) hbB).trans hc1
        have hcN := hc1
        clear hc0 hc1
        generalize qs[k].1 = kd at *
        generalize qs[k].2 = nn at *
        have HCN := Lib.hid hcN
        clear hcN
        have hd60 : decide ((k : Int) < 60) = true := by simp; omega
        go_upto_block 2 with fail
        go_cut [62] (fun _ wx => ∃ q', Both w wx rb xb q')
        case first =>
          have hx0 := HB2.out.x0
          have hx1 := HB2.out.x1
          by_cases k0 : (kd == 0) = true
          · go_upto_region 15 with fail
            go_cut [8, 9] (fun y v wx => AskRel w rb xb q (stNum q) (.int .u64 (stNumV q)) y v wx)
            case first =>
              have hc := refNum_any q wr HB2.out.len
              unfold refV RefNum at hc
              have HC := Lib.hid hc
              clear hc
              go_wp2_with fail
              refine HC.out.mono ?_
              rintro r w1 ⟨rfl, hb1⟩
              have HB1 := Lib.hid hb1
              clear hb1
              go_wp2_with fail
              go_meet
              exact ask_new HB2.out HB1.out
            case rest =>
              obtain ⟨yb, rfl, rfl, hy, hyx, hBc⟩ := hcut
              have hy0 := hy.cell 0
              have hy1 := hy.cell 1
              have hz0 := hBc.x0
              have hz1 := hBc.x1
              have fz0 := hBc.x.frozen 0
              have fz1 := hBc.x.frozen 1
              have hM := hBc.write (stNum q) (Nat.le_trans (stNum_len q) hBc.len)
              have HM := Lib.hid hM
              have HNC := Lib.hid (number_rds hM.r (by have := hM.len; unfold maxLen; omega))
              clear hy hBc hM hx0 hx1
              go_wp2_with fail
              refine HNC.out.mono ?_
              rintro r w3 ⟨rfl, hr3, hg3⟩
              have HR := Lib.hid (HM.out.over hr3 hg3)
              clear hr3 hg3 HNC HM
              go_wp2_with fail
              go_meet
              exact ⟨_, HR.out⟩
          · have k0' : (kd == 0) = false := by simpa using k0
            clear k0
            by_cases k1 : (kd == 1) = true
            · go_upto_region 20 with fail
              go_cut [10, 11] (fun y v wx => AskRel w rb xb q (stSmall nn q) (.int .i64 (stSmallV nn q)) y v wx)
              case first =>
                have hc := fun W => refSmall_any q W HB2.out.len nn hN
                unfold refV RefSm at hc
                have HC := Lib.hid hc
                clear hc hx0 hx1 hr1 hr0
                refine wp_region_held_drew (S := fun w' => Both w w' rb xb q) (by kernel_rfl) HB2.out.drew (fun hHeld => ?_)
                refine take_run 0 77 (v := ?_) rfl rfl (by kernel_rfl) (by kernel_rfl) (by kernel_rfl) (fun _ _ _ h => h) (by rfl) ?_ (by assumption) ?_
                rotate_left
                · (intro wq hSw; have s0 := hSw.x0; have s1 := hSw.x1; have s2 := hSw.ask hbB HCN.out; clear hSw; go_simp; first | done | with_reducible rfl)
                simp only [Act.put, List.setIfInBounds_toArray, List.set_cons_zero, List.set_cons_succ]
                refine take_run 1 78 (v := ?_) rfl rfl (by kernel_rfl) (by kernel_rfl) (by kernel_rfl) (fun _ _ _ h => h) (by rfl) ?_ (by assumption) ?_
                rotate_left
                · (intro wq hSw; have s0 := hSw.x0; have s1 := hSw.x1; have s2 := hSw.ask hbB HCN.out; clear hSw; go_simp; first | done | with_reducible rfl)
                simp only [Act.put, List.setIfInBounds_toArray, List.set_cons_zero, List.set_cons_succ]
                refine take_run 2 79 (v := ?_) rfl rfl (by kernel_rfl) (by kernel_rfl) (by kernel_rfl) (fun _ _ _ h => h) (by rfl) ?_ (by assumption) ?_
                rotate_left
                · (intro wq hSw; have s0 := hSw.x0; have s1 := hSw.x1; have s2 := hSw.ask hbB HCN.out; clear hSw; go_simp; first | done | with_reducible rfl)
                simp only [Act.put, List.setIfInBounds_toArray, List.set_cons_zero, List.set_cons_succ]
                refine take_run 3 80 (v := ?_) rfl rfl (by kernel_rfl) (by kernel_rfl) (by kernel_rfl) (fun _ _ _ h => h) (by rfl) ?_ (by assumption) ?_
                rotate_left
                · (intro wq hSw; have s0 := hSw.x0; have s1 := hSw.x1; have s2 := hSw.ask hbB HCN.out; clear hSw; go_simp; first | done | with_reducible rfl)
                simp only [Act.put, List.setIfInBounds_toArray, List.set_cons_zero, List.set_cons_succ]
                refine take_run 4 81 (v := ?_) rfl rfl (by kernel_rfl) (by kernel_rfl) (by kernel_rfl) (fun _ _ _ h => h) (by rfl) ?_ (by assumption) ?_
                rotate_left
                · (intro wq hSw; have s0 := hSw.x0; have s1 := hSw.x1; have s2 := hSw.ask hbB HCN.out; clear hSw; go_simp; first | done | with_reducible rfl)
                simp only [Act.put, List.setIfInBounds_toArray, List.set_cons_zero, List.set_cons_succ]
                refine take_run 5 82 (v := ?_) rfl rfl (by kernel_rfl) (by kernel_rfl) (by kernel_rfl) (fun _ _ _ h => h) (by rfl) ?_ (by assumption) ?_
                rotate_left
                · (intro wq hSw; have s0 := hSw.x0; have s1 := hSw.x1; have s2 := hSw.ask hbB HCN.out; clear hSw; go_simp; first | done | with_reducible rfl)
                simp only [Act.put, List.setIfInBounds_toArray, List.set_cons_zero, List.set_cons_succ]
                refine wpAnyH_ready (rs := [6, 10]) (by kernel_rfl) (by simp) ?_
                refine AllReadyH.cons rfl (fun K hK => ?_) (AllReadyH.cons rfl (fun K hK => ?_) AllReadyH.nil)
                · go_simp
                  go_wp2_with (go_at_call 16; refine (HC.out _).mono ?_; rintro r w1 ⟨rfl, hb1⟩)
                  have HB1 := Lib.hid hb1
                  clear hb1
                  refine hK.out _ _ (hHeld.go_on HB1.out) (fun hHeld => ?_)
                  clear hK K
                  refine take_run 7 76 (v := ?_) rfl rfl (by kernel_rfl) (by kernel_rfl) (by kernel_rfl) (fun _ _ _ h => h) (by rfl) ?_ (by assumption) ?_
                  rotate_left
                  · (intro wq hSw; have s0 := hSw.x0; have s1 := hSw.x1; have s2 := hSw.ask hbB HCN.out; clear hSw; go_simp; first | done | with_reducible rfl)
                  simp only [Act.put, List.setIfInBounds_toArray, List.set_cons_zero, List.set_cons_succ]
                  refine take_run 8 84 (v := ?_) rfl rfl (by kernel_rfl) (by kernel_rfl) (by kernel_rfl) (fun _ _ _ h => h) (by rfl) ?_ (by assumption) ?_
                  rotate_left
                  · (intro wq hSw; have s0 := hSw.x0; have s1 := hSw.x1; have s2 := hSw.ask hbB HCN.out; clear hSw; go_simp; first | done | with_reducible rfl)
                  simp only [Act.put, List.setIfInBounds_toArray, List.set_cons_zero, List.set_cons_succ]
                  refine take_run 9 85 (v := ?_) rfl rfl (by kernel_rfl) (by kernel_rfl) (by kernel_rfl) (fun _ _ _ h => h) (by rfl) ?_ (by assumption) ?_
                  rotate_left
                  · (intro wq hSw; have s0 := hSw.x0; have s1 := hSw.x1; have s2 := hSw.ask hbB HCN.out; clear hSw; go_simp; first | done | with_reducible rfl)
                  simp only [Act.put, List.setIfInBounds_toArray, List.set_cons_zero, List.set_cons_succ]
                  refine wpAnyH_ready (rs := [10]) (by kernel_rfl) (by simp) ?_
                  refine AllReadyH.cons rfl (fun K hK => ?_) AllReadyH.nil
                  go_simp
                  refine hK.out _ _ (hHeld.go_on ((Below.refl _ w1).alloc (Nat.le_refl _) _)) (fun hHeld => ?_)
                  clear hK K
                  refine wpAnyH_ready (rs := [11]) (by kernel_rfl) (by simp) ?_
                  refine AllReadyH.cons rfl (fun K hK => ?_) AllReadyH.nil
                  go_simp
                  refine hK.out _ _ ((HB2.out.drew.go_on HB1.out).go_on ((Below.refl _ w1).alloc (Nat.le_refl _) _)) (fun hHeld => ?_)
                  clear hK K
                  refine take_run 12 11 (v := ?_) rfl rfl (by kernel_rfl) (by kernel_rfl) (by kernel_rfl) (fun _ _ _ h => h) (by rfl) ?_ (by assumption) ?_
                  rotate_left
                  · (intro wq hSw; have s0 := hSw.x0; have s1 := hSw.x1; have s2 := hSw.ask hbB HCN.out; clear hSw; go_simp; first | done | with_reducible rfl)
                  simp only [Act.put, List.setIfInBounds_toArray, List.set_cons_zero, List.set_cons_succ]
                  refine wpAnyH_done (by kernel_rfl) ?_ _
                  go_wp2_with fail
                  go_meet
                  exact ask_new HB2.out.drew HB1.out
                · go_simp
                  refine hK.out _ _ (HB2.out.go_on ((Below.refl _ wr).alloc (Nat.le_refl _) _)).drew (fun hHeld => ?_)
                  clear hK K
                  refine wpAnyH_ready (rs := [6]) (by kernel_rfl) (by simp) ?_
                  refine AllReadyH.cons rfl (fun K hK => ?_) AllReadyH.nil
                  go_simp
                  go_wp2_with (go_at_call 16; refine (HC.out _).mono ?_; rintro r w1 ⟨rfl, hb1⟩)
                  have hyb : Box w1 wr.heap.size 36 #[.string ⟨#[]⟩, .int .i64 0] := (hb1.block wr.heap.size (by simp)).trans (Box.made wr _ _)
                  have ry0 := hyb.cell 0
                  have ry1 := hyb.cell 1
                  have fy0 := hyb.frozen 0
                  have fy1 := hyb.frozen 1
                  have HYB := Lib.hid hyb
                  have HB1 := Lib.hid hb1
                  clear hb1 hyb
                  have hH1 := hHeld.go_on HB1.out
                  have HH1 := Lib.hid hH1
                  refine hK.out _ _ hH1 (fun hHeld => ?_)
                  clear hK K hH1
                  refine take_run 7 76 (v := ?_) rfl rfl (by kernel_rfl) (by kernel_rfl) (by kernel_rfl) (fun _ _ _ h => h) (by rfl) ?_ (by assumption) ?_
                  rotate_left
                  · (intro wq hSw; have s0 := hSw.x0; have s1 := hSw.x1; have s2 := hSw.ask hbB HCN.out; clear hSw; go_simp; first | done | with_reducible rfl)
                  simp only [Act.put, List.setIfInBounds_toArray, List.set_cons_zero, List.set_cons_succ]
                  refine take_run 8 84 (v := ?_) rfl rfl (by kernel_rfl) (by kernel_rfl) (by kernel_rfl) (fun _ _ _ h => h) (by rfl) ?_ (by assumption) ?_
                  rotate_left
                  · (intro wq hSw; have s0 := hSw.x0; have s1 := hSw.x1; have s2 := hSw.ask hbB HCN.out; clear hSw; go_simp; first | done | with_reducible rfl)
                  simp only [Act.put, List.setIfInBounds_toArray, List.set_cons_zero, List.set_cons_succ]
                  refine take_run 9 85 (v := ?_) rfl rfl (by kernel_rfl) (by kernel_rfl) (by kernel_rfl) (fun _ _ _ h => h) (by rfl) ?_ (by assumption) ?_
                  rotate_left
                  · (intro wq hSw; have s0 := hSw.x0; have s1 := hSw.x1; have s2 := hSw.ask hbB HCN.out; clear hSw; go_simp; first | done | with_reducible rfl)
                  simp only [Act.put, List.setIfInBounds_toArray, List.set_cons_zero, List.set_cons_succ]
                  refine wpAnyH_ready (rs := [11]) (by kernel_rfl) (by simp) ?_
                  refine AllReadyH.cons rfl (fun K hK => ?_) AllReadyH.nil
                  go_simp
                  have HH2 := Lib.hid (HH1.out.far (yb := wr.heap.size) (by have := Box.lt HB2.out.r; omega) (by have := HB2.out.x.lt; omega) HB2.out.below.size (.string ⟨(stSmall nn q).1.toArray⟩) (.int .i64 (stSmall nn q).2))
                  refine hK.out _ _ HH2.out (fun hHeld => ?_)
                  clear hK K
                  refine take_run 12 11 (v := ?_) rfl rfl (by kernel_rfl) (by kernel_rfl) (by kernel_rfl) (fun _ _ _ h => h) (by rfl) ?_ (by assumption) ?_
                  rotate_left
                  · (intro wq hSw; have s0 := hSw.x0; have s1 := hSw.x1; have s2 := hSw.ask hbB HCN.out; clear hSw; go_simp; first | done | with_reducible rfl)
                  simp only [Act.put, List.setIfInBounds_toArray, List.set_cons_zero, List.set_cons_succ]
                  refine wpAnyH_done (by kernel_rfl) ?_ _
                  go_wp2_with fail
                  go_meet
                  exact ⟨wr.heap.size, rfl, rfl, Box.put (Box.put HYB.out 0 _) 1 _, by have := HB2.out.x.lt; omega, HH2.out⟩
              case rest =>
                obtain ⟨yb, rfl, rfl, hy, hyx, hBc⟩ := hcut
                have hy0 := hy.cell 0
                have hy1 := hy.cell 1
                have hz0 := hBc.x0
                have hz1 := hBc.x1
                have fz0 := hBc.x.frozen 0
                have fz1 := hBc.x.frozen 1
                have hM := hBc.write (stSmall nn q) (Nat.le_trans (stSmall_len nn q) hBc.len)
                have hask := hM.ask hbB HCN.out
                have HM := Lib.hid hM
                have HNC := Lib.hid (small_rds hM.r (by have := hM.len; unfold maxLen; omega) nn hN)
                clear hy hBc hM hx0 hx1 hr0 hr1
                go_wp2_with fail
                refine HNC.out.mono ?_
                rintro r w3 ⟨rfl, hr3, hg3⟩
                have HR := Lib.hid (HM.out.over hr3 hg3)
                clear hr3 hg3 HNC HM
                go_wp2_with fail
                go_meet
                exact ⟨_, HR.out⟩
            · have k1' : (kd == 1) = false := by simpa using k1
              clear k1
              by_cases k2 : (kd == 2) = true
              · go_upto_region 25 with fail
                go_cut [12, 13] (fun y v wx => AskRel w rb xb q (stText nn q) (.string ⟨(stTextV nn q).toArray⟩) y v wx)
                case first =>
                  have hc := fun W => refText2_any q W HB2.out.len nn hN
                  unfold refV RefStr at hc
                  have HC := Lib.hid hc
                  clear hc hx0 hx1 hr1 hr0
                  refine wp_region_held_drew (S := fun w' => Both w w' rb xb q) (by kernel_rfl) HB2.out.drew (fun hHeld => ?_)
                  refine take_run 0 99 (v := ?_) rfl rfl (by kernel_rfl) (by kernel_rfl) (by kernel_rfl) (fun _ _ _ h => h) (by rfl) ?_ (by assumption) ?_
                  rotate_left
                  · (intro wq hSw; have s0 := hSw.x0; have s1 := hSw.x1; have s2 := hSw.ask hbB HCN.out; clear hSw; go_simp; first | done | with_reducible rfl)
                  simp only [Act.put, List.setIfInBounds_toArray, List.set_cons_zero, List.set_cons_succ]
                  refine take_run 1 100 (v := ?_) rfl rfl (by kernel_rfl) (by kernel_rfl) (by kernel_rfl) (fun _ _ _ h => h) (by rfl) ?_ (by assumption) ?_
                  rotate_left
                  · (intro wq hSw; have s0 := hSw.x0; have s1 := hSw.x1; have s2 := hSw.ask hbB HCN.out; clear hSw; go_simp; first | done | with_reducible rfl)
                  simp only [Act.put, List.setIfInBounds_toArray, List.set_cons_zero, List.set_cons_succ]
                  refine take_run 2 101 (v := ?_) rfl rfl (by kernel_rfl) (by kernel_rfl) (by kernel_rfl) (fun _ _ _ h => h) (by rfl) ?_ (by assumption) ?_
                  rotate_left
                  · (intro wq hSw; have s0 := hSw.x0; have s1 := hSw.x1; have s2 := hSw.ask hbB HCN.out; clear hSw; go_simp; first | done | with_reducible rfl)
                  simp only [Act.put, List.setIfInBounds_toArray, List.set_cons_zero, List.set_cons_succ]
                  refine take_run 3 102 (v := ?_) rfl rfl (by kernel_rfl) (by kernel_rfl) (by kernel_rfl) (fun _ _ _ h => h) (by rfl) ?_ (by assumption) ?_
                  rotate_left
                  · (intro wq hSw; have s0 := hSw.x0; have s1 := hSw.x1; have s2 := hSw.ask hbB HCN.out; clear hSw; go_simp; first | done | with_reducible rfl)
                  simp only [Act.put, List.setIfInBounds_toArray, List.set_cons_zero, List.set_cons_succ]
                  refine take_run 4 103 (v := ?_) rfl rfl (by kernel_rfl) (by kernel_rfl) (by kernel_rfl) (fun _ _ _ h => h) (by rfl) ?_ (by assumption) ?_
                  rotate_left
                  · (intro wq hSw; have s0 := hSw.x0; have s1 := hSw.x1; have s2 := hSw.ask hbB HCN.out; clear hSw; go_simp; first | done | with_reducible rfl)
                  simp only [Act.put, List.setIfInBounds_toArray, List.set_cons_zero, List.set_cons_succ]
                  refine take_run 5 104 (v := ?_) rfl rfl (by kernel_rfl) (by kernel_rfl) (by kernel_rfl) (fun _ _ _ h => h) (by rfl) ?_ (by assumption) ?_
                  rotate_left
                  · (intro wq hSw; have s0 := hSw.x0; have s1 := hSw.x1; have s2 := hSw.ask hbB HCN.out; clear hSw; go_simp; first | done | with_reducible rfl)
                  simp only [Act.put, List.setIfInBounds_toArray, List.set_cons_zero, List.set_cons_succ]
                  refine wpAnyH_ready (rs := [6, 10]) (by kernel_rfl) (by simp) ?_
                  refine AllReadyH.cons rfl (fun K hK => ?_) (AllReadyH.cons rfl (fun K hK => ?_) AllReadyH.nil)
                  · go_simp
                    go_wp2_with (go_at_call 18; refine (HC.out _).mono ?_; rintro r w1 ⟨rfl, hb1⟩)
                    have HB1 := Lib.hid hb1
                    clear hb1
                    refine hK.out _ _ (hHeld.go_on HB1.out) (fun hHeld => ?_)
                    clear hK K
                    refine take_run 7 98 (v := ?_) rfl rfl (by kernel_rfl) (by kernel_rfl) (by kernel_rfl) (fun _ _ _ h => h) (by rfl) ?_ (by assumption) ?_
                    rotate_left
                    · (intro wq hSw; have s0 := hSw.x0; have s1 := hSw.x1; have s2 := hSw.ask hbB HCN.out; clear hSw; go_simp; first | done | with_reducible rfl)
                    simp only [Act.put, List.setIfInBounds_toArray, List.set_cons_zero, List.set_cons_succ]
                    refine take_run 8 106 (v := ?_) rfl rfl (by kernel_rfl) (by kernel_rfl) (by kernel_rfl) (fun _ _ _ h => h) (by rfl) ?_ (by assumption) ?_
                    rotate_left
                    · (intro wq hSw; have s0 := hSw.x0; have s1 := hSw.x1; have s2 := hSw.ask hbB HCN.out; clear hSw; go_simp; first | done | with_reducible rfl)
                    simp only [Act.put, List.setIfInBounds_toArray, List.set_cons_zero, List.set_cons_succ]
                    refine take_run 9 107 (v := ?_) rfl rfl (by kernel_rfl) (by kernel_rfl) (by kernel_rfl) (fun _ _ _ h => h) (by rfl) ?_ (by assumption) ?_
                    rotate_left
                    · (intro wq hSw; have s0 := hSw.x0; have s1 := hSw.x1; have s2 := hSw.ask hbB HCN.out; clear hSw; go_simp; first | done | with_reducible rfl)
                    simp only [Act.put, List.setIfInBounds_toArray, List.set_cons_zero, List.set_cons_succ]
                    refine wpAnyH_ready (rs := [10]) (by kernel_rfl) (by simp) ?_
                    refine AllReadyH.cons rfl (fun K hK => ?_) AllReadyH.nil
                    go_simp
                    refine hK.out _ _ (hHeld.go_on ((Below.refl _ w1).alloc (Nat.le_refl _) _)) (fun hHeld => ?_)
                    clear hK K
                    refine wpAnyH_ready (rs := [11]) (by kernel_rfl) (by simp) ?_
                    refine AllReadyH.cons rfl (fun K hK => ?_) AllReadyH.nil
                    go_simp
                    refine hK.out _ _ ((HB2.out.drew.go_on HB1.out).go_on ((Below.refl _ w1).alloc (Nat.le_refl _) _)) (fun hHeld => ?_)
                    clear hK K
                    refine take_run 12 13 (v := ?_) rfl rfl (by kernel_rfl) (by kernel_rfl) (by kernel_rfl) (fun _ _ _ h => h) (by rfl) ?_ (by assumption) ?_
                    rotate_left
                    · (intro wq hSw; have s0 := hSw.x0; have s1 := hSw.x1; have s2 := hSw.ask hbB HCN.out; clear hSw; go_simp; first | done | with_reducible rfl)
                    simp only [Act.put, List.setIfInBounds_toArray, List.set_cons_zero, List.set_cons_succ]
                    refine wpAnyH_done (by kernel_rfl) ?_ _
                    go_wp2_with fail
                    go_meet
                    exact ask_new HB2.out.drew HB1.out
                  · go_simp
                    refine hK.out _ _ (HB2.out.go_on ((Below.refl _ wr).alloc (Nat.le_refl _) _)).drew (fun hHeld => ?_)
                    clear hK K
                    refine wpAnyH_ready (rs := [6]) (by kernel_rfl) (by simp) ?_
                    refine AllReadyH.cons rfl (fun K hK => ?_) AllReadyH.nil
                    go_simp
                    go_wp2_with (go_at_call 18; refine (HC.out _).mono ?_; rintro r w1 ⟨rfl, hb1⟩)
                    have hyb : Box w1 wr.heap.size 36 #[.string ⟨#[]⟩, .int .i64 0] := (hb1.block wr.heap.size (by simp)).trans (Box.made wr _ _)
                    have ry0 := hyb.cell 0
                    have ry1 := hyb.cell 1
                    have fy0 := hyb.frozen 0
                    have fy1 := hyb.frozen 1
                    have HYB := Lib.hid hyb
                    have HB1 := Lib.hid hb1
                    clear hb1 hyb
                    have hH1 := hHeld.go_on HB1.out
                    have HH1 := Lib.hid hH1
                    refine hK.out _ _ hH1 (fun hHeld => ?_)
                    clear hK K hH1
                    refine take_run 7 98 (v := ?_) rfl rfl (by kernel_rfl) (by kernel_rfl) (by kernel_rfl) (fun _ _ _ h => h) (by rfl) ?_ (by assumption) ?_
                    rotate_left
                    · (intro wq hSw; have s0 := hSw.x0; have s1 := hSw.x1; have s2 := hSw.ask hbB HCN.out; clear hSw; go_simp; first | done | with_reducible rfl)
                    simp only [Act.put, List.setIfInBounds_toArray, List.set_cons_zero, List.set_cons_succ]
                    refine take_run 8 106 (v := ?_) rfl rfl (by kernel_rfl) (by kernel_rfl) (by kernel_rfl) (fun _ _ _ h => h) (by rfl) ?_ (by assumption) ?_
                    rotate_left
                    · (intro wq hSw; have s0 := hSw.x0; have s1 := hSw.x1; have s2 := hSw.ask hbB HCN.out; clear hSw; go_simp; first | done | with_reducible rfl)
                    simp only [Act.put, List.setIfInBounds_toArray, List.set_cons_zero, List.set_cons_succ]
                    refine take_run 9 107 (v := ?_) rfl rfl (by kernel_rfl) (by kernel_rfl) (by kernel_rfl) (fun _ _ _ h => h) (by rfl) ?_ (by assumption) ?_
                    rotate_left
                    · (intro wq hSw; have s0 := hSw.x0; have s1 := hSw.x1; have s2 := hSw.ask hbB HCN.out; clear hSw; go_simp; first | done | with_reducible rfl)
                    simp only [Act.put, List.setIfInBounds_toArray, List.set_cons_zero, List.set_cons_succ]
                    refine wpAnyH_ready (rs := [11]) (by kernel_rfl) (by simp) ?_
                    refine AllReadyH.cons rfl (fun K hK => ?_) AllReadyH.nil
                    go_simp
                    have HH2 := Lib.hid (HH1.out.far (yb := wr.heap.size) (by have := Box.lt HB2.out.r; omega) (by have := HB2.out.x.lt; omega) HB2.out.below.size (.string ⟨(stText nn q).1.toArray⟩) (.int .i64 (stText nn q).2))
                    refine hK.out _ _ HH2.out (fun hHeld => ?_)
                    clear hK K
                    refine take_run 12 13 (v := ?_) rfl rfl (by kernel_rfl) (by kernel_rfl) (by kernel_rfl) (fun _ _ _ h => h) (by rfl) ?_ (by assumption) ?_
                    rotate_left
                    · (intro wq hSw; have s0 := hSw.x0; have s1 := hSw.x1; have s2 := hSw.ask hbB HCN.out; clear hSw; go_simp; first | done | with_reducible rfl)
                    simp only [Act.put, List.setIfInBounds_toArray, List.set_cons_zero, List.set_cons_succ]
                    refine wpAnyH_done (by kernel_rfl) ?_ _
                    go_wp2_with fail
                    go_meet
                    exact ⟨wr.heap.size, rfl, rfl, Box.put (Box.put HYB.out 0 _) 1 _, by have := HB2.out.x.lt; omega, HH2.out⟩
                case rest =>
                  obtain ⟨yb, rfl, rfl, hy, hyx, hBc⟩ := hcut
                  have hy0 := hy.cell 0
                  have hy1 := hy.cell 1
                  have hz0 := hBc.x0
                  have hz1 := hBc.x1
                  have fz0 := hBc.x.frozen 0
                  have fz1 := hBc.x.frozen 1
                  have hM := hBc.write (stText nn q) (Nat.le_trans (Nat.le_trans (reads_rawlen _ _) (stSmall_len nn q)) hBc.len)
                  have hask := hM.ask hbB HCN.out
                  have HM := Lib.hid hM
                  have HNC := Lib.hid (text_rds hM.r (by have := hM.len; omega) nn hN)
                  clear hy hBc hM hx0 hx1 hr0 hr1
                  go_wp2_with fail
                  refine HNC.out.mono ?_
                  rintro r w3 ⟨rfl, hr3, hg3⟩
                  have HR := Lib.hid (HM.out.over hr3 hg3)
                  clear hr3 hg3 HNC HM
                  go_wp2_with fail
                  go_meet
                  exact ⟨_, HR.out⟩
              · have k2' : (kd == 2) = false := by simpa using k2
                clear k2
                go_upto_region 10 with fail
                go_cut [14, 15] (fun y v wx => AskRel w rb xb q (stRaw nn q) (.string ⟨(stRawV nn q).toArray⟩) y v wx)
                case first =>
                  have hc := fun W => refRaw_any q W HB2.out.len nn
                  unfold refV RefStr at hc
                  have HC := Lib.hid hc
                  clear hc hx0 hx1 hr1 hr0
                  refine wp_region_held_drew (S := fun w' => Both w w' rb xb q) (by kernel_rfl) HB2.out.drew (fun hHeld => ?_)
                  refine take_run 0 43 (v := ?_) rfl rfl (by kernel_rfl) (by kernel_rfl) (by kernel_rfl) (fun _ _ _ h => h) (by rfl) ?_ (by assumption) ?_
                  rotate_left
                  · (intro wq hSw; have s0 := hSw.x0; have s1 := hSw.x1; have s2 := hSw.ask hbB HCN.out; clear hSw; go_simp; first | done | with_reducible rfl)
                  simp only [Act.put, List.setIfInBounds_toArray, List.set_cons_zero, List.set_cons_succ]
                  refine take_run 1 44 (v := ?_) rfl rfl (by kernel_rfl) (by kernel_rfl) (by kernel_rfl) (fun _ _ _ h => h) (by rfl) ?_ (by assumption) ?_
                  rotate_left
                  · (intro wq hSw; have s0 := hSw.x0; have s1 := hSw.x1; have s2 := hSw.ask hbB HCN.out; clear hSw; go_simp; first | done | with_reducible rfl)
                  simp only [Act.put, List.setIfInBounds_toArray, List.set_cons_zero, List.set_cons_succ]
                  refine take_run 2 45 (v := ?_) rfl rfl (by kernel_rfl) (by kernel_rfl) (by kernel_rfl) (fun _ _ _ h => h) (by rfl) ?_ (by assumption) ?_
                  rotate_left
                  · (intro wq hSw; have s0 := hSw.x0; have s1 := hSw.x1; have s2 := hSw.ask hbB HCN.out; clear hSw; go_simp; first | done | with_reducible rfl)
                  simp only [Act.put, List.setIfInBounds_toArray, List.set_cons_zero, List.set_cons_succ]
                  refine take_run 3 46 (v := ?_) rfl rfl (by kernel_rfl) (by kernel_rfl) (by kernel_rfl) (fun _ _ _ h => h) (by rfl) ?_ (by assumption) ?_
                  rotate_left
                  · (intro wq hSw; have s0 := hSw.x0; have s1 := hSw.x1; have s2 := hSw.ask hbB HCN.out; clear hSw; go_simp; first | done | with_reducible rfl)
                  simp only [Act.put, List.setIfInBounds_toArray, List.set_cons_zero, List.set_cons_succ]
                  refine take_run 4 47 (v := ?_) rfl rfl (by kernel_rfl) (by kernel_rfl) (by kernel_rfl) (fun _ _ _ h => h) (by rfl) ?_ (by assumption) ?_
                  rotate_left
                  · (intro wq hSw; have s0 := hSw.x0; have s1 := hSw.x1; have s2 := hSw.ask hbB HCN.out; clear hSw; go_simp; first | done | with_reducible rfl)
                  simp only [Act.put, List.setIfInBounds_toArray, List.set_cons_zero, List.set_cons_succ]
                  refine take_run 5 48 (v := ?_) rfl rfl (by kernel_rfl) (by kernel_rfl) (by kernel_rfl) (fun _ _ _ h => h) (by rfl) ?_ (by assumption) ?_
                  rotate_left
                  · (intro wq hSw; have s0 := hSw.x0; have s1 := hSw.x1; have s2 := hSw.ask hbB HCN.out; clear hSw; go_simp; first | done | with_reducible rfl)
                  simp only [Act.put, List.setIfInBounds_toArray, List.set_cons_zero, List.set_cons_succ]
                  refine wpAnyH_ready (rs := [6, 10]) (by kernel_rfl) (by simp) ?_
                  refine AllReadyH.cons rfl (fun K hK => ?_) (AllReadyH.cons rfl (fun K hK => ?_) AllReadyH.nil)
                  · go_simp
                    go_wp2_with (go_at_call 20; refine (HC.out _).mono ?_; rintro r w1 ⟨rfl, hb1⟩)
                    have HB1 := Lib.hid hb1
                    clear hb1
                    refine hK.out _ _ (hHeld.go_on HB1.out) (fun hHeld => ?_)
                    clear hK K
                    refine take_run 7 42 (v := ?_) rfl rfl (by kernel_rfl) (by kernel_rfl) (by kernel_rfl) (fun _ _ _ h => h) (by rfl) ?_ (by assumption) ?_
                    rotate_left
                    · (intro wq hSw; have s0 := hSw.x0; have s1 := hSw.x1; have s2 := hSw.ask hbB HCN.out; clear hSw; go_simp; first | done | with_reducible rfl)
                    simp only [Act.put, List.setIfInBounds_toArray, List.set_cons_zero, List.set_cons_succ]
                    refine take_run 8 50 (v := ?_) rfl rfl (by kernel_rfl) (by kernel_rfl) (by kernel_rfl) (fun _ _ _ h => h) (by rfl) ?_ (by assumption) ?_
                    rotate_left
                    · (intro wq hSw; have s0 := hSw.x0; have s1 := hSw.x1; have s2 := hSw.ask hbB HCN.out; clear hSw; go_simp; first | done | with_reducible rfl)
                    simp only [Act.put, List.setIfInBounds_toArray, List.set_cons_zero, List.set_cons_succ]
                    refine take_run 9 51 (v := ?_) rfl rfl (by kernel_rfl) (by kernel_rfl) (by kernel_rfl) (fun _ _ _ h => h) (by rfl) ?_ (by assumption) ?_
                    rotate_left
                    · (intro wq hSw; have s0 := hSw.x0; have s1 := hSw.x1; have s2 := hSw.ask hbB HCN.out; clear hSw; go_simp; first | done | with_reducible rfl)
                    simp only [Act.put, List.setIfInBounds_toArray, List.set_cons_zero, List.set_cons_succ]
                    refine wpAnyH_ready (rs := [10]) (by kernel_rfl) (by simp) ?_
                    refine AllReadyH.cons rfl (fun K hK => ?_) AllReadyH.nil
                    go_simp
                    refine hK.out _ _ (hHeld.go_on ((Below.refl _ w1).alloc (Nat.le_refl _) _)) (fun hHeld => ?_)
                    clear hK K
                    refine wpAnyH_ready (rs := [11]) (by kernel_rfl) (by simp) ?_
                    refine AllReadyH.cons rfl (fun K hK => ?_) AllReadyH.nil
                    go_simp
                    refine hK.out _ _ ((HB2.out.drew.go_on HB1.out).go_on ((Below.refl _ w1).alloc (Nat.le_refl _) _)) (fun hHeld => ?_)
                    clear hK K
                    refine take_run 12 15 (v := ?_) rfl rfl (by kernel_rfl) (by kernel_rfl) (by kernel_rfl) (fun _ _ _ h => h) (by rfl) ?_ (by assumption) ?_
                    rotate_left
                    · (intro wq hSw; have s0 := hSw.x0; have s1 := hSw.x1; have s2 := hSw.ask hbB HCN.out; clear hSw; go_simp; first | done | with_reducible rfl)
                    simp only [Act.put, List.setIfInBounds_toArray, List.set_cons_zero, List.set_cons_succ]
                    refine wpAnyH_done (by kernel_rfl) ?_ _
                    go_wp2_with fail
                    go_meet
                    exact ask_new HB2.out.drew HB1.out
                  · go_simp
                    refine hK.out _ _ (HB2.out.go_on ((Below.refl _ wr).alloc (Nat.le_refl _) _)).drew (fun hHeld => ?_)
                    clear hK K
                    refine wpAnyH_ready (rs := [6]) (by kernel_rfl) (by simp) ?_
                    refine AllReadyH.cons rfl (fun K hK => ?_) AllReadyH.nil
                    go_simp
                    go_wp2_with (go_at_call 20; refine (HC.out _).mono ?_; rintro r w1 ⟨rfl, hb1⟩)
                    have hyb : Box w1 wr.heap.size 36 #[.string ⟨#[]⟩, .int .i64 0] := (hb1.block wr.heap.size (by simp)).trans (Box.made wr _ _)
                    have ry0 := hyb.cell 0
                    have ry1 := hyb.cell 1
                    have fy0 := hyb.frozen 0
                    have fy1 := hyb.frozen 1
                    have HYB := Lib.hid hyb
                    have HB1 := Lib.hid hb1
                    clear hb1 hyb
                    have hH1 := hHeld.go_on HB1.out
                    have HH1 := Lib.hid hH1
                    refine hK.out _ _ hH1 (fun hHeld => ?_)
                    clear hK K hH1
                    refine take_run 7 42 (v := ?_) rfl rfl (by kernel_rfl) (by kernel_rfl) (by kernel_rfl) (fun _ _ _ h => h) (by rfl) ?_ (by assumption) ?_
                    rotate_left
                    · (intro wq hSw; have s0 := hSw.x0; have s1 := hSw.x1; have s2 := hSw.ask hbB HCN.out; clear hSw; go_simp; first | done | with_reducible rfl)
                    simp only [Act.put, List.setIfInBounds_toArray, List.set_cons_zero, List.set_cons_succ]
                    refine take_run 8 50 (v := ?_) rfl rfl (by kernel_rfl) (by kernel_rfl) (by kernel_rfl) (fun _ _ _ h => h) (by rfl) ?_ (by assumption) ?_
                    rotate_left
                    · (intro wq hSw; have s0 := hSw.x0; have s1 := hSw.x1; have s2 := hSw.ask hbB HCN.out; clear hSw; go_simp; first | done | with_reducible rfl)
                    simp only [Act.put, List.setIfInBounds_toArray, List.set_cons_zero, List.set_cons_succ]
                    refine take_run 9 51 (v := ?_) rfl rfl (by kernel_rfl) (by kernel_rfl) (by kernel_rfl) (fun _ _ _ h => h) (by rfl) ?_ (by assumption) ?_
                    rotate_left
                    · (intro wq hSw; have s0 := hSw.x0; have s1 := hSw.x1; have s2 := hSw.ask hbB HCN.out; clear hSw; go_simp; first | done | with_reducible rfl)
                    simp only [Act.put, List.setIfInBounds_toArray, List.set_cons_zero, List.set_cons_succ]
                    refine wpAnyH_ready (rs := [11]) (by kernel_rfl) (by simp) ?_
                    refine AllReadyH.cons rfl (fun K hK => ?_) AllReadyH.nil
                    go_simp
                    have HH2 := Lib.hid (HH1.out.far (yb := wr.heap.size) (by have := Box.lt HB2.out.r; omega) (by have := HB2.out.x.lt; omega) HB2.out.below.size (.string ⟨(stRaw nn q).1.toArray⟩) (.int .i64 (stRaw nn q).2))
                    refine hK.out _ _ HH2.out (fun hHeld => ?_)
                    clear hK K
                    refine take_run 12 15 (v := ?_) rfl rfl (by kernel_rfl) (by kernel_rfl) (by kernel_rfl) (fun _ _ _ h => h) (by rfl) ?_ (by assumption) ?_
                    rotate_left
                    · (intro wq hSw; have s0 := hSw.x0; have s1 := hSw.x1; have s2 := hSw.ask hbB HCN.out; clear hSw; go_simp; first | done | with_reducible rfl)
                    simp only [Act.put, List.setIfInBounds_toArray, List.set_cons_zero, List.set_cons_succ]
                    refine wpAnyH_done (by kernel_rfl) ?_ _
                    go_wp2_with fail
                    go_meet
                    exact ⟨wr.heap.size, rfl, rfl, Box.put (Box.put HYB.out 0 _) 1 _, by have := HB2.out.x.lt; omega, HH2.out⟩
                case rest =>
                  obtain ⟨yb, rfl, rfl, hy, hyx, hBc⟩ := hcut
                  have hy0 := hy.cell 0
                  have hy1 := hy.cell 1
                  have hz0 := hBc.x0
                  have hz1 := hBc.x1
                  have fz0 := hBc.x.frozen 0
                  have fz1 := hBc.x.frozen 1
                  have hM := hBc.write (stRaw nn q) (Nat.le_trans (reads_rawlen nn q) hBc.len)
                  have hask := hM.ask hbB HCN.out
                  have HM := Lib.hid hM
                  have HNC := Lib.hid (raw_rds hM.r (by have := hM.len; omega) nn)
                  clear hy hBc hM hx0 hx1 hr0 hr1
                  go_wp2_with fail
                  refine HNC.out.mono ?_
                  rintro r w3 ⟨rfl, hr3, hg3⟩
                  have HR := Lib.hid (HM.out.over hr3 hg3)
                  clear hr3 hg3 HNC HM
                  go_wp2_with fail
                  go_meet
                  exact ⟨_, HR.out⟩
        case rest =>
          obtain ⟨q1, hB3⟩ := hcut
          have HB3 := Lib.hid hB3
          clear hB3 HB2 hr0 hr1
          have HE := Lib.hid (fun W => refEnd_any q1 W)
          go_upto_region 29 with fail
          refine wp_region_held_drew (S := fun w' => Both w w' rb xb q1) (by kernel_rfl) HB3.out.drew (fun hHeld => ?_)
          refine take_run 0 118 (v := ?_) rfl rfl (by kernel_rfl) (by kernel_rfl) (by kernel_rfl) (fun _ _ _ h => h) (by rfl) ?_ (by assumption) ?_
          rotate_left
          · (intro wq hSw; have s0 := hSw.x0; have s1 := hSw.x1; clear hSw; go_simp; first | done | with_reducible rfl)
          simp only [Act.put, List.setIfInBounds_toArray, List.set_cons_zero, List.set_cons_succ]
          refine take_run 2 120 (v := ?_) rfl rfl (by kernel_rfl) (by kernel_rfl) (by kernel_rfl) (fun _ _ _ h => h) (by rfl) ?_ (by assumption) ?_
          rotate_left
          · (intro wq hSw; have s0 := hSw.x0; have s1 := hSw.x1; clear hSw; go_simp; first | done | with_reducible rfl)
          simp only [Act.put, List.setIfInBounds_toArray, List.set_cons_zero, List.set_cons_succ]
          refine take_run 3 121 (v := ?_) rfl rfl (by kernel_rfl) (by kernel_rfl) (by kernel_rfl) (fun _ _ _ h => h) (by rfl) ?_ (by assumption) ?_
          rotate_left
          · (intro wq hSw; have s0 := hSw.x0; have s1 := hSw.x1; clear hSw; go_simp; first | done | with_reducible rfl)
          simp only [Act.put, List.setIfInBounds_toArray, List.set_cons_zero, List.set_cons_succ]
          refine take_run 4 122 (v := ?_) rfl rfl (by kernel_rfl) (by kernel_rfl) (by kernel_rfl) (fun _ _ _ h => h) (by rfl) ?_ (by assumption) ?_
          rotate_left
          · (intro wq hSw; have s0 := hSw.x0; have s1 := hSw.x1; clear hSw; go_simp; first | done | with_reducible rfl)
          simp only [Act.put, List.setIfInBounds_toArray, List.set_cons_zero, List.set_cons_succ]
          refine wpAnyH_ready (rs := [1]) (by kernel_rfl) (by simp) ?_
          refine AllReadyH.cons rfl (fun K hK => ?_) AllReadyH.nil
          go_simp
          go_wp2_with (go_at_call 22; refine (left_rds hHeld.r).mono ?_; rintro r w1 ⟨rfl, rfl⟩)
          refine hK.out _ _ (hHeld) (fun hHeld => ?_)
          clear hK K
          refine take_run 5 123 (v := ?_) rfl rfl (by kernel_rfl) (by kernel_rfl) (by kernel_rfl) (fun _ _ _ h => h) (by rfl) ?_ (by assumption) ?_
          rotate_left
          · (intro wq hSw; have s0 := hSw.x0; have s1 := hSw.x1; clear hSw; go_simp; first | done | with_reducible rfl)
          simp only [Act.put, List.setIfInBounds_toArray, List.set_cons_zero, List.set_cons_succ]
          refine take_run 6 124 (v := ?_) rfl rfl (by kernel_rfl) (by kernel_rfl) (by kernel_rfl) (fun _ _ _ h => h) (by rfl) ?_ (by assumption) ?_
          rotate_left
          · (intro wq hSw; have s0 := hSw.x0; have s1 := hSw.x1; clear hSw; go_simp; first | done | with_reducible rfl)
          simp only [Act.put, List.setIfInBounds_toArray, List.set_cons_zero, List.set_cons_succ]
          refine take_run 7 125 (v := ?_) rfl rfl (by kernel_rfl) (by kernel_rfl) (by kernel_rfl) (fun _ _ _ h => h) (by rfl) ?_ (by assumption) ?_
          rotate_left
          · (intro wq hSw; have s0 := hSw.x0; have s1 := hSw.x1; clear hSw; go_simp; first | done | with_reducible rfl)
          simp only [Act.put, List.setIfInBounds_toArray, List.set_cons_zero, List.set_cons_succ]
          refine take_run 9 127 (v := ?_) rfl rfl (by kernel_rfl) (by kernel_rfl) (by kernel_rfl) (fun _ _ _ h => h) (by rfl) ?_ (by assumption) ?_
          rotate_left
          · (intro wq hSw; have s0 := hSw.x0; have s1 := hSw.x1; clear hSw; go_simp; first | done | with_reducible rfl)
          simp only [Act.put, List.setIfInBounds_toArray, List.set_cons_zero, List.set_cons_succ]
          refine take_run 10 128 (v := ?_) rfl rfl (by kernel_rfl) (by kernel_rfl) (by kernel_rfl) (fun _ _ _ h => h) (by rfl) ?_ (by assumption) ?_
          rotate_left
          · (intro wq hSw; have s0 := hSw.x0; have s1 := hSw.x1; clear hSw; go_simp; first | done | with_reducible rfl)
          simp only [Act.put, List.setIfInBounds_toArray, List.set_cons_zero, List.set_cons_succ]
          refine wpAnyH_ready (rs := [8]) (by kernel_rfl) (by simp) ?_
          refine AllReadyH.cons rfl (fun K hK => ?_) AllReadyH.nil
          go_simp
          go_wp2_with (go_at_call 23; refine (bad_rds hHeld.r).mono ?_; rintro r w1 ⟨rfl, rfl⟩)
          refine hK.out _ _ (hHeld) (fun hHeld => ?_)
          clear hK K
          refine take_run 11 129 (v := ?_) rfl rfl (by kernel_rfl) (by kernel_rfl) (by kernel_rfl) (fun _ _ _ h => h) (by rfl) ?_ (by assumption) ?_
          rotate_left
          · (intro wq hSw; have s0 := hSw.x0; have s1 := hSw.x1; clear hSw; go_simp; first | done | with_reducible rfl)
          simp only [Act.put, List.setIfInBounds_toArray, List.set_cons_zero, List.set_cons_succ]
          refine take_run 12 130 (v := ?_) rfl rfl (by kernel_rfl) (by kernel_rfl) (by kernel_rfl) (fun _ _ _ h => h) (by rfl) ?_ (by assumption) ?_
          rotate_left
          · (intro wq hSw; have s0 := hSw.x0; have s1 := hSw.x1; clear hSw; go_simp; first | done | with_reducible rfl)
          simp only [Act.put, List.setIfInBounds_toArray, List.set_cons_zero, List.set_cons_succ]
          refine take_run 13 131 (v := ?_) rfl rfl (by kernel_rfl) (by kernel_rfl) (by kernel_rfl) (fun _ _ _ h => h) (by rfl) ?_ (by assumption) ?_
          rotate_left
          · (intro wq hSw; have s0 := hSw.x0; have s1 := hSw.x1; clear hSw; go_simp; first | done | with_reducible rfl)
          simp only [Act.put, List.setIfInBounds_toArray, List.set_cons_zero, List.set_cons_succ]
          refine take_run 14 132 (v := ?_) rfl rfl (by kernel_rfl) (by kernel_rfl) (by kernel_rfl) (fun _ _ _ h => h) (by rfl) ?_ (by assumption) ?_
          rotate_left
          · (intro wq hSw; have s0 := hSw.x0; have s1 := hSw.x1; clear hSw; go_simp; first | done | with_reducible rfl)
          simp only [Act.put, List.setIfInBounds_toArray, List.set_cons_zero, List.set_cons_succ]
          refine take_run 16 134 (v := ?_) rfl rfl (by kernel_rfl) (by kernel_rfl) (by kernel_rfl) (fun _ _ _ h => h) (by rfl) ?_ (by assumption) ?_
          rotate_left
          · (intro wq hSw; have s0 := hSw.x0; have s1 := hSw.x1; clear hSw; go_simp; first | done | with_reducible rfl)
          simp only [Act.put, List.setIfInBounds_toArray, List.set_cons_zero, List.set_cons_succ]
          refine wpAnyH_ready (rs := [15]) (by kernel_rfl) (by simp) ?_
          refine AllReadyH.cons rfl (fun K hK => ?_) AllReadyH.nil
          go_simp
          go_wp2_with (go_at_call 24; refine (end_rds hHeld.r).mono ?_; rintro r w1 ⟨rfl, rfl⟩)
          refine hK.out _ _ (hHeld) (fun hHeld => ?_)
          clear hK K
          refine wpAnyH_ready (rs := [17]) (by kernel_rfl) (by simp) ?_
          refine AllReadyH.cons rfl (fun K hK => ?_) AllReadyH.nil
          go_simp
          go_wp2_with (go_at_call 25; refine (HE.out _).mono ?_; rintro r w1 ⟨rfl, rfl⟩)
          refine hK.out _ _ ((HB3.out.go_on ((Below.refl _ wc).alloc (Nat.le_refl _) _)).drew) (fun hHeld => ?_)
          clear hK K
          refine take_run 18 136 (v := ?_) rfl rfl (by kernel_rfl) (by kernel_rfl) (by kernel_rfl) (fun _ _ _ h => h) (by rfl) ?_ (by assumption) ?_
          rotate_left
          · (intro wq hSw; have s0 := hSw.x0; have s1 := hSw.x1; clear hSw; go_simp; first | done | with_reducible rfl)
          simp only [Act.put, List.setIfInBounds_toArray, List.set_cons_zero, List.set_cons_succ]
          refine take_run 19 137 (v := ?_) rfl rfl (by kernel_rfl) (by kernel_rfl) (by kernel_rfl) (fun _ _ _ h => h) (by rfl) ?_ (by assumption) ?_
          rotate_left
          · (intro wq hSw; have s0 := hSw.x0; have s1 := hSw.x1; clear hSw; go_simp; first | done | with_reducible rfl)
          simp only [Act.put, List.setIfInBounds_toArray, List.set_cons_zero, List.set_cons_succ]
          have HH := Lib.hid hHeld
          clear hHeld HE HB3
          refine wpAnyH_done (by kernel_rfl) ?_ _
          go_wp2_with fail
          go_roundw
          case rel => first | exact ⟨k + 1, q1, by omega, by omega, by go_num, HH.out⟩ | ((repeat apply Exists.intro); exact ⟨⟨k + 1, q1, by omega, by omega, by go_num, HH.out⟩, rfl⟩)
          case measure => simp [intOf]; omega
      · by_cases hkn : k < n1
        · have hk6 : k = 60 := by omega
          go_wp2_with fail
          refine (one_any wr).mono ?_
          rintro r w3 ⟨rfl, hb3⟩
          go_wp2_with fail
          go_ret
          exact ⟨rfl, HB2.out.below.trans (hb3.mono HB2.out.below.size)⟩
        · go_wp2_with fail
          refine (one_any wr).mono ?_
          rintro r w3 ⟨rfl, hb3⟩
          go_wp2_with fail
          go_ret
          exact ⟨rfl, HB2.out.below.trans (hb3.mono HB2.out.below.size)⟩
end Go.Proofs.Yteabpbmecdenjaa
