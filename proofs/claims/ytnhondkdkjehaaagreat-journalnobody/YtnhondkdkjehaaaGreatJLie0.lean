/-
  settle: changes are laid, and a head is saved behind them.
-/
import Derived.Test.YtnhondkdkjehaaaGreatJLay
import Derived.Test.YtnhondkdkjehaaaGreatJWet
import Derived.Test.YtnhondkdkjehaaaGreatSlM
namespace Go.Proofs.YtnhondkdkjehaaaGreat
open Go.RowKit

set_option linter.unusedVariables false
set_option linter.unusedSimpArgs false
/-- What settling comes to. -/
def settleTo (base : Nat) (cs : List Cg) (next : Hd) (D : Dv) : Int × Dv := andThen (if cs = [] then (0, D) else layTo base cs D) fun D1 => saveTo D1 next
theorem saveTo_or (D : Dv) (h : Hd) : (saveTo D h).1 = 0 ∨ (saveTo D h).1 = 17 := by
  unfold saveTo
  split
  · exact .inr rfl
  · split
    · exact .inr rfl
    · exact .inl rfl
theorem layTo_or (base : Nat) : ∀ (cs : List Cg) (D : Dv), (layTo base cs D).1 = 0 ∨ (layTo base cs D).1 = 17
  | [], D => by
    unfold layTo
    split
    · exact .inr rfl
    · exact .inl rfl
  | x :: r, D => by
    unfold layTo
    split
    · exact .inr rfl
    · exact layTo_or base r _
/-- The log behind it. -/
def Lg.settled (L : Lg) (next : Hd) : Lg := ⟨next, 0, L.seq, L.down⟩
section
variable {av : Value}
variable {w : World} {K : Nat → Prop} {p dp mb n0 : Nat} {L : Lg} {D : Dv} {DM : DataW Unit}
/-- What settle hands on. -/
def SettlePost (w : World) (av : Value) (K : Nat → Prop) (p dp mb : Nat) (L : Lg) (next : Hd) (R : Int × Dv) (e : Ending) (w' : World) : Prop :=
  e = .returned (.int .i64 R.1) ∧ Dev w' K dp R.2 ∧ Touch (fun k => K k ∨ k = p ∨ k = mb) w w' ∧ (R.1 = 0 → Box w' p 81 (lc dp (.map (some mb), av) (L.settled next)) ∧ w'.ownsMap Tryz.prog 3 rowEl mb 0 (.map []))
set_option maxRecDepth 100000 in
set_option maxHeartbeats 4000000 in
theorem jsettle_says (hb : Box w p 81 (lc dp (.map (some mb), av) L)) (hl : 0 ≤ L.h.log ∧ L.h.log ≤ 4096) (hup : L.down = false) (hp : ¬ K p) (hmK : ¬ K mb) (hpm : p ≠ mb) (hm : w.ownsMap Tryz.prog 3 rowEl mb n0 DM) (hd : Dev w K dp D) (hK : ∀ k, w.heap.size ≤ k → K k)
    (N : Nat → Prop) (hN : ∀ b, N b → ¬ K b) (A : Option Addr) (n c : Nat) (xs : List Ch) (hx : Chs w N A n c xs) (hfit : ∀ x ∈ xs, x.fits (homeOf D L)) (next : Hd) (hr : next.rightB (D.bs.length : Int) = true) (ho : D.ops + n ≤ 80000) :
    Calls Tryz.prog 42 #[.pointer (some ⟨p, 0, none⟩), .slice A n c, .agg (hv next)] w (SettlePost w av K p dp mb L next (settleTo (2 + L.h.log.toNat) (xs.map Ch.cg) next D)) := by
  obtain ⟨base, hbase⟩ : ∃ b, 2 + L.h.log.toNat = b := ⟨_, rfl⟩
  rw [hbase]
  have hxl : xs.length = n := hx.1
  have hmost := hd.1.most
  have hpw := hb.lt
  have hmw := hm.lt
  -- the box of the argument
  obtain ⟨w1, hw1⟩ : ∃ x, w.alloc (.cells #[.int .u64 (next.gen : Int), .int .u64 (next.epoch : Int), .int .i64 next.pos, .int .u64 (next.seq : Int), .int .i64 next.log] 78) = x := ⟨_, rfl⟩
  have hb1 : Below w.heap.size w w1 := by rw [← hw1]; exact (Below.refl _ w).alloc (Nat.le_refl _) _
  have hh1 : Box w1 w.heap.size 78 (hv next) := by rw [← hw1]; exact Box.made w _ _
  have hdw1 : Dev w1 (Since K w w1) dp D := hd.since hb1
  have hbx1 := Box.below hb hb1 hpw
  have hm1 : w1.ownsMap Tryz.prog 3 rowEl mb n0 DM := hm.kept (grown_of_below hb1 none) (by simp)
  have hK1 : ∀ k, w1.heap.size ≤ k → Since K w w1 k := fun k hk => .inr hk
  have hs1 := hb1.size
  have hhl := hh1.lt
  have hpS : ¬ Since K w w1 p := fun h => h.elim (fun q => hp q.1) (fun q => by omega)
  have hmS : ¬ Since K w w1 mb := fun h => h.elim (fun q => hmK q.1) (fun q => by omega)
  have hhS : ¬ Since K w w1 w.heap.size := fun h => h.elim (fun q => by have := q.2; omega) (fun q => by omega)
  have hNw : ∀ b, b < w.heap.size → N b → ¬ Since K w w1 b := fun b hb hn h => h.elim (fun q => hN b hn q.1) (fun q => by omega)
  have hx1 := (hx.weak (N' := fun b => b < w.heap.size ∧ N b) (fun b hb hn => ⟨hb, hn⟩)).below hb1
  have HRH := Lib.hid (range_grows (hd_range hh1) hh1.lt)
  have HLN := Lib.hid (show ∀ q : Grows w1, Calls Tryz.prog 49 #[.pointer (some ⟨dp, 0, none⟩)] q.val fun e w'' => e = .returned (.int .i64 (D.bs.length : Int)) ∧ ∃ p' : Grows w1, w'' = p'.val from fun q => Calls.grows ((len_says (hdw1.below q.prop)).mono (fun e w' hh => ⟨hh.1, by rw [hh.2]; exact Below.refl _ _⟩)))
  have HRI := Lib.hid (show ∀ q : Grows w1, Calls Tryz.prog 69 #[.agg (hv next), .int .i64 (D.bs.length : Int)] q.val fun e w'' => e = .returned (.bool true) ∧ ∃ p' : Grows w1, w'' = p'.val from fun q => Calls.grows (by have := right_says q.val next (D.bs.length : Int) (by omega); rw [hr] at this; exact this))
  have c0 : ∀ q : Grows w1, q.val.cell? ⟨p, 0, none⟩ = some (.pointer (some ⟨dp, 0, none⟩)) := fun q => (q.prop.cell (by omega : p < w1.heap.size)).trans ((Box.cell hbx1 0).trans rfl)
  have HB1 := Lib.hid hb1
  have HRR := Lib.hid hr
  clear hb hd hx hm hb1
  go_enter Tryz.func42, Tryz.ntmps42
  simp only [hv]
  go_upto_region 1 with fail
  refine wp_region_grows (by kernel_rfl) (by kernel_rfl) ?_
  iterate 8 (first
      | (refine wpQuiet_load_yes (by go_simp; done) 78 (.tmp 5) rfl w.heap.size 0 rfl (hvl next) _ HRH.out Tryz.underlying78 rfl (by kernel_rfl) ?_; simp only [Act.put, List.setIfInBounds_toArray, List.set_cons_zero, List.set_cons_succ])
      | quiet_step (first | (go_at_call 49; exact HLN.out _) | (go_at_call 69; exact HRI.out _)))
  refine wpQuiet_nil ?_
  rintro w2 ⟨⟨_, hw2⟩, rfl⟩
  have hd2 := hdw1.below hw2
  have hbx2 := Box.below hbx1 hw2 hbx1.lt
  have hx2 := hx1.below hw2
  have hm2 : w2.ownsMap Tryz.prog 3 rowEl mb n0 DM := hm1.kept (grown_of_below hw2 none) (by simp)
  have hh2 := Box.below hh1 hw2 hh1.lt
  have hs2 := hw2.size
  have ht2 : Touch K w w2 := (Touch.of_below (K := K) HB1.out).trans' (Touch.of_below (K := fun _ => False) hw2) (fun _ h => h.elim)
  have hrD : ∀ D1 : Dv, D1.bs.length = D.bs.length → next.rightB (D1.bs.length : Int) = true := fun D1 h => by rw [h]; exact HRR.out
  have HHR := Lib.hid hrD
  clear hrD
  by_cases hn0 : n = 0
  · subst hn0
    have hxs : xs = [] := List.eq_nil_of_length_eq_zero hxl
    clear hx2 hx1
    have HQ := Lib.hid (show settleTo base (xs.map Ch.cg) next D = saveTo D next from by rw [hxs]; simp [settleTo, andThen])
    have HDX := Lib.hid hd2
    have HBX := Lib.hid hbx2
    have HMX := Lib.hid hm2
    have HHX := Lib.hid hh2
    have HTX := Lib.hid ht2
    have hszX : w1.heap.size ≤ w2.heap.size := by omega
    have kd : w2.drew.cell? ⟨p, 0, none⟩ = some (.pointer (some ⟨dp, 0, none⟩)) := (Box.cell HBX.out 0).trans rfl
    have HRN := Lib.hid (hd_range (show Box w2.drew w.heap.size 78 (hv next) from HHX.out))
    have hdd : Dev w2.drew (Since K w w1) dp D := HDX.out.drewN 1
    have HSV := Lib.hid (save_says hdd (fun q hq => .inr (Nat.le_trans hszX hq)) (by omega) next (HHR.out _ rfl))
    clear hdd hd2 hbx2 hm2 hh2 ht2 hdw1 hbx1 hm1 hh1
    go_upto_region 7 with fail
    go_still_tail 5, (by kernel_rfl)
    refine wpStill_load rfl 78 (.tmp 5) rfl w.heap.size 0 rfl (hvl next) _ HRN.out Tryz.underlying78 rfl (by kernel_rfl) ?_
    simp only [Act.put, List.setIfInBounds_toArray, List.set_cons_zero, List.set_cons_succ]
    refine wpStill_nil ?_
    change wpList _ _ _ _ _ w2.drew
    go_wp2_with fail
    refine HSV.out.mono ?_
    rintro e w5 ⟨rfl, hd5, ht5⟩
    have H5 := Lib.hid (And.intro hd5 (And.intro ht5 (And.intro (ht5.box (show Box w2.drew p _ _ from HBX.out) hpS) (ht5.box (show Box w2.drew w.heap.size _ _ from HHX.out) hhS))))
    have ht5' : Touch (Since K w w1) w2 w5 := ⟨ht5.os, ht5.tape, ht5.output, ht5.size, ht5.block⟩
    have HM5 := Lib.hid (show w5.ownsMap Tryz.prog 3 rowEl mb n0 DM from by
      obtain ⟨es, clock, e1, e2⟩ := HMX.out
      exact ⟨es, clock, (ht5'.block mb (Array.getElem?_eq_some_iff.1 e1).1 hmS).trans e1, e2⟩)
    have HT5 := Lib.hid (show Touch K w w5 from HTX.out.trans (ht5'.mono (fun k h => h.elim (fun q => q.1) (fun q => hK k (by omega)))))
    have hs5 := ht5'.size
    clear hd5 ht5 ht5' kd HSV
    rcases saveTo_or D next with hz | hz
    · have HZ := Lib.hid hz
      rw [hz]
      clear hz
      have hb5 := H5.out.2.2.1
      obtain ⟨w6, hw6⟩ : ∃ y, w5.setRow p ((lc dp (.map (some mb), av) L).toList.take 1 ++ (hv next).toList ++ (lc dp (.map (some mb), av) L).toList.drop (1 + (hv next).size)).toArray = y := ⟨_, rfl⟩
      have hb6 : Box w6 p 81 (lc dp (.map (some mb), av) ⟨next, L.used, L.seq, L.down⟩) := by
        rw [← hw6]
        exact setRow_heap _ _ _ _ _ _ hb5
      have ht6 : Touch (fun k => k = p) w5 w6 := by rw [← hw6]; exact Touch.row (K := fun k => k = p) rfl (Touch.refl _ _) _
      obtain ⟨w7, hw7⟩ : ∃ y, w6.setCell ⟨p, 6, none⟩ (.int .i64 0) = y := ⟨_, rfl⟩
      have hb7 : Box w7 p 81 (lc dp (.map (some mb), av) (L.settled next)) := by
        rw [← hw7]
        have := Box.put hb6 6 (.int .i64 0)
        simpa [lc, Lg.settled] using this
      have ht7 : Touch (fun k => k = p) w5 w7 := ht6.trans (by rw [← hw7]; exact Touch.set (K := fun k => k = p) rfl (Touch.refl _ _) _)
      have c6 : w6.cell? ⟨p, 6, none⟩ = some (.int .i64 (L.used : Int)) := (Box.cell hb6 6).trans rfl
      have f6 := Box.frozen hb6 6
      have c8 : w7.cell? ⟨p, 8, none⟩ = some (.map (some mb)) := (Box.cell hb7 8).trans rfl
      have HM7 := Lib.hid (show w7.ownsMap Tryz.prog 3 rowEl mb n0 DM from by
        obtain ⟨es, clock, e1, e2⟩ := HM5.out
        exact ⟨es, clock, (ht7.block mb (Array.getElem?_eq_some_iff.1 e1).1 (fun e => hpm e.symm)).trans e1, e2⟩)
      have HR5 := Lib.hid (hd_range H5.out.2.2.2)
      have HW6 := Lib.hid hw6
      have HW7 := Lib.hid hw7
      have HP5 := Lib.hid hb5
      have HD7 := Lib.hid (ht7.dev H5.out.1 (fun b h1 h2 => hpS (h2 ▸ h1)))
      have H7 := Lib.hid (And.intro hb7 (show Touch (fun k => K k ∨ k = p ∨ k = mb) w w7 from (HT5.out.mono (fun k h => .inl h)).trans (ht7.mono (fun k h => .inr (.inl h)))))
      clear hb5 hw6 hb6 ht6 hw7 hb7 ht7
      go_upto_region 11 with (first
        | (refine wpList_load_mid rfl 78 _ rfl w.heap.size 0 rfl (hvl next) _ HR5.out Tryz.underlying78 rfl (by kernel_rfl) ?_)
        | (refine wpList_store_within rfl 78 _ _ rfl p 1 (hv next) rfl rfl 81 (lc dp (.map (some mb), av) L) HP5.out (by rw [hv_size, lc_size]; omega) (by rw [hv_size]; exact hdInfo) (hv_one _) ?_; rw [HW6.out]))
      rw [HW7.out]
      go_wp2_with (refine wpList_clear_own _ rfl _ 79 rfl 3 49 Tryz.underlying79 mb n0 DM rfl HM7.out ?_; intro w8 hm8 ht8; have H8 := Lib.hid (And.intro hm8 ht8); clear hm8 ht8)
      go_ret
      rw [HQ.out]
      refine ⟨by rw [HZ.out]; rfl, (H8.out.2.dev HD7.out (fun b h1 h2 => hmS (h2 ▸ h1))).unsince HB1.out hK, ?_, fun _ => ⟨H8.out.2.box H7.out.1 hpm, H8.out.1⟩⟩
      exact H7.out.2.trans (H8.out.2.mono (fun k h => .inr (.inr h)))
    · have HZ := Lib.hid hz
      rw [hz]
      clear hz
      have HNB := Lib.hid (jnoted_bad H5.out.2.2.1 hup 17 (by decide))
      go_wp2_with fail
      refine HNB.out.mono ?_
      rintro e w6 ⟨rfl, rfl⟩
      have HD6 := Lib.hid ((Touch.set (K := fun k => k = p) rfl (Touch.refl (fun k => k = p) w5) (i := 10) (.bool true)).dev H5.out.1 (fun b h1 h2 => hpS (h2 ▸ h1)))
      go_wp2
      go_ret
      rw [HQ.out]
      refine ⟨by rw [HZ.out]; rfl, HD6.out.unsince HB1.out hK, ?_, fun h => absurd h (by rw [HZ.out]; decide)⟩
      exact Touch.set (K := fun k => K k ∨ k = p ∨ k = mb) (.inr (.inl rfl)) (HT5.out.mono (fun k h => .inl h)) _
  · have hpos : (0 : Int) < (n : Int) := by omega
    have hpos' : 0 < n := by omega
    have hne : xs.map Ch.cg ≠ [] := fun h => by
      have := congrArg List.length h
      rw [List.length_map, hxl] at this
      exact hn0 (by simpa using this)
    have hfit2 : ∀ x ∈ xs, x.fits (homeOf D L) := hfit
    have HLY := Lib.hid (jlay_says hbx2 hl hpS hd2 (fun q hq => .inr (by omega)) (fun b => b < w.heap.size ∧ N b) (fun b hn => hNw b hn.1 hn.2) A n c xs hx2 hfit2 (by omega))
    rw [hbase] at HLY
    have HK2 := Lib.hid (And.intro hbx2 (And.intro hm2 (And.intro hh2 ht2)))
    clear hd2 hbx2 hx2 hm2 hh2 ht2 hdw1 hbx1 hm1 hh1 hx1
    have hlor := layTo_or base (xs.map Ch.cg) D
    have hlln := layTo_len base (xs.map Ch.cg) D
    have hlop := layTo_ops base (xs.map Ch.cg) D
    rw [List.length_map, hxl] at hlop
    generalize hR1 : layTo base (xs.map Ch.cg) D = R1 at HLY hlor hlln hlop
    have HR1 := Lib.hid hR1
    clear hR1
    obtain ⟨a1, D1⟩ := R1
    go_wp2_with fail
    refine HLY.out.mono ?_
    rintro e w3 ⟨rfl, hd3, ht3⟩
    have hbx3 := ht3.box HK2.out.1 hpS
    have hh3 := ht3.box HK2.out.2.2.1 hhS
    have hm3 : w3.ownsMap Tryz.prog 3 rowEl mb n0 DM := by
      obtain ⟨es, clock, e1, e2⟩ := HK2.out.2.1
      exact ⟨es, clock, (ht3.block mb (Array.getElem?_eq_some_iff.1 e1).1 hmS).trans e1, e2⟩
    have hT3 : Touch K w w3 := HK2.out.2.2.2.trans (ht3.mono (fun k h => h.elim (fun q => q.1) (fun q => hK k (by omega))))
    have hs3 := ht3.size
    clear ht3 HLY
    have hlln : D1.bs.length = D.bs.length := hlln
    have hlop : D1.ops ≤ D.ops + n + 1 := hlop
    rcases hlor with hz | hz
    · have hz : a1 = 0 := hz
      subst hz
      have HQ := Lib.hid (show settleTo base (xs.map Ch.cg) next D = saveTo D1 next from (by rw [settleTo, if_neg hne, HR1.out, andThen, if_pos rfl]))
      have HDX := Lib.hid (show Dev w3 (Since K w w1) dp D1 from hd3)
      have HBX := Lib.hid hbx3
      have HMX := Lib.hid hm3
      have HHX := Lib.hid hh3
      have HTX := Lib.hid hT3
      have hszX : w1.heap.size ≤ w3.heap.size := by omega
      have kd : w3.drew.cell? ⟨p, 0, none⟩ = some (.pointer (some ⟨dp, 0, none⟩)) := (Box.cell HBX.out 0).trans rfl
      have HRN := Lib.hid (hd_range (show Box w3.drew w.heap.size 78 (hv next) from HHX.out))
      have hdd : Dev w3.drew (Since K w w1) dp D1 := HDX.out.drewN 1
      have HSV := Lib.hid (save_says hdd (fun q hq => .inr (Nat.le_trans hszX hq)) (by omega) next (HHR.out _ hlln))
      clear hdd hd3 hbx3 hm3 hh3 hT3
      go_upto_region 7 with fail
      go_still_tail 5, (by kernel_rfl)
      refine wpStill_load rfl 78 (.tmp 5) rfl w.heap.size 0 rfl (hvl next) _ HRN.out Tryz.underlying78 rfl (by kernel_rfl) ?_
      simp only [Act.put, List.setIfInBounds_toArray, List.set_cons_zero, List.set_cons_succ]
      refine wpStill_nil ?_
      change wpList _ _ _ _ _ w3.drew
      go_wp2_with fail
      refine HSV.out.mono ?_
      rintro e w5 ⟨rfl, hd5, ht5⟩
      have H5 := Lib.hid (And.intro hd5 (And.intro ht5 (And.intro (ht5.box (show Box w3.drew p _ _ from HBX.out) hpS) (ht5.box (show Box w3.drew w.heap.size _ _ from HHX.out) hhS))))
      have ht5' : Touch (Since K w w1) w3 w5 := ⟨ht5.os, ht5.tape, ht5.output, ht5.size, ht5.block⟩
      have HM5 := Lib.hid (show w5.ownsMap Tryz.prog 3 rowEl mb n0 DM from by
        obtain ⟨es, clock, e1, e2⟩ := HMX.out
        exact ⟨es, clock, (ht5'.block mb (Array.getElem?_eq_some_iff.1 e1).1 hmS).trans e1, e2⟩)
      have HT5 := Lib.hid (show Touch K w w5 from HTX.out.trans (ht5'.mono (fun k h => h.elim (fun q => q.1) (fun q => hK k (by omega)))))
      have hs5 := ht5'.size
      clear hd5 ht5 ht5' kd HSV
      rcases saveTo_or D1 next with hz | hz
      · have HZ := Lib.hid hz
        rw [hz]
        clear hz
        have hb5 := H5.out.2.2.1
        obtain ⟨w6, hw6⟩ : ∃ y, w5.setRow p ((lc dp (.map (some mb), av) L).toList.take 1 ++ (hv next).toList ++ (lc dp (.map (some mb), av) L).toList.drop (1 + (hv next).size)).toArray = y := ⟨_, rfl⟩
        have hb6 : Box w6 p 81 (lc dp (.map (some mb), av) ⟨next, L.used, L.seq, L.down⟩) := by
          rw [← hw6]
          exact setRow_heap _ _ _ _ _ _ hb5
        have ht6 : Touch (fun k => k = p) w5 w6 := by rw [← hw6]; exact Touch.row (K := fun k => k = p) rfl (Touch.refl _ _) _
        obtain ⟨w7, hw7⟩ : ∃ y, w6.setCell ⟨p, 6, none⟩ (.int .i64 0) = y := ⟨_, rfl⟩
        have hb7 : Box w7 p 81 (lc dp (.map (some mb), av) (L.settled next)) := by
          rw [← hw7]
          have := Box.put hb6 6 (.int .i64 0)
          simpa [lc, Lg.settled] using this
        have ht7 : Touch (fun k => k = p) w5 w7 := ht6.trans (by rw [← hw7]; exact Touch.set (K := fun k => k = p) rfl (Touch.refl _ _) _)
        have c6 : w6.cell? ⟨p, 6, none⟩ = some (.int .i64 (L.used : Int)) := (Box.cell hb6 6).trans rfl
        have f6 := Box.frozen hb6 6
        have c8 : w7.cell? ⟨p, 8, none⟩ = some (.map (some mb)) := (Box.cell hb7 8).trans rfl
        have HM7 := Lib.hid (show w7.ownsMap Tryz.prog 3 rowEl mb n0 DM from by
          obtain ⟨es, clock, e1, e2⟩ := HM5.out
          exact ⟨es, clock, (ht7.block mb (Array.getElem?_eq_some_iff.1 e1).1 (fun e => hpm e.symm)).trans e1, e2⟩)
        have HR5 := Lib.hid (hd_range H5.out.2.2.2)
        have HW6 := Lib.hid hw6
        have HW7 := Lib.hid hw7
        have HP5 := Lib.hid hb5
        have HD7 := Lib.hid (ht7.dev H5.out.1 (fun b h1 h2 => hpS (h2 ▸ h1)))
        have H7 := Lib.hid (And.intro hb7 (show Touch (fun k => K k ∨ k = p ∨ k = mb) w w7 from (HT5.out.mono (fun k h => .inl h)).trans (ht7.mono (fun k h => .inr (.inl h)))))
        clear hb5 hw6 hb6 ht6 hw7 hb7 ht7
        go_upto_region 11 with (first
          | (refine wpList_load_mid rfl 78 _ rfl w.heap.size 0 rfl (hvl next) _ HR5.out Tryz.underlying78 rfl (by kernel_rfl) ?_)
          | (refine wpList_store_within rfl 78 _ _ rfl p 1 (hv next) rfl rfl 81 (lc dp (.map (some mb), av) L) HP5.out (by rw [hv_size, lc_size]; omega) (by rw [hv_size]; exact hdInfo) (hv_one _) ?_; rw [HW6.out]))
        rw [HW7.out]
        go_wp2_with (refine wpList_clear_own _ rfl _ 79 rfl 3 49 Tryz.underlying79 mb n0 DM rfl HM7.out ?_; intro w8 hm8 ht8; have H8 := Lib.hid (And.intro hm8 ht8); clear hm8 ht8)
        go_ret
        rw [HQ.out]
        refine ⟨by rw [HZ.out]; rfl, (H8.out.2.dev HD7.out (fun b h1 h2 => hmS (h2 ▸ h1))).unsince HB1.out hK, ?_, fun _ => ⟨H8.out.2.box H7.out.1 hpm, H8.out.1⟩⟩
        exact H7.out.2.trans (H8.out.2.mono (fun k h => .inr (.inr h)))
      · have HZ := Lib.hid hz
        rw [hz]
        clear hz
        have HNB := Lib.hid (jnoted_bad H5.out.2.2.1 hup 17 (by decide))
        go_wp2_with fail
        refine HNB.out.mono ?_
        rintro e w6 ⟨rfl, rfl⟩
        have HD6 := Lib.hid ((Touch.set (K := fun k => k = p) rfl (Touch.refl (fun k => k = p) w5) (i := 10) (.bool true)).dev H5.out.1 (fun b h1 h2 => hpS (h2 ▸ h1)))
        go_wp2
        go_ret
        rw [HQ.out]
        refine ⟨by rw [HZ.out]; rfl, HD6.out.unsince HB1.out hK, ?_, fun h => absurd h (by rw [HZ.out]; decide)⟩
        exact Touch.set (K := fun k => K k ∨ k = p ∨ k = mb) (.inr (.inl rfl)) (HT5.out.mono (fun k h => .inl h)) _
    · have hz : a1 = 17 := hz
      subst hz
      have HQ := Lib.hid (show settleTo base (xs.map Ch.cg) next D = (17, D1) from (by rw [settleTo, if_neg hne, HR1.out, andThen, if_neg (by simp)]))
      have HNB := Lib.hid (jnoted_bad hbx3 hup 17 (by decide))
      have HD3 := Lib.hid (And.intro (show Dev w3 (Since K w w1) dp D1 from hd3) hT3)
      clear hd3 hbx3 hm3 hh3 hT3
      go_wp2_with fail
      refine HNB.out.mono ?_
      rintro e w6 ⟨rfl, rfl⟩
      have HD6 := Lib.hid ((Touch.set (K := fun k => k = p) rfl (Touch.refl (fun k => k = p) w3) (i := 10) (.bool true)).dev HD3.out.1 (fun b h1 h2 => hpS (h2 ▸ h1)))
      go_wp2
      go_ret
      rw [HQ.out]
      refine ⟨rfl, HD6.out.unsince HB1.out hK, ?_, fun h => absurd h (show ¬ (17 : Int) = 0 by decide)⟩
      exact Touch.set (K := fun k => K k ∨ k = p ∨ k = mb) (.inr (.inl rfl)) (HD3.out.2.mono (fun k h => .inl h)) _
end
end Go.Proofs.YtnhondkdkjehaaaGreat
