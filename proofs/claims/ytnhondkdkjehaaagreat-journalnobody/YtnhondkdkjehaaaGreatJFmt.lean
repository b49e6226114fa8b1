/-
  Format: a device has an empty log.
-/
import Derived.Test.YtnhondkdkjehaaaGreatJLie0
import Derived.Test.YtnhondkdkjehaaaGreatSlM
import Derived.Test.YtnhondkdkjehaaaGreatOneS
import Derived.Test.YtnhondkdkjehaaaGreatJBeh
namespace Go.Proofs.YtnhondkdkjehaaaGreat
open Go.RowKit

set_option linter.unusedVariables false
set_option linter.unusedSimpArgs false
/-- The first head of a log of so many blocks. -/
def fmtHd (n : Int) (h : -9223372036854775808 ≤ n ∧ n ≤ 9223372036854775807) : Hd := ⟨1, 1, 0, 1, n, by omega, by omega, by omega, by omega, h⟩
/-- Zeros for the blocks up to k. -/
def zeroCgs (k : Nat) : List Cg := (List.range k).map (fun i => (i, default))
theorem zeroCgs_succ (k : Nat) : zeroCgs (k + 1) = zeroCgs k ++ [(k, default)] := by simp [zeroCgs, List.range_succ]
theorem zeroCgs_length (k : Nat) : (zeroCgs k).length = k := by simp [zeroCgs]
/-- What Format comes to. -/
def formatTo (n : Int) (h : -9223372036854775808 ≤ n ∧ n ≤ 9223372036854775807) (D : Dv) : Int × Dv :=
  if (fmtHd n h).rightB (D.bs.length : Int) = true then andThen (layTo (2 + n.toNat) (zeroCgs ((D.bs.length : Int) - (2 + n)).toNat) D) fun D1 => saveTo D1 (fmtHd n h) else (2, D)
theorem len_nil (w : World) : Calls Tryz.prog 49 #[.pointer none] w fun e w' => e = .returned (.int .i64 0) ∧ w' = w := by
  have hM := made_nil w
  go_enter Tryz.func49, Tryz.ntmps49
  go_wp2_with (go_at_call 60; refine hM.mono ?_; rintro e w' ⟨rfl, rfl⟩)
  go_ret
  exact ⟨rfl, rfl⟩
theorem format_nil (w : World) (n : Int) : Calls Tryz.prog 36 #[.pointer none, .int .i64 n] w fun e w' => e = .returned (.int .i64 1) ∧ w' = w := by
  have hM := len_nil w
  go_enter Tryz.func36, Tryz.ntmps36
  go_wp2_with (go_at_call 49; refine hM.mono ?_; rintro e w' ⟨rfl, rfl⟩)
  go_ret
  exact ⟨rfl, rfl⟩
/-- What the loop keeps to. -/
structure FI (w0 : World) (m k : Nat) (ys : List Ch) (wr : World) : Prop where
  below : Below w0.heap.size w0 wr
  tab : Box wr w0.heap.size 51 (fl chc (ys ++ List.replicate (m - k) zCh)).toArray
  lie : ∀ y ∈ ys, y.Ok wr (fun b => w0.heap.size < b)
  cg : ys.map Ch.cg = zeroCgs k
  len : ys.length = k
  fit : ∀ y ∈ ys, (0 ≤ y.n ∧ y.n < (k : Int)) ∧ y.b.length = 256
section
variable {w : World} {K : Nat → Prop} {p : Nat} {D : Dv}
set_option maxRecDepth 100000 in
set_option maxHeartbeats 4000000 in
theorem format_says (hd : Dev w K p D) (hK : ∀ k, w.heap.size ≤ k → K k) (n : Int) (hn : -9223372036854775808 ≤ n ∧ n ≤ 9223372036854775807) (ho : D.ops ≤ 50000) :
    Calls Tryz.prog 36 #[.pointer (some ⟨p, 0, none⟩), .int .i64 n] w fun e w' => e = .returned (.int .i64 (formatTo n hn D).1) ∧ Dev w' K p (formatTo n hn D).2 ∧ Touch K w w' := by
  have hmost := hd.1.most
  have hpos := hd.1.pos
  have HL0 := Lib.hid (len_says hd)
  have hlz : ((D.bs.length : Int) == 0) = false := by rw [beq_eq_false_iff_ne]; omega
  obtain ⟨H1, hH1⟩ : ∃ x, fmtHd n hn = x := ⟨_, rfl⟩
  obtain ⟨w1, hw1⟩ : ∃ x, w.alloc (.cells #[.pointer (some ⟨p, 0, none⟩), .int .u64 1, .int .u64 1, .int .i64 0, .int .u64 1, .int .i64 n, .int .i64 0, .int .u64 0, .map none, .map none, .bool false] 81) = x := ⟨_, rfl⟩
  have hb1 : Below w.heap.size w w1 := by rw [← hw1]; exact (Below.refl _ w).alloc (Nat.le_refl _) _
  have hx1 : Box w1 w.heap.size 81 (lc p (.map none, .map none) ⟨H1, 0, 0, false⟩) := by
    rw [← hw1, ← hH1]
    exact Box.made w _ _
  have hd1 : Dev w1 (Since K w w1) p D := hd.since hb1
  have HRH := Lib.hid (range_grows (lg_range hx1) hx1.lt)
  have HLN := Lib.hid (show ∀ q : Grows w1, Calls Tryz.prog 49 #[.pointer (some ⟨p, 0, none⟩)] q.val fun e w'' => e = .returned (.int .i64 (D.bs.length : Int)) ∧ ∃ p' : Grows w1, w'' = p'.val from fun q => Calls.grows ((len_says (hd1.below q.prop)).mono (fun e w' hh => ⟨hh.1, by rw [hh.2]; exact Below.refl _ _⟩)))
  have HRI := Lib.hid (show ∀ q : Grows w1, Calls Tryz.prog 69 #[.agg (hv H1), .int .i64 (D.bs.length : Int)] q.val fun e w'' => e = .returned (.bool (H1.rightB (D.bs.length : Int))) ∧ ∃ p' : Grows w1, w'' = p'.val from fun q => Calls.grows (right_says q.val H1 (D.bs.length : Int) (by omega)))
  have HB1 := Lib.hid hb1
  have HW1 := Lib.hid hw1
  have HDD := Lib.hid hd
  cases hr : H1.rightB (D.bs.length : Int) with
  | false =>
    rw [hr] at HRI
    have hans : formatTo n hn D = (2, D) := by rw [formatTo, hH1, hr, if_neg (by simp)]
    have HA := Lib.hid hans
    have HD1 := Lib.hid hd1
    clear hd hd1 hx1 hb1 hw1 hr hans
    go_enter Tryz.func36, Tryz.ntmps36
    go_upto_region 4 with (go_at_call 49; refine HL0.out.mono ?_; rintro e wn ⟨rfl, hwn⟩; obtain rfl : w = wn := hwn.symm; clear hwn)
    rw [HW1.out]
    refine wp_region_grows (by kernel_rfl) (by kernel_rfl) ?_
    iterate 8 (first
      | (refine wpQuiet_load_yes (by go_simp; done) 78 (.tmp 19) rfl w.heap.size 1 rfl (hvl H1) _ HRH.out Tryz.underlying78 rfl (by kernel_rfl) ?_; simp only [Act.put, List.setIfInBounds_toArray, List.set_cons_zero, List.set_cons_succ])
      | quiet_step (first | (go_at_call 49; exact HLN.out _) | (go_at_call 69; exact HRI.out _)))
    refine wpQuiet_nil ?_
    rintro w2 ⟨⟨_, hw2⟩, rfl⟩
    have HZ := Lib.hid (And.intro ((HD1.out.below hw2).unsince HB1.out hK) ((Touch.of_below (K := K) HB1.out).trans' (Touch.of_below (K := fun _ => False) hw2) (fun _ h => h.elim)))
    clear hw2
    go_wp2
    go_ret
    rw [HA.out]
    exact ⟨rfl, HZ.out⟩
  | true =>
    rw [hr] at HRI
    have hri := Hd.right_iff.1 hr
    have hlg : H1.log = n := by rw [← hH1]; rfl
    rw [hlg] at hri
    obtain ⟨m, hm⟩ : ∃ m : Nat, (D.bs.length : Int) - (2 + n) = (m : Int) := ⟨((D.bs.length : Int) - (2 + n)).toNat, by omega⟩
    have hm1 : m ≤ 4096 := by omega
    have hn3 : 3 ≤ n ∧ n ≤ 4096 := by omega
    obtain ⟨base, hbase⟩ : ∃ b, 2 + n.toNat = b := ⟨_, rfl⟩
    have hans : formatTo n hn D = andThen (layTo base (zeroCgs m) D) fun D1 => saveTo D1 H1 := by
      rw [formatTo, hH1, if_pos hr, hm, hbase]
      rfl
    have HA := Lib.hid hans
    have HR := Lib.hid hr
    have HX1 := Lib.hid hx1
    have HD1 := Lib.hid hd1
    have hlog0 : 0 ≤ (⟨H1, 0, 0, false⟩ : Lg).h.log ∧ (⟨H1, 0, 0, false⟩ : Lg).h.log ≤ 4096 := by show 0 ≤ H1.log ∧ H1.log ≤ 4096; omega
    have hhm : homeOf D ⟨H1, 0, 0, false⟩ = (m : Int) := by
      show (D.bs.length : Int) - (2 + H1.log) = _
      rw [hlg]
      exact hm
    have HHM := Lib.hid hhm
    have HL5 := Lib.hid hlog0
    have HLG := Lib.hid hlg
    obtain ⟨j0, hj0, jz0, jz1, jz2⟩ := info_parts chInfo3
    obtain ⟨i0, hi0, iz0, iz1, iz2⟩ := info_parts Tryz.byteInfo
    clear hd hd1 hx1 hb1 hw1 hr hans hri hlog0 hhm hm hlg
    go_enter Tryz.func36, Tryz.ntmps36
    go_upto_region 4 with (go_at_call 49; refine HL0.out.mono ?_; rintro e wn ⟨rfl, hwn⟩; obtain rfl : w = wn := hwn.symm; clear hwn)
    rw [HW1.out]
    refine wp_region_grows (by kernel_rfl) (by kernel_rfl) ?_
    iterate 8 (first
      | (refine wpQuiet_load_yes (by go_simp; done) 78 (.tmp 19) rfl w.heap.size 1 rfl (hvl H1) _ HRH.out Tryz.underlying78 rfl (by kernel_rfl) ?_; simp only [Act.put, List.setIfInBounds_toArray, List.set_cons_zero, List.set_cons_succ])
      | quiet_step (first | (go_at_call 49; exact HLN.out _) | (go_at_call 69; exact HRI.out _)))
    refine wpQuiet_nil ?_
    rintro w2 ⟨⟨_, hw2⟩, rfl⟩
    have HX2 := Lib.hid (Box.below HX1.out hw2 HX1.out.lt)
    have HD2 := Lib.hid (HD1.out.below hw2)
    have HB2 := Lib.hid (show Below w.heap.size w w2 from HB1.out.trans (hw2.mono HB1.out.size))
    have hs2 := hw2.size
    have hs1 := HB1.out.size
    have hho := jhome_says HX2.out HL5.out HD2.out
    rw [HHM.out] at hho
    have HHO := Lib.hid hho
    clear hw2 hho HRH HLN HRI HL0
    go_upto_region 7 with (first
      | (go_at_call 13; refine HHO.out.mono ?_; rintro e wn ⟨rfl, hwn⟩; obtain rfl : w2 = wn := hwn.symm; clear hwn)
      | (at_make; refine wpList_make_full _ rfl _ _ 46 rfl w2.heap.size 51 j0 _ 2 Tryz.underlying46 hj0 jz0 jz1 _ _ _ _ m rfl rfl rfl rfl (by rw [jz2]; omega) (by unfold maxLen; omega) (Nat.le_refl _) ?_; intro w6 hown6 hg6; have HO6 := Lib.hid (And.intro hown6 hg6); clear hown6 hg6))
    obtain ⟨hown6, hg6⟩ := HO6.out
    change w6.ownsRow _ _ _ _ _ (madeCells (Value.agg #[.int .i64 0, .slice none 0 0]).cells (m * 2)).toList at hown6
    rw [madeChs] at hown6
    have HI0 := Lib.hid (show FI w2 m 0 [] w6 from ⟨(Below.refl w2.heap.size w2).grown hg6 (Nat.le_refl _) (fun k hk => by cases hk), own_boxS hown6, (fun y hy => by cases hy), rfl, rfl, (fun y hy => by cases hy)⟩)
    clear hown6 hg6 HO6
    go_wp2_with fail
    go_loopw [30] (fun v wr => ∃ (k : Nat) (ys : List Ch), v = .int .i64 (k : Int) ∧ k ≤ m ∧ Hid (FI w2 m k ys wr)) (fun v _ => m - (intOf v).toNat)
    case atStart => exact ⟨0, [], rfl, by omega, HI0⟩
    case round =>
      clear HI0
      obtain ⟨k, ys, rfl, hk, H⟩ := hrel
      by_cases hlt : k < m
      · have hlt' : (k : Int) < (m : Int) := by omega
        obtain ⟨x, hx⟩ : ∃ x : Ch, (⟨(k : Int), some ⟨wr.heap.size, 0, none⟩, 256, 256, List.replicate 256 0⟩ : Ch) = x := ⟨_, rfl⟩
        have hxc : #[Value.int .i64 (k : Int), .slice (some ⟨wr.heap.size, 0, none⟩) 256 256] = (chc x).toArray := by rw [← hx]; rfl
        obtain ⟨cur, hcur⟩ : ∃ c, (fl chc (ys ++ List.replicate (m - k) zCh)).toArray = c := ⟨_, rfl⟩
        have hlenc : (ys ++ List.replicate (m - k) zCh).length = m := by rw [List.length_append, List.length_replicate, H.out.len]; omega
        have hcsz : cur.size = m * 2 := by rw [← hcur]; simp [fl_length chc_length, hlenc]
        have hk2 : k * 2 + 2 ≤ cur.size := by omega
        have HCU := Lib.hid hcur
        have HXC := Lib.hid hxc
        have HXX := Lib.hid hx
        have HLC := Lib.hid hlenc
        clear hxc hx hcur hlenc hcsz
        go_upto_region 10 with fail
        go_wp2_with (first
          | (at_make; refine wpList_make_full wr rfl _ _ 49 rfl wr.heap.size 5 i0 _ 1 Tryz.underlying49 hi0 iz0 iz1 _ _ _ _ 256 rfl rfl rfl rfl (by rw [iz2]; omega) (by unfold maxLen; omega) (Nat.le_refl _) ?_; intro w7 hown7 hg7; rw [zero_made] at hown7; have H7 := Lib.hid (And.intro (box_own hown7) ((Below.refl wr.heap.size wr).grown hg7 (Nat.le_refl _) (fun k hk => by cases hk))); clear hown7 hg7)
          | (refine wpList_store_within rfl 51 _ _ rfl w2.heap.size (k * 2) #[.int .i64 (k : Int), .slice (some ⟨wr.heap.size, 0, none⟩) 256 256] rfl rfl 51 cur (show w7.heap[w2.heap.size]? = some (.cells cur 51 (0, 0)) from by have := Box.below H.out.tab H7.out.2 H.out.tab.lt; rw [HCU.out] at this; exact this) hk2 (by kernel_rfl) (by simp [Value.oneCell']) ?_; obtain ⟨w8, hw8⟩ : ∃ y, w7.setRow w2.heap.size (cur.toList.take (k * 2) ++ (#[Value.int .i64 (k : Int), .slice (some ⟨wr.heap.size, 0, none⟩) 256 256] : Array Value).toList ++ cur.toList.drop (k * 2 + (#[Value.int .i64 (k : Int), .slice (some ⟨wr.heap.size, 0, none⟩) 256 256] : Array Value).size)).toArray = y := ⟨_, rfl⟩; rw [hw8]; have HW8 := Lib.hid hw8; clear hw8))
        have hw8 := HW8.out
        have ht8 : Touch (fun b => b = w2.heap.size) w7 w8 := by rw [← hw8]; exact Touch.row (K := fun b => b = w2.heap.size) rfl (Touch.refl _ _) _
        have htab7 := Box.below H.out.tab H7.out.2 H.out.tab.lt
        have hb8 : Below w2.heap.size w2 w8 := by
          have h1 := H.out.below.trans (H7.out.2.mono H.out.below.size)
          exact ⟨ht8.os.trans h1.os, ht8.tape.trans h1.tape, ht8.output.trans h1.output, Nat.le_trans h1.size ht8.size, fun q hq => (ht8.block q (Nat.lt_of_lt_of_le hq h1.size) (fun e => by omega)).trans (h1.block q hq)⟩
        have htab8 : Box w8 w2.heap.size 51 (fl chc ((ys ++ [x]) ++ List.replicate (m - (k + 1)) zCh)).toArray := by
          have h1 : Box w8 w2.heap.size 51 (cur.toList.take (k * 2) ++ (#[Value.int .i64 (k : Int), .slice (some ⟨wr.heap.size, 0, none⟩) 256 256] : Array Value).toList ++ cur.toList.drop (k * 2 + (#[Value.int .i64 (k : Int), .slice (some ⟨wr.heap.size, 0, none⟩) 256 256] : Array Value).size)).toArray := by
            rw [← hw8]
            exact setRow_heap _ _ _ _ _ _ htab7
          have h2 := fl_set chc_length (ys ++ List.replicate (m - k) zCh) k x (by rw [HLC.out]; omega)
          have h3 : (ys ++ List.replicate (m - k) zCh).set k x = (ys ++ [x]) ++ List.replicate (m - (k + 1)) zCh := by
            rw [List.set_append_right _ _ (by rw [H.out.len]; exact Nat.le_refl _), H.out.len, Nat.sub_self, show m - k = (m - (k + 1)) + 1 by omega, List.replicate_succ, List.set_cons_zero, List.append_assoc]
            rfl
          rw [h3] at h2
          rw [← h2]
          have h4 : cur.toList = fl chc (ys ++ List.replicate (m - k) zCh) := by rw [← HCU.out]
          rw [h4, HXC.out] at h1
          exact h1
        have hsz : w2.heap.size < wr.heap.size := H.out.tab.lt
        have HN := Lib.hid (show FI w2 m (k + 1) (ys ++ [x]) w8 from by
          refine ⟨hb8, htab8, fun y hy => ?_, ?_, by simp [H.out.len], fun y hy => ?_⟩
          · rcases List.mem_append.1 hy with hy | hy
            · obtain ⟨a, b, cc⟩ := H.out.lie y hy
              exact ⟨a, b, ht8.lies (cc.below H7.out.2) (fun b hb h => by omega)⟩
            · rw [List.mem_singleton] at hy
              subst hy
              rw [← HXX.out]
              refine ⟨by show _ ≤ (k : Int); omega, by show (k : Int) ≤ _; omega, ?_⟩
              have h1 := H7.out.1.toLies (n := 256) (by rw [bc_length]; exact List.length_replicate) (Nat.le_refl 256)
              exact ht8.lies (h1.weak (N' := fun b => w2.heap.size < b) (fun b _ hb => by have hb' : b = wr.heap.size := hb; omega)) (fun b hb h => by omega)
          · rw [List.map_append, H.out.cg, zeroCgs_succ, List.map_cons, List.map_nil, ← HXX.out]
            show zeroCgs k ++ [(((k : Int)).toNat, bkOf (List.replicate 256 0))] = _
            rw [show bkOf (List.replicate 256 0) = default from bkOf_bk default]
            rfl
          · rcases List.mem_append.1 hy with hy | hy
            · obtain ⟨⟨a, b⟩, cc⟩ := H.out.fit y hy
              exact ⟨⟨a, by omega⟩, cc⟩
            · rw [List.mem_singleton] at hy
              subst hy
              rw [← HXX.out]
              exact ⟨⟨by show (0 : Int) ≤ (k : Int); omega, by show (k : Int) < ((k + 1 : Nat) : Int); omega⟩, List.length_replicate⟩)
        clear HW8 hw8 ht8 htab7 hb8 htab8 H7
        go_wp2
        go_roundw
        case rel => exact ⟨k + 1, _, by go_num, by omega, HN⟩
        case measure => simp [intOf]; omega
      · have hnl : ¬ (k : Int) < (m : Int) := by omega
        obtain rfl : k = m := by omega
        have htb := H.out.tab
        rw [Nat.sub_self, List.replicate_zero, List.append_nil] at htb
        have hbr : Below w.heap.size w wr := HB2.out.trans (H.out.below.mono HB2.out.size)
        have hsz : w2.heap.size < wr.heap.size := htb.lt
        have hdr : Dev wr (Since K w wr) p D := HDD.out.since hbr
        have hbs := hbr.size
        have hxl : w.heap.size < wr.heap.size := by have := HX2.out.lt; omega
        have hpS : ¬ Since K w wr w.heap.size := fun h => h.elim (fun q => by have := q.2; omega) (fun q => by omega)
        have hbxr := Box.below HX2.out H.out.below HX2.out.lt
        have hchs := (tab_chs htb H.out.len H.out.lie).weak (N' := fun b => w2.heap.size ≤ b ∧ b < wr.heap.size) (fun b hb hn => ⟨hn, hb⟩)
        have hly := jlay_says hbxr HL5.out hpS hdr (fun q hq => .inr hq) (fun b => w2.heap.size ≤ b ∧ b < wr.heap.size) (fun b hn h => h.elim (fun q => by have := q.2; omega) (fun q => by omega)) _ _ _ ys hchs (fun y hy => by rw [HHM.out]; exact H.out.fit y hy) (by omega)
        rw [H.out.cg] at hly
        have HLY := Lib.hid (show Calls Tryz.prog 70 #[.pointer (some ⟨w.heap.size, 0, none⟩), .slice (some ⟨w2.heap.size, 0, none⟩) k k] wr fun e w' => e = .returned (.int .i64 (layTo base (zeroCgs k) D).1) ∧ Dev w' (Since K w wr) p (layTo base (zeroCgs k) D).2 ∧ Touch (Since K w wr) wr w' from by
          have hb2 : 2 + (⟨H1, 0, 0, false⟩ : Lg).h.log.toNat = base := by
            show 2 + H1.log.toNat = base
            rw [HLG.out]
            exact hbase
          rw [hb2] at hly
          exact hly)
        have hlor := layTo_or base (zeroCgs k) D
        have hlln := layTo_len base (zeroCgs k) D
        have hlop := layTo_ops base (zeroCgs k) D
        rw [zeroCgs_length] at hlop
        generalize hR1 : layTo base (zeroCgs k) D = R1 at HLY hlor hlln hlop
        have HR1 := Lib.hid hR1
        have HBX := Lib.hid hbxr
        have HBR := Lib.hid hbr
        clear hR1 hly hchs hbxr hdr htb H hbr HX2 HX1 HD1 HD2 HB2
        obtain ⟨a1, D1⟩ := R1
        go_wp2_with fail
        refine HLY.out.mono ?_
        rintro e w3 ⟨rfl, hd3, ht3⟩
        have hd3 : Dev w3 (Since K w wr) p D1 := hd3
        have hbx3 := ht3.box HBX.out hpS
        have hs3 := ht3.size
        rcases hlor with hz | hz
        · have hz : a1 = 0 := hz
          subst hz
          have hlln : D1.bs.length = D.bs.length := hlln
          have hlop : D1.ops ≤ D.ops + k + 1 := hlop
          have HQ := Lib.hid (show formatTo n hn D = saveTo D1 H1 from by rw [HA.out, HR1.out, andThen, if_pos rfl])
          have HSV := Lib.hid (save_says hd3 (fun q hq => .inr (by omega)) (by omega) H1 (by rw [hlln]; exact HR.out))
          have HRL := Lib.hid (lg_range hbx3)
          have HT3 := Lib.hid ht3
          clear hd3 hbx3 ht3 HLY HA HR1
          go_wp2_with (refine wpList_load_mid rfl 78 _ rfl w.heap.size 1 rfl (hvl H1) _ HRL.out Tryz.underlying78 rfl (by kernel_rfl) ?_)
          refine HSV.out.mono ?_
          rintro e w5 ⟨rfl, hd5, ht5⟩
          have HZ := Lib.hid (And.intro (hd5.unsince HBR.out hK) ((HT3.out.trans ht5).since HBR.out hK))
          clear hd5 ht5 HSV
          go_wp2
          go_ret
          rw [HQ.out]
          exact ⟨rfl, HZ.out⟩
        · have hz : a1 = 17 := hz
          subst hz
          have HQ := Lib.hid (show formatTo n hn D = (17, D1) from by rw [HA.out, HR1.out, andThen, if_neg (by simp)])
          have HZ := Lib.hid (And.intro (hd3.unsince HBR.out hK) (ht3.since HBR.out hK))
          clear hd3 hbx3 ht3 HLY HA HR1
          go_wp2
          go_ret
          rw [HQ.out]
          exact ⟨rfl, HZ.out⟩
end
end Go.Proofs.YtnhondkdkjehaaaGreat
