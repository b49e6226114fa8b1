/-
  The reference's Fall.
-/
import Derived.Test.YtemgphpgfdnkeaaRefStr
namespace Go.Proofs.Ytemgphpgfdnkeaa
open Go.RowKit

/-- What is kept with the first k writes, as much of each as is kept. -/
def rdTo (keep : List Int) (kept : List Bk) (l2 : List Nat) (l3 : List Bk) : Nat → List Bk
  | 0 => kept
  | k + 1 => (rdTo keep kept l2 l3 k).set (l2.getD k 0) (part (l3.getD k default) ((rdTo keep kept l2 l3 k).getD (l2.getD k 0) default) (keepAt keep k))
theorem rdTo_length (keep : List Int) (kept : List Bk) (l2 : List Nat) (l3 : List Bk) : ∀ k, (rdTo keep kept l2 l3 k).length = kept.length
  | 0 => rfl
  | k + 1 => by rw [rdTo, List.length_set, rdTo_length keep kept l2 l3 k]
set_option maxRecDepth 100000 in
set_option maxHeartbeats 4000000 in
theorem rfall_low (w : World) (N : Nat → Prop) (A1 A2 A3 : Option Addr) (n1 c1 m c2 c3 : Nat) (kept : List Bk) (l2 : List Nat) (l3 : List Bk) (h1 : Rd w N A1 n1 c1 (scs kept)) (h2 : Rd w N A2 m c2 (ncs l2)) (h3 : Rd w N A3 m c3 (scs l3)) (hN : ∀ b, N b → b < w.heap.size) (arm : Int) (down : Bool) (ops : Int) (hn0 : 0 < n1) (hn1 : n1 ≤ 4096) (hm : m ≤ 1000) (hpl : ∀ k, k < m → l2.getD k 0 < n1) (Ak : Option Addr) (nk ck : Nat) (keep : List Int) (hkp : Lies w (fun _ => True) Ak nk ck (ics keep)) :
    Calls Try.prog 12 #[.agg #[.slice A1 n1 c1, .slice A2 m c2, .slice A3 m c3, .int .i64 arm, .bool down, .int .i64 ops], .slice Ak nk ck] w fun e w' => ∃ B1 d1, e = .returned (.agg #[.slice B1 n1 d1, .slice none 0 0, .slice none 0 0, .int .i64 (-1), .bool false, .int .i64 ops]) ∧
      Rd w' (fun k => w.heap.size ≤ k) B1 n1 d1 (scs (rdTo keep kept l2 l3 m)) ∧ Below w.heap.size w w' := by
  obtain ⟨w1, hw1⟩ : ∃ x, w.alloc (.cells #[.slice A1 n1 c1, .slice A2 m c2, .slice A3 m c3, .int .i64 arm, .bool down, .int .i64 ops] 30) = x := ⟨_, rfl⟩
  have hB1 : Below w.heap.size w w1 := by rw [← hw1]; exact (Below.refl _ w).alloc (Nat.le_refl _) _
  have hx1 := Box.made w 30 #[.slice A1 n1 c1, .slice A2 m c2, .slice A3 m c3, .int .i64 arm, .bool down, .int .i64 ops]
  rw [hw1] at hx1
  have hs1 : w1.heap.size = w.heap.size + 1 := by rw [← hw1]; simp
  obtain ⟨w2, hw2⟩ : ∃ x, w1.alloc (.cells #[.slice none 0 0, .slice none 0 0, .slice none 0 0, .int .i64 0, .bool false, .int .i64 0] 30) = x := ⟨_, rfl⟩
  have hB2 : Below w.heap.size w w2 := by rw [← hw2]; exact hB1.alloc hB1.size _
  have hx2 := Box.alloc hx1 (.cells #[.slice none 0 0, .slice none 0 0, .slice none 0 0, .int .i64 0, .bool false, .int .i64 0] 30)
  rw [hw2] at hx2
  have hy2 := Box.made w1 30 #[.slice none 0 0, .slice none 0 0, .slice none 0 0, .int .i64 0, .bool false, .int .i64 0]
  rw [hw2, hs1] at hy2
  obtain ⟨w3, hw3⟩ : ∃ x, w2.alloc (.cells #[] 9) = x := ⟨_, rfl⟩
  have hB3 : Below w.heap.size w w3 := by rw [← hw3]; exact hB2.alloc hB2.size _
  have hx3 := Box.alloc hx2 (.cells #[] 9)
  rw [hw3] at hx3
  have hy3 := Box.alloc hy2 (.cells #[] 9)
  rw [hw3] at hy3
  have ho3 := own_empty w2 9 hB2.size
  rw [hw3] at ho3
  have k1 : w3.cell? ⟨w.heap.size, 0, none⟩ = some (.slice A1 n1 c1) := (Box.cell hx3 0).trans rfl
  have e1 : kept.length = n1 := by rw [← scs_length]; exact h1.1.len
  have e2 : l2.length = m := by rw [← ncs_length]; exact h2.1.len
  have e3 : l3.length = m := by rw [← scs_length]; exact h3.1.len
  have H3 := Lib.hid (And.intro hx3 (And.intro hy3 (And.intro hB3 (And.intro ho3 (And.intro (h1.below hB3) (And.intro (h2.below hB3) (h3.below hB3)))))))
  have HKP := Lib.hid hkp
  have hkl : keep.length = nk := by rw [← ics_length]; exact hkp.len
  clear hkp
  have HE := Lib.hid (And.intro e1 (And.intro e2 (And.intro e3 hpl)))
  clear hx1 hx2 hy2 hx3 hy3 hB1 hB2 hB3 ho3 h1 h2 h3 e1 e2 e3 hpl
  go_enter Try.func12, Try.ntmps12
  go_upto_region 2 with (first
    | (at_builtin; refine wpList_app 27 9 _ 16 Try.underlying27 strInfo rfl (by omega) w3 _ _ rfl rfl w.heap.size _ 0 [] A1 n1 c1 (scs kept) rfl rfl H3.out.2.2.2.1 H3.out.2.2.2.2.1 (scs_one _) (by omega) H3.out.2.2.1.size ?_; intro v4 w4 ho4 hg4; rw [Nat.zero_add, List.nil_append] at ho4; have H4 := Lib.hid (And.intro ho4 hg4); clear ho4 hg4))
  obtain ⟨ho4, hg4⟩ := H4.out
  obtain ⟨g, cap, r, hv4, hgb, _⟩ := own_open ho4 hn0
  subst hv4
  have hb4 : Below w.heap.size w3 w4 := (Below.refl _ w3).grown hg4 H3.out.2.2.1.size (fun k hk => (World.ownsRow.lt H3.out.2.2.2.1 k hk).1)
  have hL4 : Lp w w4 #[.slice A1 n1 c1, .slice A2 m c2, .slice A3 m c3, .int .i64 arm, .bool down, .int .i64 ops] #[.slice none 0 0, .slice none 0 0, .slice none 0 0, .int .i64 0, .bool false, .int .i64 0] g cap (rdTo keep kept l2 l3 0) N A2 A3 m c2 c3 l2 l3 := by
    refine ⟨Box.grown H3.out.1 hg4 (Box.apart H3.out.1 H3.out.2.2.2.1 (by decide)).symm, Box.grown H3.out.2.1 hg4 (Box.apart H3.out.2.1 H3.out.2.2.2.1 (by decide)).symm, H3.out.2.2.1.trans hb4, ?_, ⟨H3.out.2.2.2.2.2.1.1.keep (fun p hp _ => hb4.cell (p := p) (hN _ hp)) hb4.size, H3.out.2.2.2.2.2.1.2⟩, ⟨H3.out.2.2.2.2.2.2.1.keep (fun p hp _ => hb4.cell (p := p) (hN _ hp)) hb4.size, H3.out.2.2.2.2.2.2.2⟩⟩
    rw [rdTo_length, HE.out.1]
    exact ho4
  have HL4 := Lib.hid hL4
  clear ho4 hg4 hb4 hL4 H4 H3 hw1 hw2 hw3 k1
  go_wp2_with fail
  go_loopw [6, 7] (fun v _ wr => ∃ k : Nat, v = .int .i64 (k : Int) ∧ k ≤ m ∧ Hid (Lp w wr #[.slice A1 n1 c1, .slice A2 m c2, .slice A3 m c3, .int .i64 arm, .bool down, .int .i64 ops] #[.slice none 0 0, .slice none 0 0, .slice none 0 0, .int .i64 0, .bool false, .int .i64 0] g cap (rdTo keep kept l2 l3 k) N A2 A3 m c2 c3 l2 l3)) (fun v _ _ => m - (intOf v).toNat)
  case atStart => exact ⟨0, rfl, Nat.zero_le _, HL4⟩
  case round =>
    obtain ⟨k, rfl, hk, H⟩ := hrel
    have p1 : wr.cell? ⟨w.heap.size, 1, none⟩ = some (.slice A2 m c2) := (Box.cell H.out.x 1).trans rfl
    have p2 : wr.cell? ⟨w.heap.size, 2, none⟩ = some (.slice A3 m c3) := (Box.cell H.out.x 2).trans rfl
    by_cases hlt : k < m
    · obtain ⟨e1, e2, e3, hpl⟩ := HE.out
      have hlen : (rdTo keep kept l2 l3 k).length = n1 := by rw [rdTo_length]; exact e1
      obtain ⟨b2, o2, rfl, _, _, k2⟩ := H.out.at'.at (ncs_at (show k < l2.length by omega))
      obtain ⟨b3, o3, rfl, _, _, k3⟩ := H.out.bs.at (scs_at (show k < l3.length by omega))
      have hy := hpl k hlt
      have hown := H.out.own
      obtain ⟨x3, hx3⟩ : ∃ x, l3.getD k default = x := ⟨_, rfl⟩
      rw [hx3] at k3
      obtain ⟨y, hyy⟩ : ∃ y, l2.getD k 0 = y := ⟨_, rfl⟩
      rw [hyy] at k2 hy
      obtain ⟨x0, hx0⟩ : ∃ x, (rdTo keep kept l2 l3 k).getD y default = x := ⟨_, rfl⟩
      rw [hlen] at hown
      obtain ⟨cy, fy⟩ := own_cell hown (scs_at (show y < (rdTo keep kept l2 l3 k).length by omega))
      rw [hx0] at cy
      obtain ⟨nn, hnn⟩ : ∃ n, keepAt keep k = n := ⟨_, rfl⟩
      have hnn6 : nn ≤ 256 := by rw [← hnn]; exact keepAt_le _ _
      have hst := H.out.set hN y (part x3 x0 nn)
      rw [show (rdTo keep kept l2 l3 k).set y (part x3 x0 nn) = rdTo keep kept l2 l3 (k + 1) by rw [rdTo, hyy, hx3, hx0, hnn]] at hst
      have s1 := fun W => sliceS_first x3.1 nn (by rw [x3.2]; exact hnn6) W
      have s2 := fun W => sliceS_rest x0.1 nn (by rw [x0.2]; exact hnn6) W
      have hcat : (⟨(x3.1.take nn).toArray⟩ : ByteArray) ++ (⟨(x0.1.drop nn).toArray⟩ : ByteArray) = ⟨(part x3 x0 nn).1.toArray⟩ := catS _ _
      have z1 := str_size' (x3.1.take nn)
      have z2 := str_size' (x0.1.drop nn)
      rw [List.length_take, x3.2] at z1
      rw [List.length_drop, x0.2] at z2
      unfold sc at k3 cy hst
      generalize (⟨x3.1.toArray⟩ : ByteArray) = S3 at *
      generalize (⟨x0.1.toArray⟩ : ByteArray) = S0 at *
      generalize (⟨(x3.1.take nn).toArray⟩ : ByteArray) = T3 at *
      generalize (⟨(x0.1.drop nn).toArray⟩ : ByteArray) = T0 at *
      generalize (⟨(part x3 x0 nn).1.toArray⟩ : ByteArray) = R at *
      have hsz : ¬ 9223372036854775807 < T3.size + T0.size := by omega
      have H5 := Lib.hid hst
      have HC := Lib.hid (And.intro hcat hnn)
      have l6 : (k : Int) < (m : Int) := by omega
      have l7 : (y : Int) < (n1 : Int) := by omega
      clear hst hown hyy e1 e2 e3 hpl hlen hx3 hx0 hnn z1 z2
      by_cases hkk : k < nk
      · obtain ⟨xk, hxk⟩ : ∃ x, keep[k]? = some x := ⟨_, List.getElem?_eq_getElem (by omega)⟩
        obtain ⟨bk, ok, rfl, _, hbk, ckk⟩ := HKP.out.at (ics_at hxk)
        have ckk' : wr.cell? ⟨bk, ok + k, none⟩ = some (.int .i64 xk) := (H.out.bel.cell (p := ⟨bk, ok + k, none⟩) hbk).trans ckk
        have hkv : nn = min xk.toNat 256 := by rw [← HC.out.2]; simp [keepAt, List.getD, hxk]
        have l8 : (k : Int) < (nk : Int) := by omega
        clear ckk hxk
        rcases Int.lt_or_le xk 0 with h | h
        · have g1 : ¬ 256 < xk := by omega
          have g2 : ¬ 0 < xk := by omega
          have g3 : nn = 0 := by omega
          subst g3
          clear hkv
          have s1 : ∀ W, (Instr.sliceAt 9 (.string S3) none (some (.int .i64 0)) none).run Try.prog W = .ok (.string T3) W := s1
          have s2 : ∀ W, (Instr.sliceAt 9 (.string S0) (some (.int .i64 0)) none none).run Try.prog W = .ok (.string T0) W := s2
          go_upto_region 8 with fail
          have d1 : wr.drew.cell? ⟨w.heap.size, 1, none⟩ = some (.slice (some ⟨b2, o2, none⟩) m c2) := p1
          go_still_tail 25, (by kernel_rfl)
          change wpList _ _ _ _ _ wr.drew
          go_wp2
          go_roundw
          case rel => exact ⟨k + 1, by go_num, by omega, H5⟩
          case measure => simp [intOf]; omega
        · rcases Int.lt_or_le 256 xk with h' | h'
          · have g3 : nn = 256 := by omega
            subst g3
            clear hkv
            have s1 : ∀ W, (Instr.sliceAt 9 (.string S3) none (some (.int .i64 256)) none).run Try.prog W = .ok (.string T3) W := s1
            have s2 : ∀ W, (Instr.sliceAt 9 (.string S0) (some (.int .i64 256)) none none).run Try.prog W = .ok (.string T0) W := s2
            go_upto_region 8 with fail
            have d1 : wr.drew.cell? ⟨w.heap.size, 1, none⟩ = some (.slice (some ⟨b2, o2, none⟩) m c2) := p1
            go_still_tail 25, (by kernel_rfl)
            change wpList _ _ _ _ _ wr.drew
            go_wp2
            go_roundw
            case rel => exact ⟨k + 1, by go_num, by omega, H5⟩
            case measure => simp [intOf]; omega
          · have g1 : ¬ 256 < xk := by omega
            have g3 : xk = (nn : Int) := by omega
            clear hkv
            subst g3
            have g5 : (if 0 < nn then (nn : Int) else 0) = (nn : Int) := by split <;> omega
            go_upto_region 8 with fail
            have d1 : wr.drew.cell? ⟨w.heap.size, 1, none⟩ = some (.slice (some ⟨b2, o2, none⟩) m c2) := p1
            go_still_tail 25, (by kernel_rfl)
            change wpList _ _ _ _ _ wr.drew
            go_wp2
            go_roundw
            case rel => exact ⟨k + 1, by go_num, by omega, H5⟩
            case measure => simp [intOf]; omega
      · have l8 : ¬ (k : Int) < (nk : Int) := by omega
        have g3 : nn = 0 := by
          rw [← HC.out.2]
          simp [keepAt, List.getD, List.getElem?_eq_none (show keep.length ≤ k by omega)]
        subst g3
        have s1 : ∀ W, (Instr.sliceAt 9 (.string S3) none (some (.int .i64 0)) none).run Try.prog W = .ok (.string T3) W := s1
        have s2 : ∀ W, (Instr.sliceAt 9 (.string S0) (some (.int .i64 0)) none none).run Try.prog W = .ok (.string T0) W := s2
        go_upto_region 8 with fail
        have d1 : wr.drew.cell? ⟨w.heap.size, 1, none⟩ = some (.slice (some ⟨b2, o2, none⟩) m c2) := p1
        go_still_tail 25, (by kernel_rfl)
        change wpList _ _ _ _ _ wr.drew
        go_wp2
        go_roundw
        case rel => exact ⟨k + 1, by go_num, by omega, H5⟩
        case measure => simp [intOf]; omega
    · obtain rfl : k = m := by omega
      obtain ⟨bx, by', bb, bo, _, _⟩ := H.out
      have hlen : (rdTo keep kept l2 l3 k).length = n1 := by rw [rdTo_length]; exact HE.out.1
      rw [hlen] at bo
      have c0 : wr.cell? ⟨w.heap.size, 0, none⟩ = some (.slice A1 n1 c1) := (Box.cell bx 0).trans rfl
      have f0 := Box.frozen bx 0
      obtain ⟨x1, hx1⟩ : ∃ x, wr.setCell ⟨w.heap.size, 0, none⟩ (.slice (some ⟨g, 0, none⟩) n1 cap) = x := ⟨_, rfl⟩
      have bx1 := Box.put bx 0 (.slice (some ⟨g, 0, none⟩) n1 cap)
      rw [hx1] at bx1
      simp only [List.setIfInBounds_toArray, List.set_cons_zero] at bx1
      have c1' : x1.cell? ⟨w.heap.size, 1, none⟩ = some (.slice A2 k c2) := (Box.cell bx1 1).trans rfl
      have f1 := Box.frozen bx1 1
      obtain ⟨x2, hx2⟩ : ∃ x, x1.setCell ⟨w.heap.size, 1, none⟩ (.slice none 0 0) = x := ⟨_, rfl⟩
      have bx2 := Box.put bx1 1 (.slice none 0 0)
      rw [hx2] at bx2
      simp only [List.setIfInBounds_toArray, List.set_cons_zero, List.set_cons_succ] at bx2
      have c2' : x2.cell? ⟨w.heap.size, 2, none⟩ = some (.slice A3 k c3) := (Box.cell bx2 2).trans rfl
      have f2 := Box.frozen bx2 2
      obtain ⟨y3, hy3⟩ : ∃ x, x2.setCell ⟨w.heap.size, 2, none⟩ (.slice none 0 0) = x := ⟨_, rfl⟩
      have bx3 := Box.put bx2 2 (.slice none 0 0)
      rw [hy3] at bx3
      simp only [List.setIfInBounds_toArray, List.set_cons_zero, List.set_cons_succ] at bx3
      have c3' : y3.cell? ⟨w.heap.size, 3, none⟩ = some (.int .i64 arm) := (Box.cell bx3 3).trans rfl
      have f3 := Box.frozen bx3 3
      obtain ⟨y4, hy4⟩ : ∃ x, y3.setCell ⟨w.heap.size, 3, none⟩ (.int .i64 (-1)) = x := ⟨_, rfl⟩
      have bx4 := Box.put bx3 3 (.int .i64 (-1))
      rw [hy4] at bx4
      simp only [List.setIfInBounds_toArray, List.set_cons_zero, List.set_cons_succ] at bx4
      have c4' : y4.cell? ⟨w.heap.size, 4, none⟩ = some (.bool down) := (Box.cell bx4 4).trans rfl
      have f4 := Box.frozen bx4 4
      obtain ⟨x3, hx3⟩ : ∃ x, y4.setCell ⟨w.heap.size, 4, none⟩ (.bool false) = x := ⟨_, rfl⟩
      have bx5 := Box.put bx4 4 (.bool false)
      rw [hx3] at bx5
      simp only [List.setIfInBounds_toArray, List.set_cons_zero, List.set_cons_succ] at bx5
      have hg : wr.grownBy x3 (some w.heap.size) := by rw [← hx3, ← hy4, ← hy3, ← hx2, ← hx1]; exact grown_set (grown_set (grown_set (grown_set (grown_set (grown_refl _ _) 0 _) 1 _) 2 _) 3 _) 4 _
      have by3 := Box.grown by' hg (fun e => by injection e; omega)
      have bo3 := World.ownsRow.kept bo hg (.inr (Box.apart bx bo (by decide)))
      have bb3 := bb.trans ((Below.refl _ wr).grown hg bb.size (fun k e => by injection e with e; omega))
      have HX := Lib.hid (And.intro bx5 by3)
      have hfin : ∀ wz, x3.grownBy wz (some (w.heap.size + 1)) → Rd wz (fun k => w.heap.size ≤ k) (some ⟨g, 0, none⟩) n1 cap (scs (rdTo keep kept l2 l3 k)) ∧ Below w.heap.size w wz := fun wz hgz => by
        have o13 := World.ownsRow.kept bo3 hgz (.inr (Box.apart by3 bo3 (by decide)))
        obtain ⟨A, d, hv, hr⟩ := own_rd o13
        injection hv with e1 e2 e3
        subst e1 e3
        exact ⟨hr, bb3.trans ((Below.refl _ x3).grown hgz bb3.size (fun k e => by injection e with e; omega))⟩
      have HF := Lib.hid hfin
      clear hfin bx5 bx4 bx3 by3 bo3 bb3 hg bx2 bx1 bx by' bb bo H HL4 HE
      go_upto_region 14 with fail
      obtain ⟨cs, hcs⟩ : ∃ cs : List Value, cs = [.slice (some ⟨g, 0, none⟩) n1 cap, .slice none 0 0, .slice none 0 0, .int .i64 (-1), .bool false, .int .i64 ops] := ⟨_, rfl⟩
      have hX : Box x3 w.heap.size 30 cs.toArray := by rw [hcs]; exact HX.out.1
      have hY := HX.out.2
      have hcl : cs.length = 6 := by rw [hcs]; rfl
      have hc1 : cs.toArray.all (·.oneCell') = true := by rw [hcs]; simp [Value.oneCell']
      obtain ⟨wz, hwz⟩ : ∃ x, x3.setRow (w.heap.size + 1) cs.toArray = x := ⟨_, rfl⟩
      have hYz : Box wz (w.heap.size + 1) 30 cs.toArray := by rw [← hwz]; exact setRow_heap _ _ _ _ _ _ hY
      have hgz : x3.grownBy wz (some (w.heap.size + 1)) := by rw [← hwz]; exact grown_row (grown_refl _ _) _
      have HZ := Lib.hid (And.intro hX (And.intro hY (And.intro hwz (And.intro hYz (And.intro hcs hgz)))))
      clear hX hY hwz hYz hcs hgz
      go_wp2_with (first
        | (refine wpList_load_mid rfl 30 _ rfl w.heap.size 0 rfl cs _ (range_box HZ.out.1) Try.underlying30 rfl (by rw [hcl]; kernel_rfl) ?_)
        | (refine wpList_store_row rfl 30 _ _ rfl (w.heap.size + 1) cs.toArray rfl rfl 30 _ HZ.out.2.1 (by simp only [List.size_toArray, hcl]; kernel_rfl) (by simp [hcl]) hc1 ?_; rw [HZ.out.2.2.1]))
      obtain ⟨_, _, _, hYz, hcs, hgz⟩ := HZ.out
      have r0 := fun i => Box.cell hYz i
      rw [hcs] at r0
      have q0 := r0 0
      have q1 := r0 1
      have q2 := r0 2
      have q3 := r0 3
      have q4 := r0 4
      have q5 := r0 5
      simp only [List.getElem?_toArray, List.getElem?_cons_zero, List.getElem?_cons_succ] at q0 q1 q2 q3 q4 q5
      exact bodyPost_ret (v := .agg #[.slice (some ⟨g, 0, none⟩) n1 cap, .slice none 0 0, .slice none 0 0, .int .i64 (-1), .bool false, .int .i64 ops]) (by simp [results, Try.results12, go_sem, q0, q1, q2, q3, q4, q5]) rfl ⟨_, _, rfl, HF.out wz hgz⟩
end Go.Proofs.Ytemgphpgfdnkeaa
