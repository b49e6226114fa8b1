/-
  The reference's Flush: all writes that wait are kept.
-/
import Derived.Test.YtemgphpgfdnkeaaRefNow
import Derived.BigQuiet
namespace Go.Proofs.Ytemgphpgfdnkeaa
open Go.RowKit

/-- A cell of a row of the call's own is turned. -/
theorem own_set {w : World} {base e n g cap : Nat} {l : List Value} (h : w.ownsRow base e 1 (.slice (some ⟨g, 0, none⟩) n cap) n l) (j : Nat) (u : Value) : (w.setCell ⟨g, j, none⟩ u).ownsRow base e 1 (.slice (some ⟨g, 0, none⟩) n cap) n (l.set j u) := by
  obtain ⟨h1, h2 | ⟨g', cap', cur, h2, h3, h4, h5, h6, h7, h8⟩⟩ := h
  · simp at h2
  · simp at h2
    obtain ⟨rfl, rfl⟩ := h2
    have hb := Box.put (w := w) (g := g) (t := e) (cs := cur) h4 j u
    refine ⟨by rw [List.length_set]; exact h1, .inr ⟨g, cap, cur.setIfInBounds j u, rfl, h3, hb, h5, h6, by simpa using h7, ?_⟩⟩
    rw [Array.toList_setIfInBounds, List.take_set, h8]
theorem own_cell {w : World} {base e n g cap : Nat} {l : List Value} (h : w.ownsRow base e 1 (.slice (some ⟨g, 0, none⟩) n cap) n l) {j : Nat} {u : Value} (hu : l[j]? = some u) : w.cell? ⟨g, j, none⟩ = some u ∧ w.frozen? ⟨g, j, none⟩ = false := by
  have := World.ownsRow.cells h (g := g) rfl j u hu
  rw [Addr.add_mid, Nat.zero_add] at this
  refine ⟨this, ?_⟩
  obtain ⟨h1, h2 | ⟨g', cap', cur, h2, h3, h4, h5, h6, h7, h8⟩⟩ := h
  · simp at h2
  · simp at h2
    obtain ⟨rfl, rfl⟩ := h2
    exact Box.frozen (w := w) (g := g) (t := e) (cs := cur) h4 j
/-- What is kept with the first k writes. -/
def flTo (kept : List Bk) (l2 : List Nat) (l3 : List Bk) : Nat → List Bk
  | 0 => kept
  | k + 1 => (flTo kept l2 l3 k).set (l2.getD k 0) (l3.getD k default)
theorem flTo_length (kept : List Bk) (l2 : List Nat) (l3 : List Bk) : ∀ k, (flTo kept l2 l3 k).length = kept.length
  | 0 => rfl
  | k + 1 => by rw [flTo, List.length_set, flTo_length kept l2 l3 k]
theorem scs_set (l : List Bk) (j : Nat) (x : Bk) : scs (l.set j x) = (scs l).set j (sc x) := by simp [scs, List.map_set]
/-- Within the loops of Flush and Fall. -/
structure Lp (w w' : World) (cs zs : Array Value) (g cap : Nat) (l : List Bk) (N : Nat → Prop) (A2 A3 : Option Addr) (m c2 c3 : Nat) (l2 : List Nat) (l3 : List Bk) : Prop where
  x : Box w' w.heap.size 30 cs
  y : Box w' (w.heap.size + 1) 30 zs
  bel : Below w.heap.size w w'
  own : w'.ownsRow w.heap.size 9 1 (.slice (some ⟨g, 0, none⟩) l.length cap) l.length (scs l)
  at' : Rd w' N A2 m c2 (ncs l2)
  bs : Rd w' N A3 m c3 (scs l3)
theorem Lp.set {w w' : World} {cs zs : Array Value} {g cap : Nat} {l : List Bk} {N : Nat → Prop} {A2 A3 : Option Addr} {m c2 c3 : Nat} {l2 : List Nat} {l3 : List Bk} (h : Lp w w' cs zs g cap l N A2 A3 m c2 c3 l2 l3) (hN : ∀ b, N b → b < w.heap.size) (j : Nat) (x : Bk) : Lp w (w'.drew.setCell ⟨g, j, none⟩ (sc x)) cs zs g cap (l.set j x) N A2 A3 m c2 c3 l2 l3 := by
  have hgl := World.ownsRow.lt h.own g rfl
  have hg : w'.grownBy (w'.drew.setCell ⟨g, j, none⟩ (sc x)) (some g) := grown_set (grown_drew (grown_refl w' _)) _ _
  have hb : Below w.heap.size w' (w'.drew.setCell ⟨g, j, none⟩ (sc x)) := (Below.refl _ w').grown hg h.bel.size (fun k e => by injection e with e; omega)
  refine ⟨Box.grown h.x hg (fun e => Box.apart h.x h.own (by decide) (by simpa [Value.ownBlock] using e.symm)), Box.grown h.y hg (fun e => Box.apart h.y h.own (by decide) (by simpa [Value.ownBlock] using e.symm)), h.bel.trans hb, ?_, ⟨h.at'.1.keep (fun p hp _ => hb.cell (p := p) (hN _ hp)) hb.size, h.at'.2⟩, ⟨h.bs.1.keep (fun p hp _ => hb.cell (p := p) (hN _ hp)) hb.size, h.bs.2⟩⟩
  rw [List.length_set, scs_set]
  exact own_set (w := w'.drew) h.own j (sc x)

set_option maxRecDepth 100000 in
set_option maxHeartbeats 4000000 in
theorem rflush_low (w : World) (N : Nat → Prop) (A1 A2 A3 : Option Addr) (n1 c1 m c2 c3 : Nat) (kept : List Bk) (l2 : List Nat) (l3 : List Bk) (h1 : Rd w N A1 n1 c1 (scs kept)) (h2 : Rd w N A2 m c2 (ncs l2)) (h3 : Rd w N A3 m c3 (scs l3)) (hN : ∀ b, N b → b < w.heap.size) (arm : Int) (down : Bool) (ops : Int) (hn0 : 0 < n1) (hn1 : n1 ≤ 4096) (hm : m ≤ 1000) (hpl : ∀ k, k < m → l2.getD k 0 < n1) :
    Calls Try.prog 20 #[.agg #[.slice A1 n1 c1, .slice A2 m c2, .slice A3 m c3, .int .i64 arm, .bool down, .int .i64 ops]] w fun e w' => ∃ B1 d1, e = .returned (.agg #[.slice B1 n1 d1, .slice none 0 0, .slice none 0 0, .int .i64 arm, .bool down, .int .i64 ops]) ∧
      Rd w' (fun k => w.heap.size ≤ k) B1 n1 d1 (scs (flTo kept l2 l3 m)) ∧ Below w.heap.size w w' := by
  obtain ⟨w1, hw1⟩ : ∃ x, w.alloc (.cells #[.slice A1 n1 c1, .slice A2 m c2, .slice A3 m c3, .int .i64 arm, .bool down, .int .i64 ops] 30) = x := ⟨_, rfl⟩
  have hB1 : Below w.heap.size w w1 := by rw [← hw1]; exact (Below.refl _ w).alloc (Nat.le_refl _) _
  have hx1 := Box.made w 30 #[.slice A1 n1 c1, .slice A2 m c2, .slice A3 m c3, .int .i64 arm, .bool down, .int .i64 ops]
  rw [hw1] at hx1
  have hs1 : w1.heap.size = w.heap.size + 1 := by rw [← hw1]; simp
  obtain ⟨w2, hw2⟩ : ∃ x, w1.alloc (.cells #[.slice none 0 0, .slice none 0 0, .slice none 0 0, .int .i64 0, .bool false, .int .i64 0] 30) = x := ⟨_, rfl⟩
  have hB2 : Below w.heap.size w w2 := by rw [← hw2]; exact hB1.alloc hB1.size _
  have hx2 := Box.alloc hx1 (.cells #[.slice none 0 0, .slice none 0 0, .slice none 0 0, .int .i64 0, .bool false, .int .i64 0] 30)
  rw [hw2] at hx2
  have hy2 := Box.made w1 30 #[.slice none 0 0, .slice none 0 0, .slice none 0 0, .int .i64 0, .bool false, .int .i64 0]
  rw [hw2, hs1] at hy2
  obtain ⟨w3, hw3⟩ : ∃ x, w2.alloc (.cells #[] 9) = x := ⟨_, rfl⟩
  have hB3 : Below w.heap.size w w3 := by rw [← hw3]; exact hB2.alloc hB2.size _
  have hx3 := Box.alloc hx2 (.cells #[] 9)
  rw [hw3] at hx3
  have hy3 := Box.alloc hy2 (.cells #[] 9)
  rw [hw3] at hy3
  have ho3 := own_empty w2 9 hB2.size
  rw [hw3] at ho3
  have k1 : w3.cell? ⟨w.heap.size, 0, none⟩ = some (.slice A1 n1 c1) := (Box.cell hx3 0).trans rfl
  have e1 : kept.length = n1 := by rw [← scs_length]; exact h1.1.len
  have e2 : l2.length = m := by rw [← ncs_length]; exact h2.1.len
  have e3 : l3.length = m := by rw [← scs_length]; exact h3.1.len
  have H3 := Lib.hid (And.intro hx3 (And.intro hy3 (And.intro hB3 (And.intro ho3 (And.intro (h1.below hB3) (And.intro (h2.below hB3) (h3.below hB3)))))))
  have HE := Lib.hid (And.intro e1 (And.intro e2 (And.intro e3 hpl)))
  clear hx1 hx2 hy2 hx3 hy3 hB1 hB2 hB3 ho3 h1 h2 h3 e1 e2 e3 hpl
  go_enter Try.func20, Try.ntmps20
  go_upto_region 2 with (first
    | (at_builtin; refine wpList_app 27 9 _ 16 Try.underlying27 strInfo rfl (by omega) w3 _ _ rfl rfl w.heap.size _ 0 [] A1 n1 c1 (scs kept) rfl rfl H3.out.2.2.2.1 H3.out.2.2.2.2.1 (scs_one _) (by omega) H3.out.2.2.1.size ?_; intro v4 w4 ho4 hg4; rw [Nat.zero_add, List.nil_append] at ho4; have H4 := Lib.hid (And.intro ho4 hg4); clear ho4 hg4))
  obtain ⟨ho4, hg4⟩ := H4.out
  obtain ⟨g, cap, r, hv4, hgb, _⟩ := own_open ho4 hn0
  subst hv4
  have hb4 : Below w.heap.size w3 w4 := (Below.refl _ w3).grown hg4 H3.out.2.2.1.size (fun k hk => (World.ownsRow.lt H3.out.2.2.2.1 k hk).1)
  have hL4 : Lp w w4 #[.slice A1 n1 c1, .slice A2 m c2, .slice A3 m c3, .int .i64 arm, .bool down, .int .i64 ops] #[.slice none 0 0, .slice none 0 0, .slice none 0 0, .int .i64 0, .bool false, .int .i64 0] g cap (flTo kept l2 l3 0) N A2 A3 m c2 c3 l2 l3 := by
    refine ⟨Box.grown H3.out.1 hg4 (Box.apart H3.out.1 H3.out.2.2.2.1 (by decide)).symm, Box.grown H3.out.2.1 hg4 (Box.apart H3.out.2.1 H3.out.2.2.2.1 (by decide)).symm, H3.out.2.2.1.trans hb4, ?_, ⟨H3.out.2.2.2.2.2.1.1.keep (fun p hp _ => hb4.cell (p := p) (hN _ hp)) hb4.size, H3.out.2.2.2.2.2.1.2⟩, ⟨H3.out.2.2.2.2.2.2.1.keep (fun p hp _ => hb4.cell (p := p) (hN _ hp)) hb4.size, H3.out.2.2.2.2.2.2.2⟩⟩
    rw [flTo_length, HE.out.1]
    exact ho4
  have HL4 := Lib.hid hL4
  clear ho4 hg4 hb4 hL4 H4 H3 hw1 hw2 hw3 k1
  go_wp2_with fail
  go_loopw [4] (fun v wr => ∃ k : Nat, v = .int .i64 (k : Int) ∧ k ≤ m ∧ Hid (Lp w wr #[.slice A1 n1 c1, .slice A2 m c2, .slice A3 m c3, .int .i64 arm, .bool down, .int .i64 ops] #[.slice none 0 0, .slice none 0 0, .slice none 0 0, .int .i64 0, .bool false, .int .i64 0] g cap (flTo kept l2 l3 k) N A2 A3 m c2 c3 l2 l3)) (fun v _ => m - (intOf v).toNat)
  case atStart => exact ⟨0, rfl, Nat.zero_le _, HL4⟩
  case round =>
    obtain ⟨k, rfl, hk, H⟩ := hrel
    have p1 : wr.cell? ⟨w.heap.size, 1, none⟩ = some (.slice A2 m c2) := (Box.cell H.out.x 1).trans rfl
    have p2 : wr.cell? ⟨w.heap.size, 2, none⟩ = some (.slice A3 m c3) := (Box.cell H.out.x 2).trans rfl
    by_cases hlt : k < m
    · obtain ⟨e1, e2, e3, hpl⟩ := HE.out
      have hlen : (flTo kept l2 l3 k).length = n1 := by rw [flTo_length]; exact e1
      obtain ⟨b2, o2, rfl, _, _, k2⟩ := H.out.at'.at (ncs_at (show k < l2.length by omega))
      obtain ⟨b3, o3, rfl, _, _, k3⟩ := H.out.bs.at (scs_at (show k < l3.length by omega))
      have hy := hpl k hlt
      have hown := H.out.own
      have hst := H.out.set hN (l2.getD k 0) (l3.getD k default)
      rw [show (flTo kept l2 l3 k).set (l2.getD k 0) (l3.getD k default) = flTo kept l2 l3 (k + 1) from rfl] at hst
      obtain ⟨s3, hs3⟩ : ∃ s : ByteArray, sc (l3.getD k default) = .string s := ⟨_, rfl⟩
      rw [hs3] at k3 hst
      obtain ⟨y, hyy⟩ : ∃ y, l2.getD k 0 = y := ⟨_, rfl⟩
      rw [hyy] at k2 hy hst
      rw [hlen] at hown
      obtain ⟨cy, fy⟩ := own_cell hown (scs_at (show y < (flTo kept l2 l3 k).length by omega))
      have H5 := Lib.hid hst
      have l6 : (k : Int) < (m : Int) := by omega
      have l7 : (y : Int) < (n1 : Int) := by omega
      clear hst hown hs3 hyy e1 e2 e3 hpl hlen
      go_wp2_with fail
      go_still_tail 12, (by kernel_rfl)
      change wpList _ _ _ _ _ wr.drew
      go_wp2
      go_roundw
      case rel => exact ⟨k + 1, by go_num, by omega, H5⟩
      case measure => simp [intOf]; omega
    · obtain rfl : k = m := by omega
      obtain ⟨bx, by', bb, bo, _, _⟩ := H.out
      have hlen : (flTo kept l2 l3 k).length = n1 := by rw [flTo_length]; exact HE.out.1
      rw [hlen] at bo
      have c0 : wr.cell? ⟨w.heap.size, 0, none⟩ = some (.slice A1 n1 c1) := (Box.cell bx 0).trans rfl
      have f0 := Box.frozen bx 0
      obtain ⟨x1, hx1⟩ : ∃ x, wr.setCell ⟨w.heap.size, 0, none⟩ (.slice (some ⟨g, 0, none⟩) n1 cap) = x := ⟨_, rfl⟩
      have bx1 := Box.put bx 0 (.slice (some ⟨g, 0, none⟩) n1 cap)
      rw [hx1] at bx1
      simp only [List.setIfInBounds_toArray, List.set_cons_zero] at bx1
      have c1' : x1.cell? ⟨w.heap.size, 1, none⟩ = some (.slice A2 k c2) := (Box.cell bx1 1).trans rfl
      have f1 := Box.frozen bx1 1
      obtain ⟨x2, hx2⟩ : ∃ x, x1.setCell ⟨w.heap.size, 1, none⟩ (.slice none 0 0) = x := ⟨_, rfl⟩
      have bx2 := Box.put bx1 1 (.slice none 0 0)
      rw [hx2] at bx2
      simp only [List.setIfInBounds_toArray, List.set_cons_zero, List.set_cons_succ] at bx2
      have c2' : x2.cell? ⟨w.heap.size, 2, none⟩ = some (.slice A3 k c3) := (Box.cell bx2 2).trans rfl
      have f2 := Box.frozen bx2 2
      obtain ⟨x3, hx3⟩ : ∃ x, x2.setCell ⟨w.heap.size, 2, none⟩ (.slice none 0 0) = x := ⟨_, rfl⟩
      have bx3 := Box.put bx2 2 (.slice none 0 0)
      rw [hx3] at bx3
      simp only [List.setIfInBounds_toArray, List.set_cons_zero, List.set_cons_succ] at bx3
      have hg : wr.grownBy x3 (some w.heap.size) := by rw [← hx3, ← hx2, ← hx1]; exact grown_set (grown_set (grown_set (grown_refl _ _) 0 _) 1 _) 2 _
      have by3 := Box.grown by' hg (fun e => by injection e; omega)
      have bo3 := World.ownsRow.kept bo hg (.inr (Box.apart bx bo (by decide)))
      have bb3 := bb.trans ((Below.refl _ wr).grown hg bb.size (fun k e => by injection e with e; omega))
      have HX := Lib.hid (And.intro bx3 by3)
      have hfin : ∀ wz, x3.grownBy wz (some (w.heap.size + 1)) → Rd wz (fun k => w.heap.size ≤ k) (some ⟨g, 0, none⟩) n1 cap (scs (flTo kept l2 l3 k)) ∧ Below w.heap.size w wz := fun wz hgz => by
        have o13 := World.ownsRow.kept bo3 hgz (.inr (Box.apart by3 bo3 (by decide)))
        obtain ⟨A, d, hv, hr⟩ := own_rd o13
        injection hv with e1 e2 e3
        subst e1 e3
        exact ⟨hr, bb3.trans ((Below.refl _ x3).grown hgz bb3.size (fun k e => by injection e with e; omega))⟩
      have HF := Lib.hid hfin
      clear hfin bx3 by3 bo3 bb3 hg bx2 bx1 bx by' bb bo H HL4 HE
      go_upto_region 9 with fail
      obtain ⟨cs, hcs⟩ : ∃ cs : List Value, cs = [.slice (some ⟨g, 0, none⟩) n1 cap, .slice none 0 0, .slice none 0 0, .int .i64 arm, .bool down, .int .i64 ops] := ⟨_, rfl⟩
      have hX : Box x3 w.heap.size 30 cs.toArray := by rw [hcs]; exact HX.out.1
      have hY := HX.out.2
      have hcl : cs.length = 6 := by rw [hcs]; rfl
      have hc1 : cs.toArray.all (·.oneCell') = true := by rw [hcs]; simp [Value.oneCell']
      obtain ⟨wz, hwz⟩ : ∃ x, x3.setRow (w.heap.size + 1) cs.toArray = x := ⟨_, rfl⟩
      have hYz : Box wz (w.heap.size + 1) 30 cs.toArray := by rw [← hwz]; exact setRow_heap _ _ _ _ _ _ hY
      have hgz : x3.grownBy wz (some (w.heap.size + 1)) := by rw [← hwz]; exact grown_row (grown_refl _ _) _
      have HZ := Lib.hid (And.intro hX (And.intro hY (And.intro hwz (And.intro hYz (And.intro hcs hgz)))))
      clear hX hY hwz hYz hcs hgz
      go_wp2_with (first
        | (refine wpList_load_mid rfl 30 _ rfl w.heap.size 0 rfl cs _ (range_box HZ.out.1) Try.underlying30 rfl (by rw [hcl]; kernel_rfl) ?_)
        | (refine wpList_store_row rfl 30 _ _ rfl (w.heap.size + 1) cs.toArray rfl rfl 30 _ HZ.out.2.1 (by simp only [List.size_toArray, hcl]; kernel_rfl) (by simp [hcl]) hc1 ?_; rw [HZ.out.2.2.1]))
      obtain ⟨_, _, _, hYz, hcs, hgz⟩ := HZ.out
      have r0 := fun i => Box.cell hYz i
      rw [hcs] at r0
      have q0 := r0 0
      have q1 := r0 1
      have q2 := r0 2
      have q3 := r0 3
      have q4 := r0 4
      have q5 := r0 5
      simp only [List.getElem?_toArray, List.getElem?_cons_zero, List.getElem?_cons_succ] at q0 q1 q2 q3 q4 q5
      exact bodyPost_ret (v := .agg #[.slice (some ⟨g, 0, none⟩) n1 cap, .slice none 0 0, .slice none 0 0, .int .i64 arm, .bool down, .int .i64 ops]) (by simp [results, Try.results20, go_sem, q0, q1, q2, q3, q4, q5]) rfl ⟨_, _, rfl, HF.out wz hgz⟩
end Go.Proofs.Ytemgphpgfdnkeaa
