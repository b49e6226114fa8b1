/-
  lay: changes are written to their blocks, in order, and flushed.
-/
import Derived.Test.YtnhondkdkjehaaaGreatJChs
namespace Go.Proofs.YtnhondkdkjehaaaGreat
open Go.RowKit

set_option linter.unusedVariables false
set_option linter.unusedSimpArgs false
/-- What the loop keeps to. -/
structure LayI (w : World) (K : Nat → Prop) (p dp base : Nat) (u : Value × Value) (L : Lg) (D : Dv) (cs : List Cg) (k : Nat) (wr : World) (D' : Dv) : Prop where
  same : layTo base cs D = layTo base (cs.drop k) D'
  dev : Dev wr K dp D'
  touch : Touch K w wr
  box : Box wr p 81 (lc dp u L)
  len : D'.bs.length = D.bs.length
  ops : D'.ops ≤ D.ops + k
section
variable {w : World} {K : Nat → Prop} {p dp : Nat} {u : Value × Value} {L : Lg} {D : Dv}
set_option maxRecDepth 100000 in
set_option maxHeartbeats 1000000 in
theorem jlay_says (hb : Box w p 81 (lc dp u L)) (hl : 0 ≤ L.h.log ∧ L.h.log ≤ 4096) (hp : ¬ K p) (hd : Dev w K dp D) (hK : ∀ k, w.heap.size ≤ k → K k) (N : Nat → Prop) (hN : ∀ b, N b → ¬ K b)
    (A : Option Addr) (n c : Nat) (xs : List Ch) (hx : Chs w N A n c xs) (hfit : ∀ x ∈ xs, x.fits (homeOf D L)) (ho : D.ops + n ≤ 90000) :
    Calls Tryz.prog 70 #[.pointer (some ⟨p, 0, none⟩), .slice A n c] w fun e w' => e = .returned (.int .i64 (layTo (2 + L.h.log.toNat) (xs.map Ch.cg) D).1) ∧ Dev w' K dp (layTo (2 + L.h.log.toNat) (xs.map Ch.cg) D).2 ∧ Touch K w w' := by
  obtain ⟨base, hbase⟩ : ∃ b, 2 + L.h.log.toNat = b := ⟨_, rfl⟩
  rw [hbase]
  have HI0 := Lib.hid (show LayI w K p dp base u L D (xs.map Ch.cg) 0 w D from ⟨rfl, hd, Touch.refl K w, hb, rfl, Nat.le_refl _⟩)
  have HX := Lib.hid hx
  have HF := Lib.hid hfit
  have HN := Lib.hid hN
  have hxl : xs.length = n := hx.1
  have hmost := hd.1.most
  have hhome : homeOf D L = (D.bs.length : Int) - (2 + L.h.log) := rfl
  clear hb hd hx hfit hN
  go_enter Tryz.func70, Tryz.ntmps70
  go_wp2_with fail
  go_loopw [10] (fun v wr => ∃ k : Nat, v = .int .i64 (k : Int) ∧ k ≤ n ∧ ∃ D', Hid (LayI w K p dp base u L D (xs.map Ch.cg) k wr D')) (fun v _ => n - (intOf v).toNat)
  case atStart => exact ⟨0, rfl, by omega, D, HI0⟩
  case round =>
    clear HI0
    obtain ⟨k, rfl, hk, D', H⟩ := hrel
    by_cases hlt : k < n
    · have hlt' : (k : Int) < (n : Int) := by omega
      obtain ⟨x, hxk⟩ : ∃ x, xs[k]? = some x := ⟨xs[k]'(by omega), List.getElem?_eq_getElem (by omega)⟩
      obtain ⟨hsame, hdev, htouch, hbox, hlen, hops⟩ := H.out
      have hxr := HX.out.touch htouch HN.out
      obtain ⟨bl, ol, rfl, hNb, hbl, hat, hok⟩ := hxr.at hxk
      obtain ⟨hf1, hf2⟩ := HF.out x (List.mem_of_getElem? hxk)
      obtain ⟨w5, hw5⟩ : ∃ y, wr.alloc (.cells #[.int .i64 0, .slice none 0 0] 51) = y := ⟨_, rfl⟩
      have hy5 : Box w5 wr.heap.size 51 #[.int .i64 0, .slice none 0 0] := by rw [← hw5]; exact Box.made wr _ _
      have hb5 : Below wr.heap.size wr w5 := by rw [← hw5]; exact (Below.refl _ wr).alloc (Nat.le_refl _) _
      obtain ⟨w6, hw6⟩ : ∃ y, w5.setRow wr.heap.size (chc x).toArray = y := ⟨_, rfl⟩
      have hx6 : Box w6 wr.heap.size 51 (chc x).toArray := by rw [← hw6]; exact setRow_heap _ _ _ _ _ _ hy5
      have hb6 : Below wr.heap.size wr w6 := hb5.trans (by rw [← hw6]; exact (Below.refl _ w5).grown (grown_row (grown_refl _ (some wr.heap.size)) _) hb5.size (fun k e => by injection e with e; omega))
      have hbox6 := Box.below hbox hb6 hbox.lt
      have k0 : w6.drew.cell? ⟨wr.heap.size, 0, none⟩ = some (.int .i64 x.n) := (Box.cell hx6 0).trans rfl
      have k1 : w6.drew.cell? ⟨wr.heap.size, 1, none⟩ = some (.slice x.a x.l x.c) := (Box.cell hx6 1).trans rfl
      have kd : w6.drew.cell? ⟨p, 0, none⟩ = some (.pointer (some ⟨dp, 0, none⟩)) := (Box.cell hbox6 0).trans rfl
      obtain ⟨nn, hnn⟩ : ∃ m, base + x.n.toNat = m := ⟨_, rfl⟩
      have hbl6 : ∀ q, Calls Tryz.prog 50 #[.pointer (some ⟨p, 0, none⟩), .int .i64 x.n] (w6.drewN q) fun e w' => e = .returned (.int .i64 (nn : Int)) ∧ w' = w6.drewN q := fun q => by
        have := jblock_says (w := w6.drewN q) (p := p) (dp := dp) (u := u) (L := L) hbox6 hl x.n (by rw [hhome] at hf1; omega)
        rwa [show 2 + L.h.log + x.n = (nn : Int) by omega] at this
      have hd6 : Dev w6.drew K dp D' := (hdev.below hb6).drewN 1
      have hn6 : nn < D'.bs.length := by rw [hlen]; rw [hhome] at hf1; omega
      have hlies : Lies w6.drew N x.a 256 x.c (bc (bkOf x.b).1) := by
        have h1 := hok.lies.below hb6
        have h2 : x.l = 256 := by rw [← h1.len, bc_length, hf2]
        rw [bkOf_val hf2, ← h2]
        exact h1.drew
      have hl256 : x.l = 256 := by rw [← hok.lies.len, bc_length, hf2]
      rw [hl256] at k1
      have hT6 : Touch K w w6.drew := (htouch.trans' (Touch.of_below (K := K) hb6) (fun _ q => .inl q)).drew
      have hdrop : (xs.map Ch.cg).drop k = x.cg :: (xs.map Ch.cg).drop (k + 1) := by
        rw [List.drop_eq_getElem_cons (by rw [List.length_map]; omega)]
        congr 1
        rw [List.getElem_map]
        congr 1
        have := List.getElem?_eq_getElem (l := xs) (i := k) (by omega)
        rw [hxk] at this
        injection this with this
        exact this.symm
      have hK6 : ∀ q, w6.drew.heap.size ≤ q → K q := fun q hq => hK q (by have := hT6.size; omega)
      have HY5 := Lib.hid hy5
      have HW6 := Lib.hid hw6
      have HAT := Lib.hid hat
      have HBX := Lib.hid hbox6
      have HT6 := Lib.hid hT6
      have HSM := Lib.hid hsame
      have HDR := Lib.hid hdrop
      have HLN := Lib.hid hlen
      have HBL := Lib.hid hbl6
      have hcl := chc_length x
      cases hdn : D'.call.down with
      | true =>
        have HW := Lib.hid (write_down hd6 (by omega) hdn (nn : Int) (by omega) x.a x.c)
        have hans : layTo base (xs.map Ch.cg) D = (17, D'.call) := by rw [hsame, hdrop, layTo, if_pos hdn]
        have HA := Lib.hid hans
        clear hdev htouch hbox hlen hops hxr hat hok hf1 hf2 hy5 hb5 hw6 hx6 hb6 hbox6 hd6 hn6 hlies hT6 hdrop hsame hK6 H HX HF HN hbl6 hans hnn
        go_upto_region 4 with (first
          | (refine wpList_load_mid rfl 51 _ rfl bl (ol + k * 2) rfl (chc x) _ HAT.out Tryz.underlying51 rfl (by kernel_rfl) ?_)
          | (refine wpList_store_row rfl 51 _ _ rfl wr.heap.size (chc x).toArray rfl rfl 51 _ HY5.out (show (Tryz.prog.info? 51).map (·.size) = some 2 by kernel_rfl) rfl (by simp [chc, Value.oneCell']) ?_; rw [HW6.out]))
        go_still_tail 10, (by kernel_rfl)
        still_call (HBL.out 1)
        iterate 2 still_step
        refine wpStill_nil ?_
        change wpList _ _ _ _ _ w6.drew
        go_wp2_with fail
        refine HW.out.mono ?_
        rintro e w7 ⟨rfl, hd7, ht7⟩
        have HZ := Lib.hid (And.intro hd7 (HT6.out.trans ht7))
        clear hd7 ht7
        go_wp2
        go_ret
        rw [HA.out]
        exact ⟨rfl, HZ.out.1, HZ.out.2⟩
      | false =>
        have HW := Lib.hid (write_up hd6 hK6 (by omega) hdn nn hn6 N x.a x.c (bkOf x.b) hlies HN.out)
        have hstep : layTo base (xs.map Ch.cg) D = layTo base ((xs.map Ch.cg).drop (k + 1)) (D'.call.write nn (bkOf x.b)) := by
          rw [hsame, hdrop, layTo, if_neg (by rw [hdn]; simp), ← hnn]
          rfl
        have HST := Lib.hid hstep
        have HOP := Lib.hid hops
        clear hdev htouch hbox hlen hops hxr hat hok hf1 hf2 hy5 hb5 hw6 hx6 hb6 hbox6 hd6 hn6 hlies hT6 hdrop hsame hK6 H HX HF HN hbl6 hstep hnn
        go_upto_region 4 with (first
          | (refine wpList_load_mid rfl 51 _ rfl bl (ol + k * 2) rfl (chc x) _ HAT.out Tryz.underlying51 rfl (by kernel_rfl) ?_)
          | (refine wpList_store_row rfl 51 _ _ rfl wr.heap.size (chc x).toArray rfl rfl 51 _ HY5.out (show (Tryz.prog.info? 51).map (·.size) = some 2 by kernel_rfl) rfl (by simp [chc, Value.oneCell']) ?_; rw [HW6.out]))
        go_still_tail 10, (by kernel_rfl)
        still_call (HBL.out 1)
        iterate 2 still_step
        refine wpStill_nil ?_
        change wpList _ _ _ _ _ w6.drew
        go_wp2_with fail
        refine HW.out.mono ?_
        rintro e w7 ⟨rfl, hd7, ht7⟩
        have HZ := Lib.hid (show LayI w K p dp base u L D (xs.map Ch.cg) (k + 1) w7 (D'.call.write nn (bkOf x.b)) from
          ⟨HST.out, hd7, HT6.out.trans ht7, ht7.box HBX.out hp, by show (D'.bs.set _ _).length = _; rw [List.length_set]; exact HLN.out, by have := HOP.out; show D'.ops + 1 ≤ _; omega⟩)
        clear hd7 ht7
        go_wp2
        go_roundw
        case rel => exact ⟨k + 1, by go_num, by omega, _, HZ⟩
        case measure => simp [intOf]; omega
    · have hnl : ¬ (k : Int) < (n : Int) := by omega
      obtain ⟨hsame, hdev, htouch, hbox, hlen, hops⟩ := H.out
      have kd : wr.cell? ⟨p, 0, none⟩ = some (.pointer (some ⟨dp, 0, none⟩)) := (Box.cell hbox 0).trans rfl
      have hdrop : (xs.map Ch.cg).drop k = [] := List.drop_eq_nil_of_le (by rw [List.length_map]; omega)
      cases hdn : D'.call.down with
      | true =>
        have HW := Lib.hid (flush_down hdev (by omega) hdn)
        have HA := Lib.hid (show layTo base (xs.map Ch.cg) D = (17, D'.call) by rw [hsame, hdrop, layTo, if_pos hdn])
        have HT := Lib.hid htouch
        clear hsame hdev htouch hbox hlen hops hdrop H HX HF HN
        go_wp2_with fail
        refine HW.out.mono ?_
        rintro e w7 ⟨rfl, hd7, ht7⟩
        have HZ := Lib.hid (And.intro hd7 (HT.out.trans ht7))
        clear hd7 ht7
        go_wp2
        go_ret
        rw [HA.out]
        exact ⟨rfl, HZ.out.1, HZ.out.2⟩
      | false =>
        have HW := Lib.hid (flush_up hdev (by omega) hdn)
        have HA := Lib.hid (show layTo base (xs.map Ch.cg) D = (0, D'.call.flush) by rw [hsame, hdrop, layTo, if_neg (by rw [hdn]; simp)])
        have HT := Lib.hid htouch
        clear hsame hdev htouch hbox hlen hops hdrop H HX HF HN
        go_wp2_with fail
        refine HW.out.mono ?_
        rintro e w7 ⟨rfl, hd7, ht7⟩
        have HZ := Lib.hid (And.intro hd7 (HT.out.trans ht7))
        clear hd7 ht7
        go_wp2
        go_ret
        rw [HA.out]
        exact ⟨rfl, HZ.out.1, HZ.out.2⟩
end
end Go.Proofs.YtnhondkdkjehaaaGreat
