/-
  Commit: changes are done, where the log has room for them as it is.
-/
import Derived.Test.YtnhondkdkjehaaaGreatJRight
import Derived.Test.YtnhondkdkjehaaaGreatJEnter
import Derived.Test.YtnhondkdkjehaaaGreatJRdn
import Derived.Test.YtnhondkdkjehaaaGreatSlM
namespace Go.Proofs.YtnhondkdkjehaaaGreat
open Go.RowKit

set_option linter.unusedVariables false
set_option linter.unusedSimpArgs false
/-- What Commit hands on. -/
def CommitPost (w : World) (K J Ja : Nat → Prop) (p dp mb ma q qa n : Nat) (L : Lg) (wet al : Nat → Option Bk) (cs : List Cg) (R : Int × Dv) (e : Ending) (w' : World) : Prop :=
  e = .returned (.int .i64 R.1) ∧
  (R.1 = 0 → ∃ M1 M, w.heap.size ≤ M1 ∧ M1 ≤ M ∧ M ≤ w'.heap.size ∧ Box w' p 81 (lc dp (.map (some mb), .map (some ma)) (L.next n)) ∧ WetAt w' mb (fun k => (J k ∧ k < w.heap.size) ∨ M ≤ k) (q + n) (wetPut wet cs) ∧ Dev w' (fun k => (K k ∧ k < w.heap.size) ∨ (M1 ≤ k ∧ k < M)) dp R.2 ∧
    WetAt w' ma (fun k => Ja k ∨ (w.heap.size ≤ k ∧ k < M1)) (qa + (n + 2)) (mindsL L al 0 (placesL L cs))) ∧
  (R.1 ≠ 0 → Dev w' (fun k => K k ∨ w.heap.size ≤ k) dp R.2) ∧ Touch (fun k => K k ∨ k = p ∨ k = mb ∨ k = ma) w w'
theorem step_mapUpdate {ops : Array Oper} {Q : Exit → Act → World → Prop} {o : Oper} {a : Act} {w : World} {KK : Act → World → Prop} {E : Prop} (hgd : o.guard = none) (m x v : Operand) (t : TypeId) (hop : o.op = Op.mapUpdate t m x v)
    (k e : TypeId) (K : Maps.Keyed Tryz.prog k) (ht : Tryz.prog.underlying t = some (.map k e)) (b n : Nat) (D : DataW Unit) (hm : a.eval m = .map (some b)) (hown : w.ownsMap Tryz.prog k rowEl b n D) (hn : n < maxLen)
    (key val : Value) (kl : Lit) (hx : a.eval x = key) (hv : a.eval v = val) (hkey : keyOf Tryz.prog k key = some kl) (d : DataW Unit) (hval : rowEl val = some (d, []))
    (h : ∀ w', w'.ownsMap Tryz.prog k rowEl b (n + 1) (D.put kl d) → w.grownBy w' (some b) → KK (a.put o.dst undef) w') :
    if Region.wanted o (yielded ops a.tmps) = true then Oper.wp Tryz.prog o a w KK Q else E := by
  have hw : Region.wanted o (yielded ops a.tmps) = true := by simp [Region.wanted, hgd]
  rw [if_pos hw]
  obtain ⟨w', hrun, r1, r2⟩ := hown.update K ht hn hkey hval
  unfold Oper.wp
  simp [execOp, hop, hm, hx, hv, hrun, Result.andThen]
  exact h w' r1 r2
/-- What the loop keeps to. -/
structure CL (w6 : World) (mb q : Nat) (J : Nat → Prop) (wet : Nat → Option Bk) (xs : List Ch) (k : Nat) (wr : World) : Prop where
  touch : Touch (fun b => b = mb) w6 wr
  wet : WetAt wr mb J (q + k) (wetPut wet ((xs.take k).map Ch.cg))
theorem andThen_or {a : Int × Dv} {f : Dv → Int × Dv} (h1 : a.1 = 0 ∨ a.1 = 17) (h2 : ∀ d, (f d).1 = 0 ∨ (f d).1 = 17) : (andThen a f).1 = 0 ∨ (andThen a f).1 = 17 := by
  unfold andThen
  split
  · exact h2 _
  · exact h1
section
variable {w : World} {K J Ja N : Nat → Prop} {p dp mb ma q qa : Nat} {L : Lg} {D : Dv} {wet al : Nat → Option Bk}
theorem wrTo_or (L : Lg) (last : Nat) : ∀ (bs : List Bk) (i : Nat) (D : Dv), (wrTo L last i bs D).1 = 0 ∨ (wrTo L last i bs D).1 = 17
  | [], _, _ => .inl rfl
  | b :: bs, i, D => by
    unfold wrTo
    refine andThen_or ?_ fun d => andThen_or (writeTo_or _ _ _) fun d => wrTo_or L last bs (i + 1) d
    split
    · exact flushTo_or _
    · exact .inl rfl
theorem enterB_or (L : Lg) (cs : List Cg) (D : Dv) : (enterB L cs D).1 = 0 ∨ (enterB L cs D).1 = 17 :=
  andThen_or (wrTo_or L _ _ _ _) fun d => flushTo_or _
set_option maxRecDepth 100000 in
set_option maxHeartbeats 4000000 in
theorem jcommit_says (hb : Box w p 81 (lc dp (.map (some mb), .map (some ma)) L)) (hL : L.Ok) (hd : Dev w K dp D) (hdn : D.down = false) (hp : ¬ K p) (hmK : ¬ K mb) (hpm : p ≠ mb) (hpJ : ¬ J p) (hmJ : ¬ J mb) (hJK : ∀ k, J k → ¬ K k) (hw : WetAt w mb J q wet)
    (hmaK : ¬ K ma) (hpma : p ≠ ma) (hmm : mb ≠ ma) (hma : WetAt w ma Ja qa al) (hqa : qa ≤ 90000) (hJama : ¬ Ja ma) (hJamb : ¬ Ja mb) (hJap : ¬ Ja p) (hJma : ¬ J ma) (hJaK : ∀ k, Ja k → k < w.heap.size ∧ ¬ K k)
    (A : Option Addr) (n c : Nat) (xs : List Ch) (hx : Chs w N A n c xs) (hN : ∀ b, N b → ¬ K b ∧ b ≠ p ∧ b ≠ mb ∧ b ≠ ma) (hrt : rightB (homeOf D L) xs = true) (hroom : (L.used : Int) + ((n : Int) + 2) ≤ L.h.log) (hs1 : L.seq < 18446744073709551615) (ho : D.ops ≤ 70000) (hblk : 2 + L.h.log ≤ (D.bs.length : Int)) (hq : q ≤ 1000000) (hal0 : al (L.place 0) = none) (hal1 : al (L.place (n + 1)) = none) :
    Calls Tryz.prog 15 #[.pointer (some ⟨p, 0, none⟩), .slice A n c] w (CommitPost w K J Ja p dp mb ma q qa n L wet al (xs.map Ch.cg) (enterB L (xs.map Ch.cg) D)) := by
  have hl : 0 ≤ L.h.log ∧ L.h.log ≤ 4096 := ⟨by have := hL.log0; omega, hL.log1⟩
  have hup := hL.up
  have hmost := hd.1.most
  obtain ⟨⟨hn1, hn70⟩, hfit⟩ := rightB_fits hrt
  rw [hx.1] at hn1 hn70
  have hxl : xs.length = n := hx.1
  have hmw := hw.lt
  have hmaw := hma.lt
  have hpw := hb.lt
  have HST := Lib.hid (jstate_says hb hup hd hdn)
  obtain ⟨w1, hw1⟩ : ∃ y, w.setCell ⟨p, 10, none⟩ (.bool false) = y := ⟨_, rfl⟩
  rw [hw1] at HST
  have hb1 : Box w1 p 81 (lc dp (.map (some mb), .map (some ma)) L) := by rw [← hw1]; exact box_up hb hup
  have ht1 : Touch (fun k => k = p) w w1 := by rw [← hw1]; exact Touch.set (K := fun k => k = p) rfl (Touch.refl _ _) _
  have hsz1 : w1.heap.size = w.heap.size := by rw [← hw1]; simp [World.setCell]
  have hd1 : Dev w1 (fun k => K k ∧ k < w.heap.size) dp D := (ht1.dev hd.inside (fun k h1 h2 => hp (h2 ▸ h1.1)))
  have hw1' := (hw.weak (J' := fun k => J k ∧ k < w.heap.size) (fun k h1 h2 => ⟨h2, h1⟩)).touch ht1 (fun e => hpm e.symm) (fun k h1 h2 => hpJ (h2 ▸ h1.1))
  have hma1 := hma.touch ht1 (fun e => hpma e.symm) (fun k h1 h2 => hJap (h2 ▸ h1))
  have hx1 := (hx.weak (N' := fun b => N b ∧ b < w.heap.size) (fun b h1 h2 => ⟨h2, h1⟩)).touch ht1 (fun b h1 h2 => (hN b h1.1).2.1 h2)
  have HAL := Lib.hid (And.intro hal0 hal1)
  have hrg := jright_says hb1 hl hd1 A n c xs hx1
  rw [hrt] at hrg
  have HRG := Lib.hid hrg
  have H1 := Lib.hid (And.intro hb1 (And.intro ht1 (And.intro hd1 (And.intro hw1' (And.intro hma1 hx1)))))
  have HFT := Lib.hid hfit
  obtain ⟨R, hR⟩ : ∃ R, enterB L (xs.map Ch.cg) D = R := ⟨_, rfl⟩
  have hor := enterB_or L (xs.map Ch.cg) D
  rw [hR] at hor ⊢
  have HR := Lib.hid hR
  have wn2 : IntKind.i64.wrap ((n : Int) + 2) = (n : Int) + 2 := IntWalk.i64_in _ (by omega)
  have wn3 : IntKind.i64.wrap ((L.used : Int) + ((n : Int) + 2)) = (L.used : Int) + ((n : Int) + 2) := IntWalk.i64_in _ (by omega)
  have wn4 : IntKind.u64.wrap ((L.seq : Int) + 1) = (L.seq : Int) + 1 := by rw [IntKind.wrap_u64]; omega
  have g1 : ¬ L.h.log < (n : Int) + 2 := by omega
  have g2 : ¬ L.h.log < (L.used : Int) + ((n : Int) + 2) := by omega
  clear hb hd hw hx hb1 ht1 hd1 hw1' hx1 hma hma1 hal0 hal1 hrg hw1 hrt hfit hR hdn
  go_enter Tryz.func15, Tryz.ntmps15
  go_upto_region 6 with (first
    | (go_at_call 39; refine HST.out.mono ?_; rintro e wn ⟨rfl, hwn⟩; obtain rfl : w1 = wn := hwn.symm; clear hwn)
    | (go_at_call 52; refine HRG.out.mono ?_; rintro e w2 ⟨rfl, hb2⟩; have HB2 := Lib.hid hb2; clear hb2))
  have hx2 := Box.below H1.out.1 HB2.out H1.out.1.lt
  have c5 : w2.cell? ⟨p, 5, none⟩ = some (.int .i64 L.h.log) := (Box.cell hx2 5).trans rfl
  have d5 : ∀ v : Grows w2, v.val.cell? ⟨p, 5, none⟩ = some (.int .i64 L.h.log) := fun v => (v.prop.cell hx2.lt).trans ((Box.cell hx2 5).trans rfl)
  have d6 : ∀ v : Grows w2, v.val.cell? ⟨p, 6, none⟩ = some (.int .i64 (L.used : Int)) := fun v => (v.prop.cell hx2.lt).trans ((Box.cell hx2 6).trans rfl)
  clear hx2
  go_upto_region 9 with fail
  refine wp_region_grows (by kernel_rfl) (by kernel_rfl) ?_
  iterate 12 quiet_step (fail)
  refine wpQuiet_nil ?_
  rintro w3 ⟨⟨_, hw3⟩, rfl⟩
  have hB3 : Below w1.heap.size w1 w3 := HB2.out.trans (hw3.mono HB2.out.size)
  have hs3 := hB3.size
  have hx3 := Box.below H1.out.1 hB3 H1.out.1.lt
  have hd3 : Dev w3 (fun k => (K k ∧ k < w.heap.size) ∨ w3.heap.size ≤ k) dp D := (H1.out.2.2.1.below hB3).weak (fun k h => .inl h)
  have hch3 := H1.out.2.2.2.2.2.below hB3
  have hp3 : ¬ ((K p ∧ p < w.heap.size) ∨ w3.heap.size ≤ p) := fun h => h.elim (fun h => hp h.1) (fun h => by omega)
  have hma3 := H1.out.2.2.2.2.1.touch (Touch.of_below (K := fun _ => False) hB3) (fun h => h) (fun _ _ h => h)
  have hma3' : ¬ ((K ma ∧ ma < w.heap.size) ∨ w3.heap.size ≤ ma) := fun h => h.elim (fun h => hmaK h.1) (fun h => by omega)
  have hen := jenter_none hx3 hL hp3 hma3' hpma hd3 (fun k hk => .inr hk) (fun b => N b ∧ b < w.heap.size) A n c xs hch3 (fun x hx => ⟨⟨(HFT.out x hx).1.1, by have h1 := (HFT.out x hx).1.2; unfold homeOf at h1; omega⟩, (HFT.out x hx).2⟩) ⟨hn1, hn70⟩ (by omega) (by omega) hma3 hqa hJama (fun b hb => ⟨by have := (hJaK b hb).1; omega, fun h => h.elim (fun h => (hJaK b hb).2 h.1) (fun h => by have := (hJaK b hb).1; omega)⟩) HAL.out.1 HAL.out.2
  rw [HR.out] at hen
  have HEN := Lib.hid hen
  have H3 := Lib.hid (And.intro hx3 (And.intro (H1.out.2.2.2.1.touch (Touch.of_below (K := fun _ => False) hB3) (fun h => h) (fun _ _ h => h)) (And.intro hch3 (show Touch (fun k => k = p) w w3 from H1.out.2.1.trans' (Touch.of_below (K := fun _ => False) hB3) (fun _ h => h.elim)))))
  clear hw3 hB3 hx3 hd3 hch3 hen hma3 d5 d6 c5 HST HRG HB2 H1 HAL
  go_wp2_with fail
  refine HEN.out.mono ?_
  rintro e w4 ⟨rfl, ht4, hx4, M1, hM1, hM4, hd4, hal4⟩
  have hs4 := ht4.size
  have hmS : ¬ ((K mb ∧ mb < w.heap.size) ∨ w3.heap.size ≤ mb) := fun h => h.elim (fun h => hmK h.1) (fun h => by omega)
  have hwt4 := H3.out.2.1.touch ht4 (fun h => h.elim hmS hmm) (fun k h1 h2 => h2.elim (fun h => h.elim (fun h => hJK k h1.1 h.1) (fun h => by have := h1.2; omega)) (fun h => hJma (h ▸ h1.1)))
  have hch4 := H3.out.2.2.1.touch ht4 (fun b h1 h2 => h2.elim (fun h => h.elim (fun h => (hN b h1.1).1 h.1) (fun h => by have := h1.2; omega)) (fun h => (hN b h1.1).2.2.2 h))
  have hT4 : Touch (fun k => K k ∨ k = p ∨ k = mb ∨ k = ma) w w4 := (H3.out.2.2.2.mono (K' := fun k => K k ∨ k = p ∨ k = mb ∨ k = ma) (fun k h => .inr (.inl h))).trans' ht4 (fun k h => h.elim (fun h => h.elim (fun h => .inl (.inl h.1)) (fun h => .inr (by omega))) (fun h => .inl (.inr (.inr (.inr h)))))
  rcases hor with hz | hz
  · have hd4' : Dev w4 (fun k => (K k ∧ k < w.heap.size) ∨ (M1 ≤ k ∧ k < w4.heap.size)) dp R.2 := hd4.inside.weak (fun k h => h.1.elim (fun h1 => h1.1.elim .inl (fun h2 => by have := h1.2; omega)) (fun h1 => .inr ⟨h1, h.2⟩))
    have hal4' := (hal4 hz).weak (J' := fun k => Ja k ∨ (w.heap.size ≤ k ∧ k < M1)) (fun k _ h => h.elim .inl (fun h => .inr ⟨by omega, h.2⟩))
    obtain ⟨w5, hw5⟩ : ∃ y, w4.setCell ⟨p, 6, none⟩ (.int .i64 ((L.used : Int) + ((n : Int) + 2))) = y := ⟨_, rfl⟩
    have hx5 : Box w5 p 81 (lc dp (.map (some mb), .map (some ma)) ⟨L.h, L.used + (n + 2), L.seq, L.down⟩) := by
      rw [← hw5]
      have := Box.put hx4 6 (.int .i64 ((L.used : Int) + ((n : Int) + 2)))
      simpa [lc] using this
    obtain ⟨w6, hw6⟩ : ∃ y, w5.setCell ⟨p, 7, none⟩ (.int .u64 ((L.seq : Int) + 1)) = y := ⟨_, rfl⟩
    have hx6 : Box w6 p 81 (lc dp (.map (some mb), .map (some ma)) (L.next n)) := by
      rw [← hw6]
      have := Box.put hx5 7 (.int .u64 ((L.seq : Int) + 1))
      simpa [lc, Lg.next] using this
    have ht6 : Touch (fun k => k = p) w4 w6 := by rw [← hw6, ← hw5]; exact Touch.set (K := fun k => k = p) rfl (Touch.set (K := fun k => k = p) rfl (Touch.refl _ _) _) _
    have hsz6 : w6.heap.size = w4.heap.size := by rw [← hw6, ← hw5]; simp [World.setCell]
    have c6 : w4.cell? ⟨p, 6, none⟩ = some (.int .i64 (L.used : Int)) := (Box.cell hx4 6).trans rfl
    have f6 := Box.frozen hx4 6
    have c7 : w5.cell? ⟨p, 7, none⟩ = some (.int .u64 (L.seq : Int)) := (Box.cell hx5 7).trans rfl
    have f7 := Box.frozen hx5 7
    have HW5 := Lib.hid hw5
    have HW6 := Lib.hid hw6
    have hd6 := ht6.dev hd4' (fun k h1 h2 => by
      have h2 : k = p := h2
      subst h2
      exact h1.elim (fun h => hp h.1) (fun h => by omega))
    have hal6 := hal4'.touch ht6 (fun e => hpma e.symm) (fun k h1 h2 => by
      have h2 : k = p := h2
      subst h2
      exact h1.elim hJap (fun h => by omega))
    have hwt6 := (hwt4.touch ht6 (fun e => hpm e.symm) (fun k h1 h2 => hpJ (h2 ▸ h1.1))).weak (J' := fun k => (J k ∧ k < w.heap.size) ∨ w4.heap.size ≤ k) (fun k _ h => .inl h)
    have hch6 := hch4.touch ht6 (fun b h1 h2 => (hN b h1.1).2.1 h2)
    have HI0 := Lib.hid (show CL w6 mb q (fun k => (J k ∧ k < w.heap.size) ∨ w4.heap.size ≤ k) wet xs 0 w6 from ⟨Touch.refl _ _, hwt6⟩)
    have H6 := Lib.hid (And.intro hx6 (And.intro hd6 (And.intro hch6 (And.intro hal6 (hT4.trans (ht6.mono (fun k h => .inr (.inl h))))))))
    have HZ0 := Lib.hid hz
    have hmM : ¬ ((J mb ∧ mb < w.heap.size) ∨ w4.heap.size ≤ mb) := fun h => h.elim (fun h => hmJ h.1) (fun h => by omega)
    rw [hz]
    clear hd4 hd4' ht4 hx4 hwt4 hch4 hT4 hal4 hal4' hal6 hx5 hx6 ht6 hw5 hw6 hd6 hwt6 hch6 hz HEN H3
    go_upto_region 17 with fail
    rw [HW5.out]
    go_upto_region 18 with fail
    rw [HW6.out]
    go_wp2_with fail
    go_loopw [72] (fun v wr => ∃ k : Nat, v = .int .i64 (k : Int) ∧ k ≤ n ∧ Hid (CL w6 mb q (fun k => (J k ∧ k < w.heap.size) ∨ w4.heap.size ≤ k) wet xs k wr)) (fun v _ => n - (intOf v).toNat)
    case atStart => exact ⟨0, rfl, by omega, HI0⟩
    case round =>
      clear HI0 c6 f6 c7 f7
      obtain ⟨k, rfl, hk, H⟩ := hrel
      have hszr := H.out.touch.size
      have hxr := H.out.touch.box H6.out.1 hpm
      by_cases hlt : k < n
      · have hlt' : (k : Int) < (n : Int) := by omega
        obtain ⟨x, hxk⟩ : ∃ x, xs[k]? = some x := ⟨xs[k]'(by omega), List.getElem?_eq_getElem (by omega)⟩
        have hchr := H6.out.2.2.1.touch H.out.touch (fun b h1 h2 => (hN b h1.1).2.2.1 h2)
        obtain ⟨bl, ol, rfl, hNb, hbl, hat, hok⟩ := hchr.at hxk
        obtain ⟨hf1, hf2⟩ := HFT.out x (List.mem_of_getElem? hxk)
        have hl256 : x.l = 256 := by rw [← hok.lies.len, bc_length, hf2]
        obtain ⟨nn, hnn⟩ : ∃ m : Nat, x.n = (m : Int) := ⟨x.n.toNat, by omega⟩
        have hnu : nn ≤ 1000000 := by unfold homeOf at hf1; omega
        obtain ⟨w7, hw7⟩ : ∃ y, wr.alloc (.cells #[.int .i64 0, .slice none 0 0] 51) = y := ⟨_, rfl⟩
        have hy7 : Box w7 wr.heap.size 51 #[.int .i64 0, .slice none 0 0] := by rw [← hw7]; exact Box.made wr _ _
        have hb7 : Below wr.heap.size wr w7 := by rw [← hw7]; exact (Below.refl _ wr).alloc (Nat.le_refl _) _
        obtain ⟨w8, hw8⟩ : ∃ y, w7.setRow wr.heap.size (chc x).toArray = y := ⟨_, rfl⟩
        have hx8 : Box w8 wr.heap.size 51 (chc x).toArray := by rw [← hw8]; exact setRow_heap _ _ _ _ _ _ hy7
        have hb8 : Below wr.heap.size wr w8 := hb7.trans (by rw [← hw8]; exact (Below.refl _ w7).grown (grown_row (grown_refl _ (some wr.heap.size)) _) hb7.size (fun k e => by injection e with e; omega))
        have hx8p := Box.below hxr hb8 hxr.lt
        have k0 : w8.drew.cell? ⟨wr.heap.size, 0, none⟩ = some (.int .i64 (nn : Int)) := (Box.cell hx8 0).trans (by rw [← hnn]; rfl)
        have k1 : w8.drew.cell? ⟨wr.heap.size, 1, none⟩ = some (.slice x.a 256 x.c) := (Box.cell hx8 1).trans (by rw [← hl256]; rfl)
        have k8 : w8.drew.cell? ⟨p, 8, none⟩ = some (.map (some mb)) := (Box.cell hx8p 8).trans rfl
        have hlies : Lies w8.drew (fun _ => True) x.a 256 x.c (bc (bkOf x.b).1) := by
          have h1 := (hok.lies.below hb8).weak (N' := fun _ => True) (fun _ _ _ => trivial)
          rw [bkOf_val hf2, ← hl256]
          exact h1.drew
        have HCL := Lib.hid (jclone_says w8.drew x.a x.c (bkOf x.b).1 hlies)
        have hcgn : x.cg = (nn, bkOf x.b) := by show (x.n.toNat, bkOf x.b) = _; rw [hnn]; rfl
        have htk : (xs.take (k + 1)).map Ch.cg = (xs.take k).map Ch.cg ++ [(nn, bkOf x.b)] := by
          rw [List.take_add_one, hxk]
          simp [hcgn]
        obtain ⟨n0, DW, hm0, hnq, hall⟩ := H.out.wet
        have HM0 := Lib.hid (And.intro hm0 (And.intro hnq hall))
        have HTK := Lib.hid htk
        have HX8 := Lib.hid (And.intro hx8 hx8p)
        have HNN := Lib.hid hnn
        have HL2 := Lib.hid hl256
        have HY7 := Lib.hid hy7
        have HW8 := Lib.hid hw8
        have HAT := Lib.hid hat
        have HB8 := Lib.hid hb8
        have hcl := chc_length x
        clear hchr hat hok hy7 hb7 hw8 hx8 hb8 hx8p hlies hcgn htk hm0 hnq hall hnn hl256
        go_upto_region 21 with (first
          | (refine wpList_load_mid rfl 51 _ rfl bl (ol + k * 2) rfl (chc x) _ HAT.out Tryz.underlying51 rfl (by kernel_rfl) ?_)
          | (refine wpList_store_row rfl 51 _ _ rfl wr.heap.size (chc x).toArray rfl rfl 51 _ HY7.out (show (Tryz.prog.info? 51).map (·.size) = some 2 by kernel_rfl) rfl (by simp [chc, Value.oneCell']) ?_; rw [HW8.out]))
        rename_i KX kx
        have KK := Lib.hid kx
        clear kx
        refine wp_region_held_drew (S := fun u => u.cell? ⟨p, 8, none⟩ = some (.map (some mb)) ∧ u.cell? ⟨wr.heap.size, 0, none⟩ = some (.int .i64 (nn : Int)) ∧ u.cell? ⟨wr.heap.size, 1, none⟩ = some (.slice x.a 256 x.c)) (by kernel_rfl) ⟨k8, k0, k1⟩ (fun hHeld => ?_)
        refine take_run 0 76 (v := ?_) rfl rfl (by kernel_rfl) (by kernel_rfl) (by kernel_rfl) (fun _ _ _ h => h) (by rfl) ?_ (by assumption) ?_
        rotate_left
        · (intro wq hSw; obtain ⟨hS1, hS2, hS3⟩ := hSw; go_simp; first | done | with_reducible rfl)
        simp only [Act.put, List.setIfInBounds_toArray, List.set_cons_zero, List.set_cons_succ]
        refine take_run 1 77 (v := ?_) rfl rfl (by kernel_rfl) (by kernel_rfl) (by kernel_rfl) (fun _ _ _ h => h) (by rfl) ?_ (by assumption) ?_
        rotate_left
        · (intro wq hSw; obtain ⟨hS1, hS2, hS3⟩ := hSw; go_simp; first | done | with_reducible rfl)
        simp only [Act.put, List.setIfInBounds_toArray, List.set_cons_zero, List.set_cons_succ]
        refine take_run 2 78 (v := ?_) rfl rfl (by kernel_rfl) (by kernel_rfl) (by kernel_rfl) (fun _ _ _ h => h) (by rfl) ?_ (by assumption) ?_
        rotate_left
        · (intro wq hSw; obtain ⟨hS1, hS2, hS3⟩ := hSw; go_simp; first | done | with_reducible rfl)
        simp only [Act.put, List.setIfInBounds_toArray, List.set_cons_zero, List.set_cons_succ]
        refine take_run 3 79 (v := ?_) rfl rfl (by kernel_rfl) (by kernel_rfl) (by kernel_rfl) (fun _ _ _ h => h) (by rfl) ?_ (by assumption) ?_
        rotate_left
        · (intro wq hSw; obtain ⟨hS1, hS2, hS3⟩ := hSw; go_simp; first | done | with_reducible rfl)
        simp only [Act.put, List.setIfInBounds_toArray, List.set_cons_zero, List.set_cons_succ]
        refine take_run 4 80 (v := ?_) rfl rfl (by kernel_rfl) (by kernel_rfl) (by kernel_rfl) (fun _ _ _ h => h) (by rfl) ?_ (by assumption) ?_
        rotate_left
        · (intro wq hSw; obtain ⟨hS1, hS2, hS3⟩ := hSw; go_simp; first | done | with_reducible rfl)
        simp only [Act.put, List.setIfInBounds_toArray, List.set_cons_zero, List.set_cons_succ]
        refine take_run 5 81 (v := ?_) rfl rfl (by kernel_rfl) (by kernel_rfl) (by kernel_rfl) (fun _ _ _ h => h) (by rfl) ?_ (by assumption) ?_
        rotate_left
        · (intro wq hSw; obtain ⟨hS1, hS2, hS3⟩ := hSw; go_simp; first | done | with_reducible rfl)
        simp only [Act.put, List.setIfInBounds_toArray, List.set_cons_zero, List.set_cons_succ]
        refine take_run 6 82 (v := ?_) rfl rfl (by kernel_rfl) (by kernel_rfl) (by kernel_rfl) (fun _ _ _ h => h) (by rfl) ?_ (by assumption) ?_
        rotate_left
        · (intro wq hSw; obtain ⟨hS1, hS2, hS3⟩ := hSw; go_simp; first | done | with_reducible rfl)
        simp only [Act.put, List.setIfInBounds_toArray, List.set_cons_zero, List.set_cons_succ]
        refine take_run 7 83 (v := ?_) rfl rfl (by kernel_rfl) (by kernel_rfl) (by kernel_rfl) (fun _ _ _ h => h) (by rfl) ?_ (by assumption) ?_
        rotate_left
        · (intro wq hSw; obtain ⟨hS1, hS2, hS3⟩ := hSw; go_simp; first | done | with_reducible rfl)
        simp only [Act.put, List.setIfInBounds_toArray, List.set_cons_zero, List.set_cons_succ]
        refine wpAnyH_ready (rs := [8]) (by kernel_rfl) (by simp) ?_
        refine AllReadyH.cons rfl (fun KR hK => ?_) AllReadyH.nil
        go_simp
        refine HCL.out.mono ?_
        rintro e w9 ⟨g, cap, rfl, hg9, hl9, hb9⟩
        have hb9 : Below w8.heap.size w8 w9 := ⟨hb9.os, hb9.tape, hb9.output, hb9.size, hb9.block⟩
        have hB9 : Below wr.heap.size wr w9 := HB8.out.trans (hb9.mono HB8.out.size)
        have hg9 : w8.heap.size ≤ g := hg9
        have hs8 := HB8.out.size
        have hm9 : w9.ownsMap Tryz.prog 3 rowEl mb n0 DW := HM0.out.1.kept (grown_of_below hB9 none) (by simp)
        have H9 := Lib.hid (And.intro hl9 (And.intro hB9 (And.intro hg9 hm9)))
        have hx9 : Box w9 wr.heap.size 51 (chc x).toArray := Box.below HX8.out.1 hb9 HX8.out.1.lt
        have hp9 := Box.below HX8.out.2 hb9 HX8.out.2.lt
        have j0 : w9.cell? ⟨wr.heap.size, 0, none⟩ = some (.int .i64 (nn : Int)) := (Box.cell hx9 0).trans (by rw [← HNN.out]; rfl)
        have j1 : w9.cell? ⟨wr.heap.size, 1, none⟩ = some (.slice x.a 256 x.c) := (Box.cell hx9 1).trans (by rw [← HL2.out]; rfl)
        have j8 : w9.cell? ⟨p, 8, none⟩ = some (.map (some mb)) := (Box.cell hp9 8).trans rfl
        refine hK.out _ _ ⟨j8, j0, j1⟩ (fun hHeld => ?_)
        clear hK KR hl9 hb9 hB9 hg9 hm9 HCL hHeld
        try simp only [Act.put, List.setIfInBounds_toArray, List.set_cons_zero, List.set_cons_succ]
        refine wpAnyH_ready (rs := [9]) (by kernel_rfl) (by simp) ?_
        refine AllReadyH.cons rfl (fun KR hK => ?_) AllReadyH.nil
        refine step_mapUpdate rfl _ _ _ 79 rfl 3 49 intKey Tryz.underlying79 mb n0 DW rfl H9.out.2.2.2 (by have := HM0.out.2.1; unfold maxLen; omega) _ _ (.int .i64 (nn : Int)) rfl rfl (keyInt nn hnu) _ (rowEl_mk g cap) (fun w10 hown10 hgrow10 => ?_)
        have H10 := Lib.hid (And.intro hown10 hgrow10)
        have ht10 : Touch (fun b => b = mb) w9 w10 := Touch.of_grown H10.out.2 (fun b e => by injection e with e; exact e.symm)
        have hne : ¬ wr.heap.size = mb := fun e => by have := HM0.out.1.lt; omega
        have HN := Lib.hid (show CL w6 mb q (fun k => (J k ∧ k < w.heap.size) ∨ w4.heap.size ≤ k) wet xs (k + 1) w10 from by
          refine ⟨(H.out.touch.trans' (Touch.of_below (K := fun _ => False) H9.out.2.1) (fun _ h => h.elim)).trans ht10, ?_⟩
          rw [HTK.out, wetPut_snoc]
          refine WetAt.put (w := w9) H10.out.1 H9.out.2.2.2.isMap HM0.out.2.1 (.inr (by have := H9.out.2.2.1; omega)) H9.out.1 ht10 hmM (fun j => ⟨(HM0.out.2.2 j).1, fun y hy => ?_⟩)
          obtain ⟨a, g', c', b, d, e⟩ := (HM0.out.2.2 j).2 y hy
          exact ⟨a, g', c', b, d, e.below H9.out.2.1⟩)
        refine hK.out _ _ ⟨(Box.cell (ht10.box hp9 hpm) 8).trans rfl, (Box.cell (ht10.box hx9 hne) 0).trans (by rw [← HNN.out]; rfl), (Box.cell (ht10.box hx9 hne) 1).trans (by rw [← HL2.out]; rfl)⟩ (fun hHeld => ?_)
        clear hK KR hown10 hgrow10 ht10 H10 H9 hx9 hp9 j0 j1 j8 hHeld
        try simp only [Act.put, List.setIfInBounds_toArray, List.set_cons_zero, List.set_cons_succ]
        refine wpAnyH_done (by kernel_rfl) ?_ _
        refine KK.out _ _ ?_
        clear KK KX
        go_wp2
        go_roundw
        case rel => exact ⟨k + 1, by go_num, by omega, HN⟩
        case measure => simp [intOf]; omega
      · have hnl : ¬ (k : Int) < (n : Int) := by omega
        obtain rfl : k = n := by omega
        have hall : xs.take k = xs := List.take_of_length_le (by omega)
        have hwt := H.out.wet
        rw [hall] at hwt
        have HE := Lib.hid hwt
        have hdr := H.out.touch.dev H6.out.2.1 (fun b h1 h2 => by
          have h2 : b = mb := h2
          subst h2
          exact h1.elim (fun h => hmK h.1) (fun h => by omega))
        have HD := Lib.hid hdr
        have HA := Lib.hid (H6.out.2.2.2.1.touch H.out.touch (fun e => hmm e.symm) (fun b h1 h2 => by
          have h2 : b = mb := h2
          subst h2
          exact h1.elim hJamb (fun h => by omega)))
        clear hall hwt hdr
        go_wp2
        go_ret
        refine ⟨by rw [HZ0.out]; rfl, fun _ => ⟨M1, w4.heap.size, by omega, by omega, by omega, hxr, HE.out, HD.out, HA.out⟩, fun h => absurd HZ0.out h, H6.out.2.2.2.2.trans (H.out.touch.mono (fun k h => .inr (.inr (.inl h))))⟩
  · have HZ0 := Lib.hid hz
    have HNB := Lib.hid (jnoted_bad hx4 hup 17 (by decide))
    have ht5 : Touch (fun k => k = p) w4 (w4.setCell ⟨p, 10, none⟩ (.bool true)) := Touch.set (K := fun k => k = p) rfl (Touch.refl _ _) _
    have HD5 := Lib.hid (And.intro (ht5.dev hd4 (fun k h1 h2 => by have h2 : k = p := h2; subst h2; exact h1.elim (fun h => hp3 h.1) (fun h => by omega))) (hT4.trans (ht5.mono (fun k h => .inr (.inl h)))))
    rw [hz]
    clear hd4 ht4 hx4 hwt4 hch4 hT4 ht5 hz hal4
    go_wp2_with (go_at_call 54; refine HNB.out.mono ?_; rintro e w5 ⟨rfl, rfl⟩)
    go_ret
    exact ⟨by rw [HZ0.out]; rfl, fun h => absurd h (by rw [HZ0.out]; decide), fun _ => HD5.out.1.weak (fun k h => h.elim (fun h => h.1.elim (fun h => .inl h.1) (fun h => .inr (by omega))) (fun h => .inr (by omega))), HD5.out.2⟩
end
end Go.Proofs.YtnhondkdkjehaaaGreat
