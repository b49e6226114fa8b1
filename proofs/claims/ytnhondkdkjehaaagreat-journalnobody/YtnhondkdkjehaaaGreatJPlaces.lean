/-
  places: the blocks of the next transaction, one for each of its places.
-/
import Derived.Test.YtnhondkdkjehaaaGreatJConc
import Derived.Deep.DeepCutAuto
import Derived.Deep.CutBlock
namespace Go.Proofs.YtnhondkdkjehaaaGreat
open Go.RowKit

set_option linter.unusedVariables false
set_option linter.unusedSimpArgs false
theorem RwsAt.append {w : World} {N : Nat → Prop} {vs us : List (Nat × Nat)} {bs cs : List Bk} (h : RwsAt w N vs bs) (h' : RwsAt w N us cs) : RwsAt w N (vs ++ us) (bs ++ cs) := by
  refine ⟨by rw [List.length_append, List.length_append, h.1, h'.1], fun i v b hv hb => ?_⟩
  by_cases hi : i < vs.length
  · rw [List.getElem?_append_left hi] at hv
    rw [List.getElem?_append_left (by rw [← h.1]; exact hi)] at hb
    exact h.2 i v b hv hb
  · rw [List.getElem?_append_right (by omega)] at hv
    rw [List.getElem?_append_right (by rw [← h.1]; omega), ← h.1] at hb
    exact h'.2 _ v b hv hb
/-- Rows that lay in an older world fit what holds of its blocks. -/
theorem RwsAt.weak2 {w w' : World} {N N' : Nat → Prop} {vs : List (Nat × Nat)} {bs : List Bk} (h : RwsAt w' N vs bs) (ho : RwsAt w N vs bs) (hN : ∀ k, k < w.heap.size → N k → N' k) : RwsAt w' N' vs bs :=
  ⟨h.1, fun i v b hv hb => by
    obtain ⟨h1, h2⟩ := h.2 i v b hv hb
    obtain ⟨o1, o2⟩ := ho.2 i v b hv hb
    obtain ⟨ad, q1, q2, q3, _⟩ := o2.2.2 (by omega)
    injection q1 with q1
    subst q1
    exact ⟨hN _ q3 h1, h2⟩⟩
/-- What the loop keeps to. -/
structure E1 (w : World) (n : Nat) (xs : List Ch) (k : Nat) (vs : List (Nat × Nat)) (v5 : Value) (wr : World) : Prop where
  below : Below w.heap.size w wr
  tab : Box wr w.heap.size 49 (vs.map rwc ++ List.replicate (n - k) (Value.slice none 0 0)).toArray
  rws : RwsAt wr (fun b => w.heap.size < b ∧ v5.ownBlock ≠ some b) vs ((xs.take k).map fun x => coverBk x.cg.2)
  told : Own wr (w.heap.size + 1) v5 (toldOf ((xs.take k).map Ch.cg))
theorem byte_hi (n : Nat) (h : n < 65536) : IntKind.u8.wrap (((n / 256 : Nat)) : Int) = (((UInt8.ofNat (n / 256 % 256)).toNat : Nat) : Int) := by
  rw [IntKind.wrap_u8, UInt8.toNat_ofNat']
  omega
theorem tab_step2 (vs : List (Nat × Nat)) (g n k : Nat) (hv : vs.length = k) (hk : k < n) : (vs.map rwc ++ List.replicate (n - k) (Value.slice none 0 0)).toArray.setIfInBounds k (.slice (some ⟨g, 0, none⟩) 256 256) = ((vs ++ [(g, 256)]).map rwc ++ List.replicate (n - (k + 1)) (Value.slice none 0 0)).toArray := by
  rw [List.setIfInBounds_toArray]
  congr 1
  rw [List.set_append_right _ _ (by rw [List.length_map, hv]; exact Nat.le_refl _), List.length_map, hv, Nat.sub_self, show n - k = (n - (k + 1)) + 1 by omega, List.replicate_succ, List.set_cons_zero]
  simp [rwc]
/-- The blocks of a transaction's places. -/
def placesL (L : Lg) (cs : List Cg) : List Bk := [sealBk (L.mk8 1) (toldOf cs)] ++ cs.map (fun x => coverBk x.2) ++ [sealBk (L.mk8 2) []]
section
variable {w : World} {p dp : Nat} {u : Value × Value} {L : Lg}
set_option maxRecDepth 100000 in
set_option maxHeartbeats 8000000 in
theorem jplaces_says (hb : Box w p 81 (lc dp u L)) (hL : L.Ok) (N : Nat → Prop) (A : Option Addr) (n c : Nat) (xs : List Ch) (hx : Chs w N A n c xs) (hfit : ∀ x ∈ xs, (0 ≤ x.n ∧ x.n < 65536) ∧ x.b.length = 256) (hn : 1 ≤ n ∧ n ≤ 70) :
    Calls Tryz.prog 81 #[.pointer (some ⟨p, 0, none⟩), .slice A n c] w fun e w' => ∃ gp cap vs, e = .returned (.tuple #[.slice (some ⟨gp, 0, none⟩) (n + 2) cap, .int .i64 0]) ∧ w.heap.size ≤ gp ∧
      Lies w' (fun b => b = gp) (some ⟨gp, 0, none⟩) (n + 2) cap (vs.map rwc) ∧ RwsAt w' (fun b => w.heap.size ≤ b ∧ b ≠ gp) vs (placesL L (xs.map Ch.cg)) ∧ Below w.heap.size w w' := by
  have hxl : xs.length = n := hx.1
  have HX := Lib.hid hx
  have HF := Lib.hid hfit
  have HB := Lib.hid hb
  have hfit2 : ∀ x ∈ xs, x.b.length = 256 := fun x hx => (HF.out x hx).2
  obtain ⟨j0, hj0, jz0, jz1, jz2⟩ := info_parts sliceInfo2
  clear hb hx hfit
  go_enter Tryz.func81, Tryz.ntmps81
  go_upto_region 3 with (at_make; refine wpList_make_full _ rfl _ _ 129 rfl w.heap.size 49 j0 _ 1 Tryz.underlying129 hj0 jz0 jz1 _ _ _ _ n rfl rfl rfl rfl (by rw [jz2]; omega) (by unfold maxLen; omega) (Nat.le_refl _) ?_; intro w1 hown1 hg1)
  have hb1 : Below w.heap.size w w1 := (Below.refl w.heap.size w).grown hg1 (Nat.le_refl _) (fun k hk => by cases hk)
  have hr1 : Box w1 w.heap.size 49 (List.replicate n (.slice none 0 0)).toArray := by
    have := own_boxS hown1
    rwa [show (madeCells (Value.slice none 0 0).cells (n * 1)).toList = List.replicate n (.slice none 0 0) by rw [show (Value.slice none 0 0).cells = #[Value.slice none 0 0] from rfl, Nat.mul_one, toList_madeCells_one]] at this
  have HE0 := Lib.hid (show E1 w n xs 0 [] (.slice none 0 0) w1 from ⟨hb1, hr1, RwsAt.nil _ _, by simpa [toldOf] using Own.nil w1 (w.heap.size + 1)⟩)
  clear hown1 hg1 hr1 hb1
  go_wp2_with fail
  go_loopw [6, 21] (fun v5 i wr => ∃ (k : Nat) (vs : List (Nat × Nat)), i = .int .i64 (k : Int) ∧ k ≤ n ∧ Hid (E1 w n xs k vs v5 wr)) (fun _ i _ => n - (intOf i).toNat)
  case atStart => exact ⟨0, [], rfl, by omega, HE0⟩
  case round =>
    clear HE0
    obtain ⟨k, vs, rfl, hk, H⟩ := hrel
    by_cases hlt : k < n
    · have hlt' : (k : Int) < (n : Int) := by omega
      obtain ⟨x, hxk⟩ : ∃ x, xs[k]? = some x := ⟨xs[k]'(by omega), List.getElem?_eq_getElem (by omega)⟩
      obtain ⟨hbel, htab, hrws, htold⟩ := H.out
      have hxr := HX.out.below hbel
      obtain ⟨bl, ol, rfl, hNb, hbl, hat, hok⟩ := hxr.at hxk
      obtain ⟨hf1, hf2⟩ := HF.out x (List.mem_of_getElem? hxk)
      have hl256 : x.l = 256 := by rw [← hok.lies.len, bc_length, hf2]
      obtain ⟨w5, hw5⟩ : ∃ y, wr.alloc (.cells #[.int .i64 0, .slice none 0 0] 51) = y := ⟨_, rfl⟩
      have hy5 : Box w5 wr.heap.size 51 #[.int .i64 0, .slice none 0 0] := by rw [← hw5]; exact Box.made wr _ _
      have hb5 : Below wr.heap.size wr w5 := by rw [← hw5]; exact (Below.refl _ wr).alloc (Nat.le_refl _) _
      obtain ⟨w6, hw6⟩ : ∃ y, w5.setRow wr.heap.size (chc x).toArray = y := ⟨_, rfl⟩
      have hx6 : Box w6 wr.heap.size 51 (chc x).toArray := by rw [← hw6]; exact setRow_heap _ _ _ _ _ _ hy5
      have hb6 : Below wr.heap.size wr w6 := hb5.trans (by rw [← hw6]; exact (Below.refl _ w5).grown (grown_row (grown_refl _ (some wr.heap.size)) _) hb5.size (fun k e => by injection e with e; omega))
      have k1 : w6.cell? ⟨wr.heap.size, 1, none⟩ = some (.slice x.a 256 x.c) := (Box.cell hx6 1).trans (by rw [← hl256]; rfl)
      have hlies : Lies w6 (fun _ => True) x.a 256 x.c (bc x.b) := by
        have h1 := (hok.lies.below hb6).weak (N' := fun _ => True) (fun _ _ _ => trivial)
        rwa [hl256] at h1
      obtain ⟨z, hz⟩ : ∃ z, x.b.headD 0 = z := ⟨_, rfl⟩
      obtain ⟨nn, hnn⟩ : ∃ m : Nat, x.n = (m : Int) := ⟨x.n.toNat, by omega⟩
      have hcv := cover_yes w6 x.a x.c x.b hlies
      rw [hz] at hcv
      have HCV := Lib.hid hcv
      have HY5 := Lib.hid hy5
      have HW6 := Lib.hid hw6
      have HAT := Lib.hid hat
      have HX6 := Lib.hid hx6
      have HB6 := Lib.hid hb6
      have hcl := chc_length x
      clear hxr hat hok hy5 hb5 hw6 hx6 hb6 hlies
      go_upto_region 6 with (first
          | (refine wpList_load_mid rfl 51 _ rfl bl (ol + k * 2) rfl (chc x) _ HAT.out Tryz.underlying51 rfl (by kernel_rfl) ?_)
          | (refine wpList_store_row rfl 51 _ _ rfl wr.heap.size (chc x).toArray rfl rfl 51 _ HY5.out (show (Tryz.prog.info? 51).map (·.size) = some 2 by kernel_rfl) rfl (by simp [chc, Value.oneCell']) ?_; rw [HW6.out]))
      go_wp2_with fail
      refine HCV.out.mono ?_
      rintro e w7 ⟨g, rfl, hg, hx7, hb7⟩
      have hB7 : Below wr.heap.size wr w7 := HB6.out.trans (hb7.mono HB6.out.size)
      have hvl : vs.length = k := by rw [hrws.1, List.length_map, List.length_take]; omega
      have htab7 := htab.below hB7 htab.lt
      have hgr : wr.heap.size ≤ g := Nat.le_trans HB6.out.size hg
      have hwr : w.heap.size < wr.heap.size := htab.lt
      have hcovl : (coverBk x.cg.2).1.length = 256 := (coverBk x.cg.2).2
      have hcovb : (coverBk x.cg.2).1 = 3 :: x.b.drop 1 := by
        show 3 :: (bkOf x.b).1.drop 1 = _
        rw [bkOf_val hf2]
      have hrws7 : RwsAt w7 (fun b => w.heap.size < b ∧ u6.ownBlock ≠ some b) (vs ++ [(g, 256)]) (((xs.take k).map fun x => coverBk x.cg.2) ++ [coverBk x.cg.2]) := by
        refine (hrws.keep (Touch.of_below (K := fun _ => False) hB7) (fun _ _ _ h => h)).snoc (v := (g, 256)) ⟨by show w.heap.size < g; omega, fun e => ?_⟩ ?_
        · have := (World.ownsRow.lt htold _ e).2
          have : g < wr.heap.size := this
          omega
        · show Lies w7 _ _ 256 256 (bc (coverBk x.cg.2).1)
          rw [hcovb]
          exact hx7.toLies (n := 256) (by rw [bc_length, ← hcovb]; exact hcovl) (Nat.le_refl 256)
      have ct : w7.cell? ⟨w.heap.size, k, none⟩ = some (.slice none 0 0) := by
        rw [Box.cell htab7, List.getElem?_toArray, List.getElem?_append_right (by rw [List.length_map, hvl]; exact Nat.le_refl _), List.length_map, hvl, Nat.sub_self, List.getElem?_replicate, if_pos (by omega)]
      have cf := Box.frozen htab7 k
      obtain ⟨w8, hw8⟩ : ∃ y, w7.setCell ⟨w.heap.size, k, none⟩ (.slice (some ⟨g, 0, none⟩) 256 256) = y := ⟨_, rfl⟩
      have htab8 : Box w8 w.heap.size 49 ((vs ++ [(g, 256)]).map rwc ++ List.replicate (n - (k + 1)) (Value.slice none 0 0)).toArray := by
        rw [← hw8, ← tab_step2 vs g n k hvl hlt]
        exact Box.put htab7 k _
      have hg8 : w7.grownBy w8 (some w.heap.size) := by rw [← hw8]; exact grown_set (grown_refl _ _) _ _
      have hx8 : Box w8 wr.heap.size 51 (chc x).toArray := Box.grown (Box.below HX6.out hb7 HX6.out.lt) hg8 (by intro e; injection e with e; omega)
      have hB8 : Below w.heap.size w w8 := below_grown (hbel.trans (hB7.mono hbel.size)) hg8 (Nat.le_refl _) (by have := hbel.size; have := hB7.size; omega)
      have ht8 : Own w8 (w.heap.size + 1) u6 (toldOf ((xs.take k).map Ch.cg)) := (htold.below hB7).grown hg8 (htold.ne (by omega))
      have hrws8 := hrws7.keep (Touch.of_grown (K := fun b => b = w.heap.size) hg8 (fun b e => by injection e with e; exact e.symm)) (fun b hb _ e => by omega)
      have m0 : w8.cell? ⟨wr.heap.size, 0, none⟩ = some (.int .i64 (nn : Int)) := (Box.cell hx8 0).trans (by rw [← hnn]; rfl)
      have HZ := Lib.hid (And.intro htab8 (And.intro hB8 (And.intro ht8 hrws8)))
      have HW8 := Lib.hid hw8
      have HNN := Lib.hid hnn
      have HZZ := Lib.hid hz
      clear hcv hnn hz hbel htab htold htab7 hg8 hx8 hB8 ht8 hw8 hx7 hb7 hB7 HCV HY5 HW6 HAT HX6 HB6 hrws hrws7 hrws8 htab8 hcovl hcovb
      go_upto_region 10 with fail
      rw [HW8.out]
      clear ct cf
      have hnews : bc (toldCg x.cg) = [.int .u8 ((nn : Int) / 256 % 256), .int .u8 ((nn : Int) % 256), .int .u8 (z.toNat : Int)] := by
        have hn1 : x.cg.1 = nn := by show x.n.toNat = nn; rw [HNN.out]; rfl
        have hn2 : x.cg.2.1.headD 0 = z := by show (bkOf x.b).1.headD 0 = z; rw [bkOf_val hf2]; exact HZZ.out
        have q1 : (((UInt8.ofNat (nn / 256 % 256)).toNat : Nat) : Int) = (nn : Int) / 256 % 256 := by rw [UInt8.toNat_ofNat']; omega
        have q2 : (((UInt8.ofNat (nn % 256)).toNat : Nat) : Int) = (nn : Int) % 256 := by rw [UInt8.toNat_ofNat']; omega
        unfold toldCg
        rw [hn1, hn2]
        simp only [bc, List.map_cons, List.map_nil, q1, q2]
      have hb8a : Below w8.heap.size w8 (w8.alloc (.cells #[.int .u8 ((nn : Int) / 256 % 256), .int .u8 ((nn : Int) % 256), .int .u8 (z.toNat : Int)] 5)) := (Below.refl _ w8).alloc (Nat.le_refl _) _
      have hm8a := Box.made w8 5 #[.int .u8 ((nn : Int) / 256 % 256), .int .u8 ((nn : Int) % 256), .int .u8 (z.toNat : Int)]
      have HNW := Lib.hid hnews
      have H8A := Lib.hid hb8a
      have HM8 := Lib.hid hm8a
      have hlen5 : (toldOf ((xs.take k).map Ch.cg)).length = 3 * k := by rw [toldOf_length, List.length_map, List.length_take, hxl]; omega
      have hbs8 : w.heap.size + 1 ≤ w8.heap.size := by have := HZ.out.1.lt; omega
      clear hnews hb8a hm8a
      go_wp2_with (at_builtin; refine wpList_bytes_at _ _ _ rfl rfl (w.heap.size + 1) u6 (toldOf ((xs.take k).map Ch.cg)) ⟨w8.heap.size, 0, none⟩ 3 3 (toldCg x.cg) rfl rfl (HZ.out.2.2.1.below H8A.out) rfl (fun j u hu => by rw [HNW.out] at hu; rw [Addr.add_mid, Box.cell HM8.out, Nat.zero_add]; simpa using hu) (by rw [hlen5]; show 3 * k + 3 ≤ _; omega) (by have := H8A.out.size; omega) ?_; intro v9 w9 ho9 hg9 hat9; have H9 := Lib.hid (And.intro ho9 (And.intro hg9 hat9)); clear ho9 hg9 hat9)
      go_roundw
      case rel =>
        refine ⟨k + 1, vs ++ [(g, 256)], by go_num, by omega, Lib.hid ?_⟩
        obtain ⟨ho9, hg9, hat9⟩ := H9.out
        have htk : xs.take (k + 1) = xs.take k ++ [x] := by rw [List.take_add_one, hxk]; rfl
        have hta := HZ.out.1.below H8A.out HZ.out.1.lt
        have hown5 := HZ.out.2.2.1.below H8A.out
        have hs8 := H8A.out.size
        have hrwa := HZ.out.2.2.2.keep (Touch.of_below (K := fun _ => False) H8A.out) (fun _ _ _ h => h)
        refine ⟨?_, ?_, ?_, ?_⟩
        · exact (HZ.out.2.1.trans (H8A.out.mono HZ.out.2.1.size)).trans ((hown5.changed hg9 (by omega)).mono (by omega))
        · exact hta.grown hg9 (fun e => by have := (World.ownsRow.lt hown5 _ e.symm).1; omega)
        · rw [htk, List.map_append]
          have h1 := hrwa.weak (N' := fun b => (w.heap.size < b ∧ u6.ownBlock ≠ some b) ∧ v9.ownBlock ≠ some b) (fun b hb hn => ⟨hn, fun e => by
            rcases hat9 with q | q
            · exact hn.2 (by rw [← q]; exact e)
            · rw [q] at e
              injection e with e
              omega⟩)
          have h2 := h1.keep (Touch.of_grown (K := fun b => u6.ownBlock = some b) hg9 (fun b e => e)) (fun b hn _ e => hn.1.2 e)
          exact h2.weak (fun b _ hn => ⟨hn.1.1, hn.2⟩)
        · rw [htk, List.map_append, List.map_cons, List.map_nil, toldOf_snoc]
          exact ho9
      case measure => simp [intOf]; omega
    · have hnl : ¬ (k : Int) < (n : Int) := by omega
      obtain ⟨w1r, rfl⟩ : ∃ y, y = wr := ⟨_, rfl⟩
      obtain rfl : k = n := by omega
      obtain ⟨hbel, htab, hrws, htold⟩ := H.out
      have hall : xs.take k = xs := List.take_of_length_le (by omega)
      rw [hall] at hrws htold
      rw [Nat.sub_self, List.replicate_zero, List.append_nil] at htab
      obtain ⟨A5, c5, rfl, hl5⟩ := htold.lies
      have hlen5 : (toldOf (xs.map Ch.cg)).length = 3 * k := by rw [toldOf_length, List.length_map, hxl]
      rw [hlen5] at hl5
      have hmay1 : (L.mark 1 hL.seq).may = true := rfl
      have hmay2 : (L.mark 2 hL.seq).may = true := rfl
      have hbx := HB.out.below hbel HB.out.lt
      have HR := Lib.hid (And.intro hbel (And.intro htab (And.intro (hrws.weak (N' := fun b => w.heap.size < b) (fun b _ h => h.1)) (And.intro hbx hl5))))
      have HM1 := Lib.hid (jmark_says hbx 1 hL.seq)
      have hlen5' : (toldOf (xs.map Ch.cg)).length = 3 * k := hlen5
      rw [hlen5']
      clear hbel htab hrws htold hall hl5 hlen5 hlen5' hbx H
      go_wp2_with fail
      refine HM1.out.mono ?_
      rintro e w2 ⟨rfl, hb2⟩
      have HSY1 := Lib.hid (seal_yes w2 (L.mark 1 hL.seq) hmay1 A5 (3 * k) c5 (toldOf (xs.map Ch.cg)) (HR.out.2.2.2.2.below hb2) (by omega))
      have H2 := Lib.hid hb2
      clear hb2 HM1
      go_wp2_with fail
      refine HSY1.out.mono ?_
      rintro e w3 ⟨g3, rfl, hg3, hx3, hb3⟩
      have H3 := Lib.hid (And.intro (H2.out.trans (hb3.mono H2.out.size)) (And.intro (Nat.le_trans H2.out.size hg3) hx3))
      have HM2 := Lib.hid (jmark_says (HR.out.2.2.2.1.below H3.out.1 HR.out.2.2.2.1.lt) 2 hL.seq)
      clear hb3 hx3 hg3 HSY1 H2
      go_wp2_with fail
      refine HM2.out.mono ?_
      rintro e w4 ⟨rfl, hb4⟩
      have HSY2 := Lib.hid (seal_yes w4 (L.mark 2 hL.seq) hmay2 none 0 0 [] (Lies.nil _ _) (by omega))
      have H4 := Lib.hid hb4
      clear hb4 HM2
      go_wp2_with fail
      refine HSY2.out.mono ?_
      rintro e w5 ⟨g5, rfl, hg5, hx5, hb5⟩
      have hB35 : Below w3.heap.size w3 w5 := H4.out.trans (hb5.mono H4.out.size)
      have H5 := Lib.hid (And.intro hB35 (And.intro (Nat.le_trans H4.out.size hg5) hx5))
      clear hb5 hx5 hg5 HSY2 H4 hB35
      obtain ⟨w6, hw6⟩ : ∃ y, w5.alloc (.cells #[.slice (some ⟨g3, 0, none⟩) 256 256] 49) = y := ⟨_, rfl⟩
      have hm6 : Box w6 w5.heap.size 49 #[.slice (some ⟨g3, 0, none⟩) 256 256] := by rw [← hw6]; exact Box.made w5 _ _
      have hb6 : Below w5.heap.size w5 w6 := by rw [← hw6]; exact (Below.refl _ w5).alloc (Nat.le_refl _) _
      obtain ⟨w7, hw7⟩ : ∃ y, w6.alloc (.cells #[.slice (some ⟨g5, 0, none⟩) 256 256] 49) = y := ⟨_, rfl⟩
      have hm7 : Box w7 w6.heap.size 49 #[.slice (some ⟨g5, 0, none⟩) 256 256] := by rw [← hw7]; exact Box.made w6 _ _
      have hb7 : Below w6.heap.size w6 w7 := by rw [← hw7]; exact (Below.refl _ w6).alloc (Nat.le_refl _) _
      obtain ⟨w8, hw8⟩ : ∃ y, w7.alloc (.cells #[.slice (some ⟨w5.heap.size, 0, none⟩) 1 1, .slice (some ⟨w.heap.size, 0, none⟩) k k, .slice (some ⟨w6.heap.size, 0, none⟩) 1 1] 129) = y := ⟨_, rfl⟩
      have hm8 : Box w8 w7.heap.size 129 #[.slice (some ⟨w5.heap.size, 0, none⟩) 1 1, .slice (some ⟨w.heap.size, 0, none⟩) k k, .slice (some ⟨w6.heap.size, 0, none⟩) 1 1] := by rw [← hw8]; exact Box.made w7 _ _
      have hb8 : Below w7.heap.size w7 w8 := by rw [← hw8]; exact (Below.refl _ w7).alloc (Nat.le_refl _) _
      have hb58 : Below w5.heap.size w5 w8 := (hb6.trans (hb7.mono hb6.size)).trans (hb8.mono (hb6.trans (hb7.mono hb6.size)).size)
      have hb68 : Below w6.heap.size w6 w8 := hb7.trans (hb8.mono hb7.size)
      have hr5 : Below w1r.heap.size w1r w5 := H3.out.1.trans (H5.out.1.mono H3.out.1.size)
      have hr8 : Below w1r.heap.size w1r w8 := hr5.trans (hb58.mono hr5.size)
      have htab8 := HR.out.2.1.below hr8 HR.out.2.1.lt
      have row : ∀ (W : World) (g : Nat) (l : List Value), Box W g 49 l.toArray → (∀ v ∈ l, v.oneCell' = true) → RowAt W g l.length l.length l := fun W g l h h1 => ⟨rfl, h.lt, h1, fun j u hu => by rw [Addr.add_mid, Nat.zero_add, Box.cell h, List.getElem?_toArray]; exact hu⟩
      have hrow1 : RowAt w8 w5.heap.size 1 1 [.slice (some ⟨g3, 0, none⟩) 256 256] := row w8 _ _ (hm6.below hb68 hm6.lt) (by simp [Value.oneCell'])
      have hvk : vs.length = k := by rw [HR.out.2.2.1.1, List.length_map, hxl]
      have hrow2 : RowAt w8 w.heap.size k k (vs.map rwc) := by
        have := row w8 _ _ htab8 (by intro v hv; obtain ⟨x, _, rfl⟩ := List.mem_map.1 hv; rfl)
        rwa [List.length_map, hvk] at this
      have hrow3 : RowAt w8 w6.heap.size 1 1 [.slice (some ⟨g5, 0, none⟩) 256 256] := row w8 _ _ (hm7.below hb8 hm7.lt) (by simp [Value.oneCell'])
      have HC3 := Lib.hid (concat3_says w8 w7.heap.size w5.heap.size w.heap.size w6.heap.size 1 k 1 1 k 1 _ _ _ ((Box.cell hm8 0).trans rfl) ((Box.cell hm8 1).trans rfl) ((Box.cell hm8 2).trans rfl) hm8.lt hrow1 hrow2 hrow3 (by omega) (by omega) (by omega))
      have hB8 : Below w.heap.size w w8 := HR.out.1.trans (hr8.mono HR.out.1.size)
      have h38 : Below w3.heap.size w3 w8 := H5.out.1.trans (hb58.mono H5.out.1.size)
      have h1 : Lies w8 (fun b => b = g3) (some ⟨g3, 0, none⟩) 256 256 (bc (sealBk (L.mk8 1) (toldOf (xs.map Ch.cg))).1) := by
        rw [sealBk_val _ _ (by rw [toldOf_length, List.length_map, hxl]; omega), ← mk8_eq L 1 hL.seq]
        exact (H3.out.2.2.below h38 H3.out.2.2.lt).toLies (n := 256) (by rw [bc_length]; exact sealed_length _ _ (by rw [toldOf_length, List.length_map, hxl]; omega)) (Nat.le_refl _)
      have h3 : Lies w8 (fun b => b = g5) (some ⟨g5, 0, none⟩) 256 256 (bc (sealBk (L.mk8 2) []).1) := by
        rw [sealBk_val _ _ (by simp), ← mk8_eq L 2 hL.seq]
        exact (H5.out.2.2.below hb58 H5.out.2.2.lt).toLies (n := 256) (by rw [bc_length]; exact sealed_length _ _ (by simp)) (Nat.le_refl _)
      have hws := HR.out.1.size
      have hg3 := H3.out.2.1
      have hg5 := H5.out.2.1
      have hs3 := H3.out.1.size
      have hall8 : RwsAt w8 (fun b => w.heap.size ≤ b) ([(g3, 256)] ++ vs ++ [(g5, 256)]) (placesL L (xs.map Ch.cg)) := by
        unfold placesL
        rw [List.map_map]
        refine RwsAt.snoc ?_ (by show w.heap.size ≤ g5; omega) h3
        exact RwsAt.append (RwsAt.snoc (RwsAt.nil _ _) (v := (g3, 256)) (by show w.heap.size ≤ g3; omega) h1) ((HR.out.2.2.1.keep (Touch.of_below (K := fun _ => False) hr8) (fun _ _ _ h => h)).weak (fun b _ h => Nat.le_of_lt h))
      have H8 := Lib.hid (And.intro hall8 hB8)
      clear hm6 hb6 hm7 hb7 hm8 hb8 hb58 hb68 hr5 hr8 htab8 row hrow1 hrow2 hrow3 hB8 h38 h1 h3 hall8
      go_upto_region 19 with (go_at_call 109; refine HC3.out.mono ?_; rintro e w9 ⟨v9, rfl, ho9, hb9⟩; have H9 := Lib.hid (And.intro ho9 hb9); clear ho9 hb9)
      go_ret2
      obtain ⟨ho9, hb9⟩ := H9.out
      have hlt9 := World.ownsRow.lt ho9
      rcases ho9.2 with ⟨_, h0⟩ | ⟨gp, cap, cur, rfl, hgp, hh, hnc, _⟩
      · omega
      · have hlen : (([(g3, 256)] ++ vs ++ [(g5, 256)]) : List (Nat × Nat)).length = k + 2 := by simp [hvk]
        refine ⟨gp, cap, [(g3, 256)] ++ vs ++ [(g5, 256)], by rw [show 1 + k + 1 = k + 2 by omega]; rfl, Nat.le_trans H8.out.2.size hgp, ?_, ?_, H8.out.2.trans (hb9.mono H8.out.2.size)⟩
        · refine ⟨by rw [List.length_map, hlen], by omega, fun _ => ⟨⟨gp, 0, none⟩, rfl, rfl, (hlt9 gp rfl).2, fun j u hu => ?_⟩⟩
          refine World.ownsRow.cells ho9 (g := gp) rfl j u ?_
          simpa [rwc] using hu
        · exact (H8.out.1.keep (Touch.of_below (K := fun _ => False) hb9) (fun _ _ _ h => h)).weak2 H8.out.1 (fun b hb h => ⟨h, by omega⟩)
end
end Go.Proofs.YtnhondkdkjehaaaGreat
