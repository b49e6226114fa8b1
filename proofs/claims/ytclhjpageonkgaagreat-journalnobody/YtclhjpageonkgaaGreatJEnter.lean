/-
  enter: the next transaction is written.
-/
import Derived.Test.YtclhjpageonkgaaGreatJEntP
namespace Go.Proofs.YtclhjpageonkgaaGreat
open Go.RowKit

set_option linter.unusedVariables false
set_option linter.unusedSimpArgs false
/-- The covered bytes of a change. -/
def covB (x : Ch) : List UInt8 := 3 :: x.b.drop 1
/-- What the first loop keeps to. -/
structure E1 (w : World) (n : Nat) (xs : List Ch) (k : Nat) (v5 : Value) (wr : World) : Prop where
  below : Below w.heap.size w wr
  tab : RowsN wr w.heap.size n (fun b => w.heap.size < b ∧ v5.ownBlock ≠ some b) ((xs.take k).map covB)
  told : Own wr (w.heap.size + 1) v5 (toldOf ((xs.take k).map Ch.cg))
/-- What the second loop keeps to. -/
structure E2 (K : Nat → Prop) (dp p : Nat) (u : Value) (L : Lg) (D : Dv) (bL : List Bk) (w2 : World) (j : Nat) (wq : World) (D' : Dv) : Prop where
  same : coversTo L 1 bL D = coversTo L (1 + j) (bL.drop j) D'
  dev : Dev wq K dp D'
  touch : Touch K w2 wq
  box : Box wq p 81 (lc dp u L)
  len : D'.bs.length = D.bs.length
  ops : D'.ops ≤ D.ops + j
theorem below_touch {K : Nat → Prop} {w w1 : World} (hb : Below w.heap.size w w1) : Touch K w w1 := Touch.of_below hb
theorem since_or {K : Nat → Prop} {w w1 : World} (hb : Below w.heap.size w w1) : ∀ k, Since K w w1 k → K k ∨ w.heap.size ≤ k := fun k h => h.elim (fun q => .inl q.1) (fun q => .inr (Nat.le_trans hb.size q))
theorem byte_hi (n : Nat) (h : n < 65536) : IntKind.u8.wrap (((n / 256 : Nat)) : Int) = (((UInt8.ofNat (n / 256 % 256)).toNat : Nat) : Int) := by
  rw [IntKind.wrap_u8, UInt8.toNat_ofNat']
  omega
theorem sliceInfo : (Tryz.prog.info? 49).map (fun i => (i.zero, i.size, i.bytes)) = some (some (.slice none 0 0), 1, 24) := by kernel_rfl
section
variable {w : World} {K : Nat → Prop} {p dp : Nat} {u : Value} {L : Lg} {D : Dv}
set_option maxRecDepth 100000 in
set_option maxHeartbeats 1600000 in
theorem jenter_says (hb : Box w p 81 (lc dp u L)) (hL : L.Ok) (hp : ¬ K p) (hd : Dev w K dp D) (hK : ∀ k, w.heap.size ≤ k → K k) (N : Nat → Prop) (hN : ∀ b, N b → ¬ K b)
    (A : Option Addr) (n c : Nat) (xs : List Ch) (hx : Chs w N A n c xs) (hfit : ∀ x ∈ xs, x.fits (homeOf D L)) (hn : n ≤ 70) (hroom : 2 + L.h.log ≤ (D.bs.length : Int)) (ho : D.ops + n ≤ 80000) :
    Calls Tryz.prog 53 #[.pointer (some ⟨p, 0, none⟩), .slice A n c] w fun e w' => e = .returned (.int .i64 (enterTo L hL.seq (xs.map Ch.cg) D).1) ∧ Dev w' K dp (enterTo L hL.seq (xs.map Ch.cg) D).2 ∧ Touch K w w' := by
  have hxl : xs.length = n := hx.1
  have hmost := hd.1.most
  have hhome : homeOf D L = (D.bs.length : Int) - (2 + L.h.log) := rfl
  have HX := Lib.hid hx
  have HF := Lib.hid hfit
  have HB := Lib.hid hb
  have HD := Lib.hid hd
  have hfit2 : ∀ x ∈ xs, x.b.length = 256 := fun x hx => (HF.out x hx).2
  obtain ⟨j0, hj0, jz0, jz1, jz2⟩ := info_parts sliceInfo
  clear hb hd hx hfit
  go_enter Tryz.func53, Tryz.ntmps53
  go_upto_region 3 with (at_make; refine wpList_make_full _ rfl _ _ 138 rfl w.heap.size 49 j0 _ 1 Tryz.underlying138 hj0 jz0 jz1 _ _ _ _ n rfl rfl rfl rfl (by rw [jz2]; omega) (by unfold maxLen; omega) (Nat.le_refl _) ?_; intro w1 hown1 hg1)
  have hb1 : Below w.heap.size w w1 := (Below.refl w.heap.size w).grown hg1 (Nat.le_refl _) (fun k hk => by cases hk)
  have hr1 := rows_made (fun b => w.heap.size < b ∧ (Value.slice none 0 0).ownBlock ≠ some b) hown1
  have HE0 := Lib.hid (show E1 w n xs 0 (.slice none 0 0) w1 from ⟨hb1, by simpa using hr1, by simpa [toldOf] using Own.nil w1 (w.heap.size + 1)⟩)
  clear hown1 hg1 hr1 hb1
  go_wp2_with fail
  go_loopw [5, 23] (fun v5 i wr => ∃ k : Nat, i = .int .i64 (k : Int) ∧ k ≤ n ∧ Hid (E1 w n xs k v5 wr)) (fun _ i _ => n - (intOf i).toNat)
  case atStart => exact ⟨0, rfl, by omega, HE0⟩
  case round =>
    clear HE0
    obtain ⟨k, rfl, hk, H⟩ := hrel
    by_cases hlt : k < n
    · have hlt' : (k : Int) < (n : Int) := by omega
      obtain ⟨x, hxk⟩ : ∃ x, xs[k]? = some x := ⟨xs[k]'(by omega), List.getElem?_eq_getElem (by omega)⟩
      obtain ⟨hbel, htab, htold⟩ := H.out
      have hxr := HX.out.below hbel
      obtain ⟨bl, ol, rfl, hNb, hbl, hat, hok⟩ := hxr.at hxk
      obtain ⟨hf1, hf2⟩ := HF.out x (List.mem_of_getElem? hxk)
      have hl256 : x.l = 256 := by rw [← hok.lies.len, bc_length, hf2]
      obtain ⟨w5, hw5⟩ : ∃ y, wr.alloc (.cells #[.int .i64 0, .slice none 0 0] 51) = y := ⟨_, rfl⟩
      have hy5 : Box w5 wr.heap.size 51 #[.int .i64 0, .slice none 0 0] := by rw [← hw5]; exact Box.made wr _ _
      have hb5 : Below wr.heap.size wr w5 := by rw [← hw5]; exact (Below.refl _ wr).alloc (Nat.le_refl _) _
      obtain ⟨w6, hw6⟩ : ∃ y, w5.setRow wr.heap.size (chc x).toArray = y := ⟨_, rfl⟩
      have hx6 : Box w6 wr.heap.size 51 (chc x).toArray := by rw [← hw6]; exact setRow_heap _ _ _ _ _ _ hy5
      have hb6 : Below wr.heap.size wr w6 := hb5.trans (by rw [← hw6]; exact (Below.refl _ w5).grown (grown_row (grown_refl _ (some wr.heap.size)) _) hb5.size (fun k e => by injection e with e; omega))
      have k1 : w6.cell? ⟨wr.heap.size, 1, none⟩ = some (.slice x.a 256 x.c) := (Box.cell hx6 1).trans (by rw [← hl256]; rfl)
      have hlies : Lies w6 (fun _ => True) x.a 256 x.c (bc x.b) := by
        have h1 := (hok.lies.below hb6).weak (N' := fun _ => True) (fun _ _ _ => trivial)
        rwa [hl256] at h1
      obtain ⟨z, hz⟩ : ∃ z, x.b.headD 0 = z := ⟨_, rfl⟩
      obtain ⟨nn, hnn⟩ : ∃ m : Nat, x.n = (m : Int) := ⟨x.n.toNat, by omega⟩
      have hcv := cover_yes w6 x.a x.c x.b hlies
      rw [hz] at hcv
      have HCV := Lib.hid hcv
      have HY5 := Lib.hid hy5
      have HW6 := Lib.hid hw6
      have HAT := Lib.hid hat
      have HX6 := Lib.hid hx6
      have HB6 := Lib.hid hb6
      have hcl := chc_length x
      clear hxr hat hok hy5 hb5 hw6 hx6 hb6 hlies
      go_upto_region 6 with (first
          | (refine wpList_load_mid rfl 51 _ rfl bl (ol + k * 2) rfl (chc x) _ HAT.out Tryz.underlying51 rfl (by kernel_rfl) ?_)
          | (refine wpList_store_row rfl 51 _ _ rfl wr.heap.size (chc x).toArray rfl rfl 51 _ HY5.out (show (Tryz.prog.info? 51).map (·.size) = some 2 by kernel_rfl) rfl (by simp [chc, Value.oneCell']) ?_; rw [HW6.out]))
      go_wp2_with fail
      refine HCV.out.mono ?_
      rintro e w7 ⟨g, rfl, hg, hx7, hb7⟩
      have hB7 : Below wr.heap.size wr w7 := HB6.out.trans (hb7.mono HB6.out.size)
      have htab7 := htab.below hB7
      obtain ⟨⟨vk, hvk⟩, hfk⟩ := htab7.place hlt
      have htl : ((xs.take k).map covB).length = k := by rw [List.length_map, List.length_take]; omega
      have hgr : wr.heap.size ≤ g := Nat.le_trans HB6.out.size hg
      have hwr : w.heap.size < wr.heap.size := htab.lt
      have hcovl : (covB x).length = 256 := by simp [covB, hf2]
      have hpush := htab7.push (A := some ⟨g, 0, none⟩) (c := 256) (m := 256) (l := covB x) (fun e => by omega) (by rw [htl]; exact hlt) hcovl ((hx7.toLies (n := 256) (by rw [bc_length]; exact hcovl) (Nat.le_refl 256)).weak (fun b _ hb => by
        have hb' : b = g := hb
        subst hb'
        refine ⟨by omega, fun e => ?_⟩
        have := (World.ownsRow.lt htold _ e).2
        omega))
      rw [htl] at hpush
      obtain ⟨w8, hw8⟩ : ∃ y, w7.setCell ⟨w.heap.size, k, none⟩ (.slice (some ⟨g, 0, none⟩) 256 256) = y := ⟨_, rfl⟩
      rw [hw8] at hpush
      have hg8 : w7.grownBy w8 (some w.heap.size) := by rw [← hw8]; exact grown_set (grown_refl _ _) _ _
      have hx8 : Box w8 wr.heap.size 51 (chc x).toArray := Box.grown (Box.below HX6.out hb7 HX6.out.lt) hg8 (by intro e; injection e with e; omega)
      have hB8 : Below w.heap.size w w8 := below_grown (hbel.trans (hB7.mono hbel.size)) hg8 (Nat.le_refl _) (by have := hbel.size; have := hB7.size; omega)
      have ht8 : Own w8 (w.heap.size + 1) u5 (toldOf ((xs.take k).map Ch.cg)) := (htold.below hB7).grown hg8 (htold.ne (by omega))
      have m0 : w8.cell? ⟨wr.heap.size, 0, none⟩ = some (.int .i64 (nn : Int)) := (Box.cell hx8 0).trans (by rw [← hnn]; rfl)
      have HZ := Lib.hid (And.intro hpush (And.intro hB8 ht8))
      have HW8 := Lib.hid hw8
      have HNN := Lib.hid hnn
      have HZZ := Lib.hid hz
      clear hcv hnn hz hbel htab htold htab7 hpush hg8 hx8 hB8 ht8 hw8 hx7 hb7 hB7 HCV HY5 HW6 HAT HX6 HB6
      go_upto_region 10 with fail
      rw [HW8.out]
      have hnews : bc (toldCg x.cg) = [.int .u8 ((nn : Int) / 256 % 256), .int .u8 ((nn : Int) % 256), .int .u8 (z.toNat : Int)] := by
        have hn1 : x.cg.1 = nn := by show x.n.toNat = nn; rw [HNN.out]; rfl
        have hn2 : x.cg.2.1.headD 0 = z := by show (bkOf x.b).1.headD 0 = z; rw [bkOf_val hf2]; exact HZZ.out
        have q1 : (((UInt8.ofNat (nn / 256 % 256)).toNat : Nat) : Int) = (nn : Int) / 256 % 256 := by rw [UInt8.toNat_ofNat']; omega
        have q2 : (((UInt8.ofNat (nn % 256)).toNat : Nat) : Int) = (nn : Int) % 256 := by rw [UInt8.toNat_ofNat']; omega
        unfold toldCg
        rw [hn1, hn2]
        simp only [bc, List.map_cons, List.map_nil, q1, q2]
      have hb8a : Below w8.heap.size w8 (w8.alloc (.cells #[.int .u8 ((nn : Int) / 256 % 256), .int .u8 ((nn : Int) % 256), .int .u8 (z.toNat : Int)] 5)) := (Below.refl _ w8).alloc (Nat.le_refl _) _
      have hm8a := Box.made w8 5 #[.int .u8 ((nn : Int) / 256 % 256), .int .u8 ((nn : Int) % 256), .int .u8 (z.toNat : Int)]
      have HNW := Lib.hid hnews
      have H8A := Lib.hid hb8a
      have HM8 := Lib.hid hm8a
      have hlen5 : (toldOf ((xs.take k).map Ch.cg)).length = 3 * k := by rw [toldOf_length, List.length_map, List.length_take, hxl]; omega
      have hbs8 : w.heap.size + 1 ≤ w8.heap.size := by have := HZ.out.1.lt; omega
      clear hnews hb8a hm8a
      go_wp2_with (at_builtin; refine wpList_bytes_at _ _ _ rfl rfl (w.heap.size + 1) u5 (toldOf ((xs.take k).map Ch.cg)) ⟨w8.heap.size, 0, none⟩ 3 3 (toldCg x.cg) rfl rfl (HZ.out.2.2.below H8A.out) rfl (fun j u hu => by rw [HNW.out] at hu; rw [Addr.add_mid, Box.cell HM8.out, Nat.zero_add]; simpa using hu) (by rw [hlen5]; show 3 * k + 3 ≤ _; omega) (by have := H8A.out.size; omega) ?_; intro v9 w9 ho9 hg9 hat9; have H9 := Lib.hid (And.intro ho9 (And.intro hg9 hat9)); clear ho9 hg9 hat9)
      go_roundw
      case rel =>
        refine ⟨k + 1, by go_num, by omega, Lib.hid ?_⟩
        obtain ⟨ho9, hg9, hat9⟩ := H9.out
        have htk : xs.take (k + 1) = xs.take k ++ [x] := by rw [List.take_add_one, hxk]; rfl
        have hta := HZ.out.1.below H8A.out
        have hown5 := HZ.out.2.2.below H8A.out
        have hs8 := H8A.out.size
        refine ⟨?_, ?_, ?_⟩
        · exact (HZ.out.2.1.trans (H8A.out.mono HZ.out.2.1.size)).trans ((hown5.changed hg9 (by omega)).mono (by omega))
        · rw [htk, List.map_append]
          have h1 := hta.weak (N' := fun b => (w.heap.size < b ∧ u5.ownBlock ≠ some b) ∧ v9.ownBlock ≠ some b) (fun b hb hn => ⟨hn, fun e => by
            rcases hat9 with q | q
            · exact hn.2 (by rw [← q]; exact e)
            · rw [q] at e
              injection e with e
              omega⟩)
          have h2 := h1.grown hg9 (hown5.ne (by omega)) (fun b hn => hn.1.2)
          exact h2.weak (fun b _ hn => ⟨hn.1.1, hn.2⟩)
        · rw [htk, List.map_append, List.map_cons, List.map_nil, toldOf_snoc]
          exact ho9
      case measure => simp [intOf]; omega
    · have hnl : ¬ (k : Int) < (n : Int) := by omega
      obtain ⟨w1r, rfl⟩ : ∃ y, y = wr := ⟨_, rfl⟩
      obtain rfl : k = n := by omega
      obtain ⟨hbel, htab, htold⟩ := H.out
      have hall : xs.take k = xs := List.take_of_length_le (by omega)
      rw [hall] at htab htold
      obtain ⟨A5, c5, rfl, hl5⟩ := htold.lies
      have hlen5 : (toldOf (xs.map Ch.cg)).length = 3 * k := by rw [toldOf_length, List.length_map, hxl]
      rw [hlen5] at hl5
      have hpw : p < w.heap.size := HB.out.lt
      have hKp : ¬ Since K w w1r p := fun h => h.elim (fun q => hp q.1) (fun q => by have := hbel.size; omega)
      have hrK : ∀ q, w1r.heap.size ≤ q → Since K w w1r q := fun q hq => .inr hq
      have hboxr := Box.below HB.out hbel hpw
      have hdr := HD.out.since hbel
      have hpl : ∀ i, L.place i < D.bs.length := fun i => by have := place_lt hL i; have := hL.log0; omega
      have htabr := htab.weak (N' := fun b => b < w1r.heap.size ∧ w.heap.size < b) (fun b hb hn => ⟨hb, hn.1⟩)
      have HS1 := Lib.hid (jseal_says hboxr hL hKp hdr hrK (by omega) 0 (by omega) (hpl 0) 1 (.inl rfl) A5 (3 * k) c5 (toldOf (xs.map Ch.cg)) hl5 (by omega))
      have HR := Lib.hid (And.intro hbel (And.intro htabr (And.intro hboxr (And.intro hKp (And.intro hrK hpl)))))
      have hlen5' : (toldOf (xs.map Ch.cg)).length = 3 * k := hlen5
      rw [hlen5']
      clear hbel htab htold htabr hboxr hKp hrK hdr hl5 hlen5 hlen5' hpl H HX HF HB HD hall
      generalize hW1 : writeTo D (L.place 0) (sealBk (L.mark 1 hL.seq) (toldOf (xs.map Ch.cg))) = W1 at HS1
      have HW1 := Lib.hid hW1
      have hw1len : W1.2.bs.length = D.bs.length := by rw [← hW1, writeTo_len]
      have hw1ops : W1.2.ops = D.ops + 1 := by rw [← hW1, writeTo_ops]
      have hor : W1.1 = 0 ∨ W1.1 = 17 := by rw [← hW1]; exact writeTo_or _ _ _
      clear hW1
      go_wp2_with fail
      refine HS1.out.mono ?_
      rintro e w2 ⟨rfl, hd2, ht2⟩
      have H2 := Lib.hid (And.intro hd2 ht2)
      clear hd2 ht2 HS1
      obtain ⟨a1, D1⟩ := W1
      rcases hor with hz | hz
      · have hz : a1 = 0 := hz
        subst hz
        have hent : enterTo L hL.seq (xs.map Ch.cg) D = andThen (coversTo L 1 (xs.map (fun x => coverBk x.cg.2)) D1) fun D2 =>
            andThen (flushTo D2) fun D3 => andThen (writeTo D3 (L.place (1 + k)) (sealBk (L.mark 2 hL.seq) [])) fun D4 => flushTo D4 := by
          unfold enterTo
          rw [HW1.out, List.map_map, List.length_map, hxl, andThen, if_pos rfl]
          rfl
        have HEN := Lib.hid hent
        have hbl1 : (xs.map (fun x => coverBk x.cg.2)).length = k := by rw [List.length_map, hxl]
        obtain ⟨bL, hbL⟩ : ∃ bL, xs.map (fun x => coverBk x.cg.2) = bL := ⟨_, rfl⟩
        rw [hbL] at HEN hbl1
        have hrows : xs.map covB = bL.map (·.1) := by
          rw [← hbL, List.map_map]
          apply List.map_congr_left
          intro x hx
          show 3 :: x.b.drop 1 = 3 :: (bkOf x.b).1.drop 1
          rw [bkOf_val (hfit2 x hx)]
        have hR2 := H2.out.2
        have HT := Lib.hid (show RowsN w2 w.heap.size k (fun b => b < w1r.heap.size ∧ w.heap.size < b) (bL.map (·.1)) from by
          rw [← hrows]
          exact HR.out.2.1.touch hR2 (fun h => h.elim (fun q => by have := q.2; omega) (fun q => by have := HR.out.2.1.lt; omega)) (fun b hn h => h.elim (fun q => by have := q.2; have := hn.2; omega) (fun q => by have := hn.1; omega)))
        have HI := Lib.hid (show E2 (Since K w w1r) dp p u L D1 bL w2 0 w2 D1 from ⟨rfl, H2.out.1, Touch.refl _ _, hR2.box HR.out.2.2.1 HR.out.2.2.2.1, rfl, Nat.le_refl _⟩)
        have hw1len : D1.bs.length = D.bs.length := hw1len
        have hw1ops : D1.ops = D.ops + 1 := hw1ops
        clear hbL hrows hent hR2 HW1
        go_wp2_with fail
        go_loopw [62] (fun v wr => ∃ j : Nat, v = .int .i64 (j : Int) ∧ j ≤ k ∧ ∃ D', Hid (E2 (Since K w w1r) dp p u L D1 bL w2 j wr D')) (fun v _ => k - (intOf v).toNat)
        case atStart => exact ⟨0, rfl, by omega, D1, HI⟩
        case round =>
          clear HI
          obtain ⟨j, rfl, hj, D', H⟩ := hrel
          obtain ⟨hsame, hdev, htouch, hbox, hlenD, hopsD⟩ := H.out
          by_cases hlt : j < k
          · have hlt' : (j : Int) < (k : Int) := by omega
            obtain ⟨y, hyj⟩ : ∃ y, bL[j]? = some y := ⟨bL[j]'(by omega), List.getElem?_eq_getElem (by omega)⟩
            have htq := HT.out.touch htouch (fun h => h.elim (fun q => by have := q.2; omega) (fun q => by have := HR.out.2.1.lt; omega)) (fun b hn h => h.elim (fun q => by have := q.2; have := hn.2; omega) (fun q => by have := hn.1; omega))
            obtain ⟨Aj, cj, hcj, hlj⟩ := htq.row (i := j) (l := y.1) (by rw [List.getElem?_map, hyj]; rfl)
            rw [y.2] at hcj hlj
            have hdrop : bL.drop j = y :: bL.drop (j + 1) := by
              rw [List.drop_eq_getElem_cons (by omega)]
              congr 1
              have := List.getElem?_eq_getElem (l := bL) (i := j) (by omega)
              rw [hyj] at this
              injection this with this
              exact this.symm
            have hplj : L.place (1 + j) < D'.bs.length := by rw [hlenD, hw1len]; exact HR.out.2.2.2.2.2 _
            have hwrq : w1r.heap.size ≤ wr.heap.size := Nat.le_trans H2.out.2.size htouch.size
            obtain ⟨nn, hnn⟩ : ∃ m, L.place (1 + j) = m := ⟨_, rfl⟩
            rw [hnn] at hplj
            have hw1j : IntKind.i64.wrap (1 + (j : Int)) = 1 + (j : Int) := IntWalk.i64_in _ (by omega)
            have HPJ := Lib.hid (show Calls Tryz.prog 83 #[.pointer (some ⟨p, 0, none⟩), .int .i64 (1 + (j : Int))] wr.drew fun e w' => e = .returned (.int .i64 (nn : Int)) ∧ Below wr.drew.heap.size wr.drew w' from by
              have := jplace_says (w := wr.drew) hbox hL (1 + j) (by omega)
              rwa [hnn, show ((1 + j : Nat) : Int) = 1 + (j : Int) from by omega] at this)
            have HDQ := Lib.hid hdev
            have HTQ := Lib.hid htouch
            have HBQ := Lib.hid hbox
            have HLJ := Lib.hid hlj
            have HLN := Lib.hid hlenD
            have HOP := Lib.hid hopsD
            have HSD := Lib.hid (And.intro hsame hdrop)
            clear hdev htouch hbox hlj htq hsame hdrop hlenD hopsD H
            go_upto_region 18 with fail
            rename_i KX kx
            have KK := Lib.hid kx
            clear kx
            refine wp_region_held_drew (S := fun u => u.cell? ⟨p, 0, none⟩ = some (.pointer (some ⟨dp, 0, none⟩))) (by kernel_rfl) ((Box.cell (show Box wr.drew p _ _ from HBQ.out) 0).trans rfl) (fun hHeld => ?_)
            refine take_run 0 67 (v := ?_) rfl rfl (by kernel_rfl) (by kernel_rfl) (by kernel_rfl) (fun _ _ _ h => h) (by rfl) ?_ (by assumption) ?_
            rotate_left
            · (intro wr hSw; have hS1 := hSw; go_simp; first | done | with_reducible rfl)
            simp only [Act.put, List.setIfInBounds_toArray, List.set_cons_zero, List.set_cons_succ]
            refine take_run 1 68 (v := ?_) rfl rfl (by kernel_rfl) (by kernel_rfl) (by kernel_rfl) (fun _ _ _ h => h) (by rfl) ?_ (by assumption) ?_
            rotate_left
            · (intro wr hSw; have hS1 := hSw; go_simp; first | done | with_reducible rfl)
            simp only [Act.put, List.setIfInBounds_toArray, List.set_cons_zero, List.set_cons_succ]
            refine take_run 2 69 (v := ?_) rfl rfl (by kernel_rfl) (by kernel_rfl) (by kernel_rfl) (fun _ _ _ h => h) (by rfl) ?_ (by assumption) ?_
            rotate_left
            · (intro wr hSw; have hS1 := hSw; go_simp; first | done | with_reducible rfl)
            simp only [Act.put, List.setIfInBounds_toArray, List.set_cons_zero, List.set_cons_succ]
            refine take_run 3 70 (v := ?_) rfl rfl (by kernel_rfl) (by kernel_rfl) (by kernel_rfl) (fun _ _ _ h => h) (by rfl) ?_ (by assumption) ?_
            rotate_left
            · (intro wr hSw; have hS1 := hSw; go_simp; first | done | with_reducible rfl)
            simp only [Act.put, List.setIfInBounds_toArray, List.set_cons_zero, List.set_cons_succ]
            refine take_run 4 71 (v := ?_) rfl rfl (by kernel_rfl) (by kernel_rfl) (by kernel_rfl) (fun _ _ _ h => h) (by rfl) ?_ (by assumption) ?_
            rotate_left
            · (intro wr hSw; have hS1 := hSw; go_simp; first | done | with_reducible rfl)
            simp only [Act.put, List.setIfInBounds_toArray, List.set_cons_zero, List.set_cons_succ]
            refine take_run 5 72 (v := ?_) rfl rfl (by kernel_rfl) (by kernel_rfl) (by kernel_rfl) (fun _ _ _ h => h) (by rfl) ?_ (by assumption) ?_
            rotate_left
            · (intro wr hSw; have hS1 := hSw; go_simp; first | done | with_reducible rfl)
            simp only [Act.put, List.setIfInBounds_toArray, List.set_cons_zero, List.set_cons_succ]
            refine take_run 6 73 (v := ?_) rfl rfl (by kernel_rfl) (by kernel_rfl) (by kernel_rfl) (fun _ _ _ h => h) (by rfl) ?_ (by assumption) ?_
            rotate_left
            · (intro wr hSw; have hS1 := hSw; go_simp; first | done | with_reducible rfl)
            simp only [Act.put, List.setIfInBounds_toArray, List.set_cons_zero, List.set_cons_succ]
            refine take_run 8 75 (v := ?_) rfl rfl (by kernel_rfl) (by kernel_rfl) (by kernel_rfl) (fun _ _ _ h => h) (by rfl) ?_ (by assumption) ?_
            rotate_left
            · (intro wr hSw; have hS1 := hSw; go_simp; first | done | with_reducible rfl)
            simp only [Act.put, List.setIfInBounds_toArray, List.set_cons_zero, List.set_cons_succ]
            refine wpAnyH_ready (rs := [7]) (by kernel_rfl) (by simp) ?_
            refine AllReadyH.cons rfl (fun KR hK => ?_) AllReadyH.nil
            go_simp
            refine (HPJ.out).mono ?_
            rintro e w3 ⟨rfl, hb3⟩
            have hb3 : Below wr.heap.size wr w3 := ⟨hb3.os, hb3.tape, hb3.output, hb3.size, hb3.block⟩
            have hx3 := Box.below HBQ.out hb3 HBQ.out.lt
            have H3 := Lib.hid (And.intro hx3 (And.intro (HDQ.out.below hb3) (And.intro (HLJ.out.below hb3) hb3)))
            clear hb3
            refine hK.out _ _ ((Box.cell hx3 0).trans rfl) (fun hHeld => ?_)
            clear hK KR
            try simp only [Act.put, List.setIfInBounds_toArray, List.set_cons_zero, List.set_cons_succ]
            clear hHeld hx3
            refine wpAnyH_ready (rs := [9]) (by kernel_rfl) (by simp) ?_
            refine AllReadyH.cons rfl (fun KR hK9 => ?_) AllReadyH.nil
            go_simp
            have hd3 : Dev w3 (Since K w w1r) dp D' := H3.out.2.1
            refine (write_says hd3 (fun q hq => .inr (by have := H3.out.2.2.2.size; omega)) (by have := HOP.out; omega) nn hplj (fun b => b < w1r.heap.size ∧ w.heap.size < b) Aj cj y H3.out.2.2.1 (fun b hn h => h.elim (fun q => by have := q.2; have := hn.2; omega) (fun q => by have := hn.1; omega))).mono ?_
            rintro e w4 ⟨rfl, hd4, ht4⟩
            have hx4 := ht4.box H3.out.1 HR.out.2.2.2.1
            have HZ := Lib.hid (And.intro hd4 (And.intro ((HTQ.out.trans (Touch.of_below H3.out.2.2.2)).trans ht4) hx4))
            clear hd4 ht4 hd3
            refine hK9.out _ _ ((Box.cell hx4 0).trans rfl) (fun hHeld => ?_)
            clear hK9 KR hx4
            try simp only [Act.put, List.setIfInBounds_toArray, List.set_cons_zero, List.set_cons_succ]
            refine take_run 10 15 (v := ?_) rfl rfl (by kernel_rfl) (by kernel_rfl) (by kernel_rfl) (fun _ _ _ h => h) (by rfl) ?_ (by assumption) ?_
            rotate_left
            · (intro wr hSw; have hS1 := hSw; go_simp; first | done | with_reducible rfl)
            simp only [Act.put, List.setIfInBounds_toArray, List.set_cons_zero, List.set_cons_succ]
            refine wpAnyH_done (by kernel_rfl) ?_ _
            refine KK.out _ _ ?_
            clear KK KX hHeld
            cases hdn : D'.call.down with
            | true =>
              have hq : writeTo D' nn y = (17, D'.call) := by rw [writeTo, if_pos hdn]
              have hcv : coversTo L 1 bL D1 = (17, D'.call) := by rw [HSD.out.1, HSD.out.2, coversTo, if_pos hdn]
              have hfin : enterTo L hL.seq (xs.map Ch.cg) D = (17, D'.call) := by rw [HEN.out, hcv, andThen, if_neg (by simp)]
              have HFI := Lib.hid hfin
              rw [hq] at HZ ⊢
              clear hq hcv hfin
              go_wp2
              go_ret
              rw [HFI.out]
              exact ⟨rfl, HZ.out.1.unsince HR.out.1 hK, ((below_touch HR.out.1).trans' (H2.out.2.trans HZ.out.2.1) (since_or HR.out.1))⟩
            | false =>
              have hq : writeTo D' nn y = (0, D'.call.write nn y) := by rw [writeTo, if_neg (by rw [hdn]; simp)]
              have hcv : coversTo L 1 bL D1 = coversTo L (1 + (j + 1)) (bL.drop (j + 1)) (D'.call.write nn y) := by rw [HSD.out.1, HSD.out.2, coversTo, if_neg (by rw [hdn]; simp), hnn, ← Nat.add_assoc]
              have HCV := Lib.hid hcv
              rw [hq] at HZ ⊢
              clear hq hcv
              go_wp2
              go_roundw
              case rel =>
                refine ⟨j + 1, by go_num, by omega, _, Lib.hid ⟨HCV.out, HZ.out.1, HZ.out.2.1, HZ.out.2.2, ?_, ?_⟩⟩
                · show (D'.bs.set _ _).length = _
                  rw [List.length_set]
                  exact HLN.out
                · have := HOP.out
                  show D'.ops + 1 ≤ _
                  omega
              case measure => simp [intOf]; omega
          · have hnl : ¬ (j : Int) < (k : Int) := by omega
            obtain rfl : j = k := by omega
            have hdrop : bL.drop j = [] := List.drop_eq_nil_of_le (by omega)
            have hcv : coversTo L 1 bL D1 = (0, D') := by rw [hsame, hdrop, coversTo]
            have hent : enterTo L hL.seq (xs.map Ch.cg) D = andThen (flushTo D') fun D3 => andThen (writeTo D3 (L.place (1 + j)) (sealBk (L.mark 2 hL.seq) [])) fun D4 => flushTo D4 := by
              rw [HEN.out, hcv, andThen, if_pos rfl]
            have HE3 := Lib.hid hent
            have HFL := Lib.hid (flush_says hdev (by omega))
            have kd : wr.cell? ⟨p, 0, none⟩ = some (.pointer (some ⟨dp, 0, none⟩)) := (Box.cell hbox 0).trans rfl
            have H4 := Lib.hid (And.intro (H2.out.2.trans htouch) (And.intro hbox (And.intro hlenD hopsD)))
            clear hdrop hcv hent hsame hdev htouch hbox hlenD hopsD H HEN HT
            have hfor := flushTo_or D'
            have hfln := flushTo_len D'
            have hfop := flushTo_ops D'
            generalize hW3 : flushTo D' = W3 at HFL hfor hfln hfop
            have HW3 := Lib.hid hW3
            clear hW3
            obtain ⟨a3, D3⟩ := W3
            go_wp2_with fail
            refine HFL.out.mono ?_
            rintro e w5 ⟨rfl, hd5, ht5⟩
            have H5 := Lib.hid (And.intro hd5 (And.intro (H4.out.1.trans ht5) (ht5.box H4.out.2.1 HR.out.2.2.2.1)))
            clear hd5 ht5 HFL kd
            rcases hfor with hz | hz
            · have hz : a3 = 0 := hz
              subst hz
              have hent : enterTo L hL.seq (xs.map Ch.cg) D = andThen (writeTo D3 (L.place (1 + j)) (sealBk (L.mark 2 hL.seq) [])) fun D4 => flushTo D4 := by rw [HE3.out, HW3.out, andThen, if_pos rfl]
              have HE4 := Lib.hid hent
              have hfln : D3.bs.length = D'.bs.length := hfln
              have hfop : D3.ops = D'.ops + 1 := hfop
              have hd5 : Dev w5 (Since K w w1r) dp D3 := H5.out.1
              have hwr5 : w1r.heap.size ≤ w5.heap.size := H5.out.2.1.size
              have hs2 := (jseal_says H5.out.2.2 hL HR.out.2.2.2.1 hd5 (fun q hq => .inr (by omega)) (by have := H4.out.2.2.2; omega) (1 + j) (by omega) (by rw [hfln, H4.out.2.2.1, hw1len]; exact HR.out.2.2.2.2.2 _) 2 (.inr rfl) none 0 0 [] (Lies.nil _ _) (by omega))
              rw [show ((1 + j : Nat) : Int) = 1 + (j : Int) from by omega] at hs2
              have HS2 := Lib.hid hs2
              have hj1 : IntKind.i64.wrap (1 + (j : Int)) = 1 + (j : Int) := IntWalk.i64_in _ (by omega)
              clear hent hd5 hwr5 HE3 HW3 hs2
              have hwor := writeTo_or D3 (L.place (1 + j)) (sealBk (L.mark 2 hL.seq) [])
              have hwop := writeTo_ops D3 (L.place (1 + j)) (sealBk (L.mark 2 hL.seq) [])
              generalize hW4 : writeTo D3 (L.place (1 + j)) (sealBk (L.mark 2 hL.seq) []) = W4 at HS2 hwor hwop HE4
              clear hW4
              obtain ⟨a4, D4⟩ := W4
              go_wp2_with fail
              refine HS2.out.mono ?_
              rintro e w6 ⟨rfl, hd6, ht6⟩
              have H6 := Lib.hid (And.intro hd6 (And.intro (H5.out.2.1.trans ht6) (ht6.box H5.out.2.2 HR.out.2.2.2.1)))
              clear hd6 ht6 HS2
              rcases hwor with hz | hz
              · have hz : a4 = 0 := hz
                subst hz
                have hent : enterTo L hL.seq (xs.map Ch.cg) D = flushTo D4 := by rw [HE4.out, andThen, if_pos rfl]
                have HE5 := Lib.hid hent
                have hwop : D4.ops = D3.ops + 1 := hwop
                have hd6 : Dev w6 (Since K w w1r) dp D4 := H6.out.1
                have HF2 := Lib.hid (flush_says hd6 (by have := H4.out.2.2.2; omega))
                have kd : w6.cell? ⟨p, 0, none⟩ = some (.pointer (some ⟨dp, 0, none⟩)) := (Box.cell H6.out.2.2 0).trans rfl
                clear hent hd6 HE4
                go_wp2_with fail
                refine HF2.out.mono ?_
                rintro e w7 ⟨rfl, hd7, ht7⟩
                have HZ := Lib.hid (And.intro hd7 (H6.out.2.1.trans ht7))
                clear hd7 ht7 HF2
                go_wp2
                go_ret
                rw [HE5.out]
                exact ⟨rfl, HZ.out.1.unsince HR.out.1 hK, (below_touch HR.out.1).trans' HZ.out.2 (since_or HR.out.1)⟩
              · have hz : a4 = 17 := hz
                subst hz
                have hent : enterTo L hL.seq (xs.map Ch.cg) D = (17, D4) := by rw [HE4.out, andThen, if_neg (by simp)]
                have HE5 := Lib.hid hent
                clear hent HE4
                go_wp2
                go_ret
                rw [HE5.out]
                exact ⟨rfl, H6.out.1.unsince HR.out.1 hK, (below_touch HR.out.1).trans' H6.out.2.1 (since_or HR.out.1)⟩
            · have hz : a3 = 17 := hz
              subst hz
              have hent : enterTo L hL.seq (xs.map Ch.cg) D = (17, D3) := by rw [HE3.out, HW3.out, andThen, if_neg (by simp)]
              have HE5 := Lib.hid hent
              clear hent HE3 HW3
              go_wp2
              go_ret
              rw [HE5.out]
              exact ⟨rfl, H5.out.1.unsince HR.out.1 hK, (below_touch HR.out.1).trans' H5.out.2.1 (since_or HR.out.1)⟩
      · have hz : a1 = 17 := hz
        subst hz
        have hent : enterTo L hL.seq (xs.map Ch.cg) D = (17, D1) := by
          unfold enterTo
          rw [HW1.out, andThen, if_neg (by simp)]
        have HE5 := Lib.hid hent
        clear hent HW1
        go_wp2
        go_ret
        rw [HE5.out]
        exact ⟨rfl, H2.out.1.unsince HR.out.1 hK, (below_touch HR.out.1).trans' H2.out.2 (since_or HR.out.1)⟩
end
end Go.Proofs.YtclhjpageonkgaaGreat
