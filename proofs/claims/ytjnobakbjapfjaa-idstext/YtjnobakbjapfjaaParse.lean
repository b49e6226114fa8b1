/-
  The id of a text: the contract of ids.Parse.
-/
import Derived.Test.YtjnobakbjapfjaaIdsRefText
namespace Go.Proofs.Ytjnobakbjapfjaa
open Go.RowKit Go.Sort Go.Shelf

theorem results_cell_tmp {P : Program} {fn : Func} {p t : Tmp} {ty : TypeId} (h : fn.results = #[.cell p ty, .tmp t]) (tmps : Array Value) (w : World) (g : Nat) (cs : List Value) (d : TypeDesc)
    (hp : tmps.getD p undef = .pointer (some ⟨g, 0, none⟩)) (hg : w.rangeAt g 0 cs) (hu : P.underlying ty = some d) (hd : d.isRow = true) (hi : (P.info? ty).map (·.size) = some cs.length) :
    (results fn tmps).run P w = .ok (.tuple #[.agg cs.toArray, tmps.getD t undef]) w := by
  have hp' : tmps[p]?.getD undef = .pointer (some ⟨g, 0, none⟩) := by simpa using hp
  simp [results, h, hp', asAddr, run_loadVar_mid w g 0 ty cs d hg hu hd hi]

/-- Where a byte stands among the digits. -/
theorem dig_at : ∀ c : Fin 256, (Lib.indexByte digs (UInt8.ofNat c.val) = -1 ∧ ¬ UInt8.ofNat c.val ∈ digs) ∨ ∃ h : Fin 16, Lib.indexByte digs (UInt8.ofNat c.val) = (h.val : Int) ∧ digs.getD h.val 0 = UInt8.ofNat c.val := by decide +kernel
theorem dig_of (c : UInt8) : (Lib.indexByte digs c = -1 ∧ ¬ c ∈ digs) ∨ ∃ h : Nat, h < 16 ∧ Lib.indexByte digs c = (h : Int) ∧ digs.getD h 0 = c := by
  have h := dig_at ⟨c.toNat, c.toNat_lt⟩
  simp only [UInt8.ofNat_toNat] at h
  exact h.imp id (fun ⟨h, h1, h2⟩ => ⟨h.val, h.isLt, h1, h2⟩)
theorem dig_mem : ∀ k : Fin 16, digs.getD k.val 0 ∈ digs := by decide
/-- What of two digits makes one byte. -/
theorem byte_of : ∀ h l : Fin 16, bits .or .i64 ((h.val : Int) * 16) (l.val : Int) % 256 = ((16 * h.val + l.val : Nat) : Int) := by decide +kernel

theorem textL_get (l : List UInt8) : ∀ (k : Nat) (b : UInt8), l[k]? = some b → (textL l)[2 * k]? = some (digs.getD (b.toNat / 16) 0) ∧ (textL l)[2 * k + 1]? = some (digs.getD (b.toNat % 16) 0) := by
  induction l with
  | nil => intro k b h; simp at h
  | cons a l ih =>
    intro k b h
    have e : textL (a :: l) = dig2 a ++ textL l := by simp [textL]
    cases k with
    | zero =>
      simp at h
      subst h
      rw [e]
      simp [dig2]
    | succ k =>
      have h' : l[k]? = some b := by simpa using h
      obtain ⟨h1, h2⟩ := ih k b h'
      rw [e, show 2 * (k + 1) = (dig2 a).length + 2 * k by simp [dig2]; omega, show (dig2 a).length + 2 * k + 1 = (dig2 a).length + (2 * k + 1) by omega]
      rw [List.getElem?_append_right (by omega), List.getElem?_append_right (by omega), Nat.add_sub_cancel_left, Nat.add_sub_cancel_left]
      exact ⟨h1, h2⟩
/-- A text with another sign than a digit is no id's. -/
theorem no_text (s : List UInt8) (j : Nat) (hj : j < 64) (c : UInt8) (hc : s[j]? = some c) (hn : ¬ c ∈ digs) (z : Id) : textL z.1 ≠ s := by
  intro e
  obtain ⟨b, hb⟩ : ∃ b, z.1[j / 2]? = some b := ⟨_, List.getElem?_eq_getElem (by rw [z.2]; omega)⟩
  have hbl := b.toNat_lt
  obtain ⟨h1, h2⟩ := textL_get z.1 (j / 2) b hb
  rw [e] at h1 h2
  rcases (show 2 * (j / 2) = j ∨ 2 * (j / 2) + 1 = j by omega) with h | h
  · rw [h, hc] at h1
    injection h1 with h1
    rw [h1] at hn
    exact hn (dig_mem ⟨b.toNat / 16, by omega⟩)
  · rw [h, hc] at h2
    injection h2 with h2
    rw [h2] at hn
    exact hn (dig_mem ⟨b.toNat % 16, by omega⟩)

/-- What Parse tells of a text. -/
def Parses (s : List UInt8) (y : Id) (f : Int) : Prop := f = 0 ∧ textL y.1 = s ∨ f = 11 ∧ y = default ∧ ∀ z : Id, textL z.1 ≠ s
def ParsePost (s : List UInt8) (w : World) (e : Ending) (w' : World) : Prop := ∃ (y : Id) (f : Int), e = .returned (.tuple #[.agg (enc y).toArray, .int .i64 f]) ∧ Parses s y f ∧ Below w.heap.size w w'
theorem built_0 : Try.prog.built 23 [] = some (enc default).toArray := by kernel_rfl

/-- Where it stands ahead of round k: two boxes, the second one's first k bytes read. -/
def ParseAt (s : List UInt8) (w wr : World) (k : Nat) : Prop := ∃ y : Id, Box wr w.heap.size 23 (enc default).toArray ∧ Box wr (w.heap.size + 1) 23 (enc y).toArray ∧ Below w.heap.size w wr ∧ textL (y.1.take k) = s.take (2 * k)

theorem ParseAt.drewN {s : List UInt8} {w wr : World} {k : Nat} (h : ParseAt s w wr k) (q : Nat) : ParseAt s w (wr.drewN q) k := by
  obtain ⟨y, h1, h2, h3, h4⟩ := h
  exact ⟨y, h1, h2, h3.trans (below_drewN_w _ _ _), h4⟩

set_option maxRecDepth 100000 in
set_option maxHeartbeats 2000000 in
theorem parse_says (s : List UInt8) (_hs : s.length ≤ 1000) (w : World) : Calls Try.prog 8 #[.string ⟨s.toArray⟩] w (ParsePost s w) := by
  have hz := (zero_of_info idZero).1
  have hza := enc_size (default : Id)
  have hb0 := built_0
  obtain ⟨zi, hzi⟩ : ∃ z : Id, z = default := ⟨_, rfl⟩
  rw [← hzi] at hz hza hb0
  have HB := Lib.hid hb0
  have HZ := Lib.hid hzi
  clear hb0 hzi
  have hsz : (⟨s.toArray⟩ : ByteArray).size = s.length := str_size s
  go_enter Try.func8, Try.ntmps8
  by_cases h64 : s.length = 64
  · have h64' : (s.length : Int) = 64 := by omega
    go_wp2_with fail
    have H0 : Hid (ParseAt s w ((w.alloc (Obj.cells (enc zi).toArray 23)).alloc (Obj.cells (enc zi).toArray 23)) 0) := Lib.hid ⟨zi, by rw [← HZ.out]; exact (Box.made w _ _).alloc _, box2 w zi zi, ((Below.refl w.heap.size w).alloc (Nat.le_refl _) _).alloc (by simp) _, by simp [textL]⟩
    generalize (w.alloc (Obj.cells (enc zi).toArray 23)).alloc (Obj.cells (enc zi).toArray 23) = w1 at H0 ⊢
    go_loopw [5, 6, 7, 12] (fun _ _ _ v wr => ∃ k : Nat, v = .int .i64 (k : Int) ∧ k ≤ 32 ∧ Hid (ParseAt s w wr k)) (fun _ _ _ v _ => 32 - (Lib.intOf v).toNat)
    case atStart => exact ⟨0, rfl, by omega, H0⟩
    case round =>
      obtain ⟨k, rfl, hk, H⟩ := hrel
      by_cases hlt : k < 32
      · have l1 : (k : Int) < 32 := by omega
        obtain ⟨j, hj⟩ : ∃ j, 2 * k = j := ⟨_, rfl⟩
        obtain ⟨j1, hj1⟩ : ∃ j1, j + 1 = j1 := ⟨_, rfl⟩
        obtain ⟨c1, hc1⟩ : ∃ c, s[j]? = some c := ⟨_, List.getElem?_eq_getElem (by omega)⟩
        obtain ⟨c2, hc2⟩ : ∃ c, s[j1]? = some c := ⟨_, List.getElem?_eq_getElem (by omega)⟩
        have e1 : IntKind.i64.wrap (2 * (k : Int)) = (j : Int) := by rw [IntWalk.i64_in _ (by omega)]; omega
        have e2 : IntKind.i64.wrap ((j : Int) + 1) = (j1 : Int) := by rw [IntWalk.i64_in _ (by omega)]; omega
        have HI := Lib.hid (And.intro (fun w => index_str s j c1 hc1 .i64 w) (fun w => index_str s j1 c2 hc2 .i64 w))
        obtain ⟨i1, hi1⟩ : ∃ i, Lib.indexByte digs c1 = i := ⟨_, rfl⟩
        obtain ⟨i2, hi2⟩ : ∃ i, Lib.indexByte digs c2 = i := ⟨_, rfl⟩
        have hf1 : ∀ q, Calls Try.prog 26 #[.string ⟨#[48, 49, 50, 51, 52, 53, 54, 55, 56, 57, 97, 98, 99, 100, 101, 102]⟩, .int .u8 (c1.toNat : Int)] (wr.drewN q) fun e w' => e = .returned (.int .i64 i1) ∧ ∃ m, w' = wr.drewN m := fun q => by
          have h := Try.strings_IndexByte ⟨#[48, 49, 50, 51, 52, 53, 54, 55, 56, 57, 97, 98, 99, 100, 101, 102]⟩ (c1.toNat : Int) (wr.drewN q)
          rw [Int.toNat_natCast, show c1.toNat.toUInt8 = c1 from UInt8.ofNat_toNat] at h
          rw [← hi1]
          exact h.mono fun _ _ hh => ⟨hh.1, q, hh.2⟩
        have hf2 : ∀ q, Calls Try.prog 26 #[.string ⟨#[48, 49, 50, 51, 52, 53, 54, 55, 56, 57, 97, 98, 99, 100, 101, 102]⟩, .int .u8 (c2.toNat : Int)] (wr.drewN q) fun e w' => e = .returned (.int .i64 i2) ∧ ∃ m, w' = wr.drewN m := fun q => by
          have h := Try.strings_IndexByte ⟨#[48, 49, 50, 51, 52, 53, 54, 55, 56, 57, 97, 98, 99, 100, 101, 102]⟩ (c2.toNat : Int) (wr.drewN q)
          rw [Int.toNat_natCast, show c2.toNat.toUInt8 = c2 from UInt8.ofNat_toNat] at h
          rw [← hi2]
          exact h.mono fun _ _ hh => ⟨hh.1, q, hh.2⟩
        have D1 := Lib.hid (dig_of c1)
        have D2 := Lib.hid (dig_of c2)
        rw [hi1] at D1
        rw [hi2] at D2
        have HJ := Lib.hid (And.intro hj hj1)
        have HC := Lib.hid (And.intro hc1 hc2)
        clear hi1 hi2 hj hj1 hc1 hc2
        go_wp2_with fail
        refine wp_region_quiet_lit (by kernel_rfl) (by kernel_rfl) ?_
        repeat (first
          | (refine wpQuiet_val (by rfl) (.int .u8 (c1.toNat : Int)) (fun w => ?_) ?_; · (refine exec_index 9 _ _ rfl _ _ _ rfl rfl w ?_; exact HI.out.1 w))
          | (refine wpQuiet_val (by rfl) (.int .u8 (c2.toNat : Int)) (fun w => ?_) ?_; · (refine exec_index 9 _ _ rfl _ _ _ rfl rfl w ?_; exact HI.out.2 w))
          | quiet_step (first | (go_at_call 26; exact hf1 _) | (go_at_call 26; exact hf2 _)))
        refine wpQuiet_nil ?_
        rintro w2 ⟨nq, rfl⟩
        clear hf1 hf2
        have H2 := Lib.hid (H.out.drewN nq)
        generalize wr.drewN nq = w2 at H2 ⊢
        clear H
        have hbad : ∀ c, c = c1 ∨ c = c2 → ¬ c ∈ digs → ∀ z : Id, textL z.1 ≠ s := fun c hc hn z => by
          rcases hc with rfl | rfl
          · exact no_text s j (by have := HJ.out.1; omega) _ HC.out.1 hn z
          · exact no_text s j1 (by have := HJ.out.1; have := HJ.out.2; omega) _ HC.out.2 hn z
        have HBAD := Lib.hid hbad
        clear hbad
        obtain ⟨y, hy1, hy2, hy3, hy4⟩ := H2.out
        have HY1 := Lib.hid hy1
        have HY2 := Lib.hid hy2
        have HY3 := Lib.hid hy3
        have HY4 := Lib.hid hy4
        have HYL := Lib.hid (Box.lt hy1)
        clear hy1 hy2 hy3 hy4 H2
        rw [← HZ.out] at HY1
        rcases D1.out with ⟨rfl, hn1⟩ | ⟨h1, hh1, rfl, hd1⟩
        · have HN := Lib.hid hn1
          clear hn1
          go_wp2_with (first
            | (refine wpList_build_to rfl 23 _ rfl (enc zi).toArray (by go_simp; with_reducible exact HB.out) ?_)
            | (refine wpList_store_box rfl _ _ rfl w.heap.size zi zi rfl rfl HY1.out ?_; intro w3 hb3 hg3; have HB3 := Lib.hid hb3; have HG3 := Lib.hid hg3; clear hb3 hg3))
          refine bodyPost_ret (results_cell_tmp (P := Try.prog) (p := 2) (t := 3) (ty := 23) Try.results8 _ _ w.heap.size (enc zi) _ rfl (box_range HB3.out) Try.underlying23 rfl (infoId _)) rfl ⟨zi, 11, rfl, .inr ⟨rfl, HZ.out, HBAD.out c1 (.inl rfl) HN.out⟩, ?_⟩
          exact below_grown HY3.out HG3.out (Nat.le_refl _) (Nat.le_of_lt HYL.out)
        · rcases D2.out with ⟨rfl, hn2⟩ | ⟨h2, hh2, rfl, hd2⟩
          · have HN := Lib.hid hn2
            clear hn2
            go_wp2_with (first
              | (refine wpList_build_to rfl 23 _ rfl (enc zi).toArray (by go_simp; with_reducible exact HB.out) ?_)
              | (refine wpList_store_box rfl _ _ rfl w.heap.size zi zi rfl rfl HY1.out ?_; intro w3 hb3 hg3; have HB3 := Lib.hid hb3; have HG3 := Lib.hid hg3; clear hb3 hg3))
            refine bodyPost_ret (results_cell_tmp (P := Try.prog) (p := 2) (t := 3) (ty := 23) Try.results8 _ _ w.heap.size (enc zi) _ rfl (box_range HB3.out) Try.underlying23 rfl (infoId _)) rfl ⟨zi, 11, rfl, .inr ⟨rfl, HZ.out, HBAD.out c2 (.inr rfl) HN.out⟩, ?_⟩
            exact below_grown HY3.out HG3.out (Nat.le_refl _) (Nat.le_of_lt HYL.out)
          · have HD := Lib.hid (And.intro hd1 hd2)
            clear hd1 hd2
            have n1 : ¬ (h1 : Int) < 0 := by omega
            have n2 : ¬ (h2 : Int) < 0 := by omega
            obtain ⟨b, hb⟩ : ∃ b : UInt8, b.toNat = 16 * h1 + h2 := ⟨UInt8.ofNat (16 * h1 + h2), by rw [UInt8.toNat_ofNat']; omega⟩
            have e5 : bits .or .i64 ((h1 : Int) * 16) (h2 : Int) % 256 = (b.toNat : Int) := by rw [hb]; exact byte_of ⟨h1, hh1⟩ ⟨h2, hh2⟩
            obtain ⟨yb, hyb⟩ : ∃ b, y.1[k]? = some b := ⟨_, List.getElem?_eq_getElem (by rw [y.2]; exact hlt)⟩
            have cc := byte_cell HY2.out hyb
            have cf := Box.frozen HY2.out k
            have HNB := Lib.hid hb
            clear hb hyb
            go_wp2
            go_roundw
            case rel =>
              refine ⟨k + 1, by go_num, by omega, Lib.hid ⟨⟨y.1.set k b, by rw [List.length_set]; exact y.2⟩, ?_, ?_, ?_, ?_⟩⟩
              · rw [← HZ.out]
                exact (Below.heap_setCell w2 _ _ _ (by simp)).trans HY1.out
              · have := HY2.out.put k (.int .u8 (b.toNat : Int))
                have e : (enc y).toArray.setIfInBounds k (.int .u8 (b.toNat : Int)) = (enc ⟨y.1.set k b, by rw [List.length_set]; exact y.2⟩).toArray := by
                  simp [enc, bc, List.map_set]
                rw [e] at this
                exact this
              · exact below_grown HY3.out (grown_set (grown_refl w2 (some (w.heap.size + 1))) k _) (by omega) (Nat.le_of_lt HYL.out)
              · have hj := HJ.out.1
                have hj1 := HJ.out.2
                have hdg : dig2 b = [c1, c2] := by rw [dig2, HNB.out, show (16 * h1 + h2) / 16 = h1 by omega, show (16 * h1 + h2) % 16 = h2 by omega, HD.out.1, HD.out.2]
                have ht1 : (y.1.set k b).take (k + 1) = y.1.take k ++ [b] := by
                  rw [List.take_add_one, List.take_set_of_le (Nat.le_refl _), List.getElem?_set_self (by rw [y.2]; exact hlt)]
                  rfl
                rw [ht1, textL_append, HY4.out, show 2 * (k + 1) = 2 * k + 1 + 1 by omega, List.take_add_one, List.take_add_one, hj, HC.out.1, hj1, HC.out.2]
                simp [textL, hdg]
            case measure => simp [Lib.intOf]; omega
      · obtain rfl : k = 32 := by omega
        obtain ⟨y, hy1, hy2, hy3, hy4⟩ := H.out
        have HY1 := Lib.hid hy1
        have HY2 := Lib.hid hy2
        have HY3 := Lib.hid hy3
        have HYL := Lib.hid (Box.lt hy1)
        rw [List.take_of_length_le (by rw [y.2]; exact Nat.le_refl _), List.take_of_length_le (by omega)] at hy4
        have HY4 := Lib.hid hy4
        clear hy1 hy2 hy3 hy4 H
        go_wp2_with (first
          | (refine wpList_load_mid rfl 23 _ rfl (w.heap.size + 1) 0 rfl (enc y) _ (box_range HY2.out) Try.underlying23 rfl (infoId _) ?_)
          | (refine wpList_store_box rfl _ _ rfl w.heap.size y default rfl rfl HY1.out ?_; intro w3 hb3 hg3; have HB3 := Lib.hid hb3; have HG3 := Lib.hid hg3; clear hb3 hg3))
        refine bodyPost_ret (results_cell_tmp (P := Try.prog) (p := 2) (t := 3) (ty := 23) Try.results8 _ _ w.heap.size (enc y) _ rfl (box_range HB3.out) Try.underlying23 rfl (infoId _)) rfl ⟨y, 0, rfl, .inl ⟨rfl, HY4.out⟩, ?_⟩
        exact below_grown HY3.out HG3.out (Nat.le_refl _) (Nat.le_of_lt HYL.out)
  · have h64' : ¬ (s.length : Int) = 64 := by omega
    go_wp2_with (first
      | (refine wpList_build_to rfl 23 _ rfl (enc zi).toArray (by go_simp; with_reducible exact HB.out) ?_)
      | (refine wpList_store_box rfl _ _ rfl w.heap.size zi zi rfl rfl ((Box.made w _ _).alloc _) ?_; intro w2 hb2 hg2; have HB2 := Lib.hid hb2; have HG2 := Lib.hid hg2; clear hb2 hg2))
    refine bodyPost_ret (results_cell_tmp (P := Try.prog) (p := 2) (t := 3) (ty := 23) Try.results8 _ _ w.heap.size (enc zi) _ rfl (box_range HB2.out) Try.underlying23 rfl (infoId _)) rfl ⟨zi, 11, rfl, .inr ⟨rfl, HZ.out, fun z e => h64 (by rw [← e, textL_length, z.2])⟩, ?_⟩
    exact below_grown (((Below.refl w.heap.size w).alloc (Nat.le_refl _) _).alloc (by simp) _) HG2.out (Nat.le_refl _) (by simp; omega)
end Go.Proofs.Ytjnobakbjapfjaa
