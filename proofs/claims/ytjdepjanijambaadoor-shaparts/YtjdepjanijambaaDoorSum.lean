/-
  The contract of Sum: the sum of all bytes that were taken in.
-/
import Derived.Test.YtjdepjanijambaaDoorEnding
namespace Go.Proofs.YtjdepjanijambaaDoor
open Go.RowKit

def wordAt (s : S8) (k : Nat) : Nat := s.list.getD k 0
/-- Byte i of a state that is told as 32 bytes. -/
def sumB (s : S8) (i : Nat) : Nat := wordAt s (i / 4) / 2 ^ (24 - 8 * (i % 4)) % 256
/-- The sum of bytes. -/
def shaS (l : List UInt8) : S8 := stateN (l ++ pad l.length) ((l ++ pad l.length).length / 64)
def sum32 (l : List UInt8) : Array Value := (u8s (sumB (shaS l)) 32).toArray
/-- The first words are laid. -/
def outK (s : S8) (k i : Nat) : Nat := if i < 4 * k then sumB s i else 0

theorem index_w0 (s : S8) (w : World) : (Instr.index 25 (.agg (s8s s).toArray) (.int .i64 0)).run Tryd.prog w = .ok (.int .u32 (s.a : Int)) w := by kernel_rfl
theorem index_w1 (s : S8) (w : World) : (Instr.index 25 (.agg (s8s s).toArray) (.int .i64 1)).run Tryd.prog w = .ok (.int .u32 (s.b : Int)) w := by kernel_rfl
theorem index_w2 (s : S8) (w : World) : (Instr.index 25 (.agg (s8s s).toArray) (.int .i64 2)).run Tryd.prog w = .ok (.int .u32 (s.c : Int)) w := by kernel_rfl
theorem index_w3 (s : S8) (w : World) : (Instr.index 25 (.agg (s8s s).toArray) (.int .i64 3)).run Tryd.prog w = .ok (.int .u32 (s.d : Int)) w := by kernel_rfl
theorem index_w4 (s : S8) (w : World) : (Instr.index 25 (.agg (s8s s).toArray) (.int .i64 4)).run Tryd.prog w = .ok (.int .u32 (s.e : Int)) w := by kernel_rfl
theorem index_w5 (s : S8) (w : World) : (Instr.index 25 (.agg (s8s s).toArray) (.int .i64 5)).run Tryd.prog w = .ok (.int .u32 (s.f : Int)) w := by kernel_rfl
theorem index_w6 (s : S8) (w : World) : (Instr.index 25 (.agg (s8s s).toArray) (.int .i64 6)).run Tryd.prog w = .ok (.int .u32 (s.g : Int)) w := by kernel_rfl
theorem index_w7 (s : S8) (w : World) : (Instr.index 25 (.agg (s8s s).toArray) (.int .i64 7)).run Tryd.prog w = .ok (.int .u32 (s.h : Int)) w := by kernel_rfl
theorem index_word (s : S8) (k : Nat) (h : k < 8) (w : World) : (Instr.index 25 (.agg (s8s s).toArray) (.int .i64 (k : Int))).run Tryd.prog w = .ok (.int .u32 (wordAt s k : Int)) w := by
  have hc : k = 0 ∨ k = 1 ∨ k = 2 ∨ k = 3 ∨ k = 4 ∨ k = 5 ∨ k = 6 ∨ k = 7 := by omega
  rcases hc with rfl | rfl | rfl | rfl | rfl | rfl | rfl | rfl
  · exact index_w0 s w
  · exact index_w1 s w
  · exact index_w2 s w
  · exact index_w3 s w
  · exact index_w4 s w
  · exact index_w5 s w
  · exact index_w6 s w
  · exact index_w7 s w
theorem zeros32 : (u8s noughts 32).toArray = #[.int .u8 0, .int .u8 0, .int .u8 0, .int .u8 0, .int .u8 0, .int .u8 0, .int .u8 0, .int .u8 0, .int .u8 0, .int .u8 0, .int .u8 0, .int .u8 0, .int .u8 0, .int .u8 0, .int .u8 0, .int .u8 0, .int .u8 0, .int .u8 0, .int .u8 0, .int .u8 0, .int .u8 0, .int .u8 0, .int .u8 0, .int .u8 0, .int .u8 0, .int .u8 0, .int .u8 0, .int .u8 0, .int .u8 0, .int .u8 0, .int .u8 0, .int .u8 0] := rfl
theorem u8s_congr {B B' : Nat → Nat} {n : Nat} (h : ∀ i, i < n → B i = B' i) : u8s B n = u8s B' n := by
  unfold u8s
  apply List.map_congr_left
  intro i hi
  rw [h i (by simpa using hi)]
theorem u8s_put (B : Nat → Nat) (n i x : Nat) : (u8s B n).toArray.setIfInBounds i (.int .u8 (x : Int)) = (u8s (fun j => if j = i then x else B j) n).toArray := by
  apply Array.ext_getElem?
  intro j
  rw [Array.getElem?_setIfInBounds]
  by_cases hj : j < n
  · rw [u8s_get _ n j hj, u8s_get _ n j hj]
    by_cases e : i = j
    · subst e
      simp [u8s_length, hj]
    · rw [if_neg e, if_neg (fun h => e h.symm)]
  · have h1 : ¬ j < (u8s B n).toArray.size := by simp [u8s_length]; omega
    have h2 : ¬ j < (u8s (fun j => if j = i then x else B j) n).toArray.size := by simp [u8s_length]; omega
    rw [Array.getElem?_eq_none (by omega : (u8s (fun j => if j = i then x else B j) n).toArray.size ≤ j)]
    by_cases e : i = j
    · subst e
      simp [u8s_length]
      omega
    · rw [if_neg e, Array.getElem?_eq_none (by omega)]
theorem out_next (s : S8) (k x0 x1 x2 x3 : Nat) (h0 : x0 = wordAt s k / 16777216 % 256) (h1 : x1 = wordAt s k / 65536 % 256) (h2 : x2 = wordAt s k / 256 % 256) (h3 : x3 = wordAt s k % 256) :
    ((((u8s (outK s k) 32).toArray.setIfInBounds (4 * k) (.int .u8 (x0 : Int))).setIfInBounds (4 * k + 1) (.int .u8 (x1 : Int))).setIfInBounds (4 * k + 2) (.int .u8 (x2 : Int))).setIfInBounds (4 * k + 3) (.int .u8 (x3 : Int)) = (u8s (outK s (k + 1)) 32).toArray := by
  rw [u8s_put, u8s_put, u8s_put, u8s_put]
  congr 1
  apply u8s_congr
  intro i hi
  unfold outK sumB
  by_cases e3 : i = 4 * k + 3
  · subst e3
    rw [if_pos rfl, if_pos (by omega), show (4 * k + 3) / 4 = k by omega, show (4 * k + 3) % 4 = 3 by omega, h3]
    simp
  · rw [if_neg e3]
    by_cases e2 : i = 4 * k + 2
    · subst e2
      rw [if_pos rfl, if_pos (by omega), show (4 * k + 2) / 4 = k by omega, show (4 * k + 2) % 4 = 2 by omega, h2]
    · rw [if_neg e2]
      by_cases e1 : i = 4 * k + 1
      · subst e1
        rw [if_pos rfl, if_pos (by omega), show (4 * k + 1) / 4 = k by omega, show (4 * k + 1) % 4 = 1 by omega, h1]
      · rw [if_neg e1]
        by_cases e0 : i = 4 * k
        · subst e0
          rw [if_pos rfl, if_pos (by omega), show (4 * k) / 4 = k by omega, show (4 * k) % 4 = 0 by omega, h0]
        · rw [if_neg e0]
          by_cases hl : i < 4 * k
          · rw [if_pos hl, if_pos (by omega)]
          · rw [if_neg hl, if_neg (by omega)]
theorem infoSum : (Tryd.prog.info? 41).map (·.size) = some 32 := by kernel_rfl
theorem infoSums (B : Nat → Nat) : (Tryd.prog.info? 41).map (·.size) = some (u8s B 32).toArray.size := by
  rw [List.size_toArray, u8s_length]
  exact infoSum
theorem out_start (s : S8) : u8s (outK s 0) 32 = u8s noughts 32 := u8s_congr fun i _ => by rw [outK, if_neg (by omega), noughts]
theorem out_end (s : S8) : u8s (outK s 8) 32 = u8s (sumB s) 32 := u8s_congr fun i hi => by rw [outK, if_pos (by omega)]

def SumPost (w : World) (l : List UInt8) (r : Ending) (w' : World) : Prop := r = .returned (.agg (sum32 l)) ∧ Below w.heap.size w w'

theorem pad_length (n : Nat) : (pad n).length = padZ n + 9 := by simp [pad, low_length]
theorem pad_lies {w : World} {g b : Nat} {n : Nat} (h : Box w b 5 (bc (pad n)).toArray) (hne : b ≠ g) : Lies w (· ≠ g) (some ⟨b, 0, none⟩) (pad n).length (pad n).length (bc (pad n)) := by
  refine ⟨bc_length _, Nat.le_refl _, fun _ => ⟨_, rfl, hne, h.lt, fun j u hu => ?_⟩⟩
  rw [Addr.add_mid, h.cell, List.getElem?_toArray, Nat.zero_add]
  exact hu

theorem hash_range8' {w : World} {g : Nat} {l : List UInt8} (h : Hsh w g l) : w.rangeAt g 1 (s8s (stateN l (l.length / 64))) := by
  obtain ⟨B, hb, _⟩ := h
  exact hash_range8 hb

/-- While the words are told as bytes, in block o. -/
def SumRel (s : S8) (w : World) (o k : Nat) (wr : World) : Prop := Box wr o 41 (u8s (outK s k) 32).toArray ∧ Box wr w.heap.size 41 (u8s noughts 32).toArray ∧ Below w.heap.size w wr

theorem sum_next {s : S8} {w wr : World} {o k : Nat} (h : SumRel s w o k wr) (ho : w.heap.size < o) :
    SumRel s w o (k + 1) ((((wr.setCell { block := o, off := 4 * k } (Value.int IntKind.u8 ((wordAt s k : Int) / 16777216 % 256))).setCell { block := o, off := 4 * k + 1 } (Value.int IntKind.u8 ((wordAt s k : Int) / 65536 % 256))).setCell
      { block := o, off := 4 * k + 2 } (Value.int IntKind.u8 ((wordAt s k : Int) / 256 % 256))).setCell { block := o, off := 4 * k + 3 } (Value.int IntKind.u8 ((wordAt s k : Int) % 256))) := by
  obtain ⟨h1, h2, h3⟩ := h
  have e0 : (wordAt s k : Int) / 16777216 % 256 = ((wordAt s k / 16777216 % 256 : Nat) : Int) := by omega
  have e1 : (wordAt s k : Int) / 65536 % 256 = ((wordAt s k / 65536 % 256 : Nat) : Int) := by omega
  have e2 : (wordAt s k : Int) / 256 % 256 = ((wordAt s k / 256 % 256 : Nat) : Int) := by omega
  have e3 : (wordAt s k : Int) % 256 = ((wordAt s k % 256 : Nat) : Int) := by omega
  rw [e0, e1, e2, e3]
  refine ⟨?_, (((h2.other _ _ (by show w.heap.size ≠ o; omega)).other _ _ (by show w.heap.size ≠ o; omega)).other _ _ (by show w.heap.size ≠ o; omega)).other _ _ (by show w.heap.size ≠ o; omega), (((h3.setCell (by show w.heap.size ≤ o; omega) _).setCell (by show w.heap.size ≤ o; omega) _).setCell (by show w.heap.size ≤ o; omega) _).setCell (by show w.heap.size ≤ o; omega) _⟩
  rw [← out_next s k _ _ _ _ rfl rfl rfl rfl]
  exact (((h1.put _ _).put _ _).put _ _).put _ _

set_option maxRecDepth 100000 in
set_option maxHeartbeats 1000000 in
theorem sum_made (g : Nat) (l : List UInt8) (w : World) (h : Hsh w g l) (ht : Tabs w) (hl : l.length < 576460752303423488) : Calls Tryd.prog 16 #[.pointer (some ⟨g, 0, none⟩)] w (SumPost w l) := by
  have h0 := h.made
  have h1 := h.count
  have hgl := h.lt
  have hbt := ht.two
  have HH := Lib.hid h
  have HT := Lib.hid ht
  clear h ht
  go_enter Tryd.func16, Tryd.ntmps16
  go_wp2_with fail
  rw [← zeros32]
  have HHa := Lib.hid (HH.out.below (below1 w (.cells (u8s noughts 32).toArray 41)))
  have HTa := Lib.hid (HT.out.below (below1 w (.cells (u8s noughts 32).toArray 41)) hbt)
  have HRa := Lib.hid (Box.made w 41 (u8s noughts 32).toArray)
  have HBa := Lib.hid (below1 w (.cells (u8s noughts 32).toArray 41))
  have hza : (w.alloc (.cells (u8s noughts 32).toArray 41)).heap.size = w.heap.size + 1 := by simp
  generalize w.alloc (.cells (u8s noughts 32).toArray 41) = wa at HHa HTa HRa HBa hza ⊢
  have HZA := Lib.hid hza
  clear h0 h1 HH HT hza
  refine (there_made g _ HHa.out.made).mono ?_
  rintro e w' ⟨rfl, rfl⟩
  go_wp2_with fail
  refine (clone_made g l wa HHa.out).mono ?_
  rintro e w1 ⟨rfl, hc1, hb1⟩
  rw [HZA.out] at hc1 hb1 ⊢
  have HC1 := Lib.hid hc1
  have HB1 := Lib.hid hb1
  have h1 := (HHa.out.below (by rw [HZA.out]; exact hb1)).count
  clear hc1 hb1
  go_wp2_with fail
  refine (ending_any l.length w1 (by omega)).mono ?_
  rintro e w2 ⟨rfl, hx2, hb2⟩
  have HX2 := Lib.hid hx2
  have HB2 := Lib.hid hb2
  clear hx2 hb2 h1
  go_wp2_with fail
  have hz1 := HB1.out.size
  rw [HZA.out] at hz1
  have hz2 := HB2.out.size
  have HTW := Lib.hid ((HTa.out.below HB1.out (by omega)).below HB2.out (by omega))
  refine (take_any (w.heap.size + 1) l (pad l.length) _ _ _ w2 (HC1.out.below HB2.out) (pad_lies HX2.out (by have := HC1.out.lt; omega)) HTW.out (by omega) (by rw [pad_length]; unfold padZ; omega)).mono ?_
  rintro e w3 ⟨rfl, hh3, hg3⟩
  have HH3 := Lib.hid hh3
  have HB3 := Lib.hid (below_grown (((HBa.out.trans (HB1.out.mono (by omega))).trans (HB2.out.mono (by omega)))) hg3 (by omega) (by omega))
  have HR3 := Lib.hid ((((HRa.out.below HB1.out (by omega)).below HB2.out (by omega)).grown hg3 (by intro e; injection e with e; omega)))
  have hz3 := hg3.size
  clear hh3 hg3 HX2 HTa HC1 HHa HRa HBa HZA HB1 HB2 HTW
  go_wp2_with (refine wpList_load_mid rfl 25 _ rfl (w.heap.size + 1) 1 rfl (s8s (shaS l)) _ (hash_range8' (HH3.out.below (below1 w3 _))) Tryd.underlying25 rfl (info8s _) ?_)
  rw [← zeros32]
  have HLP := Lib.hid (show SumRel (shaS l) w w3.heap.size 0 (w3.alloc (.cells (u8s noughts 32).toArray 41)) from ⟨by rw [out_start]; exact Box.made _ _ _, HR3.out.alloc _, HB3.out.alloc (by omega) _⟩)
  have ho : w.heap.size < w3.heap.size := by omega
  generalize w3.heap.size = o at HLP ho ⊢
  generalize w3.alloc (.cells (u8s noughts 32).toArray 41) = w4 at HLP ⊢
  clear HH3 HB3 HR3 hz1 hz2 hz3
  obtain ⟨s, hs⟩ : ∃ s, s = shaS l := ⟨_, rfl⟩
  rw [← hs] at HLP ⊢
  have HS := Lib.hid hs
  clear hs
  go_loopw [24] (fun i wr => ∃ k : Nat, k ≤ 8 ∧ i = .int .i64 (k : Int) ∧ SumRel s w o k wr) (fun i _ => 8 - (intOf i).toNat)
  case atStart => exact ⟨0, by omega, rfl, HLP.out⟩
  case round =>
    clear HLP
    obtain ⟨k, hk, rfl, hr⟩ := hrel
    by_cases hlt : k < 8
    · have HR := Lib.hid hr
      obtain ⟨hbo, _, _⟩ := hr
      have hix := fun wq => index_word s k hlt wq
      have c0 := (hbo.cell (4 * k)).trans (u8s_get (outK s k) 32 (4 * k) (by omega))
      have c1 := (hbo.cell (4 * k + 1)).trans (u8s_get (outK s k) 32 (4 * k + 1) (by omega))
      have c2 := (hbo.cell (4 * k + 2)).trans (u8s_get (outK s k) 32 (4 * k + 2) (by omega))
      have c3 := (hbo.cell (4 * k + 3)).trans (u8s_get (outK s k) 32 (4 * k + 3) (by omega))
      have f0 := hbo.frozen (4 * k)
      have f1 := hbo.frozen (4 * k + 1)
      have f2 := hbo.frozen (4 * k + 2)
      have f3 := hbo.frozen (4 * k + 3)
      clear hbo
      have l0 : 4 * (k : Int) < 32 := by omega
      have l1 : 4 * (k : Int) + 1 < 32 := by omega
      have l2 : 4 * (k : Int) + 2 < 32 := by omega
      have l3 : 4 * (k : Int) + 3 < 32 := by omega
      have p0 : 0 ≤ 4 * (k : Int) := by omega
      have p1 : 0 ≤ 4 * (k : Int) + 1 := by omega
      have p2 : 0 ≤ 4 * (k : Int) + 2 := by omega
      have p3 : 0 ≤ 4 * (k : Int) + 3 := by omega
      have q0 : (4 * (k : Int)).toNat = 4 * k := by omega
      have q1 : (4 * (k : Int) + 1).toNat = 4 * k + 1 := by omega
      have q2 : (4 * (k : Int) + 2).toNat = 4 * k + 2 := by omega
      have q3 : (4 * (k : Int) + 3).toNat = 4 * k + 3 := by omega
      go_wp2
      go_roundw
      case rel =>
        exact ⟨k + 1, by omega, by go_num, sum_next HR.out ho⟩
      case measure => simp [intOf]; omega
    · obtain rfl : k = 8 := by omega
      have HR := Lib.hid hr
      clear hr
      go_wp2_with (first | (refine wpList_load_row rfl 41 _ rfl o rfl 41 _ (0, 0) _ HR.out.1 Tryd.underlying41 rfl (infoSums _) ?_) | (refine wpList_store_row rfl 41 _ _ rfl w.heap.size (u8s (outK s 8) 32).toArray rfl rfl 41 _ HR.out.2.1 (infoSums _) (by simp [u8s_length]) (u8s_one _ _) ?_))
      rw [out_end]
      refine bodyPost_ret (v := .agg (sum32 l)) (results_cell_row (P := Tryd.prog) (p := 2) (ty := 41) Tryd.results16 _ _ w.heap.size 41 _ (0, 0) _ rfl ?_ Tryd.underlying41 rfl (infoSums _)) rfl ⟨rfl, ?_⟩
      · have e : sum32 l = (u8s (sumB s) 32).toArray := by rw [HS.out]; rfl
        rw [e]
        exact setRow_heap _ _ _ _ _ _ HR.out.2.1
      · exact below_setRow HR.out.2.2 (Nat.le_refl _) _
end Go.Proofs.YtjdepjanijambaaDoor
