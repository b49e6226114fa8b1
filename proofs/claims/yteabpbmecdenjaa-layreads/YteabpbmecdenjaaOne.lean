/-
  The law's small play that is known: it answers true.
-/
import Derived.Test.YteabpbmecdenjaaPutNums
import Derived.Test.YteabpbmecdenjaaText
namespace Go.Proofs.Yteabpbmecdenjaa
open Go.RowKit

theorem strOf_bytes (l : List UInt8) : strOfNums (l.map fun b => (b.toNat : Int)) = ⟨l.toArray⟩ := by
  unfold strOfNums
  congr 1
  rw [List.map_map]
  congr 1
  conv => rhs; rw [← List.map_id l]
  apply List.map_congr_left
  intro b _
  simp

/-- A slice of bytes, as a text. -/
theorem conv_sl {w : World} {B : Nat} {V : Value} {l : List UInt8} (h : Sl w B V (bc l)) : (convert 22 9 V).run Try.prog w = .ok (.string ⟨l.toArray⟩) w := by
  rcases h with ⟨rfl, hl⟩ | ⟨ad, c, rfl, hc⟩
  · have : l = [] := by
      cases l with
      | nil => rfl
      | cons => simp [bc] at hl
    subst this
    exact run_convert_bytes_nil w 22 5 Try.underlying22 Try.underlying5 0 0 9 Try.underlying9
  · have hm : bc l = (l.map fun b => (b.toNat : Int)).map (Value.int .u8) := by simp [bc]
    have hld : (loadCells ad (bc l).length).run Try.prog w = .ok ((l.map fun b => (b.toNat : Int)).map (Value.int .u8)).toArray w := by
      rw [← hm]
      exact run_loadCells_list (P := Try.prog) w ad (bc l) (fun j u hu => (hc j u hu).2)
    rw [run_convert_bytes_string w 22 9 5 _ _ c Try.underlying22 Try.underlying5 Try.underlying9, run_bytesToString w _ _ c _ hld, foldl_push_bytes, ← strOf_bytes l]
    simp [strOfNums, ByteArray.empty, ByteArray.emptyWithCapacity]
    rfl

theorem sl_new (w : World) (x : Value) (t : TypeId) : Sl (w.alloc (.cells #[x] t)) (w.alloc (.cells #[x] t)).heap.size (.slice (some ⟨w.heap.size, 0, none⟩) 1 1) [x] :=
  .inr ⟨⟨w.heap.size, 0, none⟩, 1, rfl, fun j u hu => ⟨by simp, cell_one_new w x t j u hu⟩⟩

theorem one_num : encNums [258] = [2, 1, 2] := by decide +kernel
theorem one_text : encTexts [⟨#[97]⟩] = [1, 1, 97] := by decide +kernel
theorem one_q1 : stNum ([2, 1, 2, 1, 1, 97], 0) = ([1, 1, 97], 0) ∧ stNumV ([2, 1, 2, 1, 1, 97], 0) = 258 := by decide +kernel
theorem one_q2 : stText 5 ([1, 1, 97], 0) = ([], 0) ∧ stTextV 5 ([1, 1, 97], 0) = [97] := by decide +kernel
theorem one_q3 : stEnd ([], 0) = 0 := by decide +kernel

theorem one_any (w : World) : Calls Try.prog 12 #[] w fun r w' => r = .returned (.bool true) ∧ Below w.heap.size w w' := by
  go_enter Try.func12, Try.ntmps12
  go_wp2_with fail
  refine (read_any _ w).mono ?_
  rintro r w1 ⟨rfl, hw1⟩
  have hr1 : Rds w1 w.heap.size ([2, 1, 2, 1, 1, 97], 0) := by rw [← hw1]; exact Box.made w _ _
  have hb1 : Below w.heap.size w w1 := by rw [← hw1]; exact (Below.refl _ w).alloc (Nat.le_refl _) _
  clear hw1
  go_wp2_with fail
  refine (putNumber_any (.slice none 0 0) _ [] [258] _ (.inl ⟨rfl, rfl⟩) (sl_new w1 _ _) (by decide) (by simp)).mono ?_
  rintro r w2 ⟨v2, rfl, hown2, hb2⟩
  rw [one_num, List.nil_append] at hown2
  have hb2' : Below w1.heap.size w1 w2 := ((Below.refl _ w1).alloc (Nat.le_refl _) _).trans (hb2.mono (by simp))
  have hb20 : Below w.heap.size w w2 := hb1.trans (hb2'.mono hb1.size)
  have hr2 : Rds w2 w.heap.size ([2, 1, 2, 1, 1, 97], 0) := Box.below hr1 hb2' (Box.lt hr1)
  clear hb2 hb2' hr1 hb1
  go_wp2_with fail
  have hS2 : Sl (w2.alloc (.cells #[.string ⟨#[97]⟩] 9)) (w2.alloc (.cells #[.string ⟨#[97]⟩] 9)).heap.size v2 (bc [2, 1, 2]) :=
    ((Sl.own hown2).below ((Below.refl _ w2).alloc (Nat.le_refl _) _)).wide (by simp)
  refine (putText_any v2 _ [2, 1, 2] [⟨#[97]⟩] _ hS2 (sl_new w2 _ _) (by decide)).mono ?_
  rintro r w3 ⟨v3, rfl, hown3, hb3⟩
  rw [one_text] at hown3
  have hb3' : Below w2.heap.size w2 w3 := ((Below.refl _ w2).alloc (Nat.le_refl _) _).trans (hb3.mono (by simp))
  have hb30 : Below w.heap.size w w3 := hb20.trans (hb3'.mono hb20.size)
  have hr3 : Rds w3 w.heap.size ([2, 1, 2, 1, 1, 97], 0) := Box.below hr2 hb3' (Box.lt hr2)
  have hcv := conv_sl (Sl.own hown3)
  have HB := Lib.hid hb30
  have HR := Lib.hid hr3
  clear hb3 hb3' hr2 hb20 hb30 hr3 hown2 hown3 hS2
  go_wp2_with fail
  have hn := number_rds HR.out (by decide)
  rw [one_q1.1, one_q1.2] at hn
  refine hn.mono ?_
  rintro r w4 ⟨rfl, hr4, hg4⟩
  have hb4 := below_grown HB.out hg4 (Nat.le_refl _) HB.out.size
  clear hn hcv hg4 HB HR
  go_wp2_with fail
  have ht := text_rds hr4 (by decide) 5 (by decide)
  rw [one_q2.1, one_q2.2] at ht
  refine ht.mono ?_
  rintro r w5 ⟨rfl, hr5, hg5⟩
  have hb5 := below_grown hb4 hg5 (Nat.le_refl _) hb4.size
  clear ht hg5 hb4 hr4
  go_wp2_with fail
  have he := end_rds hr5
  rw [one_q3] at he
  refine he.mono ?_
  rintro r w6 ⟨rfl, rfl⟩
  clear he hr5
  go_wp2_with fail
  go_ret
  exact ⟨rfl, hb5⟩
end Go.Proofs.Yteabpbmecdenjaa
