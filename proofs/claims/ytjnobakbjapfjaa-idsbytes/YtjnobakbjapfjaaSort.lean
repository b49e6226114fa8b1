/-
  Ids in a block of the call's own, put in order: the contract of slices.SortFunc at lists of ids.
-/
import Derived.Test.YtjnobakbjapfjaaCopied
import Derived.Test.YtjnobakbjapfjaaShelf
namespace Go.Proofs.Ytjnobakbjapfjaa
open Go.RowKit Go.Sort Go.Shelf

theorem flatK_enc (d : Array Id) : flatK enc 32 d = (ec d.toList).toArray := by
  refine ext_get! (by simp [ec_length]) fun t ht => ?_
  have ht' : t < d.size * 32 := by simpa using ht
  have hd : t / 32 < d.size := by omega
  have hx : d.toList[t / 32]? = some d[t / 32]! := by
    rw [getElem!_pos d (t / 32) hd]
    simp [hd]
  have hv : (enc d[t / 32]!)[t % 32]? = some (enc d[t / 32]!)[t % 32]! := by
    have : t % 32 < (enc d[t / 32]!).length := by rw [enc_length]; omega
    rw [getElem!_pos _ (t % 32) this]
    simp [this]
  have h := ec_at d.toList (t / 32) _ hx (t % 32) _ hv
  rw [show t / 32 * 32 + t % 32 = t by omega] at h
  rw [get_flatK _ _ _ _ ht']
  have hl : t < (ec d.toList).length := by rw [ec_length]; simpa using ht'
  rw [getElem!_pos (ec d.toList).toArray t (by simpa using hl)]
  rw [List.getElem?_eq_getElem hl] at h
  injection h with h
  simpa using h.symm

theorem Row.holds {w : World} {g : Nat} {d : Array Id} (h : Row w g d.toList) : HoldsK enc 32 w g 0 d := by
  unfold HoldsK
  rw [flatK_enc]
  intro j hj
  refine ⟨?_, Box.frozen h _⟩
  rw [Box.cell h, Nat.zero_add, Array.getElem?_eq_getElem hj, getElem!_pos _ j hj]
  rfl

theorem row_sorted {w : World} {g n : Nat} {os : Array Obj} {d d' : Array Id} (h : Row w g d.toList) (hs : d'.size = d.size) : Row (sortWorldK enc 32 w g 0 n d' os) g d'.toList ∧ w.grownBy (sortWorldK enc 32 w g 0 n d' os) (some g) := by
  have hlt : g < w.heap.size := Box.lt h
  constructor
  · unfold Row Box sortWorldK putRowK
    rw [heap_grow_old _ _ (by simpa [Sort.ahead] using hlt)]
    unfold putRow mapBlock
    have h' : (Sort.ahead w n).heap[g]? = some (Obj.cells (ec d.toList).toArray 23 (0, 0)) := h
    simp only [Array.getElem?_modify, h', if_true, Option.map_some, onCells]
    congr 2
    rw [flatK_enc]
    refine ext_get! (by simp [putCells, ec_length, hs]) fun t ht => ?_
    have ht1 : t < d.size * 32 := by simpa [putCells, ec_length] using ht
    have ht2 : t < (ec d'.toList).toArray.size := by simp [ec_length, hs]; exact ht1
    rw [getElem!_pos _ t ht]
    simp only [putCells, Array.getElem_mapIdx, Nat.zero_le, true_and, Nat.zero_add, ht2, if_true, Nat.sub_zero, id_eq]
  · refine ⟨rfl, rfl, rfl, by simp [sortWorldK, putRowK, Sort.ahead], fun k hk hne => ?_⟩
    unfold sortWorldK putRowK
    rw [heap_grow_old _ _ (by simpa [Sort.ahead] using hk)]
    unfold putRow mapBlock
    simp only [Array.getElem?_modify]
    rw [if_neg (fun e => hne (by rw [e]))]
    rfl

/-- A list in order. -/
def sortL (xs : List Id) : List Id := xs.mergeSort fun x y => !ltId y x

theorem ltOf_cmp : ltOf cmpId = ltId := rfl

set_option maxHeartbeats 1000000 in
/-- slices.SortFunc(l, compare), at a list in a block of its own. -/
theorem sort_says (w : World) (g n c : Nat) (xs : List Id) (hx : Row w g xs) (hn : xs.length = n) (hs : n ≤ 1000) :
    Calls Try.prog 42 #[.slice (some ⟨g, 0, none⟩) n c, .func (.func 27) #[] #[]] w fun e w' => e = .returned (.tuple #[]) ∧ Row w' g (sortL xs) ∧ w.grownBy w' (some g) := by
  subst hn
  obtain ⟨d, rfl⟩ : ∃ d : Array Id, d.toList = xs := ⟨xs.toArray, rfl⟩
  have hlt : g < w.heap.size := Box.lt hx
  have eg : ∀ args w, (callFunc 27 args).run Try.prog w = .ok (.enter 27 args) w := enters_of Try.func27 (by kernel_rfl) rfl
  have hcmp : CmpLays Try.prog 27 #[] enc 32 cmpId g 0 d.size w := fun _ _ _ _ x y => compare_says x y _
  have hlim : Lib.bitLen d.size < 4611686018427387904 := Nat.lt_of_le_of_lt (Lib.bitLen_le d.size 62 (by omega) (by simp at hs; omega)) (by omega)
  have hp := AnyQ.pdqsortCmpFunc_all Try.pdqIds 32 Try.isAgg23 Try.sizeOf23 enc cmpId 27 #[] ltId_swo g 0 c d w eg hcmp ⟨enc_length, enc_one, hx.holds, hlt⟩ (d.size + 1) 0 d.size (Lib.bitLen d.size) d w (by omega) rfl (SWK.start hx.holds) (Nat.zero_le _) (Nat.le_refl _) (by simp at hs; omega) hlim (Or.inl rfl)
  have hl : Calls Try.prog 63 #[.int .u64 (d.size : Int)] w fun e w' => e = .returned (.int .i64 (Lib.bitLen d.size : Nat)) ∧ w' = w := by
    have h := Try.bits_Len (d.size : Int) w (by omega) (by simp at hs; omega)
    rwa [Int.toNat_natCast] at h
  have hd := pdq_sorts (ltOf cmpId) ltId_swo d 0 d.size (Lib.bitLen d.size) true true (Nat.zero_le _) (Nat.le_refl _) (Or.inl rfl)
  have hu := sorted_unique_holds (lt := ltOf cmpId) ltId_swo (fun x y h1 h2 => ltId_total h1 h2) d _ hd.1 hd.2
  have hz := hd.1.1
  change (pdq (ltOf cmpId) d 0 d.size (Lib.bitLen d.size) true true).toList = sortL d.toList at hu
  change Calls Try.prog 62 _ _ _ at hp
  rw [← hu]
  clear hu hd
  generalize pdq (ltOf cmpId) d 0 d.size (Lib.bitLen d.size) true true = d' at hp hz ⊢
  have wr : IntKind.u64.wrap (d.size : Int) = d.size := by simp [IntKind.wrap, IntKind.bits, IntKind.signed]; simp at hs; omega
  rw [Array.length_toList]
  have HX := Lib.hid hx
  have HZ := Lib.hid hz
  clear hx hz hcmp
  go_enter Try.func42, Try.ntmps42
  go_wp2_with (first | (go_at_call 63; refine hl.mono ?_; rintro e w' ⟨rfl, rfl⟩) | (go_at_call 62; refine hp.mono ?_; rintro e w' ⟨rfl, n, os, rfl⟩))
  go_end0
  exact ⟨rfl, row_sorted HX.out HZ.out⟩
end Go.Proofs.Ytjnobakbjapfjaa
