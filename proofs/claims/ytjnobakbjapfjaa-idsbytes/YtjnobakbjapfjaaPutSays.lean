/-
  ids.Put: what it hands back, outright.
-/
import Derived.Test.YtjnobakbjapfjaaPutIds
import Derived.Test.YtjnobakbjapfjaaLPutNums
import Derived.Test.YtjnobakbjapfjaaBackWalk3
namespace Go.Proofs.Ytjnobakbjapfjaa
open Go.RowKit Go.Sort Go.Shelf

theorem num_gives : NumGives Lay.encNum := fun w n g hn hg => by
  have hU : Lay.Sl w w.heap.size (.slice (some ⟨g, 0, none⟩) 1 1) (Lay.nc [n]) := .inr ⟨⟨g, 0, none⟩, 1, rfl, fun j u hu => by
    refine ⟨Box.lt hg, ?_⟩
    rw [Addr.add_mid, Nat.zero_add, Box.cell hg]
    simpa [Lay.nc] using hu⟩
  refine (Lay.putNumber_any (.slice none 0 0) (.slice (some ⟨g, 0, none⟩) 1 1) [] [n] w (.inl ⟨rfl, rfl⟩) hU (fun x hx => by simp at hx; omega) (by simp)).mono ?_
  rintro e w' ⟨v, rfl, ho, hb⟩
  refine ⟨v, rfl, ?_, hb⟩
  have e : ([] : List UInt8) ++ Lay.encNums [n] = Lay.encNum n := by simp [Lay.encNums]
  rw [e] at ho
  exact ho
theorem encNum_le (n : Nat) (h : n ≤ 1000) : (Lay.encNum n).length ≤ 9 := by
  have := Lay.many_le n (by omega)
  rw [Lay.encNum_length]
  omega
theorem put_says (w : World) (A : Option Addr) (n c : Nat) (xs : List Id) (hx : Ids w A n c xs) (hn : n ≤ 1000) :
    Calls Try.prog 15 #[.slice A n c] w fun e w' => ∃ v, e = .returned v ∧ Own w' w.heap.size v (putL xs) ∧ Below w.heap.size w w' := by
  have h := put_core Lay.encNum encNum_le num_gives w A n c xs hx hn
  rw [← hx.len] at h ⊢
  exact h
theorem put_gives : PutGives := fun w A n c xs hx hn => (put_says w A n c xs hx (by omega)).mono fun e w' ⟨v, he, ho, hb⟩ => by
  obtain ⟨A', c', rfl, hl⟩ := ho.lies
  exact ⟨A', _, c', he, hl, hb⟩
end Go.Proofs.Ytjnobakbjapfjaa
