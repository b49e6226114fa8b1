/-
  RsBack, of any arguments; two whole numbers, opened.
-/
import Derived.Test.YtpbkabgjpieggaaBackS
import Derived.Test.YtpbkabgjpieggaaProg
import Derived.WalkKit
import Derived.ProofKit
import Derived.OpenShut
import Derived.ShutString
import Derived.ChangeOld
namespace Go.Proofs.Ytpbkabgjpieggaa
open Go.ChangeShapes Go.WideShapes Go.ChangeAt Go.RowKit

section
variable {H : Type} {enc' : TypeId × Value → H} {W : World}
theorem two_of_cells {fuel : Nat} {cs : List Value} {x : DataW H × List MemPlace} (h : DataW.trod enc' Try.prog W 0 (fun _ => true) true fuel 43 cs = some x) : ∃ a b : Int, cs = [.int .i64 a, .int .i64 b] := by
  have hc1 : Try.prog.cellsOf 3 = 1 := by kernel_rfl
  have hc2 : Try.prog.cellsOf 43 = 2 := by kernel_rfl
  obtain ⟨xs, m, _, _, hl, hn, hx⟩ := DataW.trod_array Try.underlying43 h
  rw [hc1] at hx
  rw [hc2] at hl
  have hb : ∀ i, i < cs.length → ∃ b : Int, cs[i]? = some (.int .i64 b) := fun i hi => by
    have h1 := hx i (by omega)
    rw [List.getElem?_eq_getElem (by omega)] at h1
    obtain ⟨n, hn, _, hw⟩ := DataW.trod_int Try.underlying3 h1
    refine ⟨n, ?_⟩
    rw [Nat.mul_one, List.drop_eq_getElem_cons hi, List.take_succ_cons] at hn
    have hn' := (List.cons.inj hn).1
    rw [List.getElem?_eq_getElem hi, hn']
  obtain ⟨a, ha⟩ := hb 0 (by omega)
  obtain ⟨b, hb'⟩ := hb 1 (by omega)
  match cs, hl, ha, hb' with
  | [c0, c1], _, ha, hb' =>
    simp at ha hb'
    exact ⟨a, b, by rw [ha, hb']⟩
set_option maxRecDepth 100000 in
theorem open_two {r : Reach} {b0 : Nat} {v : Value} {d : DataW H} {p : List MemPlace} (hval : Value.okWide Try.prog W r b0 43 v) (h : DataW.Trod enc' Try.prog W 0 (fun _ => true) true 43 v d p) : ∃ a b : Int, v = .agg #[.int .i64 a, .int .i64 b] := by
  have hv : ∃ cs : Array Value, v = .agg cs := by
    simp only [Value.okWide, Try.underlying43] at hval
    obtain ⟨cs, h1, _⟩ := hval
    exact ⟨cs, h1⟩
  obtain ⟨cs, rfl⟩ := hv
  obtain ⟨fuel, hf⟩ := h
  obtain ⟨a, b, hi⟩ := two_of_cells hf
  refine ⟨a, b, ?_⟩
  have hcs : cs.toList = [.int .i64 a, .int .i64 b] := by simpa [Value.cells] using hi
  rw [← Array.toArray_toList (xs := cs), hcs]
end
theorem rsBack_walk (w : World) (A : Option Addr) (nb c : Nat) (b : List UInt8) (hb : Lies w (fun _ => True) A nb c (bc b)) (x y : Int) (G : Option Addr) (ng cg : Nat) (gone : List Int) (hG : Lies w (fun _ => True) G ng cg (ics gone)) :
    Calls Try.prog 5 #[.slice A nb c, .agg #[.int .i64 x, .int .i64 y], .slice G ng cg] w fun e w' => e = .returned (.bool true) ∧ Below w.heap.size w w' := by
  rcases Nat.lt_or_ge 300 nb with h | h
  · exact rsBack_long w A nb c b hb h x y G ng cg gone hG
  · exact rsBack_short w A nb c b hb h x y G ng cg gone hG
end Go.Proofs.Ytpbkabgjpieggaa
