/-
  The reference's calls, over its plain state.
-/
import Derived.Test.YtemgphpgfdnkeaaPlayM
namespace Go.Proofs.Ytemgphpgfdnkeaa
open Go.RowKit

section
variable {w : World} {N : Nat → Prop} {cs : Array Value} {R : Rv}
theorem rcall_says (h : RfC w N cs R) (ho : R.ops ≤ 100000) (hl : -1 ≤ R.arm) (hh : R.arm ≤ 9223372036854775807) :
    Calls Try.prog 17 #[.agg cs] w fun e w' => ∃ cs', e = .returned (.tuple #[.agg cs', .bool (!R.call.down)]) ∧ RfC w' N cs' R.call ∧ Below w.heap.size w w' := by
  obtain ⟨A1, c1, A2, c2, A3, c3, rfl, h2, h3, h4⟩ := h
  refine (rcall_low w A1 A2 A3 _ c1 _ c2 _ c3 R.arm R.down R.ops ho hl hh).mono ?_
  rintro e w' ⟨rfl, hb⟩
  exact ⟨_, rfl, ⟨A1, c1, A2, c2, A3, c3, rfl, h2.below hb, h3.below hb, h4.below hb⟩, hb⟩
theorem rnow_says (h : RfC w N cs R) (n : Nat) (hn : n < R.kept.length) (hm : R.at'.length ≤ 1000) :
    Calls Try.prog 18 #[.agg cs, .int .i64 (n : Int)] w fun e w' => e = .returned (sc (nowTo R.kept R.at' R.bs n R.at'.length)) ∧ Below w.heap.size w w' := by
  obtain ⟨A1, c1, A2, c2, A3, c3, rfl, h2, h3, h4⟩ := h
  exact rnow_low w N A1 A2 A3 _ c1 _ c2 c3 R.kept R.at' R.bs h2 h3 h4 R.arm R.down R.ops n hn (by omega)
theorem rwrite_says (h : RfC w N cs R) (hN : ∀ b, N b → b < w.heap.size) (n : Nat) (x : Bk) (hm : R.at'.length ≤ 1000) :
    Calls Try.prog 19 #[.agg cs, .int .i64 (n : Int), sc x] w fun e w' => ∃ cs', e = .returned (.agg cs') ∧ RfC w' (fun k => N k ∨ w.heap.size ≤ k) cs' (R.write n x) ∧ Below w.heap.size w w' := by
  obtain ⟨A1, c1, A2, c2, A3, c3, rfl, h2, h3, h4⟩ := h
  refine (rwrite_low w N A1 A2 A3 _ c1 _ c2 _ c3 R.at' R.bs h3 h4 hN R.arm R.down R.ops n x hm hm).mono ?_
  rintro e w' ⟨B2, d2, B3, d3, rfl, r2, r3, hb⟩
  refine ⟨_, rfl, ⟨A1, c1, B2, d2, B3, d3, ?_, (h2.below hb).weak (fun _ _ h => .inl h), ?_, ?_⟩, hb⟩
  · simp [Rv.write]
  · have := r2.weak (N' := fun k => N k ∨ w.heap.size ≤ k) (fun _ _ h => .inr h)
    simpa [Rv.write] using this
  · have := r3.weak (N' := fun k => N k ∨ w.heap.size ≤ k) (fun _ _ h => .inr h)
    simpa [Rv.write] using this
theorem rflush_says (h : RfC w N cs R) (hN : ∀ b, N b → b < w.heap.size) (h0 : 0 < R.kept.length) (h1 : R.kept.length ≤ 4096) (hm : R.at'.length ≤ 1000) (hpl : ∀ k, k < R.at'.length → R.at'.getD k 0 < R.kept.length) :
    Calls Try.prog 20 #[.agg cs] w fun e w' => ∃ cs', e = .returned (.agg cs') ∧ RfC w' (fun k => N k ∨ w.heap.size ≤ k) cs' R.flush ∧ Below w.heap.size w w' := by
  obtain ⟨A1, c1, A2, c2, A3, c3, rfl, h2, h3, h4⟩ := h
  refine (rflush_low w N A1 A2 A3 _ c1 _ c2 c3 R.kept R.at' R.bs h2 h3 h4 hN R.arm R.down R.ops h0 h1 hm hpl).mono ?_
  rintro e w' ⟨B1, d1, rfl, r1, hb⟩
  have hfl := flTo_length R.kept R.at' R.bs R.at'.length
  refine ⟨_, rfl, ⟨B1, d1, none, 0, none, 0, ?_, ?_, ⟨Lies.nil _ _, fun _ => rfl⟩, ⟨Lies.nil _ _, fun _ => rfl⟩⟩, hb⟩
  · simp [Rv.flush, hfl]
  · have := r1.weak (N' := fun k => N k ∨ w.heap.size ≤ k) (fun _ _ h => .inr h)
    simpa [Rv.flush, hfl] using this
theorem rfall_says (h : RfC w N cs R) (hN : ∀ b, N b → b < w.heap.size) (h0 : 0 < R.kept.length) (h1 : R.kept.length ≤ 4096) (hm : R.at'.length ≤ 1000) (hpl : ∀ k, k < R.at'.length → R.at'.getD k 0 < R.kept.length) (Ak : Option Addr) (nk ck : Nat) (keep : List Int) (hk : Lies w (fun _ => True) Ak nk ck (ics keep)) :
    Calls Try.prog 12 #[.agg cs, .slice Ak nk ck] w fun e w' => ∃ cs', e = .returned (.agg cs') ∧ RfC w' (fun k => N k ∨ w.heap.size ≤ k) cs' (R.fall keep) ∧ Below w.heap.size w w' := by
  obtain ⟨A1, c1, A2, c2, A3, c3, rfl, h2, h3, h4⟩ := h
  refine (rfall_low w N A1 A2 A3 _ c1 _ c2 c3 R.kept R.at' R.bs h2 h3 h4 hN R.arm R.down R.ops h0 h1 hm hpl Ak nk ck keep hk).mono ?_
  rintro e w' ⟨B1, d1, rfl, r1, hb⟩
  have hfl := rdTo_length keep R.kept R.at' R.bs R.at'.length
  refine ⟨_, rfl, ⟨B1, d1, none, 0, none, 0, ?_, ?_, ⟨Lies.nil _ _, fun _ => rfl⟩, ⟨Lies.nil _ _, fun _ => rfl⟩⟩, hb⟩
  · simp [Rv.fall, hfl]
  · have := r1.weak (N' := fun k => N k ∨ w.heap.size ≤ k) (fun _ _ h => .inr h)
    simpa [Rv.fall, hfl] using this
end
theorem rnew_says (w : World) (n : Nat) (h1 : 1 ≤ n) (h2 : n ≤ 4096) :
    Calls Try.prog 7 #[.int .i64 (n : Int)] w fun e w' => ∃ cs, e = .returned (.tuple #[.agg cs, .int .i64 0]) ∧ RfC w' (fun k => w.heap.size ≤ k) cs ⟨List.replicate n default, [], [], -1, false, 0⟩ ∧ Below w.heap.size w w' := by
  refine (rnew_yes w n h1 h2).mono ?_
  rintro e w' ⟨B, d, rfl, hr, hb⟩
  refine ⟨_, rfl, ⟨B, d, none, 0, none, 0, by simp, by simpa using hr, ⟨Lies.nil _ _, fun _ => rfl⟩, ⟨Lies.nil _ _, fun _ => rfl⟩⟩, hb⟩
end Go.Proofs.Ytemgphpgfdnkeaa
