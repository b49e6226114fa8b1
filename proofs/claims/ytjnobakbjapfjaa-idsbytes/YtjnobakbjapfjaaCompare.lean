/-
  Two ids held against each other: contracts of bytes.Compare (at two arrays), ids.compare and ids.Less, and the model's '==' on ids.
-/
import Derived.Test.YtjnobakbjapfjaaProg
import Derived.Test.YtjnobakbjapfjaaId
import Derived.Test.YtjnobakbjapfjaaGrows
import Derived.Stop.BytesEq
import Derived.BigQuiet
import Derived.Lib.BytesEntry
import Derived.Shelf.SlicesE.Equal
namespace Go.Proofs.Ytjnobakbjapfjaa
open Go.RowKit Go.Sort Go.Shelf

theorem eqlId : EqlAt Try.prog 23 (fun x : Id => .agg (enc x).toArray) (fun x y => x.1 == y.1) :=
  ⟨fun x y w => run_eql_bytes w 23 5 32 Try.underlying23 Try.underlying5 Try.sizeOf5 x.1 y.1 x.2 y.2, GuardAt.agg _ (by kernel_rfl)⟩
theorem neqId : NeqAt Try.prog 23 (fun x : Id => .agg (enc x).toArray) (fun x y => x.1 == y.1) :=
  ⟨fun x y w => by
    have h := run_equalIn_bytes (P := Try.prog) w 9998 23 5 32 Try.underlying23 Try.underlying5 Try.sizeOf5 x.1 y.1 x.2 y.2
    rw [run_neq_struct, show (10000 : Nat) = 9998 + 2 from rfl]
    generalize 9998 + 2 = d at h ⊢
    change Result.andThen (Sem.run Try.prog (Op.equalIn d 23 (.agg (x.1.map Extern.Stop.cell).toArray) (.agg (y.1.map Extern.Stop.cell).toArray)) w) _ = _
    rw [h]
    rfl, GuardAt.agg _ (by kernel_rfl)⟩

theorem run_loadBytes' {P : Program} (w : World) (b : Nat) (l : List UInt8) (o : Nat) (h : w.rangeAt b o (bc l)) : (Extern.Bytes.loadBytes ⟨b, o, none⟩ l.length .empty).run P w = .ok ⟨l.toArray⟩ w := by
  have := Lib.run_loadBytesX (P := P) w (l.map fun x => (x.toNat : Int)) ⟨b, o, none⟩ .empty (fun j x hj => by
    rw [Addr.add_mid]
    refine h j _ ?_
    rw [bc, List.getElem?_map]
    rw [List.getElem?_map] at hj
    cases hq : l[j]? with
    | none => rw [hq] at hj; cases hj
    | some u => rw [hq] at hj; simp at hj; simp [hj])
  rw [List.length_map] at this
  rw [this]
  congr 1
  apply ByteArray.ext
  simp only [ByteArray.empty, ByteArray.emptyWithCapacity]
  simp [Lib.bytesOf, Function.comp_def]
  rfl

/-- internal/bytealg.Compare, as the model has it, at two slices. -/
theorem run_compareRows {P : Program} (w : World) (b1 o1 c1 b2 o2 c2 : Nat) (l m : List UInt8) (h1 : w.rangeAt b1 o1 (bc l)) (h2 : w.rangeAt b2 o2 (bc m)) :
    (Extern.BytealgCompare.compare #[.slice (some ⟨b1, o1, none⟩) l.length c1, .slice (some ⟨b2, o2, none⟩) m.length c2]).run P w = .ok (.int .i64 (Lib.compareBytes l m)) w := by
  change Sem.run P (do pure (goInt (Extern.BytealgCompare.cmp (← Extern.Bytes.loadBytes ⟨b1, o1, none⟩ l.length .empty) (← Extern.Bytes.loadBytes ⟨b2, o2, none⟩ m.length .empty)))) w = _
  simp only [Sem.run_bind, Sem.run_pure, run_loadBytes' w b1 l o1 h1, run_loadBytes' w b2 m o2 h2, Result.andThen]
  rw [Lib.cmp_eq]
  rfl

set_option maxHeartbeats 1000000 in
/-- bytes.Compare at two arrays of 32 bytes. -/
theorem bytes_Compare (w : World) (b1 o1 c1 b2 o2 c2 : Nat) (x y : Id) (h1 : w.rangeAt b1 o1 (enc x)) (h2 : w.rangeAt b2 o2 (enc y)) :
    Calls Try.prog 51 #[.slice (some ⟨b1, o1, none⟩) 32 c1, .slice (some ⟨b2, o2, none⟩) 32 c2] w fun e w' => e = .returned (.int .i64 (cmpId x y)) ∧ w' = w := by
  have hr := run_compareRows (P := Try.prog) w b1 o1 c1 b2 o2 c2 x.1 y.1 h1 h2
  rw [x.2, y.2] at hr
  change _ = Result.ok (Value.int .i64 (cmpId x y)) w at hr
  generalize cmpId x y = r at hr ⊢
  clear h1 h2
  go_enter Try.func51, Try.ntmps51
  go_wp2
  rw [run_callFunc_extern Try.func65 (by kernel_rfl) (by kernel_rfl) (by kernel_rfl) (e := Extern.BytealgCompare.compare) (by kernel_rfl), hr]
  simp only [Result.andThen]
  rw [Oper.upon_value]
  go_wp2
  go_ret
  exact ⟨rfl, rfl⟩

theorem infoId (x : Id) : (Try.prog.info? 23).map (·.size) = some (enc x).length := by
  rw [enc_length]
  kernel_rfl

set_option maxHeartbeats 1000000 in
/-- ids.compare. -/
theorem compare_says (x y : Id) (w : World) : Calls Try.prog 27 #[.agg (enc x).toArray, .agg (enc y).toArray] w fun e w' => e = .returned (.int .i64 (cmpId x y)) ∧ ∃ q os, w' = grow (w.drewN q) os := by
  have hs1 := enc_size x
  have hs2 := enc_size y
  have hC := fun w b1 o1 c1 b2 o2 c2 => bytes_Compare w b1 o1 c1 b2 o2 c2 x y
  generalize cmpId x y = r at hC ⊢
  go_enter Try.func27, Try.ntmps27
  go_wp2
  have h1 : ((w.alloc (Obj.cells (enc x).toArray 23)).alloc (Obj.cells (enc y).toArray 23)).rangeAt w.heap.size 0 (enc x) := fun j v hv => by
    rw [((Box.made w 23 (enc x).toArray).alloc _).cell]
    simpa using hv
  have h2 : ((w.alloc (Obj.cells (enc x).toArray 23)).alloc (Obj.cells (enc y).toArray 23)).rangeAt (w.heap.size + 1) 0 (enc y) := fun j v hv => by
    have := (Box.made (w.alloc (Obj.cells (enc x).toArray 23)) 23 (enc y).toArray).cell (0 + j)
    rw [World.size_alloc] at this
    rw [this]
    simpa using hv
  have hq : ∃ os, (w.alloc (Obj.cells (enc x).toArray 23)).alloc (Obj.cells (enc y).toArray 23) = grow w os := ⟨_, by rw [alloc_eq_grow, alloc_eq_grow, grow_grow]⟩
  generalize (w.alloc (Obj.cells (enc x).toArray 23)).alloc (Obj.cells (enc y).toArray 23) = w2 at h1 h2 hq ⊢
  have H := Lib.hid hq
  clear hq
  have hC' : ∀ k c1 c2, Calls Try.prog 51 #[.slice (some ⟨w.heap.size, 0, none⟩) 32 c1, .slice (some ⟨w.heap.size + 1, 0, none⟩) 32 c2] (w2.drewN k) fun e w' => e = .returned (.int .i64 r) ∧ ∃ m, w' = w2.drewN m := fun k c1 c2 =>
    (hC (w2.drewN k) _ _ c1 _ _ c2 h1 h2).mono fun _ _ hh => ⟨hh.1, k, hh.2⟩
  clear h1 h2 hC
  go_quiet ((go_at_call 51; exact hC' _ _ _))
  go_wp2
  go_ret
  obtain ⟨os, hos⟩ := H.out
  exact ⟨rfl, nq, os, by rw [hos]; rfl⟩

/-- Two ids, boxed. -/
theorem boxed1 (w : World) (x : Id) : (w.alloc (Obj.cells (enc x).toArray 23)).rangeAt w.heap.size 0 (enc x) := fun j v hv => by
  rw [(Box.made w 23 (enc x).toArray).cell]
  simpa using hv
theorem boxed2 (w : World) (x y : Id) : ((w.alloc (Obj.cells (enc x).toArray 23)).alloc (Obj.cells (enc y).toArray 23)).rangeAt (w.heap.size + 1) 0 (enc y) := fun j v hv => by
  have := (Box.made (w.alloc (Obj.cells (enc x).toArray 23)) 23 (enc y).toArray).cell (0 + j)
  rw [World.size_alloc] at this
  rw [this]
  simpa using hv

set_option maxHeartbeats 1000000 in
/-- ids.Less. -/
theorem less_says (x y : Id) (w : World) : Calls Try.prog 10 #[.agg (enc x).toArray, .agg (enc y).toArray] w fun e w' => e = .returned (.bool (ltId x y)) ∧ Below w.heap.size w w' := by
  have hs1 := enc_size x
  have hs2 := enc_size y
  have hC := compare_says x y
  unfold ltId
  generalize cmpId x y = r at hC ⊢
  go_enter Try.func10, Try.ntmps10
  go_wp2_with (first
    | (refine wpList_load_mid rfl 23 _ rfl w.heap.size 0 rfl (enc x) _ (World.rangeAt_alloc (boxed1 w x) _) Try.underlying23 rfl (infoId x) ?_)
    | (refine wpList_load_mid rfl 23 _ rfl (w.heap.size + 1) 0 rfl (enc y) _ (boxed2 w x y) Try.underlying23 rfl (infoId y) ?_)
    | (go_at_call 27; refine (hC _).mono ?_; rintro e w' ⟨rfl, hw'⟩; have H := Lib.hid hw'; clear hw'))
  go_ret
  obtain ⟨q, os, rfl⟩ := H.out
  refine ⟨rfl, (((Below.refl w.heap.size w).alloc (Nat.le_refl _) _).alloc (by simp) _).trans ((below_grow _ q os).mono (by simp; omega))⟩
end Go.Proofs.Ytjnobakbjapfjaa
