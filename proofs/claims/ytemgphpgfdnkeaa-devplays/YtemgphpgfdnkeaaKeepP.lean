/-
  What a device keeps, in plain words; the table of bytes that may be.
-/
import Derived.Test.YtemgphpgfdnkeaaOneS
import Derived.Test.YtemgphpgfdnkeaaCloneS
import Derived.Test.YtemgphpgfdnkeaaOpenActs
namespace Go.Proofs.Ytemgphpgfdnkeaa
open Go.RowKit

/-- What the last Flush kept. -/
def Dv.base (D : Dv) : List Bk := undo D.bs D.ws.reverse
theorem base_write {D : Dv} {n : Nat} (x : Bk) (h : n < D.bs.length) : (D.write n x).base = D.base := by
  have h1 : (D.bs.set n x).set n (D.blk n) = D.bs := by
    rw [List.set_set]
    apply List.ext_getElem?
    intro i
    rw [List.getElem?_set]
    by_cases e : n = i
    · subst e
      rw [if_pos rfl, if_pos h, Dv.blk_at h]
    · rw [if_neg e]
  show undo (D.bs.set n x) (D.ws ++ [(⟨n, D.blk n, x⟩ : Wr)]).reverse = undo D.bs D.ws.reverse
  rw [List.reverse_append, List.reverse_singleton, List.singleton_append]
  show undo ((D.bs.set n x).set n (D.blk n)) D.ws.reverse = _
  rw [h1]
theorem base_flush (D : Dv) : D.flush.base = D.bs := rfl
theorem base_fall (D : Dv) (keep : List Int) : (D.fall keep).base = (D.fall keep).bs := rfl
theorem base_length (D : Dv) : D.base.length = D.bs.length := undo_length _ _

/-- Bytes of blocks that are laid again are as they were, or as some write said. -/
theorem redo_bytes (M : Nat → UInt8 → Prop) (keep : List Int) (bs : List Bk) (ws : List Wr) (hb : ∀ i, i < bs.length → ∀ z ∈ (bs.getD i default).1, M i z) (hw : ∀ x ∈ ws, ∀ z ∈ x.is.1, M x.n z) : ∀ k, k ≤ ws.length → ∀ i, i < bs.length → ∀ z ∈ ((redo keep bs ws k).getD i default).1, M i z
  | 0, _, i, hi, z, hz => hb i hi z hz
  | k + 1, hk, i, hi, z, hz => by
    have ih := redo_bytes M keep bs ws hb hw k (by omega)
    have hmem : ws.getD k default ∈ ws := by simp [List.getD, show k < ws.length by omega]
    generalize hx : ws.getD k default = x at hmem
    rw [redo, hx] at hz
    by_cases e : x.n = i
    · subst e
      have hl : x.n < (redo keep bs ws k).length := by rw [redo_length]; exact hi
      rw [List.getD, List.getElem?_set_self hl, Option.getD_some] at hz
      rcases List.mem_append.1 hz with h | h
      · exact hw x hmem z (List.mem_of_mem_take h)
      · exact ih x.n hi z (List.mem_of_mem_drop h)
    · rw [List.getD, List.getElem?_set_ne e] at hz
      exact ih i hi z hz
theorem mem_blkOf {c z : UInt8} (h : z ∈ (blkOf c).1) : z = c := List.eq_of_mem_replicate h
theorem blk_zero : (default : Bk) = blkOf 0 := rfl

/-- Up, not armed, of four blocks. -/
structure Up4 (D : Dv) (N : Nat) : Prop where
  four : D.bs.length = 4
  left : D.left = -1
  down : D.down = false
  ops : D.ops ≤ N
section
variable {D : Dv} {N : Nat}
theorem Up4.call (h : Up4 D N) : Up4 D.call (N + 1) := ⟨h.four, by simp [Dv.call, h.left], by simp [Dv.call, h.left, h.down], Nat.succ_le_succ h.ops⟩
theorem Up4.write (h : Up4 D N) (n : Nat) (x : Bk) : Up4 (D.write n x) N := ⟨by simp [Dv.write, h.four], h.left, h.down, h.ops⟩
theorem Up4.flush (h : Up4 D N) : Up4 D.flush N := ⟨h.four, h.left, h.down, h.ops⟩
theorem Up4.fall (h : Up4 D N) (keep : List Int) : Up4 (D.fall keep) N := ⟨by simp [Dv.fall, redo_length, undo_length, h.four], rfl, rfl, h.ops⟩
theorem Up4.up (h : Up4 D N) : D.call.down = false := h.call.down
theorem Up4.more (h : Up4 D N) {M : Nat} (hM : N ≤ M) : Up4 D M := ⟨h.four, h.left, h.down, Nat.le_trans h.ops hM⟩
end

/-- The table of bytes that may be. -/
def mc (M : Nat → Nat → Bool) : List Value := (List.range 1024).map fun t => .bool (M (t / 256) (t % 256))
theorem mc_zero : (Try.prog.info? 54).map (fun i => (i.zero, i.size)) = some (some (.agg (mc (fun _ _ => false)).toArray), 1024) := by kernel_rfl
set_option maxRecDepth 100000 in
theorem mc_at (M : Nat → Nat → Bool) {i v : Nat} (hi : i < 4) (hv : v < 256) : (mc M)[i * 256 + v]? = some (.bool (M i v)) := by
  rw [mc, List.getElem?_map, List.getElem?_range (by omega), Option.map_some, show (i * 256 + v) / 256 = i by omega, show (i * 256 + v) % 256 = v by omega]
/-- One more that may be. -/
def mput (M : Nat → Nat → Bool) (i v : Nat) : Nat → Nat → Bool := fun a b => M a b || (a == i && b == v)
set_option maxRecDepth 100000 in
theorem mc_put (M : Nat → Nat → Bool) {i v : Nat} (hv : v < 256) : (mc M).toArray.setIfInBounds (i * 256 + v) (.bool true) = (mc (mput M i v)).toArray := by
  rw [List.setIfInBounds_toArray]
  congr 1
  apply List.ext_getElem?
  intro t
  rw [List.getElem?_set]
  by_cases e : i * 256 + v = t
  · subst e
    rw [if_pos rfl]
    by_cases ht : i * 256 + v < 1024
    · rw [if_pos (by simp [mc]; exact ht), mc, List.getElem?_map, List.getElem?_range ht, Option.map_some, show (i * 256 + v) / 256 = i by omega, show (i * 256 + v) % 256 = v by omega]
      simp [mput]
    · rw [if_neg (by simp [mc]; omega), List.getElem?_eq_none (by simp [mc]; omega)]
  · rw [if_neg e]
    by_cases ht : t < 1024
    · rw [mc, mc, List.getElem?_map, List.getElem?_map, List.getElem?_range ht, Option.map_some, Option.map_some]
      have : (t / 256 == i && t % 256 == v) = false := by
        cases h1 : t / 256 == i
        · rfl
        · cases h2 : t % 256 == v
          · rfl
          · simp at h1 h2
            omega
      simp [mput, this]
    · rw [List.getElem?_eq_none (by simp [mc]; omega), List.getElem?_eq_none (by simp [mc]; omega)]
theorem mput_old {M : Nat → Nat → Bool} {i v a b : Nat} (h : M a b = true) : mput M i v a b = true := by simp [mput, h]
theorem mput_new (M : Nat → Nat → Bool) (i v : Nat) : mput M i v i v = true := by simp [mput]

section
variable {w w' : World} {K : Nat → Prop} {p : Nat} {D : Dv}
/-- 'd.Write(n, Block(c))' of a device that is up. -/
theorem write_newK (hK : ∀ k, w.heap.size ≤ k → K k) (hd : Dev w K p D) (hb : Below w.heap.size w w') (x : Bk) (hx : Box w' w.heap.size 5 (be x).toArray) (ho : D.ops ≤ 100000) (hu : D.call.down = false) (n : Nat) (hn : n < D.bs.length) :
    Calls Try.prog 13 #[.pointer (some ⟨p, 0, none⟩), .int .i64 (n : Int), .slice (some ⟨w.heap.size, 0, none⟩) 256 256] w' fun e w'' => e = .returned (.int .i64 0) ∧ Dev w'' K p (D.call.write n x) ∧ Touch K w w'' := by
  have hd' : Dev w' (fun k => K k ∧ k ≠ w.heap.size) p D := (hd.inside.weak (fun k h => ⟨h.1, by omega⟩)).below hb
  refine (write_up hd' (fun k hk => ⟨hK k (Nat.le_trans hb.size hk), by have := hx.lt; omega⟩) ho hu n hn (fun k => k = w.heap.size) _ 256 x (hx.toLies (be_length x) (Nat.le_refl _)) (fun k h1 h2 => h2.2 h1)).mono ?_
  rintro e w'' ⟨rfl, h1, h2⟩
  exact ⟨rfl, h1.weak (fun _ h => h.1), (Touch.of_below hb).trans (h2.mono (fun _ h => h.1))⟩
end
end Go.Proofs.Ytemgphpgfdnkeaa
