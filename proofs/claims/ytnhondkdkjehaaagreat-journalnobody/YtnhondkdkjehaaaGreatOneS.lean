/-
  The law's own small play: a block that is lost, and one that is kept.
-/
import Derived.Test.YtnhondkdkjehaaaGreatFallS
import Derived.Test.YtnhondkdkjehaaaGreatSlB
namespace Go.Proofs.YtnhondkdkjehaaaGreat
open Go.RowKit

/-- A block all bytes of which are one. -/
def blkOf (c : UInt8) : Bk := ⟨List.replicate 256 c, List.length_replicate⟩
theorem byRule_all (n : Nat) (c : UInt8) : byRule n (fun i => if i < n then c else 0) = List.replicate n c := by
  apply List.ext_getElem?
  intro i
  by_cases h : i < n
  · rw [byRule_at n _ i h, List.getElem?_replicate, if_pos h]
    simp [h]
  · rw [List.getElem?_eq_none (by simp [byRule]; omega), List.getElem?_eq_none (by simp; omega)]
set_option maxRecDepth 100000 in
set_option maxHeartbeats 2000000 in
theorem block_says (w : World) (c : UInt8) :
    Calls Tryz.prog 33 #[.int .u8 (c.toNat : Int)] w fun e w' => e = .returned (.slice (some ⟨w.heap.size, 0, none⟩) 256 256) ∧ Box w' w.heap.size 5 (be (blkOf c)).toArray ∧ Below w.heap.size w w' := by
  obtain ⟨i0, hi, hz0, hz1, hz2⟩ := info_parts Tryz.byteInfo
  go_enter Tryz.func33, Tryz.ntmps33
  go_wp2_with (at_make; refine wpList_make_full w rfl _ _ 49 rfl w.heap.size 5 i0 _ 1 Tryz.underlying49 hi hz0 hz1 _ _ _ _ 256 rfl rfl rfl rfl (by rw [hz2]; omega) (by unfold maxLen; omega) (Nat.le_refl _) ?_; intro w1 hown1 hg1; rw [zero_made] at hown1; have HW1 := Lib.hid (And.intro (box_own hown1) ((Below.refl w.heap.size w).grown hg1 (Nat.le_refl _) (fun k hk => by cases hk))); clear hown1 hg1)
  go_loopw [4] (fun v wr => ∃ k : Nat, v = .int .i64 (k : Int) ∧ k ≤ 256 ∧ Hid (Box wr w.heap.size 5 (bc (byRule 256 (fun i => if i < k then c else 0))).toArray ∧ Below w.heap.size w wr)) (fun v _ => 256 - (intOf v).toNat)
  case atStart => exact ⟨0, rfl, by omega, Lib.hid ⟨by have := HW1.out.1; rw [← byRule_zero] at this; simpa using this, HW1.out.2⟩⟩
  case round =>
    obtain ⟨k, rfl, hk, H⟩ := hrel
    by_cases hlt : k < 256
    · have l1 : (k : Int) < 256 := by omega
      obtain ⟨hb, hB⟩ := H.out
      have hc := box_at hb (byRule_at 256 _ k hlt)
      have hf := Box.frozen hb k
      have hb' := box_set hb k c
      have hB' : Below w.heap.size w (wr.setCell ⟨w.heap.size, k, none⟩ (.int .u8 (c.toNat : Int))) := hB.setCell (p := ⟨w.heap.size, k, none⟩) (Nat.le_refl _) _
      have hset : (byRule 256 (fun i => if i < k then c else 0)).set k c = byRule 256 (fun i => if i < k + 1 then c else 0) := by
        have := byRule_set 256 (fun i => if i < k then c else 0) (fun i => if i < k + 1 then c else 0) k (fun i hne => by
          by_cases h : i < k
          · simp [h, show i < k + 1 by omega]
          · simp [h, show ¬ i < k + 1 by omega])
        simpa using this
      rw [hset] at hb'
      have H2 := Lib.hid (And.intro hb' hB')
      clear hb hB hb' hB' hset H
      go_wp2
      go_roundw
      case rel => exact ⟨k + 1, by go_num, by omega, H2⟩
      case measure => simp [intOf]; omega
    · obtain rfl : k = 256 := by omega
      go_wp2
      go_ret
      refine ⟨rfl, ?_, H.out.2⟩
      have h1 := byRule_all 256 c
      have := H.out.1
      rw [h1] at this
      exact this

section
variable {w w' : World} {B p : Nat} {D : Dv}
/-- The device is none of what was just made. -/
theorem Dev.beside (hd : Dev w (fun k => B ≤ k) p D) (hb : Below w.heap.size w w') : Dev w' (fun k => B ≤ k ∧ k ≠ w.heap.size) p D :=
  (hd.inside.weak (fun k h => ⟨h.1, by omega⟩)).below hb
theorem write_new (hB : B ≤ w.heap.size) (hd : Dev w (fun k => B ≤ k) p D) (hb : Below w.heap.size w w') (x : Bk) (hx : Box w' w.heap.size 5 (be x).toArray) (ho : D.ops ≤ 100000) (hu : D.call.down = false) (n : Nat) (hn : n < D.bs.length) :
    Calls Tryz.prog 84 #[.pointer (some ⟨p, 0, none⟩), .int .i64 (n : Int), .slice (some ⟨w.heap.size, 0, none⟩) 256 256] w' fun e w'' => e = .returned (.int .i64 0) ∧ Dev w'' (fun k => B ≤ k) p (D.call.write n x) ∧ Below B w w'' := by
  have hd' := hd.beside hb
  refine (write_up hd' (fun k hk => ⟨by have := hb.size; omega, by have := hx.lt; omega⟩) ho hu n hn (fun k => k = w.heap.size) _ 256 x (hx.toLies (be_length x) (Nat.le_refl _)) (fun k h1 h2 => h2.2 h1)).mono ?_
  rintro e w'' ⟨rfl, h1, h2⟩
  exact ⟨rfl, h1.weak (fun _ h => h.1), (hb.mono hB).trans (h2.below (fun k h => h.1) (Nat.le_trans hB hb.size))⟩
theorem write_new_down (hB : B ≤ w.heap.size) (hd : Dev w (fun k => B ≤ k) p D) (hb : Below w.heap.size w w') (ho : D.ops ≤ 100000) (hu : D.call.down = true) (i : Int) (hi : 0 ≤ i ∧ i < D.bs.length) (A : Option Addr) (c : Nat) :
    Calls Tryz.prog 84 #[.pointer (some ⟨p, 0, none⟩), .int .i64 i, .slice A 256 c] w' fun e w'' => e = .returned (.int .i64 17) ∧ Dev w'' (fun k => B ≤ k) p D.call ∧ Below B w w'' := by
  refine (write_down (hd.below hb) ho hu i hi A c).mono ?_
  rintro e w'' ⟨rfl, h1, h2⟩
  exact ⟨rfl, h1, (hb.mono hB).trans (h2.below (fun k h => h) (Nat.le_trans hB hb.size))⟩
theorem fall_new (hB : B ≤ w.heap.size) (hd : Dev w (fun k => B ≤ k) p D) (hb : Below w.heap.size w w') (keep : List Int) (n : Nat) (hk : Box w' w.heap.size 3 (ics keep).toArray) (hn : keep.length = n) (ho : D.ws.length ≤ 100000) :
    Calls Tryz.prog 59 #[.pointer (some ⟨p, 0, none⟩), .slice (some ⟨w.heap.size, 0, none⟩) n n] w' fun e w'' => e = .returned (.tuple #[]) ∧ Dev w'' (fun k => B ≤ k) p (D.fall keep) ∧ Below B w w'' := by
  have hd' := hd.beside hb
  refine (fall_says hd' ho (fun k => k = w.heap.size) _ n n keep (hk.toLies (by rw [ics_length]; exact hn) (Nat.le_refl _)) (fun k h1 h2 => h2.2 h1)).mono ?_
  rintro e w'' ⟨rfl, h1, h2⟩
  exact ⟨rfl, h1.weak (fun _ h => h.1), (hb.mono hB).trans (h2.below (fun k h => h.1) (Nat.le_trans hB hb.size))⟩
end

/-- The states of the small play. -/
def oneA : Dv := ((Dv.new 2).call.write 0 (blkOf 1)).call.flush
def oneB : Dv := (oneA.call.write 0 (blkOf 2)).call.write 1 (blkOf 3)
def oneC : Dv := oneB.fall [1]
theorem one_0 : (be (oneC.blk 0))[0]? = some (.int .u8 2) ∧ (be (oneC.blk 0))[1]? = some (.int .u8 1) ∧ (be (oneC.call.blk 1))[0]? = some (.int .u8 0) := by
  refine ⟨?_, ?_, ?_⟩ <;> kernel_rfl
end Go.Proofs.YtnhondkdkjehaaaGreat
