/-
  Devices in plain words: blocks of 256 bytes, writes that wait, as cells; and what a call turns. No statement about the program's answers stands here.
  What a device tells of itself, and how a call is counted: the contracts of made, has, call, Len, Arm, Down, Ops, Waiting and Flush.
-/
import Derived.Test.YtnhondkdkjehaaaGreatSlB
import Derived.Laws.LoneSync
import Derived.Great.BuildSlice
namespace Go.Proofs.YtnhondkdkjehaaaGreat
open Go.RowKit

section
variable {α : Type} {f : α → List Value} {K : Nat}
/-- The cells of a list, one behind the other. -/
def fl (f : α → List Value) (xs : List α) : List Value := xs.flatMap f
theorem fl_nil (f : α → List Value) : fl f [] = [] := rfl
theorem fl_cons (f : α → List Value) (x : α) (xs : List α) : fl f (x :: xs) = f x ++ fl f xs := by simp [fl]
theorem fl_append (f : α → List Value) (xs ys : List α) : fl f (xs ++ ys) = fl f xs ++ fl f ys := by simp [fl]
theorem fl_one (f : α → List Value) (x : α) : fl f [x] = f x := by simp [fl]
theorem fl_length (hf : ∀ x, (f x).length = K) : ∀ xs : List α, (fl f xs).length = xs.length * K
  | [] => by simp [fl]
  | x :: xs => by rw [fl_cons, List.length_append, fl_length hf xs, hf, List.length_cons, Nat.add_mul]; omega
theorem fl_drop (hf : ∀ x, (f x).length = K) : ∀ (xs : List α) (k : Nat), (fl f xs).drop (k * K) = fl f (xs.drop k)
  | [], k => by simp [fl]
  | x :: xs, 0 => by simp
  | x :: xs, k + 1 => by
    rw [fl_cons, show (k + 1) * K = (f x).length + k * K by rw [hf, Nat.add_mul]; omega, List.drop_append, List.drop_eq_nil_of_le (by omega), List.nil_append, Nat.add_sub_cancel_left, fl_drop hf xs k]
    rfl
theorem fl_take (hf : ∀ x, (f x).length = K) : ∀ (xs : List α) (k : Nat), (fl f xs).take (k * K) = fl f (xs.take k)
  | [], k => by simp [fl]
  | x :: xs, 0 => by simp [fl]
  | x :: xs, k + 1 => by
    rw [fl_cons, show (k + 1) * K = (f x).length + k * K by rw [hf, Nat.add_mul]; omega, List.take_append, List.take_of_length_le (by omega), Nat.add_sub_cancel_left, fl_take hf xs k, List.take_succ_cons, fl_cons]
/-- Part j's cells among all. -/
theorem fl_at (hf : ∀ x, (f x).length = K) (xs : List α) (j : Nat) (x : α) (h : xs[j]? = some x) (i : Nat) (v : Value) (hv : (f x)[i]? = some v) : (fl f xs)[j * K + i]? = some v := by
  rw [← List.getElem?_drop, fl_drop hf]
  have hj : j < xs.length := (List.getElem?_eq_some_iff.1 h).1
  rw [List.getElem?_eq_getElem hj] at h
  injection h with h
  rw [List.drop_eq_getElem_cons hj, fl_cons, h, List.getElem?_append_left (List.getElem?_eq_some_iff.1 hv).1]
  exact hv
theorem fl_set (hf : ∀ x, (f x).length = K) (xs : List α) (j : Nat) (x : α) (h : j < xs.length) : (fl f xs).take (j * K) ++ f x ++ (fl f xs).drop (j * K + K) = fl f (xs.set j x) := by
  rw [fl_take hf, show j * K + K = (j + 1) * K by rw [Nat.add_mul]; omega, fl_drop hf, List.set_eq_take_append_cons_drop, if_pos h, fl_append, fl_cons, List.append_assoc]
theorem fl_set_app (hf : ∀ x, (f x).length = K) (xs : List α) (r : List Value) (j : Nat) (x : α) (h : j < xs.length) : (fl f xs ++ r).take (j * K) ++ f x ++ (fl f xs ++ r).drop (j * K + K) = fl f (xs.set j x) ++ r := by
  have hl := fl_length hf xs
  have hm : (j + 1) * K ≤ xs.length * K := Nat.mul_le_mul_right _ h
  rw [Nat.add_mul, Nat.one_mul] at hm
  rw [← fl_set hf xs j x h, List.take_append_of_le_length (by omega), List.drop_append_of_le_length (by omega)]
  simp only [List.append_assoc]
theorem fl_cells (hf : ∀ x, ∀ v ∈ f x, v.oneCell' = true) (xs : List α) : ∀ v ∈ fl f xs, v.oneCell' = true := by
  intro v hv
  obtain ⟨x, _, hx⟩ := List.mem_flatMap.1 hv
  exact hf x v hx
theorem fl_range_app {w : World} (hf : ∀ x, (f x).length = K) {g : Nat} {t : TypeId} {xs : List α} {r : List Value} (h : Box w g t (fl f xs ++ r).toArray) {j : Nat} {x : α} (hx : xs[j]? = some x) : w.rangeAt g (j * K) (f x) := fun i v hv => by
  rw [Box.cell h]
  have h1 := fl_at hf xs j x hx i v hv
  have h2 := (List.getElem?_eq_some_iff.1 h1).1
  rw [List.getElem?_toArray, List.getElem?_append_left h2]
  exact h1
theorem fl_range {w : World} (hf : ∀ x, (f x).length = K) {g : Nat} {t : TypeId} {xs : List α} (h : Box w g t (fl f xs).toArray) {j : Nat} {x : α} (hx : xs[j]? = some x) : w.rangeAt g (j * K) (f x) := fun i v hv => by
  rw [Box.cell h]
  have := fl_at hf xs j x hx i v hv
  simpa using this
end

/-- A block: 256 bytes. -/
abbrev Bk := { l : List UInt8 // l.length = 256 }
instance : Inhabited Bk := ⟨⟨List.replicate 256 0, List.length_replicate⟩⟩
/-- Its cells. -/
def be (x : Bk) : List Value := bc x.1
theorem be_length (x : Bk) : (be x).length = 256 := by rw [be, bc_length]; exact x.2
theorem be_one (x : Bk) : ∀ v ∈ be x, v.oneCell' = true := bc_one x.1
theorem be_size (x : Bk) : (be x).toArray.size = 256 := by simp [be_length]
theorem be_all (x : Bk) : (be x).toArray.all (·.oneCell') = true := all_oneCell_toArray (be_one x)
/-- A write that waits: its block's place, what the block was, what it is. -/
structure Wr where
  n : Nat
  was : Bk
  is : Bk
instance : Inhabited Wr := ⟨⟨0, default, default⟩⟩
def we (x : Wr) : List Value := .int .i64 (x.n : Int) :: (be x.was ++ be x.is)
theorem we_length (x : Wr) : (we x).length = 513 := by simp [we, be_length]
theorem we_one (x : Wr) : ∀ v ∈ we x, v.oneCell' = true := by
  intro v hv
  rcases List.mem_cons.1 hv with rfl | hv
  · rfl
  · rcases List.mem_append.1 hv with h | h
    · exact be_one _ v h
    · exact be_one _ v h
theorem we_size (x : Wr) : (we x).toArray.size = 513 := by simp [we_length]
theorem we_all (x : Wr) : (we x).toArray.all (·.oneCell') = true := all_oneCell_toArray (we_one x)

theorem blkInfo : (Tryz.prog.info? 119).map (fun i => (i.zero, i.size, i.bytes)) = some (some (.agg (be default).toArray), 256, 256) := by kernel_rfl
theorem wrInfo : (Tryz.prog.info? 122).map (fun i => (i.zero, i.size, i.bytes)) = some (some (.agg (we default).toArray), 513, 520) := by kernel_rfl
theorem devInfo : (Tryz.prog.info? 116).map (fun i => (i.zero, i.size, i.bytes)) = some (some (.agg #[.slice none 0 0, .slice none 0 0, .int .i64 0, .int .i64 0, .bool false]), 5, 72) := by kernel_rfl
theorem infoBlk : (Tryz.prog.info? 119).map (·.size) = some 256 := by kernel_rfl
theorem infoWr : (Tryz.prog.info? 122).map (·.size) = some 513 := by kernel_rfl

/-- A device, in plain words. -/
structure Dv where
  bs : List Bk
  ws : List Wr
  ops : Nat
  left : Int
  down : Bool
/-- What its numbers keep to. -/
structure Dv.Ok (D : Dv) : Prop where
  pos : 0 < D.bs.length
  most : D.bs.length ≤ 4096
  place : ∀ x ∈ D.ws, x.n < D.bs.length
  count : D.ws.length ≤ D.ops
  low : -1 ≤ D.left
  high : D.left ≤ 9223372036854775807

/-- Its five cells (ex: its blocks' room, and the cells behind them, that nothing reads). -/
def dc (gb : Nat) (ex : Nat × List Value) (v : Value) (D : Dv) : Array Value := #[.slice (some ⟨gb, 0, none⟩) D.bs.length ex.1, v, .int .i64 (D.ops : Int), .int .i64 D.left, .bool D.down]
/-- It lies at block p, with all that is its own in blocks that fit K. -/
def DevAt (w : World) (K : Nat → Prop) (p gb : Nat) (ex : Nat × List Value) (v : Value) (D : Dv) : Prop :=
  Box w p 116 (dc gb ex v D) ∧ Box w gb 119 (fl be D.bs ++ ex.2).toArray ∧ w.ownsRow 0 122 513 v D.ws.length (fl we D.ws) ∧ K p ∧ K gb ∧ ∀ k, v.ownBlock = some k → K k
def Dev (w : World) (K : Nat → Prop) (p : Nat) (D : Dv) : Prop := D.Ok ∧ ∃ gb ex v, DevAt w K p gb ex v D

/-- All blocks but those that fit K are as they were. -/
structure Touch (K : Nat → Prop) (w w' : World) : Prop where
  os : w'.os = w.os
  tape : w'.tape = w.tape
  output : w'.output = w.output
  size : w.heap.size ≤ w'.heap.size
  block : ∀ k, k < w.heap.size → ¬ K k → w'.heap[k]? = w.heap[k]?
section
variable {K K' : Nat → Prop} {w w' w'' : World}
theorem Touch.refl (K : Nat → Prop) (w : World) : Touch K w w := ⟨rfl, rfl, rfl, Nat.le_refl _, fun _ _ _ => rfl⟩
theorem Touch.trans (h : Touch K w w') (h' : Touch K w' w'') : Touch K w w'' :=
  ⟨h'.os.trans h.os, h'.tape.trans h.tape, h'.output.trans h.output, Nat.le_trans h.size h'.size, fun k hk hn => (h'.block k (Nat.lt_of_lt_of_le hk h.size) hn).trans (h.block k hk hn)⟩
theorem Touch.mono (h : Touch K w w') (hK : ∀ k, K k → K' k) : Touch K' w w' := ⟨h.os, h.tape, h.output, h.size, fun k hk hn => h.block k hk (fun e => hn (hK k e))⟩
theorem Touch.of_below (h : Below w.heap.size w w') : Touch K w w' := ⟨h.os, h.tape, h.output, h.size, fun k hk _ => h.block k hk⟩
theorem Touch.of_grown {row : Option Nat} (h : w.grownBy w' row) (hK : ∀ k, row = some k → K k) : Touch K w w' := ⟨h.os, h.tape, h.output, h.size, fun k hk hn => h.block k hk (fun e => hn (hK k e.symm))⟩
theorem Touch.below {B : Nat} (h : Touch K w w') (hK : ∀ k, K k → B ≤ k) (hB : B ≤ w.heap.size) : Below B w w' :=
  ⟨h.os, h.tape, h.output, h.size, fun k hk => h.block k (by omega) (fun e => by have := hK k e; omega)⟩
theorem Touch.set {p i : Nat} (hp : K p) (h : Touch K w w') (u : Value) : Touch K w (w'.setCell ⟨p, i, none⟩ u) :=
  ⟨h.os, h.tape, h.output, by simpa [World.setCell] using h.size, fun k hk hn => (Below.heap_setCell w' ⟨p, i, none⟩ u k (fun e => hn (by rw [e]; exact hp))).trans (h.block k hk hn)⟩
theorem Touch.alloc (h : Touch K w w') (o : Obj) : Touch K w (w'.alloc o) :=
  ⟨h.os, h.tape, h.output, by have := h.size; simp; omega, fun k hk hn => (Below.heap_alloc w' o k (Nat.lt_of_lt_of_le hk h.size)).trans (h.block k hk hn)⟩
theorem Touch.drew (h : Touch K w w') : Touch K w w'.drew := ⟨h.os, h.tape, h.output, h.size, h.block⟩
theorem Touch.drewN (h : Touch K w w') (n : Nat) : Touch K w (w'.drewN n) := ⟨h.os, h.tape, h.output, h.size, h.block⟩
theorem Touch.row {g : Nat} (hg : K g) (h : Touch K w w') (cs : Array Value) : Touch K w (w'.setRow g cs) :=
  ⟨h.os, h.tape, h.output, by rw [setRow_size]; exact h.size, fun k hk hn => (setRow_other w' g k cs (fun e => hn (by rw [e]; exact hg))).trans (h.block k hk hn)⟩
theorem Touch.box {g : Nat} {t : TypeId} {cs : Array Value} (h : Touch K w w') (hb : Box w g t cs) (hg : ¬ K g) : Box w' g t cs := (h.block g hb.lt hg).trans hb
theorem Touch.lies {N : Nat → Prop} {A : Option Addr} {n c : Nat} {xs : List Value} (h : Touch K w w') (hl : Lies w N A n c xs) (hN : ∀ b, N b → ¬ K b) : Lies w' N A n c xs :=
  hl.keep (fun p hp hk => World.cell?_of_block (w := w) (h.block p.block hk (hN _ hp))) h.size
/-- What touches other blocks leaves a device as it was. -/
theorem Touch.dev {p : Nat} {D : Dv} (h : Touch K w w') (hd : Dev w K' p D) (hK : ∀ k, K' k → ¬ K k) : Dev w' K' p D := by
  obtain ⟨ho, gb, ex, v, h1, h2, h3, h4, h5, h6⟩ := hd
  refine ⟨ho, gb, ex, v, h.box h1 (hK _ h4), h.box h2 (hK _ h5), ⟨h3.1, h3.2.imp id fun ⟨g, cap, cur, e1, e2, e3, e4⟩ => ⟨g, cap, cur, e1, e2, (h.block g (Array.getElem?_eq_some_iff.1 e3).1 (hK _ (h6 g (by rw [e1]; rfl)))).trans e3, e4⟩⟩, h4, h5, h6⟩
theorem Dev.weak {p : Nat} {D : Dv} (hd : Dev w K p D) (hK : ∀ k, K k → K' k) : Dev w K' p D := by
  obtain ⟨ho, gb, ex, v, h1, h2, h3, h4, h5, h6⟩ := hd
  exact ⟨ho, gb, ex, v, h1, h2, h3, hK _ h4, hK _ h5, fun k hk => hK _ (h6 k hk)⟩
theorem Dev.below {p : Nat} {D : Dv} (hd : Dev w K p D) (hb : Below w.heap.size w w') : Dev w' K p D :=
  (Touch.of_below (K := fun _ => False) hb).dev hd (fun _ _ h => h)
theorem Touch.trans' (h : Touch K w w') (h' : Touch K' w' w'') (hK : ∀ k, K' k → K k ∨ w.heap.size ≤ k) : Touch K w w'' :=
  ⟨h'.os.trans h.os, h'.tape.trans h.tape, h'.output.trans h.output, Nat.le_trans h.size h'.size, fun k hk hn => (h'.block k (Nat.lt_of_lt_of_le hk h.size) (fun e => (hK k e).elim hn (fun e => by omega))).trans (h.block k hk hn)⟩
/-- All that is a device's own is there. -/
theorem Dev.inside {p : Nat} {D : Dv} (hd : Dev w K p D) : Dev w (fun k => K k ∧ k < w.heap.size) p D := by
  obtain ⟨ho, gb, ex, v, h1, h2, h3, h4, h5, h6⟩ := hd
  exact ⟨ho, gb, ex, v, h1, h2, h3, ⟨h4, h1.lt⟩, ⟨h5, h2.lt⟩, fun k hk => ⟨h6 k hk, (World.ownsRow.lt h3 k hk).2⟩⟩
/-- What touches only what is new leaves a device as it was. -/
theorem Touch.dev_new {p : Nat} {D : Dv} (h : Touch K' w w') (hd : Dev w K p D) (hK : ∀ k, K' k → w.heap.size ≤ k) : Dev w' K p D :=
  (h.dev hd.inside (fun k h1 h2 => by have := hK k h2; omega)).weak (fun _ h => h.1)
theorem Dev.drewN {p : Nat} {D : Dv} (hd : Dev w K p D) (n : Nat) : Dev (w.drewN n) K p D := hd
end

/-- Blocks of zeros. -/
theorem madeBlks (n : Nat) : (madeCells (be default).toArray (n * 256)).toList = fl be (List.replicate n default) := by
  have h32 : (be (default : Bk)).toArray.size = 256 := be_size _
  refine List.ext_getElem? fun t => ?_
  unfold madeCells
  rw [h32]
  by_cases ht : t < n * 256
  · have hv : (be (default : Bk))[t % 256]? = some (be (default : Bk))[t % 256]! := by
      have : t % 256 < (be (default : Bk)).length := by rw [be_length]; omega
      rw [getElem!_pos _ (t % 256) this]
      simp [this]
    have h := fl_at be_length (List.replicate n (default : Bk)) (t / 256) default (by rw [List.getElem?_replicate, if_pos (by omega)]) (t % 256) _ hv
    rw [show t / 256 * 256 + t % 256 = t by omega] at h
    rw [h]
    simp [ht]
  · rw [List.getElem?_eq_none (by simp; omega), List.getElem?_eq_none (by rw [fl_length be_length]; simp; omega)]
end Go.Proofs.YtnhondkdkjehaaaGreat
namespace Go.Proofs.YtnhondkdkjehaaaGreat
open Go.RowKit

theorem DevAt.slice {w : World} {K : Nat → Prop} {p gb : Nat} {ex : Nat × List Value} {v : Value} {D : Dv} (h : DevAt w K p gb ex v D) : ∃ A c, v = .slice A D.ws.length c := by
  rcases h.2.2.1.2 with ⟨hv, hn⟩ | ⟨g, cap, cur, hv, _⟩
  · exact ⟨none, 0, by rw [hn]; exact hv⟩
  · exact ⟨_, cap, hv⟩

set_option maxHeartbeats 1000000 in
theorem made_nil (w : World) : Calls Tryz.prog 60 #[.pointer none] w fun e w' => e = .returned (.bool false) ∧ w' = w := by
  go_enter Tryz.func60, Tryz.ntmps60
  go_wp2
  go_ret
  exact ⟨rfl, rfl⟩
set_option maxHeartbeats 1000000 in
theorem made_bare (w : World) (p : Nat) (h0 : w.cell? ⟨p, 0, none⟩ = some (.slice none 0 0)) : Calls Tryz.prog 60 #[.pointer (some ⟨p, 0, none⟩)] w fun e w' => e = .returned (.bool false) ∧ w' = w := by
  go_enter Tryz.func60, Tryz.ntmps60
  go_wp2
  go_ret
  exact ⟨rfl, rfl⟩
set_option maxHeartbeats 1000000 in
theorem made_low (w : World) (p n c : Nat) (A : Option Addr) (h0 : w.cell? ⟨p, 0, none⟩ = some (.slice A n c)) (hn : 0 < n) : Calls Tryz.prog 60 #[.pointer (some ⟨p, 0, none⟩)] w fun e w' => e = .returned (.bool true) ∧ w' = w := by
  have h1 : decide ((n : Int) > 0) = true := by simp; omega
  have h2 : (0 : Int) < (n : Int) := by omega
  go_enter Tryz.func60, Tryz.ntmps60
  go_wp2
  go_ret
  exact ⟨rfl, rfl⟩
section
variable {w : World} {K : Nat → Prop} {p : Nat} {D : Dv}
theorem Dev.cell0 (h : Dev w K p D) : ∃ gb C, w.cell? ⟨p, 0, none⟩ = some (.slice (some ⟨gb, 0, none⟩) D.bs.length C) := by
  obtain ⟨_, gb, ex, v, h1, _⟩ := h
  exact ⟨gb, _, by rw [Box.cell h1]; rfl⟩
theorem made_yes (h : Dev w K p D) : Calls Tryz.prog 60 #[.pointer (some ⟨p, 0, none⟩)] w fun e w' => e = .returned (.bool true) ∧ w' = w := by
  obtain ⟨gb, C, h0⟩ := h.cell0
  exact made_low w p _ _ _ h0 h.1.pos
end
set_option maxHeartbeats 1000000 in
theorem has_low (w : World) (p n c : Nat) (A : Option Addr) (h0 : w.cell? ⟨p, 0, none⟩ = some (.slice A n c)) (i : Int) : Calls Tryz.prog 87 #[.pointer (some ⟨p, 0, none⟩), .int .i64 i] w fun e w' => e = .returned (.bool (decide (0 ≤ i ∧ i < n))) ∧ w' = w := by
  go_enter Tryz.func87, Tryz.ntmps87
  by_cases h1 : i ≥ 0
  · by_cases h2 : i < (n : Int)
    · rw [decide_eq_true (And.intro h1 h2)]
      go_wp2
      go_ret
      exact ⟨rfl, rfl⟩
    · rw [decide_eq_false (fun h => h2 h.2)]
      go_wp2
      go_ret
      exact ⟨rfl, rfl⟩
  · rw [decide_eq_false (fun h => h1 h.1)]
    go_wp2
    go_ret
    exact ⟨rfl, rfl⟩

/-- A call begins. -/
def Dv.call (D : Dv) : Dv := { D with ops := D.ops + 1, left := if D.left ≤ 0 then -1 else D.left - 1, down := D.down || decide (D.left = 0) }
theorem Dv.call_ok {D : Dv} (h : D.Ok) : D.call.Ok :=
  ⟨h.pos, h.most, h.place, Nat.le_succ_of_le h.count, by have := h.low; show -1 ≤ (if D.left ≤ 0 then (-1 : Int) else D.left - 1); split <;> omega, by have := h.high; show (if D.left ≤ 0 then (-1 : Int) else D.left - 1) ≤ _; split <;> omega⟩

set_option maxHeartbeats 1000000 in
/-- (*atomic.Int64).Add. -/
theorem add_low (w : World) (p i : Nat) (x : Int) (hc : w.cell? ⟨p, i, none⟩ = some (.int .i64 x)) (hz : w.frozen? ⟨p, i, none⟩ = false) (hx : 0 ≤ x) (hy : x ≤ 1000000) :
    Calls Tryz.prog 111 #[.pointer (some ⟨p, i, none⟩), .int .i64 1] w fun e w' => e = .returned (.int .i64 (x + 1)) ∧ w' = w.setCell ⟨p, i, none⟩ (.int .i64 (x + 1)) := by
  have hadd := run_call_add (P := Tryz.prog) Tryz.func134 (by kernel_rfl) (by kernel_rfl) (by kernel_rfl) .i64 (by kernel_rfl) (y := 1) (s := x + 1) hc hz (by
    have : IntKind.i64.wrap (x + 1) = x + 1 := IntWalk.i64_in _ (by omega)
    simp [Op.intArith, this])
  go_enter Tryz.func111, Tryz.ntmps111
  go_wp2
  go_ret
  exact ⟨rfl, rfl⟩
set_option maxHeartbeats 1000000 in
theorem load_low (w : World) (p i : Nat) (x : Int) (hc : w.cell? ⟨p, i, none⟩ = some (.int .i64 x)) :
    Calls Tryz.prog 64 #[.pointer (some ⟨p, i, none⟩)] w fun e w' => e = .returned (.int .i64 x) ∧ w' = w := by
  have hld := run_call_load (P := Tryz.prog) Tryz.func92 (by kernel_rfl) (by kernel_rfl) (by kernel_rfl) .i64 (by kernel_rfl) hc
  go_enter Tryz.func64, Tryz.ntmps64
  go_wp2
  go_ret
  exact ⟨rfl, rfl⟩
set_option maxHeartbeats 1000000 in
theorem store_low (w : World) (p i : Nat) (x : Int) (u : Value) (hc : w.cell? ⟨p, i, none⟩ = some u) (hz : w.frozen? ⟨p, i, none⟩ = false) :
    Calls Tryz.prog 63 #[.pointer (some ⟨p, i, none⟩), .int .i64 x] w fun e w' => e = .returned (.tuple #[]) ∧ w' = w.setCell ⟨p, i, none⟩ (.int .i64 x) := by
  have hst := run_call_store (P := Tryz.prog) Tryz.func91 (by kernel_rfl) (by kernel_rfl) (by kernel_rfl) (by kernel_rfl) (k := .i64) (y := x) hc hz
  go_enter Tryz.func63, Tryz.ntmps63
  go_wp2
  go_end0
  exact ⟨rfl, rfl⟩

set_option maxHeartbeats 2000000 in
theorem call_low (w : World) (p : Nat) (b v : Value) (ops left : Int) (down : Bool) (hb : Box w p 116 #[b, v, .int .i64 ops, .int .i64 left, .bool down]) (h0 : 0 ≤ ops) (h1 : ops ≤ 1000000) (hl : -1 ≤ left) (hh : left ≤ 9223372036854775807) :
    Calls Tryz.prog 88 #[.pointer (some ⟨p, 0, none⟩)] w fun e w' => e = .returned (.bool (!(down || decide (left = 0)))) ∧
      Box w' p 116 #[b, v, .int .i64 (ops + 1), .int .i64 (if left ≤ 0 then -1 else left - 1), .bool (down || decide (left = 0))] ∧ w.grownBy w' (some p) := by
  have hnot : ∀ (x : Bool) (w : World), (Op.unary .not (.bool x)).run Tryz.prog w = .ok (.bool (!x)) w := fun _ _ => rfl
  have c2 : w.cell? ⟨p, 2, none⟩ = some (.int .i64 ops) := by rw [Box.cell hb]; rfl
  have f2 := Box.frozen hb 2
  have hA := add_low w p 2 ops c2 f2 h0 h1
  have hb2 := Box.put hb 2 (.int .i64 (ops + 1))
  simp only [List.setIfInBounds_toArray, List.set_cons_zero, List.set_cons_succ] at hb2
  have hg2 := grown_set (grown_refl w (some p)) 2 (.int .i64 (ops + 1))
  generalize hw2 : w.setCell ⟨p, 2, none⟩ (.int .i64 (ops + 1)) = w2 at hA hb2 hg2
  have c3 : w2.cell? ⟨p, 3, none⟩ = some (.int .i64 left) := by rw [Box.cell hb2]; rfl
  have c4 : w2.cell? ⟨p, 4, none⟩ = some (.bool down) := by rw [Box.cell hb2]; rfl
  have f3 := Box.frozen hb2 3
  have f4 := Box.frozen hb2 4
  clear hw2
  have HB := Lib.hid hb2
  have HG := Lib.hid hg2
  clear hb2 hg2 hb
  rcases Int.lt_trichotomy left 0 with h | h | h
  · obtain rfl : left = -1 := by omega
    go_enter Tryz.func88, Tryz.ntmps88
    go_wp2_with (go_at_call 111; refine hA.mono ?_; rintro e w' ⟨rfl, rfl⟩)
    go_ret
    have hb3 := Box.put HB.out 3 (.int .i64 (-1))
    simp only [List.setIfInBounds_toArray, List.set_cons_zero, List.set_cons_succ] at hb3
    refine ⟨by simp, by simpa using hb3, grown_set HG.out 3 _⟩
  · subst h
    go_enter Tryz.func88, Tryz.ntmps88
    go_wp2_with (go_at_call 111; refine hA.mono ?_; rintro e w' ⟨rfl, rfl⟩)
    go_ret
    have hb3 := Box.put (Box.put HB.out 4 (.bool true)) 3 (.int .i64 (-1))
    simp only [List.setIfInBounds_toArray, List.set_cons_zero, List.set_cons_succ] at hb3
    refine ⟨by simp, by simpa using hb3, grown_set (grown_set HG.out 4 _) 3 _⟩
  · have e1 : (left == 0) = false := by simp; omega
    have e2 : ¬ left ≤ 0 := by omega
    have e3 : decide (left = 0) = false := by simp; omega
    have e4 : -1 ≤ left - 1 := by omega
    have e5 : ¬ left - 1 < -1 := by omega
    rw [if_neg e2, e3]
    clear e3 e2
    go_enter Tryz.func88, Tryz.ntmps88
    go_wp2_with (go_at_call 111; refine hA.mono ?_; rintro e w' ⟨rfl, rfl⟩)
    go_ret
    have hb3 := Box.put HB.out 3 (.int .i64 (left - 1))
    simp only [List.setIfInBounds_toArray, List.set_cons_zero, List.set_cons_succ] at hb3
    refine ⟨by simp, by simpa using hb3, grown_set HG.out 3 _⟩

/-- A device of which the first block alone is turned. -/
theorem DevAt.turn {w w' : World} {K : Nat → Prop} {p gb : Nat} {ex : Nat × List Value} {v : Value} {D D' : Dv} (h : DevAt w K p gb ex v D) (hg : w.grownBy w' (some p)) (hb : Box w' p 116 (dc gb ex v D')) (e1 : D'.bs = D.bs) (e2 : D'.ws = D.ws) : DevAt w' K p gb ex v D' := by
  obtain ⟨h1, h2, h3, h4, h5, h6⟩ := h
  refine ⟨hb, ?_, ?_, h4, h5, h6⟩
  · rw [e1]
    refine Box.grown h2 hg (fun e => ?_)
    obtain rfl : gb = p := by injection e
    have := (show w.heap[gb]? = _ from h1).symm.trans h2
    simp at this
  · rw [e2]
    exact World.ownsRow.kept h3 hg (.inr (Box.apart h1 h3 (by decide)))
section
variable {w : World} {K : Nat → Prop} {p : Nat} {D : Dv}
theorem call_says (h : Dev w K p D) (ho : D.ops ≤ 100000) :
    Calls Tryz.prog 88 #[.pointer (some ⟨p, 0, none⟩)] w fun e w' => e = .returned (.bool (!D.call.down)) ∧ Dev w' K p D.call ∧ Touch K w w' := by
  obtain ⟨hk, gb, ex, v, hd⟩ := h
  refine (call_low w p _ _ _ _ _ hd.1 (by omega) (by omega) hk.low hk.high).mono ?_
  rintro e w' ⟨rfl, hb, hg⟩
  exact ⟨rfl, ⟨Dv.call_ok hk, gb, ex, v, hd.turn hg hb rfl rfl⟩, Touch.of_grown hg (fun k e => by injection e with e; rw [← e]; exact hd.2.2.2.1)⟩
set_option maxHeartbeats 1000000 in
theorem len_says (h : Dev w K p D) : Calls Tryz.prog 49 #[.pointer (some ⟨p, 0, none⟩)] w fun e w' => e = .returned (.int .i64 (D.bs.length : Int)) ∧ w' = w := by
  have hM := made_yes h
  obtain ⟨gb, C, h0⟩ := h.cell0
  clear h
  generalize D.bs.length = n at *
  go_enter Tryz.func49, Tryz.ntmps49
  go_wp2_with (go_at_call 60; refine hM.mono ?_; rintro e w' ⟨rfl, rfl⟩)
  go_ret
  exact ⟨rfl, rfl⟩
set_option maxHeartbeats 1000000 in
theorem down_says (h : Dev w K p D) : Calls Tryz.prog 56 #[.pointer (some ⟨p, 0, none⟩)] w fun e w' => e = .returned (.bool D.down) ∧ w' = w := by
  have hM := made_yes h
  obtain ⟨_, gb, ex, v, h1, _⟩ := h
  have h4 : w.cell? ⟨p, 4, none⟩ = some (.bool D.down) := by rw [Box.cell h1]; rfl
  clear h1
  generalize D.down = n at *
  go_enter Tryz.func56, Tryz.ntmps56
  go_wp2_with (go_at_call 60; refine hM.mono ?_; rintro e w' ⟨rfl, rfl⟩)
  go_ret
  exact ⟨rfl, rfl⟩
end
end Go.Proofs.YtnhondkdkjehaaaGreat
