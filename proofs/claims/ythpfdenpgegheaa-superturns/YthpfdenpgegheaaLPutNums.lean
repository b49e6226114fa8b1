/-
  lay's behind, PutNumber, PutText: numbers and texts, laid behind bytes, in new memory.
-/
import Derived.Test.YthpfdenpgegheaaLPut
import Derived.Laws.AppendOwnNone
namespace Go.Proofs.Ythpfdenpgegheaa.Lay
open Go.RowKit

/-- A slice that is read: the value V leads to the cells xs, which lie below block B (nil too). -/
def Sl (w : World) (B : Nat) (V : Value) (xs : List Value) : Prop :=
  (V = .slice none 0 0 ∧ xs = []) ∨ ∃ ad c, V = .slice (some ad) xs.length c ∧ ∀ j u, xs[j]? = some u → ad.block < B ∧ w.cell? (ad.add j) = some u

theorem add_block (a : Addr) (n : Nat) : (a.add n).block = a.block := by
  unfold Addr.add
  split <;> rfl

section
variable {w w' : World} {B : Nat} {V : Value} {xs : List Value}
theorem Sl.keep (h : Sl w B V xs) (hk : ∀ p : Addr, p.block < B → w'.cell? p = w.cell? p) : Sl w' B V xs := by
  rcases h with h | ⟨ad, c, hV, hc⟩
  · exact .inl h
  · refine .inr ⟨ad, c, hV, fun j u hu => ?_⟩
    obtain ⟨h1, h2⟩ := hc j u hu
    exact ⟨h1, (hk _ (by rw [add_block]; exact h1)).trans h2⟩
theorem Sl.below (h : Sl w B V xs) (hb : Below B w w') : Sl w' B V xs := h.keep fun _ hp => hb.cell hp
theorem Sl.wide {B' : Nat} (h : Sl w B V xs) (hB : B ≤ B') : Sl w B' V xs := by
  rcases h with h | ⟨ad, c, hV, hc⟩
  · exact .inl h
  · exact .inr ⟨ad, c, hV, fun j u hu => ⟨Nat.lt_of_lt_of_le (hc j u hu).1 hB, (hc j u hu).2⟩⟩
theorem Sl.form (h : Sl w B V xs) : ∃ A c, V = .slice A xs.length c ∧ ∀ j u, xs[j]? = some u → ∃ b off, A = some ⟨b, off, none⟩ ∧ b < B ∧ w.cell? ⟨b, off + j, none⟩ = some u := by
  rcases h with ⟨rfl, rfl⟩ | ⟨⟨b, off, spot⟩, c, rfl, hc⟩
  · exact ⟨none, 0, rfl, fun j u hu => by simp at hu⟩
  · refine ⟨some ⟨b, off, spot⟩, c, rfl, fun j u hu => ?_⟩
    obtain ⟨h1, h2⟩ := hc j u hu
    have hj : j < xs.length := by
      rcases Nat.lt_or_ge j xs.length with h | h
      · exact h
      · rw [List.getElem?_eq_none h] at hu
        cases hu
    have h0 := (hc 0 xs[0] (List.getElem?_eq_getElem (by omega))).2
    have hs : spot = none := by simpa [Addr.add] using World.cell?_spot h0
    subst hs
    refine ⟨b, off, rfl, h1, ?_⟩
    rw [← h2]
    congr 1
    unfold Addr.add
    split
    · rename_i h
      subst h
      rfl
    · rfl
theorem Sl.own {base : Nat} {v : Value} {l : List UInt8} (h : Own w base v l) : Sl w w.heap.size v (bc l) := by
  have hlt := World.ownsRow.lt h
  rcases h.2 with ⟨hv, hn⟩ | ⟨g, cap, cur, hv, _⟩
  · refine .inl ⟨hv, ?_⟩
    have : l = [] := List.eq_nil_of_length_eq_zero hn
    subst this
    rfl
  · subst hv
    refine .inr ⟨⟨g, 0, none⟩, cap, by rw [bc_length], fun j u hu => ⟨(hlt g rfl).2, World.ownsRow.cells h (g := g) rfl j u hu⟩⟩
end

def BehindPost (l : List UInt8) (w : World) (r : Ending) (w' : World) : Prop := ∃ v', r = .returned v' ∧ Own w' w.heap.size v' l ∧ Below w.heap.size w w'

theorem behind_any (V : Value) (l : List UInt8) (room : Nat) (w : World) (h : Sl w w.heap.size V (bc l)) (hl : l.length + room ≤ 2147483648) :
    Calls Try.prog 62 #[V, .int .i64 room] w (BehindPost l w) := by
  obtain ⟨i0, hi, hz0, hz1, hz2⟩ := info_parts Try.byteInfo
  have hl1 : l.length ≤ 2147483648 := by omega
  have hl2 : room ≤ 2147483648 := by omega
  rcases h with ⟨rfl, hb⟩ | ⟨ad, c, rfl, hc⟩
  · have : l = [] := by
      cases l with
      | nil => rfl
      | cons => simp [bc] at hb
    subst this
    clear hb
    go_enter Try.func62, Try.ntmps62
    go_wp2_with (first
      | (at_make; refine wpList_make_own _ rfl _ _ 22 rfl w.heap.size 5 i0 (.int .u8 0) 1 Try.underlying22 hi hz0 hz1 _ _ _ room rfl rfl (by omega) (by rw [hz2]; omega) (by unfold maxLen; omega) (Nat.le_refl _) ?_; intro w1 hown1 hg1)
      | (at_builtin; refine wpList_append_own_none rfl (.tmp 9) (.tmp 10) 22 rfl w.heap.size 5 i0 1 Try.underlying22 hi _ 0 [] rfl hown1 rfl ?_))
    go_ret
    exact ⟨_, rfl, hown1, (Below.refl _ w).grown hg1 (Nat.le_refl _) (fun k hk => by cases hk)⟩
  · rw [bc_length]
    have HC := Lib.hid hc
    clear hc
    go_enter Try.func62, Try.ntmps62
    go_wp2_with (first
      | (at_make; refine wpList_make_own _ rfl _ _ 22 rfl w.heap.size 5 i0 (.int .u8 0) 1 Try.underlying22 hi hz0 hz1 _ _ _ (l.length + room) rfl rfl (by omega) (by rw [hz2]; omega) (by unfold maxLen; omega) (Nat.le_refl _) ?_; intro w1 hown1 hg1; have HG1 := Lib.hid ((Below.refl w.heap.size w).grown hg1 (Nat.le_refl _) (fun k hk => by cases hk)); clear hg1)
      | (at_builtin; refine wpList_append_own _ rfl (.tmp 9) (.tmp 10) 22 rfl w.heap.size 5 i0 (.int .u8 0) 1 1 Try.underlying22 hi hz0 hz1 hz2 rfl (by decide) _ 0 [] rfl hown1 ad l.length c (bc l) rfl (by rw [bc_length, Nat.mul_one]) (fun j u hu => (HG1.out.cell (by rw [add_block]; exact (HC.out j u hu).1)).trans (HC.out j u hu).2) (bc_one l) (by unfold maxLen; omega) (by omega) HG1.out.size ?_; intro v2 w2 hown2 hg2 hnil2))
    go_ret
    refine ⟨_, rfl, ?_, HG1.out.trans (Own.below (l := []) hown1 hg2 HG1.out.size)⟩
    unfold Own
    simpa using hown2

/-- Numbers as cells; numbers, laid. -/
def nc (vs : List Nat) : List Value := vs.map fun x : Nat => Value.int .u64 (x : Int)
def encNums (vs : List Nat) : List UInt8 := (vs.map encNum).flatten
theorem nc_length (vs : List Nat) : (nc vs).length = vs.length := by simp [nc]
theorem encNums_snoc (vs : List Nat) (k : Nat) (h : k < vs.length) : encNums (vs.take (k + 1)) = encNums (vs.take k) ++ encNum vs[k] := by
  unfold encNums
  rw [List.take_succ_eq_append_getElem h, List.map_append, List.flatten_append]
  simp only [List.map_cons, List.map_nil, List.flatten_cons, List.flatten_nil, List.append_nil]
theorem encNums_length (vs : List Nat) (h : ∀ x ∈ vs, x < 18446744073709551616) : (encNums vs).length ≤ 9 * vs.length := by
  induction vs with
  | nil => simp [encNums]
  | cons x vs ih =>
    have h1 := ih (fun y hy => h y (List.mem_cons_of_mem _ hy))
    have h2 := many_le x (h x (List.mem_cons_self ..))
    have e : encNums (x :: vs) = encNum x ++ encNums vs := by simp [encNums]
    rw [e, List.length_append, encNum_length, List.length_cons]
    omega

def PutPost (l : List UInt8) (w : World) (r : Ending) (w' : World) : Prop := ∃ v', r = .returned v' ∧ Own w' w.heap.size v' l ∧ Below w.heap.size w w'

theorem putNumber_any (V U : Value) (l : List UInt8) (vs : List Nat) (w : World) (hV : Sl w w.heap.size V (bc l)) (hU : Sl w w.heap.size U (nc vs)) (hv : ∀ x ∈ vs, x < 18446744073709551616) (hl : l.length + 9 * vs.length ≤ 1073741824) :
    Calls Try.prog 54 #[V, U] w (PutPost (l ++ encNums vs) w) := by
  obtain ⟨A, c, rfl, hA⟩ := hU.form
  rw [nc_length]
  have HA := Lib.hid hA
  have HV := Lib.hid hV
  have Hv := Lib.hid hv
  clear hA hU hV hv
  have hvl : vs.length ≤ 1073741824 := by omega
  go_enter Try.func54, Try.ntmps54
  go_wp2_with fail
  rw [show (9 * (vs.length : Int)) = ((9 * vs.length : Nat) : Int) from by omega]
  refine (behind_any V l (9 * vs.length) w HV.out (by omega)).mono ?_
  rintro r w1 ⟨v1, rfl, hown1, hbel1⟩
  have HO1 := Lib.hid hown1
  have HB1 := Lib.hid hbel1
  clear hown1 hbel1
  go_wp2_with fail
  go_loopw [5, 15] (fun o i wr => ∃ k : Nat, k ≤ vs.length ∧ i = .int .i64 (k : Int) ∧ Own wr w.heap.size o (l ++ encNums (vs.take k)) ∧ Below w.heap.size w wr) (fun _ i _ => vs.length - (intOf i).toNat)
  case atStart => exact ⟨0, Nat.zero_le _, rfl, by simpa [encNums] using HO1.out, HB1.out⟩
  case round =>
    obtain ⟨k, hk, rfl, hown, hbel⟩ := hrel
    by_cases hlt : k < vs.length
    · have hx : (nc vs)[k]? = some (.int .u64 (vs[k] : Int)) := by simp [nc, hlt]
      obtain ⟨b, off, rfl, hbB, hcell⟩ := HA.out k _ hx
      have hcr : wr.cell? ⟨b, off + k, none⟩ = some (.int .u64 (vs[k] : Int)) := (hbel.cell (p := ⟨b, off + k, none⟩) hbB).trans hcell
      have hxlt : vs[k] < 18446744073709551616 := Hv.out _ (List.getElem_mem hlt)
      have hlen : (l ++ encNums (vs.take k)).length ≤ 2147483648 := by
        have h1 := encNums_length (vs.take k) (fun x hx => Hv.out x (List.mem_of_mem_take hx))
        have h2 := List.length_take_le k vs
        rw [List.length_append]
        omega
      have hsn := encNums_snoc vs k hlt
      have HSN := Lib.hid hsn
      have hsz := hbel.size
      have HC := Lib.hid (addNumber_any w.heap.size u5 (l ++ encNums (vs.take k)) vs[k] wr hown hsz hxlt hlen)
      have HBL := Lib.hid hbel
      clear hsn hcell hx hown hbel hxlt hlen HO1 HB1
      generalize vs[k] = xk at *
      go_wp2_with fail
      refine HC.out.mono ?_
      rintro r w2 ⟨v2, rfl, hown2, hbel2⟩
      have HO2 := Lib.hid hown2
      have HB2 := Lib.hid (HBL.out.trans hbel2)
      clear hown2 hbel2
      go_wp2
      go_roundw
      case rel =>
        refine ⟨k + 1, by omega, by go_num, ?_, HB2.out⟩
        rw [HSN.out, ← List.append_assoc]
        exact HO2.out
      case measure => simp [intOf]; omega
    · obtain rfl : k = vs.length := by omega
      rw [List.take_length] at hown
      go_wp2
      go_ret
      exact ⟨_, rfl, hown, hbel⟩

/-- Texts as cells; texts, laid. -/
def tc (ts : List ByteArray) : List Value := ts.map fun t => Value.string t
def encTexts (ts : List ByteArray) : List UInt8 := (ts.map fun t => encText t.data.toList).flatten
def sizes (ts : List ByteArray) : Nat := (ts.map ByteArray.size).sum
theorem tc_length (ts : List ByteArray) : (tc ts).length = ts.length := by simp [tc]
theorem encTexts_snoc (ts : List ByteArray) (k : Nat) (h : k < ts.length) : encTexts (ts.take (k + 1)) = encTexts (ts.take k) ++ encText ts[k].data.toList := by
  unfold encTexts
  rw [List.take_succ_eq_append_getElem h, List.map_append, List.flatten_append]
  simp only [List.map_cons, List.map_nil, List.flatten_cons, List.flatten_nil, List.append_nil]
theorem sizes_snoc (ts : List ByteArray) (k : Nat) (h : k < ts.length) : sizes (ts.take (k + 1)) = sizes (ts.take k) + ts[k].size := by
  unfold sizes
  rw [List.take_succ_eq_append_getElem h, List.map_append, List.sum_append]
  simp
theorem sizes_take (ts : List ByteArray) (k : Nat) : sizes (ts.take k) ≤ sizes ts := by
  have h : sizes ts = sizes (ts.take k) + sizes (ts.drop k) := by
    unfold sizes
    rw [← List.sum_append, ← List.map_append, List.take_append_drop]
  omega
theorem size_le_sizes {ts : List ByteArray} {t : ByteArray} (h : t ∈ ts) : t.size ≤ sizes ts := by
  induction ts with
  | nil => cases h
  | cons x ts ih =>
    have e : sizes (x :: ts) = x.size + sizes ts := by simp [sizes]
    rcases List.mem_cons.1 h with rfl | h
    · omega
    · have := ih h
      omega
theorem size_data (t : ByteArray) : t.data.toList.length = t.size := by rw [Array.length_toList]; rfl
theorem encTexts_length (ts : List ByteArray) (h : sizes ts ≤ 1073741824) : (encTexts ts).length ≤ 9 * ts.length + sizes ts := by
  induction ts with
  | nil => simp [encTexts]
  | cons x ts ih =>
    have e : sizes (x :: ts) = x.size + sizes ts := by simp [sizes]
    have h1 := ih (by omega)
    have h2 := many_le x.size (by omega)
    have e2 : encTexts (x :: ts) = encText x.data.toList ++ encTexts ts := by simp [encTexts]
    rw [e2, List.length_append, encText, List.length_append, encNum_length, size_data, List.length_cons, e]
    omega

end Go.Proofs.Ythpfdenpgegheaa.Lay
