/-
  The shards that are there: a clone of all of them, without those that are nil.
-/
import Derived.Test.YtpbkabgjpieggaaMend
namespace Go.Proofs.Ytpbkabgjpieggaa
open Go.RowKit Go.Sort

/-- A row of shards of the call's own. -/
def OwnS (w : World) (base : Nat) (v : Value) (zs : List (Option Addr × Nat × Nat)) : Prop := w.ownsRow base 31 1 v zs.length (zs.map encS)
/-- What lies at these values. -/
def Rel (w : World) (zs : List (Option Addr × Nat × Nat)) (S : List (Option (List UInt8))) : Prop := zs.length = S.length ∧ ∀ (j : Nat) (s : Option (List UInt8)), S[j]? = some s → ShRow w (encS zs[j]!) s ∧ zs[j]!.1.isNone = s.isNone
/-- The shards that are there. -/
def thereL (S : List (Option (List UInt8))) : List (List UInt8) := S.filterMap id
theorem encS_one (x : Option Addr × Nat × Nat) : (encS x).oneCell' = true := rfl
theorem rel_there {w : World} : ∀ {zs : List (Option Addr × Nat × Nat)} {S : List (Option (List UInt8))}, Rel w zs S → (zs.filter (fun x => !x.1.isNone)).length = (thereL S).length ∧ ∀ (i : Nat) (l : List UInt8), (thereL S)[i]? = some l → ∃ z, (zs.filter (fun x => !x.1.isNone))[i]? = some z ∧ ShRow w (encS z) (some l)
  | [], [], _ => ⟨rfl, fun i l h => by simp [thereL] at h⟩
  | [], s :: S, h => absurd h.1 (by simp)
  | z :: zs, [], h => absurd h.1 (by simp)
  | z :: zs, s :: S, h => by
    have h0 := h.2 0 s rfl
    have ht : Rel w zs S := ⟨by have := h.1; simpa using this, fun j s' hs => by
      have := h.2 (j + 1) s' (by simpa using hs)
      simpa using this⟩
    obtain ⟨i1, i2⟩ := rel_there ht
    cases s with
    | none =>
      have hz : z.1.isNone = true := by simpa using h0.2
      rw [List.filter_cons_of_neg (by simp [hz])]
      exact ⟨by rw [i1]; rfl, i2⟩
    | some l0 =>
      have hz : z.1.isNone = false := by simpa using h0.2
      rw [List.filter_cons_of_pos (by simp [hz])]
      refine ⟨by rw [List.length_cons, i1]; rfl, fun i l hl => ?_⟩
      cases i with
      | zero =>
        have hl' : l0 = l := by simpa [thereL] using hl
        subst hl'
        exact ⟨z, rfl, by simpa using h0.1⟩
      | succ i => exact i2 i l (by simpa [thereL] using hl)
set_option maxRecDepth 100000 in
set_option maxHeartbeats 1000000 in
theorem cloneS_says (w : World) (A : Option Addr) (n c : Nat) (S : List (Option (List UInt8))) (h : Shd w A n c S) (hn : n ≤ 2000) : Calls Try.prog 32 #[.slice A n c] w fun e w' => ∃ v zs, e = .returned v ∧ OwnS w' w.heap.size v zs ∧ Rel w zs S ∧ Below w.heap.size w w' := by
  have q22 : ∀ (w : World) (a : Option Addr) (n c n' c' : Nat), (binOp .eql 22 (.slice a n c) (.slice none n' c')).run Try.prog w = .ok (.bool a.isNone) w := fun w a n c n' c' => Lib.run_eql_slice_nil w _ _ a n c n' c' Try.underlying22
  obtain ⟨i0, hi, hz0, hz1, hz2⟩ := info_parts rowInfo
  rcases A with _ | ad
  · obtain rfl : n = 0 := by
      rcases Nat.eq_zero_or_pos n with h' | h'
      · exact h'
      · obtain ⟨_, _, he, _⟩ := h.2.2 h'
        cases he
    obtain rfl : S = [] := List.eq_nil_of_length_eq_zero h.len
    go_enter Try.func32, Try.ntmps32
    go_wp2
    go_ret
    exact ⟨_, [], rfl, World.ownsRow_nil w _ _ 1, ⟨rfl, fun j s hs => by simp at hs⟩, Below.refl _ _⟩
  · obtain ⟨zs, hzl, hzc, hzr⟩ : ∃ zs : List (Option Addr × Nat × Nat), zs.length = n ∧ (∀ (j : Nat) (u : Value), (zs.map encS)[j]? = some u → (w.alloc (.cells #[] 31)).cell? (ad.add j) = some u) ∧ Rel w zs S := by
      rcases Nat.eq_zero_or_pos n with h' | h'
      · subst h'
        obtain rfl : S = [] := List.eq_nil_of_length_eq_zero h.len
        exact ⟨[], rfl, fun j u hu => by simp at hu, rfl, fun j s hs => by simp at hs⟩
      · obtain ⟨b, off, zs, hA, hb, hl, hc, hs⟩ := h.vals h'
        cases hA
        refine ⟨zs, hl, fun j u hu => ?_, by rw [hl, h.len], hs⟩
        have hj := (List.getElem?_eq_some_iff.1 hu).1
        rw [List.length_map] at hj
        have h1 := hc j hj
        rw [List.getElem?_map, List.getElem?_eq_getElem hj] at hu
        rw [getElem!_pos zs j hj] at h1
        cases hu
        rw [Addr.add_mid]
        exact (((Below.refl _ w).alloc (Nat.le_refl _) _).cell (p := ⟨b, off + j, none⟩) hb).trans h1
    have HO := Lib.hid (show (w.alloc (.cells #[] 31)).ownsRow w.heap.size 31 1 (.slice (some ⟨w.heap.size, 0, none⟩) 0 0) 0 [] from World.ownsRow_made w #[] 0 (Nat.le_refl _) (Nat.zero_le _) rfl)
    have HB := Lib.hid (show Below w.heap.size w (w.alloc (.cells #[] 31)) from (Below.refl _ w).alloc (Nat.le_refl _) _)
    have HZ := Lib.hid (And.intro hzc hzr)
    clear h hzc hzr
    go_enter Try.func32, Try.ntmps32
    go_wp2_with (at_builtin; refine wpList_append_own _ rfl _ _ 22 rfl w.heap.size 31 i0 (.slice none 0 0) 1 24 Try.underlying22 hi hz0 hz1 hz2 rfl (by decide) _ 0 [] rfl HO.out ad n c (zs.map encS) rfl (by simp [hzl]) HZ.out.1 (by intro u hu; obtain ⟨x, _, rfl⟩ := List.mem_map.1 hu; rfl) (by unfold maxLen; omega) (by omega) (by simp) ?_; intro v9 w9 ho9 hg9 _; have HO9 := Lib.hid (And.intro ho9 hg9); clear ho9 hg9)
    go_ret
    refine ⟨v9, zs, rfl, ?_, HZ.out.2, HB.out.trans ((Below.refl w.heap.size (w.alloc (.cells #[] 31))).grown HO9.out.2 (by simp) (fun k hk => by cases hk; exact Nat.le_refl _))⟩
    have := HO9.out.1
    rw [List.nil_append, Nat.zero_add, ← hzl] at this
    exact this
set_option maxRecDepth 100000 in
theorem delete_nil (w : World) (fv : Value) : Calls Try.prog 31 #[.slice none 0 0, fv] w fun e w' => e = .returned (.slice none 0 0) ∧ w' = w := by
  have HI := Lib.hid (AnyE.slices_IndexFunc_empty (P := Try.prog) (ρ := Try.containsL_ren) { Try.containsL with } none 0 fv w)
  change Hid (Calls Try.prog 34 _ _ _) at HI
  go_enter Try.func31, Try.ntmps31
  go_wp2_with (go_at_call 34; refine HI.out.mono ?_; rintro e wn ⟨rfl, hwn⟩; obtain rfl : w = wn := hwn.symm)
  go_ret
  exact ⟨rfl, rfl⟩
theorem heap_putRow (w : World) (q g : Nat) (d : Array (Option Addr × Nat × Nat)) (j : Nat) (h : j ≠ g) : (putRow encS (Sort.ahead w q) g 0 d).heap[j]? = w.heap[j]? := by
  simp only [putRow, mapBlock, Array.getElem?_modify]
  rw [if_neg (fun e => h e.symm)]
  rfl
set_option maxHeartbeats 1000000 in
/-- Those that are there are handed back. -/
theorem delete_says (w0 w : World) (v : Value) (zs : List (Option Addr × Nat × Nat)) (S : List (Option (List UInt8))) (hv : OwnS w w0.heap.size v zs) (hr : Rel w0 zs S) (hb : Below w0.heap.size w0 w) (hn : zs.length ≤ 2000) : Calls Try.prog 31 #[v, .func (.func 22) #[] #[]] w fun e w' => ∃ A n c, e = .returned (.slice A n c) ∧ Mtx w' A n c (thereL S) ∧ Below w0.heap.size w0 w' := by
  obtain ⟨hr1, hr2⟩ := rel_there hr
  rcases hv.2 with ⟨rfl, h0⟩ | ⟨g, cap, cur, rfl, hg, hh, hnc, hcm, hcs, htk⟩
  · refine (delete_nil w _).mono ?_
    rintro e w' ⟨rfl, rfl⟩
    obtain rfl : zs = [] := List.eq_nil_of_length_eq_zero h0
    obtain rfl : S = [] := List.eq_nil_of_length_eq_zero (by rw [← hr.1]; rfl)
    exact ⟨_, _, _, rfl, Mtx.nil _ _ _, hb⟩
  · have hbox : Box w g 31 cur := hh
    have hH : Holds encS w g 0 zs.toArray := fun j hj => by
      have hj' : j < zs.length := by simpa using hj
      refine ⟨?_, hbox.frozen _⟩
      have := World.ownsRow.cells hv (g := g) rfl j (encS zs[j]) (by simp [hj'])
      rw [Addr.add_mid] at this
      rw [this]
      simp [hj']
    have hD := AnyE.slices_DeleteFunc Try.deleteL encS encS_one (fun x => x.1.isNone) 22 #[] enters_missing (none, 0, 0) Try.zeroValue31 g 0 cap zs.toArray w (missing_at w) (missing_over _ _ _ _) hH (by simp; omega) (by simpa using hnc)
    obtain ⟨fs, hfs⟩ : ∃ f : List (Option Addr × Nat × Nat), zs.filter (fun (x : Option Addr × Nat × Nat) => !x.1.isNone) = f := ⟨_, rfl⟩
    have hle : fs.length ≤ zs.length := by rw [← hfs]; exact List.length_filter_le _ _
    rw [hfs] at hr1 hr2
    have hD' : Calls Try.prog 31 #[.slice (some ⟨g, 0, none⟩) zs.length cap, .func (.func 22) #[] #[]] w fun e w' => e = .returned (.slice (some ⟨g, 0, none⟩) fs.length cap) ∧ ∃ q, w' = putRow encS (Sort.ahead w q) g 0 (fs ++ List.replicate (zs.length - fs.length) (none, 0, 0)).toArray := by
      rw [← hfs]
      exact hD
    clear hD hfs
    obtain ⟨d, hd⟩ : ∃ d, fs ++ List.replicate (zs.length - fs.length) (none, 0, 0) = d := ⟨_, rfl⟩
    have hdl : d.length = zs.length := by rw [← hd]; simp; omega
    have hdz : ∀ (i : Nat) (z : Option Addr × Nat × Nat), fs[i]? = some z → d[i]? = some z := fun i z hz => by rw [← hd, List.getElem?_append_left (List.getElem?_eq_some_iff.1 hz).1, hz]
    rw [hd] at hD'
    clear hd
    refine hD'.mono ?_
    rintro e w' ⟨rfl, q, rfl⟩
    have hB : Below w0.heap.size w0 (putRow encS (Sort.ahead w q) g 0 d.toArray) :=
      ⟨hb.os, hb.tape, hb.output, by rw [size_putRow]; exact hb.size, fun j hj => by rw [heap_putRow w q g _ j (by omega)]; exact hb.block j hj⟩
    refine ⟨_, _, _, rfl, ⟨hr1.symm, by omega, fun _ => ⟨g, 0, rfl, by rw [size_putRow]; exact hbox.lt, fun i l hl => ?_⟩⟩, hB⟩
    obtain ⟨z, hz, ad, ci, he, hlies⟩ := hr2 i l hl
    have hi := (List.getElem?_eq_some_iff.1 (hdz i z hz)).1
    have hc := cell?_putRow encS (Sort.ahead w q) g 0 zs.toArray d.toArray hH (by simp [hdl]) i (by simpa using hi)
    refine ⟨some ad, ci, ?_, hlies.below hB⟩
    refine Eq.trans hc ?_
    rw [← he]
    have h3 := hdz i z hz
    simp [getElem!_def, h3]
end Go.Proofs.Ytpbkabgjpieggaa
