/-
  The contract of taking in bytes.
-/
import Derived.Test.YtjdepjanijambaaDoorHash
import Derived.Test.YtjdepjanijambaaDoorHeld
namespace Go.Proofs.YtjdepjanijambaaDoor
open Go.RowKit

theorem there_made (g : Nat) (w : World) (h : w.cell? ⟨g, 0, none⟩ = some (.bool true)) :
    Calls Tryd.prog 21 #[.pointer (some ⟨g, 0, none⟩)] w fun e w' => e = .returned (.bool true) ∧ w = w' := by
  go_enter Tryd.func21, Tryd.ntmps21
  go_wp2
  go_ret
  exact ⟨rfl, rfl⟩
theorem there_plain (g : Nat) (w : World) (h : w.cell? ⟨g, 0, none⟩ = some (.bool false)) :
    Calls Tryd.prog 21 #[.pointer (some ⟨g, 0, none⟩)] w fun e w' => e = .returned (.bool false) ∧ w = w' := by
  go_enter Tryd.func21, Tryd.ntmps21
  go_wp2
  go_ret
  exact ⟨rfl, rfl⟩
theorem there_nil (w : World) :
    Calls Tryd.prog 21 #[.pointer none] w fun e w' => e = .returned (.bool false) ∧ w = w' := by
  go_enter Tryd.func21, Tryd.ntmps21
  go_wp2
  go_ret
  exact ⟨rfl, rfl⟩

theorem infoByte : (Tryd.prog.info? 5).map (·.size) = some 1 := by kernel_rfl
theorem Hsh.made {w : World} {g : Nat} {l : List UInt8} (h : Hsh w g l) : w.cell? ⟨g, 0, none⟩ = some (.bool true) := by
  obtain ⟨B, hb, _⟩ := h
  exact (hb.cell 0).trans rfl
theorem Hsh.count {w : World} {g : Nat} {l : List UInt8} (h : Hsh w g l) : w.cell? ⟨g, 73, none⟩ = some (.int .u64 (l.length : Int)) := by
  obtain ⟨B, hb, _⟩ := h
  rw [hb.cell 73, List.getElem?_toArray, hcells_n]
theorem Hsh.drewN {w : World} {g : Nat} {l : List UInt8} (h : Hsh w g l) (n : Nat) : Hsh (w.drewN n) g l := h
theorem Hsh.below {w w' : World} {g : Nat} {l : List UInt8} (h : Hsh w g l) (hb : Below w.heap.size w w') : Hsh w' g l := by
  obtain ⟨B, h1, h2⟩ := h
  exact ⟨B, h1.below hb h1.lt, h2⟩
theorem Hsh.lt {w : World} {g : Nat} {l : List UInt8} (h : Hsh w g l) : g < w.heap.size := by
  obtain ⟨B, h1, _⟩ := h
  exact h1.lt
theorem Hsh.grown {w w' : World} {g g' : Nat} {l : List UInt8} (h : Hsh w g l) (hb : w.grownBy w' (some g')) (hne : g ≠ g') : Hsh w' g l := by
  obtain ⟨B, h1, h2⟩ := h
  exact ⟨B, h1.grown hb (by intro e; injection e with e; exact hne e), h2⟩

theorem sliceAt_hash (g o : Nat) (h : o < 64) (w : World) : (Instr.sliceAt 47 (.pointer (some ⟨g, 9, none⟩)) (some (.int .u64 (o : Int))) none none).run Tryd.prog w = .ok (.slice (some ⟨g, 9 + o, none⟩) (64 - o) (64 - o)) w := by
  have h1 : Tryd.prog.underlying 47 = some (.array (Tryd.prog.arrayLen 47) (Tryd.prog.elem 47)) := by kernel_rfl
  have h2 : Tryd.prog.arrayLen 47 = 64 := by kernel_rfl
  have h3 : Tryd.prog.elem 47 = 5 := by kernel_rfl
  rw [run_sliceAt_array_l w _ _ h1 .u64 (o : Int) (by omega) (by rw [h2]; omega), h3, sizeOf_one infoByte w, h2]
  have h4 : ¬ 64 = o := by omega
  simp [Result.andThen, slicedAt, h4, Addr.add_mid]
theorem copied {w wr : World} {g : Nat} {s : S8} {B : Nat → Nat} {L : Nat} (hb : Box wr g 49 (hcells s B L).toArray) (hg : w.grownBy wr (some g)) (m : List UInt8) (o : Nat) (ho : o + m.length ≤ 64) :
    Box (wr.drew.setRow g (List.take (9 + o) (hcells s B L).toArray.toList ++ (bc m ++ List.drop (9 + o + (bc m).length) (hcells s B L).toArray.toList)).toArray) g 49 (hcells s (over B o m) L).toArray ∧
      w.grownBy (wr.drew.setRow g (List.take (9 + o) (hcells s B L).toArray.toList ++ (bc m ++ List.drop (9 + o + (bc m).length) (hcells s B L).toArray.toList)).toArray) (some g) ∧
      wr.grownBy (wr.drew.setRow g (List.take (9 + o) (hcells s B L).toArray.toList ++ (bc m ++ List.drop (9 + o + (bc m).length) (hcells s B L).toArray.toList)).toArray) (some g) := by
  refine ⟨?_, grown_row (grown_drew hg) _, grown_row (grown_drew (grown_refl wr _)) _⟩
  rw [List.toList_toArray, hcells_copy s B L o m ho]
  exact setRow_heap _ _ _ _ _ _ hb
theorem u64_small {j : Nat} (h : j < 18446744073709551616) : IntKind.u64.wrap (j : Int) = (j : Int) := by
  simp only [IntKind.wrap, IntKind.bits, IntKind.signed]
  simp
  omega
theorem u64_sum {a b : Nat} (h : a + b < 1152921504606846976) : IntKind.u64.wrap ((a : Int) + (b : Int)) = ((a + b : Nat) : Int) := by
  rw [← Int.natCast_add]
  exact u64_small (by omega)
theorem hash_range8 {w : World} {g : Nat} {s : S8} {B : Nat → Nat} {n : Nat} (h : Box w g 49 (hcells s B n).toArray) : w.rangeAt g 1 (s8s s) := fun j v hv => by
  rw [h.cell, List.getElem?_toArray]
  exact hcells_s s B n j v hv
theorem hash_range64 {w : World} {g : Nat} {s : S8} {B : Nat → Nat} {n : Nat} (h : Box w g 49 (hcells s B n).toArray) : w.rangeAt g 9 (u8s B 64) := fun j v hv => by
  have hj : j < 64 := by
    have := (List.getElem?_eq_some_iff.1 hv).1
    simpa [u8s_length] using this
  rw [h.cell, List.getElem?_toArray, hcells_B s B n j hj, ← hv]
  simp [u8s, hj]
theorem hash_count {w : World} {g : Nat} {s : S8} {B : Nat → Nat} {n : Nat} (h : Box w g 49 (hcells s B n).toArray) (m : Nat) : Box (w.setCell ⟨g, 73, none⟩ (.int .u64 (m : Int))) g 49 (hcells s B m).toArray := by
  have := h.put 73 (.int .u64 (m : Int))
  rwa [hcells_put] at this
theorem tabs_heap {w w' : World} (h : Tabs w) (e : w'.heap = w.heap) : Tabs w' := by
  obtain ⟨h1, h2⟩ := h
  refine ⟨fun j v hv => ?_, fun j v hv => ?_⟩
  · have := h1 j v hv
    simpa [World.cell?, e] using this
  · have := h2 j v hv
    simpa [World.cell?, e] using this
/-- What taking in does to the world. -/
def TakePost (w : World) (g : Nat) (l : List UInt8) (r : Ending) (w' : World) : Prop := r = .returned (.tuple #[]) ∧ Hsh w' g l ∧ w.grownBy w' (some g)
def lenOf (v : Value) : Nat := match v with
  | .slice _ n _ => n
  | _ => 0
theorem take_next {l m p x : List UInt8} {k : Nat} (hp : p = l ++ m.take k) (hx : x = m.drop k) (j : Nat) : l ++ m.take (k + j) = p ++ x.take j := by
  rw [hp, hx, List.append_assoc, List.take_add]
/-- The end of a round that filled the block. -/
theorem take_full {w w3 w4 : World} {g : Nat} {l m p x : List UInt8} {k j L L' o : Nat} {s : S8} {B B' : Nat → Nat} (hp : p = l ++ m.take k) (hx : x = m.drop k) (hL : L = p.length) (ho : o = L % 64) (hs : s = stateN p (p.length / 64)) (hxl : (bc (x.take j)).length = j)
    (hB : ∀ i, i < p.length % 64 → B i = (p.getD (64 * (p.length / 64) + i) 0).toNat) (hB' : B' = over B o (x.take j)) (hL' : L' = L + j) (hf : o + j = 64)
    (hb3 : Box w3 g 49 (hcells s B' L').toArray) (hg3 : w.grownBy w3 (some g)) (hb4 : Below w3.drew.heap.size w3.drew w4) :
    Hsh (w4.setRow g ((hcells s B' L').toArray.toList.take 1 ++ (s8s (mixN s B')).toArray.toList ++ (hcells s B' L').toArray.toList.drop (1 + (s8s (mixN s B')).toArray.size)).toArray) g (l ++ m.take (k + j)) ∧
      w.grownBy (w4.setRow g ((hcells s B' L').toArray.toList.take 1 ++ (s8s (mixN s B')).toArray.toList ++ (hcells s B' L').toArray.toList.drop (1 + (s8s (mixN s B')).toArray.size)).toArray) (some g) ∧
      w3.grownBy (w4.setRow g ((hcells s B' L').toArray.toList.take 1 ++ (s8s (mixN s B')).toArray.toList ++ (hcells s B' L').toArray.toList.drop (1 + (s8s (mixN s B')).toArray.size)).toArray) (some g) := by
  have e : (hcells s B' L').toArray.toList.take 1 ++ (s8s (mixN s B')).toArray.toList ++ (hcells s B' L').toArray.toList.drop (1 + (s8s (mixN s B')).toArray.size) = hcells (mixN s B') B' L' := hcells_state s (mixN s B') B' L'
  rw [e]
  have h34 : w3.grownBy w4 (some g) := grown_below (grown_drew (grown_refl w3 _)) hb4
  have hb5 : Box (w4.setRow g (hcells (mixN s B') B' L').toArray) g 49 (hcells (mixN s B') B' L').toArray := setRow_heap _ _ _ _ _ _ (hb3.drew.below hb4 hb3.lt)
  refine ⟨?_, grown_row (grown_trans hg3 h34) _, grown_row h34 _⟩
  rw [take_next hp hx j]
  rw [bc_length] at hxl
  subst hB' hL' ho hL hs
  refine hsh_full hB (by rw [hxl]; exact hf) ?_
  rw [hxl]
  exact hb5
/-- Between two rounds of Take: k of the bytes m are taken in. -/
def TakeRel (w : World) (g : Nat) (l m : List UInt8) (V : Value) (wr : World) : Prop :=
  ∃ (k : Nat) (A : Option Addr) (n c : Nat), k ≤ m.length ∧ V = .slice A n c ∧ Lies wr (· ≠ g) A n c (bc (m.drop k)) ∧ Hsh wr g (l ++ m.take k) ∧ w.grownBy wr (some g) ∧ Tabs wr

set_option maxRecDepth 100000 in
set_option maxHeartbeats 1000000 in
theorem take_any (g : Nat) (l m : List UInt8) (A : Option Addr) (n c : Nat) (w : World) (hh : Hsh w g l) (hl : Lies w (· ≠ g) A n c (bc m)) (ht : Tabs w) (hg : 1 < g) (hz : l.length + m.length < 1152921504606846976) :
    Calls Tryd.prog 13 #[.pointer (some ⟨g, 0, none⟩), .slice A n c] w (TakePost w g (l ++ m)) := by
  have h0 := hh.made
  have HH := Lib.hid hh
  have HL := Lib.hid hl
  have HT := Lib.hid ht
  have HZ := Lib.hid hz
  clear hh hl ht hz
  go_enter Tryd.func13, Tryd.ntmps13
  go_wp2_with (refine (there_made _ _ h0).mono ?_; rintro e w' ⟨rfl, rfl⟩)
  clear h0
  go_loopw [1] (fun V wr => TakeRel w g l m V wr) (fun V _ => lenOf V)
  case atStart => exact ⟨0, A, n, c, Nat.zero_le _, rfl, HL.out, by rw [List.take_zero, List.append_nil]; exact HH.out, grown_refl w _, HT.out⟩
  case round =>
    clear HH HL HT
    obtain ⟨k, A, n, c, hk, rfl, hl, hh, hgr, ht⟩ := hrel
    have hlen : n = m.length - k := by rw [← hl.len, bc_length, List.length_drop]
    by_cases hlt : k < m.length
    · obtain ⟨p, hp⟩ : ∃ p, p = l ++ m.take k := ⟨_, rfl⟩
      obtain ⟨x, hx⟩ : ∃ x, x = m.drop k := ⟨_, rfl⟩
      rw [← hp] at hh
      rw [← hx] at hl
      have hxl : x.length = n := by rw [← bc_length]; exact hl.len
      obtain ⟨B, hbx, hB⟩ := hh
      obtain ⟨L, hL⟩ : ∃ L, L = p.length := ⟨_, rfl⟩
      obtain ⟨o, ho⟩ : ∃ o, o = L % 64 := ⟨_, rfl⟩
      obtain ⟨s, hs⟩ : ∃ s, s = stateN p (p.length / 64) := ⟨_, rfl⟩
      obtain ⟨j, hj⟩ : ∃ j, j = Nat.min n (64 - o) := ⟨_, rfl⟩
      have hn0 : 0 < n := by omega
      have ho64 : o < 64 := by rw [ho]; exact Nat.mod_lt _ (by decide)
      have hj1 : j ≤ n := by rw [hj]; exact Nat.min_le_left _ _
      have hj2 : o + j ≤ 64 := by have : j ≤ 64 - o := by rw [hj]; exact Nat.min_le_right _ _
                                  omega
      have hj0 : 0 < j := by rw [hj]; exact Nat.lt_min.2 ⟨hn0, by omega⟩
      have hLz : L + j < 1152921504606846976 := by
        have h1 := HZ.out
        rw [hL, hp, List.length_append, List.length_take]
        omega
      rw [← hs, ← hL] at hbx
      obtain ⟨ad, rfl, hadg, hadz, hadc⟩ := hl.2.2 hn0
      have HLI := Lib.hid hl
      have HB := Lib.hid hB
      have HBX := Lib.hid hbx
      have HP := Lib.hid hp
      have HX := Lib.hid hx
      have HLL := Lib.hid hL
      have HO := Lib.hid ho
      have HS := Lib.hid hs
      have HJ := Lib.hid hj
      have HGR := Lib.hid hgr
      have HTB := Lib.hid ht
      have HAC := Lib.hid hadc
      have HLEN := Lib.hid hlen
      have HXL := Lib.hid hxl
      have c73 : wr.cell? ⟨g, 73, none⟩ = some (.int .u64 (L : Int)) := by rw [hbx.cell 73, List.getElem?_toArray, hcells_n]
      have eo : (L : Int).tmod 64 = (o : Int) := by rw [Int.tmod_eq_emod_of_nonneg (by omega)]; omega
      have hsl := fun wq => sliceAt_hash g o ho64 wq
      have HN := Lib.hid (show (bc (x.take j)).length = j by rw [bc_length, List.length_take]; omega)
      have HNM := Lib.hid (show (bc (x.take j)).length = Nat.min n (64 - o) by rw [← hj]; exact HN.out)
      have HSRC := Lib.hid (show ∀ i v, (bc (x.take j))[i]? = some v → wr.drew.cell? (ad.add i) = some v from fun i v hv => hadc i v (by rw [← bc_take, List.getElem?_take] at hv; split at hv; exact hv; cases hv))
      have HFIT := Lib.hid (show 9 + o + (bc (x.take j)).length ≤ (hcells s B L).toArray.size by rw [List.size_toArray, hcells_length, HN.out]; omega)
      clear hB hbx hp hx hL ho hs hj hgr ht hadc hlen hxl hl
      go_wp2
      go_still_tail 10, (by kernel_rfl)
      change wpList _ _ _ _ _ wr.drew
      refine wpList_copy_own rfl (.tmp 19) (.tmp 20) 32 32 rfl 5 Tryd.underlying32 infoByte g (9 + o) (64 - o) (64 - o) ad n c rfl rfl (hcells s B L).toArray 49 HBX.out (bc (x.take j)) HNM.out HSRC.out HFIT.out (bc_one _) ?_
      have hcp := copied HBX.out HGR.out (x.take j) o (by have := HN.out; rw [bc_length] at this; omega)
      have HLI2 := Lib.hid ((HLI.out.grown hcp.2.2 (by simp)).from j hj1)
      have HTB2 := Lib.hid (HTB.out.grown hcp.2.2 hg)
      have HCP := Lib.hid hcp
      clear hcp HSRC HFIT HNM HTB HLI HBX HGR HAC c73 eo hsl
      generalize wr.drew.setRow g (List.take (9 + o) (hcells s B L).toArray.toList ++ (bc (List.take j x) ++ List.drop (9 + o + (bc (List.take j x)).length) (hcells s B L).toArray.toList)).toArray = w2 at HCP HLI2 HTB2 ⊢
      obtain ⟨B', hB'⟩ : ∃ B', B' = over B o (x.take j) := ⟨_, rfl⟩
      rw [← hB'] at HCP
      have HB' := Lib.hid hB'
      clear hB'
      rw [HN.out]
      obtain ⟨L', hL'⟩ : ∃ L', L' = L + j := ⟨_, rfl⟩
      have HL' := Lib.hid hL'
      have c73 : w2.cell? ⟨g, 73, none⟩ = some (.int .u64 (L : Int)) := by rw [HCP.out.1.cell 73, List.getElem?_toArray, hcells_n]
      have f73 := HCP.out.1.frozen 73
      have hsl := fun wq => sliceAt_from Tryd.underlying32 infoByte .i64 (some ad) n c j hj1 wq
      have ej : IntKind.u64.wrap (j : Int) = (j : Int) := u64_small (by omega)
      have eL : IntKind.u64.wrap ((L : Int) + (j : Int)) = (L' : Int) := by rw [hL']; exact u64_sum hLz
      have em : (j : Int) % 18446744073709551616 = (j : Int) := by omega
      have em2 : ((L : Int) + (j : Int)) % 18446744073709551616 = (L' : Int) := by rw [hL']; omega
      clear hL'
      by_cases hfull : o + j = 64
      · have et : (L' : Int).tmod 64 = 0 := by
          rw [Int.tmod_eq_emod_of_nonneg (by omega), HL'.out]
          have := HO.out
          omega
        have HF := Lib.hid hfull
        clear hfull
        go_wp2
        have HB3 := Lib.hid (hash_count HCP.out.1 L')
        have HG3 := Lib.hid (grown_set HCP.out.2.1 73 (.int .u64 (L' : Int)))
        have HG4 := Lib.hid (grown_set (grown_refl w2 (some g)) 73 (.int .u64 (L' : Int)))
        clear c73 f73 et ej eL em em2 hsl
        generalize w2.setCell ⟨g, 73, none⟩ (.int .u64 (L' : Int)) = w3 at HB3 HG3 HG4 ⊢
        have HTB3 := Lib.hid (HTB2.out.grown HG4.out hg)
        have HLI3 := Lib.hid (HLI2.out.grown HG4.out (by simp))
        refine wp_region_held_drew (S := fun _ => True) (by kernel_rfl) trivial (fun hHeld => ?_)
        refine take_run 0 40 (v := ?_) rfl rfl (by kernel_rfl) (by kernel_rfl) (by kernel_rfl) (fun _ _ _ h => h) (by rfl) ?_ (by assumption) ?_
        rotate_left
        · (intro wq hSw; (try dsimp only at hSw); go_simp; first | done | with_reducible rfl)
        simp only [Act.put, List.setIfInBounds_toArray, List.set_cons_zero, List.set_cons_succ]
        refine take_run 1 41 (v := ?_) rfl rfl (by kernel_rfl) (by kernel_rfl) (by kernel_rfl) (fun _ _ _ h => h) (by rfl) ?_ (by assumption) ?_
        rotate_left
        · (intro wq hSw; (try dsimp only at hSw); go_simp; first | done | with_reducible rfl)
        simp only [Act.put, List.setIfInBounds_toArray, List.set_cons_zero, List.set_cons_succ]
        refine take_run 2 42 (v := ?_) rfl rfl (by kernel_rfl) (by kernel_rfl) (by kernel_rfl) (fun _ _ _ h => h) (by rfl) ?_ (by assumption) ?_
        rotate_left
        · (intro wq hSw; (try dsimp only at hSw); go_simp; first | done | with_reducible rfl)
        simp only [Act.put, List.setIfInBounds_toArray, List.set_cons_zero, List.set_cons_succ]
        refine take_run 3 43 (v := ?_) rfl rfl (by kernel_rfl) (by kernel_rfl) (by kernel_rfl) (fun _ _ _ h => h) (by rfl) ?_ (by assumption) ?_
        rotate_left
        · (intro wq hSw; (try dsimp only at hSw); go_simp; first | done | with_reducible rfl)
        simp only [Act.put, List.setIfInBounds_toArray, List.set_cons_zero, List.set_cons_succ]
        refine take_run 5 45 (v := ?_) rfl rfl (by kernel_rfl) (by kernel_rfl) (by kernel_rfl) (fun _ _ _ h => h) (by rfl) ?_ (by assumption) ?_
        rotate_left
        · (intro wq hSw; (try dsimp only at hSw); go_simp; first | done | with_reducible rfl)
        simp only [Act.put, List.setIfInBounds_toArray, List.set_cons_zero, List.set_cons_succ]
        refine take_run 6 46 (v := ?_) rfl rfl (by kernel_rfl) (by kernel_rfl) (by kernel_rfl) (fun _ _ _ h => h) (by rfl) ?_ (by assumption) ?_
        rotate_left
        · (intro wq hSw; (try dsimp only at hSw); go_simp; first | done | with_reducible rfl)
        simp only [Act.put, List.setIfInBounds_toArray, List.set_cons_zero, List.set_cons_succ]
        refine take_run 7 47 (v := ?_) rfl rfl (by kernel_rfl) (by kernel_rfl) (by kernel_rfl) (fun _ _ _ h => h) (by rfl) ?_ (by assumption) ?_
        rotate_left
        · (intro wq hSw; (try dsimp only at hSw); go_simp; first | done | with_reducible rfl)
        simp only [Act.put, List.setIfInBounds_toArray, List.set_cons_zero, List.set_cons_succ]
        refine wpAnyH_ready (rs := [4, 8]) (by kernel_rfl) (by simp) ?_
        refine AllReadyH.cons rfl (fun K hK => ?_) (AllReadyH.cons rfl (fun K hK => ?_) AllReadyH.nil)
        · refine step_load_mid 25 (.tmp 43) rfl rfl g 1 rfl (s8s s) _ (hash_range8 HB3.out.drew) Tryd.underlying25 rfl (info8s s) ?_
          refine hK.out _ _ trivial (fun hHeld => ?_)
          clear hK K
          refine wpAnyH_ready (rs := [8]) (by kernel_rfl) (by simp) ?_
          refine AllReadyH.cons rfl (fun K hK => ?_) AllReadyH.nil
          refine step_load_mid 47 (.tmp 47) rfl rfl g 9 rfl (u8s B' 64) _ (hash_range64 HB3.out.drew) Tryd.underlying47 rfl (infoBs B') ?_
          refine hK.out _ _ trivial (fun hHeld => ?_)
          clear hK K
          refine wpAnyH_ready (rs := [9]) (by kernel_rfl) (by simp) ?_
          refine AllReadyH.cons rfl (fun K hK => ?_) AllReadyH.nil
          go_simp
          refine (mix_any s B' w3.drew (tabs_heap HTB3.out rfl)).mono ?_
          rintro r w4 ⟨rfl, hb4⟩
          have HB4 := Lib.hid hb4
          clear hb4
          dsimp only
          refine hK.out _ _ trivial (fun hHeld => ?_)
          clear hK K
          refine take_run 10 50 (v := ?_) rfl rfl (by kernel_rfl) (by kernel_rfl) (by kernel_rfl) (fun _ _ _ h => h) (by rfl) ?_ (by assumption) ?_
          rotate_left
          · (intro wq hSw; (try dsimp only at hSw); go_simp; first | done | with_reducible rfl)
          simp only [Act.put, List.setIfInBounds_toArray, List.set_cons_zero, List.set_cons_succ]
          refine take_run 11 51 (v := ?_) rfl rfl (by kernel_rfl) (by kernel_rfl) (by kernel_rfl) (fun _ _ _ h => h) (by rfl) ?_ (by assumption) ?_
          rotate_left
          · (intro wq hSw; (try dsimp only at hSw); go_simp; first | done | with_reducible rfl)
          simp only [Act.put, List.setIfInBounds_toArray, List.set_cons_zero, List.set_cons_succ]
          refine wpAnyH_ready (rs := [12]) (by kernel_rfl) (by simp) ?_
          refine AllReadyH.cons rfl (fun K hK => ?_) AllReadyH.nil
          refine step_store_within 25 (.tmp 51) (.tmp 49) rfl rfl g 1 (s8s (mixN s B')).toArray rfl rfl 49 (hcells s B' L').toArray (HB3.out.drew.below HB4.out HB3.out.lt) (by rw [List.size_toArray, List.size_toArray, hcells_length, s8s_length]; omega) (info8s _) (s8s_one _) ?_
          refine hK.out _ _ trivial (fun hHeld => ?_)
          clear hK K
          refine wpAnyH_done (by kernel_rfl) ?_ _
          go_wp2_with fail
          go_roundw
          case rel =>
            have hfin := take_full HP.out HX.out HLL.out HO.out HS.out HN.out HB.out HB'.out HL'.out HF.out HB3.out HG3.out HB4.out
            repeat apply Exists.intro
            refine ⟨⟨k + j, cutA (some ad) c j, n - j, c - j, by have := HLEN.out; omega, rfl, ?_, hfin.1, hfin.2.1, HTB3.out.grown hfin.2.2 hg⟩, rfl⟩
            have h3 := HLI3.out.grown hfin.2.2 (by simp)
            rw [bc_drop, HX.out, List.drop_drop] at h3
            exact h3
          case measure => show n - j < n; omega
        · refine step_load_mid 47 (.tmp 47) rfl rfl g 9 rfl (u8s B' 64) _ (hash_range64 HB3.out.drew) Tryd.underlying47 rfl (infoBs B') ?_
          refine hK.out _ _ trivial (fun hHeld => ?_)
          clear hK K
          refine wpAnyH_ready (rs := [4]) (by kernel_rfl) (by simp) ?_
          refine AllReadyH.cons rfl (fun K hK => ?_) AllReadyH.nil
          refine step_load_mid 25 (.tmp 43) rfl rfl g 1 rfl (s8s s) _ (hash_range8 HB3.out.drew) Tryd.underlying25 rfl (info8s s) ?_
          refine hK.out _ _ trivial (fun hHeld => ?_)
          clear hK K
          refine wpAnyH_ready (rs := [9]) (by kernel_rfl) (by simp) ?_
          refine AllReadyH.cons rfl (fun K hK => ?_) AllReadyH.nil
          go_simp
          refine (mix_any s B' w3.drew (tabs_heap HTB3.out rfl)).mono ?_
          rintro r w4 ⟨rfl, hb4⟩
          have HB4 := Lib.hid hb4
          clear hb4
          dsimp only
          refine hK.out _ _ trivial (fun hHeld => ?_)
          clear hK K
          refine take_run 10 50 (v := ?_) rfl rfl (by kernel_rfl) (by kernel_rfl) (by kernel_rfl) (fun _ _ _ h => h) (by rfl) ?_ (by assumption) ?_
          rotate_left
          · (intro wq hSw; (try dsimp only at hSw); go_simp; first | done | with_reducible rfl)
          simp only [Act.put, List.setIfInBounds_toArray, List.set_cons_zero, List.set_cons_succ]
          refine take_run 11 51 (v := ?_) rfl rfl (by kernel_rfl) (by kernel_rfl) (by kernel_rfl) (fun _ _ _ h => h) (by rfl) ?_ (by assumption) ?_
          rotate_left
          · (intro wq hSw; (try dsimp only at hSw); go_simp; first | done | with_reducible rfl)
          simp only [Act.put, List.setIfInBounds_toArray, List.set_cons_zero, List.set_cons_succ]
          refine wpAnyH_ready (rs := [12]) (by kernel_rfl) (by simp) ?_
          refine AllReadyH.cons rfl (fun K hK => ?_) AllReadyH.nil
          refine step_store_within 25 (.tmp 51) (.tmp 49) rfl rfl g 1 (s8s (mixN s B')).toArray rfl rfl 49 (hcells s B' L').toArray (HB3.out.drew.below HB4.out HB3.out.lt) (by rw [List.size_toArray, List.size_toArray, hcells_length, s8s_length]; omega) (info8s _) (s8s_one _) ?_
          refine hK.out _ _ trivial (fun hHeld => ?_)
          clear hK K
          refine wpAnyH_done (by kernel_rfl) ?_ _
          go_wp2_with fail
          go_roundw
          case rel =>
            have hfin := take_full HP.out HX.out HLL.out HO.out HS.out HN.out HB.out HB'.out HL'.out HF.out HB3.out HG3.out HB4.out
            repeat apply Exists.intro
            refine ⟨⟨k + j, cutA (some ad) c j, n - j, c - j, by have := HLEN.out; omega, rfl, ?_, hfin.1, hfin.2.1, HTB3.out.grown hfin.2.2 hg⟩, rfl⟩
            have h3 := HLI3.out.grown hfin.2.2 (by simp)
            rw [bc_drop, HX.out, List.drop_drop] at h3
            exact h3
          case measure => show n - j < n; omega
      · obtain ⟨q, hq⟩ : ∃ q, q = o + j := ⟨_, rfl⟩
        have et : (L' : Int).tmod 64 = (q : Int) := by
          rw [Int.tmod_eq_emod_of_nonneg (by omega), HL'.out, hq]
          have := HO.out
          omega
        have eq0 : ((q : Int) == 0) = false := by
          rw [beq_eq_false_iff_ne]
          omega
        have HQ := Lib.hid hq
        have HF := Lib.hid hfull
        clear hfull hq
        go_wp2
        have hb3 := hash_count HCP.out.1 L'
        have hg3 := grown_set HCP.out.2.1 73 (.int .u64 (L' : Int))
        have hg4 := grown_set (grown_refl w2 (some g)) 73 (.int .u64 (L' : Int))
        go_roundw
        case rel =>
          refine ⟨k + j, cutA (some ad) c j, n - j, c - j, by have := HLEN.out; omega, rfl, ?_, ?_, hg3, HTB2.out.grown hg4 hg⟩
          · have h3 := HLI2.out.grown hg4 (by simp)
            rw [bc_drop, HX.out, List.drop_drop] at h3
            exact h3
          · rw [take_next HP.out HX.out j]
            have hN := HN.out
            rw [bc_length] at hN
            have hO := HO.out
            rw [HB'.out, HL'.out, HS.out, hO, HLL.out, ← hN] at hb3
            rw [HL'.out, HLL.out, ← hN]
            rw [HLL.out] at hO
            refine hsh_open HB.out (by rw [hN, ← hO]; have := HF.out; omega) ?_
            simp only [hN] at hb3 ⊢
            exact hb3
        case measure => show n - j < n; omega
    · obtain rfl : n = 0 := by omega
      obtain rfl : k = m.length := by omega
      have HH := Lib.hid hh
      have HG := Lib.hid hgr
      clear hh hgr ht hl hlen
      go_wp2
      go_end0
      exact ⟨rfl, by rw [List.take_length] at HH; exact HH.out, HG.out⟩
end Go.Proofs.YtjdepjanijambaaDoor
