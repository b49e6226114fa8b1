/-
  copied, Rows and Join of package mat.
-/
import Derived.Test.YtgakeecibofiiaaConcat
import Derived.Test.YtgakeecibofiiaaMakes
import Derived.Test.YtgakeecibofiiaaTurn
import Derived.Test.YtgakeecibofiiaaInts
import Derived.Test.YtgakeecibofiiaaSweepL
namespace Go.Proofs.Ytgakeecibofiiaa
open Go.RowKit Go.Shelf

set_option maxRecDepth 100000 in
set_option maxHeartbeats 2000000 in
theorem copied_says (w : World) (A : Option Addr) (n c : Nat) (M : List (List UInt8)) (hM : Mtx w A n c M) (hn : n ≤ 2000) (hr : ∀ r ∈ M, 1 ≤ r.length ∧ r.length ≤ 2000) : Calls Try.prog 50 #[.slice A n c] w (GivesM w M) := by
  have hl := hM.len
  have HM := Lib.hid hM
  obtain ⟨j0, hj0, jz0, jz1, jz2⟩ := info_parts rowInfo
  clear hM
  go_enter Try.func50, Try.ntmps50
  go_upto_region 2 with (at_make; refine wpList_make_full _ rfl _ _ 26 rfl w.heap.size 31 j0 _ 1 Try.underlying26 hj0 jz0 jz1 _ _ _ _ n rfl rfl rfl rfl (by rw [jz2]; omega) (by unfold maxLen; omega) (Nat.le_refl _) ?_; intro w1 hown1 hg1)
  have HB1 := Lib.hid (And.intro (rows_made (fun b => b ≠ w.heap.size) hown1) ((Below.refl w.heap.size w).grown hg1 (Nat.le_refl _) (fun k hk => by cases hk)))
  clear hown1 hg1
  go_wp2_with fail
  go_loopw [4, 5, 11] (fun _ _ i wr => ∃ (k : Nat), k ≤ n ∧ i = .int .i64 (k : Int) ∧ Hid (RowsN wr w.heap.size n (fun b => b ≠ w.heap.size) (M.take k) ∧ Below w.heap.size w wr)) (fun _ _ i _ => n - (intOf i).toNat)
  case atStart => exact ⟨0, by omega, rfl, by simpa using HB1⟩
  case round =>
    obtain ⟨k, hk, rfl, H⟩ := hrel
    by_cases hlt : k < n
    · have l1 : (k : Int) < (n : Int) := by omega
      obtain ⟨r, hrk⟩ : ∃ r, M[k]? = some r := ⟨_, List.getElem?_eq_getElem (by omega)⟩
      obtain ⟨b, off, Ak, ck, hA, hb, hck, hlk⟩ := HM.out.row hrk
      subst hA
      have hrl := hr r (List.mem_of_getElem? hrk)
      have hc1 : wr.cell? ⟨b, off + k, none⟩ = some (.slice Ak r.length ck) := (H.out.2.cell (p := ⟨b, off + k, none⟩) hb).trans hck
      have HCL := Lib.hid (cloneB_says wr Ak ck r r.length rfl (hlk.below H.out.2) hrl.1 hrl.2)
      have HTK := Lib.hid (show M.take (k + 1) = M.take k ++ [r] from by rw [List.take_add_one, hrk]; rfl)
      have HTL := Lib.hid (show (M.take k).length = k from by rw [List.length_take]; omega)
      obtain ⟨lr, hlr⟩ : ∃ t, r.length = t := ⟨_, rfl⟩
      rw [hlr] at hc1 HCL
      have HLR := Lib.hid hlr
      have hgl := H.out.1.lt
      clear hck hlk hrk hrl hlr
      go_wp2_with (go_at_call 61; refine HCL.out.mono ?_; rintro e w2 ⟨B2, n2, c2, rfl, hl2, hb2⟩; have hn2 : n2 = lr := (by rw [← hl2.len, bc_length]; exact HLR.out); subst hn2; have hR2 := H.out.1.below hb2; obtain ⟨⟨v2, hv2⟩, hf2⟩ := hR2.place hlt; have HL2 := Lib.hid (show Lies w2 (fun b => b ≠ w.heap.size) B2 n2 c2 (bc r) from hl2.weak (fun b _ hb => by have hb' : wr.heap.size ≤ b := hb; omega)); have HR2 := Lib.hid (And.intro hR2 hb2); clear hl2 hb2 hR2)
      go_roundw
      case rel =>
        refine ⟨k + 1, by omega, by go_num, Lib.hid ⟨?_, ?_⟩⟩
        · have h1 := HR2.out.1.push (fun e => e rfl) (by rw [HTL.out]; exact hlt) HLR.out HL2.out
          rw [HTL.out] at h1
          rw [HTK.out]
          exact h1
        · exact (H.out.2.trans (HR2.out.2.mono H.out.2.size)).setCell (p := ⟨w.heap.size, k, none⟩) (Nat.le_refl _) _
      case measure => simp [intOf]; omega
    · obtain rfl : k = n := by omega
      have l1 : ¬ (k : Int) < (k : Int) := by omega
      have HE := Lib.hid (show M.take k = M from List.take_of_length_le (by omega))
      go_wp2
      go_ret
      refine ⟨_, _, _, rfl, ?_, H.out.2⟩
      have h1 := H.out.1.mtx (m := k) (c := k) (by rw [HE.out]; exact hl) (Nat.le_refl _)
      rwa [HE.out] at h1

/-- Numbers of rows that there are. -/
def okIdx (n : Nat) (l : List Int) : Prop := ∀ i ∈ l, 0 ≤ i ∧ i < (n : Int)
instance (n : Nat) (l : List Int) : Decidable (okIdx n l) := by unfold okIdx; exact inferInstance
/-- The rows of these numbers. -/
def pickL (M : List (List UInt8)) (l : List Int) : List (List UInt8) := l.map (fun i => M.getD i.toNat [])
/-- What Rows tells. -/
def rowsR (M : List (List UInt8)) (l : List Int) : List (List UInt8) × Int := if RightM M ∧ (1 ≤ l.length ∧ l.length ≤ 255) ∧ okIdx M.length l then (pickL M l, 0) else ([], 2)
theorem pick_succ {M : List (List UInt8)} {l : List Int} {k : Nat} {i : Int} (h : l[k]? = some i) : pickL M (l.take (k + 1)) = pickL M (l.take k) ++ [M.getD i.toNat []] := by
  rw [List.take_add_one, h]
  simp [pickL]

set_option maxRecDepth 100000 in
set_option maxHeartbeats 4000000 in
theorem rows_says (w : World) (A : Option Addr) (n c : Nat) (M : List (List UInt8)) (hM : Mtx w A n c M) (hn : n ≤ 2000) (B : Option Addr) (m d : Nat) (l : List Int) (hB : Lies w (fun _ => True) B m d (ics l)) (hm : m ≤ 2000) : Calls Try.prog 29 #[.slice A n c, .slice B m d] w (GivesE w (rowsR M l).1 (rowsR M l).2) := by
  have hl := hM.len
  have hlm : l.length = m := by rw [← ics_length]; exact hB.len
  have hri := right_says w A n c M hM hn
  unfold rowsR
  rw [hl, hlm]
  by_cases hr : RightM M
  · rw [decide_eq_true hr] at hri
    have HRI := Lib.hid hri
    by_cases hcnt : 1 ≤ m ∧ m ≤ 255
    · have HCN := Lib.hid (fun W => counts_yes m hcnt W)
      have HM := Lib.hid hM
      have HL := Lib.hid hB
      have HRR := Lib.hid hr
      obtain ⟨f, hf⟩ : ∃ f, (if RightM M ∧ (1 ≤ m ∧ m ≤ 255) ∧ okIdx n l then (pickL M l, (0 : Int)) else ([], 2)) = f := ⟨_, rfl⟩
      have HF1 := Lib.hid (show okIdx n l → f = (pickL M l, 0) from fun h => by rw [← hf, if_pos ⟨hr, hcnt, h⟩])
      have HF2 := Lib.hid (show ¬ okIdx n l → f = ([], 2) from fun h => by rw [← hf, if_neg (fun hh => h hh.2.2)])
      rw [hf]
      clear hM hB hri hr hf hcnt
      go_enter Try.func29, Try.ntmps29
      go_wp2_with (first
        | (go_at_call 20; refine HRI.out.mono ?_; rintro e w1 ⟨rfl, hb1⟩; have HB1 := Lib.hid hb1; clear hb1)
        | (go_at_call 40; refine (HCN.out _).mono ?_; rintro e wn ⟨rfl, hwn⟩; obtain rfl : w1 = wn := hwn.symm))
      go_loopw [6, 8, 20] (fun v _ i wr => ∃ (k : Nat), k ≤ m ∧ i = .int .i64 (k : Int) ∧ Hid (RowsO wr w1.heap.size v (pickL M (l.take k)) ∧ Below w1.heap.size w1 wr ∧ okIdx n (l.take k))) (fun _ _ i _ => m - (intOf i).toNat)
      case atStart => exact ⟨0, by omega, rfl, Lib.hid ⟨by simpa [pickL] using RowsO.nil _ _, Below.refl _ _, fun i hi => by simp at hi⟩⟩
      case round =>
        obtain ⟨k, hk, rfl, H⟩ := hrel
        have hwb : Below w.heap.size w wr := HB1.out.trans (H.out.2.1.mono HB1.out.size)
        by_cases hlt : k < m
        · have l1 : (k : Int) < (m : Int) := by omega
          obtain ⟨i, hi⟩ : ∃ i, l[k]? = some i := ⟨_, List.getElem?_eq_getElem (by omega)⟩
          obtain ⟨b, off, hBB, _, hb, hci⟩ := HL.out.at (ics_at hi)
          subst hBB
          have hc1 : wr.cell? ⟨b, off + k, none⟩ = some (.int .i64 i) := (hwb.cell (p := ⟨b, off + k, none⟩) hb).trans hci
          by_cases h0 : i < 0
          · have HN := Lib.hid (HF2.out (fun h => by have := (h i (List.mem_of_getElem? hi)).1; omega))
            rw [HN.out]
            clear hi hci
            go_wp2
            go_ret2
            exact ⟨_, _, _, rfl, Mtx.nil _ _ _, hwb⟩
          · by_cases h1 : (n : Int) ≤ i
            · have HN := Lib.hid (HF2.out (fun h => by have := (h i (List.mem_of_getElem? hi)).2; omega))
              rw [HN.out]
              clear hi hci
              go_wp2
              go_ret2
              exact ⟨_, _, _, rfl, Mtx.nil _ _ _, hwb⟩
            · obtain ⟨t, rfl⟩ : ∃ t : Nat, i = (t : Int) := ⟨i.toNat, by omega⟩
              have ht : t < n := by omega
              have ht' : (t : Int) < (n : Int) := by omega
              obtain ⟨r, hr⟩ : ∃ r, M[t]? = some r := ⟨_, List.getElem?_eq_getElem (by omega)⟩
              have hgr : M.getD t [] = r := by simp [List.getD_eq_getElem?_getD, hr]
              obtain ⟨ba, oa, At, ct, hA, hba, hct, hlt2⟩ := HM.out.row hr
              subst hA
              have hc2 : wr.cell? ⟨ba, oa + t, none⟩ = some (.slice At r.length ct) := (hwb.cell (p := ⟨ba, oa + t, none⟩) hba).trans hct
              have hal : Below wr.heap.size wr (wr.alloc (.cells #[.slice At r.length ct] 31)) := (Below.refl _ wr).alloc (Nat.le_refl _) _
              have hw1 : w1.heap.size ≤ wr.heap.size := H.out.2.1.size
              have HRO := Lib.hid (H.out.1.below hal hw1)
              have HON := Lib.hid (show OldAt (wr.alloc (.cells #[.slice At r.length ct] 31)) w1.heap.size [.slice At r.length ct] [r] from by
                refine ⟨rfl, fun j l' hl' => ?_⟩
                have hj : j = 0 := by
                  have := (List.getElem?_eq_some_iff.1 hl').1
                  simp at this
                  exact this
                subst hj
                simp at hl'
                subst hl'
                refine ⟨At, ct, rfl, ?_⟩
                have h5 := (hlt2.below hwb).below hal
                refine ⟨h5.1, h5.2.1, fun h0 => ?_⟩
                obtain ⟨ad, e1, _, e3, e4⟩ := hlt2.2.2 h0
                obtain ⟨ad', e1', _, e3', e4'⟩ := h5.2.2 h0
                rw [e1] at e1'
                cases e1'
                exact ⟨ad, e1, Nat.lt_of_lt_of_le e3 HB1.out.size, e3', e4'⟩)
              have HCE := Lib.hid (show ∀ (j : Nat) (u : Value), [Value.slice At r.length ct][j]? = some u → (wr.alloc (.cells #[.slice At r.length ct] 31)).cell? ((⟨wr.heap.size, 0, none⟩ : Addr).add j) = some u from fun j u hu => cell_one_new wr _ _ j u hu)
              have HTK := Lib.hid (show pickL M (l.take (k + 1)) = pickL M (l.take k) ++ [r] from by rw [pick_succ hi, Int.toNat_natCast, hgr])
              have HOK := Lib.hid (show okIdx n (l.take (k + 1)) from fun x hx => by
                rw [List.take_add_one, hi] at hx
                rcases List.mem_append.1 hx with h3 | h3
                · exact H.out.2.2 x h3
                · have : x = (t : Int) := by simpa using h3
                  rw [this]
                  omega)
              have HLN := Lib.hid (show (pickL M (l.take k)).length + [r].length ≤ 100000 from by simp [pickL]; omega)
              have HAL := Lib.hid (And.intro hal hw1)
              generalize r.length = L at hc2 HRO HON HCE HAL
              clear hi hci hr hgr hct hlt2 hal h0 h1
              go_wp2_with (at_builtin; refine wpList_append_old _ _ _ rfl rfl w1.heap.size u6 (pickL M (l.take k)) [r] ⟨wr.heap.size, 0, none⟩ 1 1 _ rfl rfl HRO.out HON.out rfl HCE.out HLN.out (Nat.le_trans HAL.out.2 HAL.out.1.size) ?_; intro v9 w9 ho9 hg9)
              have HO9 := Lib.hid (show RowsO w9 w1.heap.size v9 (pickL M (l.take k) ++ [r]) ∧ Below w1.heap.size w1 w9 from ⟨ho9, (H.out.2.1.trans (HAL.out.1.mono HAL.out.2)).trans hg9⟩)
              clear ho9 hg9
              go_wp2
              go_roundw
              case rel => exact ⟨k + 1, by omega, by go_num, Lib.hid ⟨by rw [HTK.out]; exact HO9.out.1, HO9.out.2, HOK.out⟩⟩
              case measure => simp [intOf]; omega
        · obtain rfl : k = m := by omega
          have l1 : ¬ (k : Int) < (k : Int) := by omega
          have hok := H.out.2.2
          have hro := H.out.1
          rw [List.take_of_length_le (by omega)] at hok hro
          have HF := Lib.hid (HF1.out hok)
          obtain ⟨Ac, cc, hvc, hmc⟩ := hro.mtx
          have hlc : (pickL M l).length = k := by simp [pickL]; exact hlm
          rw [hlc] at hvc hmc
          subst hvc
          have HCP := Lib.hid (copied_says wr Ac k cc _ hmc (by omega) (fun r hr => by
            obtain ⟨i, hi, rfl⟩ := List.mem_map.1 hr
            have h3 := hok i hi
            have hmem : M.getD i.toNat [] ∈ M := by
              rw [List.getD_eq_getElem?_getD, List.getElem?_eq_getElem (by omega)]
              exact List.getElem_mem _
            have h4 := (HRR.out.2.2 _ hmem).2
            omega))
          have HWB := Lib.hid hwb
          clear hok hro hmc hlc hwb H
          go_wp2_with (go_at_call 50; refine HCP.out.mono ?_; rintro e w3 ⟨A3, n3, c3, rfl, hm3, hb3⟩; have HR3 := Lib.hid (And.intro hm3 hb3); clear hm3 hb3)
          go_ret2
          rw [HF.out]
          exact ⟨_, _, _, rfl, HR3.out.1, HWB.out.trans (HR3.out.2.mono HWB.out.size)⟩
    · have HCN := Lib.hid (fun W => counts_no m hcnt W)
      rw [if_neg (fun h => hcnt h.2.1)]
      clear hM hB hri hr hcnt
      go_enter Try.func29, Try.ntmps29
      go_wp2_with (first
        | (go_at_call 20; refine HRI.out.mono ?_; rintro e w1 ⟨rfl, hb1⟩; have HB1 := Lib.hid hb1; clear hb1)
        | (go_at_call 40; refine (HCN.out _).mono ?_; rintro e wn ⟨rfl, hwn⟩; obtain rfl : w1 = wn := hwn.symm))
      go_ret2
      exact ⟨_, _, _, rfl, Mtx.nil _ _ _, HB1.out⟩
  · rw [decide_eq_false hr] at hri
    have HRI := Lib.hid hri
    rw [if_neg (fun h => hr h.1)]
    clear hM hB hri hr
    go_enter Try.func29, Try.ntmps29
    go_wp2_with (go_at_call 20; refine HRI.out.mono ?_; rintro e w1 ⟨rfl, hb1⟩; have HB1 := Lib.hid hb1; clear hb1)
    go_ret2
    exact ⟨_, _, _, rfl, Mtx.nil _ _ _, HB1.out⟩
end Go.Proofs.Ytgakeecibofiiaa
