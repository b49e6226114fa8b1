/-
  The reference's product of two matrices.
-/
import Derived.Test.YtgakeecibofiiaaRefSame
namespace Go.Proofs.Ytgakeecibofiiaa
open Go.RowKit

/-- A byte of a list, in a later world. -/
theorem lies_byte {w w' : World} {A : Option Addr} {n c k : Nat} {l : List UInt8} (h : Lies w (fun _ => True) A n c (bc l)) (hb : Below w.heap.size w w') (hk : k < n) : ∃ b off, A = some ⟨b, off, none⟩ ∧ b < w.heap.size ∧ w'.cell? ⟨b, off + k, none⟩ = some (.int .u8 ((l.getD k 0).toNat : Int)) := by
  have hl : l.length = n := by rw [← bc_length]; exact h.len
  obtain ⟨b, off, h1, _, h3, h4⟩ := h.at (j := k) (u := .int .u8 ((l.getD k 0).toNat : Int)) (by simp [bc, List.getD_eq_getElem?_getD, List.getElem?_eq_getElem (show k < l.length by omega)])
  exact ⟨b, off, h1, h3, (hb.cell (p := ⟨b, off + k, none⟩) h3).trans h4⟩
/-- One place of a product. -/
def placeL (N : List (List UInt8)) (r : List UInt8) (j k : Nat) : UInt8 := Gf.sum k (fun t => Gf.mul (r.getD t 0) ((N.getD t []).getD j 0))
/-- One row of a product. -/
def rowL (N : List (List UInt8)) (r : List UInt8) (q : Nat) : List UInt8 := (List.range q).map (fun j => placeL N r j N.length)
/-- The product. -/
def mulL (M N : List (List UInt8)) : List (List UInt8) := M.map (fun r => rowL N r (N.headD []).length)
theorem rowL_succ (N : List (List UInt8)) (r : List UInt8) (q : Nat) : rowL N r (q + 1) = rowL N r q ++ [placeL N r q N.length] := by simp [rowL, List.range_succ]

set_option maxRecDepth 100000 in
set_option maxHeartbeats 4000000 in
theorem rmulM_says (w : World) (A : Option Addr) (n c : Nat) (M : List (List UInt8)) (hM : Mtx w A n c M) (B : Option Addr) (m d : Nat) (N : List (List UInt8)) (hN : Mtx w B m d N) (hn : n ≤ 300) (hm : 1 ≤ m ∧ m ≤ 300) (q : Nat) (hq : q ≤ 300) (hfit : ∀ r ∈ M, r.length = m) (hrow : ∀ r ∈ N, r.length = q) :
    Calls Try.prog 15 #[.slice A n c, .slice B m d] w fun e w' => ∃ v, e = .returned v ∧ Bld w' w.heap.size v (mulL M N) ∧ Below w.heap.size w w' := by
  have hl1 := hM.len
  have hl2 := hN.len
  obtain ⟨r0, hr0⟩ : ∃ r, N[0]? = some r := ⟨_, List.getElem?_eq_getElem (by omega)⟩
  have hhd : N.headD [] = r0 := by
    cases N with
    | nil => simp at hr0
    | cons a t => simpa using hr0
  have hq0 : r0.length = q := hrow r0 (List.mem_of_getElem? hr0)
  have HMU := Lib.hid (show mulL M N = M.map (fun r => rowL N r q) from by rw [mulL, hhd, hq0])
  obtain ⟨b, off, B0, d0, hB, hb, hc0, _⟩ := hN.row hr0
  subst hB
  rw [hq0, Nat.add_zero] at hc0
  have HM := Lib.hid hM
  have HN := Lib.hid hN
  have HFIT := Lib.hid hfit
  have HROW := Lib.hid hrow
  have hp0 : 0 < m := by omega
  have hp0' : (0 : Int) < (m : Int) := by omega
  clear hM hN hfit hrow hhd hr0
  go_enter Try.func15, Try.ntmps15
  go_wp2_with fail
  go_loopw [5, 6] (fun o i wr => ∃ k : Nat, k ≤ n ∧ i = .int .i64 (k : Int) ∧ Hid (Bld wr w.heap.size o ((M.take k).map (fun r => rowL N r q)) ∧ Below w.heap.size w wr)) (fun _ i _ => n - (intOf i).toNat)
  case atStart => exact ⟨0, by omega, rfl, Lib.hid ⟨by simpa using Bld.nil _ _, Below.refl _ _⟩⟩
  case round =>
    obtain ⟨i, hi, rfl, H⟩ := hrel
    obtain ⟨ws, hws⟩ : ∃ x, x = wr := ⟨_, rfl⟩
    subst hws
    by_cases hlt : i < n
    · have l1 : (i : Int) < (n : Int) := by omega
      obtain ⟨r, hr⟩ : ∃ r, M[i]? = some r := ⟨_, List.getElem?_eq_getElem (by omega)⟩
      obtain ⟨ba, oa, Ai, ci, hA, hba, hci, hli⟩ := HM.out.row hr
      subst hA
      have hrl : r.length = m := HFIT.out r (List.mem_of_getElem? hr)
      rw [hrl] at hci hli
      have HTK := Lib.hid (show (M.take (i + 1)).map (fun r => rowL N r q) = (M.take i).map (fun r => rowL N r q) ++ [rowL N r q] from by rw [List.take_add_one, hr]; simp)
      have HLI := Lib.hid hli
      have HCI := Lib.hid (And.intro hba hci)
      clear hr hli hba hci
      go_wp2_with fail
      go_loopw [7, 8] (fun o j wj => ∃ t : Nat, t ≤ q ∧ j = .int .i64 (t : Int) ∧ Hid (Own wj ws.heap.size o (rowL N r t) ∧ Below ws.heap.size ws wj ∧ Below w.heap.size w wj)) (fun _ j _ => q - (intOf j).toNat)
      case atStart => exact ⟨0, by omega, rfl, Lib.hid ⟨Own.nil _ _, Below.refl _ _, H.out.2⟩⟩
      case round =>
        obtain ⟨t, ht, rfl, H2⟩ := hrel
        have hcb : wr.cell? ⟨b, off, none⟩ = some (.slice B0 q d0) := (H2.out.2.2.cell (p := ⟨b, off, none⟩) hb).trans hc0
        by_cases hlt2 : t < q
        · have l2 : (t : Int) < (q : Int) := by omega
          go_wp2_with fail
          clear hcb
          go_loopw [9, 10] (fun s z wk => ∃ (k : Nat) (y : UInt8), k ≤ m ∧ z = .int .i64 (k : Int) ∧ s = .int .u8 (y.toNat : Int) ∧ Hid (y = placeL N r t k ∧ Own wk ws.heap.size u7 (rowL N r t) ∧ Below ws.heap.size ws wk ∧ Below w.heap.size w wk)) (fun _ z _ => m - (intOf z).toNat)
          case atStart => exact ⟨0, 0, by omega, rfl, rfl, Lib.hid ⟨rfl, H2.out.1, H2.out.2.1, H2.out.2.2⟩⟩
          case round =>
            obtain ⟨k, y, hk, rfl, rfl, H3⟩ := hrel
            by_cases hlt3 : k < m
            · have l3 : (k : Int) < (m : Int) := by omega
              obtain ⟨s, hs⟩ : ∃ s, N[k]? = some s := ⟨_, List.getElem?_eq_getElem (by omega)⟩
              obtain ⟨b', off', Bk, dk, hB, hb', hdk, hlk⟩ := HN.out.row hs
              obtain ⟨rfl, rfl⟩ : b = b' ∧ off = off' := by
                injection hB with hB
                injection hB with h1 h2
                exact ⟨h1, h2⟩
              have hsl : s.length = q := HROW.out s (List.mem_of_getElem? hs)
              rw [hsl] at hdk hlk
              have hbw := H3.out.2.2.2
              obtain ⟨bi, oi, hAi, hbi, hcx⟩ := lies_byte HLI.out hbw hlt3
              obtain ⟨bk, ok, hBk, hbk, hcy⟩ := lies_byte hlk hbw hlt2
              subst hAi hBk
              obtain ⟨u, hu⟩ : ∃ u, r.getD k 0 = u := ⟨_, rfl⟩
              obtain ⟨v, hv⟩ : ∃ v, s.getD t 0 = v := ⟨_, rfl⟩
              rw [hu] at hcx
              rw [hv] at hcy
              have HST := Lib.hid (show placeL N r t (k + 1) = y ^^^ Gf.mul u v from by rw [placeL, Gf.sum_succ, H3.out.1, hu, List.getD_eq_getElem?_getD (l := N), hs]; show _ ^^^ Gf.mul u (s.getD t 0) = _; rw [hv]; rfl)
              have lt : ∀ {p : Nat}, p < w.heap.size → p < wr.heap.size := fun hp => Nat.lt_of_lt_of_le hp hbw.size
              have g1 := grows_cell ((hbw.cell (p := ⟨ba, oa + i, none⟩) HCI.out.1).trans HCI.out.2) (lt HCI.out.1)
              have g2 := grows_cell ((hbw.cell (p := ⟨b, off + k, none⟩) hb).trans hdk) (lt hb)
              have g3 := grows_cell hcx (lt hbi)
              have g4 := grows_cell hcy (lt hbk)
              have hx8 := bits_x8 y (Gf.mul u v)
              have hmu : ∀ p : Grows wr, Calls Try.prog 33 #[.int .u8 (u.toNat : Int), .int .u8 (v.toNat : Int)] p.val fun e w'' => e = .returned (.int .u8 ((Gf.mul u v).toNat : Int)) ∧ ∃ p' : Grows wr, w'' = p'.val := fun p => (rmul_says u v p.val).mono fun _ _ hh => ⟨hh.1, p, hh.2⟩
              obtain ⟨uv, huv⟩ : ∃ z, Gf.mul u v = z := ⟨_, rfl⟩
              rw [huv] at hmu hx8 HST
              clear hcx hcy hdk hlk hs hu hv huv lt hbw
              go_wp2_with fail
              refine wp_region_grows (by kernel_rfl) (by kernel_rfl) ?_
              repeat (first
                | quiet_step ((go_at_call 33; exact hmu _)))
              refine wpQuiet_nil ?_
              rintro w2 ⟨⟨_, hw2⟩, rfl⟩
              have HW := Lib.hid (And.intro (H3.out.2.1.below hw2) (And.intro (H3.out.2.2.1.trans (hw2.mono H3.out.2.2.1.size)) (H3.out.2.2.2.trans (hw2.mono H3.out.2.2.2.size))))
              clear hw2 g1 g2 g3 g4 hmu
              go_wp2
              go_roundw
              case rel => exact ⟨k + 1, y ^^^ uv, by omega, by go_num, rfl, Lib.hid ⟨HST.out.symm, HW.out⟩⟩
              case measure => simp [intOf]; omega
            · obtain rfl : k = m := by omega
              have l3 : ¬ (k : Int) < (k : Int) := by omega
              have HRS := Lib.hid (show rowL N r (t + 1) = rowL N r t ++ [y] from by rw [rowL_succ, hl2, H3.out.1])
              have hln : (rowL N r t).length = t := by simp [rowL]
              have HO := Lib.hid (H3.out.2.1.below ((Below.refl _ wr).alloc (Nat.le_refl _) (.cells #[.int .u8 (y.toNat : Int)] 5)))
              have HBL := Lib.hid (H3.out.2.2.1.alloc H3.out.2.2.1.size (.cells #[.int .u8 (y.toNat : Int)] 5))
              have HBW := Lib.hid (H3.out.2.2.2.alloc H3.out.2.2.2.size (.cells #[.int .u8 (y.toNat : Int)] 5))
              have HLN := Lib.hid hln
              clear hln
              go_wp2_with (at_builtin; refine wpList_bytes _ _ _ rfl rfl ws.heap.size u7 (rowL N r t) (some ⟨wr.heap.size, 0, none⟩) 1 1 [y] rfl rfl HO.out (lies_one wr y) (by intro h; cases h) (by have := HLN.out; simp; omega) HBL.out.size ?_; intro v9 w9 ho9 hg9)
              have HO9 := Lib.hid ho9
              have HB9 := Lib.hid (show Below ws.heap.size ws w9 ∧ Below w.heap.size w w9 from ⟨HBL.out.trans (HO.out.changed hg9 HBL.out.size), HBW.out.trans ((HO.out.changed hg9 HBL.out.size).mono H.out.2.size)⟩)
              clear ho9 hg9
              go_wp2
              go_roundw
              case rel => exact ⟨t + 1, by omega, by go_num, Lib.hid ⟨by rw [HRS.out]; exact HO9.out, HB9.out⟩⟩
              case measure => simp [intOf]; omega
        · obtain rfl : t = q := by omega
          have l2 : ¬ (t : Int) < (t : Int) := by omega
          obtain ⟨A7, c7, hv7, hl7⟩ := H2.out.1.liesN
          have HL7 := Lib.hid hl7
          have HV7 := Lib.hid hv7
          obtain ⟨rl, hrl2⟩ : ∃ x, rowL N r t = x := ⟨_, rfl⟩
          rw [hrl2] at HL7 HV7 HTK
          have HLM := Lib.hid (show ((M.take i).map (fun r => rowL N r t)).length ≤ 100000 from by rw [List.length_map, List.length_take]; omega)
          clear hl7 hv7 hrl2
          rw [HV7.out]
          go_wp2_with (at_builtin; refine wpList_append_row wr _ _ rfl rfl w.heap.size u5 ((M.take i).map (fun r => rowL N r t)) A7 c7 rl rfl rfl (H.out.1.below H2.out.2.1) HL7.out HLM.out H2.out.2.2.size ?_; intro v9 w9 hb9 hg9)
          have HB9 := Lib.hid (And.intro hb9 (H2.out.2.2.trans hg9))
          clear hb9 hg9
          go_wp2
          go_roundw
          case rel => exact ⟨i + 1, by omega, by go_num, Lib.hid ⟨by rw [HTK.out]; exact HB9.out.1, HB9.out.2⟩⟩
          case measure => simp [intOf]; omega
    · obtain rfl : i = n := by omega
      have l1 : ¬ (i : Int) < (i : Int) := by omega
      go_wp2
      go_ret
      refine ⟨_, rfl, ?_, H.out.2⟩
      have := H.out.1
      rwa [List.take_of_length_le (by omega), ← HMU.out] at this
end Go.Proofs.Ytgakeecibofiiaa
