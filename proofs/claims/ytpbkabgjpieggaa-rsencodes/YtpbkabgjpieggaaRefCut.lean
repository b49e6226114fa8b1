/-
  The reference's Cut tells the same.
-/
import Derived.Test.YtpbkabgjpieggaaJoinS
namespace Go.Proofs.Ytpbkabgjpieggaa
open Go.RowKit

theorem cut_up (L many : Nat) (h : 1 ≤ many) : max 1 ((L + many - 1) / many) = cutSize L many := by
  have h1 := Nat.div_add_mod L many
  have h2 := Nat.mod_lt L (show many > 0 by omega)
  unfold cutSize
  obtain ⟨a, ha⟩ : ∃ x, L / many = x := ⟨_, rfl⟩
  obtain ⟨r, hr⟩ : ∃ x, L % many = x := ⟨_, rfl⟩
  rw [ha, hr] at h1 ⊢
  rw [hr] at h2
  have e1 : (a + 1) * many = many * a + many := by rw [Nat.add_mul, Nat.one_mul, Nat.mul_comm]
  have e2 : (a + 2) * many = many * a + 2 * many := by rw [Nat.add_mul, Nat.mul_comm]
  have e3 : a * many = many * a := Nat.mul_comm _ _
  rcases Nat.eq_zero_or_pos r with h3 | h3
  · have h4 : (L + many - 1) / many = a := Nat.div_eq_of_lt_le (by omega) (by omega)
    rw [h4]
    rcases Nat.eq_zero_or_pos a with h5 | h5
    · rw [if_pos (.inl h5)]; omega
    · rw [if_neg (by omega)]; omega
  · have h4 : (L + many - 1) / many = a + 1 := Nat.div_eq_of_lt_le (by omega) (by rw [show a + 1 + 1 = a + 2 by omega]; omega)
    rw [h4, if_pos (.inr h3)]
    omega
/-- A shard, place by place. -/
def placeF (b : List UInt8) (s i j : Nat) : UInt8 := b.getD (i * s + j) 0
theorem cut_row (b : List UInt8) (s i : Nat) : fillR s ((b.drop (i * s)).take s) = byRule s (placeF b s i) := by
  apply List.ext_getElem?
  intro j
  rcases Nat.lt_or_ge j s with hj | hj
  · rw [byRule_at s _ j hj, placeF, fillR]
    rcases Nat.lt_or_ge (i * s + j) b.length with h1 | h1
    · rw [List.getElem?_append_left (by rw [List.length_take, List.length_drop]; omega), List.getElem?_take_of_lt hj, List.getElem?_drop, List.getD_eq_getElem?_getD, List.getElem?_eq_getElem h1]
      rfl
    · rw [List.getElem?_append_right (by rw [List.length_take, List.length_drop]; omega), List.getElem?_replicate, if_pos (by rw [List.length_take, List.length_drop]; omega), List.getD_eq_getElem?_getD, List.getElem?_eq_none h1]
      rfl
  · rw [List.getElem?_eq_none (by rw [cut_row_length]; exact hj), List.getElem?_eq_none (by rw [byRule_length]; exact hj)]
theorem cutTo_by (b : List UInt8) (s k : Nat) : cutTo b s k = (List.range k).map (fun i => byRule s (placeF b s i)) := by
  unfold cutTo
  apply List.map_congr_left
  intro i _
  exact cut_row b s i
theorem fill_skip (n j : Nat) (F : Nat → UInt8) (h : F j = 0) : byRule n (fillTo F j) = byRule n (fillTo F (j + 1)) := by
  apply List.map_congr_left
  intro i _
  unfold fillTo
  by_cases h1 : i < j
  · rw [if_pos h1, if_pos (by omega)]
  · rw [if_neg h1]
    by_cases h2 : i = j
    · rw [if_pos (by omega), h2, h]
    · rw [if_neg (by omega)]
theorem byRule_put (n j : Nat) (f : Nat → UInt8) (u : UInt8) : (bc (byRule n f)).toArray.setIfInBounds j (.int .u8 (u.toNat : Int)) = (bc ((byRule n f).set j u)).toArray := by
  rw [List.setIfInBounds_toArray]
  congr 1
  unfold bc
  rw [List.map_set]
set_option maxRecDepth 100000 in
set_option maxHeartbeats 4000000 in
theorem rcut_says (w : World) (A : Option Addr) (n c : Nat) (b : List UInt8) (hb : Lies w (fun _ => True) A n c (bc b)) (hn : n ≤ 10000) (many : Nat) (h1 : 1 ≤ many) (h2 : many ≤ 255) (s : Nat) (hs : cutSize n many = s) :
    Calls Try.prog 17 #[.slice A n c, .int .i64 (many : Int)] w fun e w' => ∃ v, e = .returned v ∧ Bld w' w.heap.size v (cutTo b s many) ∧ Below w.heap.size w w' := by
  rw [cutTo_by]
  have hbl : b.length = n := by rw [← bc_length]; exact hb.len
  obtain ⟨i0, hi0, hz0, hz1, hz2⟩ := info_parts Try.byteInfo
  have hup := cut_up n many h1
  rw [hs] at hup
  obtain ⟨x, hx⟩ : ∃ y, n + many = y := ⟨_, rfl⟩
  obtain ⟨y, hy⟩ : ∃ z, x - 1 = z := ⟨_, rfl⟩
  obtain ⟨z, hz⟩ : ∃ t, y / many = t := ⟨_, rfl⟩
  have hzy : z ≤ y := by rw [← hz]; exact Nat.div_le_self _ _
  have a1 : (n : Int) + (many : Int) = (x : Int) := by omega
  have a2 : IntKind.i64.wrap (x : Int) = (x : Int) := IntWalk.i64_in _ (by omega)
  have a3 : (x : Int) - 1 = (y : Int) := by omega
  have a4 : IntKind.i64.wrap (y : Int) = (y : Int) := IntWalk.i64_in _ (by omega)
  have a5 : (y : Int).tdiv (many : Int) = (z : Int) := by rw [Int.tdiv_eq_ediv_of_nonneg (by omega), ← hz]; rfl
  have a6 : IntKind.i64.wrap (z : Int) = (z : Int) := IntWalk.i64_in _ (by omega)
  have a7 : max (1 : Int) (z : Int) = (s : Int) := by rw [hx, hy, hz] at hup; omega
  have l3 : ¬ (many : Int) = 0 := by omega
  have hs10 : s ≤ 11000 := by omega
  have HL := Lib.hid hb
  have HBL := Lib.hid hbl
  clear hb hbl hup hx hy hz hzy hs
  go_enter Try.func17, Try.ntmps17
  go_wp2_with fail
  go_loopw [6, 7, 8, 9] (fun o i _ _ wr => ∃ k : Nat, k ≤ many ∧ i = .int .i64 (k : Int) ∧ Hid (Bld wr w.heap.size o ((List.range k).map (fun i => byRule s (placeF b s i))) ∧ Below w.heap.size w wr)) (fun _ i _ _ _ => many - (intOf i).toNat)
  case atStart => exact ⟨0, by omega, rfl, Lib.hid ⟨by simpa using Bld.nil _ _, Below.refl _ _⟩⟩
  case round =>
    obtain ⟨i, hi, rfl, H⟩ := hrel
    obtain ⟨wo, hwo⟩ : ∃ x, x = wr := ⟨_, rfl⟩
    subst hwo
    by_cases hlt : i < many
    · have l1 : (i : Int) < (many : Int) := by omega
      have HTK := Lib.hid (show (List.range (i + 1)).map (fun i => byRule s (placeF b s i)) = (List.range i).map (fun i => byRule s (placeF b s i)) ++ [byRule s (placeF b s i)] from by rw [List.range_succ, List.map_append]; rfl)
      have HLM := Lib.hid (show ((List.range i).map (fun i => byRule s (placeF b s i))).length ≤ 100000 from by rw [List.length_map, List.length_range]; omega)
      have HLO := Lib.hid (byRule_length s (placeF b s i))
      obtain ⟨is, his⟩ : ∃ t, i * s = t := ⟨_, rfl⟩
      have hisb : is ≤ 255 * 11000 := by rw [← his]; exact Nat.mul_le_mul (by omega) hs10
      have b1 : (i : Int) * (s : Int) = (is : Int) := by rw [← his]; simp
      have b2 : IntKind.i64.wrap (is : Int) = (is : Int) := IntWalk.i64_in _ (by omega)
      have HIS := Lib.hid his
      clear his
      go_wp2_with (at_make; refine wpList_make_full _ rfl _ _ 31 rfl wo.heap.size 5 i0 _ 1 Try.underlying31 hi0 hz0 hz1 _ _ _ _ s rfl rfl rfl rfl (by rw [hz2]; omega) (by unfold maxLen; omega) (Nat.le_refl _) ?_; intro w1 hown1 hg1)
      rw [made_zero] at hown1
      have hbx := own_boxB hown1
      have hb1 : Below wo.heap.size wo w1 := (Below.refl _ wo).grown hg1 (Nat.le_refl _) (fun k hk => by cases hk)
      have H1 := Lib.hid (show Box w1 wo.heap.size 5 (bc (byRule s (fillTo (placeF b s i) 0))).toArray ∧ Below wo.heap.size wo w1 from ⟨by rw [fill_zero]; exact hbx, hb1⟩)
      have hgl := hbx.lt
      generalize hge : wo.heap.size = gr at H1
      have HGE := Lib.hid hge
      clear hbx hb1 hown1 hg1 hgl
      go_loopw [9] (fun kv w2 => ∃ k : Nat, k ≤ s ∧ kv = .int .i64 (k : Int) ∧ Hid (Box w2 gr 5 (bc (byRule s (fillTo (placeF b s i) k))).toArray ∧ Below gr wo w2)) (fun kv _ => s - (intOf kv).toNat)
      case atStart => exact ⟨0, by omega, rfl, H1⟩
      case round =>
        obtain ⟨k, hk, rfl, H2⟩ := hrel
        by_cases hlt2 : k < s
        · have l2 : (k : Int) < (s : Int) := by omega
          obtain ⟨ik, hik⟩ : ∃ t, is + k = t := ⟨_, rfl⟩
          have b3 : (is : Int) + (k : Int) = (ik : Int) := by omega
          have b4 : IntKind.i64.wrap (ik : Int) = (ik : Int) := IntWalk.i64_in _ (by omega)
          have hF : placeF b s i k = b.getD ik 0 := by rw [placeF, HIS.out, hik]
          by_cases c1 : ik < n
          · have c1' : (ik : Int) < (n : Int) := by omega
            obtain ⟨u, hu⟩ : ∃ u, b[ik]? = some u := ⟨_, List.getElem?_eq_getElem (by rw [HBL.out]; exact c1)⟩
            have hFu : placeF b s i k = u := by rw [hF, List.getD_eq_getElem?_getD, hu]; rfl
            obtain ⟨bb, oo, hA, _, hbb, hcb⟩ := HL.out.at (j := ik) (u := .int .u8 (u.toNat : Int)) (by simp [bc, hu])
            subst hA
            have hbw : bb < wo.heap.size := Nat.lt_of_lt_of_le hbb H.out.2.size
            have hcu : wr.cell? ⟨bb, oo + ik, none⟩ = some (.int .u8 (u.toNat : Int)) := (H2.out.2.cell (p := ⟨bb, oo + ik, none⟩) (by rw [← hge]; exact hbw)).trans ((H.out.2.cell (p := ⟨bb, oo + ik, none⟩) hbb).trans hcb)
            have hcv : ∃ v, wr.cell? ⟨gr, k, none⟩ = some v := by rw [H2.out.1.cell]; exact ⟨.int .u8 ((fillTo (placeF b s i) k k).toNat : Int), by simp [bc, byRule, hlt2]⟩
            obtain ⟨v0, hv0⟩ := hcv
            have hf0 := H2.out.1.frozen k
            have HFU := Lib.hid hFu
            clear hu hF hik hFu hcb
            go_wp2
            go_roundw
            case rel =>
              refine ⟨k + 1, by omega, by go_num, Lib.hid ⟨?_, H2.out.2.setCell (p := ⟨gr, k, none⟩) (Nat.le_refl _) _⟩⟩
              have h5 := Box.put H2.out.1 k (.int .u8 (u.toNat : Int))
              rw [byRule_put, ← HFU.out, fill_step] at h5
              rw [← HFU.out]
              exact h5
            case measure => simp [intOf]; omega
          · have c1' : ¬ (ik : Int) < (n : Int) := by omega
            have HFZ := Lib.hid (show placeF b s i k = 0 from by rw [hF, List.getD_eq_getElem?_getD, List.getElem?_eq_none (by rw [HBL.out]; omega)]; rfl)
            clear hF hik
            go_wp2
            go_roundw
            case rel => exact ⟨k + 1, by omega, by go_num, Lib.hid ⟨by rw [← fill_skip s k _ HFZ.out]; exact H2.out.1, H2.out.2⟩⟩
            case measure => simp [intOf]; omega
        · obtain rfl : k = s := by omega
          have l2 : ¬ (k : Int) < (k : Int) := by omega
          have hbx2 := H2.out.1
          rw [fill_all] at hbx2
          have HB2 := Lib.hid (show Below wo.heap.size wo wr from by rw [hge]; exact H2.out.2)
          have HL2 := Lib.hid (box_liesN hbx2 HLO.out)
          have HBD := Lib.hid (H.out.1.below HB2.out)
          have HBW := Lib.hid (H.out.2.trans (HB2.out.mono H.out.2.size))
          obtain ⟨rl, hrl⟩ : ∃ x, byRule k (placeF b k i) = x := ⟨_, rfl⟩
          rw [hrl] at HL2 HTK HLO
          clear hrl hbx2
          go_wp2_with (at_builtin; refine append_rowN wr _ _ rfl rfl w.heap.size u6 ((List.range i).map (fun i => byRule k (placeF b k i))) (some ⟨gr, 0, none⟩) k k rl HLO.out rfl rfl HBD.out HL2.out HLM.out HBW.out.size ?_; intro v9 w9 hb9 hg9; have HB9 := Lib.hid (And.intro hb9 (HBW.out.trans hg9)); clear hb9 hg9)
          go_roundw
          case rel => exact ⟨i + 1, by omega, by go_num, Lib.hid ⟨by rw [HTK.out]; exact HB9.out.1, HB9.out.2⟩⟩
          case measure => simp [intOf]; omega
    · obtain rfl : i = many := by omega
      have l1 : ¬ (i : Int) < (i : Int) := by omega
      go_wp2
      go_ret
      exact ⟨_, rfl, H.out.1, H.out.2⟩
end Go.Proofs.Ytpbkabgjpieggaa
