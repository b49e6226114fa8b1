/-
  Cut: bytes as so many shards.
-/
import Derived.Test.YtpbkabgjpieggaaFilled
namespace Go.Proofs.Ytpbkabgjpieggaa
open Go.RowKit

/-- How many bytes a shard has. -/
def cutSize (L many : Nat) : Nat := if L / many = 0 ∨ 0 < L % many then L / many + 1 else L / many
/-- The first k shards of s bytes each. -/
def cutTo (b : List UInt8) (s k : Nat) : List (List UInt8) := (List.range k).map (fun i => fillR s ((b.drop (i * s)).take s))
def cutL (b : List UInt8) (many : Nat) : List (List UInt8) := cutTo b (cutSize b.length many) many
theorem cutTo_length (b : List UInt8) (s k : Nat) : (cutTo b s k).length = k := by simp [cutTo]
theorem cutTo_succ (b : List UInt8) (s k : Nat) : cutTo b s (k + 1) = cutTo b s k ++ [fillR s ((b.drop (k * s)).take s)] := by simp [cutTo, List.range_succ]
theorem cut_row_length (b : List UInt8) (s i : Nat) : (fillR s ((b.drop (i * s)).take s)).length = s := fillR_length (by rw [List.length_take]; omega)
theorem cut_lev (b : List UInt8) (many : Nat) : Lev many (cutSize b.length many) (cutL b many) := ⟨cutTo_length _ _ _, fun r hr => by
  obtain ⟨i, _, rfl⟩ := List.mem_map.1 hr
  exact cut_row_length _ _ _⟩
theorem cut_size_pos (L many : Nat) : 1 ≤ cutSize L many := by
  unfold cutSize
  obtain ⟨a, ha⟩ : ∃ x, L / many = x := ⟨_, rfl⟩
  obtain ⟨b, hb⟩ : ∃ x, L % many = x := ⟨_, rfl⟩
  rw [ha, hb]
  by_cases h : a = 0 ∨ 0 < b
  · rw [if_pos h]; omega
  · rw [if_neg h]
    have : a ≠ 0 := fun e => h (.inl e)
    omega
theorem cut_patched {q : Nat} {x : List UInt8} {mm : Nat} (h : min x.length q = mm) : patched (List.replicate q 0) x 0 mm = fillR q (x.take q) := by
  subst h
  unfold patched fillR
  rw [List.take_zero, List.nil_append, Nat.zero_add, List.drop_replicate, List.length_take]
  rcases Nat.le_total x.length q with h1 | h1
  · rw [Nat.min_eq_left h1, Nat.min_eq_right h1, List.take_of_length_le (Nat.le_refl _), List.take_of_length_le h1]
  · rw [Nat.min_eq_right h1, Nat.min_eq_left h1]
theorem cut_drop (b : List UInt8) (x s : Nat) : (b.drop x).drop (min (b.drop x).length s) = b.drop (x + s) := by
  rw [List.drop_drop, List.length_drop]
  rcases Nat.le_total (b.length - x) s with h | h
  · rw [Nat.min_eq_left h, List.drop_of_length_le (by omega), List.drop_of_length_le (by omega)]
  · rw [Nat.min_eq_right h]
theorem byteInfo1 : (Try.prog.info? 5).map (·.size) = some 1 := by
  obtain ⟨i0, h0, _, h2, _⟩ := info_parts Try.byteInfo
  rw [h0]; simp [h2]
/-- Such rows are handed back, and no error. -/
def GivesC (w : World) (n q : Nat) (M : List (List UInt8)) (e : Ending) (w' : World) : Prop := ∃ g B, e = .returned (.tuple #[.slice (some ⟨g, 0, none⟩) n n, .int .i64 0]) ∧ FillS w w' g n q B M
theorem cut_no (w : World) (v : Value) (many : Int) (h : ¬ (1 ≤ many ∧ many ≤ 255)) : Calls Try.prog 16 #[v, .int .i64 many] w fun e w' => e = .returned (.tuple #[.slice none 0 0, .int .i64 2]) ∧ w' = w := by
  by_cases h1 : many < 1
  · go_enter Try.func16, Try.ntmps16
    go_wp2
    go_ret2
    exact ⟨rfl, rfl⟩
  · have h2 : 255 < many := by omega
    go_enter Try.func16, Try.ntmps16
    go_wp2
    go_ret2
    exact ⟨rfl, rfl⟩
set_option maxRecDepth 100000 in
set_option maxHeartbeats 4000000 in
theorem cut_yes (w : World) (A : Option Addr) (n c : Nat) (b : List UInt8) (hb : Lies w (fun _ => True) A n c (bc b)) (hn : n ≤ 10000) (many : Nat) (h1 : 1 ≤ many) (h2 : many ≤ 255) (s : Nat) (hs : cutSize n many = s) :
    Calls Try.prog 16 #[.slice A n c, .int .i64 (many : Int)] w (GivesC w many s (cutTo b s many)) := by
  have hbl : b.length = n := by rw [← bc_length]; exact hb.len
  obtain ⟨i0, hi0, hz0, hz1, hz2⟩ := info_parts Try.byteInfo
  obtain ⟨j0, hj0, jz0, jz1, jz2⟩ := info_parts rowInfo
  have HL := Lib.hid (hb.weak (N' := fun x => x < w.heap.size) (fun _ hx _ => hx))
  have l1 : ¬ (many : Int) < 1 := by omega
  have l2 : ¬ (255 : Int) < (many : Int) := by omega
  have l3 : ¬ (many : Int) = 0 := by omega
  have d1 : (n : Int).tdiv (many : Int) = ((n / many : Nat) : Int) := by rw [Int.tdiv_eq_ediv_of_nonneg (by omega)]; rfl
  have d2 : (n : Int).tmod (many : Int) = ((n % many : Nat) : Int) := by rw [Int.tmod_eq_emod_of_nonneg (by omega)]; rfl
  have d3 : n / many ≤ n := Nat.div_le_self _ _
  obtain ⟨dv, hdv⟩ : ∃ x, n / many = x := ⟨_, rfl⟩
  obtain ⟨md, hmd⟩ : ∃ x, n % many = x := ⟨_, rfl⟩
  rw [hdv] at d1 d3
  rw [hmd] at d2
  have d4 : IntKind.i64.wrap (dv : Int) = (dv : Int) := IntWalk.i64_in _ (by omega)
  have d5 : IntKind.i64.wrap ((dv : Int) + 1) = (dv : Int) + 1 := IntWalk.i64_in _ (by omega)
  unfold cutSize at hs
  rw [hdv, hmd] at hs
  have hs10 : s ≤ 10001 := by rw [← hs]; split <;> omega
  have HBL := Lib.hid hbl
  clear hb hbl hdv hmd
  by_cases c1 : dv = 0
  · have hse : s = dv + 1 := by rw [← hs, if_pos (.inl c1)]
    have e1 : ((dv : Int) == 0) = true := by simp; omega
    have e2 : (dv : Int) + 1 = (s : Int) := by omega
    rw [e2] at d5
    clear hs c1 hse
    go_enter Try.func16, Try.ntmps16
    go_wp2_with (at_make; refine wpList_make_full w rfl _ _ 22 rfl w.heap.size 31 j0 _ 1 Try.underlying22 hj0 jz0 jz1 _ _ _ _ many rfl rfl rfl rfl (by rw [jz2]; omega) (by unfold maxLen; omega) (Nat.le_refl _) ?_; intro w3 hown3 hg3)
    have H3 := Lib.hid (FillS.made (Below.refl _ w) hown3 hg3 s (fun _ => 0))
    have HG3 := Lib.hid (Nat.le_refl w.heap.size)
    generalize hge : w.heap.size = g at H3
    have HGE := Lib.hid hge
    clear hown3 hg3 hge
    go_loopw [0, 8, 33] (fun bv _ i wr => ∃ (k : Nat) (A' : Option Addr) (n' c' : Nat), k ≤ many ∧ i = .int .i64 (k : Int) ∧ bv = .slice A' n' c' ∧ Hid (Lies wr (fun x => x < w.heap.size) A' n' c' (bc (b.drop (k * s))) ∧ ∃ B, FillS w wr g many s B (cutTo b s k))) (fun _ _ i _ => many - (intOf i).toNat)
    case atStart => exact ⟨0, A, n, c, by omega, rfl, rfl, Lib.hid ⟨by rw [Nat.zero_mul, List.drop_zero]; exact HL.out.below H3.out.below, _, H3.out⟩⟩
    case round =>
      obtain ⟨k, A', n', c', hk, rfl, rfl, H⟩ := hrel
      by_cases hlt : k < many
      · have l5 : (k : Int) < (many : Int) := by omega
        obtain ⟨HLI, B, HF⟩ := H.out
        have HLI' := Lib.hid HLI
        have HFF := Lib.hid HF
        have hgw := HF.tab.lt
        have hglo := HF.glo
        obtain ⟨x, hx⟩ : ∃ x, b.drop (k * s) = x := ⟨_, rfl⟩
        have hxl : x.length = n' := by rw [← hx, ← bc_length]; exact HLI.len
        obtain ⟨mm, hmm⟩ : ∃ y, min n' s = y := ⟨_, rfl⟩
        have HX := Lib.hid hx
        have HXL := Lib.hid hxl
        have HMM := Lib.hid hmm
        rw [hx] at HLI'
        have hmn : mm ≤ n' := by omega
        have hs1 := fun W => sliceAt_from (P := Try.prog) Try.underlying31 byteInfo1 .i64 A' n' c' mm hmn W
        have HDL := Lib.hid (cutTo_length b s k)
        clear HLI HF H hx hxl hmm
        go_upto_region 11 with (at_make; refine wpList_make_full wr rfl _ _ 31 rfl wr.heap.size 5 i0 _ 1 Try.underlying31 hi0 hz0 hz1 _ _ _ _ s rfl rfl rfl rfl (by rw [hz2]; omega) (by unfold maxLen; omega) (Nat.le_refl _) ?_; intro w4 hown4 hg4; rw [zero_made] at hown4; have hB4 := (Below.refl wr.heap.size wr).grown hg4 (Nat.le_refl _) (fun k hk => by cases hk); obtain ⟨cur, hcur, hcl, _⟩ := (HFF.out.then hB4).tab; have hv0 : w4.cell? ⟨g, k, none⟩ = some (cur[k]'(by omega)) := (by rw [hcur.cell]; first | done | simp); have hf0 := hcur.frozen k; have HX4 := Lib.hid (And.intro (box_own hown4) hB4); clear hown4 hg4 hB4)
        have hs4 : wr.heap.size < w4.heap.size := HX4.out.1.lt
        generalize hw5 : w4.setCell (⟨g, k, none⟩ : Addr) (Value.slice (some ⟨wr.heap.size, 0, none⟩) s s) = w5
        have hcg : w5.cell? ⟨g, k, none⟩ = some (.slice (some ⟨wr.heap.size, 0, none⟩) s s) := by rw [← hw5]; exact World.cell?_setCell_same _ _ _ hv0
        have HX5 := Lib.hid (show Box w5 wr.heap.size 5 (bc (List.replicate s 0)).toArray ∧ Lies w5 (fun y => y < w.heap.size) A' n' c' (bc x) from by
          subst hw5
          exact ⟨box_off HX4.out.1 (p := ⟨g, k, none⟩) (fun e => by have e' : wr.heap.size = g := e; omega) _, lies_set (HLI'.out.below HX4.out.2) (p := ⟨g, k, none⟩) (fun h => by have h' : g < w.heap.size := h; omega) _⟩)
        clear hv0 hf0 hcur
        go_wp2_with (refine wpList_copy_any rfl _ _ rfl wr.heap.size 0 s s n' c' A' rfl rfl (List.replicate s 0) HX5.out.1 _ x HX5.out.2 (by simp) ?_; intro w6 hx6 hg6; rw [HMM.out] at hx6 ⊢; have HX6 := Lib.hid (And.intro hx6 hg6); clear hx6 hg6)
        go_roundw
        case rel =>
          refine ⟨k + 1, _, _, _, by omega, by go_num, rfl, Lib.hid ⟨?_, (fun i => if i = k then wr.heap.size else B i), ?_⟩⟩
          · have h6 := (HX5.out.2.grown HX6.out.2 (fun h => by have h' : wr.heap.size < w.heap.size := h; omega)).from mm hmn
            rw [bc_drop] at h6
            rw [show b.drop ((k + 1) * s) = x.drop mm from by rw [Nat.succ_mul, ← cut_drop, HX.out, HXL.out, HMM.out]]
            exact h6
          · rw [cutTo_succ, HX.out, ← cut_patched (x := x) (q := s) (mm := mm) (by rw [HXL.out]; exact HMM.out)]
            exact HFF.out.push HDL.out hlt HX4.out.2 hs4 hw5.symm HX6.out.2 HX6.out.1 (by rw [cut_patched (x := x) (q := s) (mm := mm) (by rw [HXL.out]; exact HMM.out)]; exact fillR_length (by rw [List.length_take]; omega))
        case measure => simp [intOf]; omega
      · obtain rfl : k = many := by omega
        have l5 : ¬ (k : Int) < (k : Int) := by omega
        obtain ⟨_, B, HF⟩ := H.out
        have HFF := Lib.hid HF
        clear HF H
        go_wp2
        go_ret2
        exact ⟨g, B, rfl, HFF.out⟩
  · by_cases c2 : 0 < md
    · have hse : s = dv + 1 := by rw [← hs, if_pos (.inr c2)]
      have e1 : ¬ (dv : Int) = 0 := by omega
      have e2 : (dv : Int) + 1 = (s : Int) := by omega
      have e3 : (0 : Int) < (md : Int) := by omega
      rw [e2] at d5
      clear hs hse
      go_enter Try.func16, Try.ntmps16
      go_wp2_with (at_make; refine wpList_make_full w rfl _ _ 22 rfl w.heap.size 31 j0 _ 1 Try.underlying22 hj0 jz0 jz1 _ _ _ _ many rfl rfl rfl rfl (by rw [jz2]; omega) (by unfold maxLen; omega) (Nat.le_refl _) ?_; intro w3 hown3 hg3)
      have H3 := Lib.hid (FillS.made (Below.refl _ w) hown3 hg3 s (fun _ => 0))
      have HG3 := Lib.hid (Nat.le_refl w.heap.size)
      generalize hge : w.heap.size = g at H3
      have HGE := Lib.hid hge
      clear hown3 hg3 hge
      go_loopw [0, 8, 33] (fun bv _ i wr => ∃ (k : Nat) (A' : Option Addr) (n' c' : Nat), k ≤ many ∧ i = .int .i64 (k : Int) ∧ bv = .slice A' n' c' ∧ Hid (Lies wr (fun x => x < w.heap.size) A' n' c' (bc (b.drop (k * s))) ∧ ∃ B, FillS w wr g many s B (cutTo b s k))) (fun _ _ i _ => many - (intOf i).toNat)
      case atStart => exact ⟨0, A, n, c, by omega, rfl, rfl, Lib.hid ⟨by rw [Nat.zero_mul, List.drop_zero]; exact HL.out.below H3.out.below, _, H3.out⟩⟩
      case round =>
        obtain ⟨k, A', n', c', hk, rfl, rfl, H⟩ := hrel
        by_cases hlt : k < many
        · have l5 : (k : Int) < (many : Int) := by omega
          obtain ⟨HLI, B, HF⟩ := H.out
          have HLI' := Lib.hid HLI
          have HFF := Lib.hid HF
          have hgw := HF.tab.lt
          have hglo := HF.glo
          obtain ⟨x, hx⟩ : ∃ x, b.drop (k * s) = x := ⟨_, rfl⟩
          have hxl : x.length = n' := by rw [← hx, ← bc_length]; exact HLI.len
          obtain ⟨mm, hmm⟩ : ∃ y, min n' s = y := ⟨_, rfl⟩
          have HX := Lib.hid hx
          have HXL := Lib.hid hxl
          have HMM := Lib.hid hmm
          rw [hx] at HLI'
          have hmn : mm ≤ n' := by omega
          have hs1 := fun W => sliceAt_from (P := Try.prog) Try.underlying31 byteInfo1 .i64 A' n' c' mm hmn W
          have HDL := Lib.hid (cutTo_length b s k)
          clear HLI HF H hx hxl hmm
          go_upto_region 11 with (at_make; refine wpList_make_full wr rfl _ _ 31 rfl wr.heap.size 5 i0 _ 1 Try.underlying31 hi0 hz0 hz1 _ _ _ _ s rfl rfl rfl rfl (by rw [hz2]; omega) (by unfold maxLen; omega) (Nat.le_refl _) ?_; intro w4 hown4 hg4; rw [zero_made] at hown4; have hB4 := (Below.refl wr.heap.size wr).grown hg4 (Nat.le_refl _) (fun k hk => by cases hk); obtain ⟨cur, hcur, hcl, _⟩ := (HFF.out.then hB4).tab; have hv0 : w4.cell? ⟨g, k, none⟩ = some (cur[k]'(by omega)) := (by rw [hcur.cell]; first | done | simp); have hf0 := hcur.frozen k; have HX4 := Lib.hid (And.intro (box_own hown4) hB4); clear hown4 hg4 hB4)
          have hs4 : wr.heap.size < w4.heap.size := HX4.out.1.lt
          generalize hw5 : w4.setCell (⟨g, k, none⟩ : Addr) (Value.slice (some ⟨wr.heap.size, 0, none⟩) s s) = w5
          have hcg : w5.cell? ⟨g, k, none⟩ = some (.slice (some ⟨wr.heap.size, 0, none⟩) s s) := by rw [← hw5]; exact World.cell?_setCell_same _ _ _ hv0
          have HX5 := Lib.hid (show Box w5 wr.heap.size 5 (bc (List.replicate s 0)).toArray ∧ Lies w5 (fun y => y < w.heap.size) A' n' c' (bc x) from by
            subst hw5
            exact ⟨box_off HX4.out.1 (p := ⟨g, k, none⟩) (fun e => by have e' : wr.heap.size = g := e; omega) _, lies_set (HLI'.out.below HX4.out.2) (p := ⟨g, k, none⟩) (fun h => by have h' : g < w.heap.size := h; omega) _⟩)
          clear hv0 hf0 hcur
          go_wp2_with (refine wpList_copy_any rfl _ _ rfl wr.heap.size 0 s s n' c' A' rfl rfl (List.replicate s 0) HX5.out.1 _ x HX5.out.2 (by simp) ?_; intro w6 hx6 hg6; rw [HMM.out] at hx6 ⊢; have HX6 := Lib.hid (And.intro hx6 hg6); clear hx6 hg6)
          go_roundw
          case rel =>
            refine ⟨k + 1, _, _, _, by omega, by go_num, rfl, Lib.hid ⟨?_, (fun i => if i = k then wr.heap.size else B i), ?_⟩⟩
            · have h6 := (HX5.out.2.grown HX6.out.2 (fun h => by have h' : wr.heap.size < w.heap.size := h; omega)).from mm hmn
              rw [bc_drop] at h6
              rw [show b.drop ((k + 1) * s) = x.drop mm from by rw [Nat.succ_mul, ← cut_drop, HX.out, HXL.out, HMM.out]]
              exact h6
            · rw [cutTo_succ, HX.out, ← cut_patched (x := x) (q := s) (mm := mm) (by rw [HXL.out]; exact HMM.out)]
              exact HFF.out.push HDL.out hlt HX4.out.2 hs4 hw5.symm HX6.out.2 HX6.out.1 (by rw [cut_patched (x := x) (q := s) (mm := mm) (by rw [HXL.out]; exact HMM.out)]; exact fillR_length (by rw [List.length_take]; omega))
          case measure => simp [intOf]; omega
        · obtain rfl : k = many := by omega
          have l5 : ¬ (k : Int) < (k : Int) := by omega
          obtain ⟨_, B, HF⟩ := H.out
          have HFF := Lib.hid HF
          clear HF H
          go_wp2
          go_ret2
          exact ⟨g, B, rfl, HFF.out⟩
    · have hse : s = dv := by rw [← hs, if_neg (fun h => h.elim c1 c2)]
      subst hse
      have e1 : ¬ (s : Int) = 0 := by omega
      have e3 : ¬ (0 : Int) < (md : Int) := by omega
      clear hs
      go_enter Try.func16, Try.ntmps16
      go_wp2_with (at_make; refine wpList_make_full w rfl _ _ 22 rfl w.heap.size 31 j0 _ 1 Try.underlying22 hj0 jz0 jz1 _ _ _ _ many rfl rfl rfl rfl (by rw [jz2]; omega) (by unfold maxLen; omega) (Nat.le_refl _) ?_; intro w3 hown3 hg3)
      have H3 := Lib.hid (FillS.made (Below.refl _ w) hown3 hg3 s (fun _ => 0))
      have HG3 := Lib.hid (Nat.le_refl w.heap.size)
      generalize hge : w.heap.size = g at H3
      have HGE := Lib.hid hge
      clear hown3 hg3 hge
      go_loopw [0, 8, 33] (fun bv _ i wr => ∃ (k : Nat) (A' : Option Addr) (n' c' : Nat), k ≤ many ∧ i = .int .i64 (k : Int) ∧ bv = .slice A' n' c' ∧ Hid (Lies wr (fun x => x < w.heap.size) A' n' c' (bc (b.drop (k * s))) ∧ ∃ B, FillS w wr g many s B (cutTo b s k))) (fun _ _ i _ => many - (intOf i).toNat)
      case atStart => exact ⟨0, A, n, c, by omega, rfl, rfl, Lib.hid ⟨by rw [Nat.zero_mul, List.drop_zero]; exact HL.out.below H3.out.below, _, H3.out⟩⟩
      case round =>
        obtain ⟨k, A', n', c', hk, rfl, rfl, H⟩ := hrel
        by_cases hlt : k < many
        · have l5 : (k : Int) < (many : Int) := by omega
          obtain ⟨HLI, B, HF⟩ := H.out
          have HLI' := Lib.hid HLI
          have HFF := Lib.hid HF
          have hgw := HF.tab.lt
          have hglo := HF.glo
          obtain ⟨x, hx⟩ : ∃ x, b.drop (k * s) = x := ⟨_, rfl⟩
          have hxl : x.length = n' := by rw [← hx, ← bc_length]; exact HLI.len
          obtain ⟨mm, hmm⟩ : ∃ y, min n' s = y := ⟨_, rfl⟩
          have HX := Lib.hid hx
          have HXL := Lib.hid hxl
          have HMM := Lib.hid hmm
          rw [hx] at HLI'
          have hmn : mm ≤ n' := by omega
          have hs1 := fun W => sliceAt_from (P := Try.prog) Try.underlying31 byteInfo1 .i64 A' n' c' mm hmn W
          have HDL := Lib.hid (cutTo_length b s k)
          clear HLI HF H hx hxl hmm
          go_upto_region 11 with (at_make; refine wpList_make_full wr rfl _ _ 31 rfl wr.heap.size 5 i0 _ 1 Try.underlying31 hi0 hz0 hz1 _ _ _ _ s rfl rfl rfl rfl (by rw [hz2]; omega) (by unfold maxLen; omega) (Nat.le_refl _) ?_; intro w4 hown4 hg4; rw [zero_made] at hown4; have hB4 := (Below.refl wr.heap.size wr).grown hg4 (Nat.le_refl _) (fun k hk => by cases hk); obtain ⟨cur, hcur, hcl, _⟩ := (HFF.out.then hB4).tab; have hv0 : w4.cell? ⟨g, k, none⟩ = some (cur[k]'(by omega)) := (by rw [hcur.cell]; first | done | simp); have hf0 := hcur.frozen k; have HX4 := Lib.hid (And.intro (box_own hown4) hB4); clear hown4 hg4 hB4)
          have hs4 : wr.heap.size < w4.heap.size := HX4.out.1.lt
          generalize hw5 : w4.setCell (⟨g, k, none⟩ : Addr) (Value.slice (some ⟨wr.heap.size, 0, none⟩) s s) = w5
          have hcg : w5.cell? ⟨g, k, none⟩ = some (.slice (some ⟨wr.heap.size, 0, none⟩) s s) := by rw [← hw5]; exact World.cell?_setCell_same _ _ _ hv0
          have HX5 := Lib.hid (show Box w5 wr.heap.size 5 (bc (List.replicate s 0)).toArray ∧ Lies w5 (fun y => y < w.heap.size) A' n' c' (bc x) from by
            subst hw5
            exact ⟨box_off HX4.out.1 (p := ⟨g, k, none⟩) (fun e => by have e' : wr.heap.size = g := e; omega) _, lies_set (HLI'.out.below HX4.out.2) (p := ⟨g, k, none⟩) (fun h => by have h' : g < w.heap.size := h; omega) _⟩)
          clear hv0 hf0 hcur
          go_wp2_with (refine wpList_copy_any rfl _ _ rfl wr.heap.size 0 s s n' c' A' rfl rfl (List.replicate s 0) HX5.out.1 _ x HX5.out.2 (by simp) ?_; intro w6 hx6 hg6; rw [HMM.out] at hx6 ⊢; have HX6 := Lib.hid (And.intro hx6 hg6); clear hx6 hg6)
          go_roundw
          case rel =>
            refine ⟨k + 1, _, _, _, by omega, by go_num, rfl, Lib.hid ⟨?_, (fun i => if i = k then wr.heap.size else B i), ?_⟩⟩
            · have h6 := (HX5.out.2.grown HX6.out.2 (fun h => by have h' : wr.heap.size < w.heap.size := h; omega)).from mm hmn
              rw [bc_drop] at h6
              rw [show b.drop ((k + 1) * s) = x.drop mm from by rw [Nat.succ_mul, ← cut_drop, HX.out, HXL.out, HMM.out]]
              exact h6
            · rw [cutTo_succ, HX.out, ← cut_patched (x := x) (q := s) (mm := mm) (by rw [HXL.out]; exact HMM.out)]
              exact HFF.out.push HDL.out hlt HX4.out.2 hs4 hw5.symm HX6.out.2 HX6.out.1 (by rw [cut_patched (x := x) (q := s) (mm := mm) (by rw [HXL.out]; exact HMM.out)]; exact fillR_length (by rw [List.length_take]; omega))
          case measure => simp [intOf]; omega
        · obtain rfl : k = many := by omega
          have l5 : ¬ (k : Int) < (k : Int) := by omega
          obtain ⟨_, B, HF⟩ := H.out
          have HFF := Lib.hid HF
          clear HF H
          go_wp2
          go_ret2
          exact ⟨g, B, rfl, HFF.out⟩
end Go.Proofs.Ytpbkabgjpieggaa
