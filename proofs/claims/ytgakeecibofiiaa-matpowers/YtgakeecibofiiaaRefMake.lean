/-
  The reference's matrices that change nothing, and Cauchy's.
-/
import Derived.Test.YtgakeecibofiiaaRefMulM
import Derived.Laws.OwnMore
import Derived.OwnWalk
import Derived.Deep.DeepCutAuto
import Derived.Deep.CutBlock
namespace Go.Proofs.Ytgakeecibofiiaa
open Go.RowKit

/-- The matrix that changes nothing. -/
def oneRow (n i : Nat) : List UInt8 := (List.replicate n 0).set i 1
def oneL (n : Nat) : List (List UInt8) := (List.range n).map (oneRow n)
theorem oneRow_length (n i : Nat) : (oneRow n i).length = n := by simp [oneRow]
/-- Cauchy's. -/
def cauRow (cols i : Nat) (k : Nat) : List UInt8 := (List.range k).map (fun j => Gf.inv (UInt8.ofNat (i + cols) ^^^ UInt8.ofNat j))
def cauL (rows cols : Nat) : List (List UInt8) := (List.range rows).map (fun i => cauRow cols i cols)
theorem cauRow_succ (cols i k : Nat) : cauRow cols i (k + 1) = cauRow cols i k ++ [Gf.inv (UInt8.ofNat (i + cols) ^^^ UInt8.ofNat k)] := by simp [cauRow, List.range_succ]
theorem cauRow_length (cols i k : Nat) : (cauRow cols i k).length = k := by simp [cauRow]

set_option maxRecDepth 100000 in
set_option maxHeartbeats 2000000 in
theorem rcauchy_says (w : World) (rows cols : Nat) (hr : rows ≤ 255) (hc : cols ≤ 255) (hs : rows + cols ≤ 256) :
    Calls Try.prog 26 #[.int .i64 (rows : Int), .int .i64 (cols : Int)] w fun e w' => ∃ v, e = .returned v ∧ Bld w' w.heap.size v (cauL rows cols) ∧ Below w.heap.size w w' := by
  go_enter Try.func26, Try.ntmps26
  go_wp2_with fail
  go_loopw [5, 6] (fun o i wr => ∃ k : Nat, k ≤ rows ∧ i = .int .i64 (k : Int) ∧ Hid (Bld wr w.heap.size o ((List.range k).map (fun i => cauRow cols i cols)) ∧ Below w.heap.size w wr)) (fun _ i _ => rows - (intOf i).toNat)
  case atStart => exact ⟨0, by omega, rfl, Lib.hid ⟨by simpa using Bld.nil _ _, Below.refl _ _⟩⟩
  case round =>
    obtain ⟨i, hi, rfl, H⟩ := hrel
    obtain ⟨ws, hws⟩ : ∃ x, x = wr := ⟨_, rfl⟩
    subst hws
    by_cases hlt : i < rows
    · have l1 : (i : Int) < (rows : Int) := by omega
      go_wp2_with fail
      go_loopw [7, 8] (fun o j wj => ∃ t : Nat, t ≤ cols ∧ j = .int .i64 (t : Int) ∧ Hid (Own wj ws.heap.size o (cauRow cols i t) ∧ Below ws.heap.size ws wj ∧ Below w.heap.size w wj)) (fun _ j _ => cols - (intOf j).toNat)
      case atStart => exact ⟨0, by omega, rfl, Lib.hid ⟨Own.nil _ _, Below.refl _ _, H.out.2⟩⟩
      case round =>
        obtain ⟨t, ht, rfl, H2⟩ := hrel
        by_cases hlt2 : t < cols
        · have l2 : (t : Int) < (cols : Int) := by omega
          obtain ⟨x, hx⟩ : ∃ x, UInt8.ofNat (i + cols) = x := ⟨_, rfl⟩
          obtain ⟨y, hy⟩ : ∃ y, UInt8.ofNat t = y := ⟨_, rfl⟩
          have hxn : (x.toNat : Int) = (i : Int) + (cols : Int) := by rw [← hx, Gf.ofNat_toNat' _ (by omega)]; omega
          have hyn : (y.toNat : Int) = (t : Int) := by rw [← hy, Gf.ofNat_toNat' _ (by omega)]
          have hm1 : IntKind.u8.wrap ((i : Int) + (cols : Int)) = (x.toNat : Int) := by rw [IntKind.wrap_u8', hxn]; omega
          have hm2 : IntKind.u8.wrap (t : Int) = (y.toNat : Int) := by rw [IntKind.wrap_u8', hyn]; omega
          have hm3 : ((i : Int) + (cols : Int)) % 256 = (x.toNat : Int) := by rw [hxn]; omega
          have hm4 : (t : Int) % 256 = (y.toNat : Int) := by rw [hyn]; omega
          have hx8 := bits_x8 x y
          have hI := rinv_says (x ^^^ y) wr
          obtain ⟨z, hz⟩ : ∃ z, Gf.inv (x ^^^ y) = z := ⟨_, rfl⟩
          rw [hz] at hI
          have HRS := Lib.hid (show cauRow cols i (t + 1) = cauRow cols i t ++ [z] from by rw [cauRow_succ, hx, hy, hz])
          have HLN := Lib.hid (cauRow_length cols i t)
          have HO := Lib.hid (H2.out.1.below ((Below.refl _ wr).alloc (Nat.le_refl _) (.cells #[.int .u8 (z.toNat : Int)] 5)))
          have HBL := Lib.hid (H2.out.2.1.alloc H2.out.2.1.size (.cells #[.int .u8 (z.toNat : Int)] 5))
          have HBW := Lib.hid (H2.out.2.2.alloc H2.out.2.2.size (.cells #[.int .u8 (z.toNat : Int)] 5))
          have HXN := Lib.hid (And.intro hxn hyn)
          clear hx hy hz hxn hyn
          go_wp2_with (first
            | (go_at_call 39; refine hI.mono ?_; rintro e wn ⟨rfl, hwn⟩; obtain rfl : wr = wn := hwn.symm)
            | (at_builtin; refine wpList_bytes _ _ _ rfl rfl ws.heap.size u7 (cauRow cols i t) (some ⟨wr.heap.size, 0, none⟩) 1 1 [z] rfl rfl HO.out (lies_one wr z) (by intro h; cases h) (by have := HLN.out; simp; omega) HBL.out.size ?_; intro v9 w9 ho9 hg9))
          have HO9 := Lib.hid ho9
          have HB9 := Lib.hid (show Below ws.heap.size ws w9 ∧ Below w.heap.size w w9 from ⟨HBL.out.trans (HO.out.changed hg9 HBL.out.size), HBW.out.trans ((HO.out.changed hg9 HBL.out.size).mono H.out.2.size)⟩)
          clear ho9 hg9
          go_wp2
          go_roundw
          case rel => exact ⟨t + 1, by omega, by go_num, Lib.hid ⟨by rw [HRS.out]; exact HO9.out, HB9.out⟩⟩
          case measure => simp [intOf]; omega
        · obtain rfl : t = cols := by omega
          have l2 : ¬ (t : Int) < (t : Int) := by omega
          obtain ⟨A7, c7, hv7, hl7⟩ := H2.out.1.liesN
          have HL7 := Lib.hid hl7
          have HV7 := Lib.hid hv7
          obtain ⟨rl, hrl2⟩ : ∃ x, cauRow t i t = x := ⟨_, rfl⟩
          have HTK := Lib.hid (show (List.range (i + 1)).map (fun i => cauRow t i t) = (List.range i).map (fun i => cauRow t i t) ++ [rl] from by rw [List.range_succ, List.map_append, ← hrl2]; rfl)
          rw [hrl2] at HL7 HV7
          have HLM := Lib.hid (show ((List.range i).map (fun i => cauRow t i t)).length ≤ 100000 from by rw [List.length_map, List.length_range]; omega)
          clear hl7 hv7 hrl2
          rw [HV7.out]
          go_wp2_with (at_builtin; refine wpList_append_row wr _ _ rfl rfl w.heap.size u5 ((List.range i).map (fun i => cauRow t i t)) A7 c7 rl rfl rfl (H.out.1.below H2.out.2.1) HL7.out HLM.out H2.out.2.2.size ?_; intro v9 w9 hb9 hg9)
          have HB9 := Lib.hid (And.intro hb9 (H2.out.2.2.trans hg9))
          clear hb9 hg9
          go_wp2
          go_roundw
          case rel => exact ⟨i + 1, by omega, by go_num, Lib.hid ⟨by rw [HTK.out]; exact HB9.out.1, HB9.out.2⟩⟩
          case measure => simp [intOf]; omega
    · obtain rfl : i = rows := by omega
      have l1 : ¬ (i : Int) < (i : Int) := by omega
      go_wp2
      go_ret
      exact ⟨_, rfl, H.out.1, H.out.2⟩

theorem made_zero (n : Nat) : (madeCells (Value.int .u8 0).cells (n * 1)).toList = bc (List.replicate n 0) := by
  rw [show (Value.int .u8 0).cells = #[Value.int .u8 0] from rfl, Nat.mul_one, toList_madeCells_one]
  simp [bc]
theorem one_set (n i : Nat) : (bc (List.replicate n 0)).toArray.setIfInBounds i (.int .u8 1) = (bc (oneRow n i)).toArray := by
  rw [List.setIfInBounds_toArray]
  congr 1
  unfold bc oneRow
  rw [List.map_set]
  rfl
theorem own_boxB {w : World} {base g n : Nat} {xs : List Value} (h : w.ownsRow base 5 1 (.slice (some ⟨g, 0, none⟩) n n) n xs) : Box w g 5 xs.toArray := by
  obtain ⟨h1, h2 | ⟨g', cap, cur, h2, _, h3, _, _, h4, h5⟩⟩ := h
  · simp at h2
  · simp at h2
    obtain ⟨rfl, rfl⟩ := h2
    rw [List.take_of_length_le (by rw [Array.length_toList, h4]; exact Nat.le_refl _)] at h5
    subst h5
    simpa [Box] using h3
theorem box_liesN {w : World} {g : Nat} {l : List UInt8} (h : Box w g 5 (bc l).toArray) {n : Nat} (hn : l.length = n) : Lies w (Nb w) (some ⟨g, 0, none⟩) n n (bc l) :=
  ⟨by rw [bc_length]; exact hn, Nat.le_refl _, fun _ => ⟨⟨g, 0, none⟩, rfl, ⟨_, _, h⟩, Box.lt h, fun j u hu => by rw [Addr.add_mid, Nat.zero_add, Box.cell h]; simpa using hu⟩⟩

theorem append_rowN {ops : Array Oper} {rest : List Oper} {o : Oper} {a : Act} {Q : Exit → Act → World → Prop} (w : World) (s x : Operand) (hgd : o.guard = none)
    (hop : o.op = .call { callee := .builtin .append, args := #[s, x], argTypes := #[22, 22] })
    (base : Nat) (v : Value) (M : List (List UInt8)) (A : Option Addr) (n c : Nat) (l : List UInt8) (hn : l.length = n) (hs : a.eval s = v) (hx : a.eval x = .slice (some ⟨w.heap.size, 0, none⟩) 1 1) (hbl : Bld w base v M) (hl : Lies w (Nb w) A n c (bc l)) (hz : M.length ≤ 100000) (hb : base ≤ w.heap.size)
    (K : ∀ v' w', Bld w' base v' (M ++ [l]) → Below base w w' → wpList Try.prog ops Q rest (a.put o.dst v') w') : wpList Try.prog ops Q (o :: rest) a (w.alloc (.cells #[.slice A n c] 31)) := by
  subst hn
  exact wpList_append_row w s x hgd hop base v M A c l hs hx hbl hl hz hb K

set_option maxRecDepth 100000 in
set_option maxHeartbeats 2000000 in
theorem roneM_says (w : World) (n : Nat) (hn : n ≤ 255) :
    Calls Try.prog 25 #[.int .i64 (n : Int)] w fun e w' => ∃ v, e = .returned v ∧ Bld w' w.heap.size v (oneL n) ∧ Below w.heap.size w w' := by
  obtain ⟨i0, hi0, hz0, hz1, hz2⟩ := info_parts Try.byteInfo
  go_enter Try.func25, Try.ntmps25
  go_wp2_with fail
  go_loopw [3, 4] (fun o i wr => ∃ k : Nat, k ≤ n ∧ i = .int .i64 (k : Int) ∧ Hid (Bld wr w.heap.size o ((List.range k).map (oneRow n)) ∧ Below w.heap.size w wr)) (fun _ i _ => n - (intOf i).toNat)
  case atStart => exact ⟨0, by omega, rfl, Lib.hid ⟨by simpa using Bld.nil _ _, Below.refl _ _⟩⟩
  case round =>
    obtain ⟨i, hi, rfl, H⟩ := hrel
    by_cases hlt : i < n
    · have l1 : (i : Int) < (n : Int) := by omega
      have HTK := Lib.hid (show (List.range (i + 1)).map (oneRow n) = (List.range i).map (oneRow n) ++ [oneRow n i] from by rw [List.range_succ, List.map_append]; rfl)
      have HLM := Lib.hid (show ((List.range i).map (oneRow n)).length ≤ 100000 from by rw [List.length_map, List.length_range]; omega)
      have HLO := Lib.hid (oneRow_length n i)
      go_upto_region 6 with (at_make; refine wpList_make_full _ rfl _ _ 31 rfl wr.heap.size 5 i0 _ 1 Try.underlying31 hi0 hz0 hz1 _ _ _ _ n rfl rfl rfl rfl (by rw [hz2]; omega) (by unfold maxLen; omega) (Nat.le_refl _) ?_; intro w1 hown1 hg1)
      rw [made_zero] at hown1
      have hbx := own_boxB hown1
      have hb1 : Below wr.heap.size wr w1 := (Below.refl _ wr).grown hg1 (Nat.le_refl _) (fun k hk => by cases hk)
      have hc : w1.cell? ⟨wr.heap.size, i, none⟩ = some (.int .u8 0) := by rw [Box.cell hbx]; simp [bc, hlt]
      have hf := Box.frozen hbx i
      have HBX := Lib.hid (show Box (w1.setCell ⟨wr.heap.size, i, none⟩ (.int .u8 1)) wr.heap.size 5 (bc (oneRow n i)).toArray from by
        have h5 := Box.put hbx i (.int .u8 1)
        rwa [one_set] at h5)
      have HB2 := Lib.hid (show Below wr.heap.size wr (w1.setCell ⟨wr.heap.size, i, none⟩ (.int .u8 1)) from hb1.setCell (p := ⟨wr.heap.size, i, none⟩) (Nat.le_refl _) _)
      clear hbx hb1 hown1 hg1
      go_upto_region 7 with fail
      generalize w1.setCell ⟨wr.heap.size, i, none⟩ (.int .u8 1) = w2 at HBX HB2 ⊢
      clear hc hf
      obtain ⟨gr, hgr⟩ : ∃ g, wr.heap.size = g := ⟨_, rfl⟩
      have HL2 := Lib.hid (box_liesN HBX.out HLO.out)
      have HBD := Lib.hid (H.out.1.below HB2.out)
      have HBW := Lib.hid (H.out.2.trans (HB2.out.mono H.out.2.size))
      obtain ⟨rl, hrl⟩ : ∃ x, oneRow n i = x := ⟨_, rfl⟩
      rw [hrl] at HL2 HTK HLO
      clear hrl hgr HBX
      go_wp2_with (at_builtin; refine append_rowN w2 _ _ rfl rfl w.heap.size u3 ((List.range i).map (oneRow n)) (some ⟨wr.heap.size, 0, none⟩) n n rl HLO.out rfl rfl HBD.out HL2.out HLM.out HBW.out.size ?_; intro v9 w9 hb9 hg9)
      have HB9 := Lib.hid (And.intro hb9 (HBW.out.trans hg9))
      clear hb9 hg9
      go_wp2
      go_roundw
      case rel => exact ⟨i + 1, by omega, by go_num, Lib.hid ⟨by rw [HTK.out]; exact HB9.out.1, HB9.out.2⟩⟩
      case measure => simp [intOf]; omega
    · obtain rfl : i = n := by omega
      have l1 : ¬ (i : Int) < (i : Int) := by omega
      go_wp2
      go_ret
      exact ⟨_, rfl, H.out.1, H.out.2⟩
end Go.Proofs.Ytgakeecibofiiaa
