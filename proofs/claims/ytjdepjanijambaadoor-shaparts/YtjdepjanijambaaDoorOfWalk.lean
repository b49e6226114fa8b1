/-
  The law ShaOf, walked.
-/
import Derived.Test.YtjdepjanijambaaDoorRefOf
import Derived.Test.YtjdepjanijambaaDoorOf
import Derived.ChangeKeysEq
import Derived.Deep.DeepCutAuto
import Derived.Deep.CutBlock
namespace Go.Proofs.YtjdepjanijambaaDoor
open Go.RowKit

set_option maxRecDepth 100000 in
theorem refOf_any (l : List UInt8) (hl : l.length ≤ 700) (w : World) : Calls Tryd.prog 11 #[.string ⟨l.toArray⟩] w fun e w' => e = .returned (.agg (sum32 l)) ∧ Below w.heap.size w w' := by
  obtain ⟨S0, hS0⟩ : ∃ S : ByteArray, S = ⟨l.toArray⟩ := ⟨_, rfl⟩
  have HC := Lib.hid (fun w => rof_any l hl w)
  rw [← hS0]
  rw [← hS0] at HC
  clear hS0
  go_enter Tryd.func11, Tryd.ntmps11
  go_wp2_with fail
  refine (all_any _).mono ?_
  rintro e w1 ⟨rfl, hb1⟩
  have HB1 := Lib.hid hb1
  clear hb1
  go_wp2_with fail
  refine (HC.out w1).mono ?_
  rintro e w2 ⟨rfl, hb2⟩
  have HB2 := Lib.hid hb2
  clear hb2
  have hz1 := HB1.out.size
  simp at hz1
  have HR := Lib.hid (((Box.made w 34 _).below HB1.out (by simp)).below HB2.out (by omega))
  go_wp2_with (refine wpList_store_row rfl 34 _ _ rfl w.heap.size (sum32 l) rfl rfl 34 _ HR.out (info34s _) (by simp [sum32, u8s_length]) (u8s_one _ _) ?_)
  exact bodyPost_ret (v := .agg (sum32 l)) (results_cell_row (P := Tryd.prog) (p := 2) (ty := 34) Tryd.results11 _ _ w.heap.size 34 _ (0, 0) _ rfl (setRow_heap _ _ _ _ _ _ HR.out) Tryd.underlying34 rfl (info34s _)) rfl ⟨rfl, below_setRow (((below1 w _).trans (HB1.out.mono (by simp))).trans (HB2.out.mono (by omega))) (Nat.le_refl _) _⟩

/-- Whole numbers as cells. -/
def ics (zs : List Int) : List Value := zs.map fun z => Value.int .i64 z
theorem ics_length (zs : List Int) : (ics zs).length = zs.length := by simp [ics]
theorem and_127 (t : Int) : ∃ k : Nat, k ≤ 127 ∧ bits .and .i64 t 127 = (k : Int) := by
  have hle : (BitVec.ofInt 64 t &&& BitVec.ofInt 64 ((127 : Nat) : Int)).toNat ≤ 127 := by
    rw [BitVec.toNat_and]
    have : (BitVec.ofInt 64 ((127 : Nat) : Int)).toNat = 127 := by rw [BitVec.toNat_ofInt]; omega
    rw [this]
    exact Nat.and_le_right
  refine ⟨(BitVec.ofInt 64 t &&& BitVec.ofInt 64 ((127 : Nat) : Int)).toNat, hle, ?_⟩
  show IntKind.i64.wrap (((BitVec.ofInt 64 t &&& BitVec.ofInt 64 ((127 : Nat) : Int)).toNat : Nat) : Int) = _
  exact IntWalk.i64_in _ (by omega)

theorem plainByte : Tryd.prog.plainKey 5 = true := by kernel_rfl
theorem eqItems_same (B : Nat → Nat) (n d : Nat) (w : World) : ∀ is : List Nat, (∀ i ∈ is, i < n) → (Op.eqItems (d + 1) 5 (Tryd.prog.cellsOf 5) (u8s B n).toArray (u8s B n).toArray is).run Tryd.prog w = .ok true w
  | [], _ => by simp [Op.eqItems]
  | i :: is, h => by
    have hc : Tryd.prog.cellsOf 5 = 1 := by kernel_rfl
    have hp := run_part_plain (P := Tryd.prog) w plainByte (off := i * Tryd.prog.cellsOf 5) (by rw [hc, Nat.mul_one]; exact u8s_get B n i (h i (List.mem_cons_self ..)))
    have he := run_equalIn_int (P := Tryd.prog) w d 5 .u8 .u8 (B i : Int) (B i : Int) Tryd.underlying5
    simp only [Op.eqItems, Sem.run_bind, hp, he, Result.andThen_ok, beq_self_eq_true, Bool.not_true, Bool.false_eq_true, if_false]
    exact eqItems_same B n d w is (fun j hj => h j (List.mem_cons_of_mem _ hj))
theorem info_byte : ∃ i, Tryd.prog.info? 5 = some i := by
  have := infoByte
  cases h : Tryd.prog.info? 5 with
  | none => rw [h] at this; cases this
  | some i => exact ⟨i, rfl⟩
theorem eql_sum (l : List UInt8) (w : World) : (Op.equalIn 10000 34 (.agg (sum32 l)) (.agg (u8s (sumB (shaS l)) 32).toArray)).run Tryd.prog w = .ok true w := by
  obtain ⟨i, hi⟩ := info_byte
  rw [show (10000 : Nat) = 9999 + 1 from rfl, run_equalIn_array w 9999 _ _ Tryd.underlying34 hi]
  exact eqItems_same (sumB (shaS l)) 32 9998 w (List.range 32) (fun i hi => by simpa using hi)
theorem len_made_n (g : Nat) (l : List UInt8) (m : Nat) (w : World) (h : Hsh w g l) (hl : l.length = m) : Calls Tryd.prog 14 #[.pointer (some ⟨g, 0, none⟩)] w fun e w' => e = .returned (.int .u64 (m : Int)) ∧ w = w' := by
  have h1 := len_made g l w h
  rwa [hl] at h1
theorem info34l (B : Nat → Nat) : (Tryd.prog.info? 34).map (·.size) = some (u8s B 32).length := info34s B

/-- Behind the last bytes. -/
def OfEnd (w : World) (A : Option Addr) (m c : Nat) (l : List UInt8) (gw gh : Nat) (wr : World) : Prop :=
  Hsh wr gh l ∧ Box wr gw 34 (u8s (sumB (shaS l)) 32).toArray ∧ Tabs wr ∧ Lies wr (fun _ => True) A m c (bc l) ∧ Below w.heap.size w wr
theorem OfEnd.below {w wr w' : World} {A : Option Addr} {m c : Nat} {l : List UInt8} {gw gh : Nat} (h : OfEnd w A m c l gw gh wr) (hb : Below wr.heap.size wr w') : OfEnd w A m c l gw gh w' :=
  ⟨h.1.below hb, h.2.1.below hb h.2.1.lt, h.2.2.1.below hb h.2.2.1.two, h.2.2.2.1.below hb, h.2.2.2.2.trans (hb.mono h.2.2.2.2.size)⟩

theorem OfEnd.drew {w wr : World} {A : Option Addr} {m c : Nat} {l : List UInt8} {gw gh : Nat} (h : OfEnd w A m c l gw gh wr) : OfEnd w A m c l gw gh wr.drew :=
  ⟨h.1, h.2.1, tabs_heap h.2.2.1 rfl, h.2.2.2.1, h.2.2.2.2.drew⟩

/-- Between two rounds: the first 'at' bytes of l are taken in. -/
def OfInv (w : World) (A : Option Addr) (m c : Nat) (l : List UInt8) (gw gh a : Nat) (wr : World) : Prop :=
  Hsh wr gh (l.take a) ∧ Box wr gw 34 (sum32 l) ∧ Tabs wr ∧ Lies wr (· ≠ gh) A m c (bc l) ∧ Below w.heap.size w wr ∧ a ≤ m ∧ w.heap.size ≤ gw ∧ gw < gh

set_option maxRecDepth 100000 in
set_option maxHeartbeats 1000000 in
theorem of_walk (A : Option Addr) (n c : Nat) (l : List UInt8) (A1 : Option Addr) (n1 c1 : Nat) (zs : List Int) (w : World) (hl : Lies w (fun _ => True) A n c (bc l)) (hz : Lies w (fun _ => True) A1 n1 c1 (ics zs)) (ht : Tabs w) :
    Calls Tryd.prog 4 #[.slice A n c, .slice A1 n1 c1] w fun e w' => e = .returned (.bool true) ∧ Below w.heap.size w w' := by
  have hbt := ht.two
  have hln : l.length = n := by rw [← bc_length]; exact hl.len
  have hnc := hl.le
  have HL := Lib.hid hl
  have HZ := Lib.hid (hz.weak (N' := (· < w.heap.size)) (fun _ h _ => h))
  have HT := Lib.hid ht
  have HLN := Lib.hid hln
  clear hl hz ht hln
  go_enter Tryd.func4, Tryd.ntmps4
  go_upto_if 12 with fail
  go_cut [0] (fun v wr => ∃ m, v = .slice A m c ∧ m ≤ 700 ∧ Lies w (fun _ => True) A m c (bc (l.take 700)) ∧ w = wr)
  case first =>
    by_cases hbig : 700 < n
    · have d1 : (700 : Int) < (n : Int) := by omega
      have hsl := fun wq => sliceAt_to Tryd.underlying32 infoByte .i64 A n c 700 (by omega) wq
      go_wp2
      go_meet
      exact ⟨700, rfl, Nat.le_refl _, by rw [← bc_take]; exact HL.out.first (by omega), rfl⟩
    · have d1 : ¬ (700 : Int) < (n : Int) := by omega
      go_wp2
      go_meet
      exact ⟨n, rfl, by omega, by rw [List.take_of_length_le (by rw [HLN.out]; omega)]; exact HL.out, rfl⟩
  case rest =>
    obtain ⟨m, rfl, hm, hlm, rfl⟩ := hcut
    clear HL HLN hnc
    generalize l.take 700 = l at hlm
    have hlen : l.length = m := by rw [← bc_length]; exact hlm.len
    have HLM := Lib.hid hlm
    have HLEN := Lib.hid hlen
    have hcv := conv_lies hlm
    have hl7 : l.length ≤ 700 := by omega
    clear hlm hlen
    go_wp2_with fail
    refine (refOf_any l hl7 w).mono ?_
    rintro e w1 ⟨rfl, hb1⟩
    have HB1 := Lib.hid hb1
    have HT1 := Lib.hid (HT.out.below hb1 hbt)
    have HLM1 := Lib.hid (HLM.out.below hb1)
    have HZ1 := Lib.hid (HZ.out.below hb1)
    clear hb1 hcv HLM HZ
    go_wp2_with (refine wpList_store_row rfl 34 _ _ rfl w1.heap.size (sum32 l) rfl rfl 34 _ (heap_alloc_new w1 _) (info34s _) (by simp [sum32, u8s_length]) (u8s_one _ _) ?_)
    rw [World.setRow_alloc_new]
    have HX2 := Lib.hid (Box.made w1 34 (sum32 l))
    have HB2 := Lib.hid (HB1.out.alloc HB1.out.size (.cells (sum32 l) 34))
    have HT2 := Lib.hid (HT1.out.below (below1 w1 (.cells (sum32 l) 34)) HT1.out.two)
    have HLM2 := Lib.hid (HLM1.out.below (below1 w1 (.cells (sum32 l) 34)))
    have HZ2 := Lib.hid (HZ1.out.below (below1 w1 (.cells (sum32 l) 34)))
    have hz2 : (w1.alloc (.cells (sum32 l) 34)).heap.size = w1.heap.size + 1 := by simp
    have hg2 := HB1.out.size
    generalize w1.alloc (.cells (sum32 l) 34) = w2 at HX2 HB2 HT2 HLM2 HZ2 hz2 ⊢
    have HSZ2 := Lib.hid hz2
    clear hz2
    clear HB1 HT1 HLM1 HZ1
    refine (new_any w2 HT2.out).mono ?_
    rintro e w3 ⟨rfl, hw3⟩
    have hb3 := below1 w2 (.cells (hcells First noughts 0).toArray 49)
    have hh3 := hsh_new (w := w2)
    rw [hw3] at hb3 hh3
    have HI := Lib.hid (show OfInv w A m c l w1.heap.size w2.heap.size 0 w3 from ⟨by rw [List.take_zero]; exact hh3, HX2.out.below hb3 (by rw [HSZ2.out]; omega), HT2.out.below hb3 HT2.out.two, (HLM2.out.weak (fun b hb _ => Nat.ne_of_lt hb)).below hb3, HB2.out.trans (hb3.mono HB2.out.size), Nat.zero_le _, hg2, by rw [HSZ2.out]; omega⟩)
    have HZ3 := Lib.hid (HZ2.out.below hb3)
    clear hb3 hh3 hw3 HX2 HB2 HT2 HLM2 HZ2
    have hgw : w.heap.size ≤ w1.heap.size := hg2
    have hgh : w1.heap.size < w2.heap.size := by rw [HSZ2.out]; omega
    generalize w2.heap.size = gh at HI hgh ⊢
    generalize w1.heap.size = gw at HI hgw hgh ⊢
    clear hg2 HSZ2
    go_wp2_with fail
    go_loopw [7, 8] (fun a i wr => ∃ (k at' : Nat), k ≤ 30 ∧ i = .int .i64 (k : Int) ∧ a = .int .i64 (at' : Int) ∧ OfInv w A m c l gw gh at' wr ∧ Lies wr (fun b => b < w.heap.size) A1 n1 c1 (ics zs)) (fun _ i _ => 30 - (intOf i).toNat)
    case atStart => exact ⟨0, 0, by omega, rfl, rfl, HI.out, HZ3.out⟩
    case round =>
      clear HI HZ3
      obtain ⟨k, a, hk, rfl, rfl, hi, hzz⟩ := hrel
      have HI := Lib.hid hi
      have HZ := Lib.hid hzz
      have ham := hi.2.2.2.2.2.1
      clear hi hzz
      by_cases hgo : k < n1 ∧ k < 30
      · obtain ⟨hk1, hk30⟩ := hgo
        obtain ⟨z, hzk⟩ : ∃ z, (ics zs)[k]? = some (.int .i64 z) := by
          have h1 : k < zs.length := by have := HZ.out.len; rw [ics_length] at this; omega
          exact ⟨zs[k], by simp [ics, h1]⟩
        obtain ⟨b, off, rfl, hbw, _, hcz⟩ := HZ.out.at hzk
        obtain ⟨kk, hkk, ekk⟩ := and_127 z
        obtain ⟨R, hR⟩ : ∃ R, R = m - a := ⟨_, rfl⟩
        obtain ⟨nn, hnn⟩ : ∃ nn, nn = min kk R := ⟨_, rfl⟩
        obtain ⟨j, hj⟩ : ∃ j, j = a + nn := ⟨_, rfl⟩
        have hnR : nn ≤ R := by rw [hnn]; exact Nat.min_le_right _ _
        have eR : (m : Int) - (a : Int) = (R : Int) := by omega
        have en : (if (R : Int) < (kk : Int) then (R : Int) else (kk : Int)) = (nn : Int) := by rw [hnn]; split <;> omega
        have en' : (if R < kk then (R : Int) else (kk : Int)) = (nn : Int) := by rw [hnn]; split <;> omega
        have ej : (a : Int) + (nn : Int) = (j : Int) := by omega
        have hjm : j ≤ m := by omega
        have hmc : m ≤ c := HI.out.2.2.2.1.le
        have hsl : ∀ wq, (Instr.sliceAt 32 (.slice A m c) (some (.int .i64 (a : Int))) (some (.int .i64 (j : Int))) none).run Tryd.prog wq = .ok (.slice (cutA A c a) nn (c - a)) wq := fun wq => by
          have h1 := sliceAt_part Tryd.underlying32 infoByte .i64 .i64 A m c a j (by omega) (by omega) wq
          rwa [show j - a = nn by omega] at h1
        have d1 : decide ((k : Int) < (n1 : Int)) = true := by simp; omega
        have d2 : decide ((k : Int) < 30) = true := by simp; omega
        have d3 : (k : Int) < (n1 : Int) := by omega
        have HLT := Lib.hid (show Lies wr (· ≠ gh) (cutA A c a) nn (c - a) (bc ((l.drop a).take nn)) by
          have h1 := (HI.out.2.2.2.1.from a ham).first (m := nn) (by omega)
          rw [bc_drop, bc_take] at h1
          exact h1)
        have HJ := Lib.hid hj
        have HTK := Lib.hid (show l.take a ++ (l.drop a).take nn = l.take j by rw [hj, List.take_add])
        have HJL := Lib.hid (show (l.take j).length = j by rw [List.length_take, HLEN.out]; omega)
        have eu : IntKind.u64.wrap (j : Int) = (j : Int) := u64_small (by omega)
        have eu' : (j : Int) % 18446744073709551616 = (j : Int) := by omega
        have hj7 : j ≤ 700 := by omega
        clear hzk hR hnn hj hjm hmc
        go_wp2_with fail
        clear hsl
        refine (take_any gh (l.take a) ((l.drop a).take nn) _ _ _ wr HI.out.1 HLT.out HI.out.2.2.1 (by have := HI.out.2.2.1.two; omega) (by rw [List.length_take, List.length_take]; omega)).mono ?_
        rintro e w4 ⟨rfl, hh4, hg4⟩
        rw [HTK.out] at hh4
        have HH4 := Lib.hid hh4
        have HG4 := Lib.hid hg4
        have hc4 := len_made gh (l.take j) w4 hh4
        rw [HJL.out] at hc4
        have HC4 := Lib.hid hc4
        clear hh4 hg4 hc4
        go_wp2_with fail
        refine HC4.out.mono ?_
        rintro e w5 ⟨rfl, rfl⟩
        go_wp2_with fail
        go_roundw
        case rel =>
          refine ⟨k + 1, j, by omega, by go_num, rfl, ⟨HH4.out, HI.out.2.1.grown HG4.out (by intro e; injection e with e; omega), HI.out.2.2.1.grown HG4.out (by have := HI.out.2.2.1.two; omega), HI.out.2.2.2.1.grown HG4.out (by simp), below_grown HI.out.2.2.2.2.1 HG4.out (by omega) HI.out.2.2.2.2.1.size, ?_, hgw, hgh⟩, HZ.out.grown HG4.out (by omega)⟩
          have := HJ.out
          omega
        case measure => simp [intOf]; omega
      · have hmc : m ≤ c := HI.out.2.2.2.1.le
        have hsl := fun wq => sliceAt_from Tryd.underlying32 infoByte .i64 A m c a ham wq
        have HLT := Lib.hid (show Lies wr (· ≠ gh) (cutA A c a) (m - a) (c - a) (bc (l.drop a)) by
          have h1 := HI.out.2.2.2.1.from a ham
          rw [bc_drop] at h1
          exact h1)
        have heq := eql_sum l
        have hlm : l.length = m := HLEN.out
        have elm : IntKind.u64.wrap (m : Int) = (m : Int) := u64_small (by omega)
        have elm' : (m : Int) % 18446744073709551616 = (m : Int) := by omega
        clear hlm
        have hin : (decide (k < n1) = true ∧ decide ((k : Int) < (n1 : Int)) = true ∧ decide (k < 30) = false ∧ decide ((k : Int) < 30) = false) ∨ (decide (k < n1) = false ∧ decide ((k : Int) < (n1 : Int)) = false) := by
          by_cases h1 : k < n1
          · exact .inl ⟨by simp; omega, by simp; omega, by simp; omega, by simp; omega⟩
          · exact .inr ⟨by simp; omega, by simp; omega⟩
        clear hgo
        rcases hin with ⟨d1, d1', d2, d2'⟩ | ⟨d1, d1'⟩
        · go_wp2_with fail
          clear hsl d1 d1' d2 d2'
          refine (take_any gh (l.take a) (l.drop a) _ _ _ wr HI.out.1 HLT.out HI.out.2.2.1 (by have := HI.out.2.2.1.two; omega) (by rw [List.length_take, List.length_drop]; omega)).mono ?_
          rintro e w4 ⟨rfl, hh4, hg4⟩
          rw [List.take_append_drop] at hh4
          have HE := Lib.hid (show OfEnd w A m c l gw gh w4 from ⟨hh4, HI.out.2.1.grown hg4 (by intro e; injection e with e; omega), HI.out.2.2.1.grown hg4 (by have := HI.out.2.2.1.two; omega), (HI.out.2.2.2.1.grown hg4 (by simp)).weak (fun _ _ _ => trivial), below_grown HI.out.2.2.2.2.1 hg4 (by omega) HI.out.2.2.2.2.1.size⟩)
          clear hh4 hg4 HI HLT HZ
          go_wp2_with fail
          refine wp_region_held_drew (S := fun w' => OfEnd w A m c l gw gh w') (by kernel_rfl) (HE.out.drew) (fun hHeld => ?_)
          refine take_run 0 60 (v := ?_) rfl rfl (by kernel_rfl) (by kernel_rfl) (by kernel_rfl) (fun _ _ _ h => h) (by rfl) ?_ (by assumption) ?_
          rotate_left
          · (intro wq hSw; (try dsimp only at hSw); go_simp; first | done | with_reducible rfl)
          simp only [Act.put, List.setIfInBounds_toArray, List.set_cons_zero, List.set_cons_succ]
          refine take_load 2 62 34 (.tmp 5) gw 0 (u8s (sumB (shaS l)) 32) _ rfl rfl rfl (by kernel_rfl) (by kernel_rfl) (by kernel_rfl) (fun _ _ _ h => h) (by rfl) rfl (fun _ h => h.2.1.range) Tryd.underlying34 rfl (info34l _) (by assumption) ?_
          simp only [Act.put, List.setIfInBounds_toArray, List.set_cons_zero, List.set_cons_succ]
          refine wpAnyH_ready (rs := [1]) (by kernel_rfl) (by simp) ?_
          refine AllReadyH.cons rfl (fun K hK => ?_) AllReadyH.nil
          go_simp
          refine (of_any A m c l _ hHeld.2.2.2.1 hHeld.2.2.1 (by omega)).mono ?_
          rintro r w6 ⟨rfl, hb6⟩
          dsimp only
          refine hK.out _ _ (hHeld.below hb6) (fun hHeld => ?_)
          clear hK K
          refine take_run 3 63 (v := ?_) rfl rfl (by kernel_rfl) (by kernel_rfl) (by kernel_rfl) (fun _ _ _ h => h) (by rfl) ?_ (by assumption) ?_
          rotate_left
          · (intro wq hSw; (try dsimp only at hSw); go_simp; first | done | with_reducible rfl)
          simp only [Act.put, List.setIfInBounds_toArray, List.set_cons_zero, List.set_cons_succ]
          refine take_run 4 64 (v := ?_) rfl rfl (by kernel_rfl) (by kernel_rfl) (by kernel_rfl) (fun _ _ _ h => h) (by rfl) ?_ (by assumption) ?_
          rotate_left
          · (intro wq hSw; (try dsimp only at hSw); go_simp; first | done | with_reducible rfl)
          simp only [Act.put, List.setIfInBounds_toArray, List.set_cons_zero, List.set_cons_succ]
          refine take_run 5 65 (v := ?_) rfl rfl (by kernel_rfl) (by kernel_rfl) (by kernel_rfl) (fun _ _ _ h => h) (by rfl) ?_ (by assumption) ?_
          rotate_left
          · (intro wq hSw; (try dsimp only at hSw); go_simp; first | done | with_reducible rfl)
          simp only [Act.put, List.setIfInBounds_toArray, List.set_cons_zero, List.set_cons_succ]
          refine take_load 7 67 34 (.tmp 5) gw 0 (u8s (sumB (shaS l)) 32) _ rfl rfl rfl (by kernel_rfl) (by kernel_rfl) (by kernel_rfl) (fun _ _ _ h => h) (by rfl) rfl (fun _ h => h.2.1.range) Tryd.underlying34 rfl (info34l _) (by assumption) ?_
          simp only [Act.put, List.setIfInBounds_toArray, List.set_cons_zero, List.set_cons_succ]
          refine wpAnyH_ready (rs := [6]) (by kernel_rfl) (by simp) ?_
          refine AllReadyH.cons rfl (fun K hK => ?_) AllReadyH.nil
          go_simp
          refine (sum_made gh l _ hHeld.1 hHeld.2.2.1 (by omega)).mono ?_
          rintro r w7 ⟨rfl, hb7⟩
          dsimp only
          refine hK.out _ _ (hHeld.below hb7) (fun hHeld => ?_)
          clear hK K
          refine take_run 8 68 (v := ?_) rfl rfl (by kernel_rfl) (by kernel_rfl) (by kernel_rfl) (fun _ _ _ h => h) (by rfl) ?_ (by assumption) ?_
          rotate_left
          · (intro wq hSw; (try dsimp only at hSw); go_simp; first | done | with_reducible rfl)
          simp only [Act.put, List.setIfInBounds_toArray, List.set_cons_zero, List.set_cons_succ]
          refine take_run 9 69 (v := ?_) rfl rfl (by kernel_rfl) (by kernel_rfl) (by kernel_rfl) (fun _ _ _ h => h) (by rfl) ?_ (by assumption) ?_
          rotate_left
          · (intro wq hSw; (try dsimp only at hSw); go_simp; first | done | with_reducible rfl)
          simp only [Act.put, List.setIfInBounds_toArray, List.set_cons_zero, List.set_cons_succ]
          refine take_run 10 70 (v := ?_) rfl rfl (by kernel_rfl) (by kernel_rfl) (by kernel_rfl) (fun _ _ _ h => h) (by rfl) ?_ (by assumption) ?_
          rotate_left
          · (intro wq hSw; (try dsimp only at hSw); go_simp; first | done | with_reducible rfl)
          simp only [Act.put, List.setIfInBounds_toArray, List.set_cons_zero, List.set_cons_succ]
          refine take_run 11 71 (v := ?_) rfl rfl (by kernel_rfl) (by kernel_rfl) (by kernel_rfl) (fun _ _ _ h => h) (by rfl) ?_ (by assumption) ?_
          rotate_left
          · (intro wq hSw; (try dsimp only at hSw); go_simp; first | done | with_reducible rfl)
          simp only [Act.put, List.setIfInBounds_toArray, List.set_cons_zero, List.set_cons_succ]
          refine take_run 13 73 (v := ?_) rfl rfl (by kernel_rfl) (by kernel_rfl) (by kernel_rfl) (fun _ _ _ h => h) (by rfl) ?_ (by assumption) ?_
          rotate_left
          · (intro wq hSw; (try dsimp only at hSw); go_simp; first | done | with_reducible rfl)
          simp only [Act.put, List.setIfInBounds_toArray, List.set_cons_zero, List.set_cons_succ]
          refine take_run 14 74 (v := ?_) rfl rfl (by kernel_rfl) (by kernel_rfl) (by kernel_rfl) (fun _ _ _ h => h) (by rfl) ?_ (by assumption) ?_
          rotate_left
          · (intro wq hSw; (try dsimp only at hSw); go_simp; first | done | with_reducible rfl)
          simp only [Act.put, List.setIfInBounds_toArray, List.set_cons_zero, List.set_cons_succ]
          refine take_run 15 75 (v := ?_) rfl rfl (by kernel_rfl) (by kernel_rfl) (by kernel_rfl) (fun _ _ _ h => h) (by rfl) ?_ (by assumption) ?_
          rotate_left
          · (intro wq hSw; (try dsimp only at hSw); go_simp; first | done | with_reducible rfl)
          simp only [Act.put, List.setIfInBounds_toArray, List.set_cons_zero, List.set_cons_succ]
          refine wpAnyH_ready (rs := [12]) (by kernel_rfl) (by simp) ?_
          refine AllReadyH.cons rfl (fun K hK => ?_) AllReadyH.nil
          go_simp
          refine (len_made_n gh l m _ hHeld.1 HLEN.out).mono ?_
          rintro r w8 ⟨rfl, rfl⟩
          dsimp only
          refine hK.out _ _ (hHeld) (fun hHeld => ?_)
          clear hK K
          refine take_run 16 76 (v := ?_) rfl rfl (by kernel_rfl) (by kernel_rfl) (by kernel_rfl) (fun _ _ _ h => h) (by rfl) ?_ (by assumption) ?_
          rotate_left
          · (intro wq hSw; (try dsimp only at hSw); go_simp; first | done | with_reducible rfl)
          simp only [Act.put, List.setIfInBounds_toArray, List.set_cons_zero, List.set_cons_succ]
          refine take_run 17 77 (v := ?_) rfl rfl (by kernel_rfl) (by kernel_rfl) (by kernel_rfl) (fun _ _ _ h => h) (by rfl) ?_ (by assumption) ?_
          rotate_left
          · (intro wq hSw; (try dsimp only at hSw); go_simp; first | done | with_reducible rfl)
          simp only [Act.put, List.setIfInBounds_toArray, List.set_cons_zero, List.set_cons_succ]
          refine take_run 18 78 (v := ?_) rfl rfl (by kernel_rfl) (by kernel_rfl) (by kernel_rfl) (fun _ _ _ h => h) (by rfl) ?_ (by assumption) ?_
          rotate_left
          · (intro wq hSw; (try dsimp only at hSw); go_simp; first | done | with_reducible rfl)
          simp only [Act.put, List.setIfInBounds_toArray, List.set_cons_zero, List.set_cons_succ]
          refine wpAnyH_ready (rs := [19]) (by kernel_rfl) (by simp) ?_
          refine AllReadyH.cons rfl (fun K hK => ?_) AllReadyH.nil
          go_simp
          refine (one_any _ hHeld.2.2.1).mono ?_
          rintro r w9 ⟨rfl, hb9⟩
          dsimp only
          refine hK.out _ _ (hHeld.below hb9) (fun hHeld => ?_)
          clear hK K
          refine take_run 20 80 (v := ?_) rfl rfl (by kernel_rfl) (by kernel_rfl) (by kernel_rfl) (fun _ _ _ h => h) (by rfl) ?_ (by assumption) ?_
          rotate_left
          · (intro wq hSw; (try dsimp only at hSw); go_simp; first | done | with_reducible rfl)
          simp only [Act.put, List.setIfInBounds_toArray, List.set_cons_zero, List.set_cons_succ]
          refine take_run 21 4 (v := ?_) rfl rfl (by kernel_rfl) (by kernel_rfl) (by kernel_rfl) (fun _ _ _ h => h) (by rfl) ?_ (by assumption) ?_
          rotate_left
          · (intro wq hSw; (try dsimp only at hSw); go_simp; first | done | with_reducible rfl)
          simp only [Act.put, List.setIfInBounds_toArray, List.set_cons_zero, List.set_cons_succ]
          refine wpAnyH_done (by kernel_rfl) ?_ _
          go_wp2_with fail
          go_ret
          exact ⟨rfl, hHeld.2.2.2.2⟩
        · go_wp2_with fail
          clear hsl d1 d1'
          refine (take_any gh (l.take a) (l.drop a) _ _ _ wr HI.out.1 HLT.out HI.out.2.2.1 (by have := HI.out.2.2.1.two; omega) (by rw [List.length_take, List.length_drop]; omega)).mono ?_
          rintro e w4 ⟨rfl, hh4, hg4⟩
          rw [List.take_append_drop] at hh4
          have HE := Lib.hid (show OfEnd w A m c l gw gh w4 from ⟨hh4, HI.out.2.1.grown hg4 (by intro e; injection e with e; omega), HI.out.2.2.1.grown hg4 (by have := HI.out.2.2.1.two; omega), (HI.out.2.2.2.1.grown hg4 (by simp)).weak (fun _ _ _ => trivial), below_grown HI.out.2.2.2.2.1 hg4 (by omega) HI.out.2.2.2.2.1.size⟩)
          clear hh4 hg4 HI HLT HZ
          go_wp2_with fail
          refine wp_region_held_drew (S := fun w' => OfEnd w A m c l gw gh w') (by kernel_rfl) (HE.out.drew) (fun hHeld => ?_)
          refine take_run 0 60 (v := ?_) rfl rfl (by kernel_rfl) (by kernel_rfl) (by kernel_rfl) (fun _ _ _ h => h) (by rfl) ?_ (by assumption) ?_
          rotate_left
          · (intro wq hSw; (try dsimp only at hSw); go_simp; first | done | with_reducible rfl)
          simp only [Act.put, List.setIfInBounds_toArray, List.set_cons_zero, List.set_cons_succ]
          refine take_load 2 62 34 (.tmp 5) gw 0 (u8s (sumB (shaS l)) 32) _ rfl rfl rfl (by kernel_rfl) (by kernel_rfl) (by kernel_rfl) (fun _ _ _ h => h) (by rfl) rfl (fun _ h => h.2.1.range) Tryd.underlying34 rfl (info34l _) (by assumption) ?_
          simp only [Act.put, List.setIfInBounds_toArray, List.set_cons_zero, List.set_cons_succ]
          refine wpAnyH_ready (rs := [1]) (by kernel_rfl) (by simp) ?_
          refine AllReadyH.cons rfl (fun K hK => ?_) AllReadyH.nil
          go_simp
          refine (of_any A m c l _ hHeld.2.2.2.1 hHeld.2.2.1 (by omega)).mono ?_
          rintro r w6 ⟨rfl, hb6⟩
          dsimp only
          refine hK.out _ _ (hHeld.below hb6) (fun hHeld => ?_)
          clear hK K
          refine take_run 3 63 (v := ?_) rfl rfl (by kernel_rfl) (by kernel_rfl) (by kernel_rfl) (fun _ _ _ h => h) (by rfl) ?_ (by assumption) ?_
          rotate_left
          · (intro wq hSw; (try dsimp only at hSw); go_simp; first | done | with_reducible rfl)
          simp only [Act.put, List.setIfInBounds_toArray, List.set_cons_zero, List.set_cons_succ]
          refine take_run 4 64 (v := ?_) rfl rfl (by kernel_rfl) (by kernel_rfl) (by kernel_rfl) (fun _ _ _ h => h) (by rfl) ?_ (by assumption) ?_
          rotate_left
          · (intro wq hSw; (try dsimp only at hSw); go_simp; first | done | with_reducible rfl)
          simp only [Act.put, List.setIfInBounds_toArray, List.set_cons_zero, List.set_cons_succ]
          refine take_run 5 65 (v := ?_) rfl rfl (by kernel_rfl) (by kernel_rfl) (by kernel_rfl) (fun _ _ _ h => h) (by rfl) ?_ (by assumption) ?_
          rotate_left
          · (intro wq hSw; (try dsimp only at hSw); go_simp; first | done | with_reducible rfl)
          simp only [Act.put, List.setIfInBounds_toArray, List.set_cons_zero, List.set_cons_succ]
          refine take_load 7 67 34 (.tmp 5) gw 0 (u8s (sumB (shaS l)) 32) _ rfl rfl rfl (by kernel_rfl) (by kernel_rfl) (by kernel_rfl) (fun _ _ _ h => h) (by rfl) rfl (fun _ h => h.2.1.range) Tryd.underlying34 rfl (info34l _) (by assumption) ?_
          simp only [Act.put, List.setIfInBounds_toArray, List.set_cons_zero, List.set_cons_succ]
          refine wpAnyH_ready (rs := [6]) (by kernel_rfl) (by simp) ?_
          refine AllReadyH.cons rfl (fun K hK => ?_) AllReadyH.nil
          go_simp
          refine (sum_made gh l _ hHeld.1 hHeld.2.2.1 (by omega)).mono ?_
          rintro r w7 ⟨rfl, hb7⟩
          dsimp only
          refine hK.out _ _ (hHeld.below hb7) (fun hHeld => ?_)
          clear hK K
          refine take_run 8 68 (v := ?_) rfl rfl (by kernel_rfl) (by kernel_rfl) (by kernel_rfl) (fun _ _ _ h => h) (by rfl) ?_ (by assumption) ?_
          rotate_left
          · (intro wq hSw; (try dsimp only at hSw); go_simp; first | done | with_reducible rfl)
          simp only [Act.put, List.setIfInBounds_toArray, List.set_cons_zero, List.set_cons_succ]
          refine take_run 9 69 (v := ?_) rfl rfl (by kernel_rfl) (by kernel_rfl) (by kernel_rfl) (fun _ _ _ h => h) (by rfl) ?_ (by assumption) ?_
          rotate_left
          · (intro wq hSw; (try dsimp only at hSw); go_simp; first | done | with_reducible rfl)
          simp only [Act.put, List.setIfInBounds_toArray, List.set_cons_zero, List.set_cons_succ]
          refine take_run 10 70 (v := ?_) rfl rfl (by kernel_rfl) (by kernel_rfl) (by kernel_rfl) (fun _ _ _ h => h) (by rfl) ?_ (by assumption) ?_
          rotate_left
          · (intro wq hSw; (try dsimp only at hSw); go_simp; first | done | with_reducible rfl)
          simp only [Act.put, List.setIfInBounds_toArray, List.set_cons_zero, List.set_cons_succ]
          refine take_run 11 71 (v := ?_) rfl rfl (by kernel_rfl) (by kernel_rfl) (by kernel_rfl) (fun _ _ _ h => h) (by rfl) ?_ (by assumption) ?_
          rotate_left
          · (intro wq hSw; (try dsimp only at hSw); go_simp; first | done | with_reducible rfl)
          simp only [Act.put, List.setIfInBounds_toArray, List.set_cons_zero, List.set_cons_succ]
          refine take_run 13 73 (v := ?_) rfl rfl (by kernel_rfl) (by kernel_rfl) (by kernel_rfl) (fun _ _ _ h => h) (by rfl) ?_ (by assumption) ?_
          rotate_left
          · (intro wq hSw; (try dsimp only at hSw); go_simp; first | done | with_reducible rfl)
          simp only [Act.put, List.setIfInBounds_toArray, List.set_cons_zero, List.set_cons_succ]
          refine take_run 14 74 (v := ?_) rfl rfl (by kernel_rfl) (by kernel_rfl) (by kernel_rfl) (fun _ _ _ h => h) (by rfl) ?_ (by assumption) ?_
          rotate_left
          · (intro wq hSw; (try dsimp only at hSw); go_simp; first | done | with_reducible rfl)
          simp only [Act.put, List.setIfInBounds_toArray, List.set_cons_zero, List.set_cons_succ]
          refine take_run 15 75 (v := ?_) rfl rfl (by kernel_rfl) (by kernel_rfl) (by kernel_rfl) (fun _ _ _ h => h) (by rfl) ?_ (by assumption) ?_
          rotate_left
          · (intro wq hSw; (try dsimp only at hSw); go_simp; first | done | with_reducible rfl)
          simp only [Act.put, List.setIfInBounds_toArray, List.set_cons_zero, List.set_cons_succ]
          refine wpAnyH_ready (rs := [12]) (by kernel_rfl) (by simp) ?_
          refine AllReadyH.cons rfl (fun K hK => ?_) AllReadyH.nil
          go_simp
          refine (len_made_n gh l m _ hHeld.1 HLEN.out).mono ?_
          rintro r w8 ⟨rfl, rfl⟩
          dsimp only
          refine hK.out _ _ (hHeld) (fun hHeld => ?_)
          clear hK K
          refine take_run 16 76 (v := ?_) rfl rfl (by kernel_rfl) (by kernel_rfl) (by kernel_rfl) (fun _ _ _ h => h) (by rfl) ?_ (by assumption) ?_
          rotate_left
          · (intro wq hSw; (try dsimp only at hSw); go_simp; first | done | with_reducible rfl)
          simp only [Act.put, List.setIfInBounds_toArray, List.set_cons_zero, List.set_cons_succ]
          refine take_run 17 77 (v := ?_) rfl rfl (by kernel_rfl) (by kernel_rfl) (by kernel_rfl) (fun _ _ _ h => h) (by rfl) ?_ (by assumption) ?_
          rotate_left
          · (intro wq hSw; (try dsimp only at hSw); go_simp; first | done | with_reducible rfl)
          simp only [Act.put, List.setIfInBounds_toArray, List.set_cons_zero, List.set_cons_succ]
          refine take_run 18 78 (v := ?_) rfl rfl (by kernel_rfl) (by kernel_rfl) (by kernel_rfl) (fun _ _ _ h => h) (by rfl) ?_ (by assumption) ?_
          rotate_left
          · (intro wq hSw; (try dsimp only at hSw); go_simp; first | done | with_reducible rfl)
          simp only [Act.put, List.setIfInBounds_toArray, List.set_cons_zero, List.set_cons_succ]
          refine wpAnyH_ready (rs := [19]) (by kernel_rfl) (by simp) ?_
          refine AllReadyH.cons rfl (fun K hK => ?_) AllReadyH.nil
          go_simp
          refine (one_any _ hHeld.2.2.1).mono ?_
          rintro r w9 ⟨rfl, hb9⟩
          dsimp only
          refine hK.out _ _ (hHeld.below hb9) (fun hHeld => ?_)
          clear hK K
          refine take_run 20 80 (v := ?_) rfl rfl (by kernel_rfl) (by kernel_rfl) (by kernel_rfl) (fun _ _ _ h => h) (by rfl) ?_ (by assumption) ?_
          rotate_left
          · (intro wq hSw; (try dsimp only at hSw); go_simp; first | done | with_reducible rfl)
          simp only [Act.put, List.setIfInBounds_toArray, List.set_cons_zero, List.set_cons_succ]
          refine take_run 21 4 (v := ?_) rfl rfl (by kernel_rfl) (by kernel_rfl) (by kernel_rfl) (fun _ _ _ h => h) (by rfl) ?_ (by assumption) ?_
          rotate_left
          · (intro wq hSw; (try dsimp only at hSw); go_simp; first | done | with_reducible rfl)
          simp only [Act.put, List.setIfInBounds_toArray, List.set_cons_zero, List.set_cons_succ]
          refine wpAnyH_done (by kernel_rfl) ?_ _
          go_wp2_with fail
          go_ret
          exact ⟨rfl, hHeld.2.2.2.2⟩
end Go.Proofs.YtjdepjanijambaaDoor
