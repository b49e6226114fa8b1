/-
  The law LayPuts, walked: any numbers and texts are laid as the reference says, behind any bytes.
-/
import Derived.Test.YteabpbmecdenjaaRefPut
namespace Go.Proofs.Yteabpbmecdenjaa
open Go.RowKit

/-- What the law answers: true, and nothing that was there is changed. -/
def Yes (w : World) (r : Ending) (w' : World) : Prop := r = .returned (.bool true) ∧ Below w.heap.size w w'

theorem data_eq (t : ByteArray) : (⟨t.data.toList.toArray⟩ : ByteArray) = t := string_eq t

theorem Sl.at_ {w : World} {B n c : Nat} {A : Option Addr} {xs : List Value} (h : Sl w B (.slice A n c) xs) {j : Nat} {u : Value} (hu : xs[j]? = some u) : ∃ b off, A = some ⟨b, off, none⟩ ∧ b < B ∧ w.cell? ⟨b, off + j, none⟩ = some u := by
  obtain ⟨A', c', e, hf⟩ := h.form
  injection e with e1 e2 e3
  subst e1
  exact hf j u hu

def PutsRel1 (w : World) (l : List UInt8) (vs : List Nat) (x i : Value) (wr : World) : Prop :=
  ∃ k : Nat, k ≤ vs.length ∧ i = .int .i64 (k : Int) ∧ x = .string ⟨(l ++ encNums (vs.take k)).toArray⟩ ∧ Below w.heap.size w wr
def PutsRel2 (w : World) (l : List UInt8) (ts : List ByteArray) (y i : Value) (wr : World) : Prop :=
  ∃ k : Nat, k ≤ ts.length ∧ i = .int .i64 (k : Int) ∧ y = .string ⟨(l ++ encTexts (ts.take k)).toArray⟩ ∧ sizes (ts.take k) ≤ 1000 * k ∧ Below w.heap.size w wr

set_option maxRecDepth 100000 in
theorem puts_main (A0 A1 A2 : Option Addr) (n0 c0 c1 c2 : Nat) (l : List UInt8) (vs : List Nat) (ts : List ByteArray) (w : World)
    (h0 : Arg w A0 n0 c0 (bc l)) (h1 : Sl w w.heap.size (.slice A1 vs.length c1) (nc vs)) (h2 : Sl w w.heap.size (.slice A2 ts.length c2) (tc ts)) (hv : ∀ x ∈ vs, x < 18446744073709551616)
    (hl : n0 ≤ 1000) (hvl : vs.length ≤ 60) (htl : ts.length ≤ 20) :
    Calls Try.prog 3 #[.slice A0 n0 c0, .slice A1 vs.length c1, .slice A2 ts.length c2] w (Yes w) := by
  have hln : l.length = n0 := by have := h0.len; rwa [bc_length] at this
  have hcv : ∀ nq, (convert 22 9 (.slice A0 n0 c0)).run Try.prog (w.drewN nq) = .ok (.string ⟨l.toArray⟩) (w.drewN nq) := fun nq => conv_sl (w := w.drewN nq) (B := w.heap.size) h0.sl
  have HL := Lib.hid hln
  have H0 := Lib.hid h0
  have H1 := Lib.hid h1
  have H2 := Lib.hid h2
  have HV := Lib.hid hv
  clear hln h0 h1 h2 hv
  go_enter Try.func3, Try.ntmps3
  go_wp2_with fail
  go_quiet (fail)
  go_wp2_with fail
  go_loopw [7, 9] (fun x i wr => PutsRel1 w l vs x i wr) (fun _ i _ => vs.length - (intOf i).toNat)
  case atStart => exact ⟨0, Nat.zero_le _, rfl, by simp [encNums], below_drewN' (Below.refl _ _) _⟩
  case round =>
    obtain ⟨k, hk, rfl, rfl, hbel⟩ := hrel
    by_cases hlt : k < vs.length
    · have hx : (nc vs)[k]? = some (.int .u64 (vs[k] : Int)) := by simp [nc, hlt]
      obtain ⟨b, off, rfl, hbB, hcell⟩ := H1.out.at_ hx
      have hcr : wr.cell? ⟨b, off + k, none⟩ = some (.int .u64 (vs[k] : Int)) := (hbel.cell (p := ⟨b, off + k, none⟩) hbB).trans hcell
      have hxlt : vs[k] < 18446744073709551616 := HV.out _ (List.getElem_mem hlt)
      have hlen : (l ++ encNums (vs.take k)).length ≤ 1073741824 := by
        have h1 := encNums_length (vs.take k) (fun x hx => HV.out x (List.mem_of_mem_take hx))
        have h2 := List.length_take_le k vs
        have h3 := HL.out
        rw [List.length_append]
        omega
      have HSN := Lib.hid (encNums_snoc vs k hlt)
      have HC := Lib.hid (refNumber_any (l ++ encNums (vs.take k)) vs[k] wr hxlt hlen)
      have HBL := Lib.hid hbel
      clear hcell hx hxlt hlen hbel hcv
      generalize vs[k] = xk at *
      generalize (⟨(l ++ encNums (vs.take k)).toArray⟩ : ByteArray) = X at *
      go_wp2_with fail
      refine HC.out.mono ?_
      rintro r w2 ⟨rfl, hb2⟩
      have HB2 := Lib.hid (HBL.out.trans (hb2.mono HBL.out.size))
      clear hb2
      go_wp2_with fail
      go_roundw
      case rel => exact ⟨k + 1, by omega, by go_num, by rw [HSN.out], HB2.out⟩
      case measure => simp [intOf]; omega
    · obtain rfl : k = vs.length := by omega
      rw [List.take_length]
      have HB1 := Lib.hid hbel
      clear hbel hcv
      generalize hX : (⟨(l ++ encNums vs).toArray⟩ : ByteArray) = X
      have HX := Lib.hid hX
      clear hX
      go_wp2_with fail
      go_loopw [8, 10] (fun y i wr => PutsRel2 w l ts y i wr) (fun _ i _ => ts.length - (intOf i).toNat)
      case atStart => exact ⟨0, Nat.zero_le _, rfl, by simp [encTexts], by simp [sizes], HB1.out⟩
      case round =>
        obtain ⟨k, hk2, rfl, rfl, hsz, hbel⟩ := hrel
        by_cases hlt2 : k < ts.length
        · have hx : (tc ts)[k]? = some (.string ts[k]) := by simp [tc, hlt2]
          obtain ⟨b, off, rfl, hbB, hcell⟩ := H2.out.at_ hx
          have hcr : wr.cell? ⟨b, off + k, none⟩ = some (.string ts[k]) := (hbel.cell (p := ⟨b, off + k, none⟩) hbB).trans hcell
          by_cases hbig : (1000 : Int) < (ts[k].size : Int)
          · have HBL := Lib.hid hbel
            clear hcell hx hbel
            generalize ts[k] = t at *
            go_wp2_with fail
            go_ret
            exact ⟨rfl, HBL.out⟩
          · have hlen : (l ++ encTexts (ts.take k)).length + ts[k].data.toList.length ≤ 1073741824 := by
              have h1 := encTexts_length (ts.take k) (by omega)
              have h2 := List.length_take_le k ts
              have h3 := HL.out
              rw [List.length_append, size_data]
              omega
            have HSN := Lib.hid (encTexts_snoc ts k hlt2)
            have HSZ := Lib.hid (sizes_snoc ts k hlt2)
            have hc := refText_any (l ++ encTexts (ts.take k)) ts[k].data.toList wr hlen
            rw [data_eq] at hc
            have HC := Lib.hid hc
            have HBL := Lib.hid hbel
            clear hcell hx hlen hbel hc
            generalize ts[k] = t at *
            generalize (⟨(l ++ encTexts (ts.take k)).toArray⟩ : ByteArray) = Y at *
            go_wp2_with fail
            refine HC.out.mono ?_
            rintro r w2 ⟨rfl, hb2⟩
            have HB2 := Lib.hid (HBL.out.trans (hb2.mono HBL.out.size))
            clear hb2
            go_wp2_with fail
            go_roundw
            case rel => exact ⟨k + 1, by omega, by go_num, by rw [HSN.out], by rw [HSZ.out]; omega, HB2.out⟩
            case measure => simp [intOf]; omega
        · obtain rfl : k = ts.length := by omega
          rw [List.take_length]
          rw [List.take_length] at hsz
          have HB2 := Lib.hid hbel
          generalize hY : (⟨(l ++ encTexts ts).toArray⟩ : ByteArray) = Y
          have HY := Lib.hid hY
          have hsl0 := Lib.hid ((H0.out.sl.below hbel).wide hbel.size)
          have hsl1 := Lib.hid ((H1.out.below hbel).wide hbel.size)
          have hsl2 := Lib.hid ((H2.out.below hbel).wide hbel.size)
          have hln := HL.out
          clear hbel hY
          go_wp2_with fail
          refine (putNumber_any _ _ l vs wr hsl0.out hsl1.out HV.out (by omega)).mono ?_
          rintro r w3 ⟨v3, rfl, hown3, hb3⟩
          have hcv3 := conv_sl (Sl.own hown3)
          rw [HX.out] at hcv3
          have hq0 := Lib.hid ((hsl0.out.below hb3).wide hb3.size)
          have hq2 := Lib.hid ((hsl2.out.below hb3).wide hb3.size)
          have HB3 := Lib.hid (HB2.out.trans (hb3.mono HB2.out.size))
          clear hown3 hb3 hln
          go_wp2_with fail
          refine (putText_any _ _ l ts w3 hq0.out hq2.out (by have := HL.out; omega)).mono ?_
          rintro r w4 ⟨v4, rfl, hown4, hb4⟩
          have hcv4 := conv_sl (Sl.own hown4)
          rw [HY.out] at hcv4
          have HB4 := Lib.hid (HB3.out.trans (hb4.mono HB3.out.size))
          clear hown4 hb4 hcv3
          go_wp2_with fail
          refine (one_any w4).mono ?_
          rintro r w5 ⟨rfl, hb5⟩
          have HB5 := Lib.hid (HB4.out.trans (hb5.mono HB4.out.size))
          clear hb5
          go_wp2_with fail
          go_ret
          exact ⟨rfl, HB5.out⟩

theorem puts_walk (A0 : Option Addr) (n0 c0 : Nat) (l : List UInt8) (w : World) (h0 : Arg w A0 n0 c0 (bc l)) (A1 : Option Addr) (n1 c1 : Nat) (vs : List Nat) (h1 : Arg w A1 n1 c1 (nc vs)) (hv : ∀ x ∈ vs, x < 18446744073709551616)
    (A2 : Option Addr) (n2 c2 : Nat) (ts : List ByteArray) (h2 : Arg w A2 n2 c2 (tc ts)) :
    Calls Try.prog 3 #[.slice A0 n0 c0, .slice A1 n1 c1, .slice A2 n2 c2] w (Yes w) := by
  by_cases b0 : (1000 : Int) < (n0 : Int)
  · go_enter Try.func3, Try.ntmps3
    go_wp2
    go_ret
    exact ⟨rfl, Below.refl _ _⟩
  · by_cases b1 : (60 : Int) < (n1 : Int)
    · go_enter Try.func3, Try.ntmps3
      go_wp2
      go_ret
      exact ⟨rfl, Below.refl _ _⟩
    · by_cases b2 : (20 : Int) < (n2 : Int)
      · go_enter Try.func3, Try.ntmps3
        go_wp2
        go_ret
        exact ⟨rfl, Below.refl _ _⟩
      · have e1 : vs.length = n1 := by have := h1.len; rwa [nc_length] at this
        have e2 : ts.length = n2 := by have := h2.len; rwa [tc_length] at this
        subst e1
        subst e2
        exact puts_main A0 A1 A2 n0 c0 c1 c2 l vs ts w h0 h1.sl h2.sl hv (by omega) (by omega) (by omega)

end Go.Proofs.Yteabpbmecdenjaa
