/-
  IdsLaws, walked.
-/
import Derived.Test.YtjnobakbjapfjaaSets
import Derived.Test.YtjnobakbjapfjaaIdsOne
namespace Go.Proofs.Ytjnobakbjapfjaa
open Go.RowKit Go.Sort Go.Shelf

/-- A value that is a list of ids, in whatever world comes behind w. -/
def Is (w : World) (A : Option Addr) (n c : Nat) (xs : List Id) : Prop := Ids w A n c xs ∧ n ≤ 1000
theorem Is.below {w w' : World} {A : Option Addr} {n c : Nat} {xs : List Id} (h : Is w A n c xs) (hb : Below w.heap.size w w') : Is w' A n c xs := ⟨h.1.below hb (Nat.le_refl _), h.2⟩
theorem or_mem (S O : List Id) (x : Id) : x ∈ orL S O ↔ x ∈ S ∨ x ∈ O := by
  rw [chosen_mem]
  by_cases h1 : x ∈ S <;> by_cases h2 : x ∈ O <;> simp [h1, h2]
theorem and_mem (S O : List Id) (x : Id) : x ∈ andL S O ↔ x ∈ S ∧ x ∈ O := by
  rw [chosen_mem]
  by_cases h1 : x ∈ S <;> by_cases h2 : x ∈ O <;> simp [h1, h2]
theorem less_mem (S O : List Id) (x : Id) : x ∈ lessL S O ↔ x ∈ S ∧ ¬ x ∈ O := by
  rw [chosen_mem]
  by_cases h1 : x ∈ S <;> by_cases h2 : x ∈ O <;> simp [h1, h2]
theorem less_nil (S O : List Id) : lessL S O = [] ↔ ∀ x, x ∈ S → x ∈ O := by
  constructor
  · intro h x hx
    by_cases hO : x ∈ O
    · exact hO
    · have := (less_mem S O x).2 ⟨hx, hO⟩
      rw [h] at this
      cases this
  · intro h
    refine List.eq_nil_iff_forall_not_mem.2 (fun x hx => ?_)
    have := (less_mem S O x).1 hx
    exact this.2 (h x this.1)
theorem of_ext {S O : List Id} (h : ∀ x, x ∈ S ↔ x ∈ O) : ofL S = ofL O := rises_ext (ofL_rises _) (ofL_rises _) (fun x => by rw [ofL_mem, ofL_mem, h])
theorem law1 (S T : List Id) : decide (ofL (orL (lessL S T) (andL S T)) = ofL S) = true := decide_eq_true (of_ext fun x => by
  rw [or_mem, less_mem, and_mem]
  by_cases h : x ∈ T <;> simp [h])
theorem law2 (S T : List Id) : decide (ofL (lessL (orL S T) (orL (lessL S T) (lessL T S))) = ofL (andL S T)) = true := decide_eq_true (of_ext fun x => by
  rw [less_mem, or_mem, or_mem, less_mem, less_mem, and_mem]
  by_cases h : x ∈ S <;> by_cases h' : x ∈ T <;> simp [h, h'])
theorem law3 (S T : List Id) : decide (lessL S (orL S T) = []) = true := decide_eq_true ((less_nil _ _).2 fun x hx => (or_mem _ _ x).2 (.inl hx))
theorem law4 (S T : List Id) : decide (lessL (andL S T) T = []) = true := decide_eq_true ((less_nil _ _).2 fun x hx => ((and_mem _ _ x).1 hx).2)
theorem law5 (S T : List Id) (h : decide (lessL S T = []) = true) : decide (ofL (orL S T) = ofL T) = true := decide_eq_true (of_ext fun x => by
  rw [or_mem]
  exact ⟨fun hh => hh.elim ((less_nil S T).1 (of_decide_eq_true h) x) id, .inr⟩)
theorem law6 (S T : List Id) : rightL (orL S T) = true := decide_eq_true (chosen_rises _ _ _)

theorem cOr {w : World} {A B : Option Addr} {n c m d : Nat} {S O : List Id} (hx : Is w A n c S) (hy : Is w B m d O) (hs : n + m ≤ 1000) :
    Calls Try.prog 22 #[.slice A n c, .slice B m d] w fun e w' => ∃ A' n' c', e = .returned (.slice A' n' c') ∧ Is w' A' n' c' (orL S O) ∧ n' ≤ n + m ∧ Below w.heap.size w w' :=
  (orSet_says w A n c S hx.1 hx.2 B m d O hy.1 hy.2).mono fun _ _ ⟨A', n', c', he, hi, hb⟩ => by
    have h1 := chosen_length _ S O |> Nat.le_trans (Nat.le_of_eq hi.len.symm)
    have h2 := hx.1.len
    have h3 := hy.1.len
    exact ⟨A', n', c', he, ⟨hi, by omega⟩, by omega, hb⟩
theorem cAnd {w : World} {A B : Option Addr} {n c m d : Nat} {S O : List Id} (hx : Is w A n c S) (hy : Is w B m d O) (hs : n + m ≤ 1000) :
    Calls Try.prog 23 #[.slice A n c, .slice B m d] w fun e w' => ∃ A' n' c', e = .returned (.slice A' n' c') ∧ Is w' A' n' c' (andL S O) ∧ n' ≤ n + m ∧ Below w.heap.size w w' :=
  (andSet_says w A n c S hx.1 hx.2 B m d O hy.1 hy.2).mono fun _ _ ⟨A', n', c', he, hi, hb⟩ => by
    have h1 := chosen_length _ S O |> Nat.le_trans (Nat.le_of_eq hi.len.symm)
    have h2 := hx.1.len
    have h3 := hy.1.len
    exact ⟨A', n', c', he, ⟨hi, by omega⟩, by omega, hb⟩
theorem cLess {w : World} {A B : Option Addr} {n c m d : Nat} {S O : List Id} (hx : Is w A n c S) (hy : Is w B m d O) (hs : n + m ≤ 1000) :
    Calls Try.prog 21 #[.slice A n c, .slice B m d] w fun e w' => ∃ A' n' c', e = .returned (.slice A' n' c') ∧ Is w' A' n' c' (lessL S O) ∧ n' ≤ n + m ∧ Below w.heap.size w w' :=
  (lessSet_says w A n c S hx.1 hx.2 B m d O hy.1 hy.2).mono fun _ _ ⟨A', n', c', he, hi, hb⟩ => by
    have h1 := chosen_length _ S O |> Nat.le_trans (Nat.le_of_eq hi.len.symm)
    have h2 := hx.1.len
    have h3 := hy.1.len
    exact ⟨A', n', c', he, ⟨hi, by omega⟩, by omega, hb⟩

set_option maxRecDepth 100000 in
set_option maxHeartbeats 4000000 in
theorem idsLaws_walk (A : Option Addr) (n c : Nat) (S : List Id) (w : World) (hx : Ids w A n c S) (B : Option Addr) (m d : Nat) (T : List Id) (hy : Ids w B m d T) :
    Calls Try.prog 6 #[.slice A n c, .slice B m d] w fun e w' => e = .returned (.bool true) ∧ Below w.heap.size w w' := by
  by_cases h60 : 60 < n
  · have h60' : (60 : Int) < (n : Int) := by omega
    go_enter Try.func6, Try.ntmps6
    go_wp2
    go_ret
    exact ⟨rfl, Below.refl _ _⟩
  have h60' : ¬ (60 : Int) < (n : Int) := by omega
  by_cases k60 : 60 < m
  · have k60' : (60 : Int) < (m : Int) := by omega
    go_enter Try.func6, Try.ntmps6
    go_wp2
    go_ret
    exact ⟨rfl, Below.refl _ _⟩
  have k60' : ¬ (60 : Int) < (m : Int) := by omega
  have HX := Lib.hid hx
  have HY := Lib.hid hy
  have HLS : Hid ((ofL S).length ≤ 60) := Lib.hid (Nat.le_trans (ofL_length S) (by rw [hx.len]; omega))
  have HLT : Hid ((ofL T).length ≤ 60) := Lib.hid (Nat.le_trans (ofL_length T) (by rw [hy.len]; omega))
  clear hx hy
  go_enter Try.func6, Try.ntmps6
  go_wp2_with fail
  refine (of_says w A n c S HX.out (by omega)).mono ?_
  rintro e w1 ⟨As, ns, cs, rfl, hx1, hb1⟩
  have HY1 := Lib.hid (HY.out.below hb1 (Nat.le_refl _))
  have HX1 := Lib.hid hx1
  have HB1 := Lib.hid hb1
  clear hx1 hb1
  go_wp2_with fail
  refine (of_says w1 B m d T HY1.out (by omega)).mono ?_
  rintro e w2 ⟨At, nt, ct, rfl, hx2, hb2⟩
  have hns : ns ≤ 60 := by have := HLS.out; rw [HX1.out.len] at this; exact this
  have hnt : nt ≤ 60 := by have := HLT.out; rw [hx2.len] at this; exact this
  have s2 := Lib.hid (show Is w2 As ns cs (ofL S) from ⟨HX1.out.below hb2 (Nat.le_refl _), by omega⟩)
  have t2 := Lib.hid (show Is w2 At nt ct (ofL T) from ⟨hx2, by omega⟩)
  have B2 := Lib.hid (HB1.out.trans (hb2.mono HB1.out.size))
  clear hx2 hb2 HX1 HY1 HB1 HX HY HLS HLT
  generalize ofL S = S at s2
  generalize ofL T = T at t2
  go_wp2_with fail
  refine (cLess s2.out t2.out (by omega)).mono ?_
  rintro e w3 ⟨Ap, np, cp, rfl, hi, hlep, hb⟩
  have s3 := Lib.hid (s2.out.below hb)
  have t3 := Lib.hid (t2.out.below hb)
  have B3 := Lib.hid (B2.out.trans (hb.mono B2.out.size))
  have p3 := Lib.hid hi
  clear hi hb
  clear s2
  clear t2
  clear B2
  go_wp2_with fail
  refine (cLess t3.out s3.out (by omega)).mono ?_
  rintro e w4 ⟨Aq, nq, cq, rfl, hi, hleq, hb⟩
  have s4 := Lib.hid (s3.out.below hb)
  have t4 := Lib.hid (t3.out.below hb)
  have p4 := Lib.hid (p3.out.below hb)
  have B4 := Lib.hid (B3.out.trans (hb.mono B3.out.size))
  have q4 := Lib.hid hi
  clear hi hb
  clear s3
  clear t3
  clear p3
  clear B3
  go_wp2_with fail
  refine (cOr p4.out q4.out (by omega)).mono ?_
  rintro e w5 ⟨Au, nu, cu, rfl, hi, hleu, hb⟩
  have s5 := Lib.hid (s4.out.below hb)
  have t5 := Lib.hid (t4.out.below hb)
  have p5 := Lib.hid (p4.out.below hb)
  have q5 := Lib.hid (q4.out.below hb)
  have B5 := Lib.hid (B4.out.trans (hb.mono B4.out.size))
  have u5 := Lib.hid hi
  clear hi hb
  clear s4
  clear t4
  clear p4
  clear q4
  clear B4
  clear p5
  clear q5
  go_wp2_with fail
  refine (cLess s5.out t5.out (by omega)).mono ?_
  rintro e w6 ⟨Aa, na, ca, rfl, hi, hlea, hb⟩
  have s6 := Lib.hid (s5.out.below hb)
  have t6 := Lib.hid (t5.out.below hb)
  have u6 := Lib.hid (u5.out.below hb)
  have B6 := Lib.hid (B5.out.trans (hb.mono B5.out.size))
  have a6 := Lib.hid hi
  clear hi hb
  clear s5
  clear t5
  clear u5
  clear B5
  go_wp2_with fail
  refine (cAnd s6.out t6.out (by omega)).mono ?_
  rintro e w7 ⟨Ab, nb, cb, rfl, hi, hleb, hb⟩
  have s7 := Lib.hid (s6.out.below hb)
  have t7 := Lib.hid (t6.out.below hb)
  have u7 := Lib.hid (u6.out.below hb)
  have a7 := Lib.hid (a6.out.below hb)
  have B7 := Lib.hid (B6.out.trans (hb.mono B6.out.size))
  have b7 := Lib.hid hi
  clear hi hb
  clear s6
  clear t6
  clear u6
  clear a6
  clear B6
  go_wp2_with fail
  refine (cOr a7.out b7.out (by omega)).mono ?_
  rintro e w8 ⟨Ae, ne, ce, rfl, hi, hlee, hb⟩
  have s8 := Lib.hid (s7.out.below hb)
  have t8 := Lib.hid (t7.out.below hb)
  have u8 := Lib.hid (u7.out.below hb)
  have a8 := Lib.hid (a7.out.below hb)
  have b8 := Lib.hid (b7.out.below hb)
  have B8 := Lib.hid (B7.out.trans (hb.mono B7.out.size))
  have e8 := Lib.hid hi
  clear hi hb
  clear s7
  clear t7
  clear u7
  clear a7
  clear b7
  clear B7
  clear a8
  clear b8
  have hq := same_says w8 Ae ne ce (orL (lessL S T) (andL S T)) e8.out.1 e8.out.2 As ns cs S s8.out.1 s8.out.2
  rw [law1] at hq
  have HQ := Lib.hid hq
  clear hq
  go_wp2_with fail
  refine HQ.out.mono ?_
  rintro e w9 ⟨rfl, hb⟩
  clear HQ
  have s9 := Lib.hid (s8.out.below hb)
  have t9 := Lib.hid (t8.out.below hb)
  have u9 := Lib.hid (u8.out.below hb)
  have e9 := Lib.hid (e8.out.below hb)
  have B9 := Lib.hid (B8.out.trans (hb.mono B8.out.size))
  clear hb
  clear s8
  clear t8
  clear u8
  clear e8
  clear B8
  clear e9
  go_wp2_with fail
  refine (cOr s9.out t9.out (by omega)).mono ?_
  rintro e w10 ⟨Af, nf, cf, rfl, hi, hlef, hb⟩
  have s10 := Lib.hid (s9.out.below hb)
  have t10 := Lib.hid (t9.out.below hb)
  have u10 := Lib.hid (u9.out.below hb)
  have B10 := Lib.hid (B9.out.trans (hb.mono B9.out.size))
  have f10 := Lib.hid hi
  clear hi hb
  clear s9
  clear t9
  clear u9
  clear B9
  go_wp2_with fail
  refine (cLess f10.out u10.out (by omega)).mono ?_
  rintro e w11 ⟨Ag, ng, cg, rfl, hi, hleg, hb⟩
  have s11 := Lib.hid (s10.out.below hb)
  have t11 := Lib.hid (t10.out.below hb)
  have u11 := Lib.hid (u10.out.below hb)
  have f11 := Lib.hid (f10.out.below hb)
  have B11 := Lib.hid (B10.out.trans (hb.mono B10.out.size))
  have g11 := Lib.hid hi
  clear hi hb
  clear s10
  clear t10
  clear u10
  clear f10
  clear B10
  go_wp2_with fail
  refine (cAnd s11.out t11.out (by omega)).mono ?_
  rintro e w12 ⟨Ah, nh, ch, rfl, hi, hleh, hb⟩
  have s12 := Lib.hid (s11.out.below hb)
  have t12 := Lib.hid (t11.out.below hb)
  have u12 := Lib.hid (u11.out.below hb)
  have f12 := Lib.hid (f11.out.below hb)
  have g12 := Lib.hid (g11.out.below hb)
  have B12 := Lib.hid (B11.out.trans (hb.mono B11.out.size))
  have h12 := Lib.hid hi
  clear hi hb
  clear s11
  clear t11
  clear u11
  clear f11
  clear g11
  clear B11
  clear f12
  clear u12
  have hq := same_says w12 Ag ng cg (lessL (orL S T) (orL (lessL S T) (lessL T S))) g12.out.1 g12.out.2 Ah nh ch (andL S T) h12.out.1 h12.out.2
  rw [law2] at hq
  have HQ := Lib.hid hq
  clear hq
  go_wp2_with fail
  refine HQ.out.mono ?_
  rintro e w13 ⟨rfl, hb⟩
  clear HQ
  have s13 := Lib.hid (s12.out.below hb)
  have t13 := Lib.hid (t12.out.below hb)
  have g13 := Lib.hid (g12.out.below hb)
  have h13 := Lib.hid (h12.out.below hb)
  have B13 := Lib.hid (B12.out.trans (hb.mono B12.out.size))
  clear hb
  clear s12
  clear t12
  clear g12
  clear h12
  clear B12
  clear g13
  clear h13
  go_wp2_with fail
  refine (cOr s13.out t13.out (by omega)).mono ?_
  rintro e w14 ⟨Ai, ni, ci, rfl, hi, hlei, hb⟩
  have s14 := Lib.hid (s13.out.below hb)
  have t14 := Lib.hid (t13.out.below hb)
  have B14 := Lib.hid (B13.out.trans (hb.mono B13.out.size))
  have i14 := Lib.hid hi
  clear hi hb
  clear s13
  clear t13
  clear B13
  have hq := within_says w14 As ns cs S s14.out.1 s14.out.2 Ai ni ci (orL S T) i14.out.1 i14.out.2
  rw [law3] at hq
  have HQ := Lib.hid hq
  clear hq
  go_wp2_with fail
  refine HQ.out.mono ?_
  rintro e w15 ⟨rfl, hb⟩
  clear HQ
  have s15 := Lib.hid (s14.out.below hb)
  have t15 := Lib.hid (t14.out.below hb)
  have i15 := Lib.hid (i14.out.below hb)
  have B15 := Lib.hid (B14.out.trans (hb.mono B14.out.size))
  clear hb
  clear s14
  clear t14
  clear i14
  clear B14
  clear i15
  go_wp2_with fail
  refine (cAnd s15.out t15.out (by omega)).mono ?_
  rintro e w16 ⟨Aj, nj, cj, rfl, hi, hlej, hb⟩
  have s16 := Lib.hid (s15.out.below hb)
  have t16 := Lib.hid (t15.out.below hb)
  have B16 := Lib.hid (B15.out.trans (hb.mono B15.out.size))
  have j16 := Lib.hid hi
  clear hi hb
  clear s15
  clear t15
  clear B15
  have hq := within_says w16 Aj nj cj (andL S T) j16.out.1 j16.out.2 At nt ct T t16.out.1 t16.out.2
  rw [law4] at hq
  have HQ := Lib.hid hq
  clear hq
  go_wp2_with fail
  refine HQ.out.mono ?_
  rintro e w17 ⟨rfl, hb⟩
  clear HQ
  have s17 := Lib.hid (s16.out.below hb)
  have t17 := Lib.hid (t16.out.below hb)
  have j17 := Lib.hid (j16.out.below hb)
  have B17 := Lib.hid (B16.out.trans (hb.mono B16.out.size))
  clear hb
  clear s16
  clear t16
  clear j16
  clear B16
  clear j17
  have hq := within_says w17 As ns cs S s17.out.1 s17.out.2 At nt ct T t17.out.1 t17.out.2
  obtain ⟨r, hr⟩ : ∃ r, decide (lessL S T = []) = r := ⟨_, rfl⟩
  rw [hr] at hq
  have HQ := Lib.hid hq
  have HR := Lib.hid hr
  clear hq hr
  go_wp2_with fail
  refine HQ.out.mono ?_
  rintro e w18 ⟨rfl, hb⟩
  clear HQ
  have s18 := Lib.hid (s17.out.below hb)
  have t18 := Lib.hid (t17.out.below hb)
  have B18 := Lib.hid (B17.out.trans (hb.mono B17.out.size))
  clear hb
  clear s17
  clear t17
  clear B17
  cases r with
  | false =>
    go_wp2_with fail
    refine (cOr s18.out t18.out (by omega)).mono ?_
    rintro e w19 ⟨Az, nz, cz, rfl, hi, hlez, hb⟩
    have s19 := Lib.hid (s18.out.below hb)
    have t19 := Lib.hid (t18.out.below hb)
    have B19 := Lib.hid (B18.out.trans (hb.mono B18.out.size))
    have z19 := Lib.hid hi
    clear hi hb
    clear s18
    clear t18
    clear B18
    have hq := right_says w19 Az nz cz (orL S T) z19.out.1 z19.out.2
    rw [law6] at hq
    have HQ := Lib.hid hq
    clear hq
    go_wp2_with fail
    refine HQ.out.mono ?_
    rintro e w20 ⟨rfl, hb⟩
    clear HQ
    have B20 := Lib.hid (B19.out.trans (hb.mono B19.out.size))
    clear hb
    go_wp2_with fail
    refine (one_says w20).mono ?_
    rintro e w99 ⟨rfl, hb⟩
    have B99 := Lib.hid (B20.out.trans (hb.mono B20.out.size))
    clear hb
    go_wp2
    go_ret
    exact ⟨rfl, B99.out⟩
  | true =>
    go_wp2_with fail
    refine (cOr s18.out t18.out (by omega)).mono ?_
    rintro e w19 ⟨Ay, ny, cy, rfl, hi, hley, hb⟩
    have s19 := Lib.hid (s18.out.below hb)
    have t19 := Lib.hid (t18.out.below hb)
    have B19 := Lib.hid (B18.out.trans (hb.mono B18.out.size))
    have y19 := Lib.hid hi
    clear hi hb
    clear s18
    clear t18
    clear B18
    have hq := same_says w19 Ay ny cy (orL S T) y19.out.1 y19.out.2 At nt ct T t19.out.1 t19.out.2
    rw [law5 S T HR.out] at hq
    have HQ := Lib.hid hq
    clear hq
    go_wp2_with fail
    refine HQ.out.mono ?_
    rintro e w20 ⟨rfl, hb⟩
    clear HQ
    have s20 := Lib.hid (s19.out.below hb)
    have t20 := Lib.hid (t19.out.below hb)
    have y20 := Lib.hid (y19.out.below hb)
    have B20 := Lib.hid (B19.out.trans (hb.mono B19.out.size))
    clear hb
    clear s19
    clear t19
    clear y19
    clear B19
    clear y20
    go_wp2_with fail
    refine (cOr s20.out t20.out (by omega)).mono ?_
    rintro e w21 ⟨Az, nz, cz, rfl, hi, hlez, hb⟩
    have s21 := Lib.hid (s20.out.below hb)
    have t21 := Lib.hid (t20.out.below hb)
    have B21 := Lib.hid (B20.out.trans (hb.mono B20.out.size))
    have z21 := Lib.hid hi
    clear hi hb
    clear s20
    clear t20
    clear B20
    have hq := right_says w21 Az nz cz (orL S T) z21.out.1 z21.out.2
    rw [law6] at hq
    have HQ := Lib.hid hq
    clear hq
    go_wp2_with fail
    refine HQ.out.mono ?_
    rintro e w22 ⟨rfl, hb⟩
    clear HQ
    have B22 := Lib.hid (B21.out.trans (hb.mono B21.out.size))
    clear hb
    go_wp2_with fail
    refine (one_says w22).mono ?_
    rintro e w99 ⟨rfl, hb⟩
    have B99 := Lib.hid (B22.out.trans (hb.mono B22.out.size))
    clear hb
    go_wp2
    go_ret
    exact ⟨rfl, B99.out⟩
end Go.Proofs.Ytjnobakbjapfjaa
