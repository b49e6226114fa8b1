/-
  Rows of whole numbers and of texts, of the call's own, that grow by 'append'; the reference's Write.
-/
import Derived.Test.YtemgphpgfdnkeaaRefD
namespace Go.Proofs.Ytemgphpgfdnkeaa
open Go.RowKit

def scs (l : List Bk) : List Value := l.map sc
def ncs (l : List Nat) : List Value := l.map fun (n : Nat) => Value.int .i64 (n : Int)
theorem scs_length (l : List Bk) : (scs l).length = l.length := by simp [scs]
theorem ncs_length (l : List Nat) : (ncs l).length = l.length := by simp [ncs]
theorem scs_one (l : List Bk) : ∀ u ∈ scs l, u.oneCell' = true := by
  intro u hu
  obtain ⟨x, _, rfl⟩ := List.mem_map.1 hu
  rfl
theorem ncs_one (l : List Nat) : ∀ u ∈ ncs l, u.oneCell' = true := by
  intro u hu
  obtain ⟨x, _, rfl⟩ := List.mem_map.1 hu
  rfl
/-- A slice that is read, nil or not. -/
def Rd (w : World) (N : Nat → Prop) (A : Option Addr) (n c : Nat) (l : List Value) : Prop := Lies w N A n c l ∧ (A = none → c = 0)
section
variable {w w' : World} {N N' : Nat → Prop} {A : Option Addr} {n c : Nat} {l : List Value}
theorem Rd.below (h : Rd w N A n c l) (hb : Below w.heap.size w w') : Rd w' N A n c l := ⟨h.1.below hb, h.2⟩
theorem Rd.weak (h : Rd w N A n c l) (hN : ∀ b, b < w.heap.size → N b → N' b) : Rd w N' A n c l := ⟨h.1.weak hN, h.2⟩
theorem Rd.touch {K : Nat → Prop} (h : Rd w N A n c l) (ht : Touch K w w') (hN : ∀ b, N b → ¬ K b) : Rd w' N A n c l := ⟨ht.lies h.1 hN, h.2⟩
end
theorem own_rd {w : World} {base n : Nat} {e : TypeId} {v : Value} {l : List Value} (h : w.ownsRow base e 1 v n l) : ∃ A c, v = .slice A n c ∧ Rd w (fun k => base ≤ k) A n c l := by
  have hlt := World.ownsRow.lt h
  have hl := h.1
  rw [Nat.mul_one] at hl
  rcases h.2 with ⟨hv, hn⟩ | ⟨g, cap, cur, hv, hbg, _, hnc, _⟩
  · have h0 : l = [] := List.eq_nil_of_length_eq_zero (by omega)
    subst h0
    exact ⟨none, 0, by rw [hn]; exact hv, ⟨by omega, by omega, fun h => by omega⟩, fun _ => rfl⟩
  · subst hv
    exact ⟨_, cap, rfl, ⟨hl, hnc, fun _ => ⟨⟨g, 0, none⟩, rfl, hbg, (hlt g rfl).2, fun j u hu => World.ownsRow.cells h (g := g) rfl j u hu⟩⟩, fun e => by cases e⟩
/-- 'append(all, b...)', at the operation. -/
theorem wpList_app {ops : Array Oper} {rest : List Oper} {o : Oper} {a : Act} {Q : Exit → Act → World → Prop} (T e : TypeId) (z : Value) (by' : Nat) (hu : Try.prog.underlying T = some (.slice e)) (hinfo : (Try.prog.info? e).map (fun i => (i.zero, i.size, i.bytes)) = some (some z, 1, by')) (hzc : z.cells.size = 1) (hby : by' ≤ 16) (w : World) (s x : Operand) (hgd : o.guard = none)
    (hop : o.op = .call { callee := .builtin .append, args := #[s, x], argTypes := #[T, T] })
    {N : Nat → Prop} (base : Nat) (v : Value) (k : Nat) (l : List Value) (A : Option Addr) (m c : Nat) (news : List Value) (hs : a.eval s = v) (hx : a.eval x = .slice A m c) (hown : w.ownsRow base e 1 v k l) (hl : Rd w N A m c news) (h1 : ∀ u ∈ news, u.oneCell' = true)
    (hz : k + m ≤ 1000000) (hb : base ≤ w.heap.size)
    (K : ∀ v' w', w'.ownsRow base e 1 v' (k + m) (l ++ news) → w.grownBy w' v.ownBlock → wpList Try.prog ops Q rest (a.put o.dst v') w') : wpList Try.prog ops Q (o :: rest) a w := by
  obtain ⟨i0, hi, hz0, hz1, hz2⟩ := info_parts hinfo
  have hm := hl.1.len
  rcases A with _ | ad
  · have hc := hl.2 rfl
    have hle := hl.1.le
    obtain rfl : m = 0 := by omega
    subst hc
    obtain rfl : news = [] := List.eq_nil_of_length_eq_zero hm
    refine wpList_append_own_none hgd s x T hop base e i0 1 hu hi v k l hs hown hx ?_
    refine K v w ?_ (grown_refl w _)
    rw [List.append_nil, Nat.add_zero]
    exact hown
  · refine wpList_append_own _ hgd s x T hop base e i0 z 1 by' hu hi hz0 hz1 hz2 hzc (by decide) v k l hs hown ad m c news hx (by rw [hm, Nat.mul_one])
      (fun j u hu => ?_) h1 (by unfold maxLen; omega) (by have : (k + m) * by' ≤ 1000000 * 16 := Nat.mul_le_mul hz hby; omega) hb ?_
    · have hj : 0 < m := by
        have := (List.getElem?_eq_some_iff.1 hu).1
        omega
      obtain ⟨ad', he, _, _, h4⟩ := hl.1.2.2 hj
      obtain rfl := Option.some.inj he
      exact h4 j u hu
    · intro v' w' h1 h2 _
      exact K v' w' h1 h2
theorem intInfo : (Try.prog.info? 3).map (fun i => (i.zero, i.size, i.bytes)) = some (some (.int .i64 0), 1, 8) := by kernel_rfl
theorem strInfo : (Try.prog.info? 9).map (fun i => (i.zero, i.size, i.bytes)) = some (some (.string ⟨#[]⟩), 1, 16) := by kernel_rfl
/-- '[]int{}' and the like. -/
theorem own_empty (w : World) (e : TypeId) {base : Nat} (hb : base ≤ w.heap.size) : (w.alloc (.cells #[] e)).ownsRow base e 1 (.slice (some ⟨w.heap.size, 0, none⟩) 0 0) 0 [] := World.ownsRow_made w #[] 0 hb (Nat.zero_le _) rfl
theorem rd_one {w : World} {g : Nat} {e : TypeId} {u : Value} (h : Box w g e #[u]) : Rd w (fun k => k = g) (some ⟨g, 0, none⟩) 1 1 [u] := ⟨Box.toLies (xs := [u]) h rfl (Nat.le_refl _), fun e => by cases e⟩

/-- Two rows of unlike elements lie apart. -/
theorem own_apart {w : World} {b b' e e' k k' : Nat} {v v' : Value} {l l' : List Value} (h : w.ownsRow b e 1 v k l) (h' : w.ownsRow b' e' 1 v' k' l') (hne : e ≠ e') : v.ownBlock = none ∨ v.ownBlock ≠ v'.ownBlock := by
  rcases h.2 with ⟨rfl, _⟩ | ⟨g, cap, cur, rfl, _, hg, _⟩
  · exact .inl rfl
  · refine .inr (fun e1 => ?_)
    rcases h'.2 with ⟨rfl, _⟩ | ⟨g', cap', cur', rfl, _, hg', _⟩
    · simp [Value.ownBlock] at e1
    · have : g = g' := by simpa [Value.ownBlock] using e1
      subst this
      rw [hg] at hg'
      injection hg' with hg'
      injection hg' with _ h2
      exact hne h2
/-- The reference's device in its box, its answer's box, and a row that grows. -/
structure Grew (w w' : World) (cs zs : Array Value) (e k : Nat) (v : Value) (l : List Value) (N : Nat → Prop) (A : Option Addr) (n c : Nat) (r : List Value) : Prop where
  x : Box w' w.heap.size 30 cs
  y : Box w' (w.heap.size + 1) 30 zs
  bel : Below w.heap.size w w'
  own : w'.ownsRow w.heap.size e 1 v k l
  old : Rd w' N A n c r
theorem Grew.mk' {w w' w'' : World} {cs zs : Array Value} {e k k' : Nat} {v v' : Value} {l l' : List Value} {N : Nat → Prop} {A : Option Addr} {n c : Nat} {r : List Value} (hx : Box w' w.heap.size 30 cs) (hy : Box w' (w.heap.size + 1) 30 zs) (hb : Below w.heap.size w w') (ho : w'.ownsRow w.heap.size e 1 v k l) (hg : w'.grownBy w'' v.ownBlock) (he : e ≠ 30) (ho' : w''.ownsRow w.heap.size e 1 v' k' l') (hr : Rd w' N A n c r) (hN : ∀ b, N b → b < w.heap.size) : Grew w w'' cs zs e k' v' l' N A n c r := by
  have hb' : Below w.heap.size w' w'' := (Below.refl _ w').grown hg hb.size (fun k hk => (World.ownsRow.lt ho k hk).1)
  exact ⟨Box.grown hx hg (Box.apart hx ho he).symm, Box.grown hy hg (Box.apart hy ho he).symm, hb.trans hb', ho', ⟨hr.1.keep (fun p hp _ => hb'.cell (p := p) (hN _ hp)) hb'.size, hr.2⟩⟩
section
variable {w w' : World} {s0 s1 s2 s3 s4 s5 : Value} {zs : Array Value} {e k : Nat} {v : Value} {l : List Value} {N : Nat → Prop} {A : Option Addr} {n c : Nat} {r : List Value}
theorem Grew.c1 (h : Grew w w' #[s0, s1, s2, s3, s4, s5] zs e k v l N A n c r) : w'.cell? ⟨w.heap.size, 1, none⟩ = some s1 := (Box.cell h.x 1).trans rfl
theorem Grew.f1 (h : Grew w w' #[s0, s1, s2, s3, s4, s5] zs e k v l N A n c r) : w'.frozen? ⟨w.heap.size, 1, none⟩ = false := Box.frozen h.x 1
theorem Grew.c2 (h : Grew w w' #[s0, s1, s2, s3, s4, s5] zs e k v l N A n c r) : w'.cell? ⟨w.heap.size, 2, none⟩ = some s2 := (Box.cell h.x 2).trans rfl
theorem Grew.f2 (h : Grew w w' #[s0, s1, s2, s3, s4, s5] zs e k v l N A n c r) : w'.frozen? ⟨w.heap.size, 2, none⟩ = false := Box.frozen h.x 2
end
set_option maxRecDepth 100000 in
set_option maxHeartbeats 4000000 in
theorem rwrite_low (w : World) (N : Nat → Prop) (A1 A2 A3 : Option Addr) (n1 c1 m2 c2 m3 c3 : Nat) (l2 : List Nat) (l3 : List Bk) (h2 : Rd w N A2 m2 c2 (ncs l2)) (h3 : Rd w N A3 m3 c3 (scs l3)) (hN : ∀ b, N b → b < w.heap.size) (arm : Int) (down : Bool) (ops : Int) (n : Nat) (x : Bk) (hm2 : m2 ≤ 1000) (hm3 : m3 ≤ 1000) :
    Calls Try.prog 19 #[.agg #[.slice A1 n1 c1, .slice A2 m2 c2, .slice A3 m3 c3, .int .i64 arm, .bool down, .int .i64 ops], .int .i64 (n : Int), sc x] w fun e w' => ∃ B2 d2 B3 d3, e = .returned (.agg #[.slice A1 n1 c1, .slice B2 (m2 + 1) d2, .slice B3 (m3 + 1) d3, .int .i64 arm, .bool down, .int .i64 ops]) ∧
      Rd w' (fun k => w.heap.size ≤ k) B2 (m2 + 1) d2 (ncs (l2 ++ [n])) ∧ Rd w' (fun k => w.heap.size ≤ k) B3 (m3 + 1) d3 (scs (l3 ++ [x])) ∧ Below w.heap.size w w' := by
  obtain ⟨w1, hw1⟩ : ∃ x, w.alloc (.cells #[.slice A1 n1 c1, .slice A2 m2 c2, .slice A3 m3 c3, .int .i64 arm, .bool down, .int .i64 ops] 30) = x := ⟨_, rfl⟩
  have hB1 : Below w.heap.size w w1 := by rw [← hw1]; exact (Below.refl _ w).alloc (Nat.le_refl _) _
  have hx1 := Box.made w 30 #[.slice A1 n1 c1, .slice A2 m2 c2, .slice A3 m3 c3, .int .i64 arm, .bool down, .int .i64 ops]
  rw [hw1] at hx1
  have hs1 : w1.heap.size = w.heap.size + 1 := by rw [← hw1]; simp
  obtain ⟨w2, hw2⟩ : ∃ x, w1.alloc (.cells #[.slice none 0 0, .slice none 0 0, .slice none 0 0, .int .i64 0, .bool false, .int .i64 0] 30) = x := ⟨_, rfl⟩
  have hB2 : Below w.heap.size w w2 := by rw [← hw2]; exact hB1.alloc hB1.size _
  have hx2 := Box.alloc hx1 (.cells #[.slice none 0 0, .slice none 0 0, .slice none 0 0, .int .i64 0, .bool false, .int .i64 0] 30)
  rw [hw2] at hx2
  have hy2 := Box.made w1 30 #[.slice none 0 0, .slice none 0 0, .slice none 0 0, .int .i64 0, .bool false, .int .i64 0]
  rw [hw2, hs1] at hy2
  obtain ⟨w3, hw3⟩ : ∃ x, w2.alloc (.cells #[] 3) = x := ⟨_, rfl⟩
  have hB3 : Below w.heap.size w w3 := by rw [← hw3]; exact hB2.alloc hB2.size _
  have hx3 := Box.alloc hx2 (.cells #[] 3)
  rw [hw3] at hx3
  have hy3 := Box.alloc hy2 (.cells #[] 3)
  rw [hw3] at hy3
  have ho3 := own_empty w2 3 hB2.size
  rw [hw3] at ho3
  have k1 : w3.cell? ⟨w.heap.size, 1, none⟩ = some (.slice A2 m2 c2) := (Box.cell hx3 1).trans rfl
  have H3 := Lib.hid (And.intro hx3 (And.intro hy3 (And.intro hB3 (And.intro ho3 (And.intro (h2.below hB3) (h3.below hB3))))))
  obtain ⟨s, hs⟩ : ∃ s : ByteArray, sc x = .string s := ⟨_, rfl⟩
  rw [hs]
  have HS := Lib.hid hs
  clear hx1 hx2 hy2 hx3 hy3 hB1 hB2 hB3 ho3 h2 h3 hs
  go_enter Try.func19, Try.ntmps19
  go_upto_region 2 with (first
    | (at_builtin; refine wpList_app 28 3 _ 8 Try.underlying28 intInfo rfl (by omega) w3 _ _ rfl rfl w.heap.size _ 0 [] A2 m2 c2 (ncs l2) rfl rfl H3.out.2.2.2.1 H3.out.2.2.2.2.1 (ncs_one _) (by omega) H3.out.2.2.1.size ?_; intro v4 w4 ho4 hg4; rw [Nat.zero_add, List.nil_append] at ho4; obtain ⟨A4, d4, hv4, _⟩ := own_rd ho4; subst hv4; have H4 := Lib.hid (Grew.mk' H3.out.1 H3.out.2.1 H3.out.2.2.1 H3.out.2.2.2.1 hg4 (by decide) ho4 H3.out.2.2.2.2.2 hN); clear ho4 hg4)
    | (at_builtin; refine wpList_app 28 3 _ 8 Try.underlying28 intInfo rfl (by omega) (w4.alloc (.cells #[.int .i64 (n : Int)] 3)) _ _ rfl rfl w.heap.size _ m2 (ncs l2) (some ⟨w4.heap.size, 0, none⟩) 1 1 [.int .i64 (n : Int)] rfl rfl (H4.out.own.alloc _) (rd_one (Box.made w4 _ _)) (fun u hu => by simp at hu; subst hu; rfl) (by omega) (by have := H4.out.bel.size; simp; omega) ?_; intro v6 w6 ho6 hg6; obtain ⟨A6, d6, hv6, _⟩ := own_rd ho6; subst hv6; have H6 := Lib.hid (Grew.mk' (Box.alloc H4.out.x _) (Box.alloc H4.out.y _) (H4.out.bel.alloc H4.out.bel.size _) (H4.out.own.alloc _) hg6 (by decide) ho6 (H4.out.old.below ((Below.refl _ w4).alloc (Nat.le_refl _) _)) hN); have j1 := H6.out.c1; have j1f := H6.out.f1; clear ho6 hg6))
  obtain ⟨w7, hw7⟩ : ∃ x, w6.setCell ⟨w.heap.size, 1, none⟩ (.slice A6 (m2 + 1) d6) = x := ⟨_, rfl⟩
  rw [hw7]
  obtain ⟨x6, y6, b6, o6, r6⟩ := H6.out
  have hg7 : w6.grownBy w7 (some w.heap.size) := by rw [← hw7]; exact grown_set (grown_refl _ _) 1 _
  have x7 := Box.put x6 1 (.slice A6 (m2 + 1) d6)
  rw [hw7] at x7
  simp only [List.setIfInBounds_toArray, List.set_cons_zero, List.set_cons_succ] at x7
  have y7 := Box.grown y6 hg7 (fun e => by injection e; omega)
  have b7 : Below w.heap.size w6 w7 := (Below.refl _ w6).grown hg7 b6.size (fun k e => by injection e with e; omega)
  have o7 := World.ownsRow.kept o6 hg7 (.inr (Box.apart x6 o6 (by decide)))
  have r7 : Rd w7 N A3 m3 c3 (scs l3) := ⟨r6.1.keep (fun p hp _ => b7.cell (p := p) (hN _ hp)) b7.size, r6.2⟩
  have B7 := b6.trans b7
  obtain ⟨w8, hw8⟩ : ∃ x, w7.alloc (.cells #[] 9) = x := ⟨_, rfl⟩
  have hB8 : Below w7.heap.size w7 w8 := by rw [← hw8]; exact (Below.refl _ w7).alloc (Nat.le_refl _) _
  have x8 := Box.below x7 hB8 x7.lt
  have y8 := Box.below y7 hB8 y7.lt
  have o8 := own_empty w7 9 B7.size
  rw [hw8] at o8
  have i8 := o7.alloc (.cells #[] 9)
  rw [hw8] at i8
  have B8 := B7.trans (hB8.mono B7.size)
  have k2 : w8.cell? ⟨w.heap.size, 2, none⟩ = some (.slice A3 m3 c3) := (Box.cell x8 2).trans rfl
  have H8 := Lib.hid (And.intro x8 (And.intro y8 (And.intro B8 (And.intro o8 (And.intro i8 (r7.below hB8))))))
  clear x6 y6 b6 o6 r6 hg7 x7 y7 b7 o7 r7 B7 hB8 x8 y8 o8 i8 B8 H3 H4 H6 j1 j1f k1 hw7 hw3 hw2 hw1
  go_upto_region 3 with (first
    | (at_builtin; refine wpList_app 27 9 _ 16 Try.underlying27 strInfo rfl (by omega) w8 _ _ rfl rfl w.heap.size _ 0 [] A3 m3 c3 (scs l3) rfl rfl H8.out.2.2.2.1 H8.out.2.2.2.2.2 (scs_one _) (by omega) H8.out.2.2.1.size ?_; intro v9 w9 ho9 hg9; rw [Nat.zero_add, List.nil_append] at ho9; obtain ⟨A9, d9, hv9, _⟩ := own_rd ho9; subst hv9; have I9 := Lib.hid (World.ownsRow.kept H8.out.2.2.2.2.1 hg9 (own_apart H8.out.2.2.2.2.1 H8.out.2.2.2.1 (by decide))); have H9 := Lib.hid (Grew.mk' H8.out.1 H8.out.2.1 H8.out.2.2.1 H8.out.2.2.2.1 hg9 (by decide) ho9 H8.out.2.2.2.2.2 hN); clear ho9 hg9)
    | (at_builtin; refine wpList_app 27 9 _ 16 Try.underlying27 strInfo rfl (by omega) (w9.alloc (.cells #[.string s] 9)) _ _ rfl rfl w.heap.size _ m3 (scs l3) (some ⟨w9.heap.size, 0, none⟩) 1 1 [.string s] rfl rfl (H9.out.own.alloc _) (rd_one (Box.made w9 _ _)) (fun u hu => by simp at hu; subst hu; rfl) (by omega) (by have := H9.out.bel.size; simp; omega) ?_; intro v11 w11 ho11 hg11; obtain ⟨A11, d11, hv11, _⟩ := own_rd ho11; subst hv11; have I11 := Lib.hid (World.ownsRow.kept (I9.out.alloc (.cells #[.string s] 9)) hg11 (own_apart (I9.out.alloc (.cells #[.string s] 9)) (H9.out.own.alloc (.cells #[.string s] 9)) (by decide))); have H11 := Lib.hid (Grew.mk' (Box.alloc H9.out.x _) (Box.alloc H9.out.y _) (H9.out.bel.alloc H9.out.bel.size _) (H9.out.own.alloc _) hg11 (by decide) ho11 (H9.out.old.below ((Below.refl _ w9).alloc (Nat.le_refl _) _)) hN); have j2 := H11.out.c2; have j2f := H11.out.f2; clear ho11 hg11))
  obtain ⟨w12, hw12⟩ : ∃ x, w11.setCell ⟨w.heap.size, 2, none⟩ (.slice A11 (m3 + 1) d11) = x := ⟨_, rfl⟩
  rw [hw12]
  obtain ⟨x11, y11, b11, o11, r11⟩ := H11.out
  have hg12 : w11.grownBy w12 (some w.heap.size) := by rw [← hw12]; exact grown_set (grown_refl _ _) 2 _
  have x12 := Box.put x11 2 (.slice A11 (m3 + 1) d11)
  rw [hw12] at x12
  simp only [List.setIfInBounds_toArray, List.set_cons_zero, List.set_cons_succ] at x12
  have y12 := Box.grown y11 hg12 (fun e => by injection e; omega)
  have b12 := b11.trans ((Below.refl _ w11).grown hg12 b11.size (fun k e => by injection e with e; omega))
  have o12 := World.ownsRow.kept o11 hg12 (.inr (Box.apart x11 o11 (by decide)))
  have i12 := World.ownsRow.kept I11.out hg12 (.inr (Box.apart x11 I11.out (by decide)))
  have hfin : ∀ w13, w12.grownBy w13 (some (w.heap.size + 1)) → Rd w13 (fun k => w.heap.size ≤ k) A6 (m2 + 1) d6 (ncs (l2 ++ [n])) ∧ Rd w13 (fun k => w.heap.size ≤ k) A11 (m3 + 1) d11 (scs (l3 ++ [x])) ∧ Below w.heap.size w w13 := fun w13 hg13 => by
    have o13 := World.ownsRow.kept o12 hg13 (.inr (Box.apart y12 o12 (by decide)))
    have i13 := World.ownsRow.kept i12 hg13 (.inr (Box.apart y12 i12 (by decide)))
    obtain ⟨A, d, hv, hr⟩ := own_rd o13
    injection hv with e1 e2 e3
    subst e1 e3
    obtain ⟨A', d', hv', hr'⟩ := own_rd i13
    injection hv' with e1' e2' e3'
    subst e1' e3'
    refine ⟨?_, ?_, b12.trans ((Below.refl _ w12).grown hg13 b12.size (fun k e => by injection e with e; omega))⟩
    · have : ncs (l2 ++ [n]) = ncs l2 ++ [.int .i64 (n : Int)] := by simp [ncs]
      rw [this]
      exact hr'
    · have : scs (l3 ++ [x]) = scs l3 ++ [.string s] := by rw [← HS.out]; simp [scs]
      rw [this]
      exact hr
  have HF := Lib.hid hfin
  have HX := Lib.hid (And.intro x12 y12)
  clear hfin x11 y11 b11 o11 r11 hg12 x12 y12 b12 o12 i12 H11 H9 H8 I9 I11 j2 j2f k2 hw12 hw8
  obtain ⟨cs, hcs⟩ : ∃ cs : List Value, cs = [.slice A1 n1 c1, .slice A6 (m2 + 1) d6, .slice A11 (m3 + 1) d11, .int .i64 arm, .bool down, .int .i64 ops] := ⟨_, rfl⟩
  have hX : Box w12 w.heap.size 30 cs.toArray := by rw [hcs]; exact HX.out.1
  have hY := HX.out.2
  have hcl : cs.length = 6 := by rw [hcs]; rfl
  have hc1 : cs.toArray.all (·.oneCell') = true := by rw [hcs]; simp [Value.oneCell']
  obtain ⟨wz, hwz⟩ : ∃ x, w12.setRow (w.heap.size + 1) cs.toArray = x := ⟨_, rfl⟩
  have hYz : Box wz (w.heap.size + 1) 30 cs.toArray := by rw [← hwz]; exact setRow_heap _ _ _ _ _ _ hY
  have hgz : w12.grownBy wz (some (w.heap.size + 1)) := by rw [← hwz]; exact grown_row (grown_refl _ _) _
  have HZ := Lib.hid (And.intro hX (And.intro hY (And.intro hwz (And.intro hYz (And.intro hcs hgz)))))
  clear hX hY hwz hYz hcs hgz
  go_wp2_with (first
    | (refine wpList_load_mid rfl 30 _ rfl w.heap.size 0 rfl cs _ (range_box HZ.out.1) Try.underlying30 rfl (by rw [hcl]; kernel_rfl) ?_)
    | (refine wpList_store_row rfl 30 _ _ rfl (w.heap.size + 1) cs.toArray rfl rfl 30 _ HZ.out.2.1 (by simp only [List.size_toArray, hcl]; kernel_rfl) (by simp [hcl]) hc1 ?_; rw [HZ.out.2.2.1]))
  obtain ⟨_, _, _, hYz, hcs, hgz⟩ := HZ.out
  have r0 := fun i => Box.cell hYz i
  rw [hcs] at r0
  have q0 := r0 0
  have q1 := r0 1
  have q2 := r0 2
  have q3 := r0 3
  have q4 := r0 4
  have q5 := r0 5
  simp only [List.getElem?_toArray, List.getElem?_cons_zero, List.getElem?_cons_succ] at q0 q1 q2 q3 q4 q5
  exact bodyPost_ret (v := .agg #[.slice A1 n1 c1, .slice A6 (m2 + 1) d6, .slice A11 (m3 + 1) d11, .int .i64 arm, .bool down, .int .i64 ops]) (by simp [results, Try.results19, go_sem, q0, q1, q2, q3, q4, q5]) rfl ⟨_, _, _, _, rfl, HF.out wz hgz⟩
end Go.Proofs.Ytemgphpgfdnkeaa
