/-
  places: where shards are missing, and where they are there.
-/
import Derived.Test.YtpbkabgjpieggaaEncode
namespace Go.Proofs.Ytpbkabgjpieggaa
open Go.RowKit

/-- Numbers of rows as whole numbers. -/
def intsN (l : List Nat) : List Int := l.map (fun (p : Nat) => (p : Int))
/-- A row of whole numbers of the call's own. -/
def OwnN (w : World) (base : Nat) (v : Value) (l : List Nat) : Prop := w.ownsRow base 3 1 v l.length (ics (intsN l))
theorem intInfo : (Try.prog.info? 3).map (fun i => (i.zero, i.size, i.bytes)) = some (some (.int .i64 0), 1, 8) := by kernel_rfl
theorem ownN_len {w : World} {base : Nat} {v : Value} {l : List Nat} (h : OwnN w base v l) : ∃ A c, v = .slice A l.length c ∧ Lies w (fun _ => True) A l.length c (ics (intsN l)) := by
  have hlt := World.ownsRow.lt h
  have hic : (ics (intsN l)).length = l.length := by simp [ics, intsN]
  rcases h.2 with ⟨hv, hn⟩ | ⟨g, cap, cur, hv, _, hh, hnc, _⟩
  · have hl : l = [] := List.eq_nil_of_length_eq_zero hn
    subst hl
    exact ⟨none, 0, hv, Lies.nil _ _⟩
  · subst hv
    exact ⟨_, cap, rfl, hic, hnc, fun _ => ⟨⟨g, 0, none⟩, rfl, trivial, (hlt g rfl).2, fun j u hu => World.ownsRow.cells h (g := g) rfl j u hu⟩⟩
/-- 'append(l, p)', at the operation. -/
theorem wpList_int {ops : Array Oper} {rest : List Oper} {o : Oper} {a : Act} {Q : Exit → Act → World → Prop} (w : World) (s x : Operand) (hgd : o.guard = none)
    (hop : o.op = .call { callee := .builtin .append, args := #[s, x], argTypes := #[44, 44] })
    (base : Nat) (v : Value) (l : List Nat) (p : Nat) (hs : a.eval s = v) (hx : a.eval x = .slice (some ⟨w.heap.size, 0, none⟩) 1 1) (hown : OwnN w base v l) (hz : l.length ≤ 1000) (hb : base ≤ w.heap.size)
    (K : ∀ v' w', OwnN w' base v' (l ++ [p]) → w.grownBy w' v.ownBlock → wpList Try.prog ops Q rest (a.put o.dst v') w') : wpList Try.prog ops Q (o :: rest) a (w.alloc (.cells #[.int .i64 (p : Int)] 3)) := by
  obtain ⟨i0, hi, hz0, hz1, hz2⟩ := info_parts intInfo
  have hb0 : Below w.heap.size w (w.alloc (.cells #[.int .i64 (p : Int)] 3)) := (Below.refl _ w).alloc (Nat.le_refl _) _
  have h1 : (w.alloc (.cells #[.int .i64 (p : Int)] 3)).ownsRow base 3 1 v l.length (ics (intsN l)) := World.ownsRow.kept hown (grown_of_below hb0 none) (by cases hv : v.ownBlock <;> simp)
  refine wpList_append_own _ hgd s x 44 hop base 3 i0 (.int .i64 0) 1 8 Try.underlying44 hi hz0 hz1 hz2 rfl (by decide) v l.length _ hs h1 ⟨w.heap.size, 0, none⟩ 1 1 [.int .i64 (p : Int)] hx rfl
    (cell_one_new w _ _) (by simp [Value.oneCell']) (by unfold maxLen; omega) (by omega) (by simp; omega) ?_
  intro v' w' r1 r2 _
  refine K v' w' ?_ ?_
  · unfold OwnN
    rw [List.length_append]
    have : ics (intsN (l ++ [p])) = ics (intsN l) ++ [.int .i64 (p : Int)] := by simp [ics, intsN]
    rw [this]
    exact r1
  · exact ⟨r2.os, r2.tape, r2.output, Nat.le_trans (by simp) r2.size, fun k hk hne => (r2.block k (by simp; omega) hne).trans (hb0.block k hk)⟩


theorem ownN_lo {w : World} {base : Nat} {v : Value} {l : List Nat} (h : OwnN w base v l) : ∃ A c, v = .slice A l.length c ∧ Lies w (fun b => base ≤ b) A l.length c (ics (intsN l)) := by
  have hlt := World.ownsRow.lt h
  have hic : (ics (intsN l)).length = l.length := by simp [ics, intsN]
  rcases h.2 with ⟨hv, hn⟩ | ⟨g, cap, cur, hv, hb, hh, hnc, _⟩
  · have hl : l = [] := List.eq_nil_of_length_eq_zero hn
    subst hl
    exact ⟨none, 0, hv, Lies.nil _ _⟩
  · subst hv
    exact ⟨_, cap, rfl, hic, hnc, fun _ => ⟨⟨g, 0, none⟩, rfl, hb, (hlt g rfl).2, fun j u hu => World.ownsRow.cells h (g := g) rfl j u hu⟩⟩
/-- Those of the first k places that are missing (b), or there. -/
def placesTo (S : List (Option (List UInt8))) (b : Bool) (k : Nat) : List Nat := (List.range k).filter (fun i => (S.getD i none).isNone == b)
theorem placesTo_succ (S : List (Option (List UInt8))) (b : Bool) (k : Nat) : placesTo S b (k + 1) = placesTo S b k ++ (if (S.getD k none).isNone == b then [k] else []) := by
  unfold placesTo
  rw [List.range_succ, List.filter_append]
  congr 1
  rw [List.filter_cons]
  rfl
theorem placesTo_mem {S : List (Option (List UInt8))} {b : Bool} {k x : Nat} : x ∈ placesTo S b k ↔ x < k ∧ (S.getD x none).isNone = b := by
  simp [placesTo]
theorem placesTo_le (S : List (Option (List UInt8))) (b : Bool) (k : Nat) : (placesTo S b k).length ≤ k := by
  have := List.length_filter_le (fun i => (S.getD i none).isNone == b) (List.range k)
  simpa [placesTo] using this
/-- Numbers of the call's own; nil, if there are none. -/
def OwnM (w : World) (base : Nat) (v : Value) (l : List Nat) : Prop := OwnN w base v l ∧ (l = [] → v = .slice none 0 0)
theorem OwnM.below {w w' : World} {base : Nat} {v : Value} {l : List Nat} (h : OwnM w base v l) (hb : Below w.heap.size w w') : OwnM w' base v l :=
  ⟨World.ownsRow.kept h.1 (grown_of_below hb none) (by cases hv : v.ownBlock <;> simp), h.2⟩
theorem OwnM.nil (w : World) (base : Nat) : OwnM w base (.slice none 0 0) [] := ⟨World.ownsRow_nil w base _ 1, fun _ => rfl⟩
theorem OwnM.first {w : World} {base : Nat} {v : Value} {x : Nat} {l : List Nat} (h : OwnM w base v (x :: l)) : ∃ g, v.ownBlock = some g ∧ w.cell? ⟨g, 0, none⟩ = some (.int .i64 (x : Int)) := by
  rcases h.1.2 with ⟨_, hn⟩ | ⟨g, cap, cur, hv, _⟩
  · simp at hn
  · have hc := World.ownsRow.cells h.1 (g := g) (by rw [hv]; rfl) 0 (.int .i64 (x : Int)) (by simp [ics, intsN])
    exact ⟨g, by rw [hv]; rfl, hc⟩
/-- What is appended to one leaves the other one. -/
theorem OwnM.other {w w' : World} {base : Nat} {v v' : Value} {l l' : List Nat} (h : OwnM w base v l) (h' : OwnM w base v' l') (hd : ∀ x ∈ l, x ∉ l') (hg : w.grownBy w' v.ownBlock) : OwnM w' base v' l' := by
  refine ⟨World.ownsRow.kept h'.1 hg ?_, h'.2⟩
  cases l' with
  | nil => rw [h'.2 rfl]; exact .inl rfl
  | cons y t =>
    obtain ⟨g', e1, e2⟩ := h'.first
    right
    cases l with
    | nil => rw [h.2 rfl, e1]; intro e; cases e
    | cons x s =>
      obtain ⟨g, e3, e4⟩ := h.first
      rw [e1, e3]
      intro e
      injection e with e
      subst e
      rw [e2] at e4
      injection e4 with e4
      injection e4 with _ e4
      exact hd x (List.mem_cons_self ..) (by rw [show x = y by omega]; exact List.mem_cons_self ..)
/-- Where shards are missing, and where they are there, is handed back. -/
def GivesP (w : World) (S : List (Option (List UInt8))) (e : Ending) (w' : World) : Prop :=
  ∃ A1 c1 A2 c2, e = .returned (.tuple #[.slice A1 (placesTo S true S.length).length c1, .slice A2 (placesTo S false S.length).length c2]) ∧ Lies w' (fun b => w.heap.size ≤ b) A1 (placesTo S true S.length).length c1 (ics (intsN (placesTo S true S.length))) ∧ Lies w' (fun b => w.heap.size ≤ b) A2 (placesTo S false S.length).length c2 (ics (intsN (placesTo S false S.length))) ∧ Below w.heap.size w w'
set_option maxRecDepth 100000 in
set_option maxHeartbeats 2000000 in
theorem places_says (w : World) (A : Option Addr) (n c : Nat) (S : List (Option (List UInt8))) (h : Shd w A n c S) (hn : n ≤ 500) : Calls Try.prog 42 #[.slice A n c] w (GivesP w S) := by
  have hl := h.len
  have HS := Lib.hid h
  clear h
  go_enter Try.func42, Try.ntmps42
  go_wp2_with fail
  go_loopw [2, 3, 4, 5, 8] (fun gv tv _ _ i wr => ∃ k : Nat, k ≤ n ∧ i = .int .i64 (k : Int) ∧ Hid (OwnM wr w.heap.size gv (placesTo S true k) ∧ OwnM wr w.heap.size tv (placesTo S false k) ∧ Below w.heap.size w wr)) (fun _ _ _ _ i _ => n - (intOf i).toNat)
  case atStart => exact ⟨0, by omega, rfl, Lib.hid ⟨OwnM.nil _ _, OwnM.nil _ _, Below.refl _ _⟩⟩
  case round =>
    obtain ⟨k, hk, rfl, H⟩ := hrel
    by_cases hlt : k < n
    · have l1 : (k : Int) < (n : Int) := by omega
      obtain ⟨s, hs⟩ : ∃ s, S[k]? = some s := ⟨_, List.getElem?_eq_getElem (by omega)⟩
      obtain ⟨b, off, v, rfl, hb, hc, hr⟩ := HS.out.row hs
      obtain ⟨Ai, ci, rfl, _, hni, hcz⟩ := hr.lies
      obtain ⟨ni, hnn⟩ : ∃ t, (s.getD []).length = t := ⟨_, rfl⟩
      rw [hnn] at hc
      have hck : wr.cell? ⟨b, off + k, none⟩ = some (.slice Ai ni ci) := (H.out.2.2.cell (p := ⟨b, off + k, none⟩) hb).trans hc
      have HG := Lib.hid (show (S.getD k none).isNone = Ai.isNone from by rw [List.getD_eq_getElem?_getD, hs]; exact hni.symm)
      have HLE1 := placesTo_le S true k
      have HLE2 := placesTo_le S false k
      have HD := Lib.hid (show ∀ x ∈ placesTo S true k, x ∉ placesTo S false k from fun x h1 h2 => by rw [placesTo_mem] at h1 h2; rw [h1.2] at h2; cases h2.2)
      clear hs hc hr hni hnn
      cases Ai with
      | none =>
        obtain rfl := hcz rfl
        clear hcz
        have HP := Lib.hid (show placesTo S true (k + 1) = placesTo S true k ++ [k] ∧ placesTo S false (k + 1) = placesTo S false k from by rw [placesTo_succ, placesTo_succ, HG.out]; simp)
        go_wp2_with (first
          | (go_at_call 22; refine (missing_says none ni 0 _).mono ?_; rintro e wn ⟨rfl, hwn⟩; obtain rfl : wr = wn := hwn.symm)
          | (at_builtin; refine wpList_int wr _ _ rfl rfl w.heap.size u2 (placesTo S true k) k rfl rfl H.out.1.1 (by omega) H.out.2.2.size ?_; intro v9 w9 ho9 hg9; have HO9 := Lib.hid (And.intro ho9 hg9); clear ho9 hg9))
        go_roundw
        case rel =>
          refine ⟨k + 1, by omega, by go_num, Lib.hid ?_⟩
          rw [HP.out.1, HP.out.2]
          refine ⟨⟨HO9.out.1, fun e => by simp at e⟩, H.out.1.other H.out.2.1 HD.out HO9.out.2, H.out.2.2.grown HO9.out.2 H.out.2.2.size (fun j hj => (World.ownsRow.lt H.out.1.1 j hj).1)⟩
        case measure => simp [intOf]; omega
      | some ad =>
        clear hcz
        have HP := Lib.hid (show placesTo S true (k + 1) = placesTo S true k ∧ placesTo S false (k + 1) = placesTo S false k ++ [k] from by rw [placesTo_succ, placesTo_succ, HG.out]; simp)
        go_wp2_with (first
          | (go_at_call 22; refine (missing_says (some ad) ni ci _).mono ?_; rintro e wn ⟨rfl, hwn⟩; obtain rfl : wr = wn := hwn.symm)
          | (at_builtin; refine wpList_int wr _ _ rfl rfl w.heap.size u3 (placesTo S false k) k rfl rfl H.out.2.1.1 (by omega) H.out.2.2.size ?_; intro v9 w9 ho9 hg9; have HO9 := Lib.hid (And.intro ho9 hg9); clear ho9 hg9))
        go_roundw
        case rel =>
          refine ⟨k + 1, by omega, by go_num, Lib.hid ?_⟩
          rw [HP.out.1, HP.out.2]
          refine ⟨H.out.2.1.other H.out.1 (fun x h1 h2 => HD.out x h2 h1) HO9.out.2, ⟨HO9.out.1, fun e => by simp at e⟩, H.out.2.2.grown HO9.out.2 H.out.2.2.size (fun j hj => (World.ownsRow.lt H.out.2.1.1 j hj).1)⟩
        case measure => simp [intOf]; omega
    · obtain rfl : k = n := by omega
      have l1 : ¬ (k : Int) < (k : Int) := by omega
      obtain ⟨A1, c1, e1, hl1⟩ := ownN_lo H.out.1.1
      obtain ⟨A2, c2, e2, hl2⟩ := ownN_lo H.out.2.1.1
      have HR := Lib.hid (And.intro hl1 (And.intro hl2 H.out.2.2))
      have HL := Lib.hid hl
      subst e1 e2
      clear H hl1 hl2 hl
      go_wp2
      go_ret2
      refine ⟨A1, c1, A2, c2, ?_, ?_, ?_, HR.out.2.2⟩
      · rw [HL.out]; rfl
      · rw [HL.out]; exact HR.out.1
      · rw [HL.out]; exact HR.out.2.1
end Go.Proofs.Ytpbkabgjpieggaa
