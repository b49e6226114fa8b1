/-
  Join: the first bytes of shards, one behind the other.
-/
import Derived.Test.YtpbkabgjpieggaaCutS
namespace Go.Proofs.Ytpbkabgjpieggaa
open Go.RowKit

/-- So many bytes: the first ones of f, and bytes 0 behind. -/
def joinTo (many : Nat) (f : List UInt8) : List UInt8 := f.take many ++ List.replicate (many - f.length) 0
theorem joinTo_length (many : Nat) (f : List UInt8) : (joinTo many f).length = many := by simp [joinTo]; omega
theorem joinTo_full {many : Nat} {f : List UInt8} (h : many ≤ f.length) : joinTo many f = f.take many := by
  rw [joinTo, show many - f.length = 0 by omega]; simp
theorem joinTo_step {many o t mm : Nat} {f x : List UInt8} (ht : many - f.length = t) (hm : min x.length t = mm) (ho : t = 0 ∨ o + t = many) : patched (joinTo many f) x o mm = joinTo many (f ++ x) := by
  rcases Nat.eq_zero_or_pos t with h0 | h0
  · subst h0
    obtain rfl : mm = 0 := by omega
    rw [joinTo_full (by omega), joinTo_full (by rw [List.length_append]; omega), patched, List.take_zero, List.append_nil, Nat.add_zero, List.take_append_drop, List.take_append_of_le_length (by omega)]
  · have ho' : o = f.length := by omega
    subst ho'
    have h1 : joinTo many f = f ++ List.replicate t 0 := by rw [joinTo, List.take_of_length_le (by omega), ht]
    rw [patched, h1, List.take_left, List.drop_append, List.drop_of_length_le (by omega), List.nil_append, List.drop_replicate, show f.length + mm - f.length = mm by omega]
    rw [joinTo, List.take_append, List.take_of_length_le (show f.length ≤ many by omega), ht, List.length_append]
    rcases Nat.le_total x.length t with h2 | h2
    · obtain rfl : mm = x.length := by omega
      rw [List.take_of_length_le (Nat.le_refl _), List.take_of_length_le h2, show many - (f.length + x.length) = t - x.length by omega]
    · obtain rfl : mm = t := by omega
      rw [show many - (f.length + x.length) = 0 by omega, Nat.sub_self]
theorem flat_succ {M : List (List UInt8)} {j : Nat} {r : List UInt8} (h : M[j]? = some r) : (M.take (j + 1)).flatten = (M.take j).flatten ++ r := by
  rw [List.take_add_one, h]
  simp
theorem cut_at (g o t mm many : Nat) (hm : mm ≤ t) (ho : t = 0 ∨ o + t = many) (hl : o ≤ many) : ∃ o', cutA (some ⟨g, o, none⟩) t mm = some ⟨g, o', none⟩ ∧ (t - mm = 0 ∨ o' + (t - mm) = many) ∧ o' ≤ many := by
  unfold cutA
  by_cases h : t = mm
  · rw [if_pos h]
    exact ⟨o, rfl, .inl (by omega), hl⟩
  · rw [if_neg h]
    exact ⟨o + mm, by simp [Addr.add], .inr (by omega), by omega⟩
theorem join_neg (w : World) (v : Value) (many : Int) (h : many < 0) : Calls Try.prog 18 #[v, .int .i64 many] w fun e w' => e = .returned (.tuple #[.slice none 0 0, .int .i64 2]) ∧ w' = w := by
  go_enter Try.func18, Try.ntmps18
  go_wp2
  go_ret2
  exact ⟨rfl, rfl⟩
/-- The bytes are handed back in new memory; or that there are too few. -/
def GivesJ (w : World) (many : Nat) (f : List UInt8) (e : Ending) (w' : World) : Prop :=
  if f.length < many then e = .returned (.tuple #[.slice none 0 0, .int .i64 10]) ∧ w' = w
  else ∃ A c, e = .returned (.tuple #[.slice A many c, .int .i64 0]) ∧ Lies w' (fun b => w.heap.size ≤ b) A many c (bc (f.take many)) ∧ Below w.heap.size w w'
set_option maxRecDepth 100000 in
set_option maxHeartbeats 4000000 in
theorem joins_says (w : World) (A : Option Addr) (n c : Nat) (M : List (List UInt8)) (hM : Mtx w A n c M) (hn : n ≤ 2000) (hrow : ∀ r ∈ M, r.length ≤ 100000) (hf : M.flatten.length ≤ 1000000) (many : Nat) (hmany : (many : Int) ≤ 9223372036854775807) :
    Calls Try.prog 18 #[.slice A n c, .int .i64 (many : Int)] w (GivesJ w many M.flatten) := by
  have hl := hM.len
  obtain ⟨i0, hi0, hz0, hz1, hz2⟩ := info_parts Try.byteInfo
  have HM := Lib.hid hM
  have HR := Lib.hid hrow
  have m0 : ¬ (many : Int) < 0 := by omega
  have HFL := Lib.hid hf
  clear hM hrow hf
  go_enter Try.func18, Try.ntmps18
  go_wp2_with fail
  go_loopw [6, 8, 18] (fun lv _ i wr => ∃ (j t : Nat), j ≤ n ∧ i = .int .i64 (j : Int) ∧ lv = .int .i64 (t : Int) ∧ Hid (many - (M.take j).flatten.length = t ∧ wr = w)) (fun _ _ i _ => n - (intOf i).toNat)
  case atStart => exact ⟨0, many, by omega, rfl, rfl, Lib.hid ⟨by simp, rfl⟩⟩
  case round =>
    obtain ⟨j, t, hj, rfl, rfl, H⟩ := hrel
    obtain rfl : w = wr := H.out.2.symm
    have ht := H.out.1
    have htm : (t : Int) ≤ (many : Int) := by omega
    have HT := Lib.hid ht
    clear H ht
    by_cases hlt : j < n
    · have l1 : (j : Int) < (n : Int) := by omega
      obtain ⟨r, hrj⟩ : ∃ r, M[j]? = some r := ⟨_, List.getElem?_eq_getElem (by omega)⟩
      obtain ⟨b, off, Aj, cj, rfl, hb, hc, _⟩ := HM.out.row hrj
      have hfs := flat_succ hrj
      obtain ⟨nr, hnr⟩ : ∃ x, r.length = x := ⟨_, rfl⟩
      rw [hnr] at hc
      have HNS := Lib.hid (show many - (M.take (j + 1)).flatten.length = t - nr from by rw [hfs, List.length_append, hnr]; have := HT.out; omega)
      clear hrj hfs hnr
      by_cases c1 : nr < t
      · have c1' : (nr : Int) < (t : Int) := by omega
        have s1 : (t : Int) - (nr : Int) = ((t - nr : Nat) : Int) := by omega
        have s2 : IntKind.i64.wrap ((t - nr : Nat) : Int) = ((t - nr : Nat) : Int) := IntWalk.i64_in _ (by omega)
        obtain ⟨d, hd⟩ : ∃ x, t - nr = x := ⟨_, rfl⟩
        rw [hd] at s1 s2 HNS
        clear hd
        go_wp2
        go_roundw
        case rel => exact ⟨j + 1, d, by omega, by go_num, congrArg (Value.int .i64) (by omega), Lib.hid ⟨HNS.out, trivial⟩⟩
        case measure => simp [intOf]; omega
      · have c1' : ¬ (nr : Int) < (t : Int) := by omega
        have s1 : (t : Int) - (t : Int) = 0 := by omega
        go_wp2
        go_roundw
        case rel => exact ⟨j + 1, 0, by omega, by go_num, congrArg (Value.int .i64) (by omega), Lib.hid ⟨by rw [HNS.out]; omega, trivial⟩⟩
        case measure => simp [intOf]; omega
    · obtain rfl : j = n := by omega
      have l1 : ¬ (j : Int) < (j : Int) := by omega
      have ht : many - M.flatten.length = t := by rw [← List.take_of_length_le (l := M) (i := j) (by omega)]; exact HT.out
      by_cases c1 : 0 < t
      · have c1' : (0 : Int) < (t : Int) := by omega
        have F := Lib.hid (show M.flatten.length < many from by omega)
        clear ht HT
        go_wp2
        go_ret2
        unfold GivesJ
        rw [if_pos F.out]
        exact ⟨rfl, rfl⟩
      · have c1' : ¬ (0 : Int) < (t : Int) := by omega
        have F := Lib.hid (show ¬ M.flatten.length < many from by omega)
        have hmf : many ≤ 1000000 := by have := HFL.out; omega
        clear ht HT
        go_wp2_with (at_make; refine wpList_make_full w rfl _ _ 31 rfl w.heap.size 5 i0 _ 1 Try.underlying31 hi0 hz0 hz1 _ _ _ _ many rfl rfl rfl rfl (by rw [hz2]; omega) (by unfold maxLen; omega) (Nat.le_refl _) ?_; intro w4 hown4 hg4; rw [zero_made] at hown4; have HX4 := Lib.hid (And.intro (box_own hown4) ((Below.refl w.heap.size w).grown hg4 (Nat.le_refl _) (fun k hk => by cases hk))); clear hown4 hg4)
        have HG := Lib.hid (Nat.le_refl w.heap.size)
        generalize hge : w.heap.size = g at HX4
        have HGE := Lib.hid hge
        go_loopw [10, 12, 36] (fun rv _ i wr => ∃ (k t o : Nat), k ≤ j ∧ i = .int .i64 (k : Int) ∧ rv = .slice (some ⟨g, o, none⟩) t t ∧ Hid (many - (M.take k).flatten.length = t ∧ (t = 0 ∨ o + t = many) ∧ o ≤ many ∧ Box wr g 5 (bc (joinTo many (M.take k).flatten)).toArray ∧ Below g w wr)) (fun _ _ i _ => j - (intOf i).toNat)
        case atStart => exact ⟨0, many, 0, by omega, rfl, rfl, Lib.hid ⟨by simp, .inr (by omega), by omega, by have h4 := HX4.out.1; simpa [joinTo] using h4, HX4.out.2⟩⟩
        case round =>
          obtain ⟨k, t, o, hk, rfl, rfl, H⟩ := hrel
          by_cases hlt2 : k < j
          · have l2 : (k : Int) < (j : Int) := by omega
            obtain ⟨h1, h2, h3, h4, h5⟩ := H.out
            obtain ⟨r, hrj⟩ : ∃ r, M[k]? = some r := ⟨_, List.getElem?_eq_getElem (by omega)⟩
            obtain ⟨b, off, Aj, cj, rfl, hb, hc, hlj⟩ := HM.out.row hrj
            have hfs := flat_succ hrj
            obtain ⟨nr, hnr⟩ : ∃ x, r.length = x := ⟨_, rfl⟩
            rw [hnr] at hc hlj
            have hc' : wr.cell? ⟨b, off + k, none⟩ = some (.slice Aj nr cj) := (h5.cell (p := ⟨b, off + k, none⟩) (by rw [← hge]; exact hb)).trans hc
            obtain ⟨mm, hmm⟩ : ∃ x, min nr t = x := ⟨_, rfl⟩
            have hmt : mm ≤ t := by omega
            obtain ⟨o', e1, e2, e3⟩ := cut_at g o t mm many hmt h2 h3
            have hs1 := fun W => sliceAt_from (P := Try.prog) Try.underlying31 byteInfo1 .i64 (some ⟨g, o, none⟩) t t mm hmt W
            rw [e1] at hs1
            have HST := Lib.hid (joinTo_step (x := r) (mm := mm) (o := o) h1 (by rw [hnr]; exact hmm) h2)
            have HFS := Lib.hid hfs
            have HLJ := Lib.hid ((hlj.weak (N' := fun y => y < g) (fun y hy _ => by rw [← hge]; exact hy)).keep (w' := wr) (fun p hp _ => h5.cell hp) h5.size)
            have HBX := Lib.hid h4
            have HBW := Lib.hid h5
            have HFT := Lib.hid (show o + t ≤ (joinTo many (M.take k).flatten).length from by rw [joinTo_length]; omega)
            have HT' := Lib.hid (show many - ((M.take k).flatten ++ r).length = t - mm from by rw [List.length_append, hnr]; omega)
            have HMM := Lib.hid hmm
            obtain ⟨tm, htm⟩ : ∃ x, t - mm = x := ⟨_, rfl⟩
            rw [htm] at hs1 HT' e2
            have HE2 := Lib.hid e2
            clear hrj hfs hnr hlj hc h1 h2 h4 h5 H hmm e1 htm e2
            go_wp2_with (refine wpList_copy_any rfl _ _ rfl g o t t nr cj Aj rfl rfl (joinTo many (M.take k).flatten) HBX.out _ r HLJ.out HFT.out ?_; intro w6 hx6 hg6; rw [HMM.out] at hx6 ⊢; have HX6 := Lib.hid (And.intro hx6 hg6); clear hx6 hg6)
            go_roundw
            case rel =>
              refine ⟨k + 1, tm, o', by omega, by go_num, rfl, Lib.hid ⟨by rw [HFS.out]; exact HT'.out, HE2.out, e3, by rw [HFS.out, ← HST.out]; exact HX6.out.1, HBW.out.grown HX6.out.2 (by have h1 := HBW.out.size; have h2 := HGE.out; omega) (fun y hy => by injection hy with hy; omega)⟩⟩
            case measure => simp [intOf]; omega
          · obtain rfl : k = j := by omega
            have l2 : ¬ (k : Int) < (k : Int) := by omega
            obtain ⟨h1, h2, h3, h4, h5⟩ := H.out
            have HBX := Lib.hid (show Box wr g 5 (bc (M.flatten.take many)).toArray from by rw [List.take_of_length_le (l := M) (i := k) (by omega), joinTo_full (by have := F.out; omega)] at h4; exact h4)
            have HBW := Lib.hid h5
            have HTL := Lib.hid (show (M.flatten.take many).length = many from by rw [List.length_take]; have := F.out; omega)
            clear h1 h2 h4 h5 H
            go_wp2
            go_ret2
            unfold GivesJ
            rw [if_neg F.out]
            refine ⟨_, _, rfl, ?_, by rw [HGE.out]; exact HBW.out⟩
            exact lies_box HBX.out (by rw [HGE.out]; exact Nat.le_refl _) HTL.out
end Go.Proofs.Ytpbkabgjpieggaa
