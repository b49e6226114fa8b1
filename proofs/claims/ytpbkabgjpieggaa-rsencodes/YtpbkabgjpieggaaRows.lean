/-
  No cell of these rows narrows 'for every input' (looked for: loops, veiled, ifaces, maps, wideKeys, modest, calm, conditions, laid).
  DERIVED. THE GIVEN ROWS OF THIS SEAT. 5 by the template 'for every input the law returns true; each argument reads behind the call as it read before'; 0 by the template 'total and deterministic' (their statements: YtpbkabgjpieggaaTotals.lean).
  GIVEN WITH THE SEED: the statements are not yours to turn. If you find one false, say at which input.
  Laid BY PROGRAM, IN A SANDBOX (cutbox-rows.mjs): the forced cells as the released guide's own fill.sh prints them over the translation 66b2e04c0404ee76… (all of the seat's roots in one cut). By AI agents, Wed Nov 11 2026. No macro, syntax, notation, axiom, sorry.
-/
import Derived.Test.YtpbkabgjpieggaaChecked
import GoSem.Claim
import GoSem.ClaimJoined
import GoSem.ClaimMapViews
import Derived.JoinedTies
import Derived.KernelRfl
namespace Go.Proofs.Ytpbkabgjpieggaa
/- THE CELL 'sum', in the pinned program and in every row, IS THE sha256 OF THE DUMP (.gsa) THAT YtpbkabgjpieggaaProg.lean LOADS. Nothing in Lean hashes anything: it is a label: what it is worth is what the hold of that sum in a sandbox is worth. -/
noncomputable def Try.pinned : Pinned := { name := "ytpbkabgjpieggaa", sum := "66b2e04c0404ee767bacdc2e82971aa1e199f282709c1adf8c3e069774335fe5", checked := Try.checked }
namespace Rows
def none {H : Type} : Left H := { results := [], args := [] }

/-- 'saddlebaglaw06.RsEncodes': WHATEVER THE INPUT: true; the input reads as it did. -/
def rsEncodesSpec : ChangeSpec := { name := "rsEncodes", fn := fun _ => fun
  | [d1, d2, d3] => { results := [.lit (.bool true)], args := [d1, d2, d3] }
  | _ => none }
def rsEncodesRow : OpenClaim := { program := "ytpbkabgjpieggaa", sum := "66b2e04c0404ee767bacdc2e82971aa1e199f282709c1adf8c3e069774335fe5", func := "saddlebag/saddlebaglaw06.RsEncodes", spec := "rsEncodes", unfollowed := true, recurses := true, apart := false }
def RsEncodesSaid : Prop := rsEncodesRow.holds Try.pinned (OpenSpec.ofChange rsEncodesSpec)

/-- ITS FALSE NEIGHBOUR: 'it returns false'. Refute it at one input. -/
def rsEncodesWrong : ChangeSpec := { name := "rsEncodes", fn := fun _ => fun
  | [d1, d2, d3] => { results := [.lit (.bool false)], args := [d1, d2, d3] }
  | _ => none }
def RsEncodesWrongFalsely : Prop := rsEncodesRow.holds Try.pinned (OpenSpec.ofChange rsEncodesWrong)

/-- 'saddlebaglaw06.RsCuts': WHATEVER THE INPUT: true; the input reads as it did. -/
def rsCutsSpec : ChangeSpec := { name := "rsCuts", fn := fun _ => fun
  | [d1, d2, d3] => { results := [.lit (.bool true)], args := [d1, d2, d3] }
  | _ => none }
def rsCutsRow : OpenClaim := { program := "ytpbkabgjpieggaa", sum := "66b2e04c0404ee767bacdc2e82971aa1e199f282709c1adf8c3e069774335fe5", func := "saddlebag/saddlebaglaw06.RsCuts", spec := "rsCuts", unfollowed := true, recurses := true, apart := false }
def RsCutsSaid : Prop := rsCutsRow.holds Try.pinned (OpenSpec.ofChange rsCutsSpec)

/-- ITS FALSE NEIGHBOUR: 'it returns false'. Refute it at one input. -/
def rsCutsWrong : ChangeSpec := { name := "rsCuts", fn := fun _ => fun
  | [d1, d2, d3] => { results := [.lit (.bool false)], args := [d1, d2, d3] }
  | _ => none }
def RsCutsWrongFalsely : Prop := rsCutsRow.holds Try.pinned (OpenSpec.ofChange rsCutsWrong)

/-- 'saddlebaglaw06.RsBack': WHATEVER THE INPUT: true; the input reads as it did. -/
def rsBackSpec : ChangeSpec := { name := "rsBack", fn := fun _ => fun
  | [d1, d2, d3] => { results := [.lit (.bool true)], args := [d1, d2, d3] }
  | _ => none }
def rsBackRow : OpenClaim := { program := "ytpbkabgjpieggaa", sum := "66b2e04c0404ee767bacdc2e82971aa1e199f282709c1adf8c3e069774335fe5", func := "saddlebag/saddlebaglaw06.RsBack", spec := "rsBack", unfollowed := true, recurses := true, apart := false }
def RsBackSaid : Prop := rsBackRow.holds Try.pinned (OpenSpec.ofChange rsBackSpec)

/-- ITS FALSE NEIGHBOUR: 'it returns false'. Refute it at one input. -/
def rsBackWrong : ChangeSpec := { name := "rsBack", fn := fun _ => fun
  | [d1, d2, d3] => { results := [.lit (.bool false)], args := [d1, d2, d3] }
  | _ => none }
def RsBackWrongFalsely : Prop := rsBackRow.holds Try.pinned (OpenSpec.ofChange rsBackWrong)

/-- 'saddlebaglaw06.RsLimits': WHATEVER THE INPUT: true; the input reads as it did. -/
def rsLimitsSpec : ChangeSpec := { name := "rsLimits", fn := fun _ => fun
  | [d1, d2, d3] => { results := [.lit (.bool true)], args := [d1, d2, d3] }
  | _ => none }
def rsLimitsRow : OpenClaim := { program := "ytpbkabgjpieggaa", sum := "66b2e04c0404ee767bacdc2e82971aa1e199f282709c1adf8c3e069774335fe5", func := "saddlebag/saddlebaglaw06.RsLimits", spec := "rsLimits", unfollowed := true, recurses := true, apart := false }
def RsLimitsSaid : Prop := rsLimitsRow.holds Try.pinned (OpenSpec.ofChange rsLimitsSpec)

/-- ITS FALSE NEIGHBOUR: 'it returns false'. Refute it at one input. -/
def rsLimitsWrong : ChangeSpec := { name := "rsLimits", fn := fun _ => fun
  | [d1, d2, d3] => { results := [.lit (.bool false)], args := [d1, d2, d3] }
  | _ => none }
def RsLimitsWrongFalsely : Prop := rsLimitsRow.holds Try.pinned (OpenSpec.ofChange rsLimitsWrong)

/-- 'saddlebaglaw06.RsNobody': WHATEVER THE INPUT: true; the input reads as it did. -/
def rsNobodySpec : ChangeSpec := { name := "rsNobody", fn := fun _ => fun
  | [d] => { results := [.lit (.bool true)], args := [d] }
  | _ => none }
def rsNobodyRow : OpenClaim := { program := "ytpbkabgjpieggaa", sum := "66b2e04c0404ee767bacdc2e82971aa1e199f282709c1adf8c3e069774335fe5", func := "saddlebag/saddlebaglaw06.RsNobody", spec := "rsNobody", unfollowed := true, recurses := true, apart := false }
def RsNobodySaid : Prop := rsNobodyRow.holds Try.pinned (OpenSpec.ofChange rsNobodySpec)

/-- ITS FALSE NEIGHBOUR: 'it returns false'. Refute it at one input. -/
def rsNobodyWrong : ChangeSpec := { name := "rsNobody", fn := fun _ => fun
  | [d] => { results := [.lit (.bool false)], args := [d] }
  | _ => none }
def RsNobodyWrongFalsely : Prop := rsNobodyRow.holds Try.pinned (OpenSpec.ofChange rsNobodyWrong)

/- THE SECOND FORM. 'bulk': how many values and letters a reading holds, each counted each time it is reached (what is shared counts as often as it is met; a slice's spare places count too). A statement '..UptoSaid' is the law's where the arguments, and the package variables that the reading takes, are together of bulk at most 1048576: NARROWER than '..Said'. Prove '..Said' where nothing that the law and all that it calls make is longer than what came in: it says more and counts as full. Else prove '..UptoSaid'. A law counts once. -/
mutual
def uptoBulk {H : Type} : DataW H → Nat
  | .lit (.string bytes) => bytes.length + 1
  | .lit _ => 1
  | .nil => 1
  | .ptr d => uptoBulk d + 1
  | .slice elems spare => uptoBulkAll elems + uptoBulkAll spare + 1
  | .agg parts => uptoBulkAll parts + 1
  | .iface _ d => uptoBulk d + 1
  | .map entries => uptoBulkEntries entries + 1
  | .held _ => 1
def uptoBulkAll {H : Type} : List (DataW H) → Nat
  | [] => 0
  | d :: r => uptoBulk d + uptoBulkAll r
def uptoBulkEntries {H : Type} : List (Lit × DataW H) → Nat
  | [] => 0
  | x :: r => uptoBulkEntry x + uptoBulkEntries r
def uptoBulkEntry {H : Type} : Lit × DataW H → Nat
  | (.string bytes, d) => bytes.length + uptoBulk d + 1
  | (_, d) => uptoBulk d + 1
 end
def uptoSmall : (H : Type) → List (DataW H) → Bool := fun _ ds => decide (uptoBulkAll ds ≤ 1048576)
def OpenSpec.upto (s : _root_.Go.ChangeSpec) : _root_.Go.OpenSpec := { _root_.Go.OpenSpec.ofChange s with cond := some uptoSmall }

/-- 'saddlebaglaw06.RsEncodes', WHERE WHAT IT READS IS OF BULK AT MOST 1048576: true; the input reads as it did. -/
def rsEncodesUptoRow : OpenClaim := { program := "ytpbkabgjpieggaa", sum := "66b2e04c0404ee767bacdc2e82971aa1e199f282709c1adf8c3e069774335fe5", func := "saddlebag/saddlebaglaw06.RsEncodes", spec := "rsEncodes", unfollowed := true, recurses := true, apart := false, narrowed := true }
def RsEncodesUptoSaid : Prop := rsEncodesUptoRow.holds Try.pinned (OpenSpec.upto rsEncodesSpec)

/-- 'saddlebaglaw06.RsCuts', WHERE WHAT IT READS IS OF BULK AT MOST 1048576: true; the input reads as it did. -/
def rsCutsUptoRow : OpenClaim := { program := "ytpbkabgjpieggaa", sum := "66b2e04c0404ee767bacdc2e82971aa1e199f282709c1adf8c3e069774335fe5", func := "saddlebag/saddlebaglaw06.RsCuts", spec := "rsCuts", unfollowed := true, recurses := true, apart := false, narrowed := true }
def RsCutsUptoSaid : Prop := rsCutsUptoRow.holds Try.pinned (OpenSpec.upto rsCutsSpec)

/-- 'saddlebaglaw06.RsBack', WHERE WHAT IT READS IS OF BULK AT MOST 1048576: true; the input reads as it did. -/
def rsBackUptoRow : OpenClaim := { program := "ytpbkabgjpieggaa", sum := "66b2e04c0404ee767bacdc2e82971aa1e199f282709c1adf8c3e069774335fe5", func := "saddlebag/saddlebaglaw06.RsBack", spec := "rsBack", unfollowed := true, recurses := true, apart := false, narrowed := true }
def RsBackUptoSaid : Prop := rsBackUptoRow.holds Try.pinned (OpenSpec.upto rsBackSpec)

/-- 'saddlebaglaw06.RsLimits', WHERE WHAT IT READS IS OF BULK AT MOST 1048576: true; the input reads as it did. -/
def rsLimitsUptoRow : OpenClaim := { program := "ytpbkabgjpieggaa", sum := "66b2e04c0404ee767bacdc2e82971aa1e199f282709c1adf8c3e069774335fe5", func := "saddlebag/saddlebaglaw06.RsLimits", spec := "rsLimits", unfollowed := true, recurses := true, apart := false, narrowed := true }
def RsLimitsUptoSaid : Prop := rsLimitsUptoRow.holds Try.pinned (OpenSpec.upto rsLimitsSpec)

/-- 'saddlebaglaw06.RsNobody', WHERE WHAT IT READS IS OF BULK AT MOST 1048576: true; the input reads as it did. -/
def rsNobodyUptoRow : OpenClaim := { program := "ytpbkabgjpieggaa", sum := "66b2e04c0404ee767bacdc2e82971aa1e199f282709c1adf8c3e069774335fe5", func := "saddlebag/saddlebaglaw06.RsNobody", spec := "rsNobody", unfollowed := true, recurses := true, apart := false, narrowed := true }
def RsNobodyUptoSaid : Prop := rsNobodyUptoRow.holds Try.pinned (OpenSpec.upto rsNobodySpec)

end Rows
end Go.Proofs.Ytpbkabgjpieggaa
