/-
  No cell of these rows narrows 'for every input' (looked for: loops, veiled, ifaces, maps, wideKeys, modest, calm, conditions, laid).
  DERIVED. THE GIVEN ROWS OF THIS SEAT. 5 by the template 'for every input the law returns true; each argument reads behind the call as it read before'; 0 by the template 'total and deterministic' (their statements: YteabpbmecdenjaaTotals.lean).
  GIVEN WITH THE SEED: the statements are not yours to turn. If you find one false, say at which input.
  Laid BY PROGRAM, IN A SANDBOX (cutbox-rows.mjs): the forced cells as the released guide's own fill.sh prints them over the translation fcf42f0817be0ca9… (all of the seat's roots in one cut). By AI agents, Wed Nov 11 2026. No macro, syntax, notation, axiom, sorry.
-/
import Derived.Test.YteabpbmecdenjaaChecked
import GoSem.Claim
import GoSem.ClaimJoined
import GoSem.ClaimMapViews
import Derived.JoinedTies
import Derived.KernelRfl
namespace Go.Proofs.Yteabpbmecdenjaa
/- THE CELL 'sum', in the pinned program and in every row, IS THE sha256 OF THE DUMP (.gsa) THAT YteabpbmecdenjaaProg.lean LOADS. Nothing in Lean hashes anything: it is a label: what it is worth is what the hold of that sum in a sandbox is worth. -/
noncomputable def Try.pinned : Pinned := { name := "yteabpbmecdenjaa", sum := "fcf42f0817be0ca9b086a64b6201d506a28eeaabfe600ca2730ce8ed8c248196", checked := Try.checked }
namespace Rows
def none {H : Type} : Left H := { results := [], args := [] }

/-- 'saddlebaglaw01.LayPuts': WHATEVER THE INPUT: true; the input reads as it did. -/
def layPutsSpec : ChangeSpec := { name := "layPuts", fn := fun _ => fun
  | [d1, d2, d3] => { results := [.lit (.bool true)], args := [d1, d2, d3] }
  | _ => none }
def layPutsRow : OpenClaim := { program := "yteabpbmecdenjaa", sum := "fcf42f0817be0ca9b086a64b6201d506a28eeaabfe600ca2730ce8ed8c248196", func := "saddlebag/saddlebaglaw01.LayPuts", spec := "layPuts", apart := false }
def LayPutsSaid : Prop := layPutsRow.holds Try.pinned (OpenSpec.ofChange layPutsSpec)

/-- ITS FALSE NEIGHBOUR: 'it returns false'. Refute it at one input. -/
def layPutsWrong : ChangeSpec := { name := "layPuts", fn := fun _ => fun
  | [d1, d2, d3] => { results := [.lit (.bool false)], args := [d1, d2, d3] }
  | _ => none }
def LayPutsWrongFalsely : Prop := layPutsRow.holds Try.pinned (OpenSpec.ofChange layPutsWrong)

/-- 'saddlebaglaw01.LayReads': WHATEVER THE INPUT: true; the input reads as it did. -/
def layReadsSpec : ChangeSpec := { name := "layReads", fn := fun _ => fun
  | [d1, d2] => { results := [.lit (.bool true)], args := [d1, d2] }
  | _ => none }
def layReadsRow : OpenClaim := { program := "yteabpbmecdenjaa", sum := "fcf42f0817be0ca9b086a64b6201d506a28eeaabfe600ca2730ce8ed8c248196", func := "saddlebag/saddlebaglaw01.LayReads", spec := "layReads", apart := false }
def LayReadsSaid : Prop := layReadsRow.holds Try.pinned (OpenSpec.ofChange layReadsSpec)

/-- ITS FALSE NEIGHBOUR: 'it returns false'. Refute it at one input. -/
def layReadsWrong : ChangeSpec := { name := "layReads", fn := fun _ => fun
  | [d1, d2] => { results := [.lit (.bool false)], args := [d1, d2] }
  | _ => none }
def LayReadsWrongFalsely : Prop := layReadsRow.holds Try.pinned (OpenSpec.ofChange layReadsWrong)

/-- 'saddlebaglaw01.LayBack': WHATEVER THE INPUT: true; the input reads as it did. -/
def layBackSpec : ChangeSpec := { name := "layBack", fn := fun _ => fun
  | [d1, d2] => { results := [.lit (.bool true)], args := [d1, d2] }
  | _ => none }
def layBackRow : OpenClaim := { program := "yteabpbmecdenjaa", sum := "fcf42f0817be0ca9b086a64b6201d506a28eeaabfe600ca2730ce8ed8c248196", func := "saddlebag/saddlebaglaw01.LayBack", spec := "layBack", apart := false }
def LayBackSaid : Prop := layBackRow.holds Try.pinned (OpenSpec.ofChange layBackSpec)

/-- ITS FALSE NEIGHBOUR: 'it returns false'. Refute it at one input. -/
def layBackWrong : ChangeSpec := { name := "layBack", fn := fun _ => fun
  | [d1, d2] => { results := [.lit (.bool false)], args := [d1, d2] }
  | _ => none }
def LayBackWrongFalsely : Prop := layBackRow.holds Try.pinned (OpenSpec.ofChange layBackWrong)

/-- 'saddlebaglaw01.LayOne': WHATEVER THE INPUT: true; the input reads as it did. -/
def layOneSpec : ChangeSpec := { name := "layOne", fn := fun _ => fun
  | [d] => { results := [.lit (.bool true)], args := [d] }
  | _ => none }
def layOneRow : OpenClaim := { program := "yteabpbmecdenjaa", sum := "fcf42f0817be0ca9b086a64b6201d506a28eeaabfe600ca2730ce8ed8c248196", func := "saddlebag/saddlebaglaw01.LayOne", spec := "layOne", apart := false }
def LayOneSaid : Prop := layOneRow.holds Try.pinned (OpenSpec.ofChange layOneSpec)

/-- ITS FALSE NEIGHBOUR: 'it returns false'. Refute it at one input. -/
def layOneWrong : ChangeSpec := { name := "layOne", fn := fun _ => fun
  | [d] => { results := [.lit (.bool false)], args := [d] }
  | _ => none }
def LayOneWrongFalsely : Prop := layOneRow.holds Try.pinned (OpenSpec.ofChange layOneWrong)

/-- 'saddlebaglaw01.LayNobody': WHATEVER THE INPUT: true; the input reads as it did. -/
def layNobodySpec : ChangeSpec := { name := "layNobody", fn := fun _ => fun
  | [d] => { results := [.lit (.bool true)], args := [d] }
  | _ => none }
def layNobodyRow : OpenClaim := { program := "yteabpbmecdenjaa", sum := "fcf42f0817be0ca9b086a64b6201d506a28eeaabfe600ca2730ce8ed8c248196", func := "saddlebag/saddlebaglaw01.LayNobody", spec := "layNobody", apart := false }
def LayNobodySaid : Prop := layNobodyRow.holds Try.pinned (OpenSpec.ofChange layNobodySpec)

/-- ITS FALSE NEIGHBOUR: 'it returns false'. Refute it at one input. -/
def layNobodyWrong : ChangeSpec := { name := "layNobody", fn := fun _ => fun
  | [d] => { results := [.lit (.bool false)], args := [d] }
  | _ => none }
def LayNobodyWrongFalsely : Prop := layNobodyRow.holds Try.pinned (OpenSpec.ofChange layNobodyWrong)

/- THE SECOND FORM. 'bulk': how many values and letters a reading holds, each counted each time it is reached (what is shared counts as often as it is met; a slice's spare places count too). A statement '..UptoSaid' is the law's where the arguments, and the package variables that the reading takes, are together of bulk at most 1048576: NARROWER than '..Said'. Prove '..Said' where nothing that the law and all that it calls make is longer than what came in: it says more and counts as full. Else prove '..UptoSaid'. A law counts once. -/
mutual
def uptoBulk {H : Type} : DataW H → Nat
  | .lit (.string bytes) => bytes.length + 1
  | .lit _ => 1
  | .nil => 1
  | .ptr d => uptoBulk d + 1
  | .slice elems spare => uptoBulkAll elems + uptoBulkAll spare + 1
  | .agg parts => uptoBulkAll parts + 1
  | .iface _ d => uptoBulk d + 1
  | .map entries => uptoBulkEntries entries + 1
  | .held _ => 1
def uptoBulkAll {H : Type} : List (DataW H) → Nat
  | [] => 0
  | d :: r => uptoBulk d + uptoBulkAll r
def uptoBulkEntries {H : Type} : List (Lit × DataW H) → Nat
  | [] => 0
  | x :: r => uptoBulkEntry x + uptoBulkEntries r
def uptoBulkEntry {H : Type} : Lit × DataW H → Nat
  | (.string bytes, d) => bytes.length + uptoBulk d + 1
  | (_, d) => uptoBulk d + 1
 end
def uptoSmall : (H : Type) → List (DataW H) → Bool := fun _ ds => decide (uptoBulkAll ds ≤ 1048576)
def OpenSpec.upto (s : _root_.Go.ChangeSpec) : _root_.Go.OpenSpec := { _root_.Go.OpenSpec.ofChange s with cond := some uptoSmall }

/-- 'saddlebaglaw01.LayPuts', WHERE WHAT IT READS IS OF BULK AT MOST 1048576: true; the input reads as it did. -/
def layPutsUptoRow : OpenClaim := { program := "yteabpbmecdenjaa", sum := "fcf42f0817be0ca9b086a64b6201d506a28eeaabfe600ca2730ce8ed8c248196", func := "saddlebag/saddlebaglaw01.LayPuts", spec := "layPuts", apart := false, narrowed := true }
def LayPutsUptoSaid : Prop := layPutsUptoRow.holds Try.pinned (OpenSpec.upto layPutsSpec)

/-- 'saddlebaglaw01.LayReads', WHERE WHAT IT READS IS OF BULK AT MOST 1048576: true; the input reads as it did. -/
def layReadsUptoRow : OpenClaim := { program := "yteabpbmecdenjaa", sum := "fcf42f0817be0ca9b086a64b6201d506a28eeaabfe600ca2730ce8ed8c248196", func := "saddlebag/saddlebaglaw01.LayReads", spec := "layReads", apart := false, narrowed := true }
def LayReadsUptoSaid : Prop := layReadsUptoRow.holds Try.pinned (OpenSpec.upto layReadsSpec)

/-- 'saddlebaglaw01.LayBack', WHERE WHAT IT READS IS OF BULK AT MOST 1048576: true; the input reads as it did. -/
def layBackUptoRow : OpenClaim := { program := "yteabpbmecdenjaa", sum := "fcf42f0817be0ca9b086a64b6201d506a28eeaabfe600ca2730ce8ed8c248196", func := "saddlebag/saddlebaglaw01.LayBack", spec := "layBack", apart := false, narrowed := true }
def LayBackUptoSaid : Prop := layBackUptoRow.holds Try.pinned (OpenSpec.upto layBackSpec)

/-- 'saddlebaglaw01.LayOne', WHERE WHAT IT READS IS OF BULK AT MOST 1048576: true; the input reads as it did. -/
def layOneUptoRow : OpenClaim := { program := "yteabpbmecdenjaa", sum := "fcf42f0817be0ca9b086a64b6201d506a28eeaabfe600ca2730ce8ed8c248196", func := "saddlebag/saddlebaglaw01.LayOne", spec := "layOne", apart := false, narrowed := true }
def LayOneUptoSaid : Prop := layOneUptoRow.holds Try.pinned (OpenSpec.upto layOneSpec)

/-- 'saddlebaglaw01.LayNobody', WHERE WHAT IT READS IS OF BULK AT MOST 1048576: true; the input reads as it did. -/
def layNobodyUptoRow : OpenClaim := { program := "yteabpbmecdenjaa", sum := "fcf42f0817be0ca9b086a64b6201d506a28eeaabfe600ca2730ce8ed8c248196", func := "saddlebag/saddlebaglaw01.LayNobody", spec := "layNobody", apart := false, narrowed := true }
def LayNobodyUptoSaid : Prop := layNobodyUptoRow.holds Try.pinned (OpenSpec.upto layNobodySpec)

end Rows
end Go.Proofs.Yteabpbmecdenjaa
