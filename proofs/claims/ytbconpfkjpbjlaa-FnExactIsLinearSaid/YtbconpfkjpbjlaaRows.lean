/-
  No cell of these rows narrows 'for every input' (looked for: loops, veiled, ifaces, maps, wideKeys, modest, calm, conditions, laid).
  DERIVED. THE GIVEN ROWS OF THIS SEAT. 9 by the template 'for every input the law returns true; each argument reads behind the call as it read before'; 0 by the template 'total and deterministic' (their statements: YtbconpfkjpbjlaaTotals.lean).
  GIVEN WITH THE SEED: the statements are not yours to turn. If you find one false, say at which input.
  Laid BY PROGRAM, IN A SANDBOX (cutbox-rows.mjs): the forced cells as the released guide's own fill.sh prints them over the translation 2aa62402db7dbe05… (all of the seat's roots in one cut). By AI agents, Wed Nov 11 2026. No macro, syntax, notation, axiom, sorry.
-/
import Derived.Test.YtbconpfkjpbjlaaChecked
import GoSem.Claim
import GoSem.ClaimJoined
import GoSem.ClaimMapViews
import Derived.JoinedTies
import Derived.KernelRfl
namespace Go.Proofs.Ytbconpfkjpbjlaa
/- THE CELL 'sum', in the pinned program and in every row, IS THE sha256 OF THE DUMP (.gsa) THAT YtbconpfkjpbjlaaProg.lean LOADS. Nothing in Lean hashes anything: it is a label: what it is worth is what the hold of that sum in a sandbox is worth. -/
noncomputable def Try.pinned : Pinned := { name := "ytbconpfkjpbjlaa", sum := "2aa62402db7dbe05790b6769f43cf25eecf126393e2bf9cceea6e0a813cdb083", checked := Try.checked }
namespace Rows
def none {H : Type} : Left H := { results := [], args := [] }

/-- 'laws.FnStrata': WHATEVER THE INPUT: true; the input reads as it did. -/
def fnStrataSpec : ChangeSpec := { name := "fnStrata", fn := fun _ => fun
  | [d] => { results := [.lit (.bool true)], args := [d] }
  | _ => none }
def fnStrataRow : OpenClaim := { program := "ytbconpfkjpbjlaa", sum := "2aa62402db7dbe05790b6769f43cf25eecf126393e2bf9cceea6e0a813cdb083", func := "loop.example/dataflow/laws.FnStrata", spec := "fnStrata", unfollowed := true, recurses := true, apart := false }
def FnStrataSaid : Prop := fnStrataRow.holds Try.pinned (OpenSpec.ofChange fnStrataSpec)

/-- ITS FALSE NEIGHBOUR: 'it returns false'. Refute it at one input. -/
def fnStrataWrong : ChangeSpec := { name := "fnStrata", fn := fun _ => fun
  | [d] => { results := [.lit (.bool false)], args := [d] }
  | _ => none }
def FnStrataWrongFalsely : Prop := fnStrataRow.holds Try.pinned (OpenSpec.ofChange fnStrataWrong)

/-- 'laws.FnEvalProgram': WHATEVER THE INPUT: true; the input reads as it did. -/
def fnEvalProgramSpec : ChangeSpec := { name := "fnEvalProgram", fn := fun _ => fun
  | [d] => { results := [.lit (.bool true)], args := [d] }
  | _ => none }
def fnEvalProgramRow : OpenClaim := { program := "ytbconpfkjpbjlaa", sum := "2aa62402db7dbe05790b6769f43cf25eecf126393e2bf9cceea6e0a813cdb083", func := "loop.example/dataflow/laws.FnEvalProgram", spec := "fnEvalProgram", unfollowed := true, recurses := true, apart := false }
def FnEvalProgramSaid : Prop := fnEvalProgramRow.holds Try.pinned (OpenSpec.ofChange fnEvalProgramSpec)

/-- ITS FALSE NEIGHBOUR: 'it returns false'. Refute it at one input. -/
def fnEvalProgramWrong : ChangeSpec := { name := "fnEvalProgram", fn := fun _ => fun
  | [d] => { results := [.lit (.bool false)], args := [d] }
  | _ => none }
def FnEvalProgramWrongFalsely : Prop := fnEvalProgramRow.holds Try.pinned (OpenSpec.ofChange fnEvalProgramWrong)

/-- 'laws.FnEvalParts': WHATEVER THE INPUT: true; the input reads as it did. -/
def fnEvalPartsSpec : ChangeSpec := { name := "fnEvalParts", fn := fun _ => fun
  | [d1, d2] => { results := [.lit (.bool true)], args := [d1, d2] }
  | _ => none }
def fnEvalPartsRow : OpenClaim := { program := "ytbconpfkjpbjlaa", sum := "2aa62402db7dbe05790b6769f43cf25eecf126393e2bf9cceea6e0a813cdb083", func := "loop.example/dataflow/laws.FnEvalParts", spec := "fnEvalParts", unfollowed := true, recurses := true, apart := false }
def FnEvalPartsSaid : Prop := fnEvalPartsRow.holds Try.pinned (OpenSpec.ofChange fnEvalPartsSpec)

/-- ITS FALSE NEIGHBOUR: 'it returns false'. Refute it at one input. -/
def fnEvalPartsWrong : ChangeSpec := { name := "fnEvalParts", fn := fun _ => fun
  | [d1, d2] => { results := [.lit (.bool false)], args := [d1, d2] }
  | _ => none }
def FnEvalPartsWrongFalsely : Prop := fnEvalPartsRow.holds Try.pinned (OpenSpec.ofChange fnEvalPartsWrong)

/-- 'laws.FnConsequences': WHATEVER THE INPUT: true; the input reads as it did. -/
def fnConsequencesSpec : ChangeSpec := { name := "fnConsequences", fn := fun _ => fun
  | [d1, d2] => { results := [.lit (.bool true)], args := [d1, d2] }
  | _ => none }
def fnConsequencesRow : OpenClaim := { program := "ytbconpfkjpbjlaa", sum := "2aa62402db7dbe05790b6769f43cf25eecf126393e2bf9cceea6e0a813cdb083", func := "loop.example/dataflow/laws.FnConsequences", spec := "fnConsequences", unfollowed := true, recurses := true, apart := false }
def FnConsequencesSaid : Prop := fnConsequencesRow.holds Try.pinned (OpenSpec.ofChange fnConsequencesSpec)

/-- ITS FALSE NEIGHBOUR: 'it returns false'. Refute it at one input. -/
def fnConsequencesWrong : ChangeSpec := { name := "fnConsequences", fn := fun _ => fun
  | [d1, d2] => { results := [.lit (.bool false)], args := [d1, d2] }
  | _ => none }
def FnConsequencesWrongFalsely : Prop := fnConsequencesRow.holds Try.pinned (OpenSpec.ofChange fnConsequencesWrong)

/-- 'laws.FnExactValidProgram': WHATEVER THE INPUT: true; the input reads as it did. -/
def fnExactValidProgramSpec : ChangeSpec := { name := "fnExactValidProgram", fn := fun _ => fun
  | [d] => { results := [.lit (.bool true)], args := [d] }
  | _ => none }
def fnExactValidProgramRow : OpenClaim := { program := "ytbconpfkjpbjlaa", sum := "2aa62402db7dbe05790b6769f43cf25eecf126393e2bf9cceea6e0a813cdb083", func := "loop.example/dataflow/laws.FnExactValidProgram", spec := "fnExactValidProgram", unfollowed := true, recurses := true, apart := false }
def FnExactValidProgramSaid : Prop := fnExactValidProgramRow.holds Try.pinned (OpenSpec.ofChange fnExactValidProgramSpec)

/-- ITS FALSE NEIGHBOUR: 'it returns false'. Refute it at one input. -/
def fnExactValidProgramWrong : ChangeSpec := { name := "fnExactValidProgram", fn := fun _ => fun
  | [d] => { results := [.lit (.bool false)], args := [d] }
  | _ => none }
def FnExactValidProgramWrongFalsely : Prop := fnExactValidProgramRow.holds Try.pinned (OpenSpec.ofChange fnExactValidProgramWrong)

/-- 'laws.FnExactStrata': WHATEVER THE INPUT: true; the input reads as it did. -/
def fnExactStrataSpec : ChangeSpec := { name := "fnExactStrata", fn := fun _ => fun
  | [d] => { results := [.lit (.bool true)], args := [d] }
  | _ => none }
def fnExactStrataRow : OpenClaim := { program := "ytbconpfkjpbjlaa", sum := "2aa62402db7dbe05790b6769f43cf25eecf126393e2bf9cceea6e0a813cdb083", func := "loop.example/dataflow/laws.FnExactStrata", spec := "fnExactStrata", unfollowed := true, recurses := true, apart := false }
def FnExactStrataSaid : Prop := fnExactStrataRow.holds Try.pinned (OpenSpec.ofChange fnExactStrataSpec)

/-- ITS FALSE NEIGHBOUR: 'it returns false'. Refute it at one input. -/
def fnExactStrataWrong : ChangeSpec := { name := "fnExactStrata", fn := fun _ => fun
  | [d] => { results := [.lit (.bool false)], args := [d] }
  | _ => none }
def FnExactStrataWrongFalsely : Prop := fnExactStrataRow.holds Try.pinned (OpenSpec.ofChange fnExactStrataWrong)

/-- 'laws.FnExactConsequences': WHATEVER THE INPUT: true; the input reads as it did. -/
def fnExactConsequencesSpec : ChangeSpec := { name := "fnExactConsequences", fn := fun _ => fun
  | [d1, d2] => { results := [.lit (.bool true)], args := [d1, d2] }
  | _ => none }
def fnExactConsequencesRow : OpenClaim := { program := "ytbconpfkjpbjlaa", sum := "2aa62402db7dbe05790b6769f43cf25eecf126393e2bf9cceea6e0a813cdb083", func := "loop.example/dataflow/laws.FnExactConsequences", spec := "fnExactConsequences", unfollowed := true, recurses := true, apart := false }
def FnExactConsequencesSaid : Prop := fnExactConsequencesRow.holds Try.pinned (OpenSpec.ofChange fnExactConsequencesSpec)

/-- ITS FALSE NEIGHBOUR: 'it returns false'. Refute it at one input. -/
def fnExactConsequencesWrong : ChangeSpec := { name := "fnExactConsequences", fn := fun _ => fun
  | [d1, d2] => { results := [.lit (.bool false)], args := [d1, d2] }
  | _ => none }
def FnExactConsequencesWrongFalsely : Prop := fnExactConsequencesRow.holds Try.pinned (OpenSpec.ofChange fnExactConsequencesWrong)

/-- 'laws.FnExactEvalProgram': WHATEVER THE INPUT: true; the input reads as it did. -/
def fnExactEvalProgramSpec : ChangeSpec := { name := "fnExactEvalProgram", fn := fun _ => fun
  | [d1, d2] => { results := [.lit (.bool true)], args := [d1, d2] }
  | _ => none }
def fnExactEvalProgramRow : OpenClaim := { program := "ytbconpfkjpbjlaa", sum := "2aa62402db7dbe05790b6769f43cf25eecf126393e2bf9cceea6e0a813cdb083", func := "loop.example/dataflow/laws.FnExactEvalProgram", spec := "fnExactEvalProgram", unfollowed := true, recurses := true, apart := false }
def FnExactEvalProgramSaid : Prop := fnExactEvalProgramRow.holds Try.pinned (OpenSpec.ofChange fnExactEvalProgramSpec)

/-- ITS FALSE NEIGHBOUR: 'it returns false'. Refute it at one input. -/
def fnExactEvalProgramWrong : ChangeSpec := { name := "fnExactEvalProgram", fn := fun _ => fun
  | [d1, d2] => { results := [.lit (.bool false)], args := [d1, d2] }
  | _ => none }
def FnExactEvalProgramWrongFalsely : Prop := fnExactEvalProgramRow.holds Try.pinned (OpenSpec.ofChange fnExactEvalProgramWrong)

/-- 'laws.FnExactIsLinear': WHATEVER THE INPUT: true; the input reads as it did. -/
def fnExactIsLinearSpec : ChangeSpec := { name := "fnExactIsLinear", fn := fun _ => fun
  | [d] => { results := [.lit (.bool true)], args := [d] }
  | _ => none }
def fnExactIsLinearRow : OpenClaim := { program := "ytbconpfkjpbjlaa", sum := "2aa62402db7dbe05790b6769f43cf25eecf126393e2bf9cceea6e0a813cdb083", func := "loop.example/dataflow/laws.FnExactIsLinear", spec := "fnExactIsLinear", apart := false }
def FnExactIsLinearSaid : Prop := fnExactIsLinearRow.holds Try.pinned (OpenSpec.ofChange fnExactIsLinearSpec)

/-- ITS FALSE NEIGHBOUR: 'it returns false'. Refute it at one input. -/
def fnExactIsLinearWrong : ChangeSpec := { name := "fnExactIsLinear", fn := fun _ => fun
  | [d] => { results := [.lit (.bool false)], args := [d] }
  | _ => none }
def FnExactIsLinearWrongFalsely : Prop := fnExactIsLinearRow.holds Try.pinned (OpenSpec.ofChange fnExactIsLinearWrong)

/- THE SECOND FORM. 'bulk': how many values and letters a reading holds, each counted each time it is reached (what is shared counts as often as it is met; a slice's spare places count too). A statement '..UptoSaid' is the law's where the arguments, and the package variables that the reading takes, are together of bulk at most 1048576: NARROWER than '..Said'. Prove '..Said' where nothing that the law and all that it calls make is longer than what came in: it says more and counts as full. Else prove '..UptoSaid'. A law counts once. -/
mutual
def uptoBulk {H : Type} : DataW H → Nat
  | .lit (.string bytes) => bytes.length + 1
  | .lit _ => 1
  | .nil => 1
  | .ptr d => uptoBulk d + 1
  | .slice elems spare => uptoBulkAll elems + uptoBulkAll spare + 1
  | .agg parts => uptoBulkAll parts + 1
  | .iface _ d => uptoBulk d + 1
  | .map entries => uptoBulkEntries entries + 1
  | .held _ => 1
def uptoBulkAll {H : Type} : List (DataW H) → Nat
  | [] => 0
  | d :: r => uptoBulk d + uptoBulkAll r
def uptoBulkEntries {H : Type} : List (Lit × DataW H) → Nat
  | [] => 0
  | x :: r => uptoBulkEntry x + uptoBulkEntries r
def uptoBulkEntry {H : Type} : Lit × DataW H → Nat
  | (.string bytes, d) => bytes.length + uptoBulk d + 1
  | (_, d) => uptoBulk d + 1
 end
def uptoSmall : (H : Type) → List (DataW H) → Bool := fun _ ds => decide (uptoBulkAll ds ≤ 1048576)
def OpenSpec.upto (s : _root_.Go.ChangeSpec) : _root_.Go.OpenSpec := { _root_.Go.OpenSpec.ofChange s with cond := some uptoSmall }

/-- 'laws.FnStrata', WHERE WHAT IT READS IS OF BULK AT MOST 1048576: true; the input reads as it did. -/
def fnStrataUptoRow : OpenClaim := { program := "ytbconpfkjpbjlaa", sum := "2aa62402db7dbe05790b6769f43cf25eecf126393e2bf9cceea6e0a813cdb083", func := "loop.example/dataflow/laws.FnStrata", spec := "fnStrata", unfollowed := true, recurses := true, apart := false, narrowed := true }
def FnStrataUptoSaid : Prop := fnStrataUptoRow.holds Try.pinned (OpenSpec.upto fnStrataSpec)

/-- 'laws.FnEvalProgram', WHERE WHAT IT READS IS OF BULK AT MOST 1048576: true; the input reads as it did. -/
def fnEvalProgramUptoRow : OpenClaim := { program := "ytbconpfkjpbjlaa", sum := "2aa62402db7dbe05790b6769f43cf25eecf126393e2bf9cceea6e0a813cdb083", func := "loop.example/dataflow/laws.FnEvalProgram", spec := "fnEvalProgram", unfollowed := true, recurses := true, apart := false, narrowed := true }
def FnEvalProgramUptoSaid : Prop := fnEvalProgramUptoRow.holds Try.pinned (OpenSpec.upto fnEvalProgramSpec)

/-- 'laws.FnEvalParts', WHERE WHAT IT READS IS OF BULK AT MOST 1048576: true; the input reads as it did. -/
def fnEvalPartsUptoRow : OpenClaim := { program := "ytbconpfkjpbjlaa", sum := "2aa62402db7dbe05790b6769f43cf25eecf126393e2bf9cceea6e0a813cdb083", func := "loop.example/dataflow/laws.FnEvalParts", spec := "fnEvalParts", unfollowed := true, recurses := true, apart := false, narrowed := true }
def FnEvalPartsUptoSaid : Prop := fnEvalPartsUptoRow.holds Try.pinned (OpenSpec.upto fnEvalPartsSpec)

/-- 'laws.FnConsequences', WHERE WHAT IT READS IS OF BULK AT MOST 1048576: true; the input reads as it did. -/
def fnConsequencesUptoRow : OpenClaim := { program := "ytbconpfkjpbjlaa", sum := "2aa62402db7dbe05790b6769f43cf25eecf126393e2bf9cceea6e0a813cdb083", func := "loop.example/dataflow/laws.FnConsequences", spec := "fnConsequences", unfollowed := true, recurses := true, apart := false, narrowed := true }
def FnConsequencesUptoSaid : Prop := fnConsequencesUptoRow.holds Try.pinned (OpenSpec.upto fnConsequencesSpec)

/-- 'laws.FnExactValidProgram', WHERE WHAT IT READS IS OF BULK AT MOST 1048576: true; the input reads as it did. -/
def fnExactValidProgramUptoRow : OpenClaim := { program := "ytbconpfkjpbjlaa", sum := "2aa62402db7dbe05790b6769f43cf25eecf126393e2bf9cceea6e0a813cdb083", func := "loop.example/dataflow/laws.FnExactValidProgram", spec := "fnExactValidProgram", unfollowed := true, recurses := true, apart := false, narrowed := true }
def FnExactValidProgramUptoSaid : Prop := fnExactValidProgramUptoRow.holds Try.pinned (OpenSpec.upto fnExactValidProgramSpec)

/-- 'laws.FnExactStrata', WHERE WHAT IT READS IS OF BULK AT MOST 1048576: true; the input reads as it did. -/
def fnExactStrataUptoRow : OpenClaim := { program := "ytbconpfkjpbjlaa", sum := "2aa62402db7dbe05790b6769f43cf25eecf126393e2bf9cceea6e0a813cdb083", func := "loop.example/dataflow/laws.FnExactStrata", spec := "fnExactStrata", unfollowed := true, recurses := true, apart := false, narrowed := true }
def FnExactStrataUptoSaid : Prop := fnExactStrataUptoRow.holds Try.pinned (OpenSpec.upto fnExactStrataSpec)

/-- 'laws.FnExactConsequences', WHERE WHAT IT READS IS OF BULK AT MOST 1048576: true; the input reads as it did. -/
def fnExactConsequencesUptoRow : OpenClaim := { program := "ytbconpfkjpbjlaa", sum := "2aa62402db7dbe05790b6769f43cf25eecf126393e2bf9cceea6e0a813cdb083", func := "loop.example/dataflow/laws.FnExactConsequences", spec := "fnExactConsequences", unfollowed := true, recurses := true, apart := false, narrowed := true }
def FnExactConsequencesUptoSaid : Prop := fnExactConsequencesUptoRow.holds Try.pinned (OpenSpec.upto fnExactConsequencesSpec)

/-- 'laws.FnExactEvalProgram', WHERE WHAT IT READS IS OF BULK AT MOST 1048576: true; the input reads as it did. -/
def fnExactEvalProgramUptoRow : OpenClaim := { program := "ytbconpfkjpbjlaa", sum := "2aa62402db7dbe05790b6769f43cf25eecf126393e2bf9cceea6e0a813cdb083", func := "loop.example/dataflow/laws.FnExactEvalProgram", spec := "fnExactEvalProgram", unfollowed := true, recurses := true, apart := false, narrowed := true }
def FnExactEvalProgramUptoSaid : Prop := fnExactEvalProgramUptoRow.holds Try.pinned (OpenSpec.upto fnExactEvalProgramSpec)

/-- 'laws.FnExactIsLinear', WHERE WHAT IT READS IS OF BULK AT MOST 1048576: true; the input reads as it did. -/
def fnExactIsLinearUptoRow : OpenClaim := { program := "ytbconpfkjpbjlaa", sum := "2aa62402db7dbe05790b6769f43cf25eecf126393e2bf9cceea6e0a813cdb083", func := "loop.example/dataflow/laws.FnExactIsLinear", spec := "fnExactIsLinear", apart := false, narrowed := true }
def FnExactIsLinearUptoSaid : Prop := fnExactIsLinearUptoRow.holds Try.pinned (OpenSpec.upto fnExactIsLinearSpec)

end Rows
end Go.Proofs.Ytbconpfkjpbjlaa
