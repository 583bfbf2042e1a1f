/-
  No cell of these rows narrows 'for every input' (looked for: loops, veiled, ifaces, maps, wideKeys, modest, calm, conditions, laid).
  DERIVED. THE GIVEN ROWS OF THIS SEAT. 10 by the template 'for every input the law returns true; each argument reads behind the call as it read before'; 0 by the template 'total and deterministic' (their statements: YtjlpkfcdkmcjnaaTotals.lean).
  GIVEN WITH THE SEED: the statements are not yours to turn. If you find one false, say at which input.
  Laid BY PROGRAM, IN A SANDBOX (cutbox-rows.mjs): the forced cells as the released guide's own fill.sh prints them over the translation c1f10b3fdea83a32… (all of the seat's roots in one cut). By AI agents, Wed Nov 11 2026. No macro, syntax, notation, axiom, sorry.
-/
import Derived.Test.YtjlpkfcdkmcjnaaChecked
import GoSem.Claim
import GoSem.ClaimJoined
import GoSem.ClaimMapViews
import Derived.JoinedTies
import Derived.KernelRfl
namespace Go.Proofs.Ytjlpkfcdkmcjnaa
/- THE CELL 'sum', in the pinned program and in every row, IS THE sha256 OF THE DUMP (.gsa) THAT YtjlpkfcdkmcjnaaProg.lean LOADS. Nothing in Lean hashes anything: it is a label: what it is worth is what the hold of that sum in a sandbox is worth. -/
noncomputable def Try.pinned : Pinned := { name := "ytjlpkfcdkmcjnaa", sum := "c1f10b3fdea83a320e2e147d78d8d2346c1a102f082ccb6c23b19f2f3aae8333", checked := Try.checked }
namespace Rows
def none {H : Type} : Left H := { results := [], args := [] }

/-- 'laws.FnFilter': WHATEVER THE INPUT: true; the input reads as it did. -/
def fnFilterSpec : ChangeSpec := { name := "fnFilter", fn := fun _ => fun
  | [d] => { results := [.lit (.bool true)], args := [d] }
  | _ => none }
def fnFilterRow : OpenClaim := { program := "ytjlpkfcdkmcjnaa", sum := "c1f10b3fdea83a320e2e147d78d8d2346c1a102f082ccb6c23b19f2f3aae8333", func := "loop.example/dataflow/laws.FnFilter", spec := "fnFilter", unfollowed := true, recurses := true, apart := false }
def FnFilterSaid : Prop := fnFilterRow.holds Try.pinned (OpenSpec.ofChange fnFilterSpec)

/-- ITS FALSE NEIGHBOUR: 'it returns false'. Refute it at one input. -/
def fnFilterWrong : ChangeSpec := { name := "fnFilter", fn := fun _ => fun
  | [d] => { results := [.lit (.bool false)], args := [d] }
  | _ => none }
def FnFilterWrongFalsely : Prop := fnFilterRow.holds Try.pinned (OpenSpec.ofChange fnFilterWrong)

/-- 'laws.FnFilterLinear': WHATEVER THE INPUT: true; the input reads as it did. -/
def fnFilterLinearSpec : ChangeSpec := { name := "fnFilterLinear", fn := fun _ => fun
  | [d1, d2] => { results := [.lit (.bool true)], args := [d1, d2] }
  | _ => none }
def fnFilterLinearRow : OpenClaim := { program := "ytjlpkfcdkmcjnaa", sum := "c1f10b3fdea83a320e2e147d78d8d2346c1a102f082ccb6c23b19f2f3aae8333", func := "loop.example/dataflow/laws.FnFilterLinear", spec := "fnFilterLinear", unfollowed := true, recurses := true, apart := false }
def FnFilterLinearSaid : Prop := fnFilterLinearRow.holds Try.pinned (OpenSpec.ofChange fnFilterLinearSpec)

/-- ITS FALSE NEIGHBOUR: 'it returns false'. Refute it at one input. -/
def fnFilterLinearWrong : ChangeSpec := { name := "fnFilterLinear", fn := fun _ => fun
  | [d1, d2] => { results := [.lit (.bool false)], args := [d1, d2] }
  | _ => none }
def FnFilterLinearWrongFalsely : Prop := fnFilterLinearRow.holds Try.pinned (OpenSpec.ofChange fnFilterLinearWrong)

/-- 'laws.FnMapColumns': WHATEVER THE INPUT: true; the input reads as it did. -/
def fnMapColumnsSpec : ChangeSpec := { name := "fnMapColumns", fn := fun _ => fun
  | [d] => { results := [.lit (.bool true)], args := [d] }
  | _ => none }
def fnMapColumnsRow : OpenClaim := { program := "ytjlpkfcdkmcjnaa", sum := "c1f10b3fdea83a320e2e147d78d8d2346c1a102f082ccb6c23b19f2f3aae8333", func := "loop.example/dataflow/laws.FnMapColumns", spec := "fnMapColumns", unfollowed := true, recurses := true, apart := false }
def FnMapColumnsSaid : Prop := fnMapColumnsRow.holds Try.pinned (OpenSpec.ofChange fnMapColumnsSpec)

/-- ITS FALSE NEIGHBOUR: 'it returns false'. Refute it at one input. -/
def fnMapColumnsWrong : ChangeSpec := { name := "fnMapColumns", fn := fun _ => fun
  | [d] => { results := [.lit (.bool false)], args := [d] }
  | _ => none }
def FnMapColumnsWrongFalsely : Prop := fnMapColumnsRow.holds Try.pinned (OpenSpec.ofChange fnMapColumnsWrong)

/-- 'laws.FnWeightOf': WHATEVER THE INPUT: true; the input reads as it did. -/
def fnWeightOfSpec : ChangeSpec := { name := "fnWeightOf", fn := fun _ => fun
  | [d] => { results := [.lit (.bool true)], args := [d] }
  | _ => none }
def fnWeightOfRow : OpenClaim := { program := "ytjlpkfcdkmcjnaa", sum := "c1f10b3fdea83a320e2e147d78d8d2346c1a102f082ccb6c23b19f2f3aae8333", func := "loop.example/dataflow/laws.FnWeightOf", spec := "fnWeightOf", unfollowed := true, recurses := true, apart := false }
def FnWeightOfSaid : Prop := fnWeightOfRow.holds Try.pinned (OpenSpec.ofChange fnWeightOfSpec)

/-- ITS FALSE NEIGHBOUR: 'it returns false'. Refute it at one input. -/
def fnWeightOfWrong : ChangeSpec := { name := "fnWeightOf", fn := fun _ => fun
  | [d] => { results := [.lit (.bool false)], args := [d] }
  | _ => none }
def FnWeightOfWrongFalsely : Prop := fnWeightOfRow.holds Try.pinned (OpenSpec.ofChange fnWeightOfWrong)

/-- 'laws.FnAddAssociative': WHATEVER THE INPUT: true; the input reads as it did. -/
def fnAddAssociativeSpec : ChangeSpec := { name := "fnAddAssociative", fn := fun _ => fun
  | [d1, d2] => { results := [.lit (.bool true)], args := [d1, d2] }
  | _ => none }
def fnAddAssociativeRow : OpenClaim := { program := "ytjlpkfcdkmcjnaa", sum := "c1f10b3fdea83a320e2e147d78d8d2346c1a102f082ccb6c23b19f2f3aae8333", func := "loop.example/dataflow/laws.FnAddAssociative", spec := "fnAddAssociative", unfollowed := true, recurses := true, apart := false }
def FnAddAssociativeSaid : Prop := fnAddAssociativeRow.holds Try.pinned (OpenSpec.ofChange fnAddAssociativeSpec)

/-- ITS FALSE NEIGHBOUR: 'it returns false'. Refute it at one input. -/
def fnAddAssociativeWrong : ChangeSpec := { name := "fnAddAssociative", fn := fun _ => fun
  | [d1, d2] => { results := [.lit (.bool false)], args := [d1, d2] }
  | _ => none }
def FnAddAssociativeWrongFalsely : Prop := fnAddAssociativeRow.holds Try.pinned (OpenSpec.ofChange fnAddAssociativeWrong)

/-- 'laws.FnKeys': WHATEVER THE INPUT: true; the input reads as it did. -/
def fnKeysSpec : ChangeSpec := { name := "fnKeys", fn := fun _ => fun
  | [d] => { results := [.lit (.bool true)], args := [d] }
  | _ => none }
def fnKeysRow : OpenClaim := { program := "ytjlpkfcdkmcjnaa", sum := "c1f10b3fdea83a320e2e147d78d8d2346c1a102f082ccb6c23b19f2f3aae8333", func := "loop.example/dataflow/laws.FnKeys", spec := "fnKeys", unfollowed := true, recurses := true, apart := false }
def FnKeysSaid : Prop := fnKeysRow.holds Try.pinned (OpenSpec.ofChange fnKeysSpec)

/-- ITS FALSE NEIGHBOUR: 'it returns false'. Refute it at one input. -/
def fnKeysWrong : ChangeSpec := { name := "fnKeys", fn := fun _ => fun
  | [d] => { results := [.lit (.bool false)], args := [d] }
  | _ => none }
def FnKeysWrongFalsely : Prop := fnKeysRow.holds Try.pinned (OpenSpec.ofChange fnKeysWrong)

/-- 'laws.FnMapLinear': WHATEVER THE INPUT: true; the input reads as it did. -/
def fnMapLinearSpec : ChangeSpec := { name := "fnMapLinear", fn := fun _ => fun
  | [d1, d2] => { results := [.lit (.bool true)], args := [d1, d2] }
  | _ => none }
def fnMapLinearRow : OpenClaim := { program := "ytjlpkfcdkmcjnaa", sum := "c1f10b3fdea83a320e2e147d78d8d2346c1a102f082ccb6c23b19f2f3aae8333", func := "loop.example/dataflow/laws.FnMapLinear", spec := "fnMapLinear", unfollowed := true, recurses := true, apart := false }
def FnMapLinearSaid : Prop := fnMapLinearRow.holds Try.pinned (OpenSpec.ofChange fnMapLinearSpec)

/-- ITS FALSE NEIGHBOUR: 'it returns false'. Refute it at one input. -/
def fnMapLinearWrong : ChangeSpec := { name := "fnMapLinear", fn := fun _ => fun
  | [d1, d2] => { results := [.lit (.bool false)], args := [d1, d2] }
  | _ => none }
def FnMapLinearWrongFalsely : Prop := fnMapLinearRow.holds Try.pinned (OpenSpec.ofChange fnMapLinearWrong)

/-- 'laws.FnExactMapTrace': WHATEVER THE INPUT: true; the input reads as it did. -/
def fnExactMapTraceSpec : ChangeSpec := { name := "fnExactMapTrace", fn := fun _ => fun
  | [d1, d2] => { results := [.lit (.bool true)], args := [d1, d2] }
  | _ => none }
def fnExactMapTraceRow : OpenClaim := { program := "ytjlpkfcdkmcjnaa", sum := "c1f10b3fdea83a320e2e147d78d8d2346c1a102f082ccb6c23b19f2f3aae8333", func := "loop.example/dataflow/laws.FnExactMapTrace", spec := "fnExactMapTrace", unfollowed := true, recurses := true, apart := false }
def FnExactMapTraceSaid : Prop := fnExactMapTraceRow.holds Try.pinned (OpenSpec.ofChange fnExactMapTraceSpec)

/-- ITS FALSE NEIGHBOUR: 'it returns false'. Refute it at one input. -/
def fnExactMapTraceWrong : ChangeSpec := { name := "fnExactMapTrace", fn := fun _ => fun
  | [d1, d2] => { results := [.lit (.bool false)], args := [d1, d2] }
  | _ => none }
def FnExactMapTraceWrongFalsely : Prop := fnExactMapTraceRow.holds Try.pinned (OpenSpec.ofChange fnExactMapTraceWrong)

/-- 'laws.FnExactTraceTimes': WHATEVER THE INPUT: true; the input reads as it did. -/
def fnExactTraceTimesSpec : ChangeSpec := { name := "fnExactTraceTimes", fn := fun _ => fun
  | [d] => { results := [.lit (.bool true)], args := [d] }
  | _ => none }
def fnExactTraceTimesRow : OpenClaim := { program := "ytjlpkfcdkmcjnaa", sum := "c1f10b3fdea83a320e2e147d78d8d2346c1a102f082ccb6c23b19f2f3aae8333", func := "loop.example/dataflow/laws.FnExactTraceTimes", spec := "fnExactTraceTimes", unfollowed := true, recurses := true, apart := false }
def FnExactTraceTimesSaid : Prop := fnExactTraceTimesRow.holds Try.pinned (OpenSpec.ofChange fnExactTraceTimesSpec)

/-- ITS FALSE NEIGHBOUR: 'it returns false'. Refute it at one input. -/
def fnExactTraceTimesWrong : ChangeSpec := { name := "fnExactTraceTimes", fn := fun _ => fun
  | [d] => { results := [.lit (.bool false)], args := [d] }
  | _ => none }
def FnExactTraceTimesWrongFalsely : Prop := fnExactTraceTimesRow.holds Try.pinned (OpenSpec.ofChange fnExactTraceTimesWrong)

/-- 'laws.FnExactValidInputs': WHATEVER THE INPUT: true; the input reads as it did. -/
def fnExactValidInputsSpec : ChangeSpec := { name := "fnExactValidInputs", fn := fun _ => fun
  | [d1, d2] => { results := [.lit (.bool true)], args := [d1, d2] }
  | _ => none }
def fnExactValidInputsRow : OpenClaim := { program := "ytjlpkfcdkmcjnaa", sum := "c1f10b3fdea83a320e2e147d78d8d2346c1a102f082ccb6c23b19f2f3aae8333", func := "loop.example/dataflow/laws.FnExactValidInputs", spec := "fnExactValidInputs", unfollowed := true, recurses := true, apart := false }
def FnExactValidInputsSaid : Prop := fnExactValidInputsRow.holds Try.pinned (OpenSpec.ofChange fnExactValidInputsSpec)

/-- ITS FALSE NEIGHBOUR: 'it returns false'. Refute it at one input. -/
def fnExactValidInputsWrong : ChangeSpec := { name := "fnExactValidInputs", fn := fun _ => fun
  | [d1, d2] => { results := [.lit (.bool false)], args := [d1, d2] }
  | _ => none }
def FnExactValidInputsWrongFalsely : Prop := fnExactValidInputsRow.holds Try.pinned (OpenSpec.ofChange fnExactValidInputsWrong)

/- THE SECOND FORM. 'bulk': how many values and letters a reading holds, each counted each time it is reached (what is shared counts as often as it is met; a slice's spare places count too). A statement '..UptoSaid' is the law's where the arguments, and the package variables that the reading takes, are together of bulk at most 1048576: NARROWER than '..Said'. Prove '..Said' where nothing that the law and all that it calls make is longer than what came in: it says more and counts as full. Else prove '..UptoSaid'. A law counts once. -/
mutual
def uptoBulk {H : Type} : DataW H → Nat
  | .lit (.string bytes) => bytes.length + 1
  | .lit _ => 1
  | .nil => 1
  | .ptr d => uptoBulk d + 1
  | .slice elems spare => uptoBulkAll elems + uptoBulkAll spare + 1
  | .agg parts => uptoBulkAll parts + 1
  | .iface _ d => uptoBulk d + 1
  | .map entries => uptoBulkEntries entries + 1
  | .held _ => 1
def uptoBulkAll {H : Type} : List (DataW H) → Nat
  | [] => 0
  | d :: r => uptoBulk d + uptoBulkAll r
def uptoBulkEntries {H : Type} : List (Lit × DataW H) → Nat
  | [] => 0
  | x :: r => uptoBulkEntry x + uptoBulkEntries r
def uptoBulkEntry {H : Type} : Lit × DataW H → Nat
  | (.string bytes, d) => bytes.length + uptoBulk d + 1
  | (_, d) => uptoBulk d + 1
 end
def uptoSmall : (H : Type) → List (DataW H) → Bool := fun _ ds => decide (uptoBulkAll ds ≤ 1048576)
def OpenSpec.upto (s : _root_.Go.ChangeSpec) : _root_.Go.OpenSpec := { _root_.Go.OpenSpec.ofChange s with cond := some uptoSmall }

/-- 'laws.FnFilter', WHERE WHAT IT READS IS OF BULK AT MOST 1048576: true; the input reads as it did. -/
def fnFilterUptoRow : OpenClaim := { program := "ytjlpkfcdkmcjnaa", sum := "c1f10b3fdea83a320e2e147d78d8d2346c1a102f082ccb6c23b19f2f3aae8333", func := "loop.example/dataflow/laws.FnFilter", spec := "fnFilter", unfollowed := true, recurses := true, apart := false, narrowed := true }
def FnFilterUptoSaid : Prop := fnFilterUptoRow.holds Try.pinned (OpenSpec.upto fnFilterSpec)

/-- 'laws.FnFilterLinear', WHERE WHAT IT READS IS OF BULK AT MOST 1048576: true; the input reads as it did. -/
def fnFilterLinearUptoRow : OpenClaim := { program := "ytjlpkfcdkmcjnaa", sum := "c1f10b3fdea83a320e2e147d78d8d2346c1a102f082ccb6c23b19f2f3aae8333", func := "loop.example/dataflow/laws.FnFilterLinear", spec := "fnFilterLinear", unfollowed := true, recurses := true, apart := false, narrowed := true }
def FnFilterLinearUptoSaid : Prop := fnFilterLinearUptoRow.holds Try.pinned (OpenSpec.upto fnFilterLinearSpec)

/-- 'laws.FnMapColumns', WHERE WHAT IT READS IS OF BULK AT MOST 1048576: true; the input reads as it did. -/
def fnMapColumnsUptoRow : OpenClaim := { program := "ytjlpkfcdkmcjnaa", sum := "c1f10b3fdea83a320e2e147d78d8d2346c1a102f082ccb6c23b19f2f3aae8333", func := "loop.example/dataflow/laws.FnMapColumns", spec := "fnMapColumns", unfollowed := true, recurses := true, apart := false, narrowed := true }
def FnMapColumnsUptoSaid : Prop := fnMapColumnsUptoRow.holds Try.pinned (OpenSpec.upto fnMapColumnsSpec)

/-- 'laws.FnWeightOf', WHERE WHAT IT READS IS OF BULK AT MOST 1048576: true; the input reads as it did. -/
def fnWeightOfUptoRow : OpenClaim := { program := "ytjlpkfcdkmcjnaa", sum := "c1f10b3fdea83a320e2e147d78d8d2346c1a102f082ccb6c23b19f2f3aae8333", func := "loop.example/dataflow/laws.FnWeightOf", spec := "fnWeightOf", unfollowed := true, recurses := true, apart := false, narrowed := true }
def FnWeightOfUptoSaid : Prop := fnWeightOfUptoRow.holds Try.pinned (OpenSpec.upto fnWeightOfSpec)

/-- 'laws.FnAddAssociative', WHERE WHAT IT READS IS OF BULK AT MOST 1048576: true; the input reads as it did. -/
def fnAddAssociativeUptoRow : OpenClaim := { program := "ytjlpkfcdkmcjnaa", sum := "c1f10b3fdea83a320e2e147d78d8d2346c1a102f082ccb6c23b19f2f3aae8333", func := "loop.example/dataflow/laws.FnAddAssociative", spec := "fnAddAssociative", unfollowed := true, recurses := true, apart := false, narrowed := true }
def FnAddAssociativeUptoSaid : Prop := fnAddAssociativeUptoRow.holds Try.pinned (OpenSpec.upto fnAddAssociativeSpec)

/-- 'laws.FnKeys', WHERE WHAT IT READS IS OF BULK AT MOST 1048576: true; the input reads as it did. -/
def fnKeysUptoRow : OpenClaim := { program := "ytjlpkfcdkmcjnaa", sum := "c1f10b3fdea83a320e2e147d78d8d2346c1a102f082ccb6c23b19f2f3aae8333", func := "loop.example/dataflow/laws.FnKeys", spec := "fnKeys", unfollowed := true, recurses := true, apart := false, narrowed := true }
def FnKeysUptoSaid : Prop := fnKeysUptoRow.holds Try.pinned (OpenSpec.upto fnKeysSpec)

/-- 'laws.FnMapLinear', WHERE WHAT IT READS IS OF BULK AT MOST 1048576: true; the input reads as it did. -/
def fnMapLinearUptoRow : OpenClaim := { program := "ytjlpkfcdkmcjnaa", sum := "c1f10b3fdea83a320e2e147d78d8d2346c1a102f082ccb6c23b19f2f3aae8333", func := "loop.example/dataflow/laws.FnMapLinear", spec := "fnMapLinear", unfollowed := true, recurses := true, apart := false, narrowed := true }
def FnMapLinearUptoSaid : Prop := fnMapLinearUptoRow.holds Try.pinned (OpenSpec.upto fnMapLinearSpec)

/-- 'laws.FnExactMapTrace', WHERE WHAT IT READS IS OF BULK AT MOST 1048576: true; the input reads as it did. -/
def fnExactMapTraceUptoRow : OpenClaim := { program := "ytjlpkfcdkmcjnaa", sum := "c1f10b3fdea83a320e2e147d78d8d2346c1a102f082ccb6c23b19f2f3aae8333", func := "loop.example/dataflow/laws.FnExactMapTrace", spec := "fnExactMapTrace", unfollowed := true, recurses := true, apart := false, narrowed := true }
def FnExactMapTraceUptoSaid : Prop := fnExactMapTraceUptoRow.holds Try.pinned (OpenSpec.upto fnExactMapTraceSpec)

/-- 'laws.FnExactTraceTimes', WHERE WHAT IT READS IS OF BULK AT MOST 1048576: true; the input reads as it did. -/
def fnExactTraceTimesUptoRow : OpenClaim := { program := "ytjlpkfcdkmcjnaa", sum := "c1f10b3fdea83a320e2e147d78d8d2346c1a102f082ccb6c23b19f2f3aae8333", func := "loop.example/dataflow/laws.FnExactTraceTimes", spec := "fnExactTraceTimes", unfollowed := true, recurses := true, apart := false, narrowed := true }
def FnExactTraceTimesUptoSaid : Prop := fnExactTraceTimesUptoRow.holds Try.pinned (OpenSpec.upto fnExactTraceTimesSpec)

/-- 'laws.FnExactValidInputs', WHERE WHAT IT READS IS OF BULK AT MOST 1048576: true; the input reads as it did. -/
def fnExactValidInputsUptoRow : OpenClaim := { program := "ytjlpkfcdkmcjnaa", sum := "c1f10b3fdea83a320e2e147d78d8d2346c1a102f082ccb6c23b19f2f3aae8333", func := "loop.example/dataflow/laws.FnExactValidInputs", spec := "fnExactValidInputs", unfollowed := true, recurses := true, apart := false, narrowed := true }
def FnExactValidInputsUptoSaid : Prop := fnExactValidInputsUptoRow.holds Try.pinned (OpenSpec.upto fnExactValidInputsSpec)

end Rows
end Go.Proofs.Ytjlpkfcdkmcjnaa
