/-
  No cell of these rows narrows 'for every input' (looked for: loops, veiled, ifaces, maps, wideKeys, modest, calm, conditions, laid).
  DERIVED. THE GIVEN ROWS OF THIS SEAT. 9 by the template 'for every input the law returns true; each argument reads behind the call as it read before'; 0 by the template 'total and deterministic' (their statements: YthefakiobpijiaaTotals.lean).
  GIVEN WITH THE SEED: the statements are not yours to turn. If you find one false, say at which input.
  Laid BY PROGRAM, IN A SANDBOX (cutbox-rows.mjs): the forced cells as the released guide's own fill.sh prints them over the translation bfc7fddb39073242… (all of the seat's roots in one cut). By AI agents, Wed Nov 11 2026. No macro, syntax, notation, axiom, sorry.
-/
import Derived.Test.YthefakiobpijiaaChecked
import GoSem.Claim
import GoSem.ClaimJoined
import GoSem.ClaimMapViews
import Derived.JoinedTies
import Derived.KernelRfl
namespace Go.Proofs.Ythefakiobpijiaa
/- THE CELL 'sum', in the pinned program and in every row, IS THE sha256 OF THE DUMP (.gsa) THAT YthefakiobpijiaaProg.lean LOADS. Nothing in Lean hashes anything: it is a label: what it is worth is what the hold of that sum in a sandbox is worth. -/
noncomputable def Try.pinned : Pinned := { name := "ythefakiobpijiaa", sum := "bfc7fddb39073242285cc7df22a367e6d00c68e6b5bd0538c4562657508f6ae8", checked := Try.checked }
namespace Rows
def none {H : Type} : Left H := { results := [], args := [] }

/-- 'laws.FnMergeEmpty': WHATEVER THE INPUT: true; the input reads as it did. -/
def fnMergeEmptySpec : ChangeSpec := { name := "fnMergeEmpty", fn := fun _ => fun
  | [d] => { results := [.lit (.bool true)], args := [d] }
  | _ => none }
def fnMergeEmptyRow : OpenClaim := { program := "ythefakiobpijiaa", sum := "bfc7fddb39073242285cc7df22a367e6d00c68e6b5bd0538c4562657508f6ae8", func := "loop.example/dataflow/laws.FnMergeEmpty", spec := "fnMergeEmpty", unfollowed := true, recurses := true, apart := false }
def FnMergeEmptySaid : Prop := fnMergeEmptyRow.holds Try.pinned (OpenSpec.ofChange fnMergeEmptySpec)

/-- ITS FALSE NEIGHBOUR: 'it returns false'. Refute it at one input. -/
def fnMergeEmptyWrong : ChangeSpec := { name := "fnMergeEmpty", fn := fun _ => fun
  | [d] => { results := [.lit (.bool false)], args := [d] }
  | _ => none }
def FnMergeEmptyWrongFalsely : Prop := fnMergeEmptyRow.holds Try.pinned (OpenSpec.ofChange fnMergeEmptyWrong)

/-- 'laws.FnExactSplitTrace': WHATEVER THE INPUT: true; the input reads as it did. -/
def fnExactSplitTraceSpec : ChangeSpec := { name := "fnExactSplitTrace", fn := fun _ => fun
  | [d1, d2] => { results := [.lit (.bool true)], args := [d1, d2] }
  | _ => none }
def fnExactSplitTraceRow : OpenClaim := { program := "ythefakiobpijiaa", sum := "bfc7fddb39073242285cc7df22a367e6d00c68e6b5bd0538c4562657508f6ae8", func := "loop.example/dataflow/laws.FnExactSplitTrace", spec := "fnExactSplitTrace", unfollowed := true, recurses := true, apart := false }
def FnExactSplitTraceSaid : Prop := fnExactSplitTraceRow.holds Try.pinned (OpenSpec.ofChange fnExactSplitTraceSpec)

/-- ITS FALSE NEIGHBOUR: 'it returns false'. Refute it at one input. -/
def fnExactSplitTraceWrong : ChangeSpec := { name := "fnExactSplitTrace", fn := fun _ => fun
  | [d1, d2] => { results := [.lit (.bool false)], args := [d1, d2] }
  | _ => none }
def FnExactSplitTraceWrongFalsely : Prop := fnExactSplitTraceRow.holds Try.pinned (OpenSpec.ofChange fnExactSplitTraceWrong)

/-- 'laws.FnAppendTwice': WHATEVER THE INPUT: true; the input reads as it did. -/
def fnAppendTwiceSpec : ChangeSpec := { name := "fnAppendTwice", fn := fun _ => fun
  | [d] => { results := [.lit (.bool true)], args := [d] }
  | _ => none }
def fnAppendTwiceRow : OpenClaim := { program := "ythefakiobpijiaa", sum := "bfc7fddb39073242285cc7df22a367e6d00c68e6b5bd0538c4562657508f6ae8", func := "loop.example/dataflow/laws.FnAppendTwice", spec := "fnAppendTwice", unfollowed := true, recurses := true, apart := false }
def FnAppendTwiceSaid : Prop := fnAppendTwiceRow.holds Try.pinned (OpenSpec.ofChange fnAppendTwiceSpec)

/-- ITS FALSE NEIGHBOUR: 'it returns false'. Refute it at one input. -/
def fnAppendTwiceWrong : ChangeSpec := { name := "fnAppendTwice", fn := fun _ => fun
  | [d] => { results := [.lit (.bool false)], args := [d] }
  | _ => none }
def FnAppendTwiceWrongFalsely : Prop := fnAppendTwiceRow.holds Try.pinned (OpenSpec.ofChange fnAppendTwiceWrong)

/-- 'laws.FnExactPolyAdd': WHATEVER THE INPUT: true; the input reads as it did. -/
def fnExactPolyAddSpec : ChangeSpec := { name := "fnExactPolyAdd", fn := fun _ => fun
  | [d1, d2] => { results := [.lit (.bool true)], args := [d1, d2] }
  | _ => none }
def fnExactPolyAddRow : OpenClaim := { program := "ythefakiobpijiaa", sum := "bfc7fddb39073242285cc7df22a367e6d00c68e6b5bd0538c4562657508f6ae8", func := "loop.example/dataflow/laws.FnExactPolyAdd", spec := "fnExactPolyAdd", unfollowed := true, recurses := true, apart := false }
def FnExactPolyAddSaid : Prop := fnExactPolyAddRow.holds Try.pinned (OpenSpec.ofChange fnExactPolyAddSpec)

/-- ITS FALSE NEIGHBOUR: 'it returns false'. Refute it at one input. -/
def fnExactPolyAddWrong : ChangeSpec := { name := "fnExactPolyAdd", fn := fun _ => fun
  | [d1, d2] => { results := [.lit (.bool false)], args := [d1, d2] }
  | _ => none }
def FnExactPolyAddWrongFalsely : Prop := fnExactPolyAddRow.holds Try.pinned (OpenSpec.ofChange fnExactPolyAddWrong)

/-- 'laws.FnPolyAdd': WHATEVER THE INPUT: true; the input reads as it did. -/
def fnPolyAddSpec : ChangeSpec := { name := "fnPolyAdd", fn := fun _ => fun
  | [d] => { results := [.lit (.bool true)], args := [d] }
  | _ => none }
def fnPolyAddRow : OpenClaim := { program := "ythefakiobpijiaa", sum := "bfc7fddb39073242285cc7df22a367e6d00c68e6b5bd0538c4562657508f6ae8", func := "loop.example/dataflow/laws.FnPolyAdd", spec := "fnPolyAdd", unfollowed := true, recurses := true, apart := false }
def FnPolyAddSaid : Prop := fnPolyAddRow.holds Try.pinned (OpenSpec.ofChange fnPolyAddSpec)

/-- ITS FALSE NEIGHBOUR: 'it returns false'. Refute it at one input. -/
def fnPolyAddWrong : ChangeSpec := { name := "fnPolyAdd", fn := fun _ => fun
  | [d] => { results := [.lit (.bool false)], args := [d] }
  | _ => none }
def FnPolyAddWrongFalsely : Prop := fnPolyAddRow.holds Try.pinned (OpenSpec.ofChange fnPolyAddWrong)

/-- 'laws.FnIsPositive': WHATEVER THE INPUT: true; the input reads as it did. -/
def fnIsPositiveSpec : ChangeSpec := { name := "fnIsPositive", fn := fun _ => fun
  | [d] => { results := [.lit (.bool true)], args := [d] }
  | _ => none }
def fnIsPositiveRow : OpenClaim := { program := "ythefakiobpijiaa", sum := "bfc7fddb39073242285cc7df22a367e6d00c68e6b5bd0538c4562657508f6ae8", func := "loop.example/dataflow/laws.FnIsPositive", spec := "fnIsPositive", apart := false }
def FnIsPositiveSaid : Prop := fnIsPositiveRow.holds Try.pinned (OpenSpec.ofChange fnIsPositiveSpec)

/-- ITS FALSE NEIGHBOUR: 'it returns false'. Refute it at one input. -/
def fnIsPositiveWrong : ChangeSpec := { name := "fnIsPositive", fn := fun _ => fun
  | [d] => { results := [.lit (.bool false)], args := [d] }
  | _ => none }
def FnIsPositiveWrongFalsely : Prop := fnIsPositiveRow.holds Try.pinned (OpenSpec.ofChange fnIsPositiveWrong)

/-- 'laws.FnIsLinear': WHATEVER THE INPUT: true; the input reads as it did. -/
def fnIsLinearSpec : ChangeSpec := { name := "fnIsLinear", fn := fun _ => fun
  | [d] => { results := [.lit (.bool true)], args := [d] }
  | _ => none }
def fnIsLinearRow : OpenClaim := { program := "ythefakiobpijiaa", sum := "bfc7fddb39073242285cc7df22a367e6d00c68e6b5bd0538c4562657508f6ae8", func := "loop.example/dataflow/laws.FnIsLinear", spec := "fnIsLinear", apart := false }
def FnIsLinearSaid : Prop := fnIsLinearRow.holds Try.pinned (OpenSpec.ofChange fnIsLinearSpec)

/-- ITS FALSE NEIGHBOUR: 'it returns false'. Refute it at one input. -/
def fnIsLinearWrong : ChangeSpec := { name := "fnIsLinear", fn := fun _ => fun
  | [d] => { results := [.lit (.bool false)], args := [d] }
  | _ => none }
def FnIsLinearWrongFalsely : Prop := fnIsLinearRow.holds Try.pinned (OpenSpec.ofChange fnIsLinearWrong)

/-- 'laws.FnExactChecksum': WHATEVER THE INPUT: true; the input reads as it did. -/
def fnExactChecksumSpec : ChangeSpec := { name := "fnExactChecksum", fn := fun _ => fun
  | [d] => { results := [.lit (.bool true)], args := [d] }
  | _ => none }
def fnExactChecksumRow : OpenClaim := { program := "ythefakiobpijiaa", sum := "bfc7fddb39073242285cc7df22a367e6d00c68e6b5bd0538c4562657508f6ae8", func := "loop.example/dataflow/laws.FnExactChecksum", spec := "fnExactChecksum", apart := false }
def FnExactChecksumSaid : Prop := fnExactChecksumRow.holds Try.pinned (OpenSpec.ofChange fnExactChecksumSpec)

/-- ITS FALSE NEIGHBOUR: 'it returns false'. Refute it at one input. -/
def fnExactChecksumWrong : ChangeSpec := { name := "fnExactChecksum", fn := fun _ => fun
  | [d] => { results := [.lit (.bool false)], args := [d] }
  | _ => none }
def FnExactChecksumWrongFalsely : Prop := fnExactChecksumRow.holds Try.pinned (OpenSpec.ofChange fnExactChecksumWrong)

/-- 'laws.FnExactPlanWidths': WHATEVER THE INPUT: true; the input reads as it did. -/
def fnExactPlanWidthsSpec : ChangeSpec := { name := "fnExactPlanWidths", fn := fun _ => fun
  | [d1, d2] => { results := [.lit (.bool true)], args := [d1, d2] }
  | _ => none }
def fnExactPlanWidthsRow : OpenClaim := { program := "ythefakiobpijiaa", sum := "bfc7fddb39073242285cc7df22a367e6d00c68e6b5bd0538c4562657508f6ae8", func := "loop.example/dataflow/laws.FnExactPlanWidths", spec := "fnExactPlanWidths", unfollowed := true, recurses := true, apart := false }
def FnExactPlanWidthsSaid : Prop := fnExactPlanWidthsRow.holds Try.pinned (OpenSpec.ofChange fnExactPlanWidthsSpec)

/-- ITS FALSE NEIGHBOUR: 'it returns false'. Refute it at one input. -/
def fnExactPlanWidthsWrong : ChangeSpec := { name := "fnExactPlanWidths", fn := fun _ => fun
  | [d1, d2] => { results := [.lit (.bool false)], args := [d1, d2] }
  | _ => none }
def FnExactPlanWidthsWrongFalsely : Prop := fnExactPlanWidthsRow.holds Try.pinned (OpenSpec.ofChange fnExactPlanWidthsWrong)

/- THE SECOND FORM. 'bulk': how many values and letters a reading holds, each counted each time it is reached (what is shared counts as often as it is met; a slice's spare places count too). A statement '..UptoSaid' is the law's where the arguments, and the package variables that the reading takes, are together of bulk at most 1048576: NARROWER than '..Said'. Prove '..Said' where nothing that the law and all that it calls make is longer than what came in: it says more and counts as full. Else prove '..UptoSaid'. A law counts once. -/
mutual
def uptoBulk {H : Type} : DataW H → Nat
  | .lit (.string bytes) => bytes.length + 1
  | .lit _ => 1
  | .nil => 1
  | .ptr d => uptoBulk d + 1
  | .slice elems spare => uptoBulkAll elems + uptoBulkAll spare + 1
  | .agg parts => uptoBulkAll parts + 1
  | .iface _ d => uptoBulk d + 1
  | .map entries => uptoBulkEntries entries + 1
  | .held _ => 1
def uptoBulkAll {H : Type} : List (DataW H) → Nat
  | [] => 0
  | d :: r => uptoBulk d + uptoBulkAll r
def uptoBulkEntries {H : Type} : List (Lit × DataW H) → Nat
  | [] => 0
  | x :: r => uptoBulkEntry x + uptoBulkEntries r
def uptoBulkEntry {H : Type} : Lit × DataW H → Nat
  | (.string bytes, d) => bytes.length + uptoBulk d + 1
  | (_, d) => uptoBulk d + 1
 end
def uptoSmall : (H : Type) → List (DataW H) → Bool := fun _ ds => decide (uptoBulkAll ds ≤ 1048576)
def OpenSpec.upto (s : _root_.Go.ChangeSpec) : _root_.Go.OpenSpec := { _root_.Go.OpenSpec.ofChange s with cond := some uptoSmall }

/-- 'laws.FnMergeEmpty', WHERE WHAT IT READS IS OF BULK AT MOST 1048576: true; the input reads as it did. -/
def fnMergeEmptyUptoRow : OpenClaim := { program := "ythefakiobpijiaa", sum := "bfc7fddb39073242285cc7df22a367e6d00c68e6b5bd0538c4562657508f6ae8", func := "loop.example/dataflow/laws.FnMergeEmpty", spec := "fnMergeEmpty", unfollowed := true, recurses := true, apart := false, narrowed := true }
def FnMergeEmptyUptoSaid : Prop := fnMergeEmptyUptoRow.holds Try.pinned (OpenSpec.upto fnMergeEmptySpec)

/-- 'laws.FnExactSplitTrace', WHERE WHAT IT READS IS OF BULK AT MOST 1048576: true; the input reads as it did. -/
def fnExactSplitTraceUptoRow : OpenClaim := { program := "ythefakiobpijiaa", sum := "bfc7fddb39073242285cc7df22a367e6d00c68e6b5bd0538c4562657508f6ae8", func := "loop.example/dataflow/laws.FnExactSplitTrace", spec := "fnExactSplitTrace", unfollowed := true, recurses := true, apart := false, narrowed := true }
def FnExactSplitTraceUptoSaid : Prop := fnExactSplitTraceUptoRow.holds Try.pinned (OpenSpec.upto fnExactSplitTraceSpec)

/-- 'laws.FnAppendTwice', WHERE WHAT IT READS IS OF BULK AT MOST 1048576: true; the input reads as it did. -/
def fnAppendTwiceUptoRow : OpenClaim := { program := "ythefakiobpijiaa", sum := "bfc7fddb39073242285cc7df22a367e6d00c68e6b5bd0538c4562657508f6ae8", func := "loop.example/dataflow/laws.FnAppendTwice", spec := "fnAppendTwice", unfollowed := true, recurses := true, apart := false, narrowed := true }
def FnAppendTwiceUptoSaid : Prop := fnAppendTwiceUptoRow.holds Try.pinned (OpenSpec.upto fnAppendTwiceSpec)

/-- 'laws.FnExactPolyAdd', WHERE WHAT IT READS IS OF BULK AT MOST 1048576: true; the input reads as it did. -/
def fnExactPolyAddUptoRow : OpenClaim := { program := "ythefakiobpijiaa", sum := "bfc7fddb39073242285cc7df22a367e6d00c68e6b5bd0538c4562657508f6ae8", func := "loop.example/dataflow/laws.FnExactPolyAdd", spec := "fnExactPolyAdd", unfollowed := true, recurses := true, apart := false, narrowed := true }
def FnExactPolyAddUptoSaid : Prop := fnExactPolyAddUptoRow.holds Try.pinned (OpenSpec.upto fnExactPolyAddSpec)

/-- 'laws.FnPolyAdd', WHERE WHAT IT READS IS OF BULK AT MOST 1048576: true; the input reads as it did. -/
def fnPolyAddUptoRow : OpenClaim := { program := "ythefakiobpijiaa", sum := "bfc7fddb39073242285cc7df22a367e6d00c68e6b5bd0538c4562657508f6ae8", func := "loop.example/dataflow/laws.FnPolyAdd", spec := "fnPolyAdd", unfollowed := true, recurses := true, apart := false, narrowed := true }
def FnPolyAddUptoSaid : Prop := fnPolyAddUptoRow.holds Try.pinned (OpenSpec.upto fnPolyAddSpec)

/-- 'laws.FnIsPositive', WHERE WHAT IT READS IS OF BULK AT MOST 1048576: true; the input reads as it did. -/
def fnIsPositiveUptoRow : OpenClaim := { program := "ythefakiobpijiaa", sum := "bfc7fddb39073242285cc7df22a367e6d00c68e6b5bd0538c4562657508f6ae8", func := "loop.example/dataflow/laws.FnIsPositive", spec := "fnIsPositive", apart := false, narrowed := true }
def FnIsPositiveUptoSaid : Prop := fnIsPositiveUptoRow.holds Try.pinned (OpenSpec.upto fnIsPositiveSpec)

/-- 'laws.FnIsLinear', WHERE WHAT IT READS IS OF BULK AT MOST 1048576: true; the input reads as it did. -/
def fnIsLinearUptoRow : OpenClaim := { program := "ythefakiobpijiaa", sum := "bfc7fddb39073242285cc7df22a367e6d00c68e6b5bd0538c4562657508f6ae8", func := "loop.example/dataflow/laws.FnIsLinear", spec := "fnIsLinear", apart := false, narrowed := true }
def FnIsLinearUptoSaid : Prop := fnIsLinearUptoRow.holds Try.pinned (OpenSpec.upto fnIsLinearSpec)

/-- 'laws.FnExactChecksum', WHERE WHAT IT READS IS OF BULK AT MOST 1048576: true; the input reads as it did. -/
def fnExactChecksumUptoRow : OpenClaim := { program := "ythefakiobpijiaa", sum := "bfc7fddb39073242285cc7df22a367e6d00c68e6b5bd0538c4562657508f6ae8", func := "loop.example/dataflow/laws.FnExactChecksum", spec := "fnExactChecksum", apart := false, narrowed := true }
def FnExactChecksumUptoSaid : Prop := fnExactChecksumUptoRow.holds Try.pinned (OpenSpec.upto fnExactChecksumSpec)

/-- 'laws.FnExactPlanWidths', WHERE WHAT IT READS IS OF BULK AT MOST 1048576: true; the input reads as it did. -/
def fnExactPlanWidthsUptoRow : OpenClaim := { program := "ythefakiobpijiaa", sum := "bfc7fddb39073242285cc7df22a367e6d00c68e6b5bd0538c4562657508f6ae8", func := "loop.example/dataflow/laws.FnExactPlanWidths", spec := "fnExactPlanWidths", unfollowed := true, recurses := true, apart := false, narrowed := true }
def FnExactPlanWidthsUptoSaid : Prop := fnExactPlanWidthsUptoRow.holds Try.pinned (OpenSpec.upto fnExactPlanWidthsSpec)

end Rows
end Go.Proofs.Ythefakiobpijiaa
