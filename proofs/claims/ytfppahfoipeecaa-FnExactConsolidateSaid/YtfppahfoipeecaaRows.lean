/-
  No cell of these rows narrows 'for every input' (looked for: loops, veiled, ifaces, maps, wideKeys, modest, calm, conditions, laid).
  DERIVED. THE GIVEN ROWS OF THIS SEAT. 12 by the template 'for every input the law returns true; each argument reads behind the call as it read before'; 0 by the template 'total and deterministic' (their statements: YtfppahfoipeecaaTotals.lean).
  GIVEN WITH THE SEED: the statements are not yours to turn. If you find one false, say at which input.
  Laid BY PROGRAM, IN A SANDBOX (cutbox-rows.mjs): the forced cells as the released guide's own fill.sh prints them over the translation cb623db21b603d46… (all of the seat's roots in one cut). By AI agents, Wed Nov 11 2026. No macro, syntax, notation, axiom, sorry.
-/
import Derived.Test.YtfppahfoipeecaaChecked
import GoSem.Claim
import GoSem.ClaimJoined
import GoSem.ClaimMapViews
import Derived.JoinedTies
import Derived.KernelRfl
namespace Go.Proofs.Ytfppahfoipeecaa
/- THE CELL 'sum', in the pinned program and in every row, IS THE sha256 OF THE DUMP (.gsa) THAT YtfppahfoipeecaaProg.lean LOADS. Nothing in Lean hashes anything: it is a label: what it is worth is what the hold of that sum in a sandbox is worth. -/
noncomputable def Try.pinned : Pinned := { name := "ytfppahfoipeecaa", sum := "cb623db21b603d461f43a9900e719c31867e60a478df658196a8e96b18e9b2de", checked := Try.checked }
namespace Rows
def none {H : Type} : Left H := { results := [], args := [] }

/-- 'laws.FnExactKeys': WHATEVER THE INPUT: true; the input reads as it did. -/
def fnExactKeysSpec : ChangeSpec := { name := "fnExactKeys", fn := fun _ => fun
  | [d1, d2] => { results := [.lit (.bool true)], args := [d1, d2] }
  | _ => none }
def fnExactKeysRow : OpenClaim := { program := "ytfppahfoipeecaa", sum := "cb623db21b603d461f43a9900e719c31867e60a478df658196a8e96b18e9b2de", func := "loop.example/dataflow/laws.FnExactKeys", spec := "fnExactKeys", unfollowed := true, recurses := true, plainKeys := false, apart := false }
def FnExactKeysSaid : Prop := fnExactKeysRow.holds Try.pinned (OpenSpec.ofChange fnExactKeysSpec)

/-- ITS FALSE NEIGHBOUR: 'it returns false'. Refute it at one input. -/
def fnExactKeysWrong : ChangeSpec := { name := "fnExactKeys", fn := fun _ => fun
  | [d1, d2] => { results := [.lit (.bool false)], args := [d1, d2] }
  | _ => none }
def FnExactKeysWrongFalsely : Prop := fnExactKeysRow.holds Try.pinned (OpenSpec.ofChange fnExactKeysWrong)

/-- 'laws.FnExactFilterTrace': WHATEVER THE INPUT: true; the input reads as it did. -/
def fnExactFilterTraceSpec : ChangeSpec := { name := "fnExactFilterTrace", fn := fun _ => fun
  | [d1, d2] => { results := [.lit (.bool true)], args := [d1, d2] }
  | _ => none }
def fnExactFilterTraceRow : OpenClaim := { program := "ytfppahfoipeecaa", sum := "cb623db21b603d461f43a9900e719c31867e60a478df658196a8e96b18e9b2de", func := "loop.example/dataflow/laws.FnExactFilterTrace", spec := "fnExactFilterTrace", unfollowed := true, recurses := true, plainKeys := false, apart := false }
def FnExactFilterTraceSaid : Prop := fnExactFilterTraceRow.holds Try.pinned (OpenSpec.ofChange fnExactFilterTraceSpec)

/-- ITS FALSE NEIGHBOUR: 'it returns false'. Refute it at one input. -/
def fnExactFilterTraceWrong : ChangeSpec := { name := "fnExactFilterTrace", fn := fun _ => fun
  | [d1, d2] => { results := [.lit (.bool false)], args := [d1, d2] }
  | _ => none }
def FnExactFilterTraceWrongFalsely : Prop := fnExactFilterTraceRow.holds Try.pinned (OpenSpec.ofChange fnExactFilterTraceWrong)

/-- 'laws.FnExactMapTrace': WHATEVER THE INPUT: true; the input reads as it did. -/
def fnExactMapTraceSpec : ChangeSpec := { name := "fnExactMapTrace", fn := fun _ => fun
  | [d1, d2] => { results := [.lit (.bool true)], args := [d1, d2] }
  | _ => none }
def fnExactMapTraceRow : OpenClaim := { program := "ytfppahfoipeecaa", sum := "cb623db21b603d461f43a9900e719c31867e60a478df658196a8e96b18e9b2de", func := "loop.example/dataflow/laws.FnExactMapTrace", spec := "fnExactMapTrace", unfollowed := true, recurses := true, plainKeys := false, apart := false }
def FnExactMapTraceSaid : Prop := fnExactMapTraceRow.holds Try.pinned (OpenSpec.ofChange fnExactMapTraceSpec)

/-- ITS FALSE NEIGHBOUR: 'it returns false'. Refute it at one input. -/
def fnExactMapTraceWrong : ChangeSpec := { name := "fnExactMapTrace", fn := fun _ => fun
  | [d1, d2] => { results := [.lit (.bool false)], args := [d1, d2] }
  | _ => none }
def FnExactMapTraceWrongFalsely : Prop := fnExactMapTraceRow.holds Try.pinned (OpenSpec.ofChange fnExactMapTraceWrong)

/-- 'laws.FnExactConsolidate': WHATEVER THE INPUT: true; the input reads as it did. -/
def fnExactConsolidateSpec : ChangeSpec := { name := "fnExactConsolidate", fn := fun _ => fun
  | [d] => { results := [.lit (.bool true)], args := [d] }
  | _ => none }
def fnExactConsolidateRow : OpenClaim := { program := "ytfppahfoipeecaa", sum := "cb623db21b603d461f43a9900e719c31867e60a478df658196a8e96b18e9b2de", func := "loop.example/dataflow/laws.FnExactConsolidate", spec := "fnExactConsolidate", unfollowed := true, recurses := true, plainKeys := false, apart := false }
def FnExactConsolidateSaid : Prop := fnExactConsolidateRow.holds Try.pinned (OpenSpec.ofChange fnExactConsolidateSpec)

/-- ITS FALSE NEIGHBOUR: 'it returns false'. Refute it at one input. -/
def fnExactConsolidateWrong : ChangeSpec := { name := "fnExactConsolidate", fn := fun _ => fun
  | [d] => { results := [.lit (.bool false)], args := [d] }
  | _ => none }
def FnExactConsolidateWrongFalsely : Prop := fnExactConsolidateRow.holds Try.pinned (OpenSpec.ofChange fnExactConsolidateWrong)

/-- 'laws.FnExactTraceTimes': WHATEVER THE INPUT: true; the input reads as it did. -/
def fnExactTraceTimesSpec : ChangeSpec := { name := "fnExactTraceTimes", fn := fun _ => fun
  | [d] => { results := [.lit (.bool true)], args := [d] }
  | _ => none }
def fnExactTraceTimesRow : OpenClaim := { program := "ytfppahfoipeecaa", sum := "cb623db21b603d461f43a9900e719c31867e60a478df658196a8e96b18e9b2de", func := "loop.example/dataflow/laws.FnExactTraceTimes", spec := "fnExactTraceTimes", unfollowed := true, recurses := true, plainKeys := false, apart := false }
def FnExactTraceTimesSaid : Prop := fnExactTraceTimesRow.holds Try.pinned (OpenSpec.ofChange fnExactTraceTimesSpec)

/-- ITS FALSE NEIGHBOUR: 'it returns false'. Refute it at one input. -/
def fnExactTraceTimesWrong : ChangeSpec := { name := "fnExactTraceTimes", fn := fun _ => fun
  | [d] => { results := [.lit (.bool false)], args := [d] }
  | _ => none }
def FnExactTraceTimesWrongFalsely : Prop := fnExactTraceTimesRow.holds Try.pinned (OpenSpec.ofChange fnExactTraceTimesWrong)

/-- 'laws.FnExactJoin': WHATEVER THE INPUT: true; the input reads as it did. -/
def fnExactJoinSpec : ChangeSpec := { name := "fnExactJoin", fn := fun _ => fun
  | [d1, d2, d3] => { results := [.lit (.bool true)], args := [d1, d2, d3] }
  | _ => none }
def fnExactJoinRow : OpenClaim := { program := "ytfppahfoipeecaa", sum := "cb623db21b603d461f43a9900e719c31867e60a478df658196a8e96b18e9b2de", func := "loop.example/dataflow/laws.FnExactJoin", spec := "fnExactJoin", unfollowed := true, recurses := true, plainKeys := false, apart := false }
def FnExactJoinSaid : Prop := fnExactJoinRow.holds Try.pinned (OpenSpec.ofChange fnExactJoinSpec)

/-- ITS FALSE NEIGHBOUR: 'it returns false'. Refute it at one input. -/
def fnExactJoinWrong : ChangeSpec := { name := "fnExactJoin", fn := fun _ => fun
  | [d1, d2, d3] => { results := [.lit (.bool false)], args := [d1, d2, d3] }
  | _ => none }
def FnExactJoinWrongFalsely : Prop := fnExactJoinRow.holds Try.pinned (OpenSpec.ofChange fnExactJoinWrong)

/-- 'laws.FnExactSemiJoin': WHATEVER THE INPUT: true; the input reads as it did. -/
def fnExactSemiJoinSpec : ChangeSpec := { name := "fnExactSemiJoin", fn := fun _ => fun
  | [d1, d2, d3] => { results := [.lit (.bool true)], args := [d1, d2, d3] }
  | _ => none }
def fnExactSemiJoinRow : OpenClaim := { program := "ytfppahfoipeecaa", sum := "cb623db21b603d461f43a9900e719c31867e60a478df658196a8e96b18e9b2de", func := "loop.example/dataflow/laws.FnExactSemiJoin", spec := "fnExactSemiJoin", unfollowed := true, recurses := true, plainKeys := false, apart := false }
def FnExactSemiJoinSaid : Prop := fnExactSemiJoinRow.holds Try.pinned (OpenSpec.ofChange fnExactSemiJoinSpec)

/-- ITS FALSE NEIGHBOUR: 'it returns false'. Refute it at one input. -/
def fnExactSemiJoinWrong : ChangeSpec := { name := "fnExactSemiJoin", fn := fun _ => fun
  | [d1, d2, d3] => { results := [.lit (.bool false)], args := [d1, d2, d3] }
  | _ => none }
def FnExactSemiJoinWrongFalsely : Prop := fnExactSemiJoinRow.holds Try.pinned (OpenSpec.ofChange fnExactSemiJoinWrong)

/-- 'laws.FnExactAntiJoin': WHATEVER THE INPUT: true; the input reads as it did. -/
def fnExactAntiJoinSpec : ChangeSpec := { name := "fnExactAntiJoin", fn := fun _ => fun
  | [d1, d2, d3] => { results := [.lit (.bool true)], args := [d1, d2, d3] }
  | _ => none }
def fnExactAntiJoinRow : OpenClaim := { program := "ytfppahfoipeecaa", sum := "cb623db21b603d461f43a9900e719c31867e60a478df658196a8e96b18e9b2de", func := "loop.example/dataflow/laws.FnExactAntiJoin", spec := "fnExactAntiJoin", unfollowed := true, recurses := true, plainKeys := false, apart := false }
def FnExactAntiJoinSaid : Prop := fnExactAntiJoinRow.holds Try.pinned (OpenSpec.ofChange fnExactAntiJoinSpec)

/-- ITS FALSE NEIGHBOUR: 'it returns false'. Refute it at one input. -/
def fnExactAntiJoinWrong : ChangeSpec := { name := "fnExactAntiJoin", fn := fun _ => fun
  | [d1, d2, d3] => { results := [.lit (.bool false)], args := [d1, d2, d3] }
  | _ => none }
def FnExactAntiJoinWrongFalsely : Prop := fnExactAntiJoinRow.holds Try.pinned (OpenSpec.ofChange fnExactAntiJoinWrong)

/-- 'laws.FnExactFirstRows': WHATEVER THE INPUT: true; the input reads as it did. -/
def fnExactFirstRowsSpec : ChangeSpec := { name := "fnExactFirstRows", fn := fun _ => fun
  | [d1, d2, d3] => { results := [.lit (.bool true)], args := [d1, d2, d3] }
  | _ => none }
def fnExactFirstRowsRow : OpenClaim := { program := "ytfppahfoipeecaa", sum := "cb623db21b603d461f43a9900e719c31867e60a478df658196a8e96b18e9b2de", func := "loop.example/dataflow/laws.FnExactFirstRows", spec := "fnExactFirstRows", unfollowed := true, recurses := true, plainKeys := false, apart := false }
def FnExactFirstRowsSaid : Prop := fnExactFirstRowsRow.holds Try.pinned (OpenSpec.ofChange fnExactFirstRowsSpec)

/-- ITS FALSE NEIGHBOUR: 'it returns false'. Refute it at one input. -/
def fnExactFirstRowsWrong : ChangeSpec := { name := "fnExactFirstRows", fn := fun _ => fun
  | [d1, d2, d3] => { results := [.lit (.bool false)], args := [d1, d2, d3] }
  | _ => none }
def FnExactFirstRowsWrongFalsely : Prop := fnExactFirstRowsRow.holds Try.pinned (OpenSpec.ofChange fnExactFirstRowsWrong)

/-- 'laws.FnExactReduce': WHATEVER THE INPUT: true; the input reads as it did. -/
def fnExactReduceSpec : ChangeSpec := { name := "fnExactReduce", fn := fun _ => fun
  | [d1, d2, d3, d4] => { results := [.lit (.bool true)], args := [d1, d2, d3, d4] }
  | _ => none }
def fnExactReduceRow : OpenClaim := { program := "ytfppahfoipeecaa", sum := "cb623db21b603d461f43a9900e719c31867e60a478df658196a8e96b18e9b2de", func := "loop.example/dataflow/laws.FnExactReduce", spec := "fnExactReduce", unfollowed := true, recurses := true, plainKeys := false, apart := false }
def FnExactReduceSaid : Prop := fnExactReduceRow.holds Try.pinned (OpenSpec.ofChange fnExactReduceSpec)

/-- ITS FALSE NEIGHBOUR: 'it returns false'. Refute it at one input. -/
def fnExactReduceWrong : ChangeSpec := { name := "fnExactReduce", fn := fun _ => fun
  | [d1, d2, d3, d4] => { results := [.lit (.bool false)], args := [d1, d2, d3, d4] }
  | _ => none }
def FnExactReduceWrongFalsely : Prop := fnExactReduceRow.holds Try.pinned (OpenSpec.ofChange fnExactReduceWrong)

/-- 'laws.FnExactIsLinear': WHATEVER THE INPUT: true; the input reads as it did. -/
def fnExactIsLinearSpec : ChangeSpec := { name := "fnExactIsLinear", fn := fun _ => fun
  | [d] => { results := [.lit (.bool true)], args := [d] }
  | _ => none }
def fnExactIsLinearRow : OpenClaim := { program := "ytfppahfoipeecaa", sum := "cb623db21b603d461f43a9900e719c31867e60a478df658196a8e96b18e9b2de", func := "loop.example/dataflow/laws.FnExactIsLinear", spec := "fnExactIsLinear", plainKeys := false, apart := false }
def FnExactIsLinearSaid : Prop := fnExactIsLinearRow.holds Try.pinned (OpenSpec.ofChange fnExactIsLinearSpec)

/-- ITS FALSE NEIGHBOUR: 'it returns false'. Refute it at one input. -/
def fnExactIsLinearWrong : ChangeSpec := { name := "fnExactIsLinear", fn := fun _ => fun
  | [d] => { results := [.lit (.bool false)], args := [d] }
  | _ => none }
def FnExactIsLinearWrongFalsely : Prop := fnExactIsLinearRow.holds Try.pinned (OpenSpec.ofChange fnExactIsLinearWrong)

/-- 'laws.FnExactDeltaDistinct': WHATEVER THE INPUT: true; the input reads as it did. -/
def fnExactDeltaDistinctSpec : ChangeSpec := { name := "fnExactDeltaDistinct", fn := fun _ => fun
  | [d1, d2] => { results := [.lit (.bool true)], args := [d1, d2] }
  | _ => none }
def fnExactDeltaDistinctRow : OpenClaim := { program := "ytfppahfoipeecaa", sum := "cb623db21b603d461f43a9900e719c31867e60a478df658196a8e96b18e9b2de", func := "loop.example/dataflow/laws.FnExactDeltaDistinct", spec := "fnExactDeltaDistinct", unfollowed := true, recurses := true, plainKeys := false, apart := false }
def FnExactDeltaDistinctSaid : Prop := fnExactDeltaDistinctRow.holds Try.pinned (OpenSpec.ofChange fnExactDeltaDistinctSpec)

/-- ITS FALSE NEIGHBOUR: 'it returns false'. Refute it at one input. -/
def fnExactDeltaDistinctWrong : ChangeSpec := { name := "fnExactDeltaDistinct", fn := fun _ => fun
  | [d1, d2] => { results := [.lit (.bool false)], args := [d1, d2] }
  | _ => none }
def FnExactDeltaDistinctWrongFalsely : Prop := fnExactDeltaDistinctRow.holds Try.pinned (OpenSpec.ofChange fnExactDeltaDistinctWrong)

/- THE SECOND FORM. 'bulk': how many values and letters a reading holds, each counted each time it is reached (what is shared counts as often as it is met; a slice's spare places count too). A statement '..UptoSaid' is the law's where the arguments, and the package variables that the reading takes, are together of bulk at most 1048576: NARROWER than '..Said'. Prove '..Said' where nothing that the law and all that it calls make is longer than what came in: it says more and counts as full. Else prove '..UptoSaid'. A law counts once. -/
mutual
def uptoBulk {H : Type} : DataW H → Nat
  | .lit (.string bytes) => bytes.length + 1
  | .lit _ => 1
  | .nil => 1
  | .ptr d => uptoBulk d + 1
  | .slice elems spare => uptoBulkAll elems + uptoBulkAll spare + 1
  | .agg parts => uptoBulkAll parts + 1
  | .iface _ d => uptoBulk d + 1
  | .map entries => uptoBulkEntries entries + 1
  | .held _ => 1
def uptoBulkAll {H : Type} : List (DataW H) → Nat
  | [] => 0
  | d :: r => uptoBulk d + uptoBulkAll r
def uptoBulkEntries {H : Type} : List (Lit × DataW H) → Nat
  | [] => 0
  | x :: r => uptoBulkEntry x + uptoBulkEntries r
def uptoBulkEntry {H : Type} : Lit × DataW H → Nat
  | (.string bytes, d) => bytes.length + uptoBulk d + 1
  | (_, d) => uptoBulk d + 1
 end
def uptoSmall : (H : Type) → List (DataW H) → Bool := fun _ ds => decide (uptoBulkAll ds ≤ 1048576)
def OpenSpec.upto (s : _root_.Go.ChangeSpec) : _root_.Go.OpenSpec := { _root_.Go.OpenSpec.ofChange s with cond := some uptoSmall }

/-- 'laws.FnExactKeys', WHERE WHAT IT READS IS OF BULK AT MOST 1048576: true; the input reads as it did. -/
def fnExactKeysUptoRow : OpenClaim := { program := "ytfppahfoipeecaa", sum := "cb623db21b603d461f43a9900e719c31867e60a478df658196a8e96b18e9b2de", func := "loop.example/dataflow/laws.FnExactKeys", spec := "fnExactKeys", unfollowed := true, recurses := true, plainKeys := false, apart := false, narrowed := true }
def FnExactKeysUptoSaid : Prop := fnExactKeysUptoRow.holds Try.pinned (OpenSpec.upto fnExactKeysSpec)

/-- 'laws.FnExactFilterTrace', WHERE WHAT IT READS IS OF BULK AT MOST 1048576: true; the input reads as it did. -/
def fnExactFilterTraceUptoRow : OpenClaim := { program := "ytfppahfoipeecaa", sum := "cb623db21b603d461f43a9900e719c31867e60a478df658196a8e96b18e9b2de", func := "loop.example/dataflow/laws.FnExactFilterTrace", spec := "fnExactFilterTrace", unfollowed := true, recurses := true, plainKeys := false, apart := false, narrowed := true }
def FnExactFilterTraceUptoSaid : Prop := fnExactFilterTraceUptoRow.holds Try.pinned (OpenSpec.upto fnExactFilterTraceSpec)

/-- 'laws.FnExactMapTrace', WHERE WHAT IT READS IS OF BULK AT MOST 1048576: true; the input reads as it did. -/
def fnExactMapTraceUptoRow : OpenClaim := { program := "ytfppahfoipeecaa", sum := "cb623db21b603d461f43a9900e719c31867e60a478df658196a8e96b18e9b2de", func := "loop.example/dataflow/laws.FnExactMapTrace", spec := "fnExactMapTrace", unfollowed := true, recurses := true, plainKeys := false, apart := false, narrowed := true }
def FnExactMapTraceUptoSaid : Prop := fnExactMapTraceUptoRow.holds Try.pinned (OpenSpec.upto fnExactMapTraceSpec)

/-- 'laws.FnExactConsolidate', WHERE WHAT IT READS IS OF BULK AT MOST 1048576: true; the input reads as it did. -/
def fnExactConsolidateUptoRow : OpenClaim := { program := "ytfppahfoipeecaa", sum := "cb623db21b603d461f43a9900e719c31867e60a478df658196a8e96b18e9b2de", func := "loop.example/dataflow/laws.FnExactConsolidate", spec := "fnExactConsolidate", unfollowed := true, recurses := true, plainKeys := false, apart := false, narrowed := true }
def FnExactConsolidateUptoSaid : Prop := fnExactConsolidateUptoRow.holds Try.pinned (OpenSpec.upto fnExactConsolidateSpec)

/-- 'laws.FnExactTraceTimes', WHERE WHAT IT READS IS OF BULK AT MOST 1048576: true; the input reads as it did. -/
def fnExactTraceTimesUptoRow : OpenClaim := { program := "ytfppahfoipeecaa", sum := "cb623db21b603d461f43a9900e719c31867e60a478df658196a8e96b18e9b2de", func := "loop.example/dataflow/laws.FnExactTraceTimes", spec := "fnExactTraceTimes", unfollowed := true, recurses := true, plainKeys := false, apart := false, narrowed := true }
def FnExactTraceTimesUptoSaid : Prop := fnExactTraceTimesUptoRow.holds Try.pinned (OpenSpec.upto fnExactTraceTimesSpec)

/-- 'laws.FnExactJoin', WHERE WHAT IT READS IS OF BULK AT MOST 1048576: true; the input reads as it did. -/
def fnExactJoinUptoRow : OpenClaim := { program := "ytfppahfoipeecaa", sum := "cb623db21b603d461f43a9900e719c31867e60a478df658196a8e96b18e9b2de", func := "loop.example/dataflow/laws.FnExactJoin", spec := "fnExactJoin", unfollowed := true, recurses := true, plainKeys := false, apart := false, narrowed := true }
def FnExactJoinUptoSaid : Prop := fnExactJoinUptoRow.holds Try.pinned (OpenSpec.upto fnExactJoinSpec)

/-- 'laws.FnExactSemiJoin', WHERE WHAT IT READS IS OF BULK AT MOST 1048576: true; the input reads as it did. -/
def fnExactSemiJoinUptoRow : OpenClaim := { program := "ytfppahfoipeecaa", sum := "cb623db21b603d461f43a9900e719c31867e60a478df658196a8e96b18e9b2de", func := "loop.example/dataflow/laws.FnExactSemiJoin", spec := "fnExactSemiJoin", unfollowed := true, recurses := true, plainKeys := false, apart := false, narrowed := true }
def FnExactSemiJoinUptoSaid : Prop := fnExactSemiJoinUptoRow.holds Try.pinned (OpenSpec.upto fnExactSemiJoinSpec)

/-- 'laws.FnExactAntiJoin', WHERE WHAT IT READS IS OF BULK AT MOST 1048576: true; the input reads as it did. -/
def fnExactAntiJoinUptoRow : OpenClaim := { program := "ytfppahfoipeecaa", sum := "cb623db21b603d461f43a9900e719c31867e60a478df658196a8e96b18e9b2de", func := "loop.example/dataflow/laws.FnExactAntiJoin", spec := "fnExactAntiJoin", unfollowed := true, recurses := true, plainKeys := false, apart := false, narrowed := true }
def FnExactAntiJoinUptoSaid : Prop := fnExactAntiJoinUptoRow.holds Try.pinned (OpenSpec.upto fnExactAntiJoinSpec)

/-- 'laws.FnExactFirstRows', WHERE WHAT IT READS IS OF BULK AT MOST 1048576: true; the input reads as it did. -/
def fnExactFirstRowsUptoRow : OpenClaim := { program := "ytfppahfoipeecaa", sum := "cb623db21b603d461f43a9900e719c31867e60a478df658196a8e96b18e9b2de", func := "loop.example/dataflow/laws.FnExactFirstRows", spec := "fnExactFirstRows", unfollowed := true, recurses := true, plainKeys := false, apart := false, narrowed := true }
def FnExactFirstRowsUptoSaid : Prop := fnExactFirstRowsUptoRow.holds Try.pinned (OpenSpec.upto fnExactFirstRowsSpec)

/-- 'laws.FnExactReduce', WHERE WHAT IT READS IS OF BULK AT MOST 1048576: true; the input reads as it did. -/
def fnExactReduceUptoRow : OpenClaim := { program := "ytfppahfoipeecaa", sum := "cb623db21b603d461f43a9900e719c31867e60a478df658196a8e96b18e9b2de", func := "loop.example/dataflow/laws.FnExactReduce", spec := "fnExactReduce", unfollowed := true, recurses := true, plainKeys := false, apart := false, narrowed := true }
def FnExactReduceUptoSaid : Prop := fnExactReduceUptoRow.holds Try.pinned (OpenSpec.upto fnExactReduceSpec)

/-- 'laws.FnExactIsLinear', WHERE WHAT IT READS IS OF BULK AT MOST 1048576: true; the input reads as it did. -/
def fnExactIsLinearUptoRow : OpenClaim := { program := "ytfppahfoipeecaa", sum := "cb623db21b603d461f43a9900e719c31867e60a478df658196a8e96b18e9b2de", func := "loop.example/dataflow/laws.FnExactIsLinear", spec := "fnExactIsLinear", plainKeys := false, apart := false, narrowed := true }
def FnExactIsLinearUptoSaid : Prop := fnExactIsLinearUptoRow.holds Try.pinned (OpenSpec.upto fnExactIsLinearSpec)

/-- 'laws.FnExactDeltaDistinct', WHERE WHAT IT READS IS OF BULK AT MOST 1048576: true; the input reads as it did. -/
def fnExactDeltaDistinctUptoRow : OpenClaim := { program := "ytfppahfoipeecaa", sum := "cb623db21b603d461f43a9900e719c31867e60a478df658196a8e96b18e9b2de", func := "loop.example/dataflow/laws.FnExactDeltaDistinct", spec := "fnExactDeltaDistinct", unfollowed := true, recurses := true, plainKeys := false, apart := false, narrowed := true }
def FnExactDeltaDistinctUptoSaid : Prop := fnExactDeltaDistinctUptoRow.holds Try.pinned (OpenSpec.upto fnExactDeltaDistinctSpec)

end Rows
end Go.Proofs.Ytfppahfoipeecaa
