/-
  No cell of these rows narrows 'for every input' (looked for: loops, veiled, ifaces, maps, wideKeys, modest, calm, conditions, laid).
  DERIVED. THE GIVEN ROWS OF THIS SEAT. 10 by the template 'for every input the law returns true; each argument reads behind the call as it read before'; 0 by the template 'total and deterministic' (their statements: YtcbofgjmkeokfaaTotals.lean).
  GIVEN WITH THE SEED: the statements are not yours to turn. If you find one false, say at which input.
  Laid BY PROGRAM, IN A SANDBOX (cutbox-rows.mjs): the forced cells as the released guide's own fill.sh prints them over the translation 42dbda57651d2641… (all of the seat's roots in one cut). By AI agents, Wed Nov 11 2026. No macro, syntax, notation, axiom, sorry.
-/
import Derived.Test.YtcbofgjmkeokfaaChecked
import GoSem.Claim
import GoSem.ClaimJoined
import GoSem.ClaimMapViews
import Derived.JoinedTies
import Derived.KernelRfl
namespace Go.Proofs.Ytcbofgjmkeokfaa
/- THE CELL 'sum', in the pinned program and in every row, IS THE sha256 OF THE DUMP (.gsa) THAT YtcbofgjmkeokfaaProg.lean LOADS. Nothing in Lean hashes anything: it is a label: what it is worth is what the hold of that sum in a sandbox is worth. -/
noncomputable def Try.pinned : Pinned := { name := "ytcbofgjmkeokfaa", sum := "42dbda57651d2641ba089bd7a90bf9dc750596c4653fe8fa2aa502582757bbdc", checked := Try.checked }
namespace Rows
def none {H : Type} : Left H := { results := [], args := [] }

/-- 'laws.FnExactNormalize': WHATEVER THE INPUT: true; the input reads as it did. -/
def fnExactNormalizeSpec : ChangeSpec := { name := "fnExactNormalize", fn := fun _ => fun
  | [d] => { results := [.lit (.bool true)], args := [d] }
  | _ => none }
def fnExactNormalizeRow : OpenClaim := { program := "ytcbofgjmkeokfaa", sum := "42dbda57651d2641ba089bd7a90bf9dc750596c4653fe8fa2aa502582757bbdc", func := "loop.example/dataflow/laws.FnExactNormalize", spec := "fnExactNormalize", unfollowed := true, recurses := true, apart := false }
def FnExactNormalizeSaid : Prop := fnExactNormalizeRow.holds Try.pinned (OpenSpec.ofChange fnExactNormalizeSpec)

/-- ITS FALSE NEIGHBOUR: 'it returns false'. Refute it at one input. -/
def fnExactNormalizeWrong : ChangeSpec := { name := "fnExactNormalize", fn := fun _ => fun
  | [d] => { results := [.lit (.bool false)], args := [d] }
  | _ => none }
def FnExactNormalizeWrongFalsely : Prop := fnExactNormalizeRow.holds Try.pinned (OpenSpec.ofChange fnExactNormalizeWrong)

/-- 'laws.FnExactFilter': WHATEVER THE INPUT: true; the input reads as it did. -/
def fnExactFilterSpec : ChangeSpec := { name := "fnExactFilter", fn := fun _ => fun
  | [d1, d2] => { results := [.lit (.bool true)], args := [d1, d2] }
  | _ => none }
def fnExactFilterRow : OpenClaim := { program := "ytcbofgjmkeokfaa", sum := "42dbda57651d2641ba089bd7a90bf9dc750596c4653fe8fa2aa502582757bbdc", func := "loop.example/dataflow/laws.FnExactFilter", spec := "fnExactFilter", unfollowed := true, recurses := true, apart := false }
def FnExactFilterSaid : Prop := fnExactFilterRow.holds Try.pinned (OpenSpec.ofChange fnExactFilterSpec)

/-- ITS FALSE NEIGHBOUR: 'it returns false'. Refute it at one input. -/
def fnExactFilterWrong : ChangeSpec := { name := "fnExactFilter", fn := fun _ => fun
  | [d1, d2] => { results := [.lit (.bool false)], args := [d1, d2] }
  | _ => none }
def FnExactFilterWrongFalsely : Prop := fnExactFilterRow.holds Try.pinned (OpenSpec.ofChange fnExactFilterWrong)

/-- 'laws.FnExactGroup': WHATEVER THE INPUT: true; the input reads as it did. -/
def fnExactGroupSpec : ChangeSpec := { name := "fnExactGroup", fn := fun _ => fun
  | [d1, d2] => { results := [.lit (.bool true)], args := [d1, d2] }
  | _ => none }
def fnExactGroupRow : OpenClaim := { program := "ytcbofgjmkeokfaa", sum := "42dbda57651d2641ba089bd7a90bf9dc750596c4653fe8fa2aa502582757bbdc", func := "loop.example/dataflow/laws.FnExactGroup", spec := "fnExactGroup", unfollowed := true, recurses := true, apart := false }
def FnExactGroupSaid : Prop := fnExactGroupRow.holds Try.pinned (OpenSpec.ofChange fnExactGroupSpec)

/-- ITS FALSE NEIGHBOUR: 'it returns false'. Refute it at one input. -/
def fnExactGroupWrong : ChangeSpec := { name := "fnExactGroup", fn := fun _ => fun
  | [d1, d2] => { results := [.lit (.bool false)], args := [d1, d2] }
  | _ => none }
def FnExactGroupWrongFalsely : Prop := fnExactGroupRow.holds Try.pinned (OpenSpec.ofChange fnExactGroupWrong)

/-- 'laws.FnExactAsOf': WHATEVER THE INPUT: true; the input reads as it did. -/
def fnExactAsOfSpec : ChangeSpec := { name := "fnExactAsOf", fn := fun _ => fun
  | [d1, d2] => { results := [.lit (.bool true)], args := [d1, d2] }
  | _ => none }
def fnExactAsOfRow : OpenClaim := { program := "ytcbofgjmkeokfaa", sum := "42dbda57651d2641ba089bd7a90bf9dc750596c4653fe8fa2aa502582757bbdc", func := "loop.example/dataflow/laws.FnExactAsOf", spec := "fnExactAsOf", unfollowed := true, recurses := true, apart := false }
def FnExactAsOfSaid : Prop := fnExactAsOfRow.holds Try.pinned (OpenSpec.ofChange fnExactAsOfSpec)

/-- ITS FALSE NEIGHBOUR: 'it returns false'. Refute it at one input. -/
def fnExactAsOfWrong : ChangeSpec := { name := "fnExactAsOf", fn := fun _ => fun
  | [d1, d2] => { results := [.lit (.bool false)], args := [d1, d2] }
  | _ => none }
def FnExactAsOfWrongFalsely : Prop := fnExactAsOfRow.holds Try.pinned (OpenSpec.ofChange fnExactAsOfWrong)

/-- 'laws.FnExactFilterTrace': WHATEVER THE INPUT: true; the input reads as it did. -/
def fnExactFilterTraceSpec : ChangeSpec := { name := "fnExactFilterTrace", fn := fun _ => fun
  | [d1, d2] => { results := [.lit (.bool true)], args := [d1, d2] }
  | _ => none }
def fnExactFilterTraceRow : OpenClaim := { program := "ytcbofgjmkeokfaa", sum := "42dbda57651d2641ba089bd7a90bf9dc750596c4653fe8fa2aa502582757bbdc", func := "loop.example/dataflow/laws.FnExactFilterTrace", spec := "fnExactFilterTrace", unfollowed := true, recurses := true, apart := false }
def FnExactFilterTraceSaid : Prop := fnExactFilterTraceRow.holds Try.pinned (OpenSpec.ofChange fnExactFilterTraceSpec)

/-- ITS FALSE NEIGHBOUR: 'it returns false'. Refute it at one input. -/
def fnExactFilterTraceWrong : ChangeSpec := { name := "fnExactFilterTrace", fn := fun _ => fun
  | [d1, d2] => { results := [.lit (.bool false)], args := [d1, d2] }
  | _ => none }
def FnExactFilterTraceWrongFalsely : Prop := fnExactFilterTraceRow.holds Try.pinned (OpenSpec.ofChange fnExactFilterTraceWrong)

/-- 'laws.FnExactConsolidate': WHATEVER THE INPUT: true; the input reads as it did. -/
def fnExactConsolidateSpec : ChangeSpec := { name := "fnExactConsolidate", fn := fun _ => fun
  | [d] => { results := [.lit (.bool true)], args := [d] }
  | _ => none }
def fnExactConsolidateRow : OpenClaim := { program := "ytcbofgjmkeokfaa", sum := "42dbda57651d2641ba089bd7a90bf9dc750596c4653fe8fa2aa502582757bbdc", func := "loop.example/dataflow/laws.FnExactConsolidate", spec := "fnExactConsolidate", unfollowed := true, recurses := true, apart := false }
def FnExactConsolidateSaid : Prop := fnExactConsolidateRow.holds Try.pinned (OpenSpec.ofChange fnExactConsolidateSpec)

/-- ITS FALSE NEIGHBOUR: 'it returns false'. Refute it at one input. -/
def fnExactConsolidateWrong : ChangeSpec := { name := "fnExactConsolidate", fn := fun _ => fun
  | [d] => { results := [.lit (.bool false)], args := [d] }
  | _ => none }
def FnExactConsolidateWrongFalsely : Prop := fnExactConsolidateRow.holds Try.pinned (OpenSpec.ofChange fnExactConsolidateWrong)

/-- 'laws.FnExactMapColumns': WHATEVER THE INPUT: true; the input reads as it did. -/
def fnExactMapColumnsSpec : ChangeSpec := { name := "fnExactMapColumns", fn := fun _ => fun
  | [d1, d2] => { results := [.lit (.bool true)], args := [d1, d2] }
  | _ => none }
def fnExactMapColumnsRow : OpenClaim := { program := "ytcbofgjmkeokfaa", sum := "42dbda57651d2641ba089bd7a90bf9dc750596c4653fe8fa2aa502582757bbdc", func := "loop.example/dataflow/laws.FnExactMapColumns", spec := "fnExactMapColumns", unfollowed := true, recurses := true, apart := false }
def FnExactMapColumnsSaid : Prop := fnExactMapColumnsRow.holds Try.pinned (OpenSpec.ofChange fnExactMapColumnsSpec)

/-- ITS FALSE NEIGHBOUR: 'it returns false'. Refute it at one input. -/
def fnExactMapColumnsWrong : ChangeSpec := { name := "fnExactMapColumns", fn := fun _ => fun
  | [d1, d2] => { results := [.lit (.bool false)], args := [d1, d2] }
  | _ => none }
def FnExactMapColumnsWrongFalsely : Prop := fnExactMapColumnsRow.holds Try.pinned (OpenSpec.ofChange fnExactMapColumnsWrong)

/-- 'laws.FnExactMapTrace': WHATEVER THE INPUT: true; the input reads as it did. -/
def fnExactMapTraceSpec : ChangeSpec := { name := "fnExactMapTrace", fn := fun _ => fun
  | [d1, d2] => { results := [.lit (.bool true)], args := [d1, d2] }
  | _ => none }
def fnExactMapTraceRow : OpenClaim := { program := "ytcbofgjmkeokfaa", sum := "42dbda57651d2641ba089bd7a90bf9dc750596c4653fe8fa2aa502582757bbdc", func := "loop.example/dataflow/laws.FnExactMapTrace", spec := "fnExactMapTrace", unfollowed := true, recurses := true, apart := false }
def FnExactMapTraceSaid : Prop := fnExactMapTraceRow.holds Try.pinned (OpenSpec.ofChange fnExactMapTraceSpec)

/-- ITS FALSE NEIGHBOUR: 'it returns false'. Refute it at one input. -/
def fnExactMapTraceWrong : ChangeSpec := { name := "fnExactMapTrace", fn := fun _ => fun
  | [d1, d2] => { results := [.lit (.bool false)], args := [d1, d2] }
  | _ => none }
def FnExactMapTraceWrongFalsely : Prop := fnExactMapTraceRow.holds Try.pinned (OpenSpec.ofChange fnExactMapTraceWrong)

/-- 'laws.FnExactKeys': WHATEVER THE INPUT: true; the input reads as it did. -/
def fnExactKeysSpec : ChangeSpec := { name := "fnExactKeys", fn := fun _ => fun
  | [d1, d2] => { results := [.lit (.bool true)], args := [d1, d2] }
  | _ => none }
def fnExactKeysRow : OpenClaim := { program := "ytcbofgjmkeokfaa", sum := "42dbda57651d2641ba089bd7a90bf9dc750596c4653fe8fa2aa502582757bbdc", func := "loop.example/dataflow/laws.FnExactKeys", spec := "fnExactKeys", unfollowed := true, recurses := true, apart := false }
def FnExactKeysSaid : Prop := fnExactKeysRow.holds Try.pinned (OpenSpec.ofChange fnExactKeysSpec)

/-- ITS FALSE NEIGHBOUR: 'it returns false'. Refute it at one input. -/
def fnExactKeysWrong : ChangeSpec := { name := "fnExactKeys", fn := fun _ => fun
  | [d1, d2] => { results := [.lit (.bool false)], args := [d1, d2] }
  | _ => none }
def FnExactKeysWrongFalsely : Prop := fnExactKeysRow.holds Try.pinned (OpenSpec.ofChange fnExactKeysWrong)

/-- 'laws.FnExactIsLinear': WHATEVER THE INPUT: true; the input reads as it did. -/
def fnExactIsLinearSpec : ChangeSpec := { name := "fnExactIsLinear", fn := fun _ => fun
  | [d] => { results := [.lit (.bool true)], args := [d] }
  | _ => none }
def fnExactIsLinearRow : OpenClaim := { program := "ytcbofgjmkeokfaa", sum := "42dbda57651d2641ba089bd7a90bf9dc750596c4653fe8fa2aa502582757bbdc", func := "loop.example/dataflow/laws.FnExactIsLinear", spec := "fnExactIsLinear", apart := false }
def FnExactIsLinearSaid : Prop := fnExactIsLinearRow.holds Try.pinned (OpenSpec.ofChange fnExactIsLinearSpec)

/-- ITS FALSE NEIGHBOUR: 'it returns false'. Refute it at one input. -/
def fnExactIsLinearWrong : ChangeSpec := { name := "fnExactIsLinear", fn := fun _ => fun
  | [d] => { results := [.lit (.bool false)], args := [d] }
  | _ => none }
def FnExactIsLinearWrongFalsely : Prop := fnExactIsLinearRow.holds Try.pinned (OpenSpec.ofChange fnExactIsLinearWrong)

/- THE SECOND FORM. 'bulk': how many values and letters a reading holds, each counted each time it is reached (what is shared counts as often as it is met; a slice's spare places count too). A statement '..UptoSaid' is the law's where the arguments, and the package variables that the reading takes, are together of bulk at most 1048576: NARROWER than '..Said'. Prove '..Said' where nothing that the law and all that it calls make is longer than what came in: it says more and counts as full. Else prove '..UptoSaid'. A law counts once. -/
mutual
def uptoBulk {H : Type} : DataW H → Nat
  | .lit (.string bytes) => bytes.length + 1
  | .lit _ => 1
  | .nil => 1
  | .ptr d => uptoBulk d + 1
  | .slice elems spare => uptoBulkAll elems + uptoBulkAll spare + 1
  | .agg parts => uptoBulkAll parts + 1
  | .iface _ d => uptoBulk d + 1
  | .map entries => uptoBulkEntries entries + 1
  | .held _ => 1
def uptoBulkAll {H : Type} : List (DataW H) → Nat
  | [] => 0
  | d :: r => uptoBulk d + uptoBulkAll r
def uptoBulkEntries {H : Type} : List (Lit × DataW H) → Nat
  | [] => 0
  | x :: r => uptoBulkEntry x + uptoBulkEntries r
def uptoBulkEntry {H : Type} : Lit × DataW H → Nat
  | (.string bytes, d) => bytes.length + uptoBulk d + 1
  | (_, d) => uptoBulk d + 1
 end
def uptoSmall : (H : Type) → List (DataW H) → Bool := fun _ ds => decide (uptoBulkAll ds ≤ 1048576)
def OpenSpec.upto (s : _root_.Go.ChangeSpec) : _root_.Go.OpenSpec := { _root_.Go.OpenSpec.ofChange s with cond := some uptoSmall }

/-- 'laws.FnExactNormalize', WHERE WHAT IT READS IS OF BULK AT MOST 1048576: true; the input reads as it did. -/
def fnExactNormalizeUptoRow : OpenClaim := { program := "ytcbofgjmkeokfaa", sum := "42dbda57651d2641ba089bd7a90bf9dc750596c4653fe8fa2aa502582757bbdc", func := "loop.example/dataflow/laws.FnExactNormalize", spec := "fnExactNormalize", unfollowed := true, recurses := true, apart := false, narrowed := true }
def FnExactNormalizeUptoSaid : Prop := fnExactNormalizeUptoRow.holds Try.pinned (OpenSpec.upto fnExactNormalizeSpec)

/-- 'laws.FnExactFilter', WHERE WHAT IT READS IS OF BULK AT MOST 1048576: true; the input reads as it did. -/
def fnExactFilterUptoRow : OpenClaim := { program := "ytcbofgjmkeokfaa", sum := "42dbda57651d2641ba089bd7a90bf9dc750596c4653fe8fa2aa502582757bbdc", func := "loop.example/dataflow/laws.FnExactFilter", spec := "fnExactFilter", unfollowed := true, recurses := true, apart := false, narrowed := true }
def FnExactFilterUptoSaid : Prop := fnExactFilterUptoRow.holds Try.pinned (OpenSpec.upto fnExactFilterSpec)

/-- 'laws.FnExactGroup', WHERE WHAT IT READS IS OF BULK AT MOST 1048576: true; the input reads as it did. -/
def fnExactGroupUptoRow : OpenClaim := { program := "ytcbofgjmkeokfaa", sum := "42dbda57651d2641ba089bd7a90bf9dc750596c4653fe8fa2aa502582757bbdc", func := "loop.example/dataflow/laws.FnExactGroup", spec := "fnExactGroup", unfollowed := true, recurses := true, apart := false, narrowed := true }
def FnExactGroupUptoSaid : Prop := fnExactGroupUptoRow.holds Try.pinned (OpenSpec.upto fnExactGroupSpec)

/-- 'laws.FnExactAsOf', WHERE WHAT IT READS IS OF BULK AT MOST 1048576: true; the input reads as it did. -/
def fnExactAsOfUptoRow : OpenClaim := { program := "ytcbofgjmkeokfaa", sum := "42dbda57651d2641ba089bd7a90bf9dc750596c4653fe8fa2aa502582757bbdc", func := "loop.example/dataflow/laws.FnExactAsOf", spec := "fnExactAsOf", unfollowed := true, recurses := true, apart := false, narrowed := true }
def FnExactAsOfUptoSaid : Prop := fnExactAsOfUptoRow.holds Try.pinned (OpenSpec.upto fnExactAsOfSpec)

/-- 'laws.FnExactFilterTrace', WHERE WHAT IT READS IS OF BULK AT MOST 1048576: true; the input reads as it did. -/
def fnExactFilterTraceUptoRow : OpenClaim := { program := "ytcbofgjmkeokfaa", sum := "42dbda57651d2641ba089bd7a90bf9dc750596c4653fe8fa2aa502582757bbdc", func := "loop.example/dataflow/laws.FnExactFilterTrace", spec := "fnExactFilterTrace", unfollowed := true, recurses := true, apart := false, narrowed := true }
def FnExactFilterTraceUptoSaid : Prop := fnExactFilterTraceUptoRow.holds Try.pinned (OpenSpec.upto fnExactFilterTraceSpec)

/-- 'laws.FnExactConsolidate', WHERE WHAT IT READS IS OF BULK AT MOST 1048576: true; the input reads as it did. -/
def fnExactConsolidateUptoRow : OpenClaim := { program := "ytcbofgjmkeokfaa", sum := "42dbda57651d2641ba089bd7a90bf9dc750596c4653fe8fa2aa502582757bbdc", func := "loop.example/dataflow/laws.FnExactConsolidate", spec := "fnExactConsolidate", unfollowed := true, recurses := true, apart := false, narrowed := true }
def FnExactConsolidateUptoSaid : Prop := fnExactConsolidateUptoRow.holds Try.pinned (OpenSpec.upto fnExactConsolidateSpec)

/-- 'laws.FnExactMapColumns', WHERE WHAT IT READS IS OF BULK AT MOST 1048576: true; the input reads as it did. -/
def fnExactMapColumnsUptoRow : OpenClaim := { program := "ytcbofgjmkeokfaa", sum := "42dbda57651d2641ba089bd7a90bf9dc750596c4653fe8fa2aa502582757bbdc", func := "loop.example/dataflow/laws.FnExactMapColumns", spec := "fnExactMapColumns", unfollowed := true, recurses := true, apart := false, narrowed := true }
def FnExactMapColumnsUptoSaid : Prop := fnExactMapColumnsUptoRow.holds Try.pinned (OpenSpec.upto fnExactMapColumnsSpec)

/-- 'laws.FnExactMapTrace', WHERE WHAT IT READS IS OF BULK AT MOST 1048576: true; the input reads as it did. -/
def fnExactMapTraceUptoRow : OpenClaim := { program := "ytcbofgjmkeokfaa", sum := "42dbda57651d2641ba089bd7a90bf9dc750596c4653fe8fa2aa502582757bbdc", func := "loop.example/dataflow/laws.FnExactMapTrace", spec := "fnExactMapTrace", unfollowed := true, recurses := true, apart := false, narrowed := true }
def FnExactMapTraceUptoSaid : Prop := fnExactMapTraceUptoRow.holds Try.pinned (OpenSpec.upto fnExactMapTraceSpec)

/-- 'laws.FnExactKeys', WHERE WHAT IT READS IS OF BULK AT MOST 1048576: true; the input reads as it did. -/
def fnExactKeysUptoRow : OpenClaim := { program := "ytcbofgjmkeokfaa", sum := "42dbda57651d2641ba089bd7a90bf9dc750596c4653fe8fa2aa502582757bbdc", func := "loop.example/dataflow/laws.FnExactKeys", spec := "fnExactKeys", unfollowed := true, recurses := true, apart := false, narrowed := true }
def FnExactKeysUptoSaid : Prop := fnExactKeysUptoRow.holds Try.pinned (OpenSpec.upto fnExactKeysSpec)

/-- 'laws.FnExactIsLinear', WHERE WHAT IT READS IS OF BULK AT MOST 1048576: true; the input reads as it did. -/
def fnExactIsLinearUptoRow : OpenClaim := { program := "ytcbofgjmkeokfaa", sum := "42dbda57651d2641ba089bd7a90bf9dc750596c4653fe8fa2aa502582757bbdc", func := "loop.example/dataflow/laws.FnExactIsLinear", spec := "fnExactIsLinear", apart := false, narrowed := true }
def FnExactIsLinearUptoSaid : Prop := fnExactIsLinearUptoRow.holds Try.pinned (OpenSpec.upto fnExactIsLinearSpec)

end Rows
end Go.Proofs.Ytcbofgjmkeokfaa
