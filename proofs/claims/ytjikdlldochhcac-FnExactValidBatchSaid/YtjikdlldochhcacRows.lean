/-
  No cell of these rows narrows 'for every input' (looked for: loops, veiled, ifaces, maps, wideKeys, modest, calm, conditions, laid).
  DERIVED. THE GIVEN ROWS OF THIS SEAT. 4 by the template 'for every input the law returns true; each argument reads behind the call as it read before'; 0 by the template 'total and deterministic' (their statements: YtjikdlldochhcacTotals.lean).
  GIVEN WITH THE SEED: the statements are not yours to turn. If you find one false, say at which input.
  Laid BY PROGRAM, IN A SANDBOX (cutbox-rows.mjs): the forced cells as the released guide's own fill.sh prints them over the translation fdad255ae044008c… (all of the seat's roots in one cut). By AI agents, Wed Nov 11 2026. No macro, syntax, notation, axiom, sorry.
-/
import Derived.Test.YtjikdlldochhcacChecked
import GoSem.Claim
import GoSem.ClaimJoined
import GoSem.ClaimMapViews
import Derived.JoinedTies
import Derived.KernelRfl
namespace Go.Proofs.Ytjikdlldochhcac
/- THE CELL 'sum', in the pinned program and in every row, IS THE sha256 OF THE DUMP (.gsa) THAT YtjikdlldochhcacProg.lean LOADS. Nothing in Lean hashes anything: it is a label: what it is worth is what the hold of that sum in a sandbox is worth. -/
noncomputable def Try.pinned : Pinned := { name := "ytjikdlldochhcac", sum := "fdad255ae044008c3883fc8eb06fa1df87e1b80df39661e9273df4d5f1fe7f29", checked := Try.checked }
namespace Rows
def none {H : Type} : Left H := { results := [], args := [] }

/-- 'laws.FnExactTraceTimes': WHATEVER THE INPUT: true; the input reads as it did. -/
def fnExactTraceTimesSpec : ChangeSpec := { name := "fnExactTraceTimes", fn := fun _ => fun
  | [d] => { results := [.lit (.bool true)], args := [d] }
  | _ => none }
def fnExactTraceTimesRow : OpenClaim := { program := "ytjikdlldochhcac", sum := "fdad255ae044008c3883fc8eb06fa1df87e1b80df39661e9273df4d5f1fe7f29", func := "loop.example/dataflow/laws.FnExactTraceTimes", spec := "fnExactTraceTimes", unfollowed := true, recurses := true, apart := false }
def FnExactTraceTimesSaid : Prop := fnExactTraceTimesRow.holds Try.pinned (OpenSpec.ofChange fnExactTraceTimesSpec)

/-- ITS FALSE NEIGHBOUR: 'it returns false'. Refute it at one input. -/
def fnExactTraceTimesWrong : ChangeSpec := { name := "fnExactTraceTimes", fn := fun _ => fun
  | [d] => { results := [.lit (.bool false)], args := [d] }
  | _ => none }
def FnExactTraceTimesWrongFalsely : Prop := fnExactTraceTimesRow.holds Try.pinned (OpenSpec.ofChange fnExactTraceTimesWrong)

/-- 'laws.FnTraceTimes': WHATEVER THE INPUT: true; the input reads as it did. -/
def fnTraceTimesSpec : ChangeSpec := { name := "fnTraceTimes", fn := fun _ => fun
  | [d] => { results := [.lit (.bool true)], args := [d] }
  | _ => none }
def fnTraceTimesRow : OpenClaim := { program := "ytjikdlldochhcac", sum := "fdad255ae044008c3883fc8eb06fa1df87e1b80df39661e9273df4d5f1fe7f29", func := "loop.example/dataflow/laws.FnTraceTimes", spec := "fnTraceTimes", unfollowed := true, recurses := true, apart := false }
def FnTraceTimesSaid : Prop := fnTraceTimesRow.holds Try.pinned (OpenSpec.ofChange fnTraceTimesSpec)

/-- ITS FALSE NEIGHBOUR: 'it returns false'. Refute it at one input. -/
def fnTraceTimesWrong : ChangeSpec := { name := "fnTraceTimes", fn := fun _ => fun
  | [d] => { results := [.lit (.bool false)], args := [d] }
  | _ => none }
def FnTraceTimesWrongFalsely : Prop := fnTraceTimesRow.holds Try.pinned (OpenSpec.ofChange fnTraceTimesWrong)

/-- 'laws.FnExactValidBatch': WHATEVER THE INPUT: true; the input reads as it did. -/
def fnExactValidBatchSpec : ChangeSpec := { name := "fnExactValidBatch", fn := fun _ => fun
  | [d] => { results := [.lit (.bool true)], args := [d] }
  | _ => none }
def fnExactValidBatchRow : OpenClaim := { program := "ytjikdlldochhcac", sum := "fdad255ae044008c3883fc8eb06fa1df87e1b80df39661e9273df4d5f1fe7f29", func := "loop.example/dataflow/laws.FnExactValidBatch", spec := "fnExactValidBatch", unfollowed := true, recurses := true, apart := false }
def FnExactValidBatchSaid : Prop := fnExactValidBatchRow.holds Try.pinned (OpenSpec.ofChange fnExactValidBatchSpec)

/-- ITS FALSE NEIGHBOUR: 'it returns false'. Refute it at one input. -/
def fnExactValidBatchWrong : ChangeSpec := { name := "fnExactValidBatch", fn := fun _ => fun
  | [d] => { results := [.lit (.bool false)], args := [d] }
  | _ => none }
def FnExactValidBatchWrongFalsely : Prop := fnExactValidBatchRow.holds Try.pinned (OpenSpec.ofChange fnExactValidBatchWrong)

/-- 'laws.FnExactSeekRows': WHATEVER THE INPUT: true; the input reads as it did. -/
def fnExactSeekRowsSpec : ChangeSpec := { name := "fnExactSeekRows", fn := fun _ => fun
  | [d1, d2] => { results := [.lit (.bool true)], args := [d1, d2] }
  | _ => none }
def fnExactSeekRowsRow : OpenClaim := { program := "ytjikdlldochhcac", sum := "fdad255ae044008c3883fc8eb06fa1df87e1b80df39661e9273df4d5f1fe7f29", func := "loop.example/dataflow/laws.FnExactSeekRows", spec := "fnExactSeekRows", unfollowed := true, recurses := true, apart := false }
def FnExactSeekRowsSaid : Prop := fnExactSeekRowsRow.holds Try.pinned (OpenSpec.ofChange fnExactSeekRowsSpec)

/-- ITS FALSE NEIGHBOUR: 'it returns false'. Refute it at one input. -/
def fnExactSeekRowsWrong : ChangeSpec := { name := "fnExactSeekRows", fn := fun _ => fun
  | [d1, d2] => { results := [.lit (.bool false)], args := [d1, d2] }
  | _ => none }
def FnExactSeekRowsWrongFalsely : Prop := fnExactSeekRowsRow.holds Try.pinned (OpenSpec.ofChange fnExactSeekRowsWrong)

/- THE SECOND FORM. 'bulk': how many values and letters a reading holds, each counted each time it is reached (what is shared counts as often as it is met; a slice's spare places count too). A statement '..UptoSaid' is the law's where the arguments, and the package variables that the reading takes, are together of bulk at most 1048576: NARROWER than '..Said'. Prove '..Said' where nothing that the law and all that it calls make is longer than what came in: it says more and counts as full. Else prove '..UptoSaid'. A law counts once. -/
mutual
def uptoBulk {H : Type} : DataW H → Nat
  | .lit (.string bytes) => bytes.length + 1
  | .lit _ => 1
  | .nil => 1
  | .ptr d => uptoBulk d + 1
  | .slice elems spare => uptoBulkAll elems + uptoBulkAll spare + 1
  | .agg parts => uptoBulkAll parts + 1
  | .iface _ d => uptoBulk d + 1
  | .map entries => uptoBulkEntries entries + 1
  | .held _ => 1
def uptoBulkAll {H : Type} : List (DataW H) → Nat
  | [] => 0
  | d :: r => uptoBulk d + uptoBulkAll r
def uptoBulkEntries {H : Type} : List (Lit × DataW H) → Nat
  | [] => 0
  | x :: r => uptoBulkEntry x + uptoBulkEntries r
def uptoBulkEntry {H : Type} : Lit × DataW H → Nat
  | (.string bytes, d) => bytes.length + uptoBulk d + 1
  | (_, d) => uptoBulk d + 1
 end
def uptoSmall : (H : Type) → List (DataW H) → Bool := fun _ ds => decide (uptoBulkAll ds ≤ 1048576)
def OpenSpec.upto (s : _root_.Go.ChangeSpec) : _root_.Go.OpenSpec := { _root_.Go.OpenSpec.ofChange s with cond := some uptoSmall }

/-- 'laws.FnExactTraceTimes', WHERE WHAT IT READS IS OF BULK AT MOST 1048576: true; the input reads as it did. -/
def fnExactTraceTimesUptoRow : OpenClaim := { program := "ytjikdlldochhcac", sum := "fdad255ae044008c3883fc8eb06fa1df87e1b80df39661e9273df4d5f1fe7f29", func := "loop.example/dataflow/laws.FnExactTraceTimes", spec := "fnExactTraceTimes", unfollowed := true, recurses := true, apart := false, narrowed := true }
def FnExactTraceTimesUptoSaid : Prop := fnExactTraceTimesUptoRow.holds Try.pinned (OpenSpec.upto fnExactTraceTimesSpec)

/-- 'laws.FnTraceTimes', WHERE WHAT IT READS IS OF BULK AT MOST 1048576: true; the input reads as it did. -/
def fnTraceTimesUptoRow : OpenClaim := { program := "ytjikdlldochhcac", sum := "fdad255ae044008c3883fc8eb06fa1df87e1b80df39661e9273df4d5f1fe7f29", func := "loop.example/dataflow/laws.FnTraceTimes", spec := "fnTraceTimes", unfollowed := true, recurses := true, apart := false, narrowed := true }
def FnTraceTimesUptoSaid : Prop := fnTraceTimesUptoRow.holds Try.pinned (OpenSpec.upto fnTraceTimesSpec)

/-- 'laws.FnExactValidBatch', WHERE WHAT IT READS IS OF BULK AT MOST 1048576: true; the input reads as it did. -/
def fnExactValidBatchUptoRow : OpenClaim := { program := "ytjikdlldochhcac", sum := "fdad255ae044008c3883fc8eb06fa1df87e1b80df39661e9273df4d5f1fe7f29", func := "loop.example/dataflow/laws.FnExactValidBatch", spec := "fnExactValidBatch", unfollowed := true, recurses := true, apart := false, narrowed := true }
def FnExactValidBatchUptoSaid : Prop := fnExactValidBatchUptoRow.holds Try.pinned (OpenSpec.upto fnExactValidBatchSpec)

/-- 'laws.FnExactSeekRows', WHERE WHAT IT READS IS OF BULK AT MOST 1048576: true; the input reads as it did. -/
def fnExactSeekRowsUptoRow : OpenClaim := { program := "ytjikdlldochhcac", sum := "fdad255ae044008c3883fc8eb06fa1df87e1b80df39661e9273df4d5f1fe7f29", func := "loop.example/dataflow/laws.FnExactSeekRows", spec := "fnExactSeekRows", unfollowed := true, recurses := true, apart := false, narrowed := true }
def FnExactSeekRowsUptoSaid : Prop := fnExactSeekRowsUptoRow.holds Try.pinned (OpenSpec.upto fnExactSeekRowsSpec)

end Rows
end Go.Proofs.Ytjikdlldochhcac
