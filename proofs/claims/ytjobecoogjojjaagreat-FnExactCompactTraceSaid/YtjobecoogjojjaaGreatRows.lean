/-
  No cell of these rows narrows 'for every input' (looked for: loops, veiled, ifaces, maps, wideKeys, modest, calm, conditions, laid).
  DERIVED. THE GIVEN ROWS OF THIS SEAT. 3 by the template 'for every input the law returns true; each argument reads behind the call as it read before'; 0 by the template 'total and deterministic' (their statements: YtjobecoogjojjaaGreatTotals.lean).
  GIVEN WITH THE SEED: the statements are not yours to turn. If you find one false, say at which input.
  Laid BY PROGRAM, IN A SANDBOX (cutbox-rows.mjs): the forced cells as the released guide's own fill.sh prints them over the translation 553e06cb1d157896… (all of the seat's roots in one cut). By AI agents, Wed Nov 11 2026. No macro, syntax, notation, axiom, sorry.
-/
import Derived.Test.YtjobecoogjojjaaGreatChecked
import GoSem.Claim
import GoSem.ClaimJoined
import GoSem.ClaimMapViews
import Derived.JoinedTies
import Derived.KernelRfl
namespace Go.Proofs.YtjobecoogjojjaaGreat
/- THE CELL 'sum', in the pinned program and in every row, IS THE sha256 OF THE DUMP (.gsa) THAT YtjobecoogjojjaaGreatProg.lean LOADS. Nothing in Lean hashes anything: it is a label: what it is worth is what the hold of that sum in a sandbox is worth. -/
noncomputable def Tryz.pinned : Pinned := { name := "ytjobecoogjojjaagreat", sum := "553e06cb1d157896c9840dd3fc7a2fbd7974477122341fb47c301af81a345829", checked := Tryz.checked }
namespace Rows
def none {H : Type} : Left H := { results := [], args := [] }

/-- 'laws.FnMapTrace': WHATEVER THE INPUT: true; the input reads as it did. -/
def fnMapTraceSpec : ChangeSpec := { name := "fnMapTrace", fn := fun _ => fun
  | [d1, d2] => { results := [.lit (.bool true)], args := [d1, d2] }
  | _ => none }
def fnMapTraceRow : OpenClaim := { program := "ytjobecoogjojjaagreat", sum := "553e06cb1d157896c9840dd3fc7a2fbd7974477122341fb47c301af81a345829", func := "loop.example/dataflow/laws.FnMapTrace", spec := "fnMapTrace", unfollowed := true, recurses := true, apart := false }
def FnMapTraceSaid : Prop := fnMapTraceRow.holds Tryz.pinned (OpenSpec.ofChange fnMapTraceSpec)

/-- ITS FALSE NEIGHBOUR: 'it returns false'. Refute it at one input. -/
def fnMapTraceWrong : ChangeSpec := { name := "fnMapTrace", fn := fun _ => fun
  | [d1, d2] => { results := [.lit (.bool false)], args := [d1, d2] }
  | _ => none }
def FnMapTraceWrongFalsely : Prop := fnMapTraceRow.holds Tryz.pinned (OpenSpec.ofChange fnMapTraceWrong)

/-- 'laws.FnCompactTrace': WHATEVER THE INPUT: true; the input reads as it did. -/
def fnCompactTraceSpec : ChangeSpec := { name := "fnCompactTrace", fn := fun _ => fun
  | [d1, d2] => { results := [.lit (.bool true)], args := [d1, d2] }
  | _ => none }
def fnCompactTraceRow : OpenClaim := { program := "ytjobecoogjojjaagreat", sum := "553e06cb1d157896c9840dd3fc7a2fbd7974477122341fb47c301af81a345829", func := "loop.example/dataflow/laws.FnCompactTrace", spec := "fnCompactTrace", unfollowed := true, recurses := true, apart := false }
def FnCompactTraceSaid : Prop := fnCompactTraceRow.holds Tryz.pinned (OpenSpec.ofChange fnCompactTraceSpec)

/-- ITS FALSE NEIGHBOUR: 'it returns false'. Refute it at one input. -/
def fnCompactTraceWrong : ChangeSpec := { name := "fnCompactTrace", fn := fun _ => fun
  | [d1, d2] => { results := [.lit (.bool false)], args := [d1, d2] }
  | _ => none }
def FnCompactTraceWrongFalsely : Prop := fnCompactTraceRow.holds Tryz.pinned (OpenSpec.ofChange fnCompactTraceWrong)

/-- 'laws.FnExactCompactTrace': WHATEVER THE INPUT: true; the input reads as it did. -/
def fnExactCompactTraceSpec : ChangeSpec := { name := "fnExactCompactTrace", fn := fun _ => fun
  | [d1, d2] => { results := [.lit (.bool true)], args := [d1, d2] }
  | _ => none }
def fnExactCompactTraceRow : OpenClaim := { program := "ytjobecoogjojjaagreat", sum := "553e06cb1d157896c9840dd3fc7a2fbd7974477122341fb47c301af81a345829", func := "loop.example/dataflow/laws.FnExactCompactTrace", spec := "fnExactCompactTrace", unfollowed := true, recurses := true, apart := false }
def FnExactCompactTraceSaid : Prop := fnExactCompactTraceRow.holds Tryz.pinned (OpenSpec.ofChange fnExactCompactTraceSpec)

/-- ITS FALSE NEIGHBOUR: 'it returns false'. Refute it at one input. -/
def fnExactCompactTraceWrong : ChangeSpec := { name := "fnExactCompactTrace", fn := fun _ => fun
  | [d1, d2] => { results := [.lit (.bool false)], args := [d1, d2] }
  | _ => none }
def FnExactCompactTraceWrongFalsely : Prop := fnExactCompactTraceRow.holds Tryz.pinned (OpenSpec.ofChange fnExactCompactTraceWrong)

/- THE SECOND FORM. 'bulk': how many values and letters a reading holds, each counted each time it is reached (what is shared counts as often as it is met; a slice's spare places count too). A statement '..UptoSaid' is the law's where the arguments, and the package variables that the reading takes, are together of bulk at most 1048576: NARROWER than '..Said'. Prove '..Said' where nothing that the law and all that it calls make is longer than what came in: it says more and counts as full. Else prove '..UptoSaid'. A law counts once. -/
mutual
def uptoBulk {H : Type} : DataW H → Nat
  | .lit (.string bytes) => bytes.length + 1
  | .lit _ => 1
  | .nil => 1
  | .ptr d => uptoBulk d + 1
  | .slice elems spare => uptoBulkAll elems + uptoBulkAll spare + 1
  | .agg parts => uptoBulkAll parts + 1
  | .iface _ d => uptoBulk d + 1
  | .map entries => uptoBulkEntries entries + 1
  | .held _ => 1
def uptoBulkAll {H : Type} : List (DataW H) → Nat
  | [] => 0
  | d :: r => uptoBulk d + uptoBulkAll r
def uptoBulkEntries {H : Type} : List (Lit × DataW H) → Nat
  | [] => 0
  | x :: r => uptoBulkEntry x + uptoBulkEntries r
def uptoBulkEntry {H : Type} : Lit × DataW H → Nat
  | (.string bytes, d) => bytes.length + uptoBulk d + 1
  | (_, d) => uptoBulk d + 1
 end
def uptoSmall : (H : Type) → List (DataW H) → Bool := fun _ ds => decide (uptoBulkAll ds ≤ 1048576)
def OpenSpec.upto (s : _root_.Go.ChangeSpec) : _root_.Go.OpenSpec := { _root_.Go.OpenSpec.ofChange s with cond := some uptoSmall }

/-- 'laws.FnMapTrace', WHERE WHAT IT READS IS OF BULK AT MOST 1048576: true; the input reads as it did. -/
def fnMapTraceUptoRow : OpenClaim := { program := "ytjobecoogjojjaagreat", sum := "553e06cb1d157896c9840dd3fc7a2fbd7974477122341fb47c301af81a345829", func := "loop.example/dataflow/laws.FnMapTrace", spec := "fnMapTrace", unfollowed := true, recurses := true, apart := false, narrowed := true }
def FnMapTraceUptoSaid : Prop := fnMapTraceUptoRow.holds Tryz.pinned (OpenSpec.upto fnMapTraceSpec)

/-- 'laws.FnCompactTrace', WHERE WHAT IT READS IS OF BULK AT MOST 1048576: true; the input reads as it did. -/
def fnCompactTraceUptoRow : OpenClaim := { program := "ytjobecoogjojjaagreat", sum := "553e06cb1d157896c9840dd3fc7a2fbd7974477122341fb47c301af81a345829", func := "loop.example/dataflow/laws.FnCompactTrace", spec := "fnCompactTrace", unfollowed := true, recurses := true, apart := false, narrowed := true }
def FnCompactTraceUptoSaid : Prop := fnCompactTraceUptoRow.holds Tryz.pinned (OpenSpec.upto fnCompactTraceSpec)

/-- 'laws.FnExactCompactTrace', WHERE WHAT IT READS IS OF BULK AT MOST 1048576: true; the input reads as it did. -/
def fnExactCompactTraceUptoRow : OpenClaim := { program := "ytjobecoogjojjaagreat", sum := "553e06cb1d157896c9840dd3fc7a2fbd7974477122341fb47c301af81a345829", func := "loop.example/dataflow/laws.FnExactCompactTrace", spec := "fnExactCompactTrace", unfollowed := true, recurses := true, apart := false, narrowed := true }
def FnExactCompactTraceUptoSaid : Prop := fnExactCompactTraceUptoRow.holds Tryz.pinned (OpenSpec.upto fnExactCompactTraceSpec)

end Rows
end Go.Proofs.YtjobecoogjojjaaGreat
