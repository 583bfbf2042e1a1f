/-
  No cell of these rows narrows 'for every input' (looked for: loops, veiled, ifaces, maps, wideKeys, modest, calm, conditions, laid).
  DERIVED. THE GIVEN ROWS OF THIS SEAT. 11 by the template 'for every input the law returns true; each argument reads behind the call as it read before'; 0 by the template 'total and deterministic' (their statements: YtkonhjdfcfljpaaTotals.lean).
  GIVEN WITH THE SEED: the statements are not yours to turn. If you find one false, say at which input.
  Laid BY PROGRAM, IN A SANDBOX (cutbox-rows.mjs): the forced cells as the released guide's own fill.sh prints them over the translation 0a80f09e62c3d2c7… (all of the seat's roots in one cut). By AI agents, Wed Nov 11 2026. No macro, syntax, notation, axiom, sorry.
-/
import Derived.Test.YtkonhjdfcfljpaaChecked
import GoSem.Claim
import GoSem.ClaimJoined
import GoSem.ClaimMapViews
import Derived.JoinedTies
import Derived.KernelRfl
namespace Go.Proofs.Ytkonhjdfcfljpaa
/- THE CELL 'sum', in the pinned program and in every row, IS THE sha256 OF THE DUMP (.gsa) THAT YtkonhjdfcfljpaaProg.lean LOADS. Nothing in Lean hashes anything: it is a label: what it is worth is what the hold of that sum in a sandbox is worth. -/
noncomputable def Try.pinned : Pinned := { name := "ytkonhjdfcfljpaa", sum := "0a80f09e62c3d2c73731b0f8a1fc09dcf95d17eb41419b2fc38cf2a8727973ba", checked := Try.checked }
namespace Rows
def none {H : Type} : Left H := { results := [], args := [] }

/-- 'laws.FnExactSeekRows': WHATEVER THE INPUT: true; the input reads as it did. -/
def fnExactSeekRowsSpec : ChangeSpec := { name := "fnExactSeekRows", fn := fun _ => fun
  | [d1, d2] => { results := [.lit (.bool true)], args := [d1, d2] }
  | _ => none }
def fnExactSeekRowsRow : OpenClaim := { program := "ytkonhjdfcfljpaa", sum := "0a80f09e62c3d2c73731b0f8a1fc09dcf95d17eb41419b2fc38cf2a8727973ba", func := "loop.example/dataflow/laws.FnExactSeekRows", spec := "fnExactSeekRows", unfollowed := true, recurses := true, apart := false }
def FnExactSeekRowsSaid : Prop := fnExactSeekRowsRow.holds Try.pinned (OpenSpec.ofChange fnExactSeekRowsSpec)

/-- ITS FALSE NEIGHBOUR: 'it returns false'. Refute it at one input. -/
def fnExactSeekRowsWrong : ChangeSpec := { name := "fnExactSeekRows", fn := fun _ => fun
  | [d1, d2] => { results := [.lit (.bool false)], args := [d1, d2] }
  | _ => none }
def FnExactSeekRowsWrongFalsely : Prop := fnExactSeekRowsRow.holds Try.pinned (OpenSpec.ofChange fnExactSeekRowsWrong)

/-- 'laws.FnExactTraceTimes': WHATEVER THE INPUT: true; the input reads as it did. -/
def fnExactTraceTimesSpec : ChangeSpec := { name := "fnExactTraceTimes", fn := fun _ => fun
  | [d] => { results := [.lit (.bool true)], args := [d] }
  | _ => none }
def fnExactTraceTimesRow : OpenClaim := { program := "ytkonhjdfcfljpaa", sum := "0a80f09e62c3d2c73731b0f8a1fc09dcf95d17eb41419b2fc38cf2a8727973ba", func := "loop.example/dataflow/laws.FnExactTraceTimes", spec := "fnExactTraceTimes", unfollowed := true, recurses := true, apart := false }
def FnExactTraceTimesSaid : Prop := fnExactTraceTimesRow.holds Try.pinned (OpenSpec.ofChange fnExactTraceTimesSpec)

/-- ITS FALSE NEIGHBOUR: 'it returns false'. Refute it at one input. -/
def fnExactTraceTimesWrong : ChangeSpec := { name := "fnExactTraceTimes", fn := fun _ => fun
  | [d] => { results := [.lit (.bool false)], args := [d] }
  | _ => none }
def FnExactTraceTimesWrongFalsely : Prop := fnExactTraceTimesRow.holds Try.pinned (OpenSpec.ofChange fnExactTraceTimesWrong)

/-- 'laws.FnTraceTimes': WHATEVER THE INPUT: true; the input reads as it did. -/
def fnTraceTimesSpec : ChangeSpec := { name := "fnTraceTimes", fn := fun _ => fun
  | [d] => { results := [.lit (.bool true)], args := [d] }
  | _ => none }
def fnTraceTimesRow : OpenClaim := { program := "ytkonhjdfcfljpaa", sum := "0a80f09e62c3d2c73731b0f8a1fc09dcf95d17eb41419b2fc38cf2a8727973ba", func := "loop.example/dataflow/laws.FnTraceTimes", spec := "fnTraceTimes", unfollowed := true, recurses := true, apart := false }
def FnTraceTimesSaid : Prop := fnTraceTimesRow.holds Try.pinned (OpenSpec.ofChange fnTraceTimesSpec)

/-- ITS FALSE NEIGHBOUR: 'it returns false'. Refute it at one input. -/
def fnTraceTimesWrong : ChangeSpec := { name := "fnTraceTimes", fn := fun _ => fun
  | [d] => { results := [.lit (.bool false)], args := [d] }
  | _ => none }
def FnTraceTimesWrongFalsely : Prop := fnTraceTimesRow.holds Try.pinned (OpenSpec.ofChange fnTraceTimesWrong)

/-- 'laws.FnExactMinimalTimes': WHATEVER THE INPUT: true; the input reads as it did. -/
def fnExactMinimalTimesSpec : ChangeSpec := { name := "fnExactMinimalTimes", fn := fun _ => fun
  | [d] => { results := [.lit (.bool true)], args := [d] }
  | _ => none }
def fnExactMinimalTimesRow : OpenClaim := { program := "ytkonhjdfcfljpaa", sum := "0a80f09e62c3d2c73731b0f8a1fc09dcf95d17eb41419b2fc38cf2a8727973ba", func := "loop.example/dataflow/laws.FnExactMinimalTimes", spec := "fnExactMinimalTimes", inPlace := ["slices.overlaps[loop.example/dataflow/impl.Time]"], unfollowed := true, recurses := true, apart := false }
def FnExactMinimalTimesSaid : Prop := fnExactMinimalTimesRow.holds Try.pinned (OpenSpec.ofChange fnExactMinimalTimesSpec)

/-- ITS FALSE NEIGHBOUR: 'it returns false'. Refute it at one input. -/
def fnExactMinimalTimesWrong : ChangeSpec := { name := "fnExactMinimalTimes", fn := fun _ => fun
  | [d] => { results := [.lit (.bool false)], args := [d] }
  | _ => none }
def FnExactMinimalTimesWrongFalsely : Prop := fnExactMinimalTimesRow.holds Try.pinned (OpenSpec.ofChange fnExactMinimalTimesWrong)

/-- 'laws.FnExactFrontierJoin': WHATEVER THE INPUT: true; the input reads as it did. -/
def fnExactFrontierJoinSpec : ChangeSpec := { name := "fnExactFrontierJoin", fn := fun _ => fun
  | [d1, d2] => { results := [.lit (.bool true)], args := [d1, d2] }
  | _ => none }
def fnExactFrontierJoinRow : OpenClaim := { program := "ytkonhjdfcfljpaa", sum := "0a80f09e62c3d2c73731b0f8a1fc09dcf95d17eb41419b2fc38cf2a8727973ba", func := "loop.example/dataflow/laws.FnExactFrontierJoin", spec := "fnExactFrontierJoin", inPlace := ["slices.overlaps[loop.example/dataflow/impl.Time]"], unfollowed := true, recurses := true, apart := false }
def FnExactFrontierJoinSaid : Prop := fnExactFrontierJoinRow.holds Try.pinned (OpenSpec.ofChange fnExactFrontierJoinSpec)

/-- ITS FALSE NEIGHBOUR: 'it returns false'. Refute it at one input. -/
def fnExactFrontierJoinWrong : ChangeSpec := { name := "fnExactFrontierJoin", fn := fun _ => fun
  | [d1, d2] => { results := [.lit (.bool false)], args := [d1, d2] }
  | _ => none }
def FnExactFrontierJoinWrongFalsely : Prop := fnExactFrontierJoinRow.holds Try.pinned (OpenSpec.ofChange fnExactFrontierJoinWrong)

/-- 'laws.FnExactFrontierMeet': WHATEVER THE INPUT: true; the input reads as it did. -/
def fnExactFrontierMeetSpec : ChangeSpec := { name := "fnExactFrontierMeet", fn := fun _ => fun
  | [d1, d2] => { results := [.lit (.bool true)], args := [d1, d2] }
  | _ => none }
def fnExactFrontierMeetRow : OpenClaim := { program := "ytkonhjdfcfljpaa", sum := "0a80f09e62c3d2c73731b0f8a1fc09dcf95d17eb41419b2fc38cf2a8727973ba", func := "loop.example/dataflow/laws.FnExactFrontierMeet", spec := "fnExactFrontierMeet", inPlace := ["slices.overlaps[loop.example/dataflow/impl.Time]"], unfollowed := true, recurses := true, apart := false }
def FnExactFrontierMeetSaid : Prop := fnExactFrontierMeetRow.holds Try.pinned (OpenSpec.ofChange fnExactFrontierMeetSpec)

/-- ITS FALSE NEIGHBOUR: 'it returns false'. Refute it at one input. -/
def fnExactFrontierMeetWrong : ChangeSpec := { name := "fnExactFrontierMeet", fn := fun _ => fun
  | [d1, d2] => { results := [.lit (.bool false)], args := [d1, d2] }
  | _ => none }
def FnExactFrontierMeetWrongFalsely : Prop := fnExactFrontierMeetRow.holds Try.pinned (OpenSpec.ofChange fnExactFrontierMeetWrong)

/-- 'laws.FnMinimalTimes': WHATEVER THE INPUT: true; the input reads as it did. -/
def fnMinimalTimesSpec : ChangeSpec := { name := "fnMinimalTimes", fn := fun _ => fun
  | [d1, d2] => { results := [.lit (.bool true)], args := [d1, d2] }
  | _ => none }
def fnMinimalTimesRow : OpenClaim := { program := "ytkonhjdfcfljpaa", sum := "0a80f09e62c3d2c73731b0f8a1fc09dcf95d17eb41419b2fc38cf2a8727973ba", func := "loop.example/dataflow/laws.FnMinimalTimes", spec := "fnMinimalTimes", inPlace := ["slices.overlaps[loop.example/dataflow/impl.Time]"], unfollowed := true, recurses := true, apart := false }
def FnMinimalTimesSaid : Prop := fnMinimalTimesRow.holds Try.pinned (OpenSpec.ofChange fnMinimalTimesSpec)

/-- ITS FALSE NEIGHBOUR: 'it returns false'. Refute it at one input. -/
def fnMinimalTimesWrong : ChangeSpec := { name := "fnMinimalTimes", fn := fun _ => fun
  | [d1, d2] => { results := [.lit (.bool false)], args := [d1, d2] }
  | _ => none }
def FnMinimalTimesWrongFalsely : Prop := fnMinimalTimesRow.holds Try.pinned (OpenSpec.ofChange fnMinimalTimesWrong)

/-- 'laws.FnFrontierJoin': WHATEVER THE INPUT: true; the input reads as it did. -/
def fnFrontierJoinSpec : ChangeSpec := { name := "fnFrontierJoin", fn := fun _ => fun
  | [d1, d2] => { results := [.lit (.bool true)], args := [d1, d2] }
  | _ => none }
def fnFrontierJoinRow : OpenClaim := { program := "ytkonhjdfcfljpaa", sum := "0a80f09e62c3d2c73731b0f8a1fc09dcf95d17eb41419b2fc38cf2a8727973ba", func := "loop.example/dataflow/laws.FnFrontierJoin", spec := "fnFrontierJoin", inPlace := ["slices.overlaps[loop.example/dataflow/impl.Time]"], unfollowed := true, recurses := true, apart := false }
def FnFrontierJoinSaid : Prop := fnFrontierJoinRow.holds Try.pinned (OpenSpec.ofChange fnFrontierJoinSpec)

/-- ITS FALSE NEIGHBOUR: 'it returns false'. Refute it at one input. -/
def fnFrontierJoinWrong : ChangeSpec := { name := "fnFrontierJoin", fn := fun _ => fun
  | [d1, d2] => { results := [.lit (.bool false)], args := [d1, d2] }
  | _ => none }
def FnFrontierJoinWrongFalsely : Prop := fnFrontierJoinRow.holds Try.pinned (OpenSpec.ofChange fnFrontierJoinWrong)

/-- 'laws.FnFrontierMeet': WHATEVER THE INPUT: true; the input reads as it did. -/
def fnFrontierMeetSpec : ChangeSpec := { name := "fnFrontierMeet", fn := fun _ => fun
  | [d1, d2] => { results := [.lit (.bool true)], args := [d1, d2] }
  | _ => none }
def fnFrontierMeetRow : OpenClaim := { program := "ytkonhjdfcfljpaa", sum := "0a80f09e62c3d2c73731b0f8a1fc09dcf95d17eb41419b2fc38cf2a8727973ba", func := "loop.example/dataflow/laws.FnFrontierMeet", spec := "fnFrontierMeet", inPlace := ["slices.overlaps[loop.example/dataflow/impl.Time]"], unfollowed := true, recurses := true, apart := false }
def FnFrontierMeetSaid : Prop := fnFrontierMeetRow.holds Try.pinned (OpenSpec.ofChange fnFrontierMeetSpec)

/-- ITS FALSE NEIGHBOUR: 'it returns false'. Refute it at one input. -/
def fnFrontierMeetWrong : ChangeSpec := { name := "fnFrontierMeet", fn := fun _ => fun
  | [d1, d2] => { results := [.lit (.bool false)], args := [d1, d2] }
  | _ => none }
def FnFrontierMeetWrongFalsely : Prop := fnFrontierMeetRow.holds Try.pinned (OpenSpec.ofChange fnFrontierMeetWrong)

/-- 'laws.FnSeekRows': WHATEVER THE INPUT: true; the input reads as it did. -/
def fnSeekRowsSpec : ChangeSpec := { name := "fnSeekRows", fn := fun _ => fun
  | [d] => { results := [.lit (.bool true)], args := [d] }
  | _ => none }
def fnSeekRowsRow : OpenClaim := { program := "ytkonhjdfcfljpaa", sum := "0a80f09e62c3d2c73731b0f8a1fc09dcf95d17eb41419b2fc38cf2a8727973ba", func := "loop.example/dataflow/laws.FnSeekRows", spec := "fnSeekRows", unfollowed := true, recurses := true, apart := false }
def FnSeekRowsSaid : Prop := fnSeekRowsRow.holds Try.pinned (OpenSpec.ofChange fnSeekRowsSpec)

/-- ITS FALSE NEIGHBOUR: 'it returns false'. Refute it at one input. -/
def fnSeekRowsWrong : ChangeSpec := { name := "fnSeekRows", fn := fun _ => fun
  | [d] => { results := [.lit (.bool false)], args := [d] }
  | _ => none }
def FnSeekRowsWrongFalsely : Prop := fnSeekRowsRow.holds Try.pinned (OpenSpec.ofChange fnSeekRowsWrong)

/-- 'laws.FnExactSplitTrace': WHATEVER THE INPUT: true; the input reads as it did. -/
def fnExactSplitTraceSpec : ChangeSpec := { name := "fnExactSplitTrace", fn := fun _ => fun
  | [d1, d2] => { results := [.lit (.bool true)], args := [d1, d2] }
  | _ => none }
def fnExactSplitTraceRow : OpenClaim := { program := "ytkonhjdfcfljpaa", sum := "0a80f09e62c3d2c73731b0f8a1fc09dcf95d17eb41419b2fc38cf2a8727973ba", func := "loop.example/dataflow/laws.FnExactSplitTrace", spec := "fnExactSplitTrace", unfollowed := true, recurses := true, apart := false }
def FnExactSplitTraceSaid : Prop := fnExactSplitTraceRow.holds Try.pinned (OpenSpec.ofChange fnExactSplitTraceSpec)

/-- ITS FALSE NEIGHBOUR: 'it returns false'. Refute it at one input. -/
def fnExactSplitTraceWrong : ChangeSpec := { name := "fnExactSplitTrace", fn := fun _ => fun
  | [d1, d2] => { results := [.lit (.bool false)], args := [d1, d2] }
  | _ => none }
def FnExactSplitTraceWrongFalsely : Prop := fnExactSplitTraceRow.holds Try.pinned (OpenSpec.ofChange fnExactSplitTraceWrong)

/- THE SECOND FORM. 'bulk': how many values and letters a reading holds, each counted each time it is reached (what is shared counts as often as it is met; a slice's spare places count too). A statement '..UptoSaid' is the law's where the arguments, and the package variables that the reading takes, are together of bulk at most 1048576: NARROWER than '..Said'. Prove '..Said' where nothing that the law and all that it calls make is longer than what came in: it says more and counts as full. Else prove '..UptoSaid'. A law counts once. -/
mutual
def uptoBulk {H : Type} : DataW H → Nat
  | .lit (.string bytes) => bytes.length + 1
  | .lit _ => 1
  | .nil => 1
  | .ptr d => uptoBulk d + 1
  | .slice elems spare => uptoBulkAll elems + uptoBulkAll spare + 1
  | .agg parts => uptoBulkAll parts + 1
  | .iface _ d => uptoBulk d + 1
  | .map entries => uptoBulkEntries entries + 1
  | .held _ => 1
def uptoBulkAll {H : Type} : List (DataW H) → Nat
  | [] => 0
  | d :: r => uptoBulk d + uptoBulkAll r
def uptoBulkEntries {H : Type} : List (Lit × DataW H) → Nat
  | [] => 0
  | x :: r => uptoBulkEntry x + uptoBulkEntries r
def uptoBulkEntry {H : Type} : Lit × DataW H → Nat
  | (.string bytes, d) => bytes.length + uptoBulk d + 1
  | (_, d) => uptoBulk d + 1
 end
def uptoSmall : (H : Type) → List (DataW H) → Bool := fun _ ds => decide (uptoBulkAll ds ≤ 1048576)
def OpenSpec.upto (s : _root_.Go.ChangeSpec) : _root_.Go.OpenSpec := { _root_.Go.OpenSpec.ofChange s with cond := some uptoSmall }

/-- 'laws.FnExactSeekRows', WHERE WHAT IT READS IS OF BULK AT MOST 1048576: true; the input reads as it did. -/
def fnExactSeekRowsUptoRow : OpenClaim := { program := "ytkonhjdfcfljpaa", sum := "0a80f09e62c3d2c73731b0f8a1fc09dcf95d17eb41419b2fc38cf2a8727973ba", func := "loop.example/dataflow/laws.FnExactSeekRows", spec := "fnExactSeekRows", unfollowed := true, recurses := true, apart := false, narrowed := true }
def FnExactSeekRowsUptoSaid : Prop := fnExactSeekRowsUptoRow.holds Try.pinned (OpenSpec.upto fnExactSeekRowsSpec)

/-- 'laws.FnExactTraceTimes', WHERE WHAT IT READS IS OF BULK AT MOST 1048576: true; the input reads as it did. -/
def fnExactTraceTimesUptoRow : OpenClaim := { program := "ytkonhjdfcfljpaa", sum := "0a80f09e62c3d2c73731b0f8a1fc09dcf95d17eb41419b2fc38cf2a8727973ba", func := "loop.example/dataflow/laws.FnExactTraceTimes", spec := "fnExactTraceTimes", unfollowed := true, recurses := true, apart := false, narrowed := true }
def FnExactTraceTimesUptoSaid : Prop := fnExactTraceTimesUptoRow.holds Try.pinned (OpenSpec.upto fnExactTraceTimesSpec)

/-- 'laws.FnTraceTimes', WHERE WHAT IT READS IS OF BULK AT MOST 1048576: true; the input reads as it did. -/
def fnTraceTimesUptoRow : OpenClaim := { program := "ytkonhjdfcfljpaa", sum := "0a80f09e62c3d2c73731b0f8a1fc09dcf95d17eb41419b2fc38cf2a8727973ba", func := "loop.example/dataflow/laws.FnTraceTimes", spec := "fnTraceTimes", unfollowed := true, recurses := true, apart := false, narrowed := true }
def FnTraceTimesUptoSaid : Prop := fnTraceTimesUptoRow.holds Try.pinned (OpenSpec.upto fnTraceTimesSpec)

/-- 'laws.FnExactMinimalTimes', WHERE WHAT IT READS IS OF BULK AT MOST 1048576: true; the input reads as it did. -/
def fnExactMinimalTimesUptoRow : OpenClaim := { program := "ytkonhjdfcfljpaa", sum := "0a80f09e62c3d2c73731b0f8a1fc09dcf95d17eb41419b2fc38cf2a8727973ba", func := "loop.example/dataflow/laws.FnExactMinimalTimes", spec := "fnExactMinimalTimes", inPlace := ["slices.overlaps[loop.example/dataflow/impl.Time]"], unfollowed := true, recurses := true, apart := false, narrowed := true }
def FnExactMinimalTimesUptoSaid : Prop := fnExactMinimalTimesUptoRow.holds Try.pinned (OpenSpec.upto fnExactMinimalTimesSpec)

/-- 'laws.FnExactFrontierJoin', WHERE WHAT IT READS IS OF BULK AT MOST 1048576: true; the input reads as it did. -/
def fnExactFrontierJoinUptoRow : OpenClaim := { program := "ytkonhjdfcfljpaa", sum := "0a80f09e62c3d2c73731b0f8a1fc09dcf95d17eb41419b2fc38cf2a8727973ba", func := "loop.example/dataflow/laws.FnExactFrontierJoin", spec := "fnExactFrontierJoin", inPlace := ["slices.overlaps[loop.example/dataflow/impl.Time]"], unfollowed := true, recurses := true, apart := false, narrowed := true }
def FnExactFrontierJoinUptoSaid : Prop := fnExactFrontierJoinUptoRow.holds Try.pinned (OpenSpec.upto fnExactFrontierJoinSpec)

/-- 'laws.FnExactFrontierMeet', WHERE WHAT IT READS IS OF BULK AT MOST 1048576: true; the input reads as it did. -/
def fnExactFrontierMeetUptoRow : OpenClaim := { program := "ytkonhjdfcfljpaa", sum := "0a80f09e62c3d2c73731b0f8a1fc09dcf95d17eb41419b2fc38cf2a8727973ba", func := "loop.example/dataflow/laws.FnExactFrontierMeet", spec := "fnExactFrontierMeet", inPlace := ["slices.overlaps[loop.example/dataflow/impl.Time]"], unfollowed := true, recurses := true, apart := false, narrowed := true }
def FnExactFrontierMeetUptoSaid : Prop := fnExactFrontierMeetUptoRow.holds Try.pinned (OpenSpec.upto fnExactFrontierMeetSpec)

/-- 'laws.FnMinimalTimes', WHERE WHAT IT READS IS OF BULK AT MOST 1048576: true; the input reads as it did. -/
def fnMinimalTimesUptoRow : OpenClaim := { program := "ytkonhjdfcfljpaa", sum := "0a80f09e62c3d2c73731b0f8a1fc09dcf95d17eb41419b2fc38cf2a8727973ba", func := "loop.example/dataflow/laws.FnMinimalTimes", spec := "fnMinimalTimes", inPlace := ["slices.overlaps[loop.example/dataflow/impl.Time]"], unfollowed := true, recurses := true, apart := false, narrowed := true }
def FnMinimalTimesUptoSaid : Prop := fnMinimalTimesUptoRow.holds Try.pinned (OpenSpec.upto fnMinimalTimesSpec)

/-- 'laws.FnFrontierJoin', WHERE WHAT IT READS IS OF BULK AT MOST 1048576: true; the input reads as it did. -/
def fnFrontierJoinUptoRow : OpenClaim := { program := "ytkonhjdfcfljpaa", sum := "0a80f09e62c3d2c73731b0f8a1fc09dcf95d17eb41419b2fc38cf2a8727973ba", func := "loop.example/dataflow/laws.FnFrontierJoin", spec := "fnFrontierJoin", inPlace := ["slices.overlaps[loop.example/dataflow/impl.Time]"], unfollowed := true, recurses := true, apart := false, narrowed := true }
def FnFrontierJoinUptoSaid : Prop := fnFrontierJoinUptoRow.holds Try.pinned (OpenSpec.upto fnFrontierJoinSpec)

/-- 'laws.FnFrontierMeet', WHERE WHAT IT READS IS OF BULK AT MOST 1048576: true; the input reads as it did. -/
def fnFrontierMeetUptoRow : OpenClaim := { program := "ytkonhjdfcfljpaa", sum := "0a80f09e62c3d2c73731b0f8a1fc09dcf95d17eb41419b2fc38cf2a8727973ba", func := "loop.example/dataflow/laws.FnFrontierMeet", spec := "fnFrontierMeet", inPlace := ["slices.overlaps[loop.example/dataflow/impl.Time]"], unfollowed := true, recurses := true, apart := false, narrowed := true }
def FnFrontierMeetUptoSaid : Prop := fnFrontierMeetUptoRow.holds Try.pinned (OpenSpec.upto fnFrontierMeetSpec)

/-- 'laws.FnSeekRows', WHERE WHAT IT READS IS OF BULK AT MOST 1048576: true; the input reads as it did. -/
def fnSeekRowsUptoRow : OpenClaim := { program := "ytkonhjdfcfljpaa", sum := "0a80f09e62c3d2c73731b0f8a1fc09dcf95d17eb41419b2fc38cf2a8727973ba", func := "loop.example/dataflow/laws.FnSeekRows", spec := "fnSeekRows", unfollowed := true, recurses := true, apart := false, narrowed := true }
def FnSeekRowsUptoSaid : Prop := fnSeekRowsUptoRow.holds Try.pinned (OpenSpec.upto fnSeekRowsSpec)

/-- 'laws.FnExactSplitTrace', WHERE WHAT IT READS IS OF BULK AT MOST 1048576: true; the input reads as it did. -/
def fnExactSplitTraceUptoRow : OpenClaim := { program := "ytkonhjdfcfljpaa", sum := "0a80f09e62c3d2c73731b0f8a1fc09dcf95d17eb41419b2fc38cf2a8727973ba", func := "loop.example/dataflow/laws.FnExactSplitTrace", spec := "fnExactSplitTrace", unfollowed := true, recurses := true, apart := false, narrowed := true }
def FnExactSplitTraceUptoSaid : Prop := fnExactSplitTraceUptoRow.holds Try.pinned (OpenSpec.upto fnExactSplitTraceSpec)

end Rows
end Go.Proofs.Ytkonhjdfcfljpaa
