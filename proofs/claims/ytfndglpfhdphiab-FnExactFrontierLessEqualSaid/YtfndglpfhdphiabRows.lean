/-
  No cell of these rows narrows 'for every input' (looked for: loops, veiled, ifaces, maps, wideKeys, modest, calm, conditions, laid).
  DERIVED. THE GIVEN ROWS OF THIS SEAT. 12 by the template 'for every input the law returns true; each argument reads behind the call as it read before'; 0 by the template 'total and deterministic' (their statements: YtfndglpfhdphiabTotals.lean).
  GIVEN WITH THE SEED: the statements are not yours to turn. If you find one false, say at which input.
  Laid BY PROGRAM, IN A SANDBOX (cutbox-rows.mjs): the forced cells as the released guide's own fill.sh prints them over the translation 06c46d179666ce35… (all of the seat's roots in one cut). By AI agents, Wed Nov 11 2026. No macro, syntax, notation, axiom, sorry.
-/
import Derived.Test.YtfndglpfhdphiabChecked
import GoSem.Claim
import GoSem.ClaimJoined
import GoSem.ClaimMapViews
import Derived.JoinedTies
import Derived.KernelRfl
namespace Go.Proofs.Ytfndglpfhdphiab
/- THE CELL 'sum', in the pinned program and in every row, IS THE sha256 OF THE DUMP (.gsa) THAT YtfndglpfhdphiabProg.lean LOADS. Nothing in Lean hashes anything: it is a label: what it is worth is what the hold of that sum in a sandbox is worth. -/
noncomputable def Try.pinned : Pinned := { name := "ytfndglpfhdphiab", sum := "06c46d179666ce358cec3e6b31f61ca7d7274bea8fabab85af047db0f401a3d1", checked := Try.checked }
namespace Rows
def none {H : Type} : Left H := { results := [], args := [] }

/-- 'laws.FnExactValidFrontier': WHATEVER THE INPUT: true; the input reads as it did. -/
def fnExactValidFrontierSpec : ChangeSpec := { name := "fnExactValidFrontier", fn := fun _ => fun
  | [d] => { results := [.lit (.bool true)], args := [d] }
  | _ => none }
def fnExactValidFrontierRow : OpenClaim := { program := "ytfndglpfhdphiab", sum := "06c46d179666ce358cec3e6b31f61ca7d7274bea8fabab85af047db0f401a3d1", func := "loop.example/dataflow/laws.FnExactValidFrontier", spec := "fnExactValidFrontier", apart := false }
def FnExactValidFrontierSaid : Prop := fnExactValidFrontierRow.holds Try.pinned (OpenSpec.ofChange fnExactValidFrontierSpec)

/-- ITS FALSE NEIGHBOUR: 'it returns false'. Refute it at one input. -/
def fnExactValidFrontierWrong : ChangeSpec := { name := "fnExactValidFrontier", fn := fun _ => fun
  | [d] => { results := [.lit (.bool false)], args := [d] }
  | _ => none }
def FnExactValidFrontierWrongFalsely : Prop := fnExactValidFrontierRow.holds Try.pinned (OpenSpec.ofChange fnExactValidFrontierWrong)

/-- 'laws.FnExactMinimalTimes': WHATEVER THE INPUT: true; the input reads as it did. -/
def fnExactMinimalTimesSpec : ChangeSpec := { name := "fnExactMinimalTimes", fn := fun _ => fun
  | [d] => { results := [.lit (.bool true)], args := [d] }
  | _ => none }
def fnExactMinimalTimesRow : OpenClaim := { program := "ytfndglpfhdphiab", sum := "06c46d179666ce358cec3e6b31f61ca7d7274bea8fabab85af047db0f401a3d1", func := "loop.example/dataflow/laws.FnExactMinimalTimes", spec := "fnExactMinimalTimes", inPlace := ["slices.overlaps[loop.example/dataflow/impl.Time]"], unfollowed := true, recurses := true, apart := false }
def FnExactMinimalTimesSaid : Prop := fnExactMinimalTimesRow.holds Try.pinned (OpenSpec.ofChange fnExactMinimalTimesSpec)

/-- ITS FALSE NEIGHBOUR: 'it returns false'. Refute it at one input. -/
def fnExactMinimalTimesWrong : ChangeSpec := { name := "fnExactMinimalTimes", fn := fun _ => fun
  | [d] => { results := [.lit (.bool false)], args := [d] }
  | _ => none }
def FnExactMinimalTimesWrongFalsely : Prop := fnExactMinimalTimesRow.holds Try.pinned (OpenSpec.ofChange fnExactMinimalTimesWrong)

/-- 'laws.FnExactFrontierCovers': WHATEVER THE INPUT: true; the input reads as it did. -/
def fnExactFrontierCoversSpec : ChangeSpec := { name := "fnExactFrontierCovers", fn := fun _ => fun
  | [d1, d2] => { results := [.lit (.bool true)], args := [d1, d2] }
  | _ => none }
def fnExactFrontierCoversRow : OpenClaim := { program := "ytfndglpfhdphiab", sum := "06c46d179666ce358cec3e6b31f61ca7d7274bea8fabab85af047db0f401a3d1", func := "loop.example/dataflow/laws.FnExactFrontierCovers", spec := "fnExactFrontierCovers", apart := false }
def FnExactFrontierCoversSaid : Prop := fnExactFrontierCoversRow.holds Try.pinned (OpenSpec.ofChange fnExactFrontierCoversSpec)

/-- ITS FALSE NEIGHBOUR: 'it returns false'. Refute it at one input. -/
def fnExactFrontierCoversWrong : ChangeSpec := { name := "fnExactFrontierCovers", fn := fun _ => fun
  | [d1, d2] => { results := [.lit (.bool false)], args := [d1, d2] }
  | _ => none }
def FnExactFrontierCoversWrongFalsely : Prop := fnExactFrontierCoversRow.holds Try.pinned (OpenSpec.ofChange fnExactFrontierCoversWrong)

/-- 'laws.FnExactFrontierLessEqual': WHATEVER THE INPUT: true; the input reads as it did. -/
def fnExactFrontierLessEqualSpec : ChangeSpec := { name := "fnExactFrontierLessEqual", fn := fun _ => fun
  | [d1, d2] => { results := [.lit (.bool true)], args := [d1, d2] }
  | _ => none }
def fnExactFrontierLessEqualRow : OpenClaim := { program := "ytfndglpfhdphiab", sum := "06c46d179666ce358cec3e6b31f61ca7d7274bea8fabab85af047db0f401a3d1", func := "loop.example/dataflow/laws.FnExactFrontierLessEqual", spec := "fnExactFrontierLessEqual", apart := false }
def FnExactFrontierLessEqualSaid : Prop := fnExactFrontierLessEqualRow.holds Try.pinned (OpenSpec.ofChange fnExactFrontierLessEqualSpec)

/-- ITS FALSE NEIGHBOUR: 'it returns false'. Refute it at one input. -/
def fnExactFrontierLessEqualWrong : ChangeSpec := { name := "fnExactFrontierLessEqual", fn := fun _ => fun
  | [d1, d2] => { results := [.lit (.bool false)], args := [d1, d2] }
  | _ => none }
def FnExactFrontierLessEqualWrongFalsely : Prop := fnExactFrontierLessEqualRow.holds Try.pinned (OpenSpec.ofChange fnExactFrontierLessEqualWrong)

/-- 'laws.FnExactFrontierJoin': WHATEVER THE INPUT: true; the input reads as it did. -/
def fnExactFrontierJoinSpec : ChangeSpec := { name := "fnExactFrontierJoin", fn := fun _ => fun
  | [d1, d2] => { results := [.lit (.bool true)], args := [d1, d2] }
  | _ => none }
def fnExactFrontierJoinRow : OpenClaim := { program := "ytfndglpfhdphiab", sum := "06c46d179666ce358cec3e6b31f61ca7d7274bea8fabab85af047db0f401a3d1", func := "loop.example/dataflow/laws.FnExactFrontierJoin", spec := "fnExactFrontierJoin", inPlace := ["slices.overlaps[loop.example/dataflow/impl.Time]"], unfollowed := true, recurses := true, apart := false }
def FnExactFrontierJoinSaid : Prop := fnExactFrontierJoinRow.holds Try.pinned (OpenSpec.ofChange fnExactFrontierJoinSpec)

/-- ITS FALSE NEIGHBOUR: 'it returns false'. Refute it at one input. -/
def fnExactFrontierJoinWrong : ChangeSpec := { name := "fnExactFrontierJoin", fn := fun _ => fun
  | [d1, d2] => { results := [.lit (.bool false)], args := [d1, d2] }
  | _ => none }
def FnExactFrontierJoinWrongFalsely : Prop := fnExactFrontierJoinRow.holds Try.pinned (OpenSpec.ofChange fnExactFrontierJoinWrong)

/-- 'laws.FnExactFrontierMeet': WHATEVER THE INPUT: true; the input reads as it did. -/
def fnExactFrontierMeetSpec : ChangeSpec := { name := "fnExactFrontierMeet", fn := fun _ => fun
  | [d1, d2] => { results := [.lit (.bool true)], args := [d1, d2] }
  | _ => none }
def fnExactFrontierMeetRow : OpenClaim := { program := "ytfndglpfhdphiab", sum := "06c46d179666ce358cec3e6b31f61ca7d7274bea8fabab85af047db0f401a3d1", func := "loop.example/dataflow/laws.FnExactFrontierMeet", spec := "fnExactFrontierMeet", inPlace := ["slices.overlaps[loop.example/dataflow/impl.Time]"], unfollowed := true, recurses := true, apart := false }
def FnExactFrontierMeetSaid : Prop := fnExactFrontierMeetRow.holds Try.pinned (OpenSpec.ofChange fnExactFrontierMeetSpec)

/-- ITS FALSE NEIGHBOUR: 'it returns false'. Refute it at one input. -/
def fnExactFrontierMeetWrong : ChangeSpec := { name := "fnExactFrontierMeet", fn := fun _ => fun
  | [d1, d2] => { results := [.lit (.bool false)], args := [d1, d2] }
  | _ => none }
def FnExactFrontierMeetWrongFalsely : Prop := fnExactFrontierMeetRow.holds Try.pinned (OpenSpec.ofChange fnExactFrontierMeetWrong)

/-- 'laws.FnExactAdvanceTime': WHATEVER THE INPUT: true; the input reads as it did. -/
def fnExactAdvanceTimeSpec : ChangeSpec := { name := "fnExactAdvanceTime", fn := fun _ => fun
  | [d1, d2] => { results := [.lit (.bool true)], args := [d1, d2] }
  | _ => none }
def fnExactAdvanceTimeRow : OpenClaim := { program := "ytfndglpfhdphiab", sum := "06c46d179666ce358cec3e6b31f61ca7d7274bea8fabab85af047db0f401a3d1", func := "loop.example/dataflow/laws.FnExactAdvanceTime", spec := "fnExactAdvanceTime", apart := false }
def FnExactAdvanceTimeSaid : Prop := fnExactAdvanceTimeRow.holds Try.pinned (OpenSpec.ofChange fnExactAdvanceTimeSpec)

/-- ITS FALSE NEIGHBOUR: 'it returns false'. Refute it at one input. -/
def fnExactAdvanceTimeWrong : ChangeSpec := { name := "fnExactAdvanceTime", fn := fun _ => fun
  | [d1, d2] => { results := [.lit (.bool false)], args := [d1, d2] }
  | _ => none }
def FnExactAdvanceTimeWrongFalsely : Prop := fnExactAdvanceTimeRow.holds Try.pinned (OpenSpec.ofChange fnExactAdvanceTimeWrong)

/-- 'laws.FnMinimalTimes': WHATEVER THE INPUT: true; the input reads as it did. -/
def fnMinimalTimesSpec : ChangeSpec := { name := "fnMinimalTimes", fn := fun _ => fun
  | [d1, d2] => { results := [.lit (.bool true)], args := [d1, d2] }
  | _ => none }
def fnMinimalTimesRow : OpenClaim := { program := "ytfndglpfhdphiab", sum := "06c46d179666ce358cec3e6b31f61ca7d7274bea8fabab85af047db0f401a3d1", func := "loop.example/dataflow/laws.FnMinimalTimes", spec := "fnMinimalTimes", inPlace := ["slices.overlaps[loop.example/dataflow/impl.Time]"], unfollowed := true, recurses := true, apart := false }
def FnMinimalTimesSaid : Prop := fnMinimalTimesRow.holds Try.pinned (OpenSpec.ofChange fnMinimalTimesSpec)

/-- ITS FALSE NEIGHBOUR: 'it returns false'. Refute it at one input. -/
def fnMinimalTimesWrong : ChangeSpec := { name := "fnMinimalTimes", fn := fun _ => fun
  | [d1, d2] => { results := [.lit (.bool false)], args := [d1, d2] }
  | _ => none }
def FnMinimalTimesWrongFalsely : Prop := fnMinimalTimesRow.holds Try.pinned (OpenSpec.ofChange fnMinimalTimesWrong)

/-- 'laws.FnFrontierOrder': WHATEVER THE INPUT: true; the input reads as it did. -/
def fnFrontierOrderSpec : ChangeSpec := { name := "fnFrontierOrder", fn := fun _ => fun
  | [d1, d2] => { results := [.lit (.bool true)], args := [d1, d2] }
  | _ => none }
def fnFrontierOrderRow : OpenClaim := { program := "ytfndglpfhdphiab", sum := "06c46d179666ce358cec3e6b31f61ca7d7274bea8fabab85af047db0f401a3d1", func := "loop.example/dataflow/laws.FnFrontierOrder", spec := "fnFrontierOrder", apart := false }
def FnFrontierOrderSaid : Prop := fnFrontierOrderRow.holds Try.pinned (OpenSpec.ofChange fnFrontierOrderSpec)

/-- ITS FALSE NEIGHBOUR: 'it returns false'. Refute it at one input. -/
def fnFrontierOrderWrong : ChangeSpec := { name := "fnFrontierOrder", fn := fun _ => fun
  | [d1, d2] => { results := [.lit (.bool false)], args := [d1, d2] }
  | _ => none }
def FnFrontierOrderWrongFalsely : Prop := fnFrontierOrderRow.holds Try.pinned (OpenSpec.ofChange fnFrontierOrderWrong)

/-- 'laws.FnFrontierJoin': WHATEVER THE INPUT: true; the input reads as it did. -/
def fnFrontierJoinSpec : ChangeSpec := { name := "fnFrontierJoin", fn := fun _ => fun
  | [d1, d2] => { results := [.lit (.bool true)], args := [d1, d2] }
  | _ => none }
def fnFrontierJoinRow : OpenClaim := { program := "ytfndglpfhdphiab", sum := "06c46d179666ce358cec3e6b31f61ca7d7274bea8fabab85af047db0f401a3d1", func := "loop.example/dataflow/laws.FnFrontierJoin", spec := "fnFrontierJoin", inPlace := ["slices.overlaps[loop.example/dataflow/impl.Time]"], unfollowed := true, recurses := true, apart := false }
def FnFrontierJoinSaid : Prop := fnFrontierJoinRow.holds Try.pinned (OpenSpec.ofChange fnFrontierJoinSpec)

/-- ITS FALSE NEIGHBOUR: 'it returns false'. Refute it at one input. -/
def fnFrontierJoinWrong : ChangeSpec := { name := "fnFrontierJoin", fn := fun _ => fun
  | [d1, d2] => { results := [.lit (.bool false)], args := [d1, d2] }
  | _ => none }
def FnFrontierJoinWrongFalsely : Prop := fnFrontierJoinRow.holds Try.pinned (OpenSpec.ofChange fnFrontierJoinWrong)

/-- 'laws.FnFrontierMeet': WHATEVER THE INPUT: true; the input reads as it did. -/
def fnFrontierMeetSpec : ChangeSpec := { name := "fnFrontierMeet", fn := fun _ => fun
  | [d1, d2] => { results := [.lit (.bool true)], args := [d1, d2] }
  | _ => none }
def fnFrontierMeetRow : OpenClaim := { program := "ytfndglpfhdphiab", sum := "06c46d179666ce358cec3e6b31f61ca7d7274bea8fabab85af047db0f401a3d1", func := "loop.example/dataflow/laws.FnFrontierMeet", spec := "fnFrontierMeet", inPlace := ["slices.overlaps[loop.example/dataflow/impl.Time]"], unfollowed := true, recurses := true, apart := false }
def FnFrontierMeetSaid : Prop := fnFrontierMeetRow.holds Try.pinned (OpenSpec.ofChange fnFrontierMeetSpec)

/-- ITS FALSE NEIGHBOUR: 'it returns false'. Refute it at one input. -/
def fnFrontierMeetWrong : ChangeSpec := { name := "fnFrontierMeet", fn := fun _ => fun
  | [d1, d2] => { results := [.lit (.bool false)], args := [d1, d2] }
  | _ => none }
def FnFrontierMeetWrongFalsely : Prop := fnFrontierMeetRow.holds Try.pinned (OpenSpec.ofChange fnFrontierMeetWrong)

/-- 'laws.FnAdvanceTime': WHATEVER THE INPUT: true; the input reads as it did. -/
def fnAdvanceTimeSpec : ChangeSpec := { name := "fnAdvanceTime", fn := fun _ => fun
  | [d1, d2] => { results := [.lit (.bool true)], args := [d1, d2] }
  | _ => none }
def fnAdvanceTimeRow : OpenClaim := { program := "ytfndglpfhdphiab", sum := "06c46d179666ce358cec3e6b31f61ca7d7274bea8fabab85af047db0f401a3d1", func := "loop.example/dataflow/laws.FnAdvanceTime", spec := "fnAdvanceTime", apart := false }
def FnAdvanceTimeSaid : Prop := fnAdvanceTimeRow.holds Try.pinned (OpenSpec.ofChange fnAdvanceTimeSpec)

/-- ITS FALSE NEIGHBOUR: 'it returns false'. Refute it at one input. -/
def fnAdvanceTimeWrong : ChangeSpec := { name := "fnAdvanceTime", fn := fun _ => fun
  | [d1, d2] => { results := [.lit (.bool false)], args := [d1, d2] }
  | _ => none }
def FnAdvanceTimeWrongFalsely : Prop := fnAdvanceTimeRow.holds Try.pinned (OpenSpec.ofChange fnAdvanceTimeWrong)

/- THE SECOND FORM. 'bulk': how many values and letters a reading holds, each counted each time it is reached (what is shared counts as often as it is met; a slice's spare places count too). A statement '..UptoSaid' is the law's where the arguments, and the package variables that the reading takes, are together of bulk at most 1048576: NARROWER than '..Said'. Prove '..Said' where nothing that the law and all that it calls make is longer than what came in: it says more and counts as full. Else prove '..UptoSaid'. A law counts once. -/
mutual
def uptoBulk {H : Type} : DataW H → Nat
  | .lit (.string bytes) => bytes.length + 1
  | .lit _ => 1
  | .nil => 1
  | .ptr d => uptoBulk d + 1
  | .slice elems spare => uptoBulkAll elems + uptoBulkAll spare + 1
  | .agg parts => uptoBulkAll parts + 1
  | .iface _ d => uptoBulk d + 1
  | .map entries => uptoBulkEntries entries + 1
  | .held _ => 1
def uptoBulkAll {H : Type} : List (DataW H) → Nat
  | [] => 0
  | d :: r => uptoBulk d + uptoBulkAll r
def uptoBulkEntries {H : Type} : List (Lit × DataW H) → Nat
  | [] => 0
  | x :: r => uptoBulkEntry x + uptoBulkEntries r
def uptoBulkEntry {H : Type} : Lit × DataW H → Nat
  | (.string bytes, d) => bytes.length + uptoBulk d + 1
  | (_, d) => uptoBulk d + 1
 end
def uptoSmall : (H : Type) → List (DataW H) → Bool := fun _ ds => decide (uptoBulkAll ds ≤ 1048576)
def OpenSpec.upto (s : _root_.Go.ChangeSpec) : _root_.Go.OpenSpec := { _root_.Go.OpenSpec.ofChange s with cond := some uptoSmall }

/-- 'laws.FnExactValidFrontier', WHERE WHAT IT READS IS OF BULK AT MOST 1048576: true; the input reads as it did. -/
def fnExactValidFrontierUptoRow : OpenClaim := { program := "ytfndglpfhdphiab", sum := "06c46d179666ce358cec3e6b31f61ca7d7274bea8fabab85af047db0f401a3d1", func := "loop.example/dataflow/laws.FnExactValidFrontier", spec := "fnExactValidFrontier", apart := false, narrowed := true }
def FnExactValidFrontierUptoSaid : Prop := fnExactValidFrontierUptoRow.holds Try.pinned (OpenSpec.upto fnExactValidFrontierSpec)

/-- 'laws.FnExactMinimalTimes', WHERE WHAT IT READS IS OF BULK AT MOST 1048576: true; the input reads as it did. -/
def fnExactMinimalTimesUptoRow : OpenClaim := { program := "ytfndglpfhdphiab", sum := "06c46d179666ce358cec3e6b31f61ca7d7274bea8fabab85af047db0f401a3d1", func := "loop.example/dataflow/laws.FnExactMinimalTimes", spec := "fnExactMinimalTimes", inPlace := ["slices.overlaps[loop.example/dataflow/impl.Time]"], unfollowed := true, recurses := true, apart := false, narrowed := true }
def FnExactMinimalTimesUptoSaid : Prop := fnExactMinimalTimesUptoRow.holds Try.pinned (OpenSpec.upto fnExactMinimalTimesSpec)

/-- 'laws.FnExactFrontierCovers', WHERE WHAT IT READS IS OF BULK AT MOST 1048576: true; the input reads as it did. -/
def fnExactFrontierCoversUptoRow : OpenClaim := { program := "ytfndglpfhdphiab", sum := "06c46d179666ce358cec3e6b31f61ca7d7274bea8fabab85af047db0f401a3d1", func := "loop.example/dataflow/laws.FnExactFrontierCovers", spec := "fnExactFrontierCovers", apart := false, narrowed := true }
def FnExactFrontierCoversUptoSaid : Prop := fnExactFrontierCoversUptoRow.holds Try.pinned (OpenSpec.upto fnExactFrontierCoversSpec)

/-- 'laws.FnExactFrontierLessEqual', WHERE WHAT IT READS IS OF BULK AT MOST 1048576: true; the input reads as it did. -/
def fnExactFrontierLessEqualUptoRow : OpenClaim := { program := "ytfndglpfhdphiab", sum := "06c46d179666ce358cec3e6b31f61ca7d7274bea8fabab85af047db0f401a3d1", func := "loop.example/dataflow/laws.FnExactFrontierLessEqual", spec := "fnExactFrontierLessEqual", apart := false, narrowed := true }
def FnExactFrontierLessEqualUptoSaid : Prop := fnExactFrontierLessEqualUptoRow.holds Try.pinned (OpenSpec.upto fnExactFrontierLessEqualSpec)

/-- 'laws.FnExactFrontierJoin', WHERE WHAT IT READS IS OF BULK AT MOST 1048576: true; the input reads as it did. -/
def fnExactFrontierJoinUptoRow : OpenClaim := { program := "ytfndglpfhdphiab", sum := "06c46d179666ce358cec3e6b31f61ca7d7274bea8fabab85af047db0f401a3d1", func := "loop.example/dataflow/laws.FnExactFrontierJoin", spec := "fnExactFrontierJoin", inPlace := ["slices.overlaps[loop.example/dataflow/impl.Time]"], unfollowed := true, recurses := true, apart := false, narrowed := true }
def FnExactFrontierJoinUptoSaid : Prop := fnExactFrontierJoinUptoRow.holds Try.pinned (OpenSpec.upto fnExactFrontierJoinSpec)

/-- 'laws.FnExactFrontierMeet', WHERE WHAT IT READS IS OF BULK AT MOST 1048576: true; the input reads as it did. -/
def fnExactFrontierMeetUptoRow : OpenClaim := { program := "ytfndglpfhdphiab", sum := "06c46d179666ce358cec3e6b31f61ca7d7274bea8fabab85af047db0f401a3d1", func := "loop.example/dataflow/laws.FnExactFrontierMeet", spec := "fnExactFrontierMeet", inPlace := ["slices.overlaps[loop.example/dataflow/impl.Time]"], unfollowed := true, recurses := true, apart := false, narrowed := true }
def FnExactFrontierMeetUptoSaid : Prop := fnExactFrontierMeetUptoRow.holds Try.pinned (OpenSpec.upto fnExactFrontierMeetSpec)

/-- 'laws.FnExactAdvanceTime', WHERE WHAT IT READS IS OF BULK AT MOST 1048576: true; the input reads as it did. -/
def fnExactAdvanceTimeUptoRow : OpenClaim := { program := "ytfndglpfhdphiab", sum := "06c46d179666ce358cec3e6b31f61ca7d7274bea8fabab85af047db0f401a3d1", func := "loop.example/dataflow/laws.FnExactAdvanceTime", spec := "fnExactAdvanceTime", apart := false, narrowed := true }
def FnExactAdvanceTimeUptoSaid : Prop := fnExactAdvanceTimeUptoRow.holds Try.pinned (OpenSpec.upto fnExactAdvanceTimeSpec)

/-- 'laws.FnMinimalTimes', WHERE WHAT IT READS IS OF BULK AT MOST 1048576: true; the input reads as it did. -/
def fnMinimalTimesUptoRow : OpenClaim := { program := "ytfndglpfhdphiab", sum := "06c46d179666ce358cec3e6b31f61ca7d7274bea8fabab85af047db0f401a3d1", func := "loop.example/dataflow/laws.FnMinimalTimes", spec := "fnMinimalTimes", inPlace := ["slices.overlaps[loop.example/dataflow/impl.Time]"], unfollowed := true, recurses := true, apart := false, narrowed := true }
def FnMinimalTimesUptoSaid : Prop := fnMinimalTimesUptoRow.holds Try.pinned (OpenSpec.upto fnMinimalTimesSpec)

/-- 'laws.FnFrontierOrder', WHERE WHAT IT READS IS OF BULK AT MOST 1048576: true; the input reads as it did. -/
def fnFrontierOrderUptoRow : OpenClaim := { program := "ytfndglpfhdphiab", sum := "06c46d179666ce358cec3e6b31f61ca7d7274bea8fabab85af047db0f401a3d1", func := "loop.example/dataflow/laws.FnFrontierOrder", spec := "fnFrontierOrder", apart := false, narrowed := true }
def FnFrontierOrderUptoSaid : Prop := fnFrontierOrderUptoRow.holds Try.pinned (OpenSpec.upto fnFrontierOrderSpec)

/-- 'laws.FnFrontierJoin', WHERE WHAT IT READS IS OF BULK AT MOST 1048576: true; the input reads as it did. -/
def fnFrontierJoinUptoRow : OpenClaim := { program := "ytfndglpfhdphiab", sum := "06c46d179666ce358cec3e6b31f61ca7d7274bea8fabab85af047db0f401a3d1", func := "loop.example/dataflow/laws.FnFrontierJoin", spec := "fnFrontierJoin", inPlace := ["slices.overlaps[loop.example/dataflow/impl.Time]"], unfollowed := true, recurses := true, apart := false, narrowed := true }
def FnFrontierJoinUptoSaid : Prop := fnFrontierJoinUptoRow.holds Try.pinned (OpenSpec.upto fnFrontierJoinSpec)

/-- 'laws.FnFrontierMeet', WHERE WHAT IT READS IS OF BULK AT MOST 1048576: true; the input reads as it did. -/
def fnFrontierMeetUptoRow : OpenClaim := { program := "ytfndglpfhdphiab", sum := "06c46d179666ce358cec3e6b31f61ca7d7274bea8fabab85af047db0f401a3d1", func := "loop.example/dataflow/laws.FnFrontierMeet", spec := "fnFrontierMeet", inPlace := ["slices.overlaps[loop.example/dataflow/impl.Time]"], unfollowed := true, recurses := true, apart := false, narrowed := true }
def FnFrontierMeetUptoSaid : Prop := fnFrontierMeetUptoRow.holds Try.pinned (OpenSpec.upto fnFrontierMeetSpec)

/-- 'laws.FnAdvanceTime', WHERE WHAT IT READS IS OF BULK AT MOST 1048576: true; the input reads as it did. -/
def fnAdvanceTimeUptoRow : OpenClaim := { program := "ytfndglpfhdphiab", sum := "06c46d179666ce358cec3e6b31f61ca7d7274bea8fabab85af047db0f401a3d1", func := "loop.example/dataflow/laws.FnAdvanceTime", spec := "fnAdvanceTime", apart := false, narrowed := true }
def FnAdvanceTimeUptoSaid : Prop := fnAdvanceTimeUptoRow.holds Try.pinned (OpenSpec.upto fnAdvanceTimeSpec)

end Rows
end Go.Proofs.Ytfndglpfhdphiab
