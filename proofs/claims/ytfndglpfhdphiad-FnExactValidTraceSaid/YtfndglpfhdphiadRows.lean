/-
  No cell of these rows narrows 'for every input' (looked for: loops, veiled, ifaces, maps, wideKeys, modest, calm, conditions, laid).
  DERIVED. THE GIVEN ROWS OF THIS SEAT. 7 by the template 'for every input the law returns true; each argument reads behind the call as it read before'; 0 by the template 'total and deterministic' (their statements: YtfndglpfhdphiadTotals.lean).
  GIVEN WITH THE SEED: the statements are not yours to turn. If you find one false, say at which input.
  Laid BY PROGRAM, IN A SANDBOX (cutbox-rows.mjs): the forced cells as the released guide's own fill.sh prints them over the translation 03953111a0c41ced… (all of the seat's roots in one cut). By AI agents, Wed Nov 11 2026. No macro, syntax, notation, axiom, sorry.
-/
import Derived.Test.YtfndglpfhdphiadChecked
import GoSem.Claim
import GoSem.ClaimJoined
import GoSem.ClaimMapViews
import Derived.JoinedTies
import Derived.KernelRfl
namespace Go.Proofs.Ytfndglpfhdphiad
/- THE CELL 'sum', in the pinned program and in every row, IS THE sha256 OF THE DUMP (.gsa) THAT YtfndglpfhdphiadProg.lean LOADS. Nothing in Lean hashes anything: it is a label: what it is worth is what the hold of that sum in a sandbox is worth. -/
noncomputable def Try.pinned : Pinned := { name := "ytfndglpfhdphiad", sum := "03953111a0c41ced81c3263f6b9517033d6bb0c125cc27815371b70eb33d9cca", checked := Try.checked }
namespace Rows
def none {H : Type} : Left H := { results := [], args := [] }

/-- 'laws.FnNegate': WHATEVER THE INPUT: true; the input reads as it did. -/
def fnNegateSpec : ChangeSpec := { name := "fnNegate", fn := fun _ => fun
  | [d] => { results := [.lit (.bool true)], args := [d] }
  | _ => none }
def fnNegateRow : OpenClaim := { program := "ytfndglpfhdphiad", sum := "03953111a0c41ced81c3263f6b9517033d6bb0c125cc27815371b70eb33d9cca", func := "loop.example/dataflow/laws.FnNegate", spec := "fnNegate", unfollowed := true, recurses := true, apart := false }
def FnNegateSaid : Prop := fnNegateRow.holds Try.pinned (OpenSpec.ofChange fnNegateSpec)

/-- ITS FALSE NEIGHBOUR: 'it returns false'. Refute it at one input. -/
def fnNegateWrong : ChangeSpec := { name := "fnNegate", fn := fun _ => fun
  | [d] => { results := [.lit (.bool false)], args := [d] }
  | _ => none }
def FnNegateWrongFalsely : Prop := fnNegateRow.holds Try.pinned (OpenSpec.ofChange fnNegateWrong)

/-- 'laws.FnWeightOf': WHATEVER THE INPUT: true; the input reads as it did. -/
def fnWeightOfSpec : ChangeSpec := { name := "fnWeightOf", fn := fun _ => fun
  | [d] => { results := [.lit (.bool true)], args := [d] }
  | _ => none }
def fnWeightOfRow : OpenClaim := { program := "ytfndglpfhdphiad", sum := "03953111a0c41ced81c3263f6b9517033d6bb0c125cc27815371b70eb33d9cca", func := "loop.example/dataflow/laws.FnWeightOf", spec := "fnWeightOf", unfollowed := true, recurses := true, apart := false }
def FnWeightOfSaid : Prop := fnWeightOfRow.holds Try.pinned (OpenSpec.ofChange fnWeightOfSpec)

/-- ITS FALSE NEIGHBOUR: 'it returns false'. Refute it at one input. -/
def fnWeightOfWrong : ChangeSpec := { name := "fnWeightOf", fn := fun _ => fun
  | [d] => { results := [.lit (.bool false)], args := [d] }
  | _ => none }
def FnWeightOfWrongFalsely : Prop := fnWeightOfRow.holds Try.pinned (OpenSpec.ofChange fnWeightOfWrong)

/-- 'laws.FnDistinct': WHATEVER THE INPUT: true; the input reads as it did. -/
def fnDistinctSpec : ChangeSpec := { name := "fnDistinct", fn := fun _ => fun
  | [d] => { results := [.lit (.bool true)], args := [d] }
  | _ => none }
def fnDistinctRow : OpenClaim := { program := "ytfndglpfhdphiad", sum := "03953111a0c41ced81c3263f6b9517033d6bb0c125cc27815371b70eb33d9cca", func := "loop.example/dataflow/laws.FnDistinct", spec := "fnDistinct", unfollowed := true, recurses := true, apart := false }
def FnDistinctSaid : Prop := fnDistinctRow.holds Try.pinned (OpenSpec.ofChange fnDistinctSpec)

/-- ITS FALSE NEIGHBOUR: 'it returns false'. Refute it at one input. -/
def fnDistinctWrong : ChangeSpec := { name := "fnDistinct", fn := fun _ => fun
  | [d] => { results := [.lit (.bool false)], args := [d] }
  | _ => none }
def FnDistinctWrongFalsely : Prop := fnDistinctRow.holds Try.pinned (OpenSpec.ofChange fnDistinctWrong)

/-- 'laws.FnExactValidPredicate': WHATEVER THE INPUT: true; the input reads as it did. -/
def fnExactValidPredicateSpec : ChangeSpec := { name := "fnExactValidPredicate", fn := fun _ => fun
  | [d1, d2] => { results := [.lit (.bool true)], args := [d1, d2] }
  | _ => none }
def fnExactValidPredicateRow : OpenClaim := { program := "ytfndglpfhdphiad", sum := "03953111a0c41ced81c3263f6b9517033d6bb0c125cc27815371b70eb33d9cca", func := "loop.example/dataflow/laws.FnExactValidPredicate", spec := "fnExactValidPredicate", apart := false }
def FnExactValidPredicateSaid : Prop := fnExactValidPredicateRow.holds Try.pinned (OpenSpec.ofChange fnExactValidPredicateSpec)

/-- ITS FALSE NEIGHBOUR: 'it returns false'. Refute it at one input. -/
def fnExactValidPredicateWrong : ChangeSpec := { name := "fnExactValidPredicate", fn := fun _ => fun
  | [d1, d2] => { results := [.lit (.bool false)], args := [d1, d2] }
  | _ => none }
def FnExactValidPredicateWrongFalsely : Prop := fnExactValidPredicateRow.holds Try.pinned (OpenSpec.ofChange fnExactValidPredicateWrong)

/-- 'laws.FnExactValidTrace': WHATEVER THE INPUT: true; the input reads as it did. -/
def fnExactValidTraceSpec : ChangeSpec := { name := "fnExactValidTrace", fn := fun _ => fun
  | [d] => { results := [.lit (.bool true)], args := [d] }
  | _ => none }
def fnExactValidTraceRow : OpenClaim := { program := "ytfndglpfhdphiad", sum := "03953111a0c41ced81c3263f6b9517033d6bb0c125cc27815371b70eb33d9cca", func := "loop.example/dataflow/laws.FnExactValidTrace", spec := "fnExactValidTrace", unfollowed := true, recurses := true, apart := false }
def FnExactValidTraceSaid : Prop := fnExactValidTraceRow.holds Try.pinned (OpenSpec.ofChange fnExactValidTraceSpec)

/-- ITS FALSE NEIGHBOUR: 'it returns false'. Refute it at one input. -/
def fnExactValidTraceWrong : ChangeSpec := { name := "fnExactValidTrace", fn := fun _ => fun
  | [d] => { results := [.lit (.bool false)], args := [d] }
  | _ => none }
def FnExactValidTraceWrongFalsely : Prop := fnExactValidTraceRow.holds Try.pinned (OpenSpec.ofChange fnExactValidTraceWrong)

/-- 'laws.FnExactAsOf': WHATEVER THE INPUT: true; the input reads as it did. -/
def fnExactAsOfSpec : ChangeSpec := { name := "fnExactAsOf", fn := fun _ => fun
  | [d1, d2] => { results := [.lit (.bool true)], args := [d1, d2] }
  | _ => none }
def fnExactAsOfRow : OpenClaim := { program := "ytfndglpfhdphiad", sum := "03953111a0c41ced81c3263f6b9517033d6bb0c125cc27815371b70eb33d9cca", func := "loop.example/dataflow/laws.FnExactAsOf", spec := "fnExactAsOf", unfollowed := true, recurses := true, apart := false }
def FnExactAsOfSaid : Prop := fnExactAsOfRow.holds Try.pinned (OpenSpec.ofChange fnExactAsOfSpec)

/-- ITS FALSE NEIGHBOUR: 'it returns false'. Refute it at one input. -/
def fnExactAsOfWrong : ChangeSpec := { name := "fnExactAsOf", fn := fun _ => fun
  | [d1, d2] => { results := [.lit (.bool false)], args := [d1, d2] }
  | _ => none }
def FnExactAsOfWrongFalsely : Prop := fnExactAsOfRow.holds Try.pinned (OpenSpec.ofChange fnExactAsOfWrong)

/-- 'laws.FnExactConsolidate': WHATEVER THE INPUT: true; the input reads as it did. -/
def fnExactConsolidateSpec : ChangeSpec := { name := "fnExactConsolidate", fn := fun _ => fun
  | [d] => { results := [.lit (.bool true)], args := [d] }
  | _ => none }
def fnExactConsolidateRow : OpenClaim := { program := "ytfndglpfhdphiad", sum := "03953111a0c41ced81c3263f6b9517033d6bb0c125cc27815371b70eb33d9cca", func := "loop.example/dataflow/laws.FnExactConsolidate", spec := "fnExactConsolidate", unfollowed := true, recurses := true, apart := false }
def FnExactConsolidateSaid : Prop := fnExactConsolidateRow.holds Try.pinned (OpenSpec.ofChange fnExactConsolidateSpec)

/-- ITS FALSE NEIGHBOUR: 'it returns false'. Refute it at one input. -/
def fnExactConsolidateWrong : ChangeSpec := { name := "fnExactConsolidate", fn := fun _ => fun
  | [d] => { results := [.lit (.bool false)], args := [d] }
  | _ => none }
def FnExactConsolidateWrongFalsely : Prop := fnExactConsolidateRow.holds Try.pinned (OpenSpec.ofChange fnExactConsolidateWrong)

/- THE SECOND FORM. 'bulk': how many values and letters a reading holds, each counted each time it is reached (what is shared counts as often as it is met; a slice's spare places count too). A statement '..UptoSaid' is the law's where the arguments, and the package variables that the reading takes, are together of bulk at most 1048576: NARROWER than '..Said'. Prove '..Said' where nothing that the law and all that it calls make is longer than what came in: it says more and counts as full. Else prove '..UptoSaid'. A law counts once. -/
mutual
def uptoBulk {H : Type} : DataW H → Nat
  | .lit (.string bytes) => bytes.length + 1
  | .lit _ => 1
  | .nil => 1
  | .ptr d => uptoBulk d + 1
  | .slice elems spare => uptoBulkAll elems + uptoBulkAll spare + 1
  | .agg parts => uptoBulkAll parts + 1
  | .iface _ d => uptoBulk d + 1
  | .map entries => uptoBulkEntries entries + 1
  | .held _ => 1
def uptoBulkAll {H : Type} : List (DataW H) → Nat
  | [] => 0
  | d :: r => uptoBulk d + uptoBulkAll r
def uptoBulkEntries {H : Type} : List (Lit × DataW H) → Nat
  | [] => 0
  | x :: r => uptoBulkEntry x + uptoBulkEntries r
def uptoBulkEntry {H : Type} : Lit × DataW H → Nat
  | (.string bytes, d) => bytes.length + uptoBulk d + 1
  | (_, d) => uptoBulk d + 1
 end
def uptoSmall : (H : Type) → List (DataW H) → Bool := fun _ ds => decide (uptoBulkAll ds ≤ 1048576)
def OpenSpec.upto (s : _root_.Go.ChangeSpec) : _root_.Go.OpenSpec := { _root_.Go.OpenSpec.ofChange s with cond := some uptoSmall }

/-- 'laws.FnNegate', WHERE WHAT IT READS IS OF BULK AT MOST 1048576: true; the input reads as it did. -/
def fnNegateUptoRow : OpenClaim := { program := "ytfndglpfhdphiad", sum := "03953111a0c41ced81c3263f6b9517033d6bb0c125cc27815371b70eb33d9cca", func := "loop.example/dataflow/laws.FnNegate", spec := "fnNegate", unfollowed := true, recurses := true, apart := false, narrowed := true }
def FnNegateUptoSaid : Prop := fnNegateUptoRow.holds Try.pinned (OpenSpec.upto fnNegateSpec)

/-- 'laws.FnWeightOf', WHERE WHAT IT READS IS OF BULK AT MOST 1048576: true; the input reads as it did. -/
def fnWeightOfUptoRow : OpenClaim := { program := "ytfndglpfhdphiad", sum := "03953111a0c41ced81c3263f6b9517033d6bb0c125cc27815371b70eb33d9cca", func := "loop.example/dataflow/laws.FnWeightOf", spec := "fnWeightOf", unfollowed := true, recurses := true, apart := false, narrowed := true }
def FnWeightOfUptoSaid : Prop := fnWeightOfUptoRow.holds Try.pinned (OpenSpec.upto fnWeightOfSpec)

/-- 'laws.FnDistinct', WHERE WHAT IT READS IS OF BULK AT MOST 1048576: true; the input reads as it did. -/
def fnDistinctUptoRow : OpenClaim := { program := "ytfndglpfhdphiad", sum := "03953111a0c41ced81c3263f6b9517033d6bb0c125cc27815371b70eb33d9cca", func := "loop.example/dataflow/laws.FnDistinct", spec := "fnDistinct", unfollowed := true, recurses := true, apart := false, narrowed := true }
def FnDistinctUptoSaid : Prop := fnDistinctUptoRow.holds Try.pinned (OpenSpec.upto fnDistinctSpec)

/-- 'laws.FnExactValidPredicate', WHERE WHAT IT READS IS OF BULK AT MOST 1048576: true; the input reads as it did. -/
def fnExactValidPredicateUptoRow : OpenClaim := { program := "ytfndglpfhdphiad", sum := "03953111a0c41ced81c3263f6b9517033d6bb0c125cc27815371b70eb33d9cca", func := "loop.example/dataflow/laws.FnExactValidPredicate", spec := "fnExactValidPredicate", apart := false, narrowed := true }
def FnExactValidPredicateUptoSaid : Prop := fnExactValidPredicateUptoRow.holds Try.pinned (OpenSpec.upto fnExactValidPredicateSpec)

/-- 'laws.FnExactValidTrace', WHERE WHAT IT READS IS OF BULK AT MOST 1048576: true; the input reads as it did. -/
def fnExactValidTraceUptoRow : OpenClaim := { program := "ytfndglpfhdphiad", sum := "03953111a0c41ced81c3263f6b9517033d6bb0c125cc27815371b70eb33d9cca", func := "loop.example/dataflow/laws.FnExactValidTrace", spec := "fnExactValidTrace", unfollowed := true, recurses := true, apart := false, narrowed := true }
def FnExactValidTraceUptoSaid : Prop := fnExactValidTraceUptoRow.holds Try.pinned (OpenSpec.upto fnExactValidTraceSpec)

/-- 'laws.FnExactAsOf', WHERE WHAT IT READS IS OF BULK AT MOST 1048576: true; the input reads as it did. -/
def fnExactAsOfUptoRow : OpenClaim := { program := "ytfndglpfhdphiad", sum := "03953111a0c41ced81c3263f6b9517033d6bb0c125cc27815371b70eb33d9cca", func := "loop.example/dataflow/laws.FnExactAsOf", spec := "fnExactAsOf", unfollowed := true, recurses := true, apart := false, narrowed := true }
def FnExactAsOfUptoSaid : Prop := fnExactAsOfUptoRow.holds Try.pinned (OpenSpec.upto fnExactAsOfSpec)

/-- 'laws.FnExactConsolidate', WHERE WHAT IT READS IS OF BULK AT MOST 1048576: true; the input reads as it did. -/
def fnExactConsolidateUptoRow : OpenClaim := { program := "ytfndglpfhdphiad", sum := "03953111a0c41ced81c3263f6b9517033d6bb0c125cc27815371b70eb33d9cca", func := "loop.example/dataflow/laws.FnExactConsolidate", spec := "fnExactConsolidate", unfollowed := true, recurses := true, apart := false, narrowed := true }
def FnExactConsolidateUptoSaid : Prop := fnExactConsolidateUptoRow.holds Try.pinned (OpenSpec.upto fnExactConsolidateSpec)

end Rows
end Go.Proofs.Ytfndglpfhdphiad
