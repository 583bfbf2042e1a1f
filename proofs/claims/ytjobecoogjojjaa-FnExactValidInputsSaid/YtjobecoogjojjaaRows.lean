/-
  No cell of these rows narrows 'for every input' (looked for: loops, veiled, ifaces, maps, wideKeys, modest, calm, conditions, laid).
  DERIVED. THE GIVEN ROWS OF THIS SEAT. 9 by the template 'for every input the law returns true; each argument reads behind the call as it read before'; 0 by the template 'total and deterministic' (their statements: YtjobecoogjojjaaTotals.lean).
  GIVEN WITH THE SEED: the statements are not yours to turn. If you find one false, say at which input.
  Laid BY PROGRAM, IN A SANDBOX (cutbox-rows.mjs): the forced cells as the released guide's own fill.sh prints them over the translation ee482ccc21df1752… (all of the seat's roots in one cut). By AI agents, Wed Nov 11 2026. No macro, syntax, notation, axiom, sorry.
-/
import Derived.Test.YtjobecoogjojjaaChecked
import GoSem.Claim
import GoSem.ClaimJoined
import GoSem.ClaimMapViews
import Derived.JoinedTies
import Derived.KernelRfl
namespace Go.Proofs.Ytjobecoogjojjaa
/- THE CELL 'sum', in the pinned program and in every row, IS THE sha256 OF THE DUMP (.gsa) THAT YtjobecoogjojjaaProg.lean LOADS. Nothing in Lean hashes anything: it is a label: what it is worth is what the hold of that sum in a sandbox is worth. -/
noncomputable def Try.pinned : Pinned := { name := "ytjobecoogjojjaa", sum := "ee482ccc21df175216608cf0ad88a57cac7011ef49a259989ada6361ee58c2aa", checked := Try.checked }
namespace Rows
def none {H : Type} : Left H := { results := [], args := [] }

/-- 'laws.FnProjectRow': WHATEVER THE INPUT: true; the input reads as it did. -/
def fnProjectRowSpec : ChangeSpec := { name := "fnProjectRow", fn := fun _ => fun
  | [d] => { results := [.lit (.bool true)], args := [d] }
  | _ => none }
def fnProjectRowRow : OpenClaim := { program := "ytjobecoogjojjaa", sum := "ee482ccc21df175216608cf0ad88a57cac7011ef49a259989ada6361ee58c2aa", func := "loop.example/dataflow/laws.FnProjectRow", spec := "fnProjectRow", apart := false }
def FnProjectRowSaid : Prop := fnProjectRowRow.holds Try.pinned (OpenSpec.ofChange fnProjectRowSpec)

/-- ITS FALSE NEIGHBOUR: 'it returns false'. Refute it at one input. -/
def fnProjectRowWrong : ChangeSpec := { name := "fnProjectRow", fn := fun _ => fun
  | [d] => { results := [.lit (.bool false)], args := [d] }
  | _ => none }
def FnProjectRowWrongFalsely : Prop := fnProjectRowRow.holds Try.pinned (OpenSpec.ofChange fnProjectRowWrong)

/-- 'laws.FnConsolidate': WHATEVER THE INPUT: true; the input reads as it did. -/
def fnConsolidateSpec : ChangeSpec := { name := "fnConsolidate", fn := fun _ => fun
  | [d] => { results := [.lit (.bool true)], args := [d] }
  | _ => none }
def fnConsolidateRow : OpenClaim := { program := "ytjobecoogjojjaa", sum := "ee482ccc21df175216608cf0ad88a57cac7011ef49a259989ada6361ee58c2aa", func := "loop.example/dataflow/laws.FnConsolidate", spec := "fnConsolidate", unfollowed := true, recurses := true, apart := false }
def FnConsolidateSaid : Prop := fnConsolidateRow.holds Try.pinned (OpenSpec.ofChange fnConsolidateSpec)

/-- ITS FALSE NEIGHBOUR: 'it returns false'. Refute it at one input. -/
def fnConsolidateWrong : ChangeSpec := { name := "fnConsolidate", fn := fun _ => fun
  | [d] => { results := [.lit (.bool false)], args := [d] }
  | _ => none }
def FnConsolidateWrongFalsely : Prop := fnConsolidateRow.holds Try.pinned (OpenSpec.ofChange fnConsolidateWrong)

/-- 'laws.FnAsOf': WHATEVER THE INPUT: true; the input reads as it did. -/
def fnAsOfSpec : ChangeSpec := { name := "fnAsOf", fn := fun _ => fun
  | [d] => { results := [.lit (.bool true)], args := [d] }
  | _ => none }
def fnAsOfRow : OpenClaim := { program := "ytjobecoogjojjaa", sum := "ee482ccc21df175216608cf0ad88a57cac7011ef49a259989ada6361ee58c2aa", func := "loop.example/dataflow/laws.FnAsOf", spec := "fnAsOf", unfollowed := true, recurses := true, apart := false }
def FnAsOfSaid : Prop := fnAsOfRow.holds Try.pinned (OpenSpec.ofChange fnAsOfSpec)

/-- ITS FALSE NEIGHBOUR: 'it returns false'. Refute it at one input. -/
def fnAsOfWrong : ChangeSpec := { name := "fnAsOf", fn := fun _ => fun
  | [d] => { results := [.lit (.bool false)], args := [d] }
  | _ => none }
def FnAsOfWrongFalsely : Prop := fnAsOfRow.holds Try.pinned (OpenSpec.ofChange fnAsOfWrong)

/-- 'laws.FnFilterTrace': WHATEVER THE INPUT: true; the input reads as it did. -/
def fnFilterTraceSpec : ChangeSpec := { name := "fnFilterTrace", fn := fun _ => fun
  | [d1, d2] => { results := [.lit (.bool true)], args := [d1, d2] }
  | _ => none }
def fnFilterTraceRow : OpenClaim := { program := "ytjobecoogjojjaa", sum := "ee482ccc21df175216608cf0ad88a57cac7011ef49a259989ada6361ee58c2aa", func := "loop.example/dataflow/laws.FnFilterTrace", spec := "fnFilterTrace", unfollowed := true, recurses := true, apart := false }
def FnFilterTraceSaid : Prop := fnFilterTraceRow.holds Try.pinned (OpenSpec.ofChange fnFilterTraceSpec)

/-- ITS FALSE NEIGHBOUR: 'it returns false'. Refute it at one input. -/
def fnFilterTraceWrong : ChangeSpec := { name := "fnFilterTrace", fn := fun _ => fun
  | [d1, d2] => { results := [.lit (.bool false)], args := [d1, d2] }
  | _ => none }
def FnFilterTraceWrongFalsely : Prop := fnFilterTraceRow.holds Try.pinned (OpenSpec.ofChange fnFilterTraceWrong)

/-- 'laws.FnAdvanceTime': WHATEVER THE INPUT: true; the input reads as it did. -/
def fnAdvanceTimeSpec : ChangeSpec := { name := "fnAdvanceTime", fn := fun _ => fun
  | [d1, d2] => { results := [.lit (.bool true)], args := [d1, d2] }
  | _ => none }
def fnAdvanceTimeRow : OpenClaim := { program := "ytjobecoogjojjaa", sum := "ee482ccc21df175216608cf0ad88a57cac7011ef49a259989ada6361ee58c2aa", func := "loop.example/dataflow/laws.FnAdvanceTime", spec := "fnAdvanceTime", apart := false }
def FnAdvanceTimeSaid : Prop := fnAdvanceTimeRow.holds Try.pinned (OpenSpec.ofChange fnAdvanceTimeSpec)

/-- ITS FALSE NEIGHBOUR: 'it returns false'. Refute it at one input. -/
def fnAdvanceTimeWrong : ChangeSpec := { name := "fnAdvanceTime", fn := fun _ => fun
  | [d1, d2] => { results := [.lit (.bool false)], args := [d1, d2] }
  | _ => none }
def FnAdvanceTimeWrongFalsely : Prop := fnAdvanceTimeRow.holds Try.pinned (OpenSpec.ofChange fnAdvanceTimeWrong)

/-- 'laws.FnExactValidFacts': WHATEVER THE INPUT: true; the input reads as it did. -/
def fnExactValidFactsSpec : ChangeSpec := { name := "fnExactValidFacts", fn := fun _ => fun
  | [d] => { results := [.lit (.bool true)], args := [d] }
  | _ => none }
def fnExactValidFactsRow : OpenClaim := { program := "ytjobecoogjojjaa", sum := "ee482ccc21df175216608cf0ad88a57cac7011ef49a259989ada6361ee58c2aa", func := "loop.example/dataflow/laws.FnExactValidFacts", spec := "fnExactValidFacts", unfollowed := true, recurses := true, apart := false }
def FnExactValidFactsSaid : Prop := fnExactValidFactsRow.holds Try.pinned (OpenSpec.ofChange fnExactValidFactsSpec)

/-- ITS FALSE NEIGHBOUR: 'it returns false'. Refute it at one input. -/
def fnExactValidFactsWrong : ChangeSpec := { name := "fnExactValidFacts", fn := fun _ => fun
  | [d] => { results := [.lit (.bool false)], args := [d] }
  | _ => none }
def FnExactValidFactsWrongFalsely : Prop := fnExactValidFactsRow.holds Try.pinned (OpenSpec.ofChange fnExactValidFactsWrong)

/-- 'laws.FnExactValidEdges': WHATEVER THE INPUT: true; the input reads as it did. -/
def fnExactValidEdgesSpec : ChangeSpec := { name := "fnExactValidEdges", fn := fun _ => fun
  | [d] => { results := [.lit (.bool true)], args := [d] }
  | _ => none }
def fnExactValidEdgesRow : OpenClaim := { program := "ytjobecoogjojjaa", sum := "ee482ccc21df175216608cf0ad88a57cac7011ef49a259989ada6361ee58c2aa", func := "loop.example/dataflow/laws.FnExactValidEdges", spec := "fnExactValidEdges", unfollowed := true, recurses := true, apart := false }
def FnExactValidEdgesSaid : Prop := fnExactValidEdgesRow.holds Try.pinned (OpenSpec.ofChange fnExactValidEdgesSpec)

/-- ITS FALSE NEIGHBOUR: 'it returns false'. Refute it at one input. -/
def fnExactValidEdgesWrong : ChangeSpec := { name := "fnExactValidEdges", fn := fun _ => fun
  | [d] => { results := [.lit (.bool false)], args := [d] }
  | _ => none }
def FnExactValidEdgesWrongFalsely : Prop := fnExactValidEdgesRow.holds Try.pinned (OpenSpec.ofChange fnExactValidEdgesWrong)

/-- 'laws.FnExactTraceTimes': WHATEVER THE INPUT: true; the input reads as it did. -/
def fnExactTraceTimesSpec : ChangeSpec := { name := "fnExactTraceTimes", fn := fun _ => fun
  | [d] => { results := [.lit (.bool true)], args := [d] }
  | _ => none }
def fnExactTraceTimesRow : OpenClaim := { program := "ytjobecoogjojjaa", sum := "ee482ccc21df175216608cf0ad88a57cac7011ef49a259989ada6361ee58c2aa", func := "loop.example/dataflow/laws.FnExactTraceTimes", spec := "fnExactTraceTimes", unfollowed := true, recurses := true, apart := false }
def FnExactTraceTimesSaid : Prop := fnExactTraceTimesRow.holds Try.pinned (OpenSpec.ofChange fnExactTraceTimesSpec)

/-- ITS FALSE NEIGHBOUR: 'it returns false'. Refute it at one input. -/
def fnExactTraceTimesWrong : ChangeSpec := { name := "fnExactTraceTimes", fn := fun _ => fun
  | [d] => { results := [.lit (.bool false)], args := [d] }
  | _ => none }
def FnExactTraceTimesWrongFalsely : Prop := fnExactTraceTimesRow.holds Try.pinned (OpenSpec.ofChange fnExactTraceTimesWrong)

/-- 'laws.FnExactValidInputs': WHATEVER THE INPUT: true; the input reads as it did. -/
def fnExactValidInputsSpec : ChangeSpec := { name := "fnExactValidInputs", fn := fun _ => fun
  | [d1, d2] => { results := [.lit (.bool true)], args := [d1, d2] }
  | _ => none }
def fnExactValidInputsRow : OpenClaim := { program := "ytjobecoogjojjaa", sum := "ee482ccc21df175216608cf0ad88a57cac7011ef49a259989ada6361ee58c2aa", func := "loop.example/dataflow/laws.FnExactValidInputs", spec := "fnExactValidInputs", unfollowed := true, recurses := true, apart := false }
def FnExactValidInputsSaid : Prop := fnExactValidInputsRow.holds Try.pinned (OpenSpec.ofChange fnExactValidInputsSpec)

/-- ITS FALSE NEIGHBOUR: 'it returns false'. Refute it at one input. -/
def fnExactValidInputsWrong : ChangeSpec := { name := "fnExactValidInputs", fn := fun _ => fun
  | [d1, d2] => { results := [.lit (.bool false)], args := [d1, d2] }
  | _ => none }
def FnExactValidInputsWrongFalsely : Prop := fnExactValidInputsRow.holds Try.pinned (OpenSpec.ofChange fnExactValidInputsWrong)

/- THE SECOND FORM. 'bulk': how many values and letters a reading holds, each counted each time it is reached (what is shared counts as often as it is met; a slice's spare places count too). A statement '..UptoSaid' is the law's where the arguments, and the package variables that the reading takes, are together of bulk at most 1048576: NARROWER than '..Said'. Prove '..Said' where nothing that the law and all that it calls make is longer than what came in: it says more and counts as full. Else prove '..UptoSaid'. A law counts once. -/
mutual
def uptoBulk {H : Type} : DataW H → Nat
  | .lit (.string bytes) => bytes.length + 1
  | .lit _ => 1
  | .nil => 1
  | .ptr d => uptoBulk d + 1
  | .slice elems spare => uptoBulkAll elems + uptoBulkAll spare + 1
  | .agg parts => uptoBulkAll parts + 1
  | .iface _ d => uptoBulk d + 1
  | .map entries => uptoBulkEntries entries + 1
  | .held _ => 1
def uptoBulkAll {H : Type} : List (DataW H) → Nat
  | [] => 0
  | d :: r => uptoBulk d + uptoBulkAll r
def uptoBulkEntries {H : Type} : List (Lit × DataW H) → Nat
  | [] => 0
  | x :: r => uptoBulkEntry x + uptoBulkEntries r
def uptoBulkEntry {H : Type} : Lit × DataW H → Nat
  | (.string bytes, d) => bytes.length + uptoBulk d + 1
  | (_, d) => uptoBulk d + 1
 end
def uptoSmall : (H : Type) → List (DataW H) → Bool := fun _ ds => decide (uptoBulkAll ds ≤ 1048576)
def OpenSpec.upto (s : _root_.Go.ChangeSpec) : _root_.Go.OpenSpec := { _root_.Go.OpenSpec.ofChange s with cond := some uptoSmall }

/-- 'laws.FnProjectRow', WHERE WHAT IT READS IS OF BULK AT MOST 1048576: true; the input reads as it did. -/
def fnProjectRowUptoRow : OpenClaim := { program := "ytjobecoogjojjaa", sum := "ee482ccc21df175216608cf0ad88a57cac7011ef49a259989ada6361ee58c2aa", func := "loop.example/dataflow/laws.FnProjectRow", spec := "fnProjectRow", apart := false, narrowed := true }
def FnProjectRowUptoSaid : Prop := fnProjectRowUptoRow.holds Try.pinned (OpenSpec.upto fnProjectRowSpec)

/-- 'laws.FnConsolidate', WHERE WHAT IT READS IS OF BULK AT MOST 1048576: true; the input reads as it did. -/
def fnConsolidateUptoRow : OpenClaim := { program := "ytjobecoogjojjaa", sum := "ee482ccc21df175216608cf0ad88a57cac7011ef49a259989ada6361ee58c2aa", func := "loop.example/dataflow/laws.FnConsolidate", spec := "fnConsolidate", unfollowed := true, recurses := true, apart := false, narrowed := true }
def FnConsolidateUptoSaid : Prop := fnConsolidateUptoRow.holds Try.pinned (OpenSpec.upto fnConsolidateSpec)

/-- 'laws.FnAsOf', WHERE WHAT IT READS IS OF BULK AT MOST 1048576: true; the input reads as it did. -/
def fnAsOfUptoRow : OpenClaim := { program := "ytjobecoogjojjaa", sum := "ee482ccc21df175216608cf0ad88a57cac7011ef49a259989ada6361ee58c2aa", func := "loop.example/dataflow/laws.FnAsOf", spec := "fnAsOf", unfollowed := true, recurses := true, apart := false, narrowed := true }
def FnAsOfUptoSaid : Prop := fnAsOfUptoRow.holds Try.pinned (OpenSpec.upto fnAsOfSpec)

/-- 'laws.FnFilterTrace', WHERE WHAT IT READS IS OF BULK AT MOST 1048576: true; the input reads as it did. -/
def fnFilterTraceUptoRow : OpenClaim := { program := "ytjobecoogjojjaa", sum := "ee482ccc21df175216608cf0ad88a57cac7011ef49a259989ada6361ee58c2aa", func := "loop.example/dataflow/laws.FnFilterTrace", spec := "fnFilterTrace", unfollowed := true, recurses := true, apart := false, narrowed := true }
def FnFilterTraceUptoSaid : Prop := fnFilterTraceUptoRow.holds Try.pinned (OpenSpec.upto fnFilterTraceSpec)

/-- 'laws.FnAdvanceTime', WHERE WHAT IT READS IS OF BULK AT MOST 1048576: true; the input reads as it did. -/
def fnAdvanceTimeUptoRow : OpenClaim := { program := "ytjobecoogjojjaa", sum := "ee482ccc21df175216608cf0ad88a57cac7011ef49a259989ada6361ee58c2aa", func := "loop.example/dataflow/laws.FnAdvanceTime", spec := "fnAdvanceTime", apart := false, narrowed := true }
def FnAdvanceTimeUptoSaid : Prop := fnAdvanceTimeUptoRow.holds Try.pinned (OpenSpec.upto fnAdvanceTimeSpec)

/-- 'laws.FnExactValidFacts', WHERE WHAT IT READS IS OF BULK AT MOST 1048576: true; the input reads as it did. -/
def fnExactValidFactsUptoRow : OpenClaim := { program := "ytjobecoogjojjaa", sum := "ee482ccc21df175216608cf0ad88a57cac7011ef49a259989ada6361ee58c2aa", func := "loop.example/dataflow/laws.FnExactValidFacts", spec := "fnExactValidFacts", unfollowed := true, recurses := true, apart := false, narrowed := true }
def FnExactValidFactsUptoSaid : Prop := fnExactValidFactsUptoRow.holds Try.pinned (OpenSpec.upto fnExactValidFactsSpec)

/-- 'laws.FnExactValidEdges', WHERE WHAT IT READS IS OF BULK AT MOST 1048576: true; the input reads as it did. -/
def fnExactValidEdgesUptoRow : OpenClaim := { program := "ytjobecoogjojjaa", sum := "ee482ccc21df175216608cf0ad88a57cac7011ef49a259989ada6361ee58c2aa", func := "loop.example/dataflow/laws.FnExactValidEdges", spec := "fnExactValidEdges", unfollowed := true, recurses := true, apart := false, narrowed := true }
def FnExactValidEdgesUptoSaid : Prop := fnExactValidEdgesUptoRow.holds Try.pinned (OpenSpec.upto fnExactValidEdgesSpec)

/-- 'laws.FnExactTraceTimes', WHERE WHAT IT READS IS OF BULK AT MOST 1048576: true; the input reads as it did. -/
def fnExactTraceTimesUptoRow : OpenClaim := { program := "ytjobecoogjojjaa", sum := "ee482ccc21df175216608cf0ad88a57cac7011ef49a259989ada6361ee58c2aa", func := "loop.example/dataflow/laws.FnExactTraceTimes", spec := "fnExactTraceTimes", unfollowed := true, recurses := true, apart := false, narrowed := true }
def FnExactTraceTimesUptoSaid : Prop := fnExactTraceTimesUptoRow.holds Try.pinned (OpenSpec.upto fnExactTraceTimesSpec)

/-- 'laws.FnExactValidInputs', WHERE WHAT IT READS IS OF BULK AT MOST 1048576: true; the input reads as it did. -/
def fnExactValidInputsUptoRow : OpenClaim := { program := "ytjobecoogjojjaa", sum := "ee482ccc21df175216608cf0ad88a57cac7011ef49a259989ada6361ee58c2aa", func := "loop.example/dataflow/laws.FnExactValidInputs", spec := "fnExactValidInputs", unfollowed := true, recurses := true, apart := false, narrowed := true }
def FnExactValidInputsUptoSaid : Prop := fnExactValidInputsUptoRow.holds Try.pinned (OpenSpec.upto fnExactValidInputsSpec)

end Rows
end Go.Proofs.Ytjobecoogjojjaa
