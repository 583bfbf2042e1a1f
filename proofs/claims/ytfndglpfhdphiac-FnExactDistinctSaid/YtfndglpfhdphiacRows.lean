/-
  No cell of these rows narrows 'for every input' (looked for: loops, veiled, ifaces, maps, wideKeys, modest, calm, conditions, laid).
  DERIVED. THE GIVEN ROWS OF THIS SEAT. 12 by the template 'for every input the law returns true; each argument reads behind the call as it read before'; 0 by the template 'total and deterministic' (their statements: YtfndglpfhdphiacTotals.lean).
  GIVEN WITH THE SEED: the statements are not yours to turn. If you find one false, say at which input.
  Laid BY PROGRAM, IN A SANDBOX (cutbox-rows.mjs): the forced cells as the released guide's own fill.sh prints them over the translation 6690cfb8f29d3aea… (all of the seat's roots in one cut). By AI agents, Wed Nov 11 2026. No macro, syntax, notation, axiom, sorry.
-/
import Derived.Test.YtfndglpfhdphiacChecked
import GoSem.Claim
import GoSem.ClaimJoined
import GoSem.ClaimMapViews
import Derived.JoinedTies
import Derived.KernelRfl
namespace Go.Proofs.Ytfndglpfhdphiac
/- THE CELL 'sum', in the pinned program and in every row, IS THE sha256 OF THE DUMP (.gsa) THAT YtfndglpfhdphiacProg.lean LOADS. Nothing in Lean hashes anything: it is a label: what it is worth is what the hold of that sum in a sandbox is worth. -/
noncomputable def Try.pinned : Pinned := { name := "ytfndglpfhdphiac", sum := "6690cfb8f29d3aeaf8f618f95144b6bb40ae14a945032efa490ed97e3dccbe3f", checked := Try.checked }
namespace Rows
def none {H : Type} : Left H := { results := [], args := [] }

/-- 'laws.FnExactValidZSet': WHATEVER THE INPUT: true; the input reads as it did. -/
def fnExactValidZSetSpec : ChangeSpec := { name := "fnExactValidZSet", fn := fun _ => fun
  | [d] => { results := [.lit (.bool true)], args := [d] }
  | _ => none }
def fnExactValidZSetRow : OpenClaim := { program := "ytfndglpfhdphiac", sum := "6690cfb8f29d3aeaf8f618f95144b6bb40ae14a945032efa490ed97e3dccbe3f", func := "loop.example/dataflow/laws.FnExactValidZSet", spec := "fnExactValidZSet", unfollowed := true, recurses := true, apart := false }
def FnExactValidZSetSaid : Prop := fnExactValidZSetRow.holds Try.pinned (OpenSpec.ofChange fnExactValidZSetSpec)

/-- ITS FALSE NEIGHBOUR: 'it returns false'. Refute it at one input. -/
def fnExactValidZSetWrong : ChangeSpec := { name := "fnExactValidZSet", fn := fun _ => fun
  | [d] => { results := [.lit (.bool false)], args := [d] }
  | _ => none }
def FnExactValidZSetWrongFalsely : Prop := fnExactValidZSetRow.holds Try.pinned (OpenSpec.ofChange fnExactValidZSetWrong)

/-- 'laws.FnExactNormalize': WHATEVER THE INPUT: true; the input reads as it did. -/
def fnExactNormalizeSpec : ChangeSpec := { name := "fnExactNormalize", fn := fun _ => fun
  | [d] => { results := [.lit (.bool true)], args := [d] }
  | _ => none }
def fnExactNormalizeRow : OpenClaim := { program := "ytfndglpfhdphiac", sum := "6690cfb8f29d3aeaf8f618f95144b6bb40ae14a945032efa490ed97e3dccbe3f", func := "loop.example/dataflow/laws.FnExactNormalize", spec := "fnExactNormalize", unfollowed := true, recurses := true, apart := false }
def FnExactNormalizeSaid : Prop := fnExactNormalizeRow.holds Try.pinned (OpenSpec.ofChange fnExactNormalizeSpec)

/-- ITS FALSE NEIGHBOUR: 'it returns false'. Refute it at one input. -/
def fnExactNormalizeWrong : ChangeSpec := { name := "fnExactNormalize", fn := fun _ => fun
  | [d] => { results := [.lit (.bool false)], args := [d] }
  | _ => none }
def FnExactNormalizeWrongFalsely : Prop := fnExactNormalizeRow.holds Try.pinned (OpenSpec.ofChange fnExactNormalizeWrong)

/-- 'laws.FnExactAdd': WHATEVER THE INPUT: true; the input reads as it did. -/
def fnExactAddSpec : ChangeSpec := { name := "fnExactAdd", fn := fun _ => fun
  | [d1, d2] => { results := [.lit (.bool true)], args := [d1, d2] }
  | _ => none }
def fnExactAddRow : OpenClaim := { program := "ytfndglpfhdphiac", sum := "6690cfb8f29d3aeaf8f618f95144b6bb40ae14a945032efa490ed97e3dccbe3f", func := "loop.example/dataflow/laws.FnExactAdd", spec := "fnExactAdd", unfollowed := true, recurses := true, apart := false }
def FnExactAddSaid : Prop := fnExactAddRow.holds Try.pinned (OpenSpec.ofChange fnExactAddSpec)

/-- ITS FALSE NEIGHBOUR: 'it returns false'. Refute it at one input. -/
def fnExactAddWrong : ChangeSpec := { name := "fnExactAdd", fn := fun _ => fun
  | [d1, d2] => { results := [.lit (.bool false)], args := [d1, d2] }
  | _ => none }
def FnExactAddWrongFalsely : Prop := fnExactAddRow.holds Try.pinned (OpenSpec.ofChange fnExactAddWrong)

/-- 'laws.FnExactNegate': WHATEVER THE INPUT: true; the input reads as it did. -/
def fnExactNegateSpec : ChangeSpec := { name := "fnExactNegate", fn := fun _ => fun
  | [d] => { results := [.lit (.bool true)], args := [d] }
  | _ => none }
def fnExactNegateRow : OpenClaim := { program := "ytfndglpfhdphiac", sum := "6690cfb8f29d3aeaf8f618f95144b6bb40ae14a945032efa490ed97e3dccbe3f", func := "loop.example/dataflow/laws.FnExactNegate", spec := "fnExactNegate", unfollowed := true, recurses := true, apart := false }
def FnExactNegateSaid : Prop := fnExactNegateRow.holds Try.pinned (OpenSpec.ofChange fnExactNegateSpec)

/-- ITS FALSE NEIGHBOUR: 'it returns false'. Refute it at one input. -/
def fnExactNegateWrong : ChangeSpec := { name := "fnExactNegate", fn := fun _ => fun
  | [d] => { results := [.lit (.bool false)], args := [d] }
  | _ => none }
def FnExactNegateWrongFalsely : Prop := fnExactNegateRow.holds Try.pinned (OpenSpec.ofChange fnExactNegateWrong)

/-- 'laws.FnExactWeightOf': WHATEVER THE INPUT: true; the input reads as it did. -/
def fnExactWeightOfSpec : ChangeSpec := { name := "fnExactWeightOf", fn := fun _ => fun
  | [d1, d2] => { results := [.lit (.bool true)], args := [d1, d2] }
  | _ => none }
def fnExactWeightOfRow : OpenClaim := { program := "ytfndglpfhdphiac", sum := "6690cfb8f29d3aeaf8f618f95144b6bb40ae14a945032efa490ed97e3dccbe3f", func := "loop.example/dataflow/laws.FnExactWeightOf", spec := "fnExactWeightOf", unfollowed := true, recurses := true, apart := false }
def FnExactWeightOfSaid : Prop := fnExactWeightOfRow.holds Try.pinned (OpenSpec.ofChange fnExactWeightOfSpec)

/-- ITS FALSE NEIGHBOUR: 'it returns false'. Refute it at one input. -/
def fnExactWeightOfWrong : ChangeSpec := { name := "fnExactWeightOf", fn := fun _ => fun
  | [d1, d2] => { results := [.lit (.bool false)], args := [d1, d2] }
  | _ => none }
def FnExactWeightOfWrongFalsely : Prop := fnExactWeightOfRow.holds Try.pinned (OpenSpec.ofChange fnExactWeightOfWrong)

/-- 'laws.FnExactDistinct': WHATEVER THE INPUT: true; the input reads as it did. -/
def fnExactDistinctSpec : ChangeSpec := { name := "fnExactDistinct", fn := fun _ => fun
  | [d] => { results := [.lit (.bool true)], args := [d] }
  | _ => none }
def fnExactDistinctRow : OpenClaim := { program := "ytfndglpfhdphiac", sum := "6690cfb8f29d3aeaf8f618f95144b6bb40ae14a945032efa490ed97e3dccbe3f", func := "loop.example/dataflow/laws.FnExactDistinct", spec := "fnExactDistinct", unfollowed := true, recurses := true, apart := false }
def FnExactDistinctSaid : Prop := fnExactDistinctRow.holds Try.pinned (OpenSpec.ofChange fnExactDistinctSpec)

/-- ITS FALSE NEIGHBOUR: 'it returns false'. Refute it at one input. -/
def fnExactDistinctWrong : ChangeSpec := { name := "fnExactDistinct", fn := fun _ => fun
  | [d] => { results := [.lit (.bool false)], args := [d] }
  | _ => none }
def FnExactDistinctWrongFalsely : Prop := fnExactDistinctRow.holds Try.pinned (OpenSpec.ofChange fnExactDistinctWrong)

/-- 'laws.FnExactIsSet': WHATEVER THE INPUT: true; the input reads as it did. -/
def fnExactIsSetSpec : ChangeSpec := { name := "fnExactIsSet", fn := fun _ => fun
  | [d] => { results := [.lit (.bool true)], args := [d] }
  | _ => none }
def fnExactIsSetRow : OpenClaim := { program := "ytfndglpfhdphiac", sum := "6690cfb8f29d3aeaf8f618f95144b6bb40ae14a945032efa490ed97e3dccbe3f", func := "loop.example/dataflow/laws.FnExactIsSet", spec := "fnExactIsSet", unfollowed := true, recurses := true, apart := false }
def FnExactIsSetSaid : Prop := fnExactIsSetRow.holds Try.pinned (OpenSpec.ofChange fnExactIsSetSpec)

/-- ITS FALSE NEIGHBOUR: 'it returns false'. Refute it at one input. -/
def fnExactIsSetWrong : ChangeSpec := { name := "fnExactIsSet", fn := fun _ => fun
  | [d] => { results := [.lit (.bool false)], args := [d] }
  | _ => none }
def FnExactIsSetWrongFalsely : Prop := fnExactIsSetRow.holds Try.pinned (OpenSpec.ofChange fnExactIsSetWrong)

/-- 'laws.FnExactTotalWeight': WHATEVER THE INPUT: true; the input reads as it did. -/
def fnExactTotalWeightSpec : ChangeSpec := { name := "fnExactTotalWeight", fn := fun _ => fun
  | [d] => { results := [.lit (.bool true)], args := [d] }
  | _ => none }
def fnExactTotalWeightRow : OpenClaim := { program := "ytfndglpfhdphiac", sum := "6690cfb8f29d3aeaf8f618f95144b6bb40ae14a945032efa490ed97e3dccbe3f", func := "loop.example/dataflow/laws.FnExactTotalWeight", spec := "fnExactTotalWeight", unfollowed := true, recurses := true, apart := false }
def FnExactTotalWeightSaid : Prop := fnExactTotalWeightRow.holds Try.pinned (OpenSpec.ofChange fnExactTotalWeightSpec)

/-- ITS FALSE NEIGHBOUR: 'it returns false'. Refute it at one input. -/
def fnExactTotalWeightWrong : ChangeSpec := { name := "fnExactTotalWeight", fn := fun _ => fun
  | [d] => { results := [.lit (.bool false)], args := [d] }
  | _ => none }
def FnExactTotalWeightWrongFalsely : Prop := fnExactTotalWeightRow.holds Try.pinned (OpenSpec.ofChange fnExactTotalWeightWrong)

/-- 'laws.FnNormalize': WHATEVER THE INPUT: true; the input reads as it did. -/
def fnNormalizeSpec : ChangeSpec := { name := "fnNormalize", fn := fun _ => fun
  | [d] => { results := [.lit (.bool true)], args := [d] }
  | _ => none }
def fnNormalizeRow : OpenClaim := { program := "ytfndglpfhdphiac", sum := "6690cfb8f29d3aeaf8f618f95144b6bb40ae14a945032efa490ed97e3dccbe3f", func := "loop.example/dataflow/laws.FnNormalize", spec := "fnNormalize", unfollowed := true, recurses := true, apart := false }
def FnNormalizeSaid : Prop := fnNormalizeRow.holds Try.pinned (OpenSpec.ofChange fnNormalizeSpec)

/-- ITS FALSE NEIGHBOUR: 'it returns false'. Refute it at one input. -/
def fnNormalizeWrong : ChangeSpec := { name := "fnNormalize", fn := fun _ => fun
  | [d] => { results := [.lit (.bool false)], args := [d] }
  | _ => none }
def FnNormalizeWrongFalsely : Prop := fnNormalizeRow.holds Try.pinned (OpenSpec.ofChange fnNormalizeWrong)

/-- 'laws.FnNormalizeOrder': WHATEVER THE INPUT: true; the input reads as it did. -/
def fnNormalizeOrderSpec : ChangeSpec := { name := "fnNormalizeOrder", fn := fun _ => fun
  | [d] => { results := [.lit (.bool true)], args := [d] }
  | _ => none }
def fnNormalizeOrderRow : OpenClaim := { program := "ytfndglpfhdphiac", sum := "6690cfb8f29d3aeaf8f618f95144b6bb40ae14a945032efa490ed97e3dccbe3f", func := "loop.example/dataflow/laws.FnNormalizeOrder", spec := "fnNormalizeOrder", unfollowed := true, recurses := true, apart := false }
def FnNormalizeOrderSaid : Prop := fnNormalizeOrderRow.holds Try.pinned (OpenSpec.ofChange fnNormalizeOrderSpec)

/-- ITS FALSE NEIGHBOUR: 'it returns false'. Refute it at one input. -/
def fnNormalizeOrderWrong : ChangeSpec := { name := "fnNormalizeOrder", fn := fun _ => fun
  | [d] => { results := [.lit (.bool false)], args := [d] }
  | _ => none }
def FnNormalizeOrderWrongFalsely : Prop := fnNormalizeOrderRow.holds Try.pinned (OpenSpec.ofChange fnNormalizeOrderWrong)

/-- 'laws.FnAdd': WHATEVER THE INPUT: true; the input reads as it did. -/
def fnAddSpec : ChangeSpec := { name := "fnAdd", fn := fun _ => fun
  | [d] => { results := [.lit (.bool true)], args := [d] }
  | _ => none }
def fnAddRow : OpenClaim := { program := "ytfndglpfhdphiac", sum := "6690cfb8f29d3aeaf8f618f95144b6bb40ae14a945032efa490ed97e3dccbe3f", func := "loop.example/dataflow/laws.FnAdd", spec := "fnAdd", unfollowed := true, recurses := true, apart := false }
def FnAddSaid : Prop := fnAddRow.holds Try.pinned (OpenSpec.ofChange fnAddSpec)

/-- ITS FALSE NEIGHBOUR: 'it returns false'. Refute it at one input. -/
def fnAddWrong : ChangeSpec := { name := "fnAdd", fn := fun _ => fun
  | [d] => { results := [.lit (.bool false)], args := [d] }
  | _ => none }
def FnAddWrongFalsely : Prop := fnAddRow.holds Try.pinned (OpenSpec.ofChange fnAddWrong)

/-- 'laws.FnAddAssociative': WHATEVER THE INPUT: true; the input reads as it did. -/
def fnAddAssociativeSpec : ChangeSpec := { name := "fnAddAssociative", fn := fun _ => fun
  | [d1, d2] => { results := [.lit (.bool true)], args := [d1, d2] }
  | _ => none }
def fnAddAssociativeRow : OpenClaim := { program := "ytfndglpfhdphiac", sum := "6690cfb8f29d3aeaf8f618f95144b6bb40ae14a945032efa490ed97e3dccbe3f", func := "loop.example/dataflow/laws.FnAddAssociative", spec := "fnAddAssociative", unfollowed := true, recurses := true, apart := false }
def FnAddAssociativeSaid : Prop := fnAddAssociativeRow.holds Try.pinned (OpenSpec.ofChange fnAddAssociativeSpec)

/-- ITS FALSE NEIGHBOUR: 'it returns false'. Refute it at one input. -/
def fnAddAssociativeWrong : ChangeSpec := { name := "fnAddAssociative", fn := fun _ => fun
  | [d1, d2] => { results := [.lit (.bool false)], args := [d1, d2] }
  | _ => none }
def FnAddAssociativeWrongFalsely : Prop := fnAddAssociativeRow.holds Try.pinned (OpenSpec.ofChange fnAddAssociativeWrong)

/- THE SECOND FORM. 'bulk': how many values and letters a reading holds, each counted each time it is reached (what is shared counts as often as it is met; a slice's spare places count too). A statement '..UptoSaid' is the law's where the arguments, and the package variables that the reading takes, are together of bulk at most 1048576: NARROWER than '..Said'. Prove '..Said' where nothing that the law and all that it calls make is longer than what came in: it says more and counts as full. Else prove '..UptoSaid'. A law counts once. -/
mutual
def uptoBulk {H : Type} : DataW H → Nat
  | .lit (.string bytes) => bytes.length + 1
  | .lit _ => 1
  | .nil => 1
  | .ptr d => uptoBulk d + 1
  | .slice elems spare => uptoBulkAll elems + uptoBulkAll spare + 1
  | .agg parts => uptoBulkAll parts + 1
  | .iface _ d => uptoBulk d + 1
  | .map entries => uptoBulkEntries entries + 1
  | .held _ => 1
def uptoBulkAll {H : Type} : List (DataW H) → Nat
  | [] => 0
  | d :: r => uptoBulk d + uptoBulkAll r
def uptoBulkEntries {H : Type} : List (Lit × DataW H) → Nat
  | [] => 0
  | x :: r => uptoBulkEntry x + uptoBulkEntries r
def uptoBulkEntry {H : Type} : Lit × DataW H → Nat
  | (.string bytes, d) => bytes.length + uptoBulk d + 1
  | (_, d) => uptoBulk d + 1
 end
def uptoSmall : (H : Type) → List (DataW H) → Bool := fun _ ds => decide (uptoBulkAll ds ≤ 1048576)
def OpenSpec.upto (s : _root_.Go.ChangeSpec) : _root_.Go.OpenSpec := { _root_.Go.OpenSpec.ofChange s with cond := some uptoSmall }

/-- 'laws.FnExactValidZSet', WHERE WHAT IT READS IS OF BULK AT MOST 1048576: true; the input reads as it did. -/
def fnExactValidZSetUptoRow : OpenClaim := { program := "ytfndglpfhdphiac", sum := "6690cfb8f29d3aeaf8f618f95144b6bb40ae14a945032efa490ed97e3dccbe3f", func := "loop.example/dataflow/laws.FnExactValidZSet", spec := "fnExactValidZSet", unfollowed := true, recurses := true, apart := false, narrowed := true }
def FnExactValidZSetUptoSaid : Prop := fnExactValidZSetUptoRow.holds Try.pinned (OpenSpec.upto fnExactValidZSetSpec)

/-- 'laws.FnExactNormalize', WHERE WHAT IT READS IS OF BULK AT MOST 1048576: true; the input reads as it did. -/
def fnExactNormalizeUptoRow : OpenClaim := { program := "ytfndglpfhdphiac", sum := "6690cfb8f29d3aeaf8f618f95144b6bb40ae14a945032efa490ed97e3dccbe3f", func := "loop.example/dataflow/laws.FnExactNormalize", spec := "fnExactNormalize", unfollowed := true, recurses := true, apart := false, narrowed := true }
def FnExactNormalizeUptoSaid : Prop := fnExactNormalizeUptoRow.holds Try.pinned (OpenSpec.upto fnExactNormalizeSpec)

/-- 'laws.FnExactAdd', WHERE WHAT IT READS IS OF BULK AT MOST 1048576: true; the input reads as it did. -/
def fnExactAddUptoRow : OpenClaim := { program := "ytfndglpfhdphiac", sum := "6690cfb8f29d3aeaf8f618f95144b6bb40ae14a945032efa490ed97e3dccbe3f", func := "loop.example/dataflow/laws.FnExactAdd", spec := "fnExactAdd", unfollowed := true, recurses := true, apart := false, narrowed := true }
def FnExactAddUptoSaid : Prop := fnExactAddUptoRow.holds Try.pinned (OpenSpec.upto fnExactAddSpec)

/-- 'laws.FnExactNegate', WHERE WHAT IT READS IS OF BULK AT MOST 1048576: true; the input reads as it did. -/
def fnExactNegateUptoRow : OpenClaim := { program := "ytfndglpfhdphiac", sum := "6690cfb8f29d3aeaf8f618f95144b6bb40ae14a945032efa490ed97e3dccbe3f", func := "loop.example/dataflow/laws.FnExactNegate", spec := "fnExactNegate", unfollowed := true, recurses := true, apart := false, narrowed := true }
def FnExactNegateUptoSaid : Prop := fnExactNegateUptoRow.holds Try.pinned (OpenSpec.upto fnExactNegateSpec)

/-- 'laws.FnExactWeightOf', WHERE WHAT IT READS IS OF BULK AT MOST 1048576: true; the input reads as it did. -/
def fnExactWeightOfUptoRow : OpenClaim := { program := "ytfndglpfhdphiac", sum := "6690cfb8f29d3aeaf8f618f95144b6bb40ae14a945032efa490ed97e3dccbe3f", func := "loop.example/dataflow/laws.FnExactWeightOf", spec := "fnExactWeightOf", unfollowed := true, recurses := true, apart := false, narrowed := true }
def FnExactWeightOfUptoSaid : Prop := fnExactWeightOfUptoRow.holds Try.pinned (OpenSpec.upto fnExactWeightOfSpec)

/-- 'laws.FnExactDistinct', WHERE WHAT IT READS IS OF BULK AT MOST 1048576: true; the input reads as it did. -/
def fnExactDistinctUptoRow : OpenClaim := { program := "ytfndglpfhdphiac", sum := "6690cfb8f29d3aeaf8f618f95144b6bb40ae14a945032efa490ed97e3dccbe3f", func := "loop.example/dataflow/laws.FnExactDistinct", spec := "fnExactDistinct", unfollowed := true, recurses := true, apart := false, narrowed := true }
def FnExactDistinctUptoSaid : Prop := fnExactDistinctUptoRow.holds Try.pinned (OpenSpec.upto fnExactDistinctSpec)

/-- 'laws.FnExactIsSet', WHERE WHAT IT READS IS OF BULK AT MOST 1048576: true; the input reads as it did. -/
def fnExactIsSetUptoRow : OpenClaim := { program := "ytfndglpfhdphiac", sum := "6690cfb8f29d3aeaf8f618f95144b6bb40ae14a945032efa490ed97e3dccbe3f", func := "loop.example/dataflow/laws.FnExactIsSet", spec := "fnExactIsSet", unfollowed := true, recurses := true, apart := false, narrowed := true }
def FnExactIsSetUptoSaid : Prop := fnExactIsSetUptoRow.holds Try.pinned (OpenSpec.upto fnExactIsSetSpec)

/-- 'laws.FnExactTotalWeight', WHERE WHAT IT READS IS OF BULK AT MOST 1048576: true; the input reads as it did. -/
def fnExactTotalWeightUptoRow : OpenClaim := { program := "ytfndglpfhdphiac", sum := "6690cfb8f29d3aeaf8f618f95144b6bb40ae14a945032efa490ed97e3dccbe3f", func := "loop.example/dataflow/laws.FnExactTotalWeight", spec := "fnExactTotalWeight", unfollowed := true, recurses := true, apart := false, narrowed := true }
def FnExactTotalWeightUptoSaid : Prop := fnExactTotalWeightUptoRow.holds Try.pinned (OpenSpec.upto fnExactTotalWeightSpec)

/-- 'laws.FnNormalize', WHERE WHAT IT READS IS OF BULK AT MOST 1048576: true; the input reads as it did. -/
def fnNormalizeUptoRow : OpenClaim := { program := "ytfndglpfhdphiac", sum := "6690cfb8f29d3aeaf8f618f95144b6bb40ae14a945032efa490ed97e3dccbe3f", func := "loop.example/dataflow/laws.FnNormalize", spec := "fnNormalize", unfollowed := true, recurses := true, apart := false, narrowed := true }
def FnNormalizeUptoSaid : Prop := fnNormalizeUptoRow.holds Try.pinned (OpenSpec.upto fnNormalizeSpec)

/-- 'laws.FnNormalizeOrder', WHERE WHAT IT READS IS OF BULK AT MOST 1048576: true; the input reads as it did. -/
def fnNormalizeOrderUptoRow : OpenClaim := { program := "ytfndglpfhdphiac", sum := "6690cfb8f29d3aeaf8f618f95144b6bb40ae14a945032efa490ed97e3dccbe3f", func := "loop.example/dataflow/laws.FnNormalizeOrder", spec := "fnNormalizeOrder", unfollowed := true, recurses := true, apart := false, narrowed := true }
def FnNormalizeOrderUptoSaid : Prop := fnNormalizeOrderUptoRow.holds Try.pinned (OpenSpec.upto fnNormalizeOrderSpec)

/-- 'laws.FnAdd', WHERE WHAT IT READS IS OF BULK AT MOST 1048576: true; the input reads as it did. -/
def fnAddUptoRow : OpenClaim := { program := "ytfndglpfhdphiac", sum := "6690cfb8f29d3aeaf8f618f95144b6bb40ae14a945032efa490ed97e3dccbe3f", func := "loop.example/dataflow/laws.FnAdd", spec := "fnAdd", unfollowed := true, recurses := true, apart := false, narrowed := true }
def FnAddUptoSaid : Prop := fnAddUptoRow.holds Try.pinned (OpenSpec.upto fnAddSpec)

/-- 'laws.FnAddAssociative', WHERE WHAT IT READS IS OF BULK AT MOST 1048576: true; the input reads as it did. -/
def fnAddAssociativeUptoRow : OpenClaim := { program := "ytfndglpfhdphiac", sum := "6690cfb8f29d3aeaf8f618f95144b6bb40ae14a945032efa490ed97e3dccbe3f", func := "loop.example/dataflow/laws.FnAddAssociative", spec := "fnAddAssociative", unfollowed := true, recurses := true, apart := false, narrowed := true }
def FnAddAssociativeUptoSaid : Prop := fnAddAssociativeUptoRow.holds Try.pinned (OpenSpec.upto fnAddAssociativeSpec)

end Rows
end Go.Proofs.Ytfndglpfhdphiac
