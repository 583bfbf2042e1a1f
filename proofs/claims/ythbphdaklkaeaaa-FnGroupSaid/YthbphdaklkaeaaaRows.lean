/-
  No cell of these rows narrows 'for every input' (looked for: loops, veiled, ifaces, maps, wideKeys, modest, calm, conditions, laid).
  DERIVED. THE GIVEN ROWS OF THIS SEAT. 12 by the template 'for every input the law returns true; each argument reads behind the call as it read before'; 0 by the template 'total and deterministic' (their statements: YthbphdaklkaeaaaTotals.lean).
  GIVEN WITH THE SEED: the statements are not yours to turn. If you find one false, say at which input.
  Laid BY PROGRAM, IN A SANDBOX (cutbox-rows.mjs): the forced cells as the released guide's own fill.sh prints them over the translation 412ad3611f20c709… (all of the seat's roots in one cut). By AI agents, Wed Nov 11 2026. No macro, syntax, notation, axiom, sorry.
-/
import Derived.Test.YthbphdaklkaeaaaChecked
import GoSem.Claim
import GoSem.ClaimJoined
import GoSem.ClaimMapViews
import Derived.JoinedTies
import Derived.KernelRfl
namespace Go.Proofs.Ythbphdaklkaeaaa
/- THE CELL 'sum', in the pinned program and in every row, IS THE sha256 OF THE DUMP (.gsa) THAT YthbphdaklkaeaaaProg.lean LOADS. Nothing in Lean hashes anything: it is a label: what it is worth is what the hold of that sum in a sandbox is worth. -/
noncomputable def Try.pinned : Pinned := { name := "ythbphdaklkaeaaa", sum := "412ad3611f20c7090b4af10d7afd5ca09f6f69287713e01acce30d61d42a9ca9", checked := Try.checked }
namespace Rows
def none {H : Type} : Left H := { results := [], args := [] }

/-- 'laws.FnNegate': WHATEVER THE INPUT: true; the input reads as it did. -/
def fnNegateSpec : ChangeSpec := { name := "fnNegate", fn := fun _ => fun
  | [d] => { results := [.lit (.bool true)], args := [d] }
  | _ => none }
def fnNegateRow : OpenClaim := { program := "ythbphdaklkaeaaa", sum := "412ad3611f20c7090b4af10d7afd5ca09f6f69287713e01acce30d61d42a9ca9", func := "loop.example/dataflow/laws.FnNegate", spec := "fnNegate", unfollowed := true, recurses := true, apart := false }
def FnNegateSaid : Prop := fnNegateRow.holds Try.pinned (OpenSpec.ofChange fnNegateSpec)

/-- ITS FALSE NEIGHBOUR: 'it returns false'. Refute it at one input. -/
def fnNegateWrong : ChangeSpec := { name := "fnNegate", fn := fun _ => fun
  | [d] => { results := [.lit (.bool false)], args := [d] }
  | _ => none }
def FnNegateWrongFalsely : Prop := fnNegateRow.holds Try.pinned (OpenSpec.ofChange fnNegateWrong)

/-- 'laws.FnNormalize': WHATEVER THE INPUT: true; the input reads as it did. -/
def fnNormalizeSpec : ChangeSpec := { name := "fnNormalize", fn := fun _ => fun
  | [d] => { results := [.lit (.bool true)], args := [d] }
  | _ => none }
def fnNormalizeRow : OpenClaim := { program := "ythbphdaklkaeaaa", sum := "412ad3611f20c7090b4af10d7afd5ca09f6f69287713e01acce30d61d42a9ca9", func := "loop.example/dataflow/laws.FnNormalize", spec := "fnNormalize", unfollowed := true, recurses := true, apart := false }
def FnNormalizeSaid : Prop := fnNormalizeRow.holds Try.pinned (OpenSpec.ofChange fnNormalizeSpec)

/-- ITS FALSE NEIGHBOUR: 'it returns false'. Refute it at one input. -/
def fnNormalizeWrong : ChangeSpec := { name := "fnNormalize", fn := fun _ => fun
  | [d] => { results := [.lit (.bool false)], args := [d] }
  | _ => none }
def FnNormalizeWrongFalsely : Prop := fnNormalizeRow.holds Try.pinned (OpenSpec.ofChange fnNormalizeWrong)

/-- 'laws.FnNormalizeOrder': WHATEVER THE INPUT: true; the input reads as it did. -/
def fnNormalizeOrderSpec : ChangeSpec := { name := "fnNormalizeOrder", fn := fun _ => fun
  | [d] => { results := [.lit (.bool true)], args := [d] }
  | _ => none }
def fnNormalizeOrderRow : OpenClaim := { program := "ythbphdaklkaeaaa", sum := "412ad3611f20c7090b4af10d7afd5ca09f6f69287713e01acce30d61d42a9ca9", func := "loop.example/dataflow/laws.FnNormalizeOrder", spec := "fnNormalizeOrder", unfollowed := true, recurses := true, apart := false }
def FnNormalizeOrderSaid : Prop := fnNormalizeOrderRow.holds Try.pinned (OpenSpec.ofChange fnNormalizeOrderSpec)

/-- ITS FALSE NEIGHBOUR: 'it returns false'. Refute it at one input. -/
def fnNormalizeOrderWrong : ChangeSpec := { name := "fnNormalizeOrder", fn := fun _ => fun
  | [d] => { results := [.lit (.bool false)], args := [d] }
  | _ => none }
def FnNormalizeOrderWrongFalsely : Prop := fnNormalizeOrderRow.holds Try.pinned (OpenSpec.ofChange fnNormalizeOrderWrong)

/-- 'laws.FnAdd': WHATEVER THE INPUT: true; the input reads as it did. -/
def fnAddSpec : ChangeSpec := { name := "fnAdd", fn := fun _ => fun
  | [d] => { results := [.lit (.bool true)], args := [d] }
  | _ => none }
def fnAddRow : OpenClaim := { program := "ythbphdaklkaeaaa", sum := "412ad3611f20c7090b4af10d7afd5ca09f6f69287713e01acce30d61d42a9ca9", func := "loop.example/dataflow/laws.FnAdd", spec := "fnAdd", unfollowed := true, recurses := true, apart := false }
def FnAddSaid : Prop := fnAddRow.holds Try.pinned (OpenSpec.ofChange fnAddSpec)

/-- ITS FALSE NEIGHBOUR: 'it returns false'. Refute it at one input. -/
def fnAddWrong : ChangeSpec := { name := "fnAdd", fn := fun _ => fun
  | [d] => { results := [.lit (.bool false)], args := [d] }
  | _ => none }
def FnAddWrongFalsely : Prop := fnAddRow.holds Try.pinned (OpenSpec.ofChange fnAddWrong)

/-- 'laws.FnAddAssociative': WHATEVER THE INPUT: true; the input reads as it did. -/
def fnAddAssociativeSpec : ChangeSpec := { name := "fnAddAssociative", fn := fun _ => fun
  | [d1, d2] => { results := [.lit (.bool true)], args := [d1, d2] }
  | _ => none }
def fnAddAssociativeRow : OpenClaim := { program := "ythbphdaklkaeaaa", sum := "412ad3611f20c7090b4af10d7afd5ca09f6f69287713e01acce30d61d42a9ca9", func := "loop.example/dataflow/laws.FnAddAssociative", spec := "fnAddAssociative", unfollowed := true, recurses := true, apart := false }
def FnAddAssociativeSaid : Prop := fnAddAssociativeRow.holds Try.pinned (OpenSpec.ofChange fnAddAssociativeSpec)

/-- ITS FALSE NEIGHBOUR: 'it returns false'. Refute it at one input. -/
def fnAddAssociativeWrong : ChangeSpec := { name := "fnAddAssociative", fn := fun _ => fun
  | [d1, d2] => { results := [.lit (.bool false)], args := [d1, d2] }
  | _ => none }
def FnAddAssociativeWrongFalsely : Prop := fnAddAssociativeRow.holds Try.pinned (OpenSpec.ofChange fnAddAssociativeWrong)

/-- 'laws.FnWeightOf': WHATEVER THE INPUT: true; the input reads as it did. -/
def fnWeightOfSpec : ChangeSpec := { name := "fnWeightOf", fn := fun _ => fun
  | [d] => { results := [.lit (.bool true)], args := [d] }
  | _ => none }
def fnWeightOfRow : OpenClaim := { program := "ythbphdaklkaeaaa", sum := "412ad3611f20c7090b4af10d7afd5ca09f6f69287713e01acce30d61d42a9ca9", func := "loop.example/dataflow/laws.FnWeightOf", spec := "fnWeightOf", unfollowed := true, recurses := true, apart := false }
def FnWeightOfSaid : Prop := fnWeightOfRow.holds Try.pinned (OpenSpec.ofChange fnWeightOfSpec)

/-- ITS FALSE NEIGHBOUR: 'it returns false'. Refute it at one input. -/
def fnWeightOfWrong : ChangeSpec := { name := "fnWeightOf", fn := fun _ => fun
  | [d] => { results := [.lit (.bool false)], args := [d] }
  | _ => none }
def FnWeightOfWrongFalsely : Prop := fnWeightOfRow.holds Try.pinned (OpenSpec.ofChange fnWeightOfWrong)

/-- 'laws.FnDistinct': WHATEVER THE INPUT: true; the input reads as it did. -/
def fnDistinctSpec : ChangeSpec := { name := "fnDistinct", fn := fun _ => fun
  | [d] => { results := [.lit (.bool true)], args := [d] }
  | _ => none }
def fnDistinctRow : OpenClaim := { program := "ythbphdaklkaeaaa", sum := "412ad3611f20c7090b4af10d7afd5ca09f6f69287713e01acce30d61d42a9ca9", func := "loop.example/dataflow/laws.FnDistinct", spec := "fnDistinct", unfollowed := true, recurses := true, apart := false }
def FnDistinctSaid : Prop := fnDistinctRow.holds Try.pinned (OpenSpec.ofChange fnDistinctSpec)

/-- ITS FALSE NEIGHBOUR: 'it returns false'. Refute it at one input. -/
def fnDistinctWrong : ChangeSpec := { name := "fnDistinct", fn := fun _ => fun
  | [d] => { results := [.lit (.bool false)], args := [d] }
  | _ => none }
def FnDistinctWrongFalsely : Prop := fnDistinctRow.holds Try.pinned (OpenSpec.ofChange fnDistinctWrong)

/-- 'laws.FnFilter': WHATEVER THE INPUT: true; the input reads as it did. -/
def fnFilterSpec : ChangeSpec := { name := "fnFilter", fn := fun _ => fun
  | [d] => { results := [.lit (.bool true)], args := [d] }
  | _ => none }
def fnFilterRow : OpenClaim := { program := "ythbphdaklkaeaaa", sum := "412ad3611f20c7090b4af10d7afd5ca09f6f69287713e01acce30d61d42a9ca9", func := "loop.example/dataflow/laws.FnFilter", spec := "fnFilter", unfollowed := true, recurses := true, apart := false }
def FnFilterSaid : Prop := fnFilterRow.holds Try.pinned (OpenSpec.ofChange fnFilterSpec)

/-- ITS FALSE NEIGHBOUR: 'it returns false'. Refute it at one input. -/
def fnFilterWrong : ChangeSpec := { name := "fnFilter", fn := fun _ => fun
  | [d] => { results := [.lit (.bool false)], args := [d] }
  | _ => none }
def FnFilterWrongFalsely : Prop := fnFilterRow.holds Try.pinned (OpenSpec.ofChange fnFilterWrong)

/-- 'laws.FnFilterLinear': WHATEVER THE INPUT: true; the input reads as it did. -/
def fnFilterLinearSpec : ChangeSpec := { name := "fnFilterLinear", fn := fun _ => fun
  | [d1, d2] => { results := [.lit (.bool true)], args := [d1, d2] }
  | _ => none }
def fnFilterLinearRow : OpenClaim := { program := "ythbphdaklkaeaaa", sum := "412ad3611f20c7090b4af10d7afd5ca09f6f69287713e01acce30d61d42a9ca9", func := "loop.example/dataflow/laws.FnFilterLinear", spec := "fnFilterLinear", unfollowed := true, recurses := true, apart := false }
def FnFilterLinearSaid : Prop := fnFilterLinearRow.holds Try.pinned (OpenSpec.ofChange fnFilterLinearSpec)

/-- ITS FALSE NEIGHBOUR: 'it returns false'. Refute it at one input. -/
def fnFilterLinearWrong : ChangeSpec := { name := "fnFilterLinear", fn := fun _ => fun
  | [d1, d2] => { results := [.lit (.bool false)], args := [d1, d2] }
  | _ => none }
def FnFilterLinearWrongFalsely : Prop := fnFilterLinearRow.holds Try.pinned (OpenSpec.ofChange fnFilterLinearWrong)

/-- 'laws.FnMapColumns': WHATEVER THE INPUT: true; the input reads as it did. -/
def fnMapColumnsSpec : ChangeSpec := { name := "fnMapColumns", fn := fun _ => fun
  | [d] => { results := [.lit (.bool true)], args := [d] }
  | _ => none }
def fnMapColumnsRow : OpenClaim := { program := "ythbphdaklkaeaaa", sum := "412ad3611f20c7090b4af10d7afd5ca09f6f69287713e01acce30d61d42a9ca9", func := "loop.example/dataflow/laws.FnMapColumns", spec := "fnMapColumns", unfollowed := true, recurses := true, apart := false }
def FnMapColumnsSaid : Prop := fnMapColumnsRow.holds Try.pinned (OpenSpec.ofChange fnMapColumnsSpec)

/-- ITS FALSE NEIGHBOUR: 'it returns false'. Refute it at one input. -/
def fnMapColumnsWrong : ChangeSpec := { name := "fnMapColumns", fn := fun _ => fun
  | [d] => { results := [.lit (.bool false)], args := [d] }
  | _ => none }
def FnMapColumnsWrongFalsely : Prop := fnMapColumnsRow.holds Try.pinned (OpenSpec.ofChange fnMapColumnsWrong)

/-- 'laws.FnGroup': WHATEVER THE INPUT: true; the input reads as it did. -/
def fnGroupSpec : ChangeSpec := { name := "fnGroup", fn := fun _ => fun
  | [d] => { results := [.lit (.bool true)], args := [d] }
  | _ => none }
def fnGroupRow : OpenClaim := { program := "ythbphdaklkaeaaa", sum := "412ad3611f20c7090b4af10d7afd5ca09f6f69287713e01acce30d61d42a9ca9", func := "loop.example/dataflow/laws.FnGroup", spec := "fnGroup", unfollowed := true, recurses := true, apart := false }
def FnGroupSaid : Prop := fnGroupRow.holds Try.pinned (OpenSpec.ofChange fnGroupSpec)

/-- ITS FALSE NEIGHBOUR: 'it returns false'. Refute it at one input. -/
def fnGroupWrong : ChangeSpec := { name := "fnGroup", fn := fun _ => fun
  | [d] => { results := [.lit (.bool false)], args := [d] }
  | _ => none }
def FnGroupWrongFalsely : Prop := fnGroupRow.holds Try.pinned (OpenSpec.ofChange fnGroupWrong)

/-- 'laws.FnRowOrder': WHATEVER THE INPUT: true; the input reads as it did. -/
def fnRowOrderSpec : ChangeSpec := { name := "fnRowOrder", fn := fun _ => fun
  | [d] => { results := [.lit (.bool true)], args := [d] }
  | _ => none }
def fnRowOrderRow : OpenClaim := { program := "ythbphdaklkaeaaa", sum := "412ad3611f20c7090b4af10d7afd5ca09f6f69287713e01acce30d61d42a9ca9", func := "loop.example/dataflow/laws.FnRowOrder", spec := "fnRowOrder", apart := false }
def FnRowOrderSaid : Prop := fnRowOrderRow.holds Try.pinned (OpenSpec.ofChange fnRowOrderSpec)

/-- ITS FALSE NEIGHBOUR: 'it returns false'. Refute it at one input. -/
def fnRowOrderWrong : ChangeSpec := { name := "fnRowOrder", fn := fun _ => fun
  | [d] => { results := [.lit (.bool false)], args := [d] }
  | _ => none }
def FnRowOrderWrongFalsely : Prop := fnRowOrderRow.holds Try.pinned (OpenSpec.ofChange fnRowOrderWrong)

/- THE SECOND FORM. 'bulk': how many values and letters a reading holds, each counted each time it is reached (what is shared counts as often as it is met; a slice's spare places count too). A statement '..UptoSaid' is the law's where the arguments, and the package variables that the reading takes, are together of bulk at most 1048576: NARROWER than '..Said'. Prove '..Said' where nothing that the law and all that it calls make is longer than what came in: it says more and counts as full. Else prove '..UptoSaid'. A law counts once. -/
mutual
def uptoBulk {H : Type} : DataW H → Nat
  | .lit (.string bytes) => bytes.length + 1
  | .lit _ => 1
  | .nil => 1
  | .ptr d => uptoBulk d + 1
  | .slice elems spare => uptoBulkAll elems + uptoBulkAll spare + 1
  | .agg parts => uptoBulkAll parts + 1
  | .iface _ d => uptoBulk d + 1
  | .map entries => uptoBulkEntries entries + 1
  | .held _ => 1
def uptoBulkAll {H : Type} : List (DataW H) → Nat
  | [] => 0
  | d :: r => uptoBulk d + uptoBulkAll r
def uptoBulkEntries {H : Type} : List (Lit × DataW H) → Nat
  | [] => 0
  | x :: r => uptoBulkEntry x + uptoBulkEntries r
def uptoBulkEntry {H : Type} : Lit × DataW H → Nat
  | (.string bytes, d) => bytes.length + uptoBulk d + 1
  | (_, d) => uptoBulk d + 1
 end
def uptoSmall : (H : Type) → List (DataW H) → Bool := fun _ ds => decide (uptoBulkAll ds ≤ 1048576)
def OpenSpec.upto (s : _root_.Go.ChangeSpec) : _root_.Go.OpenSpec := { _root_.Go.OpenSpec.ofChange s with cond := some uptoSmall }

/-- 'laws.FnNegate', WHERE WHAT IT READS IS OF BULK AT MOST 1048576: true; the input reads as it did. -/
def fnNegateUptoRow : OpenClaim := { program := "ythbphdaklkaeaaa", sum := "412ad3611f20c7090b4af10d7afd5ca09f6f69287713e01acce30d61d42a9ca9", func := "loop.example/dataflow/laws.FnNegate", spec := "fnNegate", unfollowed := true, recurses := true, apart := false, narrowed := true }
def FnNegateUptoSaid : Prop := fnNegateUptoRow.holds Try.pinned (OpenSpec.upto fnNegateSpec)

/-- 'laws.FnNormalize', WHERE WHAT IT READS IS OF BULK AT MOST 1048576: true; the input reads as it did. -/
def fnNormalizeUptoRow : OpenClaim := { program := "ythbphdaklkaeaaa", sum := "412ad3611f20c7090b4af10d7afd5ca09f6f69287713e01acce30d61d42a9ca9", func := "loop.example/dataflow/laws.FnNormalize", spec := "fnNormalize", unfollowed := true, recurses := true, apart := false, narrowed := true }
def FnNormalizeUptoSaid : Prop := fnNormalizeUptoRow.holds Try.pinned (OpenSpec.upto fnNormalizeSpec)

/-- 'laws.FnNormalizeOrder', WHERE WHAT IT READS IS OF BULK AT MOST 1048576: true; the input reads as it did. -/
def fnNormalizeOrderUptoRow : OpenClaim := { program := "ythbphdaklkaeaaa", sum := "412ad3611f20c7090b4af10d7afd5ca09f6f69287713e01acce30d61d42a9ca9", func := "loop.example/dataflow/laws.FnNormalizeOrder", spec := "fnNormalizeOrder", unfollowed := true, recurses := true, apart := false, narrowed := true }
def FnNormalizeOrderUptoSaid : Prop := fnNormalizeOrderUptoRow.holds Try.pinned (OpenSpec.upto fnNormalizeOrderSpec)

/-- 'laws.FnAdd', WHERE WHAT IT READS IS OF BULK AT MOST 1048576: true; the input reads as it did. -/
def fnAddUptoRow : OpenClaim := { program := "ythbphdaklkaeaaa", sum := "412ad3611f20c7090b4af10d7afd5ca09f6f69287713e01acce30d61d42a9ca9", func := "loop.example/dataflow/laws.FnAdd", spec := "fnAdd", unfollowed := true, recurses := true, apart := false, narrowed := true }
def FnAddUptoSaid : Prop := fnAddUptoRow.holds Try.pinned (OpenSpec.upto fnAddSpec)

/-- 'laws.FnAddAssociative', WHERE WHAT IT READS IS OF BULK AT MOST 1048576: true; the input reads as it did. -/
def fnAddAssociativeUptoRow : OpenClaim := { program := "ythbphdaklkaeaaa", sum := "412ad3611f20c7090b4af10d7afd5ca09f6f69287713e01acce30d61d42a9ca9", func := "loop.example/dataflow/laws.FnAddAssociative", spec := "fnAddAssociative", unfollowed := true, recurses := true, apart := false, narrowed := true }
def FnAddAssociativeUptoSaid : Prop := fnAddAssociativeUptoRow.holds Try.pinned (OpenSpec.upto fnAddAssociativeSpec)

/-- 'laws.FnWeightOf', WHERE WHAT IT READS IS OF BULK AT MOST 1048576: true; the input reads as it did. -/
def fnWeightOfUptoRow : OpenClaim := { program := "ythbphdaklkaeaaa", sum := "412ad3611f20c7090b4af10d7afd5ca09f6f69287713e01acce30d61d42a9ca9", func := "loop.example/dataflow/laws.FnWeightOf", spec := "fnWeightOf", unfollowed := true, recurses := true, apart := false, narrowed := true }
def FnWeightOfUptoSaid : Prop := fnWeightOfUptoRow.holds Try.pinned (OpenSpec.upto fnWeightOfSpec)

/-- 'laws.FnDistinct', WHERE WHAT IT READS IS OF BULK AT MOST 1048576: true; the input reads as it did. -/
def fnDistinctUptoRow : OpenClaim := { program := "ythbphdaklkaeaaa", sum := "412ad3611f20c7090b4af10d7afd5ca09f6f69287713e01acce30d61d42a9ca9", func := "loop.example/dataflow/laws.FnDistinct", spec := "fnDistinct", unfollowed := true, recurses := true, apart := false, narrowed := true }
def FnDistinctUptoSaid : Prop := fnDistinctUptoRow.holds Try.pinned (OpenSpec.upto fnDistinctSpec)

/-- 'laws.FnFilter', WHERE WHAT IT READS IS OF BULK AT MOST 1048576: true; the input reads as it did. -/
def fnFilterUptoRow : OpenClaim := { program := "ythbphdaklkaeaaa", sum := "412ad3611f20c7090b4af10d7afd5ca09f6f69287713e01acce30d61d42a9ca9", func := "loop.example/dataflow/laws.FnFilter", spec := "fnFilter", unfollowed := true, recurses := true, apart := false, narrowed := true }
def FnFilterUptoSaid : Prop := fnFilterUptoRow.holds Try.pinned (OpenSpec.upto fnFilterSpec)

/-- 'laws.FnFilterLinear', WHERE WHAT IT READS IS OF BULK AT MOST 1048576: true; the input reads as it did. -/
def fnFilterLinearUptoRow : OpenClaim := { program := "ythbphdaklkaeaaa", sum := "412ad3611f20c7090b4af10d7afd5ca09f6f69287713e01acce30d61d42a9ca9", func := "loop.example/dataflow/laws.FnFilterLinear", spec := "fnFilterLinear", unfollowed := true, recurses := true, apart := false, narrowed := true }
def FnFilterLinearUptoSaid : Prop := fnFilterLinearUptoRow.holds Try.pinned (OpenSpec.upto fnFilterLinearSpec)

/-- 'laws.FnMapColumns', WHERE WHAT IT READS IS OF BULK AT MOST 1048576: true; the input reads as it did. -/
def fnMapColumnsUptoRow : OpenClaim := { program := "ythbphdaklkaeaaa", sum := "412ad3611f20c7090b4af10d7afd5ca09f6f69287713e01acce30d61d42a9ca9", func := "loop.example/dataflow/laws.FnMapColumns", spec := "fnMapColumns", unfollowed := true, recurses := true, apart := false, narrowed := true }
def FnMapColumnsUptoSaid : Prop := fnMapColumnsUptoRow.holds Try.pinned (OpenSpec.upto fnMapColumnsSpec)

/-- 'laws.FnGroup', WHERE WHAT IT READS IS OF BULK AT MOST 1048576: true; the input reads as it did. -/
def fnGroupUptoRow : OpenClaim := { program := "ythbphdaklkaeaaa", sum := "412ad3611f20c7090b4af10d7afd5ca09f6f69287713e01acce30d61d42a9ca9", func := "loop.example/dataflow/laws.FnGroup", spec := "fnGroup", unfollowed := true, recurses := true, apart := false, narrowed := true }
def FnGroupUptoSaid : Prop := fnGroupUptoRow.holds Try.pinned (OpenSpec.upto fnGroupSpec)

/-- 'laws.FnRowOrder', WHERE WHAT IT READS IS OF BULK AT MOST 1048576: true; the input reads as it did. -/
def fnRowOrderUptoRow : OpenClaim := { program := "ythbphdaklkaeaaa", sum := "412ad3611f20c7090b4af10d7afd5ca09f6f69287713e01acce30d61d42a9ca9", func := "loop.example/dataflow/laws.FnRowOrder", spec := "fnRowOrder", apart := false, narrowed := true }
def FnRowOrderUptoSaid : Prop := fnRowOrderUptoRow.holds Try.pinned (OpenSpec.upto fnRowOrderSpec)

end Rows
end Go.Proofs.Ythbphdaklkaeaaa
