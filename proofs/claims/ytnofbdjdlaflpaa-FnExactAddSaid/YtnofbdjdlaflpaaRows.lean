/-
  No cell of these rows narrows 'for every input' (looked for: loops, veiled, ifaces, maps, wideKeys, modest, calm, conditions, laid).
  DERIVED. THE GIVEN ROWS OF THIS SEAT. 12 by the template 'for every input the law returns true; each argument reads behind the call as it read before'; 0 by the template 'total and deterministic' (their statements: YtnofbdjdlaflpaaTotals.lean).
  GIVEN WITH THE SEED: the statements are not yours to turn. If you find one false, say at which input.
  Laid BY PROGRAM, IN A SANDBOX (cutbox-rows.mjs): the forced cells as the released guide's own fill.sh prints them over the translation eb3c945cb061b7ce… (all of the seat's roots in one cut). By AI agents, Wed Nov 11 2026. No macro, syntax, notation, axiom, sorry.
-/
import Derived.Test.YtnofbdjdlaflpaaChecked
import GoSem.Claim
import GoSem.ClaimJoined
import GoSem.ClaimMapViews
import Derived.JoinedTies
import Derived.KernelRfl
namespace Go.Proofs.Ytnofbdjdlaflpaa
/- THE CELL 'sum', in the pinned program and in every row, IS THE sha256 OF THE DUMP (.gsa) THAT YtnofbdjdlaflpaaProg.lean LOADS. Nothing in Lean hashes anything: it is a label: what it is worth is what the hold of that sum in a sandbox is worth. -/
noncomputable def Try.pinned : Pinned := { name := "ytnofbdjdlaflpaa", sum := "eb3c945cb061b7cedfc06df959e9b440986c9b441d0073551a61f7cabed34b04", checked := Try.checked }
namespace Rows
def none {H : Type} : Left H := { results := [], args := [] }

/-- 'laws.FnExactAdd': WHATEVER THE INPUT: true; the input reads as it did. -/
def fnExactAddSpec : ChangeSpec := { name := "fnExactAdd", fn := fun _ => fun
  | [d1, d2] => { results := [.lit (.bool true)], args := [d1, d2] }
  | _ => none }
def fnExactAddRow : OpenClaim := { program := "ytnofbdjdlaflpaa", sum := "eb3c945cb061b7cedfc06df959e9b440986c9b441d0073551a61f7cabed34b04", func := "loop.example/dataflow/laws.FnExactAdd", spec := "fnExactAdd", unfollowed := true, recurses := true, plainKeys := false, apart := false }
def FnExactAddSaid : Prop := fnExactAddRow.holds Try.pinned (OpenSpec.ofChange fnExactAddSpec)

/-- ITS FALSE NEIGHBOUR: 'it returns false'. Refute it at one input. -/
def fnExactAddWrong : ChangeSpec := { name := "fnExactAdd", fn := fun _ => fun
  | [d1, d2] => { results := [.lit (.bool false)], args := [d1, d2] }
  | _ => none }
def FnExactAddWrongFalsely : Prop := fnExactAddRow.holds Try.pinned (OpenSpec.ofChange fnExactAddWrong)

/-- 'laws.FnExactNormalize': WHATEVER THE INPUT: true; the input reads as it did. -/
def fnExactNormalizeSpec : ChangeSpec := { name := "fnExactNormalize", fn := fun _ => fun
  | [d] => { results := [.lit (.bool true)], args := [d] }
  | _ => none }
def fnExactNormalizeRow : OpenClaim := { program := "ytnofbdjdlaflpaa", sum := "eb3c945cb061b7cedfc06df959e9b440986c9b441d0073551a61f7cabed34b04", func := "loop.example/dataflow/laws.FnExactNormalize", spec := "fnExactNormalize", unfollowed := true, recurses := true, plainKeys := false, apart := false }
def FnExactNormalizeSaid : Prop := fnExactNormalizeRow.holds Try.pinned (OpenSpec.ofChange fnExactNormalizeSpec)

/-- ITS FALSE NEIGHBOUR: 'it returns false'. Refute it at one input. -/
def fnExactNormalizeWrong : ChangeSpec := { name := "fnExactNormalize", fn := fun _ => fun
  | [d] => { results := [.lit (.bool false)], args := [d] }
  | _ => none }
def FnExactNormalizeWrongFalsely : Prop := fnExactNormalizeRow.holds Try.pinned (OpenSpec.ofChange fnExactNormalizeWrong)

/-- 'laws.FnExactDistinct': WHATEVER THE INPUT: true; the input reads as it did. -/
def fnExactDistinctSpec : ChangeSpec := { name := "fnExactDistinct", fn := fun _ => fun
  | [d] => { results := [.lit (.bool true)], args := [d] }
  | _ => none }
def fnExactDistinctRow : OpenClaim := { program := "ytnofbdjdlaflpaa", sum := "eb3c945cb061b7cedfc06df959e9b440986c9b441d0073551a61f7cabed34b04", func := "loop.example/dataflow/laws.FnExactDistinct", spec := "fnExactDistinct", unfollowed := true, recurses := true, plainKeys := false, apart := false }
def FnExactDistinctSaid : Prop := fnExactDistinctRow.holds Try.pinned (OpenSpec.ofChange fnExactDistinctSpec)

/-- ITS FALSE NEIGHBOUR: 'it returns false'. Refute it at one input. -/
def fnExactDistinctWrong : ChangeSpec := { name := "fnExactDistinct", fn := fun _ => fun
  | [d] => { results := [.lit (.bool false)], args := [d] }
  | _ => none }
def FnExactDistinctWrongFalsely : Prop := fnExactDistinctRow.holds Try.pinned (OpenSpec.ofChange fnExactDistinctWrong)

/-- 'laws.FnExactFilter': WHATEVER THE INPUT: true; the input reads as it did. -/
def fnExactFilterSpec : ChangeSpec := { name := "fnExactFilter", fn := fun _ => fun
  | [d1, d2] => { results := [.lit (.bool true)], args := [d1, d2] }
  | _ => none }
def fnExactFilterRow : OpenClaim := { program := "ytnofbdjdlaflpaa", sum := "eb3c945cb061b7cedfc06df959e9b440986c9b441d0073551a61f7cabed34b04", func := "loop.example/dataflow/laws.FnExactFilter", spec := "fnExactFilter", unfollowed := true, recurses := true, plainKeys := false, apart := false }
def FnExactFilterSaid : Prop := fnExactFilterRow.holds Try.pinned (OpenSpec.ofChange fnExactFilterSpec)

/-- ITS FALSE NEIGHBOUR: 'it returns false'. Refute it at one input. -/
def fnExactFilterWrong : ChangeSpec := { name := "fnExactFilter", fn := fun _ => fun
  | [d1, d2] => { results := [.lit (.bool false)], args := [d1, d2] }
  | _ => none }
def FnExactFilterWrongFalsely : Prop := fnExactFilterRow.holds Try.pinned (OpenSpec.ofChange fnExactFilterWrong)

/-- 'laws.FnExactKeys': WHATEVER THE INPUT: true; the input reads as it did. -/
def fnExactKeysSpec : ChangeSpec := { name := "fnExactKeys", fn := fun _ => fun
  | [d1, d2] => { results := [.lit (.bool true)], args := [d1, d2] }
  | _ => none }
def fnExactKeysRow : OpenClaim := { program := "ytnofbdjdlaflpaa", sum := "eb3c945cb061b7cedfc06df959e9b440986c9b441d0073551a61f7cabed34b04", func := "loop.example/dataflow/laws.FnExactKeys", spec := "fnExactKeys", unfollowed := true, recurses := true, plainKeys := false, apart := false }
def FnExactKeysSaid : Prop := fnExactKeysRow.holds Try.pinned (OpenSpec.ofChange fnExactKeysSpec)

/-- ITS FALSE NEIGHBOUR: 'it returns false'. Refute it at one input. -/
def fnExactKeysWrong : ChangeSpec := { name := "fnExactKeys", fn := fun _ => fun
  | [d1, d2] => { results := [.lit (.bool false)], args := [d1, d2] }
  | _ => none }
def FnExactKeysWrongFalsely : Prop := fnExactKeysRow.holds Try.pinned (OpenSpec.ofChange fnExactKeysWrong)

/-- 'laws.FnExactGroup': WHATEVER THE INPUT: true; the input reads as it did. -/
def fnExactGroupSpec : ChangeSpec := { name := "fnExactGroup", fn := fun _ => fun
  | [d1, d2] => { results := [.lit (.bool true)], args := [d1, d2] }
  | _ => none }
def fnExactGroupRow : OpenClaim := { program := "ytnofbdjdlaflpaa", sum := "eb3c945cb061b7cedfc06df959e9b440986c9b441d0073551a61f7cabed34b04", func := "loop.example/dataflow/laws.FnExactGroup", spec := "fnExactGroup", unfollowed := true, recurses := true, plainKeys := false, apart := false }
def FnExactGroupSaid : Prop := fnExactGroupRow.holds Try.pinned (OpenSpec.ofChange fnExactGroupSpec)

/-- ITS FALSE NEIGHBOUR: 'it returns false'. Refute it at one input. -/
def fnExactGroupWrong : ChangeSpec := { name := "fnExactGroup", fn := fun _ => fun
  | [d1, d2] => { results := [.lit (.bool false)], args := [d1, d2] }
  | _ => none }
def FnExactGroupWrongFalsely : Prop := fnExactGroupRow.holds Try.pinned (OpenSpec.ofChange fnExactGroupWrong)

/-- 'laws.FnExactJoin': WHATEVER THE INPUT: true; the input reads as it did. -/
def fnExactJoinSpec : ChangeSpec := { name := "fnExactJoin", fn := fun _ => fun
  | [d1, d2, d3] => { results := [.lit (.bool true)], args := [d1, d2, d3] }
  | _ => none }
def fnExactJoinRow : OpenClaim := { program := "ytnofbdjdlaflpaa", sum := "eb3c945cb061b7cedfc06df959e9b440986c9b441d0073551a61f7cabed34b04", func := "loop.example/dataflow/laws.FnExactJoin", spec := "fnExactJoin", unfollowed := true, recurses := true, plainKeys := false, apart := false }
def FnExactJoinSaid : Prop := fnExactJoinRow.holds Try.pinned (OpenSpec.ofChange fnExactJoinSpec)

/-- ITS FALSE NEIGHBOUR: 'it returns false'. Refute it at one input. -/
def fnExactJoinWrong : ChangeSpec := { name := "fnExactJoin", fn := fun _ => fun
  | [d1, d2, d3] => { results := [.lit (.bool false)], args := [d1, d2, d3] }
  | _ => none }
def FnExactJoinWrongFalsely : Prop := fnExactJoinRow.holds Try.pinned (OpenSpec.ofChange fnExactJoinWrong)

/-- 'laws.FnExactMapColumns': WHATEVER THE INPUT: true; the input reads as it did. -/
def fnExactMapColumnsSpec : ChangeSpec := { name := "fnExactMapColumns", fn := fun _ => fun
  | [d1, d2] => { results := [.lit (.bool true)], args := [d1, d2] }
  | _ => none }
def fnExactMapColumnsRow : OpenClaim := { program := "ytnofbdjdlaflpaa", sum := "eb3c945cb061b7cedfc06df959e9b440986c9b441d0073551a61f7cabed34b04", func := "loop.example/dataflow/laws.FnExactMapColumns", spec := "fnExactMapColumns", unfollowed := true, recurses := true, plainKeys := false, apart := false }
def FnExactMapColumnsSaid : Prop := fnExactMapColumnsRow.holds Try.pinned (OpenSpec.ofChange fnExactMapColumnsSpec)

/-- ITS FALSE NEIGHBOUR: 'it returns false'. Refute it at one input. -/
def fnExactMapColumnsWrong : ChangeSpec := { name := "fnExactMapColumns", fn := fun _ => fun
  | [d1, d2] => { results := [.lit (.bool false)], args := [d1, d2] }
  | _ => none }
def FnExactMapColumnsWrongFalsely : Prop := fnExactMapColumnsRow.holds Try.pinned (OpenSpec.ofChange fnExactMapColumnsWrong)

/-- 'laws.FnExactProjectRow': WHATEVER THE INPUT: true; the input reads as it did. -/
def fnExactProjectRowSpec : ChangeSpec := { name := "fnExactProjectRow", fn := fun _ => fun
  | [d1, d2] => { results := [.lit (.bool true)], args := [d1, d2] }
  | _ => none }
def fnExactProjectRowRow : OpenClaim := { program := "ytnofbdjdlaflpaa", sum := "eb3c945cb061b7cedfc06df959e9b440986c9b441d0073551a61f7cabed34b04", func := "loop.example/dataflow/laws.FnExactProjectRow", spec := "fnExactProjectRow", plainKeys := false, apart := false }
def FnExactProjectRowSaid : Prop := fnExactProjectRowRow.holds Try.pinned (OpenSpec.ofChange fnExactProjectRowSpec)

/-- ITS FALSE NEIGHBOUR: 'it returns false'. Refute it at one input. -/
def fnExactProjectRowWrong : ChangeSpec := { name := "fnExactProjectRow", fn := fun _ => fun
  | [d1, d2] => { results := [.lit (.bool false)], args := [d1, d2] }
  | _ => none }
def FnExactProjectRowWrongFalsely : Prop := fnExactProjectRowRow.holds Try.pinned (OpenSpec.ofChange fnExactProjectRowWrong)

/-- 'laws.FnExactDeltaDistinct': WHATEVER THE INPUT: true; the input reads as it did. -/
def fnExactDeltaDistinctSpec : ChangeSpec := { name := "fnExactDeltaDistinct", fn := fun _ => fun
  | [d1, d2] => { results := [.lit (.bool true)], args := [d1, d2] }
  | _ => none }
def fnExactDeltaDistinctRow : OpenClaim := { program := "ytnofbdjdlaflpaa", sum := "eb3c945cb061b7cedfc06df959e9b440986c9b441d0073551a61f7cabed34b04", func := "loop.example/dataflow/laws.FnExactDeltaDistinct", spec := "fnExactDeltaDistinct", unfollowed := true, recurses := true, plainKeys := false, apart := false }
def FnExactDeltaDistinctSaid : Prop := fnExactDeltaDistinctRow.holds Try.pinned (OpenSpec.ofChange fnExactDeltaDistinctSpec)

/-- ITS FALSE NEIGHBOUR: 'it returns false'. Refute it at one input. -/
def fnExactDeltaDistinctWrong : ChangeSpec := { name := "fnExactDeltaDistinct", fn := fun _ => fun
  | [d1, d2] => { results := [.lit (.bool false)], args := [d1, d2] }
  | _ => none }
def FnExactDeltaDistinctWrongFalsely : Prop := fnExactDeltaDistinctRow.holds Try.pinned (OpenSpec.ofChange fnExactDeltaDistinctWrong)

/-- 'laws.FnExactDeltaJoin': WHATEVER THE INPUT: true; the input reads as it did. -/
def fnExactDeltaJoinSpec : ChangeSpec := { name := "fnExactDeltaJoin", fn := fun _ => fun
  | [d1, d2, d3, d4, d5] => { results := [.lit (.bool true)], args := [d1, d2, d3, d4, d5] }
  | _ => none }
def fnExactDeltaJoinRow : OpenClaim := { program := "ytnofbdjdlaflpaa", sum := "eb3c945cb061b7cedfc06df959e9b440986c9b441d0073551a61f7cabed34b04", func := "loop.example/dataflow/laws.FnExactDeltaJoin", spec := "fnExactDeltaJoin", unfollowed := true, recurses := true, plainKeys := false, apart := false }
def FnExactDeltaJoinSaid : Prop := fnExactDeltaJoinRow.holds Try.pinned (OpenSpec.ofChange fnExactDeltaJoinSpec)

/-- ITS FALSE NEIGHBOUR: 'it returns false'. Refute it at one input. -/
def fnExactDeltaJoinWrong : ChangeSpec := { name := "fnExactDeltaJoin", fn := fun _ => fun
  | [d1, d2, d3, d4, d5] => { results := [.lit (.bool false)], args := [d1, d2, d3, d4, d5] }
  | _ => none }
def FnExactDeltaJoinWrongFalsely : Prop := fnExactDeltaJoinRow.holds Try.pinned (OpenSpec.ofChange fnExactDeltaJoinWrong)

/-- 'laws.FnExactFirstRows': WHATEVER THE INPUT: true; the input reads as it did. -/
def fnExactFirstRowsSpec : ChangeSpec := { name := "fnExactFirstRows", fn := fun _ => fun
  | [d1, d2, d3] => { results := [.lit (.bool true)], args := [d1, d2, d3] }
  | _ => none }
def fnExactFirstRowsRow : OpenClaim := { program := "ytnofbdjdlaflpaa", sum := "eb3c945cb061b7cedfc06df959e9b440986c9b441d0073551a61f7cabed34b04", func := "loop.example/dataflow/laws.FnExactFirstRows", spec := "fnExactFirstRows", unfollowed := true, recurses := true, plainKeys := false, apart := false }
def FnExactFirstRowsSaid : Prop := fnExactFirstRowsRow.holds Try.pinned (OpenSpec.ofChange fnExactFirstRowsSpec)

/-- ITS FALSE NEIGHBOUR: 'it returns false'. Refute it at one input. -/
def fnExactFirstRowsWrong : ChangeSpec := { name := "fnExactFirstRows", fn := fun _ => fun
  | [d1, d2, d3] => { results := [.lit (.bool false)], args := [d1, d2, d3] }
  | _ => none }
def FnExactFirstRowsWrongFalsely : Prop := fnExactFirstRowsRow.holds Try.pinned (OpenSpec.ofChange fnExactFirstRowsWrong)

/- THE SECOND FORM. 'bulk': how many values and letters a reading holds, each counted each time it is reached (what is shared counts as often as it is met; a slice's spare places count too). A statement '..UptoSaid' is the law's where the arguments, and the package variables that the reading takes, are together of bulk at most 1048576: NARROWER than '..Said'. Prove '..Said' where nothing that the law and all that it calls make is longer than what came in: it says more and counts as full. Else prove '..UptoSaid'. A law counts once. -/
mutual
def uptoBulk {H : Type} : DataW H → Nat
  | .lit (.string bytes) => bytes.length + 1
  | .lit _ => 1
  | .nil => 1
  | .ptr d => uptoBulk d + 1
  | .slice elems spare => uptoBulkAll elems + uptoBulkAll spare + 1
  | .agg parts => uptoBulkAll parts + 1
  | .iface _ d => uptoBulk d + 1
  | .map entries => uptoBulkEntries entries + 1
  | .held _ => 1
def uptoBulkAll {H : Type} : List (DataW H) → Nat
  | [] => 0
  | d :: r => uptoBulk d + uptoBulkAll r
def uptoBulkEntries {H : Type} : List (Lit × DataW H) → Nat
  | [] => 0
  | x :: r => uptoBulkEntry x + uptoBulkEntries r
def uptoBulkEntry {H : Type} : Lit × DataW H → Nat
  | (.string bytes, d) => bytes.length + uptoBulk d + 1
  | (_, d) => uptoBulk d + 1
 end
def uptoSmall : (H : Type) → List (DataW H) → Bool := fun _ ds => decide (uptoBulkAll ds ≤ 1048576)
def OpenSpec.upto (s : _root_.Go.ChangeSpec) : _root_.Go.OpenSpec := { _root_.Go.OpenSpec.ofChange s with cond := some uptoSmall }

/-- 'laws.FnExactAdd', WHERE WHAT IT READS IS OF BULK AT MOST 1048576: true; the input reads as it did. -/
def fnExactAddUptoRow : OpenClaim := { program := "ytnofbdjdlaflpaa", sum := "eb3c945cb061b7cedfc06df959e9b440986c9b441d0073551a61f7cabed34b04", func := "loop.example/dataflow/laws.FnExactAdd", spec := "fnExactAdd", unfollowed := true, recurses := true, plainKeys := false, apart := false, narrowed := true }
def FnExactAddUptoSaid : Prop := fnExactAddUptoRow.holds Try.pinned (OpenSpec.upto fnExactAddSpec)

/-- 'laws.FnExactNormalize', WHERE WHAT IT READS IS OF BULK AT MOST 1048576: true; the input reads as it did. -/
def fnExactNormalizeUptoRow : OpenClaim := { program := "ytnofbdjdlaflpaa", sum := "eb3c945cb061b7cedfc06df959e9b440986c9b441d0073551a61f7cabed34b04", func := "loop.example/dataflow/laws.FnExactNormalize", spec := "fnExactNormalize", unfollowed := true, recurses := true, plainKeys := false, apart := false, narrowed := true }
def FnExactNormalizeUptoSaid : Prop := fnExactNormalizeUptoRow.holds Try.pinned (OpenSpec.upto fnExactNormalizeSpec)

/-- 'laws.FnExactDistinct', WHERE WHAT IT READS IS OF BULK AT MOST 1048576: true; the input reads as it did. -/
def fnExactDistinctUptoRow : OpenClaim := { program := "ytnofbdjdlaflpaa", sum := "eb3c945cb061b7cedfc06df959e9b440986c9b441d0073551a61f7cabed34b04", func := "loop.example/dataflow/laws.FnExactDistinct", spec := "fnExactDistinct", unfollowed := true, recurses := true, plainKeys := false, apart := false, narrowed := true }
def FnExactDistinctUptoSaid : Prop := fnExactDistinctUptoRow.holds Try.pinned (OpenSpec.upto fnExactDistinctSpec)

/-- 'laws.FnExactFilter', WHERE WHAT IT READS IS OF BULK AT MOST 1048576: true; the input reads as it did. -/
def fnExactFilterUptoRow : OpenClaim := { program := "ytnofbdjdlaflpaa", sum := "eb3c945cb061b7cedfc06df959e9b440986c9b441d0073551a61f7cabed34b04", func := "loop.example/dataflow/laws.FnExactFilter", spec := "fnExactFilter", unfollowed := true, recurses := true, plainKeys := false, apart := false, narrowed := true }
def FnExactFilterUptoSaid : Prop := fnExactFilterUptoRow.holds Try.pinned (OpenSpec.upto fnExactFilterSpec)

/-- 'laws.FnExactKeys', WHERE WHAT IT READS IS OF BULK AT MOST 1048576: true; the input reads as it did. -/
def fnExactKeysUptoRow : OpenClaim := { program := "ytnofbdjdlaflpaa", sum := "eb3c945cb061b7cedfc06df959e9b440986c9b441d0073551a61f7cabed34b04", func := "loop.example/dataflow/laws.FnExactKeys", spec := "fnExactKeys", unfollowed := true, recurses := true, plainKeys := false, apart := false, narrowed := true }
def FnExactKeysUptoSaid : Prop := fnExactKeysUptoRow.holds Try.pinned (OpenSpec.upto fnExactKeysSpec)

/-- 'laws.FnExactGroup', WHERE WHAT IT READS IS OF BULK AT MOST 1048576: true; the input reads as it did. -/
def fnExactGroupUptoRow : OpenClaim := { program := "ytnofbdjdlaflpaa", sum := "eb3c945cb061b7cedfc06df959e9b440986c9b441d0073551a61f7cabed34b04", func := "loop.example/dataflow/laws.FnExactGroup", spec := "fnExactGroup", unfollowed := true, recurses := true, plainKeys := false, apart := false, narrowed := true }
def FnExactGroupUptoSaid : Prop := fnExactGroupUptoRow.holds Try.pinned (OpenSpec.upto fnExactGroupSpec)

/-- 'laws.FnExactJoin', WHERE WHAT IT READS IS OF BULK AT MOST 1048576: true; the input reads as it did. -/
def fnExactJoinUptoRow : OpenClaim := { program := "ytnofbdjdlaflpaa", sum := "eb3c945cb061b7cedfc06df959e9b440986c9b441d0073551a61f7cabed34b04", func := "loop.example/dataflow/laws.FnExactJoin", spec := "fnExactJoin", unfollowed := true, recurses := true, plainKeys := false, apart := false, narrowed := true }
def FnExactJoinUptoSaid : Prop := fnExactJoinUptoRow.holds Try.pinned (OpenSpec.upto fnExactJoinSpec)

/-- 'laws.FnExactMapColumns', WHERE WHAT IT READS IS OF BULK AT MOST 1048576: true; the input reads as it did. -/
def fnExactMapColumnsUptoRow : OpenClaim := { program := "ytnofbdjdlaflpaa", sum := "eb3c945cb061b7cedfc06df959e9b440986c9b441d0073551a61f7cabed34b04", func := "loop.example/dataflow/laws.FnExactMapColumns", spec := "fnExactMapColumns", unfollowed := true, recurses := true, plainKeys := false, apart := false, narrowed := true }
def FnExactMapColumnsUptoSaid : Prop := fnExactMapColumnsUptoRow.holds Try.pinned (OpenSpec.upto fnExactMapColumnsSpec)

/-- 'laws.FnExactProjectRow', WHERE WHAT IT READS IS OF BULK AT MOST 1048576: true; the input reads as it did. -/
def fnExactProjectRowUptoRow : OpenClaim := { program := "ytnofbdjdlaflpaa", sum := "eb3c945cb061b7cedfc06df959e9b440986c9b441d0073551a61f7cabed34b04", func := "loop.example/dataflow/laws.FnExactProjectRow", spec := "fnExactProjectRow", plainKeys := false, apart := false, narrowed := true }
def FnExactProjectRowUptoSaid : Prop := fnExactProjectRowUptoRow.holds Try.pinned (OpenSpec.upto fnExactProjectRowSpec)

/-- 'laws.FnExactDeltaDistinct', WHERE WHAT IT READS IS OF BULK AT MOST 1048576: true; the input reads as it did. -/
def fnExactDeltaDistinctUptoRow : OpenClaim := { program := "ytnofbdjdlaflpaa", sum := "eb3c945cb061b7cedfc06df959e9b440986c9b441d0073551a61f7cabed34b04", func := "loop.example/dataflow/laws.FnExactDeltaDistinct", spec := "fnExactDeltaDistinct", unfollowed := true, recurses := true, plainKeys := false, apart := false, narrowed := true }
def FnExactDeltaDistinctUptoSaid : Prop := fnExactDeltaDistinctUptoRow.holds Try.pinned (OpenSpec.upto fnExactDeltaDistinctSpec)

/-- 'laws.FnExactDeltaJoin', WHERE WHAT IT READS IS OF BULK AT MOST 1048576: true; the input reads as it did. -/
def fnExactDeltaJoinUptoRow : OpenClaim := { program := "ytnofbdjdlaflpaa", sum := "eb3c945cb061b7cedfc06df959e9b440986c9b441d0073551a61f7cabed34b04", func := "loop.example/dataflow/laws.FnExactDeltaJoin", spec := "fnExactDeltaJoin", unfollowed := true, recurses := true, plainKeys := false, apart := false, narrowed := true }
def FnExactDeltaJoinUptoSaid : Prop := fnExactDeltaJoinUptoRow.holds Try.pinned (OpenSpec.upto fnExactDeltaJoinSpec)

/-- 'laws.FnExactFirstRows', WHERE WHAT IT READS IS OF BULK AT MOST 1048576: true; the input reads as it did. -/
def fnExactFirstRowsUptoRow : OpenClaim := { program := "ytnofbdjdlaflpaa", sum := "eb3c945cb061b7cedfc06df959e9b440986c9b441d0073551a61f7cabed34b04", func := "loop.example/dataflow/laws.FnExactFirstRows", spec := "fnExactFirstRows", unfollowed := true, recurses := true, plainKeys := false, apart := false, narrowed := true }
def FnExactFirstRowsUptoSaid : Prop := fnExactFirstRowsUptoRow.holds Try.pinned (OpenSpec.upto fnExactFirstRowsSpec)

end Rows
end Go.Proofs.Ytnofbdjdlaflpaa
