/-
  No cell of these rows narrows 'for every input' (looked for: loops, veiled, ifaces, maps, wideKeys, modest, calm, conditions, laid).
  DERIVED. THE GIVEN ROWS OF THIS SEAT. 6 by the template 'for every input the law returns true; each argument reads behind the call as it read before'; 0 by the template 'total and deterministic' (their statements: YtjikdlldochhcabTotals.lean).
  GIVEN WITH THE SEED: the statements are not yours to turn. If you find one false, say at which input.
  Laid BY PROGRAM, IN A SANDBOX (cutbox-rows.mjs): the forced cells as the released guide's own fill.sh prints them over the translation acd95bde8e1d9f2e… (all of the seat's roots in one cut). By AI agents, Wed Nov 11 2026. No macro, syntax, notation, axiom, sorry.
-/
import Derived.Test.YtjikdlldochhcabChecked
import GoSem.Claim
import GoSem.ClaimJoined
import GoSem.ClaimMapViews
import Derived.JoinedTies
import Derived.KernelRfl
namespace Go.Proofs.Ytjikdlldochhcab
/- THE CELL 'sum', in the pinned program and in every row, IS THE sha256 OF THE DUMP (.gsa) THAT YtjikdlldochhcabProg.lean LOADS. Nothing in Lean hashes anything: it is a label: what it is worth is what the hold of that sum in a sandbox is worth. -/
noncomputable def Try.pinned : Pinned := { name := "ytjikdlldochhcab", sum := "acd95bde8e1d9f2ea54b4de887054f1036a63e5ca6e091108c7ee50216014558", checked := Try.checked }
namespace Rows
def none {H : Type} : Left H := { results := [], args := [] }

/-- 'laws.FnExactShardOf': WHATEVER THE INPUT: true; the input reads as it did. -/
def fnExactShardOfSpec : ChangeSpec := { name := "fnExactShardOf", fn := fun _ => fun
  | [d1, d2, d3] => { results := [.lit (.bool true)], args := [d1, d2, d3] }
  | _ => none }
def fnExactShardOfRow : OpenClaim := { program := "ytjikdlldochhcab", sum := "acd95bde8e1d9f2ea54b4de887054f1036a63e5ca6e091108c7ee50216014558", func := "loop.example/dataflow/laws.FnExactShardOf", spec := "fnExactShardOf", apart := false }
def FnExactShardOfSaid : Prop := fnExactShardOfRow.holds Try.pinned (OpenSpec.ofChange fnExactShardOfSpec)

/-- ITS FALSE NEIGHBOUR: 'it returns false'. Refute it at one input. -/
def fnExactShardOfWrong : ChangeSpec := { name := "fnExactShardOf", fn := fun _ => fun
  | [d1, d2, d3] => { results := [.lit (.bool false)], args := [d1, d2, d3] }
  | _ => none }
def FnExactShardOfWrongFalsely : Prop := fnExactShardOfRow.holds Try.pinned (OpenSpec.ofChange fnExactShardOfWrong)

/-- 'laws.FnExactShards': WHATEVER THE INPUT: true; the input reads as it did. -/
def fnExactShardsSpec : ChangeSpec := { name := "fnExactShards", fn := fun _ => fun
  | [d1, d2, d3] => { results := [.lit (.bool true)], args := [d1, d2, d3] }
  | _ => none }
def fnExactShardsRow : OpenClaim := { program := "ytjikdlldochhcab", sum := "acd95bde8e1d9f2ea54b4de887054f1036a63e5ca6e091108c7ee50216014558", func := "loop.example/dataflow/laws.FnExactShards", spec := "fnExactShards", unfollowed := true, recurses := true, apart := false }
def FnExactShardsSaid : Prop := fnExactShardsRow.holds Try.pinned (OpenSpec.ofChange fnExactShardsSpec)

/-- ITS FALSE NEIGHBOUR: 'it returns false'. Refute it at one input. -/
def fnExactShardsWrong : ChangeSpec := { name := "fnExactShards", fn := fun _ => fun
  | [d1, d2, d3] => { results := [.lit (.bool false)], args := [d1, d2, d3] }
  | _ => none }
def FnExactShardsWrongFalsely : Prop := fnExactShardsRow.holds Try.pinned (OpenSpec.ofChange fnExactShardsWrong)

/-- 'laws.FnExactGather': WHATEVER THE INPUT: true; the input reads as it did. -/
def fnExactGatherSpec : ChangeSpec := { name := "fnExactGather", fn := fun _ => fun
  | [d] => { results := [.lit (.bool true)], args := [d] }
  | _ => none }
def fnExactGatherRow : OpenClaim := { program := "ytjikdlldochhcab", sum := "acd95bde8e1d9f2ea54b4de887054f1036a63e5ca6e091108c7ee50216014558", func := "loop.example/dataflow/laws.FnExactGather", spec := "fnExactGather", unfollowed := true, recurses := true, apart := false }
def FnExactGatherSaid : Prop := fnExactGatherRow.holds Try.pinned (OpenSpec.ofChange fnExactGatherSpec)

/-- ITS FALSE NEIGHBOUR: 'it returns false'. Refute it at one input. -/
def fnExactGatherWrong : ChangeSpec := { name := "fnExactGather", fn := fun _ => fun
  | [d] => { results := [.lit (.bool false)], args := [d] }
  | _ => none }
def FnExactGatherWrongFalsely : Prop := fnExactGatherRow.holds Try.pinned (OpenSpec.ofChange fnExactGatherWrong)

/-- 'laws.FnShardOf': WHATEVER THE INPUT: true; the input reads as it did. -/
def fnShardOfSpec : ChangeSpec := { name := "fnShardOf", fn := fun _ => fun
  | [d] => { results := [.lit (.bool true)], args := [d] }
  | _ => none }
def fnShardOfRow : OpenClaim := { program := "ytjikdlldochhcab", sum := "acd95bde8e1d9f2ea54b4de887054f1036a63e5ca6e091108c7ee50216014558", func := "loop.example/dataflow/laws.FnShardOf", spec := "fnShardOf", apart := false }
def FnShardOfSaid : Prop := fnShardOfRow.holds Try.pinned (OpenSpec.ofChange fnShardOfSpec)

/-- ITS FALSE NEIGHBOUR: 'it returns false'. Refute it at one input. -/
def fnShardOfWrong : ChangeSpec := { name := "fnShardOf", fn := fun _ => fun
  | [d] => { results := [.lit (.bool false)], args := [d] }
  | _ => none }
def FnShardOfWrongFalsely : Prop := fnShardOfRow.holds Try.pinned (OpenSpec.ofChange fnShardOfWrong)

/-- 'laws.FnShards': WHATEVER THE INPUT: true; the input reads as it did. -/
def fnShardsSpec : ChangeSpec := { name := "fnShards", fn := fun _ => fun
  | [d] => { results := [.lit (.bool true)], args := [d] }
  | _ => none }
def fnShardsRow : OpenClaim := { program := "ytjikdlldochhcab", sum := "acd95bde8e1d9f2ea54b4de887054f1036a63e5ca6e091108c7ee50216014558", func := "loop.example/dataflow/laws.FnShards", spec := "fnShards", unfollowed := true, recurses := true, apart := false }
def FnShardsSaid : Prop := fnShardsRow.holds Try.pinned (OpenSpec.ofChange fnShardsSpec)

/-- ITS FALSE NEIGHBOUR: 'it returns false'. Refute it at one input. -/
def fnShardsWrong : ChangeSpec := { name := "fnShards", fn := fun _ => fun
  | [d] => { results := [.lit (.bool false)], args := [d] }
  | _ => none }
def FnShardsWrongFalsely : Prop := fnShardsRow.holds Try.pinned (OpenSpec.ofChange fnShardsWrong)

/-- 'laws.FnGather': WHATEVER THE INPUT: true; the input reads as it did. -/
def fnGatherSpec : ChangeSpec := { name := "fnGather", fn := fun _ => fun
  | [d1, d2] => { results := [.lit (.bool true)], args := [d1, d2] }
  | _ => none }
def fnGatherRow : OpenClaim := { program := "ytjikdlldochhcab", sum := "acd95bde8e1d9f2ea54b4de887054f1036a63e5ca6e091108c7ee50216014558", func := "loop.example/dataflow/laws.FnGather", spec := "fnGather", unfollowed := true, recurses := true, apart := false }
def FnGatherSaid : Prop := fnGatherRow.holds Try.pinned (OpenSpec.ofChange fnGatherSpec)

/-- ITS FALSE NEIGHBOUR: 'it returns false'. Refute it at one input. -/
def fnGatherWrong : ChangeSpec := { name := "fnGather", fn := fun _ => fun
  | [d1, d2] => { results := [.lit (.bool false)], args := [d1, d2] }
  | _ => none }
def FnGatherWrongFalsely : Prop := fnGatherRow.holds Try.pinned (OpenSpec.ofChange fnGatherWrong)

/- THE SECOND FORM. 'bulk': how many values and letters a reading holds, each counted each time it is reached (what is shared counts as often as it is met; a slice's spare places count too). A statement '..UptoSaid' is the law's where the arguments, and the package variables that the reading takes, are together of bulk at most 1048576: NARROWER than '..Said'. Prove '..Said' where nothing that the law and all that it calls make is longer than what came in: it says more and counts as full. Else prove '..UptoSaid'. A law counts once. -/
mutual
def uptoBulk {H : Type} : DataW H → Nat
  | .lit (.string bytes) => bytes.length + 1
  | .lit _ => 1
  | .nil => 1
  | .ptr d => uptoBulk d + 1
  | .slice elems spare => uptoBulkAll elems + uptoBulkAll spare + 1
  | .agg parts => uptoBulkAll parts + 1
  | .iface _ d => uptoBulk d + 1
  | .map entries => uptoBulkEntries entries + 1
  | .held _ => 1
def uptoBulkAll {H : Type} : List (DataW H) → Nat
  | [] => 0
  | d :: r => uptoBulk d + uptoBulkAll r
def uptoBulkEntries {H : Type} : List (Lit × DataW H) → Nat
  | [] => 0
  | x :: r => uptoBulkEntry x + uptoBulkEntries r
def uptoBulkEntry {H : Type} : Lit × DataW H → Nat
  | (.string bytes, d) => bytes.length + uptoBulk d + 1
  | (_, d) => uptoBulk d + 1
 end
def uptoSmall : (H : Type) → List (DataW H) → Bool := fun _ ds => decide (uptoBulkAll ds ≤ 1048576)
def OpenSpec.upto (s : _root_.Go.ChangeSpec) : _root_.Go.OpenSpec := { _root_.Go.OpenSpec.ofChange s with cond := some uptoSmall }

/-- 'laws.FnExactShardOf', WHERE WHAT IT READS IS OF BULK AT MOST 1048576: true; the input reads as it did. -/
def fnExactShardOfUptoRow : OpenClaim := { program := "ytjikdlldochhcab", sum := "acd95bde8e1d9f2ea54b4de887054f1036a63e5ca6e091108c7ee50216014558", func := "loop.example/dataflow/laws.FnExactShardOf", spec := "fnExactShardOf", apart := false, narrowed := true }
def FnExactShardOfUptoSaid : Prop := fnExactShardOfUptoRow.holds Try.pinned (OpenSpec.upto fnExactShardOfSpec)

/-- 'laws.FnExactShards', WHERE WHAT IT READS IS OF BULK AT MOST 1048576: true; the input reads as it did. -/
def fnExactShardsUptoRow : OpenClaim := { program := "ytjikdlldochhcab", sum := "acd95bde8e1d9f2ea54b4de887054f1036a63e5ca6e091108c7ee50216014558", func := "loop.example/dataflow/laws.FnExactShards", spec := "fnExactShards", unfollowed := true, recurses := true, apart := false, narrowed := true }
def FnExactShardsUptoSaid : Prop := fnExactShardsUptoRow.holds Try.pinned (OpenSpec.upto fnExactShardsSpec)

/-- 'laws.FnExactGather', WHERE WHAT IT READS IS OF BULK AT MOST 1048576: true; the input reads as it did. -/
def fnExactGatherUptoRow : OpenClaim := { program := "ytjikdlldochhcab", sum := "acd95bde8e1d9f2ea54b4de887054f1036a63e5ca6e091108c7ee50216014558", func := "loop.example/dataflow/laws.FnExactGather", spec := "fnExactGather", unfollowed := true, recurses := true, apart := false, narrowed := true }
def FnExactGatherUptoSaid : Prop := fnExactGatherUptoRow.holds Try.pinned (OpenSpec.upto fnExactGatherSpec)

/-- 'laws.FnShardOf', WHERE WHAT IT READS IS OF BULK AT MOST 1048576: true; the input reads as it did. -/
def fnShardOfUptoRow : OpenClaim := { program := "ytjikdlldochhcab", sum := "acd95bde8e1d9f2ea54b4de887054f1036a63e5ca6e091108c7ee50216014558", func := "loop.example/dataflow/laws.FnShardOf", spec := "fnShardOf", apart := false, narrowed := true }
def FnShardOfUptoSaid : Prop := fnShardOfUptoRow.holds Try.pinned (OpenSpec.upto fnShardOfSpec)

/-- 'laws.FnShards', WHERE WHAT IT READS IS OF BULK AT MOST 1048576: true; the input reads as it did. -/
def fnShardsUptoRow : OpenClaim := { program := "ytjikdlldochhcab", sum := "acd95bde8e1d9f2ea54b4de887054f1036a63e5ca6e091108c7ee50216014558", func := "loop.example/dataflow/laws.FnShards", spec := "fnShards", unfollowed := true, recurses := true, apart := false, narrowed := true }
def FnShardsUptoSaid : Prop := fnShardsUptoRow.holds Try.pinned (OpenSpec.upto fnShardsSpec)

/-- 'laws.FnGather', WHERE WHAT IT READS IS OF BULK AT MOST 1048576: true; the input reads as it did. -/
def fnGatherUptoRow : OpenClaim := { program := "ytjikdlldochhcab", sum := "acd95bde8e1d9f2ea54b4de887054f1036a63e5ca6e091108c7ee50216014558", func := "loop.example/dataflow/laws.FnGather", spec := "fnGather", unfollowed := true, recurses := true, apart := false, narrowed := true }
def FnGatherUptoSaid : Prop := fnGatherUptoRow.holds Try.pinned (OpenSpec.upto fnGatherSpec)

end Rows
end Go.Proofs.Ytjikdlldochhcab
