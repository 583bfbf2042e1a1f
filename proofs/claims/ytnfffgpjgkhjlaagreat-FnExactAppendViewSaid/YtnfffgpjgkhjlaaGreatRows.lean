/-
  No cell of these rows narrows 'for every input' (looked for: loops, veiled, ifaces, maps, wideKeys, modest, calm, conditions, laid).
  DERIVED. THE GIVEN ROWS OF THIS SEAT. 3 by the template 'for every input the law returns true; each argument reads behind the call as it read before'; 0 by the template 'total and deterministic' (their statements: YtnfffgpjgkhjlaaGreatTotals.lean).
  GIVEN WITH THE SEED: the statements are not yours to turn. If you find one false, say at which input.
  Laid BY PROGRAM, IN A SANDBOX (cutbox-rows.mjs): the forced cells as the released guide's own fill.sh prints them over the translation 91572c34d05b908e… (all of the seat's roots in one cut). By AI agents, Wed Nov 11 2026. No macro, syntax, notation, axiom, sorry.
-/
import Derived.Test.YtnfffgpjgkhjlaaGreatChecked
import GoSem.Claim
import GoSem.ClaimJoined
import GoSem.ClaimMapViews
import Derived.JoinedTies
import Derived.KernelRfl
namespace Go.Proofs.YtnfffgpjgkhjlaaGreat
/- THE CELL 'sum', in the pinned program and in every row, IS THE sha256 OF THE DUMP (.gsa) THAT YtnfffgpjgkhjlaaGreatProg.lean LOADS. Nothing in Lean hashes anything: it is a label: what it is worth is what the hold of that sum in a sandbox is worth. -/
noncomputable def Tryz.pinned : Pinned := { name := "ytnfffgpjgkhjlaagreat", sum := "91572c34d05b908ef06cf8d6151d4831ad8aab110ba451a9f64c165a719b8af6", checked := Tryz.checked }
namespace Rows
def none {H : Type} : Left H := { results := [], args := [] }

/-- 'laws.FnExactAppendView': WHATEVER THE INPUT: true; the input reads as it did. -/
def fnExactAppendViewSpec : ChangeSpec := { name := "fnExactAppendView", fn := fun _ => fun
  | [d1, d2, d3] => { results := [.lit (.bool true)], args := [d1, d2, d3] }
  | _ => none }
def fnExactAppendViewRow : OpenClaim := { program := "ytnfffgpjgkhjlaagreat", sum := "91572c34d05b908ef06cf8d6151d4831ad8aab110ba451a9f64c165a719b8af6", func := "loop.example/dataflow/laws.FnExactAppendView", spec := "fnExactAppendView", unfollowed := true, recurses := true, apart := false }
def FnExactAppendViewSaid : Prop := fnExactAppendViewRow.holds Tryz.pinned (OpenSpec.ofChange fnExactAppendViewSpec)

/-- ITS FALSE NEIGHBOUR: 'it returns false'. Refute it at one input. -/
def fnExactAppendViewWrong : ChangeSpec := { name := "fnExactAppendView", fn := fun _ => fun
  | [d1, d2, d3] => { results := [.lit (.bool false)], args := [d1, d2, d3] }
  | _ => none }
def FnExactAppendViewWrongFalsely : Prop := fnExactAppendViewRow.holds Tryz.pinned (OpenSpec.ofChange fnExactAppendViewWrong)

/-- 'laws.FnExactCompactView': WHATEVER THE INPUT: true; the input reads as it did. -/
def fnExactCompactViewSpec : ChangeSpec := { name := "fnExactCompactView", fn := fun _ => fun
  | [d1, d2] => { results := [.lit (.bool true)], args := [d1, d2] }
  | _ => none }
def fnExactCompactViewRow : OpenClaim := { program := "ytnfffgpjgkhjlaagreat", sum := "91572c34d05b908ef06cf8d6151d4831ad8aab110ba451a9f64c165a719b8af6", func := "loop.example/dataflow/laws.FnExactCompactView", spec := "fnExactCompactView", unfollowed := true, recurses := true, apart := false }
def FnExactCompactViewSaid : Prop := fnExactCompactViewRow.holds Tryz.pinned (OpenSpec.ofChange fnExactCompactViewSpec)

/-- ITS FALSE NEIGHBOUR: 'it returns false'. Refute it at one input. -/
def fnExactCompactViewWrong : ChangeSpec := { name := "fnExactCompactView", fn := fun _ => fun
  | [d1, d2] => { results := [.lit (.bool false)], args := [d1, d2] }
  | _ => none }
def FnExactCompactViewWrongFalsely : Prop := fnExactCompactViewRow.holds Tryz.pinned (OpenSpec.ofChange fnExactCompactViewWrong)

/-- 'laws.FnCompactTwice': WHATEVER THE INPUT: true; the input reads as it did. -/
def fnCompactTwiceSpec : ChangeSpec := { name := "fnCompactTwice", fn := fun _ => fun
  | [d] => { results := [.lit (.bool true)], args := [d] }
  | _ => none }
def fnCompactTwiceRow : OpenClaim := { program := "ytnfffgpjgkhjlaagreat", sum := "91572c34d05b908ef06cf8d6151d4831ad8aab110ba451a9f64c165a719b8af6", func := "loop.example/dataflow/laws.FnCompactTwice", spec := "fnCompactTwice", unfollowed := true, recurses := true, apart := false }
def FnCompactTwiceSaid : Prop := fnCompactTwiceRow.holds Tryz.pinned (OpenSpec.ofChange fnCompactTwiceSpec)

/-- ITS FALSE NEIGHBOUR: 'it returns false'. Refute it at one input. -/
def fnCompactTwiceWrong : ChangeSpec := { name := "fnCompactTwice", fn := fun _ => fun
  | [d] => { results := [.lit (.bool false)], args := [d] }
  | _ => none }
def FnCompactTwiceWrongFalsely : Prop := fnCompactTwiceRow.holds Tryz.pinned (OpenSpec.ofChange fnCompactTwiceWrong)

/- THE SECOND FORM. 'bulk': how many values and letters a reading holds, each counted each time it is reached (what is shared counts as often as it is met; a slice's spare places count too). A statement '..UptoSaid' is the law's where the arguments, and the package variables that the reading takes, are together of bulk at most 1048576: NARROWER than '..Said'. Prove '..Said' where nothing that the law and all that it calls make is longer than what came in: it says more and counts as full. Else prove '..UptoSaid'. A law counts once. -/
mutual
def uptoBulk {H : Type} : DataW H → Nat
  | .lit (.string bytes) => bytes.length + 1
  | .lit _ => 1
  | .nil => 1
  | .ptr d => uptoBulk d + 1
  | .slice elems spare => uptoBulkAll elems + uptoBulkAll spare + 1
  | .agg parts => uptoBulkAll parts + 1
  | .iface _ d => uptoBulk d + 1
  | .map entries => uptoBulkEntries entries + 1
  | .held _ => 1
def uptoBulkAll {H : Type} : List (DataW H) → Nat
  | [] => 0
  | d :: r => uptoBulk d + uptoBulkAll r
def uptoBulkEntries {H : Type} : List (Lit × DataW H) → Nat
  | [] => 0
  | x :: r => uptoBulkEntry x + uptoBulkEntries r
def uptoBulkEntry {H : Type} : Lit × DataW H → Nat
  | (.string bytes, d) => bytes.length + uptoBulk d + 1
  | (_, d) => uptoBulk d + 1
 end
def uptoSmall : (H : Type) → List (DataW H) → Bool := fun _ ds => decide (uptoBulkAll ds ≤ 1048576)
def OpenSpec.upto (s : _root_.Go.ChangeSpec) : _root_.Go.OpenSpec := { _root_.Go.OpenSpec.ofChange s with cond := some uptoSmall }

/-- 'laws.FnExactAppendView', WHERE WHAT IT READS IS OF BULK AT MOST 1048576: true; the input reads as it did. -/
def fnExactAppendViewUptoRow : OpenClaim := { program := "ytnfffgpjgkhjlaagreat", sum := "91572c34d05b908ef06cf8d6151d4831ad8aab110ba451a9f64c165a719b8af6", func := "loop.example/dataflow/laws.FnExactAppendView", spec := "fnExactAppendView", unfollowed := true, recurses := true, apart := false, narrowed := true }
def FnExactAppendViewUptoSaid : Prop := fnExactAppendViewUptoRow.holds Tryz.pinned (OpenSpec.upto fnExactAppendViewSpec)

/-- 'laws.FnExactCompactView', WHERE WHAT IT READS IS OF BULK AT MOST 1048576: true; the input reads as it did. -/
def fnExactCompactViewUptoRow : OpenClaim := { program := "ytnfffgpjgkhjlaagreat", sum := "91572c34d05b908ef06cf8d6151d4831ad8aab110ba451a9f64c165a719b8af6", func := "loop.example/dataflow/laws.FnExactCompactView", spec := "fnExactCompactView", unfollowed := true, recurses := true, apart := false, narrowed := true }
def FnExactCompactViewUptoSaid : Prop := fnExactCompactViewUptoRow.holds Tryz.pinned (OpenSpec.upto fnExactCompactViewSpec)

/-- 'laws.FnCompactTwice', WHERE WHAT IT READS IS OF BULK AT MOST 1048576: true; the input reads as it did. -/
def fnCompactTwiceUptoRow : OpenClaim := { program := "ytnfffgpjgkhjlaagreat", sum := "91572c34d05b908ef06cf8d6151d4831ad8aab110ba451a9f64c165a719b8af6", func := "loop.example/dataflow/laws.FnCompactTwice", spec := "fnCompactTwice", unfollowed := true, recurses := true, apart := false, narrowed := true }
def FnCompactTwiceUptoSaid : Prop := fnCompactTwiceUptoRow.holds Tryz.pinned (OpenSpec.upto fnCompactTwiceSpec)

end Rows
end Go.Proofs.YtnfffgpjgkhjlaaGreat
