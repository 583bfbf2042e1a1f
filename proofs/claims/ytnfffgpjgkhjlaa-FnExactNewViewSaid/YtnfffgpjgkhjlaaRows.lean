/-
  No cell of these rows narrows 'for every input' (looked for: loops, veiled, ifaces, maps, wideKeys, modest, calm, conditions, laid).
  DERIVED. THE GIVEN ROWS OF THIS SEAT. 3 by the template 'for every input the law returns true; each argument reads behind the call as it read before'; 0 by the template 'total and deterministic' (their statements: YtnfffgpjgkhjlaaTotals.lean).
  GIVEN WITH THE SEED: the statements are not yours to turn. If you find one false, say at which input.
  Laid BY PROGRAM, IN A SANDBOX (cutbox-rows.mjs): the forced cells as the released guide's own fill.sh prints them over the translation 743c4f96ed62e96a… (all of the seat's roots in one cut). By AI agents, Wed Nov 11 2026. No macro, syntax, notation, axiom, sorry.
-/
import Derived.Test.YtnfffgpjgkhjlaaChecked
import GoSem.Claim
import GoSem.ClaimJoined
import GoSem.ClaimMapViews
import Derived.JoinedTies
import Derived.KernelRfl
namespace Go.Proofs.Ytnfffgpjgkhjlaa
/- THE CELL 'sum', in the pinned program and in every row, IS THE sha256 OF THE DUMP (.gsa) THAT YtnfffgpjgkhjlaaProg.lean LOADS. Nothing in Lean hashes anything: it is a label: what it is worth is what the hold of that sum in a sandbox is worth. -/
noncomputable def Try.pinned : Pinned := { name := "ytnfffgpjgkhjlaa", sum := "743c4f96ed62e96a04a218f56233c2b218c715ec2dc2ef4838cdfda5f172b710", checked := Try.checked }
namespace Rows
def none {H : Type} : Left H := { results := [], args := [] }

/-- 'laws.FnExactValidView': WHATEVER THE INPUT: true; the input reads as it did. -/
def fnExactValidViewSpec : ChangeSpec := { name := "fnExactValidView", fn := fun _ => fun
  | [d] => { results := [.lit (.bool true)], args := [d] }
  | _ => none }
def fnExactValidViewRow : OpenClaim := { program := "ytnfffgpjgkhjlaa", sum := "743c4f96ed62e96a04a218f56233c2b218c715ec2dc2ef4838cdfda5f172b710", func := "loop.example/dataflow/laws.FnExactValidView", spec := "fnExactValidView", unfollowed := true, recurses := true, apart := false }
def FnExactValidViewSaid : Prop := fnExactValidViewRow.holds Try.pinned (OpenSpec.ofChange fnExactValidViewSpec)

/-- ITS FALSE NEIGHBOUR: 'it returns false'. Refute it at one input. -/
def fnExactValidViewWrong : ChangeSpec := { name := "fnExactValidView", fn := fun _ => fun
  | [d] => { results := [.lit (.bool false)], args := [d] }
  | _ => none }
def FnExactValidViewWrongFalsely : Prop := fnExactValidViewRow.holds Try.pinned (OpenSpec.ofChange fnExactValidViewWrong)

/-- 'laws.FnExactNewView': WHATEVER THE INPUT: true; the input reads as it did. -/
def fnExactNewViewSpec : ChangeSpec := { name := "fnExactNewView", fn := fun _ => fun
  | [] => { results := [.lit (.bool true)], args := [] }
  | _ => none }
def fnExactNewViewRow : OpenClaim := { program := "ytnfffgpjgkhjlaa", sum := "743c4f96ed62e96a04a218f56233c2b218c715ec2dc2ef4838cdfda5f172b710", func := "loop.example/dataflow/laws.FnExactNewView", spec := "fnExactNewView", apart := false }
def FnExactNewViewSaid : Prop := fnExactNewViewRow.holds Try.pinned (OpenSpec.ofChange fnExactNewViewSpec)

/-- ITS FALSE NEIGHBOUR: 'it returns false'. Refute it at one input. -/
def fnExactNewViewWrong : ChangeSpec := { name := "fnExactNewView", fn := fun _ => fun
  | [] => { results := [.lit (.bool false)], args := [] }
  | _ => none }
def FnExactNewViewWrongFalsely : Prop := fnExactNewViewRow.holds Try.pinned (OpenSpec.ofChange fnExactNewViewWrong)

/-- 'laws.FnAppendTwice': WHATEVER THE INPUT: true; the input reads as it did. -/
def fnAppendTwiceSpec : ChangeSpec := { name := "fnAppendTwice", fn := fun _ => fun
  | [d] => { results := [.lit (.bool true)], args := [d] }
  | _ => none }
def fnAppendTwiceRow : OpenClaim := { program := "ytnfffgpjgkhjlaa", sum := "743c4f96ed62e96a04a218f56233c2b218c715ec2dc2ef4838cdfda5f172b710", func := "loop.example/dataflow/laws.FnAppendTwice", spec := "fnAppendTwice", unfollowed := true, recurses := true, apart := false }
def FnAppendTwiceSaid : Prop := fnAppendTwiceRow.holds Try.pinned (OpenSpec.ofChange fnAppendTwiceSpec)

/-- ITS FALSE NEIGHBOUR: 'it returns false'. Refute it at one input. -/
def fnAppendTwiceWrong : ChangeSpec := { name := "fnAppendTwice", fn := fun _ => fun
  | [d] => { results := [.lit (.bool false)], args := [d] }
  | _ => none }
def FnAppendTwiceWrongFalsely : Prop := fnAppendTwiceRow.holds Try.pinned (OpenSpec.ofChange fnAppendTwiceWrong)

/- THE SECOND FORM. 'bulk': how many values and letters a reading holds, each counted each time it is reached (what is shared counts as often as it is met; a slice's spare places count too). A statement '..UptoSaid' is the law's where the arguments, and the package variables that the reading takes, are together of bulk at most 1048576: NARROWER than '..Said'. Prove '..Said' where nothing that the law and all that it calls make is longer than what came in: it says more and counts as full. Else prove '..UptoSaid'. A law counts once. -/
mutual
def uptoBulk {H : Type} : DataW H → Nat
  | .lit (.string bytes) => bytes.length + 1
  | .lit _ => 1
  | .nil => 1
  | .ptr d => uptoBulk d + 1
  | .slice elems spare => uptoBulkAll elems + uptoBulkAll spare + 1
  | .agg parts => uptoBulkAll parts + 1
  | .iface _ d => uptoBulk d + 1
  | .map entries => uptoBulkEntries entries + 1
  | .held _ => 1
def uptoBulkAll {H : Type} : List (DataW H) → Nat
  | [] => 0
  | d :: r => uptoBulk d + uptoBulkAll r
def uptoBulkEntries {H : Type} : List (Lit × DataW H) → Nat
  | [] => 0
  | x :: r => uptoBulkEntry x + uptoBulkEntries r
def uptoBulkEntry {H : Type} : Lit × DataW H → Nat
  | (.string bytes, d) => bytes.length + uptoBulk d + 1
  | (_, d) => uptoBulk d + 1
 end
def uptoSmall : (H : Type) → List (DataW H) → Bool := fun _ ds => decide (uptoBulkAll ds ≤ 1048576)
def OpenSpec.upto (s : _root_.Go.ChangeSpec) : _root_.Go.OpenSpec := { _root_.Go.OpenSpec.ofChange s with cond := some uptoSmall }

/-- 'laws.FnExactValidView', WHERE WHAT IT READS IS OF BULK AT MOST 1048576: true; the input reads as it did. -/
def fnExactValidViewUptoRow : OpenClaim := { program := "ytnfffgpjgkhjlaa", sum := "743c4f96ed62e96a04a218f56233c2b218c715ec2dc2ef4838cdfda5f172b710", func := "loop.example/dataflow/laws.FnExactValidView", spec := "fnExactValidView", unfollowed := true, recurses := true, apart := false, narrowed := true }
def FnExactValidViewUptoSaid : Prop := fnExactValidViewUptoRow.holds Try.pinned (OpenSpec.upto fnExactValidViewSpec)

/-- 'laws.FnExactNewView', WHERE WHAT IT READS IS OF BULK AT MOST 1048576: true; the input reads as it did. -/
def fnExactNewViewUptoRow : OpenClaim := { program := "ytnfffgpjgkhjlaa", sum := "743c4f96ed62e96a04a218f56233c2b218c715ec2dc2ef4838cdfda5f172b710", func := "loop.example/dataflow/laws.FnExactNewView", spec := "fnExactNewView", apart := false, narrowed := true }
def FnExactNewViewUptoSaid : Prop := fnExactNewViewUptoRow.holds Try.pinned (OpenSpec.upto fnExactNewViewSpec)

/-- 'laws.FnAppendTwice', WHERE WHAT IT READS IS OF BULK AT MOST 1048576: true; the input reads as it did. -/
def fnAppendTwiceUptoRow : OpenClaim := { program := "ytnfffgpjgkhjlaa", sum := "743c4f96ed62e96a04a218f56233c2b218c715ec2dc2ef4838cdfda5f172b710", func := "loop.example/dataflow/laws.FnAppendTwice", spec := "fnAppendTwice", unfollowed := true, recurses := true, apart := false, narrowed := true }
def FnAppendTwiceUptoSaid : Prop := fnAppendTwiceUptoRow.holds Try.pinned (OpenSpec.upto fnAppendTwiceSpec)

end Rows
end Go.Proofs.Ytnfffgpjgkhjlaa
