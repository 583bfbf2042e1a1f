/-
  No cell of these rows narrows 'for every input' (looked for: loops, veiled, ifaces, maps, wideKeys, modest, calm, conditions, laid).
  DERIVED. THE GIVEN ROWS OF THIS SEAT. 6 by the template 'for every input the law returns true; each argument reads behind the call as it read before'; 0 by the template 'total and deterministic' (their statements: YtifjenleoagefaaTotals.lean).
  GIVEN WITH THE SEED: the statements are not yours to turn. If you find one false, say at which input.
  Laid BY PROGRAM, IN A SANDBOX (cutbox-rows.mjs): the forced cells as the released guide's own fill.sh prints them over the translation d8279d598e5bcdd4… (all of the seat's roots in one cut). By AI agents, Wed Nov 11 2026. No macro, syntax, notation, axiom, sorry.
-/
import Derived.Test.YtifjenleoagefaaChecked
import GoSem.Claim
import GoSem.ClaimJoined
import GoSem.ClaimMapViews
import Derived.JoinedTies
import Derived.KernelRfl
namespace Go.Proofs.Ytifjenleoagefaa
/- THE CELL 'sum', in the pinned program and in every row, IS THE sha256 OF THE DUMP (.gsa) THAT YtifjenleoagefaaProg.lean LOADS. Nothing in Lean hashes anything: it is a label: what it is worth is what the hold of that sum in a sandbox is worth. -/
noncomputable def Try.pinned : Pinned := { name := "ytifjenleoagefaa", sum := "d8279d598e5bcdd4c824720aee32c2ed19f3e2d91dbe5e4070f52971954d6eac", checked := Try.checked }
namespace Rows
def none {H : Type} : Left H := { results := [], args := [] }

/-- 'laws.FnExactCertifyPath': WHATEVER THE INPUT: true; the input reads as it did. -/
def fnExactCertifyPathSpec : ChangeSpec := { name := "fnExactCertifyPath", fn := fun _ => fun
  | [d1, d2, d3] => { results := [.lit (.bool true)], args := [d1, d2, d3] }
  | _ => none }
def fnExactCertifyPathRow : OpenClaim := { program := "ytifjenleoagefaa", sum := "d8279d598e5bcdd4c824720aee32c2ed19f3e2d91dbe5e4070f52971954d6eac", func := "loop.example/dataflow/laws.FnExactCertifyPath", spec := "fnExactCertifyPath", unfollowed := true, recurses := true, apart := false }
def FnExactCertifyPathSaid : Prop := fnExactCertifyPathRow.holds Try.pinned (OpenSpec.ofChange fnExactCertifyPathSpec)

/-- ITS FALSE NEIGHBOUR: 'it returns false'. Refute it at one input. -/
def fnExactCertifyPathWrong : ChangeSpec := { name := "fnExactCertifyPath", fn := fun _ => fun
  | [d1, d2, d3] => { results := [.lit (.bool false)], args := [d1, d2, d3] }
  | _ => none }
def FnExactCertifyPathWrongFalsely : Prop := fnExactCertifyPathRow.holds Try.pinned (OpenSpec.ofChange fnExactCertifyPathWrong)

/-- 'laws.FnExactCheckClosure': WHATEVER THE INPUT: true; the input reads as it did. -/
def fnExactCheckClosureSpec : ChangeSpec := { name := "fnExactCheckClosure", fn := fun _ => fun
  | [d1, d2] => { results := [.lit (.bool true)], args := [d1, d2] }
  | _ => none }
def fnExactCheckClosureRow : OpenClaim := { program := "ytifjenleoagefaa", sum := "d8279d598e5bcdd4c824720aee32c2ed19f3e2d91dbe5e4070f52971954d6eac", func := "loop.example/dataflow/laws.FnExactCheckClosure", spec := "fnExactCheckClosure", unfollowed := true, recurses := true, apart := false }
def FnExactCheckClosureSaid : Prop := fnExactCheckClosureRow.holds Try.pinned (OpenSpec.ofChange fnExactCheckClosureSpec)

/-- ITS FALSE NEIGHBOUR: 'it returns false'. Refute it at one input. -/
def fnExactCheckClosureWrong : ChangeSpec := { name := "fnExactCheckClosure", fn := fun _ => fun
  | [d1, d2] => { results := [.lit (.bool false)], args := [d1, d2] }
  | _ => none }
def FnExactCheckClosureWrongFalsely : Prop := fnExactCheckClosureRow.holds Try.pinned (OpenSpec.ofChange fnExactCheckClosureWrong)

/-- 'laws.FnHopsTriangle': WHATEVER THE INPUT: true; the input reads as it did. -/
def fnHopsTriangleSpec : ChangeSpec := { name := "fnHopsTriangle", fn := fun _ => fun
  | [d] => { results := [.lit (.bool true)], args := [d] }
  | _ => none }
def fnHopsTriangleRow : OpenClaim := { program := "ytifjenleoagefaa", sum := "d8279d598e5bcdd4c824720aee32c2ed19f3e2d91dbe5e4070f52971954d6eac", func := "loop.example/dataflow/laws.FnHopsTriangle", spec := "fnHopsTriangle", unfollowed := true, recurses := true, apart := false }
def FnHopsTriangleSaid : Prop := fnHopsTriangleRow.holds Try.pinned (OpenSpec.ofChange fnHopsTriangleSpec)

/-- ITS FALSE NEIGHBOUR: 'it returns false'. Refute it at one input. -/
def fnHopsTriangleWrong : ChangeSpec := { name := "fnHopsTriangle", fn := fun _ => fun
  | [d] => { results := [.lit (.bool false)], args := [d] }
  | _ => none }
def FnHopsTriangleWrongFalsely : Prop := fnHopsTriangleRow.holds Try.pinned (OpenSpec.ofChange fnHopsTriangleWrong)

/-- 'laws.FnCertifyPath': WHATEVER THE INPUT: true; the input reads as it did. -/
def fnCertifyPathSpec : ChangeSpec := { name := "fnCertifyPath", fn := fun _ => fun
  | [d] => { results := [.lit (.bool true)], args := [d] }
  | _ => none }
def fnCertifyPathRow : OpenClaim := { program := "ytifjenleoagefaa", sum := "d8279d598e5bcdd4c824720aee32c2ed19f3e2d91dbe5e4070f52971954d6eac", func := "loop.example/dataflow/laws.FnCertifyPath", spec := "fnCertifyPath", unfollowed := true, recurses := true, apart := false }
def FnCertifyPathSaid : Prop := fnCertifyPathRow.holds Try.pinned (OpenSpec.ofChange fnCertifyPathSpec)

/-- ITS FALSE NEIGHBOUR: 'it returns false'. Refute it at one input. -/
def fnCertifyPathWrong : ChangeSpec := { name := "fnCertifyPath", fn := fun _ => fun
  | [d] => { results := [.lit (.bool false)], args := [d] }
  | _ => none }
def FnCertifyPathWrongFalsely : Prop := fnCertifyPathRow.holds Try.pinned (OpenSpec.ofChange fnCertifyPathWrong)

/-- 'laws.FnCheckPath': WHATEVER THE INPUT: true; the input reads as it did. -/
def fnCheckPathSpec : ChangeSpec := { name := "fnCheckPath", fn := fun _ => fun
  | [d] => { results := [.lit (.bool true)], args := [d] }
  | _ => none }
def fnCheckPathRow : OpenClaim := { program := "ytifjenleoagefaa", sum := "d8279d598e5bcdd4c824720aee32c2ed19f3e2d91dbe5e4070f52971954d6eac", func := "loop.example/dataflow/laws.FnCheckPath", spec := "fnCheckPath", unfollowed := true, recurses := true, apart := false }
def FnCheckPathSaid : Prop := fnCheckPathRow.holds Try.pinned (OpenSpec.ofChange fnCheckPathSpec)

/-- ITS FALSE NEIGHBOUR: 'it returns false'. Refute it at one input. -/
def fnCheckPathWrong : ChangeSpec := { name := "fnCheckPath", fn := fun _ => fun
  | [d] => { results := [.lit (.bool false)], args := [d] }
  | _ => none }
def FnCheckPathWrongFalsely : Prop := fnCheckPathRow.holds Try.pinned (OpenSpec.ofChange fnCheckPathWrong)

/-- 'laws.FnCheckClosure': WHATEVER THE INPUT: true; the input reads as it did. -/
def fnCheckClosureSpec : ChangeSpec := { name := "fnCheckClosure", fn := fun _ => fun
  | [d] => { results := [.lit (.bool true)], args := [d] }
  | _ => none }
def fnCheckClosureRow : OpenClaim := { program := "ytifjenleoagefaa", sum := "d8279d598e5bcdd4c824720aee32c2ed19f3e2d91dbe5e4070f52971954d6eac", func := "loop.example/dataflow/laws.FnCheckClosure", spec := "fnCheckClosure", unfollowed := true, recurses := true, apart := false }
def FnCheckClosureSaid : Prop := fnCheckClosureRow.holds Try.pinned (OpenSpec.ofChange fnCheckClosureSpec)

/-- ITS FALSE NEIGHBOUR: 'it returns false'. Refute it at one input. -/
def fnCheckClosureWrong : ChangeSpec := { name := "fnCheckClosure", fn := fun _ => fun
  | [d] => { results := [.lit (.bool false)], args := [d] }
  | _ => none }
def FnCheckClosureWrongFalsely : Prop := fnCheckClosureRow.holds Try.pinned (OpenSpec.ofChange fnCheckClosureWrong)

/- THE SECOND FORM. 'bulk': how many values and letters a reading holds, each counted each time it is reached (what is shared counts as often as it is met; a slice's spare places count too). A statement '..UptoSaid' is the law's where the arguments, and the package variables that the reading takes, are together of bulk at most 1048576: NARROWER than '..Said'. Prove '..Said' where nothing that the law and all that it calls make is longer than what came in: it says more and counts as full. Else prove '..UptoSaid'. A law counts once. -/
mutual
def uptoBulk {H : Type} : DataW H → Nat
  | .lit (.string bytes) => bytes.length + 1
  | .lit _ => 1
  | .nil => 1
  | .ptr d => uptoBulk d + 1
  | .slice elems spare => uptoBulkAll elems + uptoBulkAll spare + 1
  | .agg parts => uptoBulkAll parts + 1
  | .iface _ d => uptoBulk d + 1
  | .map entries => uptoBulkEntries entries + 1
  | .held _ => 1
def uptoBulkAll {H : Type} : List (DataW H) → Nat
  | [] => 0
  | d :: r => uptoBulk d + uptoBulkAll r
def uptoBulkEntries {H : Type} : List (Lit × DataW H) → Nat
  | [] => 0
  | x :: r => uptoBulkEntry x + uptoBulkEntries r
def uptoBulkEntry {H : Type} : Lit × DataW H → Nat
  | (.string bytes, d) => bytes.length + uptoBulk d + 1
  | (_, d) => uptoBulk d + 1
 end
def uptoSmall : (H : Type) → List (DataW H) → Bool := fun _ ds => decide (uptoBulkAll ds ≤ 1048576)
def OpenSpec.upto (s : _root_.Go.ChangeSpec) : _root_.Go.OpenSpec := { _root_.Go.OpenSpec.ofChange s with cond := some uptoSmall }

/-- 'laws.FnExactCertifyPath', WHERE WHAT IT READS IS OF BULK AT MOST 1048576: true; the input reads as it did. -/
def fnExactCertifyPathUptoRow : OpenClaim := { program := "ytifjenleoagefaa", sum := "d8279d598e5bcdd4c824720aee32c2ed19f3e2d91dbe5e4070f52971954d6eac", func := "loop.example/dataflow/laws.FnExactCertifyPath", spec := "fnExactCertifyPath", unfollowed := true, recurses := true, apart := false, narrowed := true }
def FnExactCertifyPathUptoSaid : Prop := fnExactCertifyPathUptoRow.holds Try.pinned (OpenSpec.upto fnExactCertifyPathSpec)

/-- 'laws.FnExactCheckClosure', WHERE WHAT IT READS IS OF BULK AT MOST 1048576: true; the input reads as it did. -/
def fnExactCheckClosureUptoRow : OpenClaim := { program := "ytifjenleoagefaa", sum := "d8279d598e5bcdd4c824720aee32c2ed19f3e2d91dbe5e4070f52971954d6eac", func := "loop.example/dataflow/laws.FnExactCheckClosure", spec := "fnExactCheckClosure", unfollowed := true, recurses := true, apart := false, narrowed := true }
def FnExactCheckClosureUptoSaid : Prop := fnExactCheckClosureUptoRow.holds Try.pinned (OpenSpec.upto fnExactCheckClosureSpec)

/-- 'laws.FnHopsTriangle', WHERE WHAT IT READS IS OF BULK AT MOST 1048576: true; the input reads as it did. -/
def fnHopsTriangleUptoRow : OpenClaim := { program := "ytifjenleoagefaa", sum := "d8279d598e5bcdd4c824720aee32c2ed19f3e2d91dbe5e4070f52971954d6eac", func := "loop.example/dataflow/laws.FnHopsTriangle", spec := "fnHopsTriangle", unfollowed := true, recurses := true, apart := false, narrowed := true }
def FnHopsTriangleUptoSaid : Prop := fnHopsTriangleUptoRow.holds Try.pinned (OpenSpec.upto fnHopsTriangleSpec)

/-- 'laws.FnCertifyPath', WHERE WHAT IT READS IS OF BULK AT MOST 1048576: true; the input reads as it did. -/
def fnCertifyPathUptoRow : OpenClaim := { program := "ytifjenleoagefaa", sum := "d8279d598e5bcdd4c824720aee32c2ed19f3e2d91dbe5e4070f52971954d6eac", func := "loop.example/dataflow/laws.FnCertifyPath", spec := "fnCertifyPath", unfollowed := true, recurses := true, apart := false, narrowed := true }
def FnCertifyPathUptoSaid : Prop := fnCertifyPathUptoRow.holds Try.pinned (OpenSpec.upto fnCertifyPathSpec)

/-- 'laws.FnCheckPath', WHERE WHAT IT READS IS OF BULK AT MOST 1048576: true; the input reads as it did. -/
def fnCheckPathUptoRow : OpenClaim := { program := "ytifjenleoagefaa", sum := "d8279d598e5bcdd4c824720aee32c2ed19f3e2d91dbe5e4070f52971954d6eac", func := "loop.example/dataflow/laws.FnCheckPath", spec := "fnCheckPath", unfollowed := true, recurses := true, apart := false, narrowed := true }
def FnCheckPathUptoSaid : Prop := fnCheckPathUptoRow.holds Try.pinned (OpenSpec.upto fnCheckPathSpec)

/-- 'laws.FnCheckClosure', WHERE WHAT IT READS IS OF BULK AT MOST 1048576: true; the input reads as it did. -/
def fnCheckClosureUptoRow : OpenClaim := { program := "ytifjenleoagefaa", sum := "d8279d598e5bcdd4c824720aee32c2ed19f3e2d91dbe5e4070f52971954d6eac", func := "loop.example/dataflow/laws.FnCheckClosure", spec := "fnCheckClosure", unfollowed := true, recurses := true, apart := false, narrowed := true }
def FnCheckClosureUptoSaid : Prop := fnCheckClosureUptoRow.holds Try.pinned (OpenSpec.upto fnCheckClosureSpec)

end Rows
end Go.Proofs.Ytifjenleoagefaa
