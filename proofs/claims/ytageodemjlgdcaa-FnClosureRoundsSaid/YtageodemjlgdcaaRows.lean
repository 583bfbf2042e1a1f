/-
  No cell of these rows narrows 'for every input' (looked for: loops, veiled, ifaces, maps, wideKeys, modest, calm, conditions, laid).
  DERIVED. THE GIVEN ROWS OF THIS SEAT. 10 by the template 'for every input the law returns true; each argument reads behind the call as it read before'; 0 by the template 'total and deterministic' (their statements: YtageodemjlgdcaaTotals.lean).
  GIVEN WITH THE SEED: the statements are not yours to turn. If you find one false, say at which input.
  Laid BY PROGRAM, IN A SANDBOX (cutbox-rows.mjs): the forced cells as the released guide's own fill.sh prints them over the translation 3c68fb02affdf099… (all of the seat's roots in one cut). By AI agents, Wed Nov 11 2026. No macro, syntax, notation, axiom, sorry.
-/
import Derived.Test.YtageodemjlgdcaaChecked
import GoSem.Claim
import GoSem.ClaimJoined
import GoSem.ClaimMapViews
import Derived.JoinedTies
import Derived.KernelRfl
namespace Go.Proofs.Ytageodemjlgdcaa
/- THE CELL 'sum', in the pinned program and in every row, IS THE sha256 OF THE DUMP (.gsa) THAT YtageodemjlgdcaaProg.lean LOADS. Nothing in Lean hashes anything: it is a label: what it is worth is what the hold of that sum in a sandbox is worth. -/
noncomputable def Try.pinned : Pinned := { name := "ytageodemjlgdcaa", sum := "3c68fb02affdf0996bd26626f5c69fb265ca6324b16e83f64fa7d8f66eff7cf5", checked := Try.checked }
namespace Rows
def none {H : Type} : Left H := { results := [], args := [] }

/-- 'laws.FnClosure': WHATEVER THE INPUT: true; the input reads as it did. -/
def fnClosureSpec : ChangeSpec := { name := "fnClosure", fn := fun _ => fun
  | [d1, d2] => { results := [.lit (.bool true)], args := [d1, d2] }
  | _ => none }
def fnClosureRow : OpenClaim := { program := "ytageodemjlgdcaa", sum := "3c68fb02affdf0996bd26626f5c69fb265ca6324b16e83f64fa7d8f66eff7cf5", func := "loop.example/dataflow/laws.FnClosure", spec := "fnClosure", unfollowed := true, recurses := true, apart := false }
def FnClosureSaid : Prop := fnClosureRow.holds Try.pinned (OpenSpec.ofChange fnClosureSpec)

/-- ITS FALSE NEIGHBOUR: 'it returns false'. Refute it at one input. -/
def fnClosureWrong : ChangeSpec := { name := "fnClosure", fn := fun _ => fun
  | [d1, d2] => { results := [.lit (.bool false)], args := [d1, d2] }
  | _ => none }
def FnClosureWrongFalsely : Prop := fnClosureRow.holds Try.pinned (OpenSpec.ofChange fnClosureWrong)

/-- 'laws.FnIsTransitive': WHATEVER THE INPUT: true; the input reads as it did. -/
def fnIsTransitiveSpec : ChangeSpec := { name := "fnIsTransitive", fn := fun _ => fun
  | [d] => { results := [.lit (.bool true)], args := [d] }
  | _ => none }
def fnIsTransitiveRow : OpenClaim := { program := "ytageodemjlgdcaa", sum := "3c68fb02affdf0996bd26626f5c69fb265ca6324b16e83f64fa7d8f66eff7cf5", func := "loop.example/dataflow/laws.FnIsTransitive", spec := "fnIsTransitive", unfollowed := true, recurses := true, apart := false }
def FnIsTransitiveSaid : Prop := fnIsTransitiveRow.holds Try.pinned (OpenSpec.ofChange fnIsTransitiveSpec)

/-- ITS FALSE NEIGHBOUR: 'it returns false'. Refute it at one input. -/
def fnIsTransitiveWrong : ChangeSpec := { name := "fnIsTransitive", fn := fun _ => fun
  | [d] => { results := [.lit (.bool false)], args := [d] }
  | _ => none }
def FnIsTransitiveWrongFalsely : Prop := fnIsTransitiveRow.holds Try.pinned (OpenSpec.ofChange fnIsTransitiveWrong)

/-- 'laws.FnClosureMonotone': WHATEVER THE INPUT: true; the input reads as it did. -/
def fnClosureMonotoneSpec : ChangeSpec := { name := "fnClosureMonotone", fn := fun _ => fun
  | [d1, d2] => { results := [.lit (.bool true)], args := [d1, d2] }
  | _ => none }
def fnClosureMonotoneRow : OpenClaim := { program := "ytageodemjlgdcaa", sum := "3c68fb02affdf0996bd26626f5c69fb265ca6324b16e83f64fa7d8f66eff7cf5", func := "loop.example/dataflow/laws.FnClosureMonotone", spec := "fnClosureMonotone", unfollowed := true, recurses := true, apart := false }
def FnClosureMonotoneSaid : Prop := fnClosureMonotoneRow.holds Try.pinned (OpenSpec.ofChange fnClosureMonotoneSpec)

/-- ITS FALSE NEIGHBOUR: 'it returns false'. Refute it at one input. -/
def fnClosureMonotoneWrong : ChangeSpec := { name := "fnClosureMonotone", fn := fun _ => fun
  | [d1, d2] => { results := [.lit (.bool false)], args := [d1, d2] }
  | _ => none }
def FnClosureMonotoneWrongFalsely : Prop := fnClosureMonotoneRow.holds Try.pinned (OpenSpec.ofChange fnClosureMonotoneWrong)

/-- 'laws.FnClosureRounds': WHATEVER THE INPUT: true; the input reads as it did. -/
def fnClosureRoundsSpec : ChangeSpec := { name := "fnClosureRounds", fn := fun _ => fun
  | [d] => { results := [.lit (.bool true)], args := [d] }
  | _ => none }
def fnClosureRoundsRow : OpenClaim := { program := "ytageodemjlgdcaa", sum := "3c68fb02affdf0996bd26626f5c69fb265ca6324b16e83f64fa7d8f66eff7cf5", func := "loop.example/dataflow/laws.FnClosureRounds", spec := "fnClosureRounds", unfollowed := true, recurses := true, apart := false }
def FnClosureRoundsSaid : Prop := fnClosureRoundsRow.holds Try.pinned (OpenSpec.ofChange fnClosureRoundsSpec)

/-- ITS FALSE NEIGHBOUR: 'it returns false'. Refute it at one input. -/
def fnClosureRoundsWrong : ChangeSpec := { name := "fnClosureRounds", fn := fun _ => fun
  | [d] => { results := [.lit (.bool false)], args := [d] }
  | _ => none }
def FnClosureRoundsWrongFalsely : Prop := fnClosureRoundsRow.holds Try.pinned (OpenSpec.ofChange fnClosureRoundsWrong)

/-- 'laws.FnHopsTriangle': WHATEVER THE INPUT: true; the input reads as it did. -/
def fnHopsTriangleSpec : ChangeSpec := { name := "fnHopsTriangle", fn := fun _ => fun
  | [d] => { results := [.lit (.bool true)], args := [d] }
  | _ => none }
def fnHopsTriangleRow : OpenClaim := { program := "ytageodemjlgdcaa", sum := "3c68fb02affdf0996bd26626f5c69fb265ca6324b16e83f64fa7d8f66eff7cf5", func := "loop.example/dataflow/laws.FnHopsTriangle", spec := "fnHopsTriangle", unfollowed := true, recurses := true, apart := false }
def FnHopsTriangleSaid : Prop := fnHopsTriangleRow.holds Try.pinned (OpenSpec.ofChange fnHopsTriangleSpec)

/-- ITS FALSE NEIGHBOUR: 'it returns false'. Refute it at one input. -/
def fnHopsTriangleWrong : ChangeSpec := { name := "fnHopsTriangle", fn := fun _ => fun
  | [d] => { results := [.lit (.bool false)], args := [d] }
  | _ => none }
def FnHopsTriangleWrongFalsely : Prop := fnHopsTriangleRow.holds Try.pinned (OpenSpec.ofChange fnHopsTriangleWrong)

/-- 'laws.FnClosureInsert': WHATEVER THE INPUT: true; the input reads as it did. -/
def fnClosureInsertSpec : ChangeSpec := { name := "fnClosureInsert", fn := fun _ => fun
  | [d] => { results := [.lit (.bool true)], args := [d] }
  | _ => none }
def fnClosureInsertRow : OpenClaim := { program := "ytageodemjlgdcaa", sum := "3c68fb02affdf0996bd26626f5c69fb265ca6324b16e83f64fa7d8f66eff7cf5", func := "loop.example/dataflow/laws.FnClosureInsert", spec := "fnClosureInsert", unfollowed := true, recurses := true, apart := false }
def FnClosureInsertSaid : Prop := fnClosureInsertRow.holds Try.pinned (OpenSpec.ofChange fnClosureInsertSpec)

/-- ITS FALSE NEIGHBOUR: 'it returns false'. Refute it at one input. -/
def fnClosureInsertWrong : ChangeSpec := { name := "fnClosureInsert", fn := fun _ => fun
  | [d] => { results := [.lit (.bool false)], args := [d] }
  | _ => none }
def FnClosureInsertWrongFalsely : Prop := fnClosureInsertRow.holds Try.pinned (OpenSpec.ofChange fnClosureInsertWrong)

/-- 'laws.FnClosureDelete': WHATEVER THE INPUT: true; the input reads as it did. -/
def fnClosureDeleteSpec : ChangeSpec := { name := "fnClosureDelete", fn := fun _ => fun
  | [d] => { results := [.lit (.bool true)], args := [d] }
  | _ => none }
def fnClosureDeleteRow : OpenClaim := { program := "ytageodemjlgdcaa", sum := "3c68fb02affdf0996bd26626f5c69fb265ca6324b16e83f64fa7d8f66eff7cf5", func := "loop.example/dataflow/laws.FnClosureDelete", spec := "fnClosureDelete", unfollowed := true, recurses := true, apart := false }
def FnClosureDeleteSaid : Prop := fnClosureDeleteRow.holds Try.pinned (OpenSpec.ofChange fnClosureDeleteSpec)

/-- ITS FALSE NEIGHBOUR: 'it returns false'. Refute it at one input. -/
def fnClosureDeleteWrong : ChangeSpec := { name := "fnClosureDelete", fn := fun _ => fun
  | [d] => { results := [.lit (.bool false)], args := [d] }
  | _ => none }
def FnClosureDeleteWrongFalsely : Prop := fnClosureDeleteRow.holds Try.pinned (OpenSpec.ofChange fnClosureDeleteWrong)

/-- 'laws.FnOverdelete': WHATEVER THE INPUT: true; the input reads as it did. -/
def fnOverdeleteSpec : ChangeSpec := { name := "fnOverdelete", fn := fun _ => fun
  | [d] => { results := [.lit (.bool true)], args := [d] }
  | _ => none }
def fnOverdeleteRow : OpenClaim := { program := "ytageodemjlgdcaa", sum := "3c68fb02affdf0996bd26626f5c69fb265ca6324b16e83f64fa7d8f66eff7cf5", func := "loop.example/dataflow/laws.FnOverdelete", spec := "fnOverdelete", unfollowed := true, recurses := true, apart := false }
def FnOverdeleteSaid : Prop := fnOverdeleteRow.holds Try.pinned (OpenSpec.ofChange fnOverdeleteSpec)

/-- ITS FALSE NEIGHBOUR: 'it returns false'. Refute it at one input. -/
def fnOverdeleteWrong : ChangeSpec := { name := "fnOverdelete", fn := fun _ => fun
  | [d] => { results := [.lit (.bool false)], args := [d] }
  | _ => none }
def FnOverdeleteWrongFalsely : Prop := fnOverdeleteRow.holds Try.pinned (OpenSpec.ofChange fnOverdeleteWrong)

/-- 'laws.FnRederive': WHATEVER THE INPUT: true; the input reads as it did. -/
def fnRederiveSpec : ChangeSpec := { name := "fnRederive", fn := fun _ => fun
  | [d] => { results := [.lit (.bool true)], args := [d] }
  | _ => none }
def fnRederiveRow : OpenClaim := { program := "ytageodemjlgdcaa", sum := "3c68fb02affdf0996bd26626f5c69fb265ca6324b16e83f64fa7d8f66eff7cf5", func := "loop.example/dataflow/laws.FnRederive", spec := "fnRederive", unfollowed := true, recurses := true, apart := false }
def FnRederiveSaid : Prop := fnRederiveRow.holds Try.pinned (OpenSpec.ofChange fnRederiveSpec)

/-- ITS FALSE NEIGHBOUR: 'it returns false'. Refute it at one input. -/
def fnRederiveWrong : ChangeSpec := { name := "fnRederive", fn := fun _ => fun
  | [d] => { results := [.lit (.bool false)], args := [d] }
  | _ => none }
def FnRederiveWrongFalsely : Prop := fnRederiveRow.holds Try.pinned (OpenSpec.ofChange fnRederiveWrong)

/-- 'laws.FnInsertDelete': WHATEVER THE INPUT: true; the input reads as it did. -/
def fnInsertDeleteSpec : ChangeSpec := { name := "fnInsertDelete", fn := fun _ => fun
  | [d] => { results := [.lit (.bool true)], args := [d] }
  | _ => none }
def fnInsertDeleteRow : OpenClaim := { program := "ytageodemjlgdcaa", sum := "3c68fb02affdf0996bd26626f5c69fb265ca6324b16e83f64fa7d8f66eff7cf5", func := "loop.example/dataflow/laws.FnInsertDelete", spec := "fnInsertDelete", unfollowed := true, recurses := true, apart := false }
def FnInsertDeleteSaid : Prop := fnInsertDeleteRow.holds Try.pinned (OpenSpec.ofChange fnInsertDeleteSpec)

/-- ITS FALSE NEIGHBOUR: 'it returns false'. Refute it at one input. -/
def fnInsertDeleteWrong : ChangeSpec := { name := "fnInsertDelete", fn := fun _ => fun
  | [d] => { results := [.lit (.bool false)], args := [d] }
  | _ => none }
def FnInsertDeleteWrongFalsely : Prop := fnInsertDeleteRow.holds Try.pinned (OpenSpec.ofChange fnInsertDeleteWrong)

/- THE SECOND FORM. 'bulk': how many values and letters a reading holds, each counted each time it is reached (what is shared counts as often as it is met; a slice's spare places count too). A statement '..UptoSaid' is the law's where the arguments, and the package variables that the reading takes, are together of bulk at most 1048576: NARROWER than '..Said'. Prove '..Said' where nothing that the law and all that it calls make is longer than what came in: it says more and counts as full. Else prove '..UptoSaid'. A law counts once. -/
mutual
def uptoBulk {H : Type} : DataW H → Nat
  | .lit (.string bytes) => bytes.length + 1
  | .lit _ => 1
  | .nil => 1
  | .ptr d => uptoBulk d + 1
  | .slice elems spare => uptoBulkAll elems + uptoBulkAll spare + 1
  | .agg parts => uptoBulkAll parts + 1
  | .iface _ d => uptoBulk d + 1
  | .map entries => uptoBulkEntries entries + 1
  | .held _ => 1
def uptoBulkAll {H : Type} : List (DataW H) → Nat
  | [] => 0
  | d :: r => uptoBulk d + uptoBulkAll r
def uptoBulkEntries {H : Type} : List (Lit × DataW H) → Nat
  | [] => 0
  | x :: r => uptoBulkEntry x + uptoBulkEntries r
def uptoBulkEntry {H : Type} : Lit × DataW H → Nat
  | (.string bytes, d) => bytes.length + uptoBulk d + 1
  | (_, d) => uptoBulk d + 1
 end
def uptoSmall : (H : Type) → List (DataW H) → Bool := fun _ ds => decide (uptoBulkAll ds ≤ 1048576)
def OpenSpec.upto (s : _root_.Go.ChangeSpec) : _root_.Go.OpenSpec := { _root_.Go.OpenSpec.ofChange s with cond := some uptoSmall }

/-- 'laws.FnClosure', WHERE WHAT IT READS IS OF BULK AT MOST 1048576: true; the input reads as it did. -/
def fnClosureUptoRow : OpenClaim := { program := "ytageodemjlgdcaa", sum := "3c68fb02affdf0996bd26626f5c69fb265ca6324b16e83f64fa7d8f66eff7cf5", func := "loop.example/dataflow/laws.FnClosure", spec := "fnClosure", unfollowed := true, recurses := true, apart := false, narrowed := true }
def FnClosureUptoSaid : Prop := fnClosureUptoRow.holds Try.pinned (OpenSpec.upto fnClosureSpec)

/-- 'laws.FnIsTransitive', WHERE WHAT IT READS IS OF BULK AT MOST 1048576: true; the input reads as it did. -/
def fnIsTransitiveUptoRow : OpenClaim := { program := "ytageodemjlgdcaa", sum := "3c68fb02affdf0996bd26626f5c69fb265ca6324b16e83f64fa7d8f66eff7cf5", func := "loop.example/dataflow/laws.FnIsTransitive", spec := "fnIsTransitive", unfollowed := true, recurses := true, apart := false, narrowed := true }
def FnIsTransitiveUptoSaid : Prop := fnIsTransitiveUptoRow.holds Try.pinned (OpenSpec.upto fnIsTransitiveSpec)

/-- 'laws.FnClosureMonotone', WHERE WHAT IT READS IS OF BULK AT MOST 1048576: true; the input reads as it did. -/
def fnClosureMonotoneUptoRow : OpenClaim := { program := "ytageodemjlgdcaa", sum := "3c68fb02affdf0996bd26626f5c69fb265ca6324b16e83f64fa7d8f66eff7cf5", func := "loop.example/dataflow/laws.FnClosureMonotone", spec := "fnClosureMonotone", unfollowed := true, recurses := true, apart := false, narrowed := true }
def FnClosureMonotoneUptoSaid : Prop := fnClosureMonotoneUptoRow.holds Try.pinned (OpenSpec.upto fnClosureMonotoneSpec)

/-- 'laws.FnClosureRounds', WHERE WHAT IT READS IS OF BULK AT MOST 1048576: true; the input reads as it did. -/
def fnClosureRoundsUptoRow : OpenClaim := { program := "ytageodemjlgdcaa", sum := "3c68fb02affdf0996bd26626f5c69fb265ca6324b16e83f64fa7d8f66eff7cf5", func := "loop.example/dataflow/laws.FnClosureRounds", spec := "fnClosureRounds", unfollowed := true, recurses := true, apart := false, narrowed := true }
def FnClosureRoundsUptoSaid : Prop := fnClosureRoundsUptoRow.holds Try.pinned (OpenSpec.upto fnClosureRoundsSpec)

/-- 'laws.FnHopsTriangle', WHERE WHAT IT READS IS OF BULK AT MOST 1048576: true; the input reads as it did. -/
def fnHopsTriangleUptoRow : OpenClaim := { program := "ytageodemjlgdcaa", sum := "3c68fb02affdf0996bd26626f5c69fb265ca6324b16e83f64fa7d8f66eff7cf5", func := "loop.example/dataflow/laws.FnHopsTriangle", spec := "fnHopsTriangle", unfollowed := true, recurses := true, apart := false, narrowed := true }
def FnHopsTriangleUptoSaid : Prop := fnHopsTriangleUptoRow.holds Try.pinned (OpenSpec.upto fnHopsTriangleSpec)

/-- 'laws.FnClosureInsert', WHERE WHAT IT READS IS OF BULK AT MOST 1048576: true; the input reads as it did. -/
def fnClosureInsertUptoRow : OpenClaim := { program := "ytageodemjlgdcaa", sum := "3c68fb02affdf0996bd26626f5c69fb265ca6324b16e83f64fa7d8f66eff7cf5", func := "loop.example/dataflow/laws.FnClosureInsert", spec := "fnClosureInsert", unfollowed := true, recurses := true, apart := false, narrowed := true }
def FnClosureInsertUptoSaid : Prop := fnClosureInsertUptoRow.holds Try.pinned (OpenSpec.upto fnClosureInsertSpec)

/-- 'laws.FnClosureDelete', WHERE WHAT IT READS IS OF BULK AT MOST 1048576: true; the input reads as it did. -/
def fnClosureDeleteUptoRow : OpenClaim := { program := "ytageodemjlgdcaa", sum := "3c68fb02affdf0996bd26626f5c69fb265ca6324b16e83f64fa7d8f66eff7cf5", func := "loop.example/dataflow/laws.FnClosureDelete", spec := "fnClosureDelete", unfollowed := true, recurses := true, apart := false, narrowed := true }
def FnClosureDeleteUptoSaid : Prop := fnClosureDeleteUptoRow.holds Try.pinned (OpenSpec.upto fnClosureDeleteSpec)

/-- 'laws.FnOverdelete', WHERE WHAT IT READS IS OF BULK AT MOST 1048576: true; the input reads as it did. -/
def fnOverdeleteUptoRow : OpenClaim := { program := "ytageodemjlgdcaa", sum := "3c68fb02affdf0996bd26626f5c69fb265ca6324b16e83f64fa7d8f66eff7cf5", func := "loop.example/dataflow/laws.FnOverdelete", spec := "fnOverdelete", unfollowed := true, recurses := true, apart := false, narrowed := true }
def FnOverdeleteUptoSaid : Prop := fnOverdeleteUptoRow.holds Try.pinned (OpenSpec.upto fnOverdeleteSpec)

/-- 'laws.FnRederive', WHERE WHAT IT READS IS OF BULK AT MOST 1048576: true; the input reads as it did. -/
def fnRederiveUptoRow : OpenClaim := { program := "ytageodemjlgdcaa", sum := "3c68fb02affdf0996bd26626f5c69fb265ca6324b16e83f64fa7d8f66eff7cf5", func := "loop.example/dataflow/laws.FnRederive", spec := "fnRederive", unfollowed := true, recurses := true, apart := false, narrowed := true }
def FnRederiveUptoSaid : Prop := fnRederiveUptoRow.holds Try.pinned (OpenSpec.upto fnRederiveSpec)

/-- 'laws.FnInsertDelete', WHERE WHAT IT READS IS OF BULK AT MOST 1048576: true; the input reads as it did. -/
def fnInsertDeleteUptoRow : OpenClaim := { program := "ytageodemjlgdcaa", sum := "3c68fb02affdf0996bd26626f5c69fb265ca6324b16e83f64fa7d8f66eff7cf5", func := "loop.example/dataflow/laws.FnInsertDelete", spec := "fnInsertDelete", unfollowed := true, recurses := true, apart := false, narrowed := true }
def FnInsertDeleteUptoSaid : Prop := fnInsertDeleteUptoRow.holds Try.pinned (OpenSpec.upto fnInsertDeleteSpec)

end Rows
end Go.Proofs.Ytageodemjlgdcaa
