/-
  No cell of these rows narrows 'for every input' (looked for: loops, veiled, ifaces, maps, wideKeys, modest, calm, conditions, laid).
  DERIVED. THE GIVEN ROWS OF THIS SEAT. 12 by the template 'for every input the law returns true; each argument reads behind the call as it read before'; 0 by the template 'total and deterministic' (their statements: YtdaikdenpabfgaaTotals.lean).
  GIVEN WITH THE SEED: the statements are not yours to turn. If you find one false, say at which input.
  Laid BY PROGRAM, IN A SANDBOX (cutbox-rows.mjs): the forced cells as the released guide's own fill.sh prints them over the translation f4b1cb595327935c… (all of the seat's roots in one cut). By AI agents, Wed Nov 11 2026. No macro, syntax, notation, axiom, sorry.
-/
import Derived.Test.YtdaikdenpabfgaaChecked
import GoSem.Claim
import GoSem.ClaimJoined
import GoSem.ClaimMapViews
import Derived.JoinedTies
import Derived.KernelRfl
namespace Go.Proofs.Ytdaikdenpabfgaa
/- THE CELL 'sum', in the pinned program and in every row, IS THE sha256 OF THE DUMP (.gsa) THAT YtdaikdenpabfgaaProg.lean LOADS. Nothing in Lean hashes anything: it is a label: what it is worth is what the hold of that sum in a sandbox is worth. -/
noncomputable def Try.pinned : Pinned := { name := "ytdaikdenpabfgaa", sum := "f4b1cb595327935cb7404a265de8a166623231c410f2b005c3b1beb660326f55", checked := Try.checked }
namespace Rows
def none {H : Type} : Left H := { results := [], args := [] }

/-- 'laws.FnExactClosure': WHATEVER THE INPUT: true; the input reads as it did. -/
def fnExactClosureSpec : ChangeSpec := { name := "fnExactClosure", fn := fun _ => fun
  | [d] => { results := [.lit (.bool true)], args := [d] }
  | _ => none }
def fnExactClosureRow : OpenClaim := { program := "ytdaikdenpabfgaa", sum := "f4b1cb595327935cb7404a265de8a166623231c410f2b005c3b1beb660326f55", func := "loop.example/dataflow/laws.FnExactClosure", spec := "fnExactClosure", unfollowed := true, recurses := true, apart := false }
def FnExactClosureSaid : Prop := fnExactClosureRow.holds Try.pinned (OpenSpec.ofChange fnExactClosureSpec)

/-- ITS FALSE NEIGHBOUR: 'it returns false'. Refute it at one input. -/
def fnExactClosureWrong : ChangeSpec := { name := "fnExactClosure", fn := fun _ => fun
  | [d] => { results := [.lit (.bool false)], args := [d] }
  | _ => none }
def FnExactClosureWrongFalsely : Prop := fnExactClosureRow.holds Try.pinned (OpenSpec.ofChange fnExactClosureWrong)

/-- 'laws.FnExactClosureRounds': WHATEVER THE INPUT: true; the input reads as it did. -/
def fnExactClosureRoundsSpec : ChangeSpec := { name := "fnExactClosureRounds", fn := fun _ => fun
  | [d] => { results := [.lit (.bool true)], args := [d] }
  | _ => none }
def fnExactClosureRoundsRow : OpenClaim := { program := "ytdaikdenpabfgaa", sum := "f4b1cb595327935cb7404a265de8a166623231c410f2b005c3b1beb660326f55", func := "loop.example/dataflow/laws.FnExactClosureRounds", spec := "fnExactClosureRounds", unfollowed := true, recurses := true, apart := false }
def FnExactClosureRoundsSaid : Prop := fnExactClosureRoundsRow.holds Try.pinned (OpenSpec.ofChange fnExactClosureRoundsSpec)

/-- ITS FALSE NEIGHBOUR: 'it returns false'. Refute it at one input. -/
def fnExactClosureRoundsWrong : ChangeSpec := { name := "fnExactClosureRounds", fn := fun _ => fun
  | [d] => { results := [.lit (.bool false)], args := [d] }
  | _ => none }
def FnExactClosureRoundsWrongFalsely : Prop := fnExactClosureRoundsRow.holds Try.pinned (OpenSpec.ofChange fnExactClosureRoundsWrong)

/-- 'laws.FnExactHops': WHATEVER THE INPUT: true; the input reads as it did. -/
def fnExactHopsSpec : ChangeSpec := { name := "fnExactHops", fn := fun _ => fun
  | [d1, d2] => { results := [.lit (.bool true)], args := [d1, d2] }
  | _ => none }
def fnExactHopsRow : OpenClaim := { program := "ytdaikdenpabfgaa", sum := "f4b1cb595327935cb7404a265de8a166623231c410f2b005c3b1beb660326f55", func := "loop.example/dataflow/laws.FnExactHops", spec := "fnExactHops", unfollowed := true, recurses := true, apart := false }
def FnExactHopsSaid : Prop := fnExactHopsRow.holds Try.pinned (OpenSpec.ofChange fnExactHopsSpec)

/-- ITS FALSE NEIGHBOUR: 'it returns false'. Refute it at one input. -/
def fnExactHopsWrong : ChangeSpec := { name := "fnExactHops", fn := fun _ => fun
  | [d1, d2] => { results := [.lit (.bool false)], args := [d1, d2] }
  | _ => none }
def FnExactHopsWrongFalsely : Prop := fnExactHopsRow.holds Try.pinned (OpenSpec.ofChange fnExactHopsWrong)

/-- 'laws.FnExactIsTransitive': WHATEVER THE INPUT: true; the input reads as it did. -/
def fnExactIsTransitiveSpec : ChangeSpec := { name := "fnExactIsTransitive", fn := fun _ => fun
  | [d] => { results := [.lit (.bool true)], args := [d] }
  | _ => none }
def fnExactIsTransitiveRow : OpenClaim := { program := "ytdaikdenpabfgaa", sum := "f4b1cb595327935cb7404a265de8a166623231c410f2b005c3b1beb660326f55", func := "loop.example/dataflow/laws.FnExactIsTransitive", spec := "fnExactIsTransitive", unfollowed := true, recurses := true, apart := false }
def FnExactIsTransitiveSaid : Prop := fnExactIsTransitiveRow.holds Try.pinned (OpenSpec.ofChange fnExactIsTransitiveSpec)

/-- ITS FALSE NEIGHBOUR: 'it returns false'. Refute it at one input. -/
def fnExactIsTransitiveWrong : ChangeSpec := { name := "fnExactIsTransitive", fn := fun _ => fun
  | [d] => { results := [.lit (.bool false)], args := [d] }
  | _ => none }
def FnExactIsTransitiveWrongFalsely : Prop := fnExactIsTransitiveRow.holds Try.pinned (OpenSpec.ofChange fnExactIsTransitiveWrong)

/-- 'laws.FnExactClosureInsert': WHATEVER THE INPUT: true; the input reads as it did. -/
def fnExactClosureInsertSpec : ChangeSpec := { name := "fnExactClosureInsert", fn := fun _ => fun
  | [d1, d2, d3] => { results := [.lit (.bool true)], args := [d1, d2, d3] }
  | _ => none }
def fnExactClosureInsertRow : OpenClaim := { program := "ytdaikdenpabfgaa", sum := "f4b1cb595327935cb7404a265de8a166623231c410f2b005c3b1beb660326f55", func := "loop.example/dataflow/laws.FnExactClosureInsert", spec := "fnExactClosureInsert", unfollowed := true, recurses := true, apart := false }
def FnExactClosureInsertSaid : Prop := fnExactClosureInsertRow.holds Try.pinned (OpenSpec.ofChange fnExactClosureInsertSpec)

/-- ITS FALSE NEIGHBOUR: 'it returns false'. Refute it at one input. -/
def fnExactClosureInsertWrong : ChangeSpec := { name := "fnExactClosureInsert", fn := fun _ => fun
  | [d1, d2, d3] => { results := [.lit (.bool false)], args := [d1, d2, d3] }
  | _ => none }
def FnExactClosureInsertWrongFalsely : Prop := fnExactClosureInsertRow.holds Try.pinned (OpenSpec.ofChange fnExactClosureInsertWrong)

/-- 'laws.FnExactOverdelete': WHATEVER THE INPUT: true; the input reads as it did. -/
def fnExactOverdeleteSpec : ChangeSpec := { name := "fnExactOverdelete", fn := fun _ => fun
  | [d1, d2, d3] => { results := [.lit (.bool true)], args := [d1, d2, d3] }
  | _ => none }
def fnExactOverdeleteRow : OpenClaim := { program := "ytdaikdenpabfgaa", sum := "f4b1cb595327935cb7404a265de8a166623231c410f2b005c3b1beb660326f55", func := "loop.example/dataflow/laws.FnExactOverdelete", spec := "fnExactOverdelete", unfollowed := true, recurses := true, apart := false }
def FnExactOverdeleteSaid : Prop := fnExactOverdeleteRow.holds Try.pinned (OpenSpec.ofChange fnExactOverdeleteSpec)

/-- ITS FALSE NEIGHBOUR: 'it returns false'. Refute it at one input. -/
def fnExactOverdeleteWrong : ChangeSpec := { name := "fnExactOverdelete", fn := fun _ => fun
  | [d1, d2, d3] => { results := [.lit (.bool false)], args := [d1, d2, d3] }
  | _ => none }
def FnExactOverdeleteWrongFalsely : Prop := fnExactOverdeleteRow.holds Try.pinned (OpenSpec.ofChange fnExactOverdeleteWrong)

/-- 'laws.FnExactRederive': WHATEVER THE INPUT: true; the input reads as it did. -/
def fnExactRederiveSpec : ChangeSpec := { name := "fnExactRederive", fn := fun _ => fun
  | [d1, d2, d3] => { results := [.lit (.bool true)], args := [d1, d2, d3] }
  | _ => none }
def fnExactRederiveRow : OpenClaim := { program := "ytdaikdenpabfgaa", sum := "f4b1cb595327935cb7404a265de8a166623231c410f2b005c3b1beb660326f55", func := "loop.example/dataflow/laws.FnExactRederive", spec := "fnExactRederive", unfollowed := true, recurses := true, apart := false }
def FnExactRederiveSaid : Prop := fnExactRederiveRow.holds Try.pinned (OpenSpec.ofChange fnExactRederiveSpec)

/-- ITS FALSE NEIGHBOUR: 'it returns false'. Refute it at one input. -/
def fnExactRederiveWrong : ChangeSpec := { name := "fnExactRederive", fn := fun _ => fun
  | [d1, d2, d3] => { results := [.lit (.bool false)], args := [d1, d2, d3] }
  | _ => none }
def FnExactRederiveWrongFalsely : Prop := fnExactRederiveRow.holds Try.pinned (OpenSpec.ofChange fnExactRederiveWrong)

/-- 'laws.FnExactClosureDelete': WHATEVER THE INPUT: true; the input reads as it did. -/
def fnExactClosureDeleteSpec : ChangeSpec := { name := "fnExactClosureDelete", fn := fun _ => fun
  | [d1, d2, d3] => { results := [.lit (.bool true)], args := [d1, d2, d3] }
  | _ => none }
def fnExactClosureDeleteRow : OpenClaim := { program := "ytdaikdenpabfgaa", sum := "f4b1cb595327935cb7404a265de8a166623231c410f2b005c3b1beb660326f55", func := "loop.example/dataflow/laws.FnExactClosureDelete", spec := "fnExactClosureDelete", unfollowed := true, recurses := true, apart := false }
def FnExactClosureDeleteSaid : Prop := fnExactClosureDeleteRow.holds Try.pinned (OpenSpec.ofChange fnExactClosureDeleteSpec)

/-- ITS FALSE NEIGHBOUR: 'it returns false'. Refute it at one input. -/
def fnExactClosureDeleteWrong : ChangeSpec := { name := "fnExactClosureDelete", fn := fun _ => fun
  | [d1, d2, d3] => { results := [.lit (.bool false)], args := [d1, d2, d3] }
  | _ => none }
def FnExactClosureDeleteWrongFalsely : Prop := fnExactClosureDeleteRow.holds Try.pinned (OpenSpec.ofChange fnExactClosureDeleteWrong)

/-- 'laws.FnExactCheckPath': WHATEVER THE INPUT: true; the input reads as it did. -/
def fnExactCheckPathSpec : ChangeSpec := { name := "fnExactCheckPath", fn := fun _ => fun
  | [d1, d2, d3, d4] => { results := [.lit (.bool true)], args := [d1, d2, d3, d4] }
  | _ => none }
def fnExactCheckPathRow : OpenClaim := { program := "ytdaikdenpabfgaa", sum := "f4b1cb595327935cb7404a265de8a166623231c410f2b005c3b1beb660326f55", func := "loop.example/dataflow/laws.FnExactCheckPath", spec := "fnExactCheckPath", unfollowed := true, recurses := true, apart := false }
def FnExactCheckPathSaid : Prop := fnExactCheckPathRow.holds Try.pinned (OpenSpec.ofChange fnExactCheckPathSpec)

/-- ITS FALSE NEIGHBOUR: 'it returns false'. Refute it at one input. -/
def fnExactCheckPathWrong : ChangeSpec := { name := "fnExactCheckPath", fn := fun _ => fun
  | [d1, d2, d3, d4] => { results := [.lit (.bool false)], args := [d1, d2, d3, d4] }
  | _ => none }
def FnExactCheckPathWrongFalsely : Prop := fnExactCheckPathRow.holds Try.pinned (OpenSpec.ofChange fnExactCheckPathWrong)

/-- 'laws.FnExactCertifyPath': WHATEVER THE INPUT: true; the input reads as it did. -/
def fnExactCertifyPathSpec : ChangeSpec := { name := "fnExactCertifyPath", fn := fun _ => fun
  | [d1, d2, d3] => { results := [.lit (.bool true)], args := [d1, d2, d3] }
  | _ => none }
def fnExactCertifyPathRow : OpenClaim := { program := "ytdaikdenpabfgaa", sum := "f4b1cb595327935cb7404a265de8a166623231c410f2b005c3b1beb660326f55", func := "loop.example/dataflow/laws.FnExactCertifyPath", spec := "fnExactCertifyPath", unfollowed := true, recurses := true, apart := false }
def FnExactCertifyPathSaid : Prop := fnExactCertifyPathRow.holds Try.pinned (OpenSpec.ofChange fnExactCertifyPathSpec)

/-- ITS FALSE NEIGHBOUR: 'it returns false'. Refute it at one input. -/
def fnExactCertifyPathWrong : ChangeSpec := { name := "fnExactCertifyPath", fn := fun _ => fun
  | [d1, d2, d3] => { results := [.lit (.bool false)], args := [d1, d2, d3] }
  | _ => none }
def FnExactCertifyPathWrongFalsely : Prop := fnExactCertifyPathRow.holds Try.pinned (OpenSpec.ofChange fnExactCertifyPathWrong)

/-- 'laws.FnExactCertifyClosure': WHATEVER THE INPUT: true; the input reads as it did. -/
def fnExactCertifyClosureSpec : ChangeSpec := { name := "fnExactCertifyClosure", fn := fun _ => fun
  | [d] => { results := [.lit (.bool true)], args := [d] }
  | _ => none }
def fnExactCertifyClosureRow : OpenClaim := { program := "ytdaikdenpabfgaa", sum := "f4b1cb595327935cb7404a265de8a166623231c410f2b005c3b1beb660326f55", func := "loop.example/dataflow/laws.FnExactCertifyClosure", spec := "fnExactCertifyClosure", unfollowed := true, recurses := true, apart := false }
def FnExactCertifyClosureSaid : Prop := fnExactCertifyClosureRow.holds Try.pinned (OpenSpec.ofChange fnExactCertifyClosureSpec)

/-- ITS FALSE NEIGHBOUR: 'it returns false'. Refute it at one input. -/
def fnExactCertifyClosureWrong : ChangeSpec := { name := "fnExactCertifyClosure", fn := fun _ => fun
  | [d] => { results := [.lit (.bool false)], args := [d] }
  | _ => none }
def FnExactCertifyClosureWrongFalsely : Prop := fnExactCertifyClosureRow.holds Try.pinned (OpenSpec.ofChange fnExactCertifyClosureWrong)

/-- 'laws.FnExactCheckClosure': WHATEVER THE INPUT: true; the input reads as it did. -/
def fnExactCheckClosureSpec : ChangeSpec := { name := "fnExactCheckClosure", fn := fun _ => fun
  | [d1, d2] => { results := [.lit (.bool true)], args := [d1, d2] }
  | _ => none }
def fnExactCheckClosureRow : OpenClaim := { program := "ytdaikdenpabfgaa", sum := "f4b1cb595327935cb7404a265de8a166623231c410f2b005c3b1beb660326f55", func := "loop.example/dataflow/laws.FnExactCheckClosure", spec := "fnExactCheckClosure", unfollowed := true, recurses := true, apart := false }
def FnExactCheckClosureSaid : Prop := fnExactCheckClosureRow.holds Try.pinned (OpenSpec.ofChange fnExactCheckClosureSpec)

/-- ITS FALSE NEIGHBOUR: 'it returns false'. Refute it at one input. -/
def fnExactCheckClosureWrong : ChangeSpec := { name := "fnExactCheckClosure", fn := fun _ => fun
  | [d1, d2] => { results := [.lit (.bool false)], args := [d1, d2] }
  | _ => none }
def FnExactCheckClosureWrongFalsely : Prop := fnExactCheckClosureRow.holds Try.pinned (OpenSpec.ofChange fnExactCheckClosureWrong)

/- THE SECOND FORM. 'bulk': how many values and letters a reading holds, each counted each time it is reached (what is shared counts as often as it is met; a slice's spare places count too). A statement '..UptoSaid' is the law's where the arguments, and the package variables that the reading takes, are together of bulk at most 1048576: NARROWER than '..Said'. Prove '..Said' where nothing that the law and all that it calls make is longer than what came in: it says more and counts as full. Else prove '..UptoSaid'. A law counts once. -/
mutual
def uptoBulk {H : Type} : DataW H → Nat
  | .lit (.string bytes) => bytes.length + 1
  | .lit _ => 1
  | .nil => 1
  | .ptr d => uptoBulk d + 1
  | .slice elems spare => uptoBulkAll elems + uptoBulkAll spare + 1
  | .agg parts => uptoBulkAll parts + 1
  | .iface _ d => uptoBulk d + 1
  | .map entries => uptoBulkEntries entries + 1
  | .held _ => 1
def uptoBulkAll {H : Type} : List (DataW H) → Nat
  | [] => 0
  | d :: r => uptoBulk d + uptoBulkAll r
def uptoBulkEntries {H : Type} : List (Lit × DataW H) → Nat
  | [] => 0
  | x :: r => uptoBulkEntry x + uptoBulkEntries r
def uptoBulkEntry {H : Type} : Lit × DataW H → Nat
  | (.string bytes, d) => bytes.length + uptoBulk d + 1
  | (_, d) => uptoBulk d + 1
 end
def uptoSmall : (H : Type) → List (DataW H) → Bool := fun _ ds => decide (uptoBulkAll ds ≤ 1048576)
def OpenSpec.upto (s : _root_.Go.ChangeSpec) : _root_.Go.OpenSpec := { _root_.Go.OpenSpec.ofChange s with cond := some uptoSmall }

/-- 'laws.FnExactClosure', WHERE WHAT IT READS IS OF BULK AT MOST 1048576: true; the input reads as it did. -/
def fnExactClosureUptoRow : OpenClaim := { program := "ytdaikdenpabfgaa", sum := "f4b1cb595327935cb7404a265de8a166623231c410f2b005c3b1beb660326f55", func := "loop.example/dataflow/laws.FnExactClosure", spec := "fnExactClosure", unfollowed := true, recurses := true, apart := false, narrowed := true }
def FnExactClosureUptoSaid : Prop := fnExactClosureUptoRow.holds Try.pinned (OpenSpec.upto fnExactClosureSpec)

/-- 'laws.FnExactClosureRounds', WHERE WHAT IT READS IS OF BULK AT MOST 1048576: true; the input reads as it did. -/
def fnExactClosureRoundsUptoRow : OpenClaim := { program := "ytdaikdenpabfgaa", sum := "f4b1cb595327935cb7404a265de8a166623231c410f2b005c3b1beb660326f55", func := "loop.example/dataflow/laws.FnExactClosureRounds", spec := "fnExactClosureRounds", unfollowed := true, recurses := true, apart := false, narrowed := true }
def FnExactClosureRoundsUptoSaid : Prop := fnExactClosureRoundsUptoRow.holds Try.pinned (OpenSpec.upto fnExactClosureRoundsSpec)

/-- 'laws.FnExactHops', WHERE WHAT IT READS IS OF BULK AT MOST 1048576: true; the input reads as it did. -/
def fnExactHopsUptoRow : OpenClaim := { program := "ytdaikdenpabfgaa", sum := "f4b1cb595327935cb7404a265de8a166623231c410f2b005c3b1beb660326f55", func := "loop.example/dataflow/laws.FnExactHops", spec := "fnExactHops", unfollowed := true, recurses := true, apart := false, narrowed := true }
def FnExactHopsUptoSaid : Prop := fnExactHopsUptoRow.holds Try.pinned (OpenSpec.upto fnExactHopsSpec)

/-- 'laws.FnExactIsTransitive', WHERE WHAT IT READS IS OF BULK AT MOST 1048576: true; the input reads as it did. -/
def fnExactIsTransitiveUptoRow : OpenClaim := { program := "ytdaikdenpabfgaa", sum := "f4b1cb595327935cb7404a265de8a166623231c410f2b005c3b1beb660326f55", func := "loop.example/dataflow/laws.FnExactIsTransitive", spec := "fnExactIsTransitive", unfollowed := true, recurses := true, apart := false, narrowed := true }
def FnExactIsTransitiveUptoSaid : Prop := fnExactIsTransitiveUptoRow.holds Try.pinned (OpenSpec.upto fnExactIsTransitiveSpec)

/-- 'laws.FnExactClosureInsert', WHERE WHAT IT READS IS OF BULK AT MOST 1048576: true; the input reads as it did. -/
def fnExactClosureInsertUptoRow : OpenClaim := { program := "ytdaikdenpabfgaa", sum := "f4b1cb595327935cb7404a265de8a166623231c410f2b005c3b1beb660326f55", func := "loop.example/dataflow/laws.FnExactClosureInsert", spec := "fnExactClosureInsert", unfollowed := true, recurses := true, apart := false, narrowed := true }
def FnExactClosureInsertUptoSaid : Prop := fnExactClosureInsertUptoRow.holds Try.pinned (OpenSpec.upto fnExactClosureInsertSpec)

/-- 'laws.FnExactOverdelete', WHERE WHAT IT READS IS OF BULK AT MOST 1048576: true; the input reads as it did. -/
def fnExactOverdeleteUptoRow : OpenClaim := { program := "ytdaikdenpabfgaa", sum := "f4b1cb595327935cb7404a265de8a166623231c410f2b005c3b1beb660326f55", func := "loop.example/dataflow/laws.FnExactOverdelete", spec := "fnExactOverdelete", unfollowed := true, recurses := true, apart := false, narrowed := true }
def FnExactOverdeleteUptoSaid : Prop := fnExactOverdeleteUptoRow.holds Try.pinned (OpenSpec.upto fnExactOverdeleteSpec)

/-- 'laws.FnExactRederive', WHERE WHAT IT READS IS OF BULK AT MOST 1048576: true; the input reads as it did. -/
def fnExactRederiveUptoRow : OpenClaim := { program := "ytdaikdenpabfgaa", sum := "f4b1cb595327935cb7404a265de8a166623231c410f2b005c3b1beb660326f55", func := "loop.example/dataflow/laws.FnExactRederive", spec := "fnExactRederive", unfollowed := true, recurses := true, apart := false, narrowed := true }
def FnExactRederiveUptoSaid : Prop := fnExactRederiveUptoRow.holds Try.pinned (OpenSpec.upto fnExactRederiveSpec)

/-- 'laws.FnExactClosureDelete', WHERE WHAT IT READS IS OF BULK AT MOST 1048576: true; the input reads as it did. -/
def fnExactClosureDeleteUptoRow : OpenClaim := { program := "ytdaikdenpabfgaa", sum := "f4b1cb595327935cb7404a265de8a166623231c410f2b005c3b1beb660326f55", func := "loop.example/dataflow/laws.FnExactClosureDelete", spec := "fnExactClosureDelete", unfollowed := true, recurses := true, apart := false, narrowed := true }
def FnExactClosureDeleteUptoSaid : Prop := fnExactClosureDeleteUptoRow.holds Try.pinned (OpenSpec.upto fnExactClosureDeleteSpec)

/-- 'laws.FnExactCheckPath', WHERE WHAT IT READS IS OF BULK AT MOST 1048576: true; the input reads as it did. -/
def fnExactCheckPathUptoRow : OpenClaim := { program := "ytdaikdenpabfgaa", sum := "f4b1cb595327935cb7404a265de8a166623231c410f2b005c3b1beb660326f55", func := "loop.example/dataflow/laws.FnExactCheckPath", spec := "fnExactCheckPath", unfollowed := true, recurses := true, apart := false, narrowed := true }
def FnExactCheckPathUptoSaid : Prop := fnExactCheckPathUptoRow.holds Try.pinned (OpenSpec.upto fnExactCheckPathSpec)

/-- 'laws.FnExactCertifyPath', WHERE WHAT IT READS IS OF BULK AT MOST 1048576: true; the input reads as it did. -/
def fnExactCertifyPathUptoRow : OpenClaim := { program := "ytdaikdenpabfgaa", sum := "f4b1cb595327935cb7404a265de8a166623231c410f2b005c3b1beb660326f55", func := "loop.example/dataflow/laws.FnExactCertifyPath", spec := "fnExactCertifyPath", unfollowed := true, recurses := true, apart := false, narrowed := true }
def FnExactCertifyPathUptoSaid : Prop := fnExactCertifyPathUptoRow.holds Try.pinned (OpenSpec.upto fnExactCertifyPathSpec)

/-- 'laws.FnExactCertifyClosure', WHERE WHAT IT READS IS OF BULK AT MOST 1048576: true; the input reads as it did. -/
def fnExactCertifyClosureUptoRow : OpenClaim := { program := "ytdaikdenpabfgaa", sum := "f4b1cb595327935cb7404a265de8a166623231c410f2b005c3b1beb660326f55", func := "loop.example/dataflow/laws.FnExactCertifyClosure", spec := "fnExactCertifyClosure", unfollowed := true, recurses := true, apart := false, narrowed := true }
def FnExactCertifyClosureUptoSaid : Prop := fnExactCertifyClosureUptoRow.holds Try.pinned (OpenSpec.upto fnExactCertifyClosureSpec)

/-- 'laws.FnExactCheckClosure', WHERE WHAT IT READS IS OF BULK AT MOST 1048576: true; the input reads as it did. -/
def fnExactCheckClosureUptoRow : OpenClaim := { program := "ytdaikdenpabfgaa", sum := "f4b1cb595327935cb7404a265de8a166623231c410f2b005c3b1beb660326f55", func := "loop.example/dataflow/laws.FnExactCheckClosure", spec := "fnExactCheckClosure", unfollowed := true, recurses := true, apart := false, narrowed := true }
def FnExactCheckClosureUptoSaid : Prop := fnExactCheckClosureUptoRow.holds Try.pinned (OpenSpec.upto fnExactCheckClosureSpec)

end Rows
end Go.Proofs.Ytdaikdenpabfgaa
