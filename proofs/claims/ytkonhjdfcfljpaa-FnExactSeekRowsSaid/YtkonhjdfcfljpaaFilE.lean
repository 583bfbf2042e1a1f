/- HELPER, no statement of the seat: Filter of both sides. -/
import Derived.Test.YtkonhjdfcfljpaaTst
import Derived.Test.YtkonhjdfcfljpaaBldM
namespace Go.Proofs.Ytkonhjdfcfljpaa
open Go.RowKit Go.Sort
set_option linter.unusedSimpArgs false
set_option linter.unusedVariables false


end Go.Proofs.Ytkonhjdfcfljpaa
