/- HELPER, no statement of the seat: Filter of both sides. -/
import Derived.Test.YtjikdlldochhcabTst
import Derived.Test.YtjikdlldochhcabBldM
namespace Go.Proofs.Ytjikdlldochhcab
open Go.RowKit Go.Sort
set_option linter.unusedSimpArgs false
set_option linter.unusedVariables false


end Go.Proofs.Ytjikdlldochhcab
