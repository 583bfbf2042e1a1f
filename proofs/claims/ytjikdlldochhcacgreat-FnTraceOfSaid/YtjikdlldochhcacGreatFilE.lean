/- HELPER, no statement of the seat: Filter of both sides. -/
import Derived.Test.YtjikdlldochhcacGreatTst
import Derived.Test.YtjikdlldochhcacGreatBldM
namespace Go.Proofs.YtjikdlldochhcacGreat
open Go.RowKit Go.Sort
set_option linter.unusedSimpArgs false
set_option linter.unusedVariables false


end Go.Proofs.YtjikdlldochhcacGreat
