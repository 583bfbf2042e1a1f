/- HELPER, no statement of the seat: Filter of both sides. -/
import Derived.Test.YtjobecoogjojjaaGreatTst
import Derived.Test.YtjobecoogjojjaaGreatBldM
namespace Go.Proofs.YtjobecoogjojjaaGreat
open Go.RowKit Go.Sort
set_option linter.unusedSimpArgs false
set_option linter.unusedVariables false


end Go.Proofs.YtjobecoogjojjaaGreat
