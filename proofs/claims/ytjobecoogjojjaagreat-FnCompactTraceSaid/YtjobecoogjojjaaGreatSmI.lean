/- HELPER, no statement of the seat: isSmall of the laws. -/
import Derived.Test.YtjobecoogjojjaaGreatSmM
import Derived.Test.YtjobecoogjojjaaGreatZbs
namespace Go.Proofs.YtjobecoogjojjaaGreat
open Go.RowKit Go.Sort
set_option linter.unusedSimpArgs false
set_option linter.unusedVariables false

end Go.Proofs.YtjobecoogjojjaaGreat
