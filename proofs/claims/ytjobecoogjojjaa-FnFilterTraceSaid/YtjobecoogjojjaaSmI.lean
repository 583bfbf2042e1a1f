/- HELPER, no statement of the seat: isSmall of the laws. -/
import Derived.Test.YtjobecoogjojjaaSmM
import Derived.Test.YtjobecoogjojjaaZbs
namespace Go.Proofs.Ytjobecoogjojjaa
open Go.RowKit Go.Sort
set_option linter.unusedSimpArgs false
set_option linter.unusedVariables false

end Go.Proofs.Ytjobecoogjojjaa
