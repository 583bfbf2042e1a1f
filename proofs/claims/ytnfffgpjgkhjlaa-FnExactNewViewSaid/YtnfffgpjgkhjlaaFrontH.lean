/- HELPER, no statement of the seat: AdvanceTime at any capacity. -/
import Derived.Test.YtnfffgpjgkhjlaaFru
namespace Go.Proofs.Ytnfffgpjgkhjlaa
open Go.RowKit Go.Sort
set_option linter.unusedSimpArgs false
set_option linter.unusedVariables false

end Go.Proofs.Ytnfffgpjgkhjlaa
