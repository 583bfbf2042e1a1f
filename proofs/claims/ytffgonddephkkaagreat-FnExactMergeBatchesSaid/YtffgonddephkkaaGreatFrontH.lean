/- HELPER, no statement of the seat: AdvanceTime at any capacity. -/
import Derived.Test.YtffgonddephkkaaGreatFru
namespace Go.Proofs.YtffgonddephkkaaGreat
open Go.RowKit Go.Sort
set_option linter.unusedSimpArgs false
set_option linter.unusedVariables false

end Go.Proofs.YtffgonddephkkaaGreat
