/- A part of the proof. -/
import Derived.Test.YtechakihgojbgaaPA
set_option linter.unusedSimpArgs false
set_option linter.unusedVariables false
namespace Go.Proofs
open Go Go.Sx
end Go.Proofs

