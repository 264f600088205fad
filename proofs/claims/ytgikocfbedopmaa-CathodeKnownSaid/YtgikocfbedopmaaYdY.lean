/- CathodeKnown: what the kernel reckons. -/
import Derived.Test.YtgikocfbedopmaaYdKnown
import Derived.Test.YtgikocfbedopmaaYcX
namespace Go.Proofs
open Go Go.Sx
theorem verdicts_yes : yes (exFn tabK 20000 40 n_law03_verdicts [] []) = true := by kernel_rfl
theorem kverdicts_ok : Ans Try.prog n_law03_verdicts [] [] (.bool true) [] := yes_ans mixed tabK_ok verdicts_yes
end Go.Proofs
