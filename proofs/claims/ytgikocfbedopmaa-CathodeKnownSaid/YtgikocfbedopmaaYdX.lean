/- CathodeKnown: what the kernel reckons. -/
import Derived.Test.YtgikocfbedopmaaYdKnown
import Derived.Test.YtgikocfbedopmaaYcX
namespace Go.Proofs
open Go Go.Sx
theorem courses_yes : yes (exFn tabK 3000 40 n_law03_courses [] []) = true := by kernel_rfl
theorem courses_ok : Ans Try.prog n_law03_courses [] [] (.bool true) [] := yes_ans mixed tabK_ok courses_yes
end Go.Proofs
