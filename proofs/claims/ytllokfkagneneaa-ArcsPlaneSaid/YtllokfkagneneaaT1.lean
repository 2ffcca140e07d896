/- planes: Join is the reference's, for 2, 3, 5 -/
import Derived.Test.YtllokfkagneneaaS
import Derived.Test.YtllokfkagneneaaK
namespace Go.Proofs.Ytllokfkagneneaa
theorem joins2 : ∀ a < np 2, ∀ b < np 2, a = b ∨ joinS 2 a b = joinR 2 a b := by decide +kernel
theorem joins3 : ∀ a < np 3, ∀ b < np 3, a = b ∨ joinS 3 a b = joinR 3 a b := by decide +kernel
theorem joins5 : ∀ a < np 5, ∀ b < np 5, a = b ∨ joinS 5 a b = joinR 5 a b := by decide +kernel
end Go.Proofs.Ytllokfkagneneaa
