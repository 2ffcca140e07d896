/- planes: Join is the reference's, for 7 -/
import Derived.Test.YtllokfkagneneaaS
import Derived.Test.YtllokfkagneneaaK
namespace Go.Proofs.Ytllokfkagneneaa
theorem joins7a : ∀ a < 15, ∀ b < np 7, a = b ∨ joinS 7 a b = joinR 7 a b := by decide +kernel
theorem joins7b : ∀ a < 14, ∀ b < np 7, a + 15 = b ∨ joinS 7 (a + 15) b = joinR 7 (a + 15) b := by decide +kernel
theorem joins7c : ∀ a < 14, ∀ b < np 7, a + 29 = b ∨ joinS 7 (a + 29) b = joinR 7 (a + 29) b := by decide +kernel
theorem joins7d : ∀ a < 14, ∀ b < np 7, a + 43 = b ∨ joinS 7 (a + 43) b = joinR 7 (a + 43) b := by decide +kernel
end Go.Proofs.Ytllokfkagneneaa
