/-
  Lines of three points and of their sums: identities.
-/
import Derived.ProofKit
namespace Go.Proofs.YtldkdgbcnbgmiaaDoor

set_option maxHeartbeats 4000000 in
theorem coc_al (a b x y x1 x3 : Int) : ((y + b * (x3 - x)) - (-(a * ((a ^ 2 - x1 - x) - x) + y))) * ((b ^ 2 - x3 - x) - x1) - ((-(b * ((b ^ 2 - x3 - x) - x) + y)) - (y + a * (x1 - x))) * (x3 - (a ^ 2 - x1 - x)) - (b - a) * (x3 - (a ^ 2 - x1 - x)) * ((b ^ 2 - x3 - x) - x1) = (-a - b) * (x1 * (a ^ 2 - x1 - x) - (1 - 2 * a * (y - a * x) - x * (a ^ 2 - x))) + (a + b) * (x3 * (b ^ 2 - x3 - x) - (1 - 2 * b * (y - b * x) - x * (b ^ 2 - x))) := by grind

set_option maxHeartbeats 4000000 in
theorem coc_be (a b x y x1 x3 : Int) : ((a ^ 2 - x1 - x) * (x3 - (a ^ 2 - x1 - x)) + a * ((y + b * (x3 - x)) - (-(a * ((a ^ 2 - x1 - x) - x) + y)))) * ((b ^ 2 - x3 - x) - x1) - ((b ^ 2 - x3 - x) * ((b ^ 2 - x3 - x) - x1) + b * ((-(b * ((b ^ 2 - x3 - x) - x) + y)) - (y + a * (x1 - x)))) * (x3 - (a ^ 2 - x1 - x)) = (-a*b - x - x1 - x3) * (x1 * (a ^ 2 - x1 - x) - (1 - 2 * a * (y - a * x) - x * (a ^ 2 - x))) + (a*b + x + x1 + x3) * (x3 * (b ^ 2 - x3 - x) - (1 - 2 * b * (y - b * x) - x * (b ^ 2 - x))) := by grind

set_option maxHeartbeats 4000000 in
theorem coc_ga (a b x y x1 x3 : Int) : (((a ^ 2 - x1 - x) ^ 2 + 1) * (x3 - (a ^ 2 - x1 - x)) - a * ((y + b * (x3 - x)) - (-(a * ((a ^ 2 - x1 - x) - x) + y))) * (a ^ 2 - x1 - x) + (a * (x3 - (a ^ 2 - x1 - x)) - ((y + b * (x3 - x)) - (-(a * ((a ^ 2 - x1 - x) - x) + y)))) * (-(a * ((a ^ 2 - x1 - x) - x) + y))) * ((b ^ 2 - x3 - x) - x1) - (((b ^ 2 - x3 - x) ^ 2 + 1) * ((b ^ 2 - x3 - x) - x1) - b * ((-(b * ((b ^ 2 - x3 - x) - x) + y)) - (y + a * (x1 - x))) * (b ^ 2 - x3 - x) + (b * ((b ^ 2 - x3 - x) - x1) - ((-(b * ((b ^ 2 - x3 - x) - x) + y)) - (y + a * (x1 - x)))) * (-(b * ((b ^ 2 - x3 - x) - x) + y))) * (x3 - (a ^ 2 - x1 - x)) = (a^2*b^2 - a^2*x - a^2*x1 - a^2*x3 + a*b*x - a*y - 2*b^2*x - b^2*x1 + b*y + x^2 + 3*x*x1 + 2*x*x3 + x1^2 + 2*x1*x3 - 1) * (x1 * (a ^ 2 - x1 - x) - (1 - 2 * a * (y - a * x) - x * (a ^ 2 - x))) + (-a^2*b^2 + 2*a^2*x + a^2*x3 - a*b*x - a*y + b^2*x + b^2*x1 + b^2*x3 + b*y - x^2 - 2*x*x1 - 3*x*x3 - 2*x1*x3 - x3^2 + 1) * (x3 * (b ^ 2 - x3 - x) - (1 - 2 * b * (y - b * x) - x * (b ^ 2 - x))) := by grind

end Go.Proofs.YtldkdgbcnbgmiaaDoor
