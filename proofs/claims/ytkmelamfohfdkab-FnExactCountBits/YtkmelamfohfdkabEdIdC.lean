/-
  A sum of two points of that curve is one: an identity.
-/
import Derived.ProofKit
namespace Go.Proofs.Ytkmelamfohfdkab

set_option maxHeartbeats 4000000 in
theorem closI (x1 y1 x2 y2 : Int) : (x1 * y2 + y1 * x2) ^ 2 * (1 + x1 * x2 * y1 * y2) ^ 2 + (y1 * y2 - x1 * x2) ^ 2 * (1 - x1 * x2 * y1 * y2) ^ 2 - (1 - x1 * x2 * y1 * y2) ^ 2 * (1 + x1 * x2 * y1 * y2) ^ 2 + (x1 * y2 + y1 * x2) ^ 2 * (y1 * y2 - x1 * x2) ^ 2 = (-x1^2*x2^4*y1^2*y2^4 + x1^2*x2^4*y2^4 + x1^2*x2^4*y2^2 + x1^2*x2^2*y2^4 + x2^4*y1^2*y2^4 + x2^4*y1^2*y2^2 - 3*x2^4*y2^4 - 2*x2^4*y2^2 + x2^4 + x2^2*y1^2*y2^4 - 2*x2^2*y2^4 + 6*x2^2*y2^2 + y2^4) * (x1 ^ 2 + y1 ^ 2 - 1 + x1 ^ 2 * y1 ^ 2) + (-x1^4*x2^2*y2^2 + 4*x1^2*x2^2*y2^2 - x1^2*x2^2 - x1^2*y2^2 - x2^2*y1^4*y2^2 + 4*x2^2*y1^2*y2^2 - x2^2*y1^2 - 3*x2^2*y2^2 + x2^2 - y1^2*y2^2 + y2^2 + 1) * (x2 ^ 2 + y2 ^ 2 - 1 + x2 ^ 2 * y2 ^ 2) := by grind

end Go.Proofs.Ytkmelamfohfdkab
