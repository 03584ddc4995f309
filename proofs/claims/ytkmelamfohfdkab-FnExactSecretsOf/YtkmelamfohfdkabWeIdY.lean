/-
  Three points of one line, on the curve y y = x x x + x and on the other: an identity, the second part.
-/
import Derived.ProofKit
namespace Go.Proofs.Ytkmelamfohfdkab

set_option maxHeartbeats 4000000 in
theorem lineYI (u1 u2 l m : Int) : ((l ^ 2 - u1 - u2) + 1) * ((u1 ^ 2 + 1) * (u2 ^ 2 + 1) * (u1 - 1) * (u2 - 1) - 2 * (l * u1 + m) * (l * u2 + m) * (u1 + 1) * (u2 + 1)) - ((l ^ 2 - u1 - u2) - 1) * ((u1 ^ 2 + 1) * (u2 ^ 2 + 1) * (u1 + 1) * (u2 + 1) + 2 * (l * u1 + m) * (l * u2 + m) * (u1 - 1) * (u2 - 1)) = (-4*l^4*u1*u2 + 4*l^2*m^2 + 2*l^2*u1^2*u2 + 2*l^2*u1*u2^2 - 4*l*m*u1*u2 - 4*l*m + 2*m^2*u1 + 2*m^2*u2 + 2*u1^3*u2 + 6*u1^2*u2^2 - 2*u1^2 + 2*u1*u2^3 - 4*u1*u2 - 2*u2^2 - 2) * (u1 * u2 + (u1 + u2) * (l ^ 2 - u1 - u2) - 1 + 2 * l * m) + (4*l^4*u1 + 4*l^4*u2 + 8*l^3*m - 2*l^2*u1^2 - 4*l^2*u1*u2 - 2*l^2*u2^2 - 8*l^2 + 4*l*m*u1 + 4*l*m*u2 - 2*u1^3 - 8*u1^2*u2 - 8*u1*u2^2 - 2*u1 - 2*u2^3 - 2*u2) * (u1 * u2 * (l ^ 2 - u1 - u2) - m ^ 2) := by grind

end Go.Proofs.Ytkmelamfohfdkab
