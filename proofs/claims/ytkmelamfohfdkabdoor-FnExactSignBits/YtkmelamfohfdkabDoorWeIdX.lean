/-
  The same, the first part.
-/
import Derived.ProofKit
namespace Go.Proofs.YtkmelamfohfdkabDoor

set_option maxHeartbeats 4000000 in
theorem lineXI (u1 u2 l m : Int) : (-(l * (l ^ 2 - u1 - u2) + m)) * ((u1 ^ 2 + 1) * (u2 ^ 2 + 1) * (u1 - 1) * (u2 - 1) + 2 * (l * u1 + m) * (l * u2 + m) * (u1 + 1) * (u2 + 1)) - ((l ^ 2 - u1 - u2) ^ 2 + 1) * ((l * u1 + m) * (u2 + 1) * (u2 ^ 2 + 1) * (u1 - 1) + (u1 + 1) * (l * u2 + m) * (u1 ^ 2 + 1) * (u2 - 1)) = (-l^5*u1^2*u2 - l^5*u1*u2^2 - 5*l^5*u1*u2 + l^4*m*u1*u2 + l^3*m^2*u1 + l^3*m^2*u2 + 5*l^3*m^2 + 2*l^3*u1^3*u2 + 3*l^3*u1^2*u2^2 + 8*l^3*u1^2*u2 + 2*l^3*u1*u2^3 + 7*l^3*u1*u2^2 - l^3*u1 - l^3*u2 + l^3 - l^2*m^3 - l^2*m*u1^2*u2 + l^2*m*u1^2 - l^2*m*u1 + l^2*m*u2^2 - l^2*m*u2 - l*m^2*u1^2 - 4*l*m^2*u1 - l*m^2*u2^2 - 3*l*m^2*u2 - 2*l*m^2 - l*u1^4*u2 - 2*l*u1^3*u2^2 - 3*l*u1^3*u2 - 2*l*u1^2*u2^3 - 5*l*u1^2*u2^2 - l*u1^2*u2 + 2*l*u1^2 - l*u1*u2^4 - 2*l*u1*u2^3 - l*u1*u2^2 - 2*l*u1 + 2*l*u2^2 - 2*l*u2 - m^3*u1 - 2*m^3*u2 - 2*m^3 - m*u1^3 - 2*m*u1^2*u2^2 - 2*m*u1^2*u2 - m*u1^2 - m*u1*u2^3 - 2*m*u1*u2^2 - m*u1 - m*u2^3 - m*u2^2 - m*u2 - m) * (u1 * u2 + (u1 + u2) * (l ^ 2 - u1 - u2) - 1 + 2 * l * m) + (l^5*u1^2 + 2*l^5*u1*u2 + 5*l^5*u1 + l^5*u2^2 + 5*l^5*u2 + l^4*m*u1 + l^4*m*u2 + 10*l^4*m - 2*l^3*m^2 - 2*l^3*u1^3 - 5*l^3*u1^2*u2 - 7*l^3*u1^2 - 5*l^3*u1*u2^2 - 14*l^3*u1*u2 - 3*l^3*u1 - 2*l^3*u2^3 - 6*l^3*u2^2 - 3*l^3*u2 - 3*l^3 - 2*l^2*m*u1^2 - 2*l^2*m*u1*u2 - 10*l^2*m*u1 - 3*l^2*m*u2^2 - 8*l^2*m*u2 - 3*l^2*m - 2*l*m^2*u1 - 4*l*m^2*u2 - 4*l*m^2 + l*u1^4 + 3*l*u1^3*u2 + 2*l*u1^3 + 4*l*u1^2*u2^2 + 7*l*u1^2*u2 + l*u1^2 + 3*l*u1*u2^3 + 7*l*u1*u2^2 + 2*l*u1*u2 + 2*l*u1 + l*u2^4 + l*u2^3 + l*u2^2 + l*u2 + m*u1^3 + 3*m*u1^2*u2 + 2*m*u1^2 + 3*m*u1*u2^2 + 4*m*u1*u2 + 3*m*u1 + 2*m*u2^3 + 2*m*u2^2 + 4*m*u2 + 4*m) * (u1 * u2 * (l ^ 2 - u1 - u2) - m ^ 2) := by grind

end Go.Proofs.YtkmelamfohfdkabDoor
