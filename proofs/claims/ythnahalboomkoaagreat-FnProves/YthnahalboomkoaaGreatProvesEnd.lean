/-
  The law of proofs.
  (-DROP-: what the seat lacks is left out.)
-/
import Derived.Test.YthnahalboomkoaaGreatProvesLaw
import Derived.Test.YthnahalboomkoaaGreatPrfI3

namespace Go.Proofs.YthnahalboomkoaaGreat
open Go.RowKit

theorem lawProves (a : Option Addr) (len cap : Nat) (hm : len ≤ 9223372036854775807) (w : World) (hA : ArgAt w a len w.heap.size) :
    Calls Tryz.prog 3 #[.slice a len cap] w fun e w' => e = .returned (.bool true) ∧ Below w.heap.size w w' :=
  lawProves_of (fun wi pu hwf a n c hn ls hz ta al be ga de w hA => iMult_any wi pu hwf a n c hn ls hz ta al be ga de w hA) a len cap hm w hA

end Go.Proofs.YthnahalboomkoaaGreat
