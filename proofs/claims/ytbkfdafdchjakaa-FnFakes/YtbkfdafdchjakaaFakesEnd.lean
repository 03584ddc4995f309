/-
  The law of proofs without a witness.
  (-DROP-: what the seat lacks is left out.)
-/
import Derived.Test.YtbkfdafdchjakaaJoined35
import Derived.Test.YtbkfdafdchjakaaPrfI3

namespace Go.Proofs.Ytbkfdafdchjakaa
open Go.RowKit

theorem lawFakes (a : Option Addr) (len cap : Nat) (hm : len ≤ 9223372036854775807) (w : World) (hA : ArgAt w a len w.heap.size) :
    Calls Try.prog 3 #[.slice a len cap] w fun e w' => e = .returned (.bool true) ∧ Below w.heap.size w w' :=
  lawFakes_of (fun wi pu hwf a n c hn ls hz ta al be ga de w hA => iMult_any wi pu hwf a n c hn ls hz ta al be ga de w hA) a len cap hm w hA

end Go.Proofs.Ytbkfdafdchjakaa
