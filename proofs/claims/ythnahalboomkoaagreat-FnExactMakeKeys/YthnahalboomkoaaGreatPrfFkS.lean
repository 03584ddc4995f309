/-
  The walk of the specification's proof without a witness.
  (-DROP-: what the seat lacks is left out.)
-/
import Derived.Test.YthnahalboomkoaaGreatPrfS2
import Derived.Test.YthnahalboomkoaaGreatPrfKeys
import Derived.Test.YthnahalboomkoaaGreatJoined24
import Derived.Test.YthnahalboomkoaaGreatOrdS
import Derived.Test.YthnahalboomkoaaGreatJoined13

namespace Go.Proofs.YthnahalboomkoaaGreat
open Go.RowKit

theorem infoPrF : (Tryz.prog.info? 44).map (·.size) = some 9 := by kernel_rfl
theorem infoTxF : (Tryz.prog.info? 31).map (·.size) = some 5 := by kernel_rfl
theorem onesPrF (A B C : Pt) : (prfC A B C).all (·.oneCell') = true := by simp [prfC, Value.oneCell']
theorem sWireK_any (ls : List (List Int)) (n wn : Nat) (a0 : Option Addr) (c0 : Nat) (a1 : Option Addr) (c1 : Nat) (a2 : Option Addr) (c2 : Nat) (ta al be ga de : Int) (j : Nat) (hj : j < wn) (w : World)
    (hU : NAt 1 w w.heap.size (.slice a0 wn c0) wn (qapN ls n 0 wn)) (hV : NAt 1 w w.heap.size (.slice a1 wn c1) wn (qapN ls n 1 wn)) (hX : NAt 1 w w.heap.size (.slice a2 wn c2) wn (qapN ls n 2 wn)) :
    Calls Tryz.prog 80 #[.agg #[.slice a0 wn c0, .slice a1 wn c1, .slice a2 wn c2], .agg #[.int .i64 ta, .int .i64 al, .int .i64 be, .int .i64 ga, .int .i64 de], .int .i64 (j : Int)] w fun e w' => e = .returned (.tuple #[.int .i64 (kW ls n ta 0 j), .int .i64 (kW ls n ta 1 j), .int .i64 (kAll ls n ta al be j)]) ∧ Below w.heap.size w w' := by
  have h := sWire_any a0 c0 a1 c1 a2 c2 wn _ _ _ (qapN_small ls n 0 wn) (qapN_small ls n 1 wn) (qapN_small ls n 2 wn) ta al be ga de j hj w hU hV hX
  rw [qapN_at ls n 0 wn j hj, qapN_at ls n 1 wn j hj, qapN_at ls n 2 wn j hj] at h
  exact h

/-- What lives beside the walk of keys. -/
structure QpSt (w wr : World) (gq : Nat) (wi pu : Int) (a : Option Addr) (n c : Nat) (ta al be ga de : Int) (ls : List (List Int)) (wn : Nat) (ua : Option Addr) (uc : Nat) (va : Option Addr) (vc : Nat) (xa : Option Addr) (xc : Nat) : Prop where
  bel : Below w.heap.size w wr
  sys : Blk wr w.heap.size 26 #[.int .i64 wi, .int .i64 pu, .slice a n c]
  tox : Blk wr (w.heap.size + 1) 31 #[.int .i64 ta, .int .i64 al, .int .i64 be, .int .i64 ga, .int .i64 de]
  qap : Blk wr gq 122 #[.slice ua wn uc, .slice va wn vc, .slice xa wn xc]
  nu : NAt 1 wr wr.heap.size (.slice ua wn uc) wn (qapN ls n 0 wn)
  nv : NAt 1 wr wr.heap.size (.slice va wn vc) wn (qapN ls n 1 wn)
  nx : NAt 1 wr wr.heap.size (.slice xa wn xc) wn (qapN ls n 2 wn)
theorem QpSt.on {w wr wr' : World} {gq : Nat} {wi pu : Int} {a : Option Addr} {n c : Nat} {ta al be ga de : Int} {ls : List (List Int)} {wn : Nat} {ua : Option Addr} {uc : Nat} {va : Option Addr} {vc : Nat} {xa : Option Addr} {xc : Nat} (h : QpSt w wr gq wi pu a n c ta al be ga de ls wn ua uc va vc xa xc) (hb : Below wr.heap.size wr wr') : QpSt w wr' gq wi pu a n c ta al be ga de ls wn ua uc va vc xa xc :=
  ⟨h.bel.trans (hb.mono h.bel.size), h.sys.on hb h.sys.lt, h.tox.on hb h.tox.lt, h.qap.on hb h.qap.lt, (h.nu.on hb).wide hb.size, (h.nv.on hb).wide hb.size, (h.nx.on hb).wide hb.size⟩

end Go.Proofs.YthnahalboomkoaaGreat
