/-
  How often the base each point of a Maker is, and what is told of it.
  (-DROP-: what the seat lacks is left out.)
-/
import Derived.Test.YthnahalboomkoaaGreatJoined17
import Derived.Test.YthnahalboomkoaaGreatPrfRows

namespace Go.Proofs.YthnahalboomkoaaGreat
open Go.RowKit

theorem infoMu : (Tryz.prog.info? 85).map (·.size) = some 5 := by kernel_rfl
theorem ones5s (a : Option Addr) (n c : Nat) (a1 : Option Addr) (n1 c1 : Nat) (a2 : Option Addr) (n2 c2 : Nat) (a3 : Option Addr) (n3 c3 : Nat) (a4 : Option Addr) (n4 c4 : Nat) : (#[Value.slice a n c, .slice a1 n1 c1, .slice a2 n2 c2, .slice a3 n3 c3, .slice a4 n4 c4]).all (·.oneCell') = true := by simp [Value.oneCell']
theorem infoZi : (Tryz.prog.info? 3).map (fun i => (i.zero, i.size, i.bytes)) = some (some (.int .i64 0), 1, 8) := by kernel_rfl
theorem ints3 {w : World} {g t c : Nat} (hc : g < c) {x y z : Int} (h : Blk w g t #[.int .i64 x, .int .i64 y, .int .i64 z]) : IntsAt w (some ⟨g, 0, none⟩) 3 c (fun j => ([x, y, z] : List Int).getD j 0) := fun j hj => by
  refine ⟨g, 0, rfl, hc, ?_⟩
  match j, hj with
  | 0, _ => exact h.cell 0
  | 1, _ => exact h.cell 1
  | 2, _ => exact h.cell 2
def kUs (ls : List (List Int)) (n : Nat) (ta : Int) (t k : Nat) : List Int := zls (kW ls n ta t) k
def kIn (ls : List (List Int)) (n : Nat) (ta al be gi : Int) (k : Nat) : List Int := zls (kBy ls n ta al be gi) k
def kLs (ls : List (List Int)) (n p : Nat) (ta al be di : Int) (k : Nat) : List Int := zls (fun j => kBy ls n ta al be di (p + 1 + j)) k
def kZs (n : Nat) (ta di : Int) (k : Nat) : List Int := zls (kZ n ta di) k
theorem zsV_zls (f : Nat → Int) (k : Nat) : zsV (zls f (k + 1)) = zsV (zls f k) ++ [.int .i64 (f k)] := by rw [zls_next, zsV_append]; rfl
/-- What is told of a Maker's points: how often each is the base. -/
def MulEnd (w : World) (wi pu : Int) (n : Nat) (ls : List (List Int)) (ta al be ga de : Int) (e : Ending) (w' : World) : Prop :=
  (toxB wi pu n ls ta al be ga de = false ∧ e = .returned (.tuple #[.agg #[.slice none 0 0, .slice none 0 0, .slice none 0 0, .slice none 0 0, .slice none 0 0], .bool false]) ∧ Below w.heap.size w w') ∨
  (toxB wi pu n ls ta al be ga de = true ∧ ∃ U V I L Z, e = .returned (.tuple #[.agg #[U, V, I, L, Z], .bool true]) ∧ RowF 3 1 w.heap.size w' (vec5 U V I L Z) (vec5 wi.toNat wi.toNat (pu.toNat + 1) (wi.toNat - pu.toNat - 1) (n - 1)) (vec5 (zsV (kUs ls n ta 0 wi.toNat)) (zsV (kUs ls n ta 1 wi.toNat)) (zsV (kIn ls n ta al be (scInv ga) (pu.toNat + 1))) (zsV (kLs ls n pu.toNat ta al be (scInv de) (wi.toNat - pu.toNat - 1))) (zsV (kZs n ta (scInv de) (n - 1)))) ∧ Below w.heap.size w w')
theorem RowF.low {e sz lo lo' : Nat} {w : World} {v : Nat → Value} {n : Nat → Nat} {xs : Nat → List Value} (h : RowF e sz lo w v n xs) (h2 : lo' ≤ lo) : RowF e sz lo' w v n xs := ⟨fun i hi => owns_low (h.row i hi) h2, h.apart⟩

end Go.Proofs.YthnahalboomkoaaGreat
