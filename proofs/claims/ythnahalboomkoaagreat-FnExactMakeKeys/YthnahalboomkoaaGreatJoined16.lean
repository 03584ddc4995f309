/-
  Texts of one's own, joined.
-/
import Derived.Test.YthnahalboomkoaaGreatJoined15
import Derived.Test.YthnahalboomkoaaGreatJoined6
import Derived.Test.YthnahalboomkoaaGreatPrfKeys
import Derived.Test.YthnahalboomkoaaGreatJoined14

/-
  Rows of points that are owned.
-/
namespace Go.Proofs.YthnahalboomkoaaGreat
open Go.RowKit

/-- The cells of a list of points. -/
def ptsV (l : List Pt) : List Value := l.flatMap fun P => [.int .i64 P.1, .int .i64 P.2.1, .bool P.2.2]

theorem ptsV_append (a b : List Pt) : ptsV (a ++ b) = ptsV a ++ ptsV b := by simp [ptsV]

theorem ptsV_at : ∀ (l : List Pt) (j i : Nat), j < l.length → i < 3 → (ptsV l)[j * 3 + i]? = (pc (l.getD j pZ))[i]?
  | P :: l, 0, i, _, hi => by
    show ([.int .i64 P.1, .int .i64 P.2.1, .bool P.2.2] ++ ptsV l)[0 * 3 + i]? = _
    rw [List.getElem?_append_left (by simp; omega)]
    match i, hi with
    | 0, _ => rfl
    | 1, _ => rfl
    | 2, _ => rfl
  | P :: l, j + 1, i, hj, hi => by
    show ([.int .i64 P.1, .int .i64 P.2.1, .bool P.2.2] ++ ptsV l)[(j + 1) * 3 + i]? = _
    rw [List.getElem?_append_right (by simp; omega)]
    have := ptsV_at l j i (by simpa using hj) hi
    rw [show (j + 1) * 3 + i - [Value.int .i64 P.1, .int .i64 P.2.1, .bool P.2.2].length = j * 3 + i by simp; omega, this]
    simp

/-- A value is a list of these points, owned from B on. -/
def RowP (B : Nat) (w : World) (v : Value) (l : List Pt) : Prop := w.ownsRow B 35 3 v l.length (ptsV l)

theorem RowP.pts {B : Nat} {w : World} {v : Value} {l : List Pt} (h : RowP B w v l) : ∃ a cp, v = .slice a l.length cp ∧ PtsAt w a l.length w.heap.size (fun j => l.getD j pZ) := by
  rcases h.2 with ⟨rfl, h0⟩ | ⟨g, cp, cur, rfl, hg, hh, hrest⟩
  · exact ⟨none, 0, by rw [h0], fun j hj => by omega⟩
  · refine ⟨_, cp, rfl, fun j hj => ⟨g, 0, rfl, ?_, ?_, ?_, ?_⟩⟩
    · have hc := h.cellAt (j * 3 + 0) (by omega)
      rw [ptsV_at l j 0 hj (by omega)] at hc
      exact World.block_lt_of_cell? w _ hc
    · have hc := h.cellAt (j * 3 + 0) (by omega)
      rw [ptsV_at l j 0 hj (by omega)] at hc
      rw [Nat.zero_add]
      exact hc
    · have hc := h.cellAt (j * 3 + 1) (by omega)
      rw [ptsV_at l j 1 hj (by omega)] at hc
      rw [Nat.zero_add]
      exact hc
    · have hc := h.cellAt (j * 3 + 2) (by omega)
      rw [ptsV_at l j 2 hj (by omega)] at hc
      rw [Nat.zero_add]
      exact hc

theorem infoPz : (Tryz.prog.info? 35).map (fun i => (i.zero, i.size, i.bytes)) = some (some (.agg #[.int .i64 0, .int .i64 0, .bool false]), 3, 24) := by kernel_rfl

theorem cell_three_new (w : World) (x y z : Value) (t : TypeId) : ∀ j u, [x, y, z][j]? = some u → (w.alloc (.cells #[x, y, z] t)).cell? ((⟨w.heap.size, 0, none⟩ : Addr).add j) = some u := by
  intro j u hj
  rw [Addr.add_lit, Nat.zero_add, cell_of_row _ w.heap.size j #[x, y, z] t (0, 0) (heap_alloc_new w _)]
  simpa using hj

theorem three_cell (a b : Int) (c : Bool) : ∀ u ∈ [Value.int .i64 a, Value.int .i64 b, Value.bool c], u.oneCell' = true := by
  intro u hu
  simp at hu
  rcases hu with rfl | rfl | rfl <;> rfl

end Go.Proofs.YthnahalboomkoaaGreat

/-
  How often the base each point of a Maker is, and what is told of it.
  (-DROP-: what the seat lacks is left out.)
-/
namespace Go.Proofs.YthnahalboomkoaaGreat
open Go.RowKit

theorem infoMu : (Tryz.prog.info? 85).map (·.size) = some 5 := by kernel_rfl
theorem ones5s (a : Option Addr) (n c : Nat) (a1 : Option Addr) (n1 c1 : Nat) (a2 : Option Addr) (n2 c2 : Nat) (a3 : Option Addr) (n3 c3 : Nat) (a4 : Option Addr) (n4 c4 : Nat) : (#[Value.slice a n c, .slice a1 n1 c1, .slice a2 n2 c2, .slice a3 n3 c3, .slice a4 n4 c4]).all (·.oneCell') = true := by simp [Value.oneCell']
theorem infoZi : (Tryz.prog.info? 3).map (fun i => (i.zero, i.size, i.bytes)) = some (some (.int .i64 0), 1, 8) := by kernel_rfl
theorem ints3 {w : World} {g t c : Nat} (hc : g < c) {x y z : Int} (h : Blk w g t #[.int .i64 x, .int .i64 y, .int .i64 z]) : IntsAt w (some ⟨g, 0, none⟩) 3 c (fun j => ([x, y, z] : List Int).getD j 0) := fun j hj => by
  refine ⟨g, 0, rfl, hc, ?_⟩
  match j, hj with
  | 0, _ => exact h.cell 0
  | 1, _ => exact h.cell 1
  | 2, _ => exact h.cell 2
def kUs (ls : List (List Int)) (n : Nat) (ta : Int) (t k : Nat) : List Int := zls (kW ls n ta t) k
def kIn (ls : List (List Int)) (n : Nat) (ta al be gi : Int) (k : Nat) : List Int := zls (kBy ls n ta al be gi) k
def kLs (ls : List (List Int)) (n p : Nat) (ta al be di : Int) (k : Nat) : List Int := zls (fun j => kBy ls n ta al be di (p + 1 + j)) k
def kZs (n : Nat) (ta di : Int) (k : Nat) : List Int := zls (kZ n ta di) k
theorem zsV_zls (f : Nat → Int) (k : Nat) : zsV (zls f (k + 1)) = zsV (zls f k) ++ [.int .i64 (f k)] := by rw [zls_next, zsV_append]; rfl
/-- What is told of a Maker's points: how often each is the base. -/
def MulEnd (w : World) (wi pu : Int) (n : Nat) (ls : List (List Int)) (ta al be ga de : Int) (e : Ending) (w' : World) : Prop :=
  (toxB wi pu n ls ta al be ga de = false ∧ e = .returned (.tuple #[.agg #[.slice none 0 0, .slice none 0 0, .slice none 0 0, .slice none 0 0, .slice none 0 0], .bool false]) ∧ Below w.heap.size w w') ∨
  (toxB wi pu n ls ta al be ga de = true ∧ ∃ U V I L Z, e = .returned (.tuple #[.agg #[U, V, I, L, Z], .bool true]) ∧ RowF 3 1 w.heap.size w' (vec5 U V I L Z) (vec5 wi.toNat wi.toNat (pu.toNat + 1) (wi.toNat - pu.toNat - 1) (n - 1)) (vec5 (zsV (kUs ls n ta 0 wi.toNat)) (zsV (kUs ls n ta 1 wi.toNat)) (zsV (kIn ls n ta al be (scInv ga) (pu.toNat + 1))) (zsV (kLs ls n pu.toNat ta al be (scInv de) (wi.toNat - pu.toNat - 1))) (zsV (kZs n ta (scInv de) (n - 1)))) ∧ Below w.heap.size w w')
theorem RowF.low {e sz lo lo' : Nat} {w : World} {v : Nat → Value} {n : Nat → Nat} {xs : Nat → List Value} (h : RowF e sz lo w v n xs) (h2 : lo' ≤ lo) : RowF e sz lo' w v n xs := ⟨fun i hi => owns_low (h.row i hi) h2, h.apart⟩

end Go.Proofs.YthnahalboomkoaaGreat
