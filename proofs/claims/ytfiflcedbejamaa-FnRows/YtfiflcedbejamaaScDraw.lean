/-
  The draws of scalars and of lists of them.
  (-DROP-: what the seat lacks is left out.)
-/
import Derived.Test.YtfiflcedbejamaaPlaces
import Derived.Test.YtfiflcedbejamaaScArg
namespace Go.Proofs.Ytfiflcedbejamaa
open Go.RowKit

/-- What an int holds. -/
def InsideS (z : Int) : Prop := -9223372036854775808 ≤ z ∧ z ≤ 9223372036854775807

def intsZ (l : List Int) : List Value := l.map fun (n : Int) => .int .i64 n

theorem intsZ_append (a b : List Int) : intsZ (a ++ b) = intsZ a ++ intsZ b := by simp [intsZ]

theorem intsZ_at {l : List Int} {j : Nat} (h : j < l.length) : (intsZ l)[j]? = some (.int .i64 (l.getD j 0)) := by simp [intsZ, List.getD, h]

/-- A value is a list of these ints, owned from B on. -/
def RowZ (B : Nat) (w : World) (v : Value) (l : List Int) : Prop := w.ownsRow B 3 1 v l.length (intsZ l)

theorem RowZ.ints {B : Nat} {w : World} {v : Value} {l : List Int} (h : RowZ B w v l) : ∃ a cp, v = .slice a l.length cp ∧ IntsAt w a l.length w.heap.size (fun j => l.getD j 0) := by
  rcases h.2 with ⟨rfl, h0⟩ | ⟨g, cp, cur, rfl, hg, hh, hrest⟩
  · exact ⟨none, 0, by rw [h0], fun j hj => by omega⟩
  · refine ⟨_, cp, rfl, fun j hj => ⟨g, 0, rfl, ?_, ?_⟩⟩
    · have hc := h.cellAt j (by omega)
      rw [intsZ_at hj] at hc
      exact World.block_lt_of_cell? w _ hc
    · have hc := h.cellAt j (by omega)
      rw [intsZ_at hj] at hc
      rw [Nat.zero_add]
      exact hc

set_option maxHeartbeats 800000 in
set_option maxRecDepth 100000 in
theorem scNum_any (c len cap : Nat) (a : Option Addr) (hm : len ≤ 1048576) (w : World) (hC : CurAt w c a len cap) (hA : ArgAt w a len c) :
    Calls Try.prog 76 #[.pointer (some ⟨c, 0, none⟩)] w fun e w' => ∃ x : Int, e = .returned (.int .i64 x) ∧ InsideS x ∧ CurEnd w w' c a len cap := by
  have HA : Hid (ArgAt w a len c) := hA
  have HC : Hid (CurAt w c a len cap) := hC
  clear hA hC
  go_enter Try.func76, Try.ntmps76
  go_wp2_with fail
  refine (below_any c len cap a hm 256 (by omega) (by omega) _ HC.out HA.out).mono ?_
  rintro e w2 ⟨y, rfl, y0, y1, hE⟩
  have HE2 : Hid (CurEnd w w2 c a len cap) := hE
  clear hE HA HC
  go_wp2_with fail
  have HW := HE2.out.alloc (.cells #[.int .i64 0, .int .i64 1, .int .i64 2, .int .i64 1008, .int .i64 1009, .int .i64 1010, .int .i64 (-1), .int .i64 (y * 3), .int .i64 500, .int .i64 (-9223372036854775808), .int .i64 9223372036854775807] 3)
  have hcl := HE2.out.cur.lt
  refine (pick_any c len cap a hm w2.heap.size 11 11 (by omega) (by omega) _ HW.cur HW.arg (by omega) InsideS (ints_new w2 [0, 1, 2, 1008, 1009, 1010, -1, y * 3, 500, -9223372036854775808, 9223372036854775807] _ rfl InsideS (by unfold InsideS; intro z hz; simp at hz; omega))).mono ?_
  rintro e w3 ⟨z, rfl, hz, hE⟩
  have HE3 : Hid (CurEnd w w3 c a len cap) := HW.trans hE
  have HZ : Hid (InsideS z) := hz
  clear hE HW hz
  go_wp2
  go_ret
  exact ⟨_, rfl, HZ.out, HE3.out⟩

/-- What DrawScDot leaves. -/
def DotEnd (w : World) (e : Ending) (w' : World) : Prop := ∃ (a1 : Option Addr) (n1 c1 : Nat) (a2 : Option Addr) (n2 c2 : Nat) (f g : Nat → Int), e = .returned (.tuple #[.slice a1 n1 c1, .slice a2 n2 c2]) ∧ n1 ≤ 5 ∧ n2 ≤ 5 ∧ IntsAt w' a1 n1 w'.heap.size f ∧ IntsAt w' a2 n2 w'.heap.size g ∧ Below w.heap.size w w'

end Go.Proofs.Ytfiflcedbejamaa
