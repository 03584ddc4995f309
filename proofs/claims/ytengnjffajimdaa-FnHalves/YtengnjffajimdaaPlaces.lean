/-
  The draws: twelve places.
  (-DROP-: what the seat lacks is left out.)
-/
import Derived.Test.YtengnjffajimdaaDraw
namespace Go.Proofs.Ytengnjffajimdaa
open Go.RowKit

def intsV (l : List Nat) : List Value := l.map fun (n : Nat) => .int .i64 (n : Int)

theorem intsV_append (a b : List Nat) : intsV (a ++ b) = intsV a ++ intsV b := by simp [intsV]

theorem intsV_length (a : List Nat) : (intsV a).length = a.length := by simp [intsV]

theorem intsV_at {l : List Nat} {j : Nat} (h : j < l.length) : (intsV l)[j]? = some (.int .i64 (l[j] : Int)) := by simp [intsV, h]

theorem info3 : (Try.prog.info? 3).map (fun i => (i.zero, i.size, i.bytes)) = some (some (.int .i64 0), 1, 8) := by kernel_rfl

set_option maxRecDepth 100000 in
theorem big_any (len cap : Nat) (a : Option Addr) (hm : len ≤ 9223372036854775807) (w : World) :
    Calls Try.prog 9 #[.slice a len cap] w fun e w' => e = .returned (.bool (decide (1048576 < len))) ∧ w = w' := by
  by_cases h : 1048576 < len
  · have h' : (1048576 : Int) < (len : Int) := by omega
    have hd : decide (1048576 < len) = true := by simpa using h
    rw [hd]
    clear h hd
    go_enter Try.func9, Try.ntmps9
    go_wp2
    go_ret
    exact ⟨rfl, rfl⟩
  · have h' : ¬ (1048576 : Int) < (len : Int) := by omega
    have hd : decide (1048576 < len) = false := by simpa using h
    rw [hd]
    clear h hd
    go_enter Try.func9, Try.ntmps9
    go_wp2
    go_ret
    exact ⟨rfl, rfl⟩

/-- What DrawPlaces leaves. -/
def PlacesEnd (w : World) (e : Ending) (w' : World) : Prop := ∃ (g cp : Nat) (x : Nat → Nat), e = .returned (.slice (some ⟨g, 0, none⟩) 12 cp) ∧ g < w'.heap.size ∧ w.heap.size ≤ g ∧ (∀ j, j < 12 → x j < 10000 ∧
  w'.cell? ⟨g, j, none⟩ = some (.int .i64 (x j : Int))) ∧ Below w.heap.size w w'

end Go.Proofs.Ytengnjffajimdaa
