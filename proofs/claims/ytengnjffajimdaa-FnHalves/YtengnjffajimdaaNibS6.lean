/-
  The walk of the specification's ReadPrefix: where it says no at once.
  (-DROP-: what the seat lacks is left out.)
-/
import Derived.Test.YtengnjffajimdaaNibS5
import Derived.Test.YtengnjffajimdaaItemS1
namespace Go.Proofs.Ytengnjffajimdaa
open Go.RowKit

theorem rd_none {t : ByteArray} (h : rdP t = none) : rdPb t = false ∧ (rdP t).isSome = false ∧ rdPl t = [] := by
  unfold rdPb rdPl
  rw [h]
  exact ⟨rfl, rfl, rfl⟩
theorem rd_some {t : ByteArray} {l : List Int} {b : Bool} (h : rdP t = some (l, b)) : rdPb t = b ∧ (rdP t).isSome = true ∧ rdPl t = l := by
  unfold rdPb rdPl
  rw [h]
  exact ⟨rfl, rfl, rfl⟩

set_option maxHeartbeats 800000 in
set_option maxRecDepth 100000 in
theorem sRead_no (t : ByteArray) (h : t.size = 0 ∨ 0 < t.size ∧ (64 ≤ (t.data.toList.getD 0 0).toNat ∨ 40 < t.size)) (ht : t.size ≤ 1048576) (w : World) :
    Calls Try.prog 14 #[.string t] w fun e w' => ∃ u, e = .returned (.tuple #[u, .bool false, .bool false]) ∧ ZOwn w.heap.size w'.heap.size w' u [] ∧ Below w.heap.size w w' := by
  have HZ : Hid (∀ o : Obj, ∀ W, W = w.alloc (.cells #[] 3) → ZOwn w.heap.size W.heap.size W (.slice (some ⟨w.heap.size, 0, none⟩) 0 0) [] ∧ Below w.heap.size w W) := fun _ W e => by
    subst e
    exact ⟨ZOwn.of (World.ownsRow_lit _ _ _ (Nat.le_refl _) (by simp [maxLen]) (by simp)), (Below.refl _ _).alloc (Nat.le_refl _) _⟩
  by_cases h0 : t.size = 0
  · have e : t = ⟨#[]⟩ := no_bytes (by rw [ByteArray.toList_eq]; exact List.eq_nil_of_length_eq_zero (by rw [Array.length_toList]; exact h0))
    subst e
    clear h h0 ht
    go_enter Try.func14, Try.ntmps14
    go_wp2
    go_ret3
    exact ⟨_, rfl, HZ.out (.cells #[] 3) _ rfl⟩
  · have hp : 0 < t.size := by omega
    have hne : ¬ t.toList = [] := fun h => h0 (by rw [no_bytes h]; rfl)
    have e1 : t.data.toList.getD 0 0 = t[0] := by
      have hd : 0 < t.data.toList.length := by rw [Array.length_toList]; exact hp
      rw [List.getD_eq_getElem?_getD, List.getElem?_eq_getElem hd, Option.getD_some, Array.getElem_toList]
      rfl
    rw [e1] at h
    by_cases h64 : 64 ≤ t[0].toNat
    · have h64' : (64 : Int) ≤ (t[0].toNat : Int) := by omega
      clear h e1 h0
      go_enter Try.func14, Try.ntmps14
      go_wp2
      go_ret3
      exact ⟨_, rfl, HZ.out (.cells #[] 3) _ rfl⟩
    · have h64' : ¬ (64 : Int) ≤ (t[0].toNat : Int) := by omega
      have h40 : 40 < t.size := by rcases h with h | ⟨_, h | h⟩ <;> omega
      have h40' : (40 : Int) < (t.size : Int) := by omega
      clear h e1 h0
      go_enter Try.func14, Try.ntmps14
      go_wp2
      go_ret3
      exact ⟨_, rfl, HZ.out (.cells #[] 3) _ rfl⟩

end Go.Proofs.Ytengnjffajimdaa
