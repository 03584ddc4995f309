/-
  The walks of the specification's paths by halves: whether a list is right, what two have in common.
  (-DROP-: what the seat lacks is left out.)
-/
import Derived.Test.YtengnjffajimdaaNibS
import Derived.Test.YtengnjffajimdaaBetween
namespace Go.Proofs.Ytengnjffajimdaa
open Go.RowKit

theorem all_nib {l : List Int} (h : ∀ j, j < l.length → isNib (l.getD j 0) = true) : l.all isNib = true := by
  rw [List.all_eq_true]
  intro x hx
  obtain ⟨j, hj, rfl⟩ := List.mem_iff_getElem.1 hx
  have := h j hj
  rwa [List.getD_eq_getElem?_getD, List.getElem?_eq_getElem hj, Option.getD_some] at this
theorem not_nib {l : List Int} {j : Nat} (hj : j < l.length) (h : isNib (l.getD j 0) = false) : nibOk l = false := by
  have h1 : l.all isNib = false := by
    rw [List.all_eq_false]
    refine ⟨l[j], List.getElem_mem hj, ?_⟩
    rw [List.getD_eq_getElem?_getD, List.getElem?_eq_getElem hj, Option.getD_some] at h
    rw [h]
    exact Bool.false_ne_true
  unfold nibOk
  rw [h1]
  rfl
theorem isNib_dec (x : Int) : decide (0 ≤ x ∧ x ≤ 15) = isNib x := by
  unfold isNib
  rw [Bool.decide_and]

set_option maxHeartbeats 1600000 in
set_option maxRecDepth 100000 in
theorem sNibOk_any (v : Value) (l : List Int) (hl : l.length ≤ 1048576) (w : World) (h : ZAt w w.heap.size v l) :
    Calls Try.prog 18 #[v] w fun e w' => e = .returned (.bool (nibOk l)) ∧ w = w' := by
  obtain ⟨a, cp, rfl, hA⟩ := h
  have HA : Hid (IntsAt w a l.length w.heap.size (fun j => l.getD j 0)) := hA
  have HL : Hid (∀ n, l.length = n → (∀ j, j < n → isNib (l.getD j 0) = true) → nibOk l = decide (n ≤ 64)) := fun n hn h => by
    unfold nibOk
    rw [all_nib (fun j hj => h j (by omega)), hn]
    rfl
  have HN : Hid (∀ j, j < l.length → isNib (l.getD j 0) = false → nibOk l = false) := fun j hj h => not_nib hj h
  obtain ⟨n, hn⟩ : ∃ n, l.length = n := ⟨_, rfl⟩
  have HE : Hid (l.length = n) := hn
  rw [hn] at HA HN hl ⊢
  clear hn hA
  go_enter Try.func18, Try.ntmps18
  go_wp2
  go_loopw [3] (fun i wr => ∃ (k : Nat), i = .int .i64 (k : Int) ∧ k ≤ n ∧ Hid (∀ j, j < k → isNib (l.getD j 0) = true) ∧ w = wr) (fun i _ => n - (intOf i).toNat)
  case atStart => exact ⟨0, rfl, Nat.zero_le _, fun j hj => absurd hj (Nat.not_lt_zero _), rfl⟩
  case round =>
    obtain ⟨k, rfl, hk, HK, rfl⟩ := hrel
    by_cases hlt : k < n
    · have hlt' : (k : Int) < (n : Int) := by omega
      have hk0 : (0 : Int) ≤ (k : Int) := by omega
      obtain ⟨b, off, rfl, hb, hz⟩ := HA.out k hlt
      replace hz : w.cell? ⟨b, off + k, none⟩ = some (.int .i64 (l.getD k 0)) := hz
      have HB : Hid (∀ w, Calls Try.prog 36 #[.int .i64 (l.getD k 0), .int .i64 0, .int .i64 15] w fun e w' => e = .returned (.bool (isNib (l.getD k 0))) ∧ w = w') := fun w => by
        rw [← isNib_dec]
        exact sBetween_any _ 0 15 w
      cases hnb : isNib (l.getD k 0)
      · rw [hnb] at HB
        have HF := HN.out k hlt hnb
        have HF' : Hid (nibOk l = false) := HF
        generalize l.getD k 0 = x at hz HB
        clear hnb HF
        go_wp2_with (go_at_call 36; refine (HB.out _).mono ?_; rintro e wz ⟨rfl, rfl⟩)
        go_ret
        exact ⟨by rw [HF'.out]; rfl, by trivial⟩
      · have HK2 : Hid (∀ j, j < k + 1 → isNib (l.getD j 0) = true) := fun j hj => by
          by_cases e : j = k
          · rw [e]; exact hnb
          · exact HK.out j (by omega)
        rw [hnb] at HB
        generalize l.getD k 0 = x at hz HB
        clear hnb HK
        go_wp2_with (go_at_call 36; refine (HB.out _).mono ?_; rintro e wz ⟨rfl, rfl⟩)
        go_roundw
        case rel => exact ⟨k + 1, by go_num, hlt, HK2, by trivial⟩
        case measure => simp [intOf]; omega
    · have hlt' : ¬ (k : Int) < (n : Int) := by omega
      obtain rfl : k = n := by omega
      have HF : Hid (nibOk l = decide (k ≤ 64)) := HL.out k HE.out HK.out
      have hdd : decide ((k : Int) ≤ 64) = decide (k ≤ 64) := by congr 1; apply propext; omega
      go_wp2
      go_ret
      refine ⟨?_, by trivial⟩
      rw [HF.out]
      first
        | rfl
        | (congr 2; apply propext; omega)
        | simp

end Go.Proofs.Ytengnjffajimdaa
