/-
  Texts of one's own, joined.
-/
import Derived.Test.YtkmelamfohfdkabPtPure
import Derived.Test.YtkmelamfohfdkabJoined38
import Derived.Test.YtkmelamfohfdkabScPure
import Derived.Test.YtkmelamfohfdkabProg
import Derived.WalkKit

/-
  Committees as the document tells of them: no program in here.
-/
namespace Go.Proofs.Ytkmelamfohfdkab

/-- So many keys are of the group, and not Zero. -/
def okN (f : Nat → Pt) : Nat → Bool
  | 0 => true
  | n + 1 => okN f n && (inGB (f n) && !(f n).2.2)
theorem okN_more (f : Nat → Pt) {k : Nat} (h : okN f k = false) : ∀ n, k ≤ n → okN f n = false
  | 0, hn => by rw [show k = 0 by omega] at h; exact h
  | n + 1, hn => by
    rcases Nat.lt_or_ge k (n + 1) with h1 | h1
    · show (okN f n && _) = false
      rw [okN_more f h n (by omega)]
      rfl
    · rw [show n + 1 = k by omega]; exact h
theorem okN_at (f : Nat → Pt) {n : Nat} (h : okN f n = true) {j : Nat} (hj : j < n) : inGB (f j) = true ∧ (f j).2.2 = false := by
  have h1 : okN f (j + 1) = true := by
    cases hk : okN f (j + 1)
    · rw [okN_more f hk n (by omega)] at h; cases h
    · rfl
  have h2 : (okN f j && (inGB (f j) && !(f j).2.2)) = true := h1
  simp only [Bool.and_eq_true, Bool.not_eq_true'] at h2
  exact h2.2
theorem okN_congr {f g : Nat → Pt} : ∀ {n : Nat}, (∀ j, j < n → f j = g j) → okN f n = okN g n
  | 0, _ => rfl
  | n + 1, h => by
    show (okN f n && _) = (okN g n && _)
    rw [okN_congr (fun j hj => h j (by omega)), h n (by omega)]
def cOk (f : Nat → Pt) (n : Nat) : Bool := okN f n && decide (n = 8)

/-- The texts of so many keys. -/
def txN (f : Nat → Pt) : Nat → ByteArray
  | 0 => ByteArray.empty
  | n + 1 => txN f n ++ ptText (f n)

/-- Whether a bit is set. -/
def bitB (b : Int) (i : Nat) : Bool := decide (b / 2 ^ i % 2 = 1)
/-- How many bits are set, of so many. -/
def bitsN (b : Int) : Nat → Int
  | 0 => 0
  | n + 1 => bitsN b n + b / 2 ^ n % 2
def bitsB (b : Int) : Int := if 0 ≤ b ∧ b ≤ 255 then bitsN b 8 else 0
theorem bitsN_in (b : Int) : ∀ n : Nat, 0 ≤ bitsN b n ∧ bitsN b n ≤ n
  | 0 => ⟨Int.le_refl _, Int.le_refl _⟩
  | n + 1 => by
    obtain ⟨h1, h2⟩ := bitsN_in b n
    show 0 ≤ bitsN b n + b / 2 ^ n % 2 ∧ bitsN b n + b / 2 ^ n % 2 ≤ ((n + 1 : Nat) : Int)
    omega

/-- The secret at a place. -/
def sec (n : Int) (i : Nat) : Int := 1 + (n * 31 + (i : Int) * 57 + 7) % 1007
def secs (seed : Int) : List Int := (List.range 8).map (sec (seed % 1000))
theorem sec_in (n : Int) (i : Nat) : 1 ≤ sec n i ∧ sec n i ≤ 1007 := by unfold sec; omega

end Go.Proofs.Ytkmelamfohfdkab

/-
  The walk of the specification's question whether a number lies between two.
  (-DROP-: what the seat lacks is left out.)
-/
namespace Go.Proofs.Ytkmelamfohfdkab
open Go.RowKit

set_option maxHeartbeats 400000 in
set_option maxRecDepth 100000 in
theorem sBetween_any (x a b : Int) (w : World) :
    Calls Try.prog 26 #[.int .i64 x, .int .i64 a, .int .i64 b] w fun e w' => e = .returned (.bool (decide (a ≤ x ∧ x ≤ b))) ∧ w = w' := by
  by_cases h0 : a ≤ x
  · by_cases h1 : x ≤ b
    · rw [decide_eq_true ⟨h0, h1⟩]
      go_enter Try.func26, Try.ntmps26
      go_wp2
      go_ret
      exact ⟨rfl, rfl⟩
    · rw [decide_eq_false (by omega)]
      go_enter Try.func26, Try.ntmps26
      go_wp2
      go_ret
      exact ⟨rfl, rfl⟩
  · rw [decide_eq_false (by omega)]
    go_enter Try.func26, Try.ntmps26
    go_wp2
    go_ret
    exact ⟨rfl, rfl⟩

end Go.Proofs.Ytkmelamfohfdkab
