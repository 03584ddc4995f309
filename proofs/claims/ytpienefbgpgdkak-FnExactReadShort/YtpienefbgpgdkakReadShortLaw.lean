/-
  The walks of ReadShort on both sides, and of the law on it.
-/
import Derived.Test.YtpienefbgpgdkakReadVarLaw
import Derived.Test.YtpienefbgpgdkakShelf
namespace Go.Proofs.Ytpienefbgpgdkak
open Go.RowKit

theorem rd_bound (f : Nat) : ∀ (l : List UInt8) (k n m j : Nat), rd f l k n = some (m, j) → j ≤ k + l.length ∧ m ≤ 1000000000 := by
  induction f with
  | zero => intro l k n m j h; simp [rd] at h
  | succ f ih =>
    intro l k n m j h
    match l, h with
    | [], h => simp [rd] at h
    | b :: r, h =>
      rw [rd] at h
      by_cases hb : b.toNat < 128
      · rw [if_pos hb] at h
        by_cases hc : 1000000000 < n + b.toNat % 128 * 128 ^ k ∨ (b.toNat = 0 ∧ 0 < k)
        · rw [if_pos hc] at h; cases h
        · rw [if_neg hc] at h
          obtain ⟨rfl, rfl⟩ := Prod.mk.inj (Option.some.inj h)
          simp only [List.length_cons]
          refine ⟨by omega, ?_⟩
          have := fun x => hc (.inl x)
          omega
      · rw [if_neg hb] at h
        have := ih r (k + 1) _ m j h
        simp only [List.length_cons]
        omega

theorem rdAt_bound {s : ByteArray} {a n j : Nat} (ha : a ≤ s.size) (h : rdAt s a = some (n, j)) : j ≤ s.size ∧ n ≤ 1000000000 := by
  unfold rdAt at h
  cases hr : rd 5 (s.data.toList.drop a) 0 0 with
  | none => rw [hr] at h; cases h
  | some x =>
    rw [hr] at h
    obtain ⟨m, k⟩ := x
    simp at h
    obtain ⟨rfl, rfl⟩ := h
    have := rd_bound 5 _ _ _ _ _ hr
    simp at this
    have e : s.size = s.data.size := rfl
    omega

/-- What ReadShort answers behind what ReadVar answered. -/
def shortOf (s : ByteArray) : Option (Nat × Nat) → Value
  | none => .tuple #[.string ⟨#[]⟩, .int .i64 0, .bool false]
  | some (n, j) => if n ≤ 20000 ∧ n ≤ s.size - j then .tuple #[.string (s.extract j (j + n)), .int .i64 ((j + n : Nat) : Int), .bool true] else .tuple #[.string ⟨#[]⟩, .int .i64 0, .bool false]

def rdAny (s : ByteArray) (a : Int) : Option (Nat × Nat) := if 0 ≤ a ∧ a ≤ s.size then rdAt s a.toNat else none

theorem rdAny_bound {s : ByteArray} {a : Int} {n j : Nat} (h : rdAny s a = some (n, j)) : j ≤ s.size ∧ n ≤ 1000000000 := by
  unfold rdAny at h
  by_cases ha : 0 ≤ a ∧ a ≤ s.size
  · rw [if_pos ha] at h; exact rdAt_bound (by omega) h
  · rw [if_neg ha] at h; cases h

set_option maxRecDepth 100000 in
theorem clone_any (s : ByteArray) (hs : s.size ≤ 281474976710656) (w : World) :
    Calls Try.prog 20 #[.string s] w fun e w' => e = .returned (.string s) ∧ Below w.heap.size w w' := by
  go_enter Try.func20, Try.ntmps20
  go_wp2_with (go_at_call 22; refine (Try.stringslite_Clone s _ hs).mono ?_; rintro e w1 ⟨rfl, hb⟩)
  go_ret
  exact ⟨rfl, hb⟩

set_option maxHeartbeats 800000 in
set_option maxRecDepth 100000 in
theorem sReadShort_any (s : ByteArray) (a : Int) (hs : s.size ≤ 1048576) (w : World) :
    Calls Try.prog 14 #[.string s, .int .i64 a] w fun e w' => e = .returned (shortOf s (rdAny s a)) ∧ Below w.heap.size w w' := by
  have hi0 : ∀ w : World, Calls Try.prog 10 #[.string s, .int .i64 a] w fun e w' => e = .returned (ret3 (rdAny s a)) ∧ Below w.heap.size w w' := fun w => sReadVar_any s a hs w
  rcases ho : rdAny s a with _ | ⟨n, j⟩
  · rw [ho] at hi0
    have HI : Hid (∀ w : World, Calls Try.prog 10 #[.string s, .int .i64 a] w fun e w' => e = .returned (.tuple #[.int .i64 0, .int .i64 0, .bool false]) ∧ Below w.heap.size w w') := hi0
    clear hi0 ho
    go_enter Try.func14, Try.ntmps14
    go_wp2_with (go_at_call 10; refine (HI.out _).mono ?_; rintro e w1 ⟨rfl, hb1⟩)
    go_ret3
    exact ⟨rfl, hb1⟩
  · obtain ⟨hj, hn⟩ := rdAny_bound ho
    rw [ho] at hi0
    have HI : Hid (∀ w : World, Calls Try.prog 10 #[.string s, .int .i64 a] w fun e w' => e = .returned (.tuple #[.int .i64 (n : Int), .int .i64 (j : Int), .bool true]) ∧ Below w.heap.size w w') := hi0
    clear hi0 ho
    by_cases h1 : n ≤ 20000
    · have h1' : ¬ (20000 : Int) < (n : Int) := by omega
      by_cases h2 : n ≤ s.size - j
      · have h2' : ¬ (s.size : Int) - (j : Int) < (n : Int) := by omega
        have hsl := cut_text s j (j + n) (by omega) (by omega) ((j : Int) + (n : Int)) (by omega)
        have e : shortOf s (some (n, j)) = .tuple #[.string (s.extract j (j + n)), .int .i64 ((j : Int) + (n : Int)), .bool true] := by
          rw [shortOf, if_pos ⟨h1, h2⟩]; simp
        rw [e]
        clear e
        go_enter Try.func14, Try.ntmps14
        go_wp2_with (go_at_call 10; refine (HI.out _).mono ?_; rintro e w1 ⟨rfl, hb1⟩)
        go_ret3
        exact ⟨rfl, hb1⟩
      · have h2' : (s.size : Int) - (j : Int) < (n : Int) := by omega
        have e : shortOf s (some (n, j)) = .tuple #[.string ⟨#[]⟩, .int .i64 0, .bool false] := by
          rw [shortOf, if_neg (by omega)]
        rw [e]
        clear e
        go_enter Try.func14, Try.ntmps14
        go_wp2_with (go_at_call 10; refine (HI.out _).mono ?_; rintro e w1 ⟨rfl, hb1⟩)
        go_ret3
        exact ⟨rfl, hb1⟩
    · have h1' : (20000 : Int) < (n : Int) := by omega
      have e : shortOf s (some (n, j)) = .tuple #[.string ⟨#[]⟩, .int .i64 0, .bool false] := by
        rw [shortOf, if_neg (by omega)]
      rw [e]
      clear e
      go_enter Try.func14, Try.ntmps14
      go_wp2_with (go_at_call 10; refine (HI.out _).mono ?_; rintro e w1 ⟨rfl, hb1⟩)
      go_ret3
      exact ⟨rfl, hb1⟩

set_option maxHeartbeats 800000 in
set_option maxRecDepth 100000 in
theorem iReadShort_any (s : ByteArray) (a : Int) (hs : s.size ≤ 1048576) (w : World) :
    Calls Try.prog 15 #[.string s, .int .i64 a] w fun e w' => e = .returned (shortOf s (rdAny s a)) ∧ Below w.heap.size w w' := by
  have hi0 : ∀ w : World, Calls Try.prog 11 #[.string s, .int .i64 a] w fun e w' => e = .returned (ret3 (rdAny s a)) ∧ Below w.heap.size w w' := fun w => iReadVar_any s a hs w
  rcases ho : rdAny s a with _ | ⟨n, j⟩
  · rw [ho] at hi0
    have HI : Hid (∀ w : World, Calls Try.prog 11 #[.string s, .int .i64 a] w fun e w' => e = .returned (.tuple #[.int .i64 0, .int .i64 0, .bool false]) ∧ Below w.heap.size w w') := hi0
    clear hi0 ho
    go_enter Try.func15, Try.ntmps15
    go_wp2_with (go_at_call 11; refine (HI.out _).mono ?_; rintro e w1 ⟨rfl, hb1⟩)
    go_ret3
    exact ⟨rfl, hb1⟩
  · obtain ⟨hj, hn⟩ := rdAny_bound ho
    rw [ho] at hi0
    have HI : Hid (∀ w : World, Calls Try.prog 11 #[.string s, .int .i64 a] w fun e w' => e = .returned (.tuple #[.int .i64 (n : Int), .int .i64 (j : Int), .bool true]) ∧ Below w.heap.size w w') := hi0
    clear hi0 ho
    by_cases h1 : n ≤ 20000
    · have h1' : ¬ (20000 : Int) < (n : Int) := by omega
      by_cases h2 : n ≤ s.size - j
      · have h2' : ¬ (s.size : Int) - (j : Int) < (n : Int) := by omega
        have hsl := cut_text s j (j + n) (by omega) (by omega) ((j : Int) + (n : Int)) (by omega)
        have e : shortOf s (some (n, j)) = .tuple #[.string (s.extract j (j + n)), .int .i64 ((j : Int) + (n : Int)), .bool true] := by
          rw [shortOf, if_pos ⟨h1, h2⟩]; simp
        rw [e]
        clear e
        have hsz : (s.extract j (j + n)).size ≤ 281474976710656 := by rw [ByteArray.size_extract]; omega
        go_enter Try.func15, Try.ntmps15
        go_wp2_with (first | (go_at_call 11; refine (HI.out _).mono ?_; rintro e w1 ⟨rfl, hb1⟩) | (go_at_call 20; refine (clone_any _ hsz _).mono ?_; rintro e w2 ⟨rfl, hb2⟩))
        go_ret3
        exact ⟨rfl, hb1.trans (hb2.mono hb1.size)⟩
      · have h2' : (s.size : Int) - (j : Int) < (n : Int) := by omega
        have e : shortOf s (some (n, j)) = .tuple #[.string ⟨#[]⟩, .int .i64 0, .bool false] := by
          rw [shortOf, if_neg (by omega)]
        rw [e]
        clear e
        go_enter Try.func15, Try.ntmps15
        go_wp2_with (go_at_call 11; refine (HI.out _).mono ?_; rintro e w1 ⟨rfl, hb1⟩)
        go_ret3
        exact ⟨rfl, hb1⟩
    · have h1' : (20000 : Int) < (n : Int) := by omega
      have e : shortOf s (some (n, j)) = .tuple #[.string ⟨#[]⟩, .int .i64 0, .bool false] := by
        rw [shortOf, if_neg (by omega)]
      rw [e]
      clear e
      go_enter Try.func15, Try.ntmps15
      go_wp2_with (go_at_call 11; refine (HI.out _).mono ?_; rintro e w1 ⟨rfl, hb1⟩)
      go_ret3
      exact ⟨rfl, hb1⟩

theorem shortOf_form (s : ByteArray) (o : Option (Nat × Nat)) : ∃ (t : ByteArray) (y : Int) (b : Bool), shortOf s o = .tuple #[.string t, .int .i64 y, .bool b] := by
  cases o with
  | none => exact ⟨_, _, _, rfl⟩
  | some p =>
    obtain ⟨n, j⟩ := p
    by_cases h : n ≤ 20000 ∧ n ≤ s.size - j
    · exact ⟨_, _, _, by rw [shortOf, if_pos h]⟩
    · exact ⟨_, _, _, by rw [shortOf, if_neg h]⟩

set_option maxHeartbeats 800000 in
set_option maxRecDepth 100000 in
theorem lawReadShort (s : ByteArray) (a : Int) (hs : s.size ≤ maxLen) (_hwf : (Lit.int .i64 a).wf = true) (w : World) :
    Calls Try.prog 6 #[.string s, .int .i64 a] w fun e w' => e = .returned (.bool true) ∧ Below w.heap.size w w' := by
  unfold maxLen at hs
  by_cases hb : s.size ≤ 1048576
  · have hb' : ¬ (1048576 : Int) < (s.size : Int) := by omega
    have hi := fun w => iReadShort_any s a hb w
    have hS := fun w => sReadShort_any s a hb w
    obtain ⟨x, y, b, hf⟩ := shortOf_form s (rdAny s a)
    rw [hf] at hi hS
    clear hf
    have HI : Hid (∀ w : World, Calls Try.prog 15 #[.string s, .int .i64 a] w fun e w' => e = .returned (.tuple #[.string x, .int .i64 y, .bool b]) ∧ Below w.heap.size w w') := hi
    have HS : Hid (∀ w : World, Calls Try.prog 14 #[.string s, .int .i64 a] w fun e w' => e = .returned (.tuple #[.string x, .int .i64 y, .bool b]) ∧ Below w.heap.size w w') := hS
    clear hi hS
    go_enter Try.func6, Try.ntmps6
    go_wp2_with (first | (go_at_call 14; refine (HS.out _).mono ?_; rintro e w1 ⟨rfl, hb1⟩) | (go_at_call 15; refine (HI.out _).mono ?_; rintro e w2 ⟨rfl, hb2⟩))
    go_ret
    exact ⟨rfl, hb1.trans (hb2.mono hb1.size)⟩
  · have hb' : (1048576 : Int) < (s.size : Int) := by omega
    go_enter Try.func6, Try.ntmps6
    go_wp2
    go_ret
    exact ⟨rfl, Below.refl _ _⟩

end Go.Proofs.Ytpienefbgpgdkak
