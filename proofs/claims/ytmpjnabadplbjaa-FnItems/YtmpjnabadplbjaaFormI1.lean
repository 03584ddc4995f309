/-
  The walks of the program's withHead and of the two written methods.
  (-DROP-: what the seat lacks is left out.)
-/
import Derived.Test.YtmpjnabadplbjaaFormMem
import Derived.Test.YtmpjnabadplbjaaNumI
namespace Go.Proofs.Ytmpjnabadplbjaa
open Go.RowKit

set_option maxHeartbeats 1600000 in
set_option maxRecDepth 100000 in
theorem iHead_any (low : Nat) (t : ByteArray) (ht : t.size ≤ 1000000000000) (hl : low ≤ 192) (w : World) :
    Calls Try.prog 80 #[.int .i64 (low : Int), .string t] w fun e w' => e = .returned (.string (headB t.size low ++ t)) ∧ Below w.heap.size w w' := by
  have HW : Hid (Below w.heap.size w w) := Below.refl _ _
  by_cases h : t.size ≤ 55
  · have HE : Hid (headB t.size low = ⟨#[UInt8.ofNat (low + t.size)]⟩) := by show _ = _; rw [headB, if_pos h]
    obtain ⟨a, ha⟩ : ∃ a : Nat, a = low + t.size := ⟨_, rfl⟩
    rw [← ha] at HE
    have hw8 : IntKind.u8.wrap ((low : Int) + (t.size : Int)) = (a : Int) := by rw [IntWalk.u8_in _ (by omega)]; omega
    have hcv := text1 a (by omega)
    have hsz : ¬ 9223372036854775807 < 1 + t.size := by omega
    have h' : ¬ (55 : Int) < (t.size : Int) := by omega
    clear ha
    generalize headB t.size low = H at HE ⊢
    go_enter Try.func80, Try.ntmps80
    go_wp2
    go_ret
    exact ⟨by rw [HE.out]; rfl, HW.out.alloc HW.out.size _⟩
  · have HE : Hid (headB t.size low = ⟨#[UInt8.ofNat (low + 55 + (numT t.size).size)]⟩ ++ numT t.size) := by show _ = _; rw [headB, if_neg h]
    have h8 := numT_size t.size
    have HC : Hid (Calls Try.prog 17 #[.int .i64 (t.size : Int)] w fun e w' => e = .returned (.string (numT t.size)) ∧ Below w.heap.size w w') := iNumText_nat t.size (by omega) w
    generalize numT t.size = s at HE h8 HC
    obtain ⟨a, ha⟩ : ∃ a : Nat, a = low + 55 + s.size := ⟨_, rfl⟩
    rw [← ha] at HE
    have hw8 : IntKind.u8.wrap ((low : Int) + (55 + (s.size : Int))) = (a : Int) := by rw [IntWalk.u8_in _ (by omega)]; omega
    have hcv := text1 a (by omega)
    have hsz : ¬ 9223372036854775807 < 1 + s.size := by omega
    have hsz2 : ¬ 9223372036854775807 < 1 + s.size + t.size := by omega
    have h' : (55 : Int) < (t.size : Int) := by omega
    clear ha
    generalize headB t.size low = H at HE ⊢
    go_enter Try.func80, Try.ntmps80
    go_wp2_with fail
    refine HC.out.mono ?_
    rintro f w2 ⟨rfl, hb2⟩
    go_wp2
    go_ret
    exact ⟨by rw [HE.out]; rfl, hb2.alloc hb2.size _⟩

set_option maxHeartbeats 1600000 in
set_option maxRecDepth 100000 in
theorem iWrText_any (t : ByteArray) (ht : t.size ≤ 1000000) (w : World) :
    Calls Try.prog 79 #[.string t] w fun f w' => f = .returned (.string (if lone t then t else headB t.size 128 ++ t)) ∧ Below w.heap.size w w' := by
  have HB : Hid (Below w.heap.size w w) := Below.refl _ _
  have HC : Hid (∀ w, Calls Try.prog 80 #[.int .i64 128, .string t] w fun e w' => e = .returned (.string (headB t.size 128 ++ t)) ∧ Below w.heap.size w w') := fun w => iHead_any 128 t (by omega) (by decide) w
  by_cases h1 : t.size = 1
  · obtain ⟨b, rfl⟩ := one_byte h1
    have HL : Hid (lone ⟨#[b]⟩ = decide (b.toNat < 128)) := by
      show _ = _
      unfold lone
      rw [decide_eq_true h1, Bool.true_and]
      rfl
    clear h1 ht
    generalize headB (ByteArray.mk #[b]).size 128 ++ ⟨#[b]⟩ = H at HC ⊢
    by_cases h2 : b.toNat < 128
    · rw [decide_eq_true h2] at HL
      have HE : Hid ((if lone ⟨#[b]⟩ = true then ⟨#[b]⟩ else H : ByteArray) = ⟨#[b]⟩) := if_pos HL.out
      generalize (if lone ⟨#[b]⟩ = true then ⟨#[b]⟩ else H : ByteArray) = R at HE ⊢
      have h2' : (((⟨#[b]⟩ : ByteArray)[0]'(Nat.lt_succ_self 0)).toNat : Int) < 128 := by show (b.toNat : Int) < 128; omega
      go_enter Try.func79, Try.ntmps79
      go_wp2
      go_ret
      exact ⟨by rw [HE.out]; rfl, HB.out⟩
    · rw [decide_eq_false h2] at HL
      have HE : Hid ((if lone ⟨#[b]⟩ = true then ⟨#[b]⟩ else H : ByteArray) = H) := if_neg (by rw [HL.out]; decide)
      generalize (if lone ⟨#[b]⟩ = true then ⟨#[b]⟩ else H : ByteArray) = R at HE ⊢
      have h2' : ¬ (((⟨#[b]⟩ : ByteArray)[0]'(Nat.lt_succ_self 0)).toNat : Int) < 128 := by show ¬ (b.toNat : Int) < 128; omega
      go_enter Try.func79, Try.ntmps79
      go_wp2_with fail
      refine (HC.out _).mono ?_
      rintro f w2 ⟨rfl, hb2⟩
      go_wp2
      go_ret
      exact ⟨by rw [HE.out]; rfl, hb2⟩
  · have HL : Hid (lone t = false) := by
      show _ = _
      unfold lone
      rw [decide_eq_false h1, Bool.false_and]
    have HE : Hid ((if lone t = true then t else headB t.size 128 ++ t) = headB t.size 128 ++ t) := if_neg (by rw [HL.out]; decide)
    generalize (if lone t = true then t else headB t.size 128 ++ t) = R at HE ⊢
    generalize headB t.size 128 ++ t = H at HC HE
    have h1' : ((t.size : Int) == 1) = false := by rw [beq_eq_false_iff_ne]; omega
    go_enter Try.func79, Try.ntmps79
    go_wp2_with fail
    refine (HC.out _).mono ?_
    rintro f w2 ⟨rfl, hb2⟩
    go_wp2
    go_ret
    exact ⟨by rw [HE.out]; rfl, hb2⟩

/-- What is written of so many kids: what would be too long is left off. -/
def wrN (r : Nat → ByteArray) : Nat → ByteArray
  | 0 => ⟨#[]⟩
  | k + 1 => if 900 < (wrN r k).size then wrN r k else wrN r k ++ r k
theorem wrN_stop (r : Nat → ByteArray) {k : Nat} (h : 900 < (wrN r k).size) : ∀ n, k ≤ n → wrN r n = wrN r k := by
  intro n hn
  induction n with
  | zero => rw [show k = 0 by omega]
  | succ n ih =>
    by_cases h1 : k ≤ n
    · rw [wrN, ih h1, if_pos h]
    · rw [show k = n + 1 by omega]
theorem wrN_size (r : Nat → ByteArray) (m : Nat) : ∀ k, (∀ j, j < k → (r j).size ≤ m) → (wrN r k).size ≤ 900 + m
  | 0, _ => Nat.zero_le _
  | k + 1, h => by
    rw [wrN]
    have h1 := wrN_size r m k fun j hj => h j (by omega)
    have h2 := h k (Nat.lt_succ_self k)
    split
    · exact h1
    · rw [ByteArray.size_append]; omega
/-- The form that is called, and what is written of it. -/
def WrOf (w : World) (f : Value) (r : ByteArray) : Prop :=
  (∃ a n c, f = .iface 94 (.slice a n c) ∧ ∀ w', Below w.heap.size w w' → Calls Try.prog 81 #[.slice a n c] w' fun e w'' => e = .returned (.string r) ∧ Below w'.heap.size w' w'')
  ∨ (∃ s, f = .iface 92 (.string s) ∧ ∀ w', Below w.heap.size w w' → Calls Try.prog 79 #[.string s] w' fun e w'' => e = .returned (.string r) ∧ Below w'.heap.size w' w'')

set_option maxHeartbeats 3200000 in
set_option maxRecDepth 100000 in
theorem iWrList (a : Option Addr) (n cp : Nat) (hn : n ≤ 1000000) (w : World) (r : Nat → ByteArray) (hS : ∀ k, (r k).size ≤ 10000000)
    (hK : ∀ j, j < n → ∃ b off u, a = some ⟨b, off, none⟩ ∧ b < w.heap.size ∧ w.cell? ⟨b, off + j, none⟩ = some u ∧ WrOf w u (r j)) :
    Calls Try.prog 81 #[.slice a n cp] w fun f w' => f = .returned (.string (headB (wrN r n).size 192 ++ wrN r n)) ∧ Below w.heap.size w w' := by
  have HK : Hid (∀ j, j < n → ∃ b off u, a = some ⟨b, off, none⟩ ∧ b < w.heap.size ∧ w.cell? ⟨b, off + j, none⟩ = some u ∧ WrOf w u (r j)) := hK
  have HS : Hid (∀ k, (r k).size ≤ 10000000) := hS
  have H0 : Hid (wrN r 0 = ⟨#[]⟩ ∧ Below w.heap.size w w) := ⟨rfl, Below.refl _ _⟩
  clear hK hS
  go_enter Try.func81, Try.ntmps81
  go_wp2
  go_loopw [3, 8] (fun s i wr => ∃ (k : Nat) (b : ByteArray), i = .int .i64 (k : Int) ∧ s = .string b ∧ k ≤ n ∧ Hid (wrN r k = b ∧ Below w.heap.size w wr)) (fun _ i _ => n - (intOf i).toNat)
  case atStart => exact ⟨0, _, rfl, rfl, Nat.zero_le _, H0⟩
  case round =>
    obtain ⟨k, b, rfl, rfl, hk, HD⟩ := hrel
    clear H0
    have hB0 := HD.out.2
    have hbs : b.size ≤ 10000900 := by rw [← HD.out.1]; exact wrN_size r 10000000 k fun j _ => HS.out j
    have HC : Hid (∀ w, Calls Try.prog 80 #[.int .i64 192, .string b] w fun e w' => e = .returned (.string (headB b.size 192 ++ b)) ∧ Below w.heap.size w w') := fun w => iHead_any 192 b (by omega) (by decide) w
    by_cases hlt : k < n
    · have hlt' : (k : Int) < (n : Int) := by omega
      have hk0 : (0 : Int) ≤ (k : Int) := by omega
      obtain ⟨g, off, u, rfl, hg, z0, hW⟩ := HK.out k hlt
      have z1 := (hB0.cell (p := ⟨g, off + k, none⟩) hg).trans z0
      by_cases h9 : 900 < b.size
      · have HE : Hid (headB (wrN r n).size 192 ++ wrN r n = headB b.size 192 ++ b) := by
          show _ = _
          rw [wrN_stop r (k := k) (by rw [HD.out.1]; exact h9) n (Nat.le_of_lt hlt), HD.out.1]
        have h9' : (900 : Int) < (b.size : Int) := by omega
        generalize headB b.size 192 ++ b = H at HC HE
        clear hW z0
        go_wp2_with fail
        refine (HC.out _).mono ?_
        rintro f w2 ⟨rfl, hb2⟩
        have hB2 := below_then hB0 hb2
        clear z1
        go_wp2
        go_ret
        exact ⟨by rw [HE.out]; rfl, hB2⟩
      · have HN : Hid (wrN r (k + 1) = b ++ r k) := by show _ = _; rw [wrN, HD.out.1, if_neg h9]
        have h9' : ¬ (900 : Int) < (b.size : Int) := by omega
        have hs : ¬ 9223372036854775807 < b.size + (r k).size := by
          have h1 := HS.out k
          omega
        have hWk := hW
        clear hW HC z0
        unfold WrOf at hWk
        generalize r k = y at hWk HN hs
        rcases hWk with ⟨a1, n1, c1, rfl, hCk⟩ | ⟨s1, rfl, hCk⟩
        · have HCk : Hid (Calls Try.prog 81 #[.slice a1 n1 c1] wr fun e w'' => e = .returned (.string y) ∧ Below wr.heap.size wr w'') := hCk wr hB0
          clear hCk
          go_wp2_with fail
          refine HCk.out.mono ?_
          rintro f w2 ⟨rfl, hb2⟩
          have HD2 : Hid (wrN r (k + 1) = b ++ y ∧ Below w.heap.size w w2) := ⟨HN.out, below_then hB0 hb2⟩
          clear z1 HD
          go_wp2
          exact ⟨⟨k + 1, _, by go_num, rfl, hlt, HD2⟩, by simp [intOf]; omega⟩
        · have HCk : Hid (Calls Try.prog 79 #[.string s1] wr fun e w'' => e = .returned (.string y) ∧ Below wr.heap.size wr w'') := hCk wr hB0
          clear hCk
          go_wp2_with fail
          refine HCk.out.mono ?_
          rintro f w2 ⟨rfl, hb2⟩
          have HD2 : Hid (wrN r (k + 1) = b ++ y ∧ Below w.heap.size w w2) := ⟨HN.out, below_then hB0 hb2⟩
          clear z1 HD
          go_wp2
          exact ⟨⟨k + 1, _, by go_num, rfl, hlt, HD2⟩, by simp [intOf]; omega⟩
    · obtain rfl : k = n := by omega
      have hlt' : ¬ (k : Int) < (k : Int) := by omega
      have HE : Hid (headB (wrN r k).size 192 ++ wrN r k = headB b.size 192 ++ b) := by show _ = _; rw [HD.out.1]
      generalize headB b.size 192 ++ b = H at HC HE
      go_wp2_with fail
      refine (HC.out _).mono ?_
      rintro f w2 ⟨rfl, hb2⟩
      have hB2 := below_then hB0 hb2
      go_wp2
      go_ret
      exact ⟨by rw [HE.out]; rfl, hB2⟩

end Go.Proofs.Ytmpjnabadplbjaa
