/-
  The walks of the program's runeBytes and what it calls.
  (-DROP-: what the seat lacks is left out.)
-/
import Derived.Test.YtengnjffajimdaaNibUtf
import Derived.Test.YtengnjffajimdaaNibI1
import Derived.Lib.OthersKept
namespace Go.Proofs.Ytengnjffajimdaa
open Go.RowKit

def hasP (t p : ByteArray) : Bool := decide (p.size ≤ t.size) && ((t.extract 0 p.size).toList == p.toList)

set_option maxHeartbeats 800000 in
set_option maxRecDepth 100000 in
theorem iHas_any (t p : ByteArray) (w : World) :
    Calls Try.prog 40 #[.string t, .string p] w fun e w' => e = .returned (.bool (hasP t p)) ∧ w = w' := by
  by_cases h : p.size ≤ t.size
  · have h' : (p.size : Int) ≤ (t.size : Int) := by omega
    have HF : Hid (hasP t p = ((t.extract 0 p.size).toList == p.toList)) := by
      show _ = _
      unfold hasP
      rw [decide_eq_true h, Bool.true_and]
    go_enter Try.func40, Try.ntmps40
    go_wp2
    go_ret
    exact ⟨by rw [HF.out]; rfl, by trivial⟩
  · have h' : ¬ (p.size : Int) ≤ (t.size : Int) := by omega
    have HF : Hid (hasP t p = false) := by
      show _ = _
      unfold hasP
      rw [decide_eq_false h, Bool.false_and]
    go_enter Try.func40, Try.ntmps40
    go_wp2
    go_ret
    exact ⟨by rw [HF.out]; rfl, by trivial⟩

theorem tail_has {s : ByteArray} {p : Nat} (h : p < s.size) : hasP (s.extract p s.size) ⟨#[239, 191, 189]⟩ = true ↔ (p + 3 ≤ s.size ∧ s.extract p (p + 3) = ⟨#[239, 191, 189]⟩) := by
  unfold hasP
  have e3 : (⟨#[239, 191, 189]⟩ : ByteArray).size = 3 := rfl
  rw [e3, Bool.and_eq_true, decide_eq_true_eq, beq_iff_eq, ByteArray.size_extract, ByteArray.extract_extract]
  constructor
  · rintro ⟨h1, h2⟩
    have h3 : p + 3 ≤ s.size := by omega
    rw [Nat.add_zero, Nat.min_eq_left h3] at h2
    exact ⟨h3, same_bytes h2⟩
  · rintro ⟨h1, h2⟩
    refine ⟨by omega, ?_⟩
    rw [Nat.add_zero, Nat.min_eq_left h1, h2]

set_option maxHeartbeats 800000 in
set_option maxRecDepth 100000 in
theorem iRune_any (s : ByteArray) (p : Nat) (hp : p < s.size) (w : World) :
    Calls Try.prog 35 #[.int .i32 ((Utf8.decode s p).1 : Int), .string (s.extract p s.size)] w fun e w' => e = .returned (.string (s.extract p (p + (Utf8.decode s p).2))) ∧ w = w' := by
  have HB := dec_bad hp
  have HG := dec_good hp
  have HT := tail_has hp
  have hs : 0 < (s.extract p s.size).size := by rw [ByteArray.size_extract]; omega
  have E1 : Hid ((s.extract p s.size).extract 0 1 = s.extract p (p + 1)) := by
    show _ = _
    rw [ByteArray.extract_extract, Nat.add_zero, Nat.min_eq_left (by omega)]
  have HC : Hid (∀ w, Calls Try.prog 40 #[.string (s.extract p s.size), .string ⟨#[239, 191, 189]⟩] w fun e w' => e = .returned (.bool (hasP (s.extract p s.size) ⟨#[239, 191, 189]⟩)) ∧ w = w') := fun w => iHas_any _ _ w
  generalize hd : Utf8.decode s p = d at *
  obtain ⟨c, k⟩ := d
  have HB : c = 65533 → _ → k = 1 := HB
  have HG : _ → Utf8.encode (c : Int) = s.extract p (p + k) := HG
  have HR : Hid (c = 65533 → hasP (s.extract p s.size) ⟨#[239, 191, 189]⟩ = false → (s.extract p s.size).extract 0 1 = s.extract p (p + k)) := fun e1 e2 => by
    rw [E1.out, HB e1 (fun h => by rw [HT.2 h] at e2; cases e2)]
  have HR2 : Hid (c = 65533 → hasP (s.extract p s.size) ⟨#[239, 191, 189]⟩ = true → Utf8.encode (c : Int) = s.extract p (p + k)) := fun e1 e2 => HG (.inr (HT.1 e2))
  have HR3 : Hid (c ≠ 65533 → Utf8.encode (c : Int) = s.extract p (p + k)) := fun e1 => HG (.inl e1)
  clear HB HG HT E1 hd
  show Calls Try.prog 35 #[.int .i32 (c : Int), .string (s.extract p s.size)] w fun e w' => e = .returned (.string (s.extract p (p + k))) ∧ w = w'
  generalize s.extract p (p + k) = A at *
  generalize s.extract p s.size = T at *
  by_cases hc : c = 65533
  · have hc' : ((c : Int) == 65533) = true := by rw [beq_iff_eq]; omega
    cases hb : hasP T ⟨#[239, 191, 189]⟩
    · rw [hb] at HC
      have HE : Hid (T.extract 0 1 = A) := HR.out hc hb
      clear HR HR2 HR3 hc hb
      go_enter Try.func35, Try.ntmps35
      go_wp2_with (go_at_call 40; refine (HC.out _).mono ?_; rintro e wz ⟨rfl, rfl⟩)
      go_ret
      exact ⟨by rw [← HE.out]; rfl, by trivial⟩
    · rw [hb] at HC
      have HE : Hid (Utf8.encode (c : Int) = A) := HR2.out hc hb
      clear HR HR2 HR3 hc hb
      go_enter Try.func35, Try.ntmps35
      go_wp2_with (go_at_call 40; refine (HC.out _).mono ?_; rintro e wz ⟨rfl, rfl⟩)
      go_ret
      have HE1 := HE.out
      generalize Utf8.encode (c : Int) = E at *
      exact ⟨by rw [← HE1]; rfl, by trivial⟩
  · have hc' : ((c : Int) == 65533) = false := by rw [beq_eq_false_iff_ne]; omega
    have HE : Hid (Utf8.encode (c : Int) = A) := HR3.out hc
    clear HR HR2 HR3 hc HC
    go_enter Try.func35, Try.ntmps35
    go_wp2
    go_ret
    have HE1 := HE.out
    generalize Utf8.encode (c : Int) = E at *
    exact ⟨by rw [← HE1]; rfl, by trivial⟩

end Go.Proofs.Ytengnjffajimdaa
