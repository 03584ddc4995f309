/-
  The walks of Decimal on both sides.
-/
import Derived.Test.YtpienefbgpgdkalDoorDecPure
import Derived.Test.YtpienefbgpgdkalDoorShelf
import Derived.Lib.AppendIntMem
import Derived.WalkLawsBesides
import Derived.WalkSpells
import Derived.OpenShut
namespace Go.Proofs.YtpienefbgpgdkalDoor
open Go.RowKit Go.Lib

set_option maxRecDepth 100000 in
theorem figure_any (z : Int) (h0 : 0 ≤ z) (h1 : z < 16) (w : World) :
    Calls Tryd.prog 15 #[.int .i64 z] w fun e w' => e = .returned (.int .u8 (figZ z)) ∧ w = w' := by
  by_cases h : z < 10
  · have e : figZ z = 48 + z := by rw [figZ, if_pos h]
    rw [e]
    clear e
    go_enter Tryd.func15, Tryd.ntmps15
    go_wp2
    go_ret
    exact ⟨rfl, rfl⟩
  · have e : figZ z = 87 + z := by rw [figZ, if_neg h]
    rw [e]
    clear e
    go_enter Tryd.func15, Tryd.ntmps15
    go_wp2
    go_ret
    exact ⟨by go_num, rfl⟩

/-- A byte alone, turned into a text. -/
theorem one_text (w : World) (b : UInt8) (z : Int) (hz : z = (b.toNat : Int)) : (convert 33 9 (.slice (some ⟨w.heap.size, 0, none⟩) 1 1)).run Tryd.prog (w.alloc (.cells #[.int .u8 z] 5)) = .ok (.string ⟨#[b]⟩) (w.alloc (.cells #[.int .u8 z] 5)) := by
  have h := run_convert_bytes_back (P := Tryd.prog) (w.alloc (.cells #[.int .u8 z] 5)) 33 9 5 ⟨w.heap.size, 0, none⟩ 1 [b] Tryd.underlying33 Tryd.underlying5 Tryd.underlying9 (by
    intro j hj
    have : j = 0 := by simp at hj; omega
    subst this
    rw [hz]
    simp [Addr.add])
  simpa using h

theorem cats (b : UInt8) (t : List UInt8) (ht : t.length ≤ 20) (w : World) : (Op.stringOp .add ⟨#[b]⟩ ⟨t.toArray⟩).run Tryd.prog w = .ok (.string ⟨(b :: t).toArray⟩) w := by
  have h := run_string_add_sum (P := Tryd.prog) w ⟨#[b]⟩ ⟨t.toArray⟩ (by simp [ByteArray.size]; omega)
  rw [h]
  exact congrArg (fun x => Result.ok (Value.string x) w) (cat_bytes [b] t)

set_option maxHeartbeats 800000 in
set_option maxRecDepth 100000 in
theorem sDecimal_pos (n : Nat) (hn : n ≠ 0) (hm : n ≤ 9223372036854775807) (w : World) :
    Calls Tryd.prog 6 #[.int .i64 (n : Int)] w fun e w' => e = .returned (.string ⟨(itoa (n : Int)).toArray⟩) ∧ Below w.heap.size w w' := by
  have h0 : ((n : Int) == 0) = false := by simp; omega
  have hlt : ¬ (n : Int) < 0 := by omega
  go_enter Tryd.func6, Tryd.ntmps6
  go_wp2
  go_loopw [0, 4] (fun x v wr => ∃ (u : Nat) (t : List UInt8), x = .int .i64 (u : Int) ∧ v = .string ⟨t.toArray⟩ ∧ DecInv n u t ∧ Below w.heap.size w wr) (fun x _ _ => (RowKit.intOf x).toNat)
  case atStart => exact ⟨n, [], rfl, rfl, DecInv.start n, Below.refl _ _⟩
  case round =>
    obtain ⟨u, t, rfl, rfl, hinv, hbel⟩ := hrel
    have hun : u ≤ n := hinv.1
    have htl := hinv.len (by omega)
    have hsz := hbel.size
    by_cases hu : u = 0
    · subst hu
      have he := hinv.all hn
      have HE : Hid (t = decDigits n) := he
      clear he
      go_wp2
      go_ret
      exact ⟨by rw [itoa_pos, ← HE.out]; rfl, hbel⟩
    · have hu0 : ((u : Int) == 0) = false := by simp; omega
      have hd0 : ¬ (u : Int) % 10 < 0 := by omega
      obtain ⟨c, hc⟩ : ∃ c, c = UInt8.ofNat (48 + u % 10) := ⟨_, rfl⟩
      have hn := hinv.next hu
      have hfz : figZ ((u : Int) % 10) = (c.toNat : Int) := by rw [hc]; exact figZ_low (u := u % 10) (by omega)
      rw [← hc] at hn
      clear hc
      have hone := fun W => one_text W c (figZ ((u : Int) % 10)) hfz
      have hcat := cats c t htl
      clear hfz
      go_wp2_with (go_at_call 15; refine (figure_any _ ?_ ?_ _).mono ?_; omega; omega; rintro e w1 ⟨rfl, rfl⟩)
      go_roundw
      case rel => exact ⟨u / 10, c :: t, by go_num, by simp, hn, (hbel.alloc hsz _)⟩
      case measure => simp [RowKit.intOf]; omega

theorem dash (t : List UInt8) (ht : t.length ≤ 20) (w : World) : (Op.stringOp .add ⟨#[45]⟩ ⟨t.toArray⟩).run Tryd.prog w = .ok (.string ⟨(45 :: t).toArray⟩) w := cats 45 t ht w

set_option maxHeartbeats 800000 in
set_option maxRecDepth 100000 in
theorem sDecimal_neg (n : Nat) (hn : n ≠ 0) (hm : n ≤ 9223372036854775808) (w : World) :
    Calls Tryd.prog 6 #[.int .i64 (-(n : Int))] w fun e w' => e = .returned (.string ⟨(itoa (-(n : Int))).toArray⟩) ∧ Below w.heap.size w w' := by
  have h0 : (-(n : Int) == 0) = false := by simp; omega
  have hlt : -(n : Int) < 0 := by omega
  go_enter Tryd.func6, Tryd.ntmps6
  go_wp2
  go_loopw [0, 4] (fun x v wr => ∃ (u : Nat) (t : List UInt8), x = .int .i64 (-(u : Int)) ∧ v = .string ⟨t.toArray⟩ ∧ DecInv n u t ∧ Below w.heap.size w wr) (fun x _ _ => (-(RowKit.intOf x)).toNat)
  case atStart => exact ⟨n, [], rfl, rfl, DecInv.start n, Below.refl _ _⟩
  case round =>
    obtain ⟨u, t, rfl, rfl, hinv, hbel⟩ := hrel
    have hun : u ≤ n := hinv.1
    have htl := hinv.len (by omega)
    have hsz := hbel.size
    by_cases hu : u = 0
    · subst hu
      have he := hinv.all hn
      have HE : Hid (t = decDigits n) := he
      have hda := dash t htl
      clear he
      go_wp2
      go_ret
      exact ⟨by rw [itoa_minus hn, ← HE.out]; rfl, hbel⟩
    · have hu0 : (-(u : Int) == 0) = false := by simp; omega
      obtain ⟨c, hc⟩ : ∃ c, c = UInt8.ofNat (48 + u % 10) := ⟨_, rfl⟩
      have hn := hinv.next hu
      have hfz : figZ ((u : Int) % 10) = (c.toNat : Int) := by rw [hc]; exact figZ_low (u := u % 10) (by omega)
      rw [← hc] at hn
      clear hc
      have hcat := cats c t htl
      have htm := tmod_neg u
      have htd := tdiv_neg u
      by_cases hz : u % 10 = 0
      · have hd0 : ¬ -((u : Int) % 10) < 0 := by omega
        have hone := fun W => one_text W c (figZ (-((u : Int) % 10))) (by rw [← hfz]; congr 1; omega)
        clear hfz
        go_wp2_with (go_at_call 15; refine (figure_any _ ?_ ?_ _).mono ?_; omega; omega; rintro e w1 ⟨rfl, rfl⟩)
        go_roundw
        case rel => exact ⟨u / 10, c :: t, by go_num, by simp, hn, (hbel.alloc hsz _)⟩
        case measure => simp [RowKit.intOf]; omega
      · have hd0 : -((u : Int) % 10) < 0 := by omega
        have hone := fun W => one_text W c (figZ ((u : Int) % 10)) hfz
        clear hfz
        go_wp2_with (go_at_call 15; refine (figure_any _ ?_ ?_ _).mono ?_; omega; omega; rintro e w1 ⟨rfl, rfl⟩)
        go_roundw
        case rel => exact ⟨u / 10, c :: t, by go_num, by simp, hn, (hbel.alloc hsz _)⟩
        case measure => simp [RowKit.intOf]; omega

set_option maxRecDepth 100000 in
theorem sDecimal_zero (w : World) :
    Calls Tryd.prog 6 #[.int .i64 0] w fun e w' => e = .returned (.string ⟨(itoa 0).toArray⟩) ∧ Below w.heap.size w w' := by
  have e : itoa 0 = [48] := by
    have := itoa_pos (n := 0)
    rw [show ((0 : Nat) : Int) = 0 from rfl] at this
    rw [this, decDigits_one (by omega)]
    rfl
  rw [e]
  clear e
  go_enter Tryd.func6, Tryd.ntmps6
  go_wp2
  go_ret
  exact ⟨rfl, Below.refl _ _⟩

theorem sDecimal_any (z : Int) (h0 : -9223372036854775808 ≤ z) (h1 : z ≤ 9223372036854775807) (w : World) :
    Calls Tryd.prog 6 #[.int .i64 z] w fun e w' => e = .returned (.string ⟨(itoa z).toArray⟩) ∧ Below w.heap.size w w' := by
  rcases Int.lt_trichotomy z 0 with h | h | h
  · obtain ⟨n, rfl⟩ : ∃ n : Nat, z = -(n : Int) := ⟨z.natAbs, by omega⟩
    exact sDecimal_neg n (by omega) (by omega) w
  · subst h; exact sDecimal_zero w
  · obtain ⟨n, rfl⟩ : ∃ n : Nat, z = (n : Int) := ⟨z.toNat, by omega⟩
    exact sDecimal_pos n (by omega) (by omega) w

set_option maxRecDepth 100000 in
theorem iDecimal_any (z : Int) (h0 : -9223372036854775808 ≤ z) (h1 : z ≤ 9223372036854775807) (w : World) (htab : Lib.TabIs Tryd.prog w "internal/strconv.uint64pow10" .u64 Lib.pow10Tab) :
    Calls Tryd.prog 7 #[.int .i64 z] w fun e w' => e = .returned (.string ⟨(itoa z).toArray⟩) ∧ Below w.heap.size w w' := by
  have HT : Hid (Lib.TabIs Tryd.prog w "internal/strconv.uint64pow10" .u64 Lib.pow10Tab) := htab
  clear htab
  go_enter Tryd.func7, Tryd.ntmps7
  go_wp2_with fail
  refine (Tryd.strconv_Itoa z h0 h1 _ HT.out).mono ?_
  rintro e w1 ⟨rfl, k, os, hw⟩
  have hb : Below w.heap.size w w1 := by rw [hw]; exact Lib.below_grow _ _ (Nat.le_refl _) _ _
  clear hw
  go_wp2
  go_ret
  exact ⟨rfl, hb⟩

set_option maxRecDepth 100000 in
theorem lawDecimal (z : Int) (hwf : (Lit.int .i64 z).wf = true) (w : World) (htab : Lib.TabIs Tryd.prog w "internal/strconv.uint64pow10" .u64 Lib.pow10Tab) :
    Calls Tryd.prog 3 #[.int .i64 z] w fun e w' => e = .returned (.bool true) ∧ Below w.heap.size w w' := by
  have hb := bounds_i64 hwf
  have HT : Hid (Lib.TabBelow Tryd.prog w.heap.size w "internal/strconv.uint64pow10" .u64 Lib.pow10Tab) := Lib.tabBelow_of_tabIs htab
  have HB : Hid (-9223372036854775808 ≤ z ∧ z ≤ 9223372036854775807) := hb
  clear htab hwf hb
  go_enter Tryd.func3, Tryd.ntmps3
  go_wp2_with fail
  refine (sDecimal_any z HB.out.1 HB.out.2 _).mono ?_
  rintro e w1 ⟨rfl, hb1⟩
  go_wp2_with fail
  refine (iDecimal_any z HB.out.1 HB.out.2 _ (HT.out w1 hb1)).mono ?_
  rintro e w2 ⟨rfl, hb2⟩
  go_wp2
  go_ret
  exact ⟨rfl, hb1.trans (hb2.mono hb1.size)⟩

end Go.Proofs.YtpienefbgpgdkalDoor
