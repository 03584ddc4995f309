/-
  The walks of Unsealed, the project's and the specification's.
-/
import Derived.Test.YtpehnhmbkhlmaaaDoorSeal
import Derived.Deep.RegionHeld3
import Derived.Deep.QuietTactic
import Derived.BigQuiet
import Derived.Lib.Strings
namespace Go.Proofs.YtpehnhmbkhlmaaaDoor
open Go.RowKit

/-- What lies ahead of the sum, and the sum. -/
def preT (s : ByteArray) (n : Nat) : ByteArray := s.extract 0 n
def sufT (s : ByteArray) (n : Nat) : ByteArray := s.extract n s.size

theorem cut_pre (s : ByteArray) (n : Nat) (h : n ≤ s.size) (wx : World) :
    (Instr.slice 9 (.string s) none (some (.int .i64 (n : Int))) none).run Tryd.prog wx = .ok (.string (preT s n)) wx := by
  have := run_slice_string_h (P := Tryd.prog) (w := wx) (t := 9) (s := s) Tryd.underlying9 .i64 (n : Int) (by omega) (by omega)
  simpa [preT] using this
theorem cut_suf (s : ByteArray) (n : Nat) (h : n ≤ s.size) (wx : World) :
    (Instr.slice 9 (.string s) (some (.int .i64 (n : Int))) none none).run Tryd.prog wx = .ok (.string (sufT s n)) wx := by
  have := run_slice_string_l (P := Tryd.prog) (w := wx) (t := 9) (s := s) Tryd.underlying9 .i64 (n : Int) (by omega) (by omega)
  simpa [sufT] using this
theorem preT_size (s : ByteArray) (n : Nat) (h : n ≤ s.size) : (preT s n).size = n := by
  simp [preT]; omega

set_option maxRecDepth 100000 in
theorem clone_any (s : ByteArray) (w : World) (hs : s.size ≤ 1048580) :
    Calls Tryd.prog 24 #[.string s] w fun e w' => e = .returned (.string s) ∧ Below w.heap.size w w' := by
  go_enter Tryd.func24, Tryd.ntmps24
  go_wp2_with fail
  refine (Tryd.stringslite_Clone s _ (by omega)).mono ?_
  rintro e w1 ⟨rfl, hb⟩
  go_wp2
  go_ret
  exact ⟨rfl, hb⟩

theorem toList_data (s : ByteArray) : s.toList = s.data.toList := by
  obtain ⟨⟨l⟩⟩ := s
  simp
theorem same_true {a b : ByteArray} (h : a = b) : (a.toList == b.toList) = true := by rw [h]; simp
theorem same_false {a b : ByteArray} (h : a ≠ b) : (a.toList == b.toList) = false := by
  rw [beq_eq_false_iff_ne, toList_data, toList_data]
  exact fun e => h (ByteArray.ext (Array.toList_inj.1 e))

theorem below_drewN (w : World) (n : Nat) : Below w.heap.size w (w.drewN n) := ⟨rfl, rfl, rfl, Nat.le_refl _, fun _ _ => rfl⟩

/-- What Unsealed answers of a text of n and four bytes. -/
def unsealN (s : ByteArray) (n : Nat) : Value := if fourT (sumL 4294967295 (preT s n).data.toList) = sufT s n then .tuple #[.string (preT s n), .bool true] else .tuple #[.string ⟨#[]⟩, .bool false]
/-- What Unsealed answers. -/
def unsealOf (s : ByteArray) : Value := if 4 ≤ s.size ∧ s.size ≤ 20004 then unsealN s (s.size - 4) else .tuple #[.string ⟨#[]⟩, .bool false]

set_option maxHeartbeats 1600000 in
set_option maxRecDepth 100000 in
theorem iUnseal_in (s : ByteArray) (n : Nat) (hn : s.size = n + 4) (h2 : n ≤ 20000) (w : World) (hT : Tab w) :
    Calls Tryd.prog 12 #[.string s] w fun e w' => e = .returned (unsealN s n) ∧ Below w.heap.size w w' := by
  have HT2 : Hid (Tab w.drew) := hT
  clear hT
  have hz : (s.size : Int) - 4 = (n : Int) := by omega
  have hn1 : ¬ (20000 : Int) < (n : Int) := by omega
  have hd1 : decide ((n : Int) < 0) = false := by simp
  have hd2 : decide ((20000 : Int) < (n : Int)) = false := by simpa using hn1
  have hc1 := cut_pre s n (by omega)
  have hc2 := cut_suf s n (by omega)
  have hps : (preT s n).size ≤ 1048580 := by rw [preT_size s n (by omega)]; omega
  have hs : s.size ≤ 1048580 := by omega
  have HV : Hid (unsealN s n = if fourT (sumL 4294967295 (preT s n).data.toList) = sufT s n then .tuple #[.string (preT s n), .bool true] else .tuple #[.string ⟨#[]⟩, .bool false]) := (show unsealN s n = _ from rfl)
  clear hn hn1
  generalize unsealN s n = ans at HV
  generalize preT s n = p at hc1 hps HV
  generalize sufT s n = q at hc2 HV
  by_cases hq : fourT (sumL 4294967295 p.data.toList) = q
  · have hsame : ((fourT (sumL 4294967295 p.data.toList)).toList == q.toList) = true := same_true hq
    have HA : Hid (ans = .tuple #[.string p, .bool true]) := HV.out.trans (if_pos hq)
    clear hq HV
    go_enter Tryd.func12, Tryd.ntmps12
    go_wp2
    go_region_held3 (fun _ => True) (trivial) (first | (go_at_call 14; refine (iSum_any p hps _ ?_).mono ?_; exact HT2.out; rintro e w1 ⟨rfl, rfl⟩) | (go_at_call 23; refine (seal_any (sumL 4294967295 p.data.toList) (sum_lt _) _).mono ?_; rintro e w1 ⟨rfl, hb1⟩))
    have hb2 : Below w.heap.size w w1 := ((Below.refl _ _).drew).trans hb1
    clear hb1
    go_wp2_with fail
    refine (clone_any p _ hps).mono ?_
    rintro e w2 ⟨rfl, hb3⟩
    have hb4 := hb2.trans (hb3.mono hb2.size)
    clear hb3
    go_wp2
    go_ret2
    exact ⟨by rw [HA.out]; rfl, hb4⟩
  · have hsame : ((fourT (sumL 4294967295 p.data.toList)).toList == q.toList) = false := same_false hq
    have HA : Hid (ans = .tuple #[.string ⟨#[]⟩, .bool false]) := HV.out.trans (if_neg hq)
    clear hq HV
    go_enter Tryd.func12, Tryd.ntmps12
    go_wp2
    go_region_held3 (fun _ => True) (trivial) (first | (go_at_call 14; refine (iSum_any p hps _ ?_).mono ?_; exact HT2.out; rintro e w1 ⟨rfl, rfl⟩) | (go_at_call 23; refine (seal_any (sumL 4294967295 p.data.toList) (sum_lt _) _).mono ?_; rintro e w1 ⟨rfl, hb1⟩))
    have hb2 : Below w.heap.size w w1 := ((Below.refl _ _).drew).trans hb1
    clear hb1
    go_wp2
    go_ret2
    exact ⟨by rw [HA.out]; rfl, hb2⟩

set_option maxHeartbeats 800000 in
set_option maxRecDepth 100000 in
theorem iUnseal_low (s : ByteArray) (h : s.size < 4) (hs : s.size ≤ 1048580) (w : World) :
    Calls Tryd.prog 12 #[.string s] w fun e w' => e = .returned (.tuple #[.string ⟨#[]⟩, .bool false]) ∧ Below w.heap.size w w' := by
  have h1 : (s.size : Int) - 4 < 0 := by omega
  have hd1 : decide ((s.size : Int) - 4 < 0) = true := by simpa using h1
  clear h
  go_enter Tryd.func12, Tryd.ntmps12
  go_wp2
  go_ret2
  exact ⟨rfl, Below.refl _ _⟩

set_option maxHeartbeats 800000 in
set_option maxRecDepth 100000 in
theorem iUnseal_high (s : ByteArray) (h : 20004 < s.size) (hs : s.size ≤ 1048580) (w : World) :
    Calls Tryd.prog 12 #[.string s] w fun e w' => e = .returned (.tuple #[.string ⟨#[]⟩, .bool false]) ∧ Below w.heap.size w w' := by
  have h1 : ¬ (s.size : Int) - 4 < 0 := by omega
  have h2 : (20000 : Int) < (s.size : Int) - 4 := by omega
  have hd1 : decide ((s.size : Int) - 4 < 0) = false := by simpa using h1
  have hd2 : decide ((20000 : Int) < (s.size : Int) - 4) = true := by simpa using h2
  clear h
  go_enter Tryd.func12, Tryd.ntmps12
  go_wp2
  go_ret2
  exact ⟨rfl, Below.refl _ _⟩

theorem iUnseal_any (s : ByteArray) (hs : s.size ≤ 1048580) (w : World) (hT : Tab w) :
    Calls Tryd.prog 12 #[.string s] w fun e w' => e = .returned (unsealOf s) ∧ Below w.heap.size w w' := by
  by_cases h : 4 ≤ s.size ∧ s.size ≤ 20004
  · rw [show unsealOf s = unsealN s (s.size - 4) from if_pos h]
    exact iUnseal_in s (s.size - 4) (by omega) (by omega) w hT
  · rw [show unsealOf s = .tuple #[.string ⟨#[]⟩, .bool false] from if_neg h]
    by_cases h4 : s.size < 4
    · exact iUnseal_low s h4 hs w
    · exact iUnseal_high s (by omega) hs w

set_option maxHeartbeats 1600000 in
set_option maxRecDepth 100000 in
theorem sUnseal_in (s : ByteArray) (n : Nat) (hn : s.size = n + 4) (h2 : n ≤ 20000) (w : World) :
    Calls Tryd.prog 18 #[.string s] w fun e w' => e = .returned (unsealN s n) ∧ Below w.heap.size w w' := by
  have hz : (s.size : Int) - 4 = (n : Int) := by omega
  have hn1 : ¬ (20000 : Int) < (n : Int) := by omega
  have hd1 : decide ((n : Int) < 0) = false := by simp
  have hd2 : decide ((20000 : Int) < (n : Int)) = false := by simpa using hn1
  have hc1 := cut_pre s n (by omega)
  have hc2 := cut_suf s n (by omega)
  have hps : (preT s n).size ≤ 1048580 := by rw [preT_size s n (by omega)]; omega
  have hs : s.size ≤ 1048580 := by omega
  have HV : Hid (unsealN s n = if fourT (sumL 4294967295 (preT s n).data.toList) = sufT s n then .tuple #[.string (preT s n), .bool true] else .tuple #[.string ⟨#[]⟩, .bool false]) := (show unsealN s n = _ from rfl)
  clear hn hn1
  generalize unsealN s n = ans at HV
  generalize preT s n = p at hc1 hps HV
  generalize sufT s n = q at hc2 HV
  by_cases hq : fourT (sumL 4294967295 p.data.toList) = q
  · have hsame : (q.toList == (fourT (sumL 4294967295 p.data.toList)).toList) = true := same_true hq.symm
    have HA : Hid (ans = .tuple #[.string p, .bool true]) := HV.out.trans (if_pos hq)
    clear hq HV
    go_enter Tryd.func18, Tryd.ntmps18
    go_wp2
    go_region_held3 (fun _ => True) (trivial) (first | (go_at_call 16; refine (sSum_any p hps _).mono ?_; rintro e w1 ⟨rfl, rfl⟩) | (go_at_call 26; refine (sFour_any (sumL 4294967295 p.data.toList) (sum_lt _) _).mono ?_; rintro e w1 ⟨rfl, hb1⟩))
    have hb2 : Below w.heap.size w w1 := ((Below.refl _ _).drew).trans hb1
    clear hb1
    go_wp2
    go_ret2
    exact ⟨by rw [HA.out]; rfl, hb2⟩
  · have hsame : (q.toList == (fourT (sumL 4294967295 p.data.toList)).toList) = false := same_false (Ne.symm hq)
    have HA : Hid (ans = .tuple #[.string ⟨#[]⟩, .bool false]) := HV.out.trans (if_neg hq)
    clear hq HV
    go_enter Tryd.func18, Tryd.ntmps18
    go_wp2
    go_region_held3 (fun _ => True) (trivial) (first | (go_at_call 16; refine (sSum_any p hps _).mono ?_; rintro e w1 ⟨rfl, rfl⟩) | (go_at_call 26; refine (sFour_any (sumL 4294967295 p.data.toList) (sum_lt _) _).mono ?_; rintro e w1 ⟨rfl, hb1⟩))
    have hb2 : Below w.heap.size w w1 := ((Below.refl _ _).drew).trans hb1
    clear hb1
    go_wp2
    go_ret2
    exact ⟨by rw [HA.out]; rfl, hb2⟩

set_option maxHeartbeats 800000 in
set_option maxRecDepth 100000 in
theorem sUnseal_low (s : ByteArray) (h : s.size < 4) (hs : s.size ≤ 1048580) (w : World) :
    Calls Tryd.prog 18 #[.string s] w fun e w' => e = .returned (.tuple #[.string ⟨#[]⟩, .bool false]) ∧ Below w.heap.size w w' := by
  have h1 : (s.size : Int) - 4 < 0 := by omega
  have hd1 : decide ((s.size : Int) - 4 < 0) = true := by simpa using h1
  clear h
  go_enter Tryd.func18, Tryd.ntmps18
  go_wp2
  go_quiet (fail)
  go_wp2
  go_ret2
  exact ⟨rfl, below_drewN _ _⟩

set_option maxHeartbeats 800000 in
set_option maxRecDepth 100000 in
theorem sUnseal_high (s : ByteArray) (h : 20004 < s.size) (hs : s.size ≤ 1048580) (w : World) :
    Calls Tryd.prog 18 #[.string s] w fun e w' => e = .returned (.tuple #[.string ⟨#[]⟩, .bool false]) ∧ Below w.heap.size w w' := by
  have h1 : ¬ (s.size : Int) - 4 < 0 := by omega
  have h2 : (20000 : Int) < (s.size : Int) - 4 := by omega
  have hd1 : decide ((s.size : Int) - 4 < 0) = false := by simpa using h1
  have hd2 : decide ((20000 : Int) < (s.size : Int) - 4) = true := by simpa using h2
  clear h
  go_enter Tryd.func18, Tryd.ntmps18
  go_wp2
  go_quiet (fail)
  go_wp2
  go_ret2
  exact ⟨rfl, below_drewN _ _⟩

theorem sUnseal_any (s : ByteArray) (hs : s.size ≤ 1048580) (w : World) :
    Calls Tryd.prog 18 #[.string s] w fun e w' => e = .returned (unsealOf s) ∧ Below w.heap.size w w' := by
  by_cases h : 4 ≤ s.size ∧ s.size ≤ 20004
  · rw [show unsealOf s = unsealN s (s.size - 4) from if_pos h]
    exact sUnseal_in s (s.size - 4) (by omega) (by omega) w
  · rw [show unsealOf s = .tuple #[.string ⟨#[]⟩, .bool false] from if_neg h]
    by_cases h4 : s.size < 4
    · exact sUnseal_low s h4 hs w
    · exact sUnseal_high s (by omega) hs w

end Go.Proofs.YtpehnhmbkhlmaaaDoor
