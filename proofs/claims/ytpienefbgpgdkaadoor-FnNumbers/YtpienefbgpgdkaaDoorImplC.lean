/-
  Contracts of chapter 1, carried from the seats of its exact laws: ImplC.
-/
import Derived.Test.YtpienefbgpgdkaaDoorImplB
import Derived.Test.YtpienefbgpgdkaaDoorRdPure
import Derived.Lib.AppendIntMem
namespace Go.Proofs.YtpienefbgpgdkaaDoor
open Go.RowKit Go.Lib

set_option maxRecDepth 100000 in
theorem iDecimal_any (z : Int) (h0 : -9223372036854775808 ≤ z) (h1 : z ≤ 9223372036854775807) (w : World) (htab : Lib.TabIs Tryd.prog w "internal/strconv.uint64pow10" .u64 Lib.pow10Tab) :
    Calls Tryd.prog 9 #[.int .i64 z] w fun e w' => e = .returned (.string ⟨(itoa z).toArray⟩) ∧ Below w.heap.size w w' := by
  have HT : Hid (Lib.TabIs Tryd.prog w "internal/strconv.uint64pow10" .u64 Lib.pow10Tab) := htab
  clear htab
  go_enter Tryd.func9, Tryd.ntmps9
  go_wp2_with fail
  refine (Tryd.strconv_Itoa z h0 h1 _ HT.out).mono ?_
  rintro e w1 ⟨rfl, k, os, hw⟩
  have hb : Below w.heap.size w w1 := by rw [hw]; exact Lib.below_grow _ _ (Nat.le_refl _) _ _
  clear hw
  go_wp2
  go_ret
  exact ⟨rfl, hb⟩

def retD : Option Nat → Value
  | none => .tuple #[.int .i64 0, .bool false]
  | some n => .tuple #[.int .i64 (n : Int), .bool true]

theorem itoa_max : itoa 1000000000 = [49, 48, 48, 48, 48, 48, 48, 48, 48, 48] := by
  have e : (1000000000 : Int) = ((1000000000 : Nat) : Int) := rfl
  rw [e, itoa_pos]
  simp [decDigits]

theorem iDec_max (w : World) (htab : Lib.TabIs Tryd.prog w "internal/strconv.uint64pow10" .u64 Lib.pow10Tab) :
    Calls Tryd.prog 9 #[.int .i64 1000000000] w fun e w' => e = .returned (.string ⟨#[49, 48, 48, 48, 48, 48, 48, 48, 48, 48]⟩) ∧ Below w.heap.size w w' := by
  have h := iDecimal_any 1000000000 (by omega) (by omega) w htab
  rw [itoa_max] at h
  exact h

theorem fig_10 (s : ByteArray) (hs : s.size ≤ 1048576) (w : World) :
    Calls Tryd.prog 17 #[.string s, .int .i64 10] w fun e w' => FigEnd 10 s w.heap.size e w' ∧ Below w.heap.size w w' := fig_any s 10 hs w

set_option maxHeartbeats 1600000 in
set_option maxRecDepth 100000 in
theorem iRead_any (s : ByteArray) (hs : s.size ≤ 1048576) (w : World) (htab : Lib.TabIs Tryd.prog w "internal/strconv.uint64pow10" .u64 Lib.pow10Tab) :
    Calls Tryd.prog 8 #[.string s] w fun e w' => e = .returned (retD (rdDec s.data.toList)) ∧ Below w.heap.size w w' := by
  have hls : s.data.toList.length = s.size := by simp
  have HLS : Hid (s.data.toList.length = s.size) := hls
  have HT : Hid (Lib.TabIs Tryd.prog w "internal/strconv.uint64pow10" .u64 Lib.pow10Tab) := htab
  clear hls htab
  by_cases h0 : s.size = 0
  · have h0' : ((s.size : Int) == 0) = true := by rw [beq_iff_eq]; omega
    have HE : Hid (s.data.toList = []) := List.length_eq_zero_iff.1 (by rw [HLS.out]; exact h0)
    clear h0
    go_enter Tryd.func8, Tryd.ntmps8
    go_wp2
    go_ret2
    exact ⟨by rw [rdDec_none HE.out]; rfl, Below.refl _ _⟩
  · have h0' : ((s.size : Int) == 0) = false := by rw [beq_eq_false_iff_ne]; omega
    have hpos : 0 < s.size := by omega
    by_cases h10 : s.size ≤ 10
    · have h1 : ¬ (10 : Int) < (s.size : Int) := by omega
      have hby : (s[0].toNat : Int) ≤ 255 := by have := s[0].toNat_lt; omega
      by_cases hlead : s[0].toNat = 48 ∧ 1 < s.size
      · have hz : ((s[0].toNat : Int) == 48) = true := by simp; omega
        have hl1 : (1 : Int) < (s.size : Int) := by omega
        have HL : Hid (s.data.toList.head? = some 48 ∧ 1 < s.data.toList.length) := ⟨(head_48 hpos).2 hlead.1, by rw [HLS.out]; exact hlead.2⟩
        clear hlead
        go_enter Tryd.func8, Tryd.ntmps8
        go_wp2_with (go_at_call 9; refine (iDec_max _ HT.out).mono ?_; rintro e w1 ⟨rfl, hb1⟩)
        go_ret2
        exact ⟨by rw [rdDec_lead HL.out]; rfl, hb1⟩
      · have HL : Hid (¬ (s.data.toList.head? = some 48 ∧ 1 < s.data.toList.length)) := fun x => hlead ⟨(head_48 hpos).1 x.1, by rw [← HLS.out]; exact x.2⟩
        go_enter Tryd.func8, Tryd.ntmps8
        go_wp2_with (go_at_call 9; refine (iDec_max _ HT.out).mono ?_; rintro e w1 ⟨rfl, hb1⟩)
        all_goals
          refine (fig_10 s hs _).mono ?_
          rintro e w2 ⟨hend, hb2⟩
          have hb12 := hb1.trans (hb2.mono hb1.size)
          rcases hend with ⟨hN, rfl⟩ | ⟨v, vs, hS, rfl, hownv⟩
          · have HN : Hid (allV 10 s.data.toList = none) := hN
            clear hN
            go_wp2
            go_ret2
            exact ⟨by rw [vals_none HN.out]; rfl, hb12⟩
          · have hvl : vs.length ≤ 10 := by rw [allV_len hS, HLS.out]; exact h10
            have HLT : Hid (∀ v ∈ vs, v < 10) := fun v hv => (allV_lt hS v hv).1
            have HS : Hid (allV 10 s.data.toList = some vs) := hS
            clear hS
            obtain ⟨ra, rc, hv⟩ := row_form hownv
            subst hv
            go_wp2
            go_loop [6, 36] (fun x i => ∃ n k : Nat, x = .int .i64 (n : Int) ∧ i = .int .i64 (k : Int) ∧ k ≤ vs.length ∧ Hid (n = valF (vs.take k))) (fun _ i => vs.length - (RowKit.intOf i).toNat)
            case atStart => exact ⟨0, 0, rfl, rfl, Nat.zero_le _, (show 0 = valF (vs.take 0) by simp [valF])⟩
            case round =>
              obtain ⟨n, k, rfl, rfl, hk, hn⟩ := hrel
              have hnb : n ≤ 10000000000 := by rw [hn.out]; exact valF_bound (by omega) hk HLT.out
              by_cases hlt : k < vs.length
              · rcases hownv.2 with ⟨_, hz0⟩ | ⟨g, cap, cur, hveq, hg, _⟩
                · omega
                · have hra : ra = some ⟨g, 0, none⟩ := by injection hveq
                  subst hra
                  obtain ⟨x, hx⟩ : ∃ x, x = vs[k] := ⟨_, rfl⟩
                  have hx10 : x < 10 := by rw [hx]; exact HLT.out _ (List.getElem_mem _)
                  have hcx : w2.cell? ⟨g, k, none⟩ = some (.int .i64 (x : Int)) := by
                    rw [hownv.cellAt k (by omega), hx]; exact intsV_at hlt
                  have HN : Hid (n * 10 + x = valF (vs.take (k + 1))) := by rw [valF_take hlt, ← hn.out, ← hx]; rfl
                  clear hx
                  have hk0 : (0 : Int) ≤ (k : Int) := by omega
                  have hk1 : (k : Int) < (vs.length : Int) := by omega
                  go_wp2
                  go_round
                  case rel => exact ⟨n * 10 + x, k + 1, by go_num, by go_num, hlt, HN⟩
                  case measure => simp [RowKit.intOf]; omega
              · have hval : n = decV s.data.toList := by rw [hn.out, List.take_of_length_le (by omega)]; exact (vals_some HS.out).2
                have HVAL : Hid (n = decV s.data.toList) := hval
                clear hval
                by_cases hx : n ≤ 1000000000
                · have hx' : ¬ (1000000000 : Int) < (n : Int) := by omega
                  go_wp2
                  go_ret2
                  refine ⟨?_, hb12⟩
                  rw [rdDec_yes (by rw [HLS.out]; exact h10) (fun e => by have := HLS.out; rw [e] at this; simp at this; omega) (vals_some HS.out).1 HL.out (by rw [← HVAL.out]; exact hx), ← HVAL.out]
                  rfl
                · have hx' : (1000000000 : Int) < (n : Int) := by omega
                  go_wp2
                  go_ret2
                  exact ⟨by rw [rdDec_big (by rw [← HVAL.out]; exact hx)]; rfl, hb12⟩
    · have h1 : (10 : Int) < (s.size : Int) := by omega
      go_enter Tryd.func8, Tryd.ntmps8
      go_wp2_with (go_at_call 9; refine (iDec_max _ HT.out).mono ?_; rintro e w1 ⟨rfl, hb1⟩)
      go_ret2
      exact ⟨by rw [rdDec_long (by rw [HLS.out]; exact h10)]; rfl, hb1⟩


end Go.Proofs.YtpienefbgpgdkaaDoor
