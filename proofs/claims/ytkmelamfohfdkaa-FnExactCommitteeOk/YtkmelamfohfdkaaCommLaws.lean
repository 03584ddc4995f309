/-
  The walks of the exact laws of committees that start no goroutine.
  (-DROP-: what the seat lacks is left out.)
-/
import Derived.Test.YtkmelamfohfdkaaCommRow
import Derived.Test.YtkmelamfohfdkaaJoined51
import Derived.Test.YtkmelamfohfdkaaJoined51
namespace Go.Proofs.Ytkmelamfohfdkaa
open Go.RowKit

set_option maxHeartbeats 1600000 in
set_option maxRecDepth 100000 in
theorem lawCommOk (a : Option Addr) (n c : Nat) (hn : n ≤ 9223372036854775807) (f : Nat → Pt) (w : World) (hA : PtsAt w a n w.heap.size f) :
    Calls Try.prog 3 #[cv a n c] w fun e w' => e = .returned (.bool true) ∧ Below w.heap.size w w' := by
  have HA : Hid (PtsAt w a n w.heap.size f) := hA
  clear hA
  have HZ : Hid (∀ w, Calls Try.prog 6 #[cv a n c, .int .i64 1048576] w fun e w' => e = .returned (.int .i64 (if 1048576 < n then -1 else 1048576 - (n : Int))) ∧ Below w.heap.size w w') := szComm_any a n c hn
  obtain ⟨W0, hE0, hb0, hx0⟩ := box1 w 24 #[.slice a n c]
  have q0 := hx0.cell 0
  by_cases h1 : 1048576 < n
  · rw [if_pos h1] at HZ
    go_enter Try.func3, Try.ntmps3
    go_wp2_with fail
    clear hE0
    refine (HZ.out _).mono ?_
    rintro e w1 ⟨rfl, hb1⟩
    have hB1 := below_then hb0 hb1
    clear hb0 hb1 hx0 q0 HZ
    go_wp2
    go_ret
    exact ⟨rfl, hB1⟩
  rw [if_neg h1] at HZ
  have hn1 : n ≤ 1048576 := by omega
  have h1' : ¬ 1048576 - (n : Int) < 0 := by omega
  obtain ⟨R, hq1, hq2⟩ : ∃ R : Bool, (∀ a' cp w, PtsAt w a' n w.heap.size f → Calls Try.prog 9 #[cv a' n cp] w fun e w' => e = .returned (.bool R) ∧ Below w.heap.size w w') ∧ (∀ a' cp w, PtsAt w a' n w.heap.size f → Calls Try.prog 7 #[cv a' n cp] w fun e w' => e = .returned (.bool R) ∧ Below w.heap.size w w') := ⟨_, fun a' cp w h1 => iCommOk_any a' n cp hn f w h1, fun a' cp w h1 => sCommOk_any a' n cp hn f w h1⟩
  have HQ1 : Hid _ := hq1
  have HQ2 : Hid _ := hq2
  clear hq1 hq2
  go_enter Try.func3, Try.ntmps3
  go_wp2_with fail
  clear hE0 q0
  refine (HZ.out _).mono ?_
  rintro e w1 ⟨rfl, hb1⟩
  have HB0 : Hid (Below w.heap.size w W0) := hb0
  have hsW0 : w.heap.size ≤ W0.heap.size := hb0.size
  clear HZ hb0
  have hsw1 : W0.heap.size ≤ w1.heap.size := hb1.size
  have F1 := hx0.on hb1 hx0.lt
  have F2 : Hid (Below w.heap.size w w1) := HB0.out.trans (hb1.mono HB0.out.size)
  clear hb1 hx0 HB0
  go_wp2_with (refine load_blk rfl rfl rfl F1 Try.underlying24 infoLC ?_)
  refine (toComm_any a n c hn1 f _ ((HA.out.on F2.out).wide F2.out.size)).mono ?_
  rintro e w6 ⟨g3, rfl, hR4, hg5, hb7⟩
  have hsw6 : w1.heap.size ≤ w6.heap.size := hb7.size
  have F8 := F1.on hb7 F1.lt
  have F9 : Hid (Below w.heap.size w w6) := F2.out.trans (hb7.mono F2.out.size)
  clear hb7 F1 F2
  have F10 : Hid (RowPt w6 g3 n f) := hR4
  have hg5' : g3 < w6.heap.size := hR4.lt
  clear hR4
  go_wp2_with fail
  refine (HQ2.out _ _ _ (F10.out.pts F10.out.lt)).mono ?_
  rintro e w11 ⟨rfl, hb12⟩
  have hsw11 : w6.heap.size ≤ w11.heap.size := hb12.size
  have F13 := F8.on hb12 F8.lt
  have F14 : Hid (Below w.heap.size w w11) := F9.out.trans (hb12.mono F9.out.size)
  clear hb12 F8 F9 F10
  clear HQ2
  go_wp2_with (refine load_blk rfl rfl rfl F13 Try.underlying24 infoLC ?_)
  refine (toComm_any a n c hn1 f _ ((HA.out.on F14.out).wide F14.out.size)).mono ?_
  rintro e w18 ⟨g15, rfl, hR16, hg17, hb19⟩
  have hsw18 : w11.heap.size ≤ w18.heap.size := hb19.size
  have F20 := F13.on hb19 F13.lt
  have F21 : Hid (Below w.heap.size w w18) := F14.out.trans (hb19.mono F14.out.size)
  clear hb19 F13 F14
  have F22 : Hid (RowPt w18 g15 n f) := hR16
  have hg17' : g15 < w18.heap.size := hR16.lt
  clear hR16
  obtain ⟨W23, hE24, hb25, F26⟩ := box1 w18 29 #[.slice (some ⟨g15, 0, none⟩) n n]
  have hlW23 : w18.heap.size < W23.heap.size := F26.lt
  have q0 := F26.cell 0
  go_wp2_with fail
  clear q0
  clear hE24
  have hsW23 : w18.heap.size ≤ W23.heap.size := hb25.size
  have F27 := F20.on hb25 F20.lt
  have F28 : Hid (Below w.heap.size w W23) := F21.out.trans (hb25.mono F21.out.size)
  have F29 : Hid (RowPt W23 g15 n f) := F22.out.on hb25 F22.out.lt
  clear hb25 F20 F21 F22
  refine (HQ1.out _ _ _ (F29.out.pts F29.out.lt)).mono ?_
  rintro e w30 ⟨rfl, hb31⟩
  have hsw30 : W23.heap.size ≤ w30.heap.size := hb31.size
  have F32 := F27.on hb31 F27.lt
  have F33 : Hid (Below w.heap.size w w30) := F28.out.trans (hb31.mono F28.out.size)
  have F34 : Hid (RowPt w30 g15 n f) := F29.out.on hb31 F29.out.lt
  have F35 := F26.on hb31 F26.lt
  clear hb31 F27 F28 F29 F26
  clear HQ1
  go_wp2_with fail
  have hD : Below w30.heap.size w30 w30.drew := (Below.refl _ _).drew
  have hAD := (HA.out.on F33.out.drew).wide F33.out.drew.size
  refine wp_region_ord [(0, false), (1, false), (2, true), (3, true), (4, true)] (fun wz => Below w30.heap.size w30 wz) mixes (by kernel_rfl) hD ?_
  repeat (refine ord_float rfl rfl (fun K hK => ⟨_, (fun w' hw => by have q0 := (F35.on hw F35.lt).cell 0; have q1 :=  (F32.on hw F32.lt).cell 0; go_simp; exact rfl), ?_⟩); go_simp; refine hK _ ?_; clear hK K)
  refine ord_call rfl rfl (fun K hK => ⟨_, _, (by go_simp <;> first | exact rfl | exact ⟨rfl, rfl⟩), ?_⟩)
  refine (toComm_any a n c hn1 f _ hAD).mono ?_
  rintro e v1 ⟨gz, rfl, hRz, _, hbz⟩
  have hBz := below_then hD hbz
  have hPx := ((F34.out.pts F34.out.lt).over hBz)
  have hPz := hRz.pts hRz.lt
  clear hRz hbz hD hAD
  refine ⟨_, rfl, hBz, ?_⟩
  go_simp
  refine hK _ _ ?_
  clear hK K
  refine ord_call rfl rfl (fun K hK => ⟨_, _, (by go_simp <;> first | exact rfl | exact ⟨rfl, rfl⟩), ?_⟩)
  refine (eqComm_any _ _ n n n hn1 f _ hPx hPz).mono ?_
  rintro e v2 ⟨rfl, hby⟩
  have hBy := below_then hBz hby
  clear hby hBz hPx hPz
  refine ⟨_, rfl, hBy, ?_⟩
  go_simp
  refine hK _ _ ?_
  clear hK K
  refine ord_op rfl rfl (fun K hK => ⟨_, _, (by go_simp <;> first | exact ⟨rfl, rfl⟩ | exact rfl), hBy, ?_⟩)
  go_simp
  refine hK _ _ ?_
  clear hK K
  refine ord_nil ?_
  have hsv2 : w30.heap.size ≤ v2.heap.size := hBy.size
  have F36 := F32.on hBy F32.lt
  have F37 : Hid (Below w.heap.size w v2) := F33.out.trans (hBy.mono F33.out.size)
  have F38 : Hid (RowPt v2 g15 n f) := F34.out.on hBy F34.out.lt
  have F39 := F35.on hBy F35.lt
  clear hBy F32 F33 F34 F35
  go_wp2
  go_ret
  exact ⟨rfl, F37.out⟩

end Go.Proofs.Ytkmelamfohfdkaa
