/-
  The walk of the program's polynomial through given values.
  (-DROP-: what the seat lacks is left out.)
-/
import Derived.Test.YtjlijflfepffiaaPolyI4
import Derived.Test.YtjlijflfepffiaaJoined7
namespace Go.Proofs.Ytjlijflfepffiaa
open Go.RowKit

theorem lit1_at (w : World) (x : Int) : ZAt (w.alloc (.cells #[.int .i64 x] 3)) (w.alloc (.cells #[.int .i64 x] 3)).heap.size (.slice (some ⟨w.heap.size, 0, none⟩) 1 1) [x] := (ZOwn.of (own_lit w [x] (by simp))).at

set_option maxHeartbeats 3200000 in
set_option maxRecDepth 100000 in
theorem iThr_any (v : Value) (l : List Int) (hl : l.length ≤ 1048576) (w : World) (h : ZAt w w.heap.size v l) : Calls Try.prog 55 #[v] w fun e w' => ∃ u, e = .returned u ∧ ZOwn w.heap.size w'.heap.size w' u (pThr l) ∧ Below w.heap.size w w' := by
  obtain ⟨a, cp, rfl, hA⟩ := h
  have HA : Hid (IntsAt w a l.length w.heap.size (fun j => l.getD j 0)) := hA
  clear hA
  by_cases hbig : 16 < l.length
  · have HE : Hid (pThr l = []) := by show _ = _; unfold pThr; rw [if_pos hbig]
    have hb' : (l.length : Int) > 16 := by omega
    generalize l.length = n at *
    go_enter Try.func55, Try.ntmps55
    go_wp2
    go_ret
    exact ⟨_, rfl, by rw [HE.out]; exact ZOwn.of (World.ownsRow_lit _ _ _ (Nat.le_refl _) (by simp [maxLen]) (by simp)), (Below.refl _ _).alloc (Nat.le_refl _) _⟩
  · have HE : Hid (pThr l = thrL l l.length) := by show _ = _; unfold pThr; rw [if_neg hbig]
    have hb' : ¬ (l.length : Int) > 16 := by omega
    generalize l.length = n at *
    go_enter Try.func55, Try.ntmps55
    go_wp2
    go_loopw [3, 17] (fun u i wr => ∃ (k : Nat), i = .int .i64 (k : Int) ∧ k ≤ n ∧ Hid (ZOwn w.heap.size wr.heap.size wr u (thrL l k)) ∧ Hid (Below w.heap.size w wr)) (fun _ i _ => n - (intOf i).toNat)
    case atStart => exact ⟨0, rfl, Nat.zero_le _, ZOwn.of (World.ownsRow_lit _ _ _ (Nat.le_refl _) (by simp [maxLen]) (by simp)), (Below.refl _ _).alloc (Nat.le_refl _) _⟩
    case round =>
      obtain ⟨k, rfl, hk, HU, HB⟩ := hrel
      obtain ⟨xa, xc, hxv⟩ := row_form HU.out.1
      subst hxv
      have hthr := thrL_small l k
      generalize hzl : (thrL l k).length = zn at HU
      by_cases hlt : k < n
      · have hlt' : (k : Int) < (n : Int) := by omega
        have hk0 : (0 : Int) ≤ (k : Int) := by omega
        have hwr : IntKind.i64.wrap ((k : Int) + 1) = (k : Int) + 1 := IntWalk.i64_in _ (by omega)
        obtain ⟨ba, off, rfl, hba, hz⟩ := (HA.out.on HB.out) k hlt
        replace hz : wr.cell? ⟨ba, off + k, none⟩ = some (.int .i64 (l.getD k 0)) := hz
        have CZ : Hid (∀ w, Calls Try.prog 81 #[.int .i64 (k : Int)] w fun e w' => ∃ u, e = .returned u ∧ ZOwn w.heap.size w'.heap.size w' u (zerL k) ∧ Below w.heap.size w w') := fun w => by
          have := iZer_any (k : Int) w
          rwa [pZer_nat (by omega)] at this
        have CT : Hid (∀ w (v : Value), ZAt w w.heap.size v (thrL l k) → Calls Try.prog 85 #[v, .int .i64 ((k : Int) + 1)] w fun e w' => e = .returned (.int .i64 (pAt (thrL l k) ((k : Int) + 1))) ∧ Below w.heap.size w w') := fun w v hv => iAt_any v _ _ (by omega) w hv
        have CE : Hid (∀ w (v : Value), ZAt w w.heap.size v (zerL k) → Calls Try.prog 85 #[v, .int .i64 ((k : Int) + 1)] w fun e w' => e = .returned (.int .i64 (pAt (zerL k) ((k : Int) + 1))) ∧ Below w.heap.size w w') := fun w v hv => iAt_any v _ _ (zerL_len k) w hv
        have CN : Hid (∀ w, Calls Try.prog 89 #[.int .i64 (pAt (thrL l k) ((k : Int) + 1))] w fun e w' => e = .returned (.int .i64 (scNeg (pAt (thrL l k) ((k : Int) + 1)))) ∧ w = w') := iScNeg_any _
        have CA : Hid (∀ w, Calls Try.prog 86 #[.int .i64 (l.getD k 0), .int .i64 (scNeg (pAt (thrL l k) ((k : Int) + 1)))] w fun e w' => e = .returned (.int .i64 (scAdd (l.getD k 0) (scNeg (pAt (thrL l k) ((k : Int) + 1))))) ∧ w = w') := iScAdd_any _ _
        have CI : Hid (∀ w, Calls Try.prog 90 #[.int .i64 (pAt (zerL k) ((k : Int) + 1))] w fun e w' => e = .returned (.int .i64 (scInv (pAt (zerL k) ((k : Int) + 1)))) ∧ w = w') := iScInv_any _
        have CM : Hid (∀ w, Calls Try.prog 84 #[.int .i64 (scAdd (l.getD k 0) (scNeg (pAt (thrL l k) ((k : Int) + 1)))), .int .i64 (scInv (pAt (zerL k) ((k : Int) + 1)))] w fun e w' => e = .returned (.int .i64 (thrF l (thrL l k) k)) ∧ w = w') := iScMul_any _ _
        have CP : Hid (∀ w (u v : Value), ZAt w w.heap.size u [thrF l (thrL l k) k] → ZAt w w.heap.size v (zerL k) → Calls Try.prog 82 #[u, v] w fun e w' => ∃ u, e = .returned u ∧ ZOwn w.heap.size w'.heap.size w' u (pMul [thrF l (thrL l k) k] (zerL k)) ∧ Below w.heap.size w w') := fun w u v h1 h2 => iMul_any u v _ _ (by simp) (zerL_len k) w h1 h2
        have CS : Hid (∀ w (u v : Value), ZAt w w.heap.size u (thrL l k) → ZAt w w.heap.size v (pMul [thrF l (thrL l k) k] (zerL k)) → Calls Try.prog 91 #[u, v] w fun e w' => ∃ u, e = .returned u ∧ ZOwn w.heap.size w'.heap.size w' u (thrL l (k + 1)) ∧ Below w.heap.size w w') := fun w u v h1 h2 => iAdd_any u v _ _ (by omega) (pMul_len _ _) w h1 h2
        clear hzl hthr hba
        generalize thrF l (thrL l k) k = fac at CM CP CS
        generalize pMul [fac] (zerL k) = pm at CP CS
        generalize scAdd (l.getD k 0) (scNeg (pAt (thrL l k) ((k : Int) + 1))) = q1 at CA CM
        generalize scNeg (pAt (thrL l k) ((k : Int) + 1)) = q2 at CN CA
        generalize pAt (thrL l k) ((k : Int) + 1) = q3 at CT CN
        generalize scInv (pAt (zerL k) ((k : Int) + 1)) = q4 at CI CM
        generalize pAt (zerL k) ((k : Int) + 1) = q5 at CE CI
        generalize l.getD k 0 = y at hz CA
        generalize ht2 : thrL l (k + 1) = t2 at CS
        have HT2 : Hid (thrL l (k + 1) = t2) := ht2
        clear ht2
        generalize thrL l k = t1 at HU CT CS
        generalize zerL k = z1 at CZ CE CP
        go_wp2_with fail
        go_at_call 81
        refine (CZ.out _).mono ?_
        rintro e w1 ⟨zv, rfl, hzv, hb1⟩
        have HZ1 : Hid (ZOwn wr.heap.size w1.heap.size w1 zv z1 ∧ Below wr.heap.size wr w1) := ⟨hzv, hb1⟩
        clear hzv hb1
        go_wp2_with fail
        go_at_call 85
        refine (CT.out _ _ ((HU.out.at.on HZ1.out.2).wide HZ1.out.2.size)).mono ?_
        rintro e w2 ⟨rfl, hb2⟩
        have HB2 : Hid (Below w1.heap.size w1 w2) := hb2
        clear hb2
        go_wp2_with fail
        go_at_call 89
        refine (CN.out _).mono ?_
        rintro e wz ⟨rfl, rfl⟩
        go_wp2_with fail
        go_at_call 86
        refine (CA.out _).mono ?_
        rintro e wz ⟨rfl, rfl⟩
        go_wp2_with fail
        go_at_call 85
        refine (CE.out _ _ ((HZ1.out.1.at.on HB2.out).wide HB2.out.size)).mono ?_
        rintro e w3 ⟨rfl, hb3⟩
        have HB3 : Hid (Below w1.heap.size w1 w3) := HB2.out.trans (hb3.mono HB2.out.size)
        clear hb3
        go_wp2_with fail
        go_at_call 90
        refine (CI.out _).mono ?_
        rintro e wz ⟨rfl, rfl⟩
        go_wp2_with fail
        go_at_call 84
        refine (CM.out _).mono ?_
        rintro e wz ⟨rfl, rfl⟩
        go_wp2_with fail
        have HB4 : Hid (Below w1.heap.size w1 (w3.alloc (.cells #[.int .i64 fac] 3))) := HB3.out.alloc HB3.out.size _
        have HL4 : Hid (ZAt (w3.alloc (.cells #[.int .i64 fac] 3)) (w3.alloc (.cells #[.int .i64 fac] 3)).heap.size (.slice (some ⟨w3.heap.size, 0, none⟩) 1 1) [fac]) := lit1_at w3 fac
        generalize w3.alloc (.cells #[.int .i64 fac] 3) = w4 at HB4 HL4 ⊢
        go_at_call 82
        refine (CP.out _ _ _ HL4.out ((HZ1.out.1.at.on HB4.out).wide HB4.out.size)).mono ?_
        rintro e w5 ⟨pv, rfl, hpv, hb5⟩
        have HB5 : Hid (Below wr.heap.size wr w5) := HZ1.out.2.trans ((HB4.out.trans (hb5.mono HB4.out.size)).mono HZ1.out.2.size)
        have HP5 : Hid (ZAt w5 w5.heap.size pv pm) := hpv.at
        clear hpv hb5
        go_wp2_with fail
        go_at_call 91
        refine (CS.out _ _ _ ((HU.out.at.on HB5.out).wide HB5.out.size) HP5.out).mono ?_
        rintro e w6 ⟨nv, rfl, hnv, hb6⟩
        have hws : w.heap.size ≤ w5.heap.size := Nat.le_trans HB.out.size HB5.out.size
        have HB6 : Hid (Below w.heap.size w w6) := (HB.out.trans (HB5.out.mono HB.out.size)).trans (hb6.mono hws)
        have HN6 : Hid (ZOwn w.heap.size w6.heap.size w6 nv t2) := hnv.wide hws (Nat.le_refl _)
        clear hnv hb6 hws HP5 HB5 HB4 HL4 HB3 HB2 HZ1 CS CP CM CI CA CN CE CT CZ HU
        go_wp2
        go_roundw
        case rel => exact ⟨k + 1, by go_num, hlt, by rw [HT2.out]; exact HN6, HB6⟩
        case measure => simp [intOf]; omega
      · have hlt' : ¬ (k : Int) < (n : Int) := by omega
        obtain rfl : n = k := by omega
        clear hzl hthr
        go_wp2
        go_ret
        exact ⟨_, rfl, by rw [HE.out]; exact HU.out, HB.out⟩

end Go.Proofs.Ytjlijflfepffiaa
