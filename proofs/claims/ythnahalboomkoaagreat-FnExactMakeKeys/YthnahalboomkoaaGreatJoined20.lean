/-
  Texts of one's own, joined.
-/
import Derived.Test.YthnahalboomkoaaGreatJoined19
import Derived.Test.YthnahalboomkoaaGreatJoined7

/-
  The walks of the program's values and of its polynomial with given zeros.
  (-DROP-: what the seat lacks is left out.)
-/
namespace Go.Proofs.YthnahalboomkoaaGreat
open Go.RowKit

theorem drop_here {l : List Int} {k : Nat} (h : k < l.length) : l.drop k = l.getD k 0 :: l.drop (k + 1) := by
  rw [List.drop_eq_getElem_cons h]
  simp [h]

set_option maxHeartbeats 1600000 in
set_option maxRecDepth 100000 in
theorem iAt_any (v : Value) (l : List Int) (x : Int) (hl : l.length ≤ 1048576) (w : World) (h : ZAt w w.heap.size v l) :
    Calls Tryz.prog 124 #[v, .int .i64 x] w fun e w' => e = .returned (.int .i64 (pAt l x)) ∧ Below w.heap.size w w' := by
  obtain ⟨a, cp, rfl, hA⟩ := h
  have HA : Hid (IntsAt w a l.length w.heap.size (fun j => l.getD j 0)) := hA
  clear hA
  obtain ⟨n, hn⟩ : ∃ n, n = l.length := ⟨_, rfl⟩
  have HN : Hid (n = l.length) := hn
  rw [← hn] at HA hl ⊢
  clear hn
  go_enter Tryz.func124, Tryz.ntmps124
  go_wp2
  go_loopw [5, 6] (fun y i wr => ∃ (k : Nat), i = .int .i64 ((k : Int) - 1) ∧ k ≤ n ∧ y = .int .i64 (pAt (l.drop k) x) ∧ Hid (Below w.heap.size w wr)) (fun _ i _ => (intOf i + 1).toNat)
  case atStart => exact ⟨n, rfl, Nat.le_refl _, by rw [HN.out, List.drop_length]; rfl, Below.refl _ _⟩
  case round =>
    obtain ⟨k, rfl, hk, rfl, HB⟩ := hrel
    by_cases h0 : 0 < k
    · obtain ⟨j, rfl⟩ : ∃ j, k = j + 1 := ⟨k - 1, by omega⟩
      have hi1 : ((j + 1 : Nat) : Int) - 1 = (j : Int) := by omega
      have hi2 : (0 : Int) ≤ (j : Int) := by omega
      have hi3 : (j : Int) < (n : Int) := by omega
      obtain ⟨b, off, rfl, hb, hz⟩ := (HA.out.on HB.out) j (by omega)
      replace hz : wr.cell? ⟨b, off + j, none⟩ = some (.int .i64 (l.getD j 0)) := hz
      have HP : Hid (pAt (l.drop j) x = scAdd (scMul (pAt (l.drop (j + 1)) x) x) (l.getD j 0)) := by
        show _ = _
        rw [drop_here (l := l) (k := j) (by have := HN.out; omega)]
        rfl
      have HC : Hid (∀ w, Calls Tryz.prog 56 #[.int .i64 (pAt (l.drop (j + 1)) x), .int .i64 x] w fun e w' => e = .returned (.int .i64 (scMul (pAt (l.drop (j + 1)) x) x)) ∧ w' = w) := fun w => (iScMul_any _ _ w).mono fun e w' h => ⟨h.1, h.2.symm⟩
      have HD : Hid (∀ w, Calls Tryz.prog 94 #[.int .i64 (scMul (pAt (l.drop (j + 1)) x) x), .int .i64 (l.getD j 0)] w fun e w' => e = .returned (.int .i64 (pAt (l.drop j) x)) ∧ w' = w) := fun w => by
        rw [HP.out]
        exact (iScAdd_any _ _ w).mono fun e w' h => ⟨h.1, h.2.symm⟩
      obtain ⟨r, hr⟩ : ∃ r, r = pAt (l.drop j) x := ⟨_, rfl⟩
      have HR : Hid (r = pAt (l.drop j) x) := hr
      rw [← hr] at HD
      clear hr HP
      generalize scMul (pAt (l.drop (j + 1)) x) x = p at HC HD
      generalize pAt (l.drop (j + 1)) x = q at HC
      generalize l.getD j 0 = z at HD hz
      clear hb HA
      go_wp2
      refine wp_region_still_tail 8 mixesSc (by kernel_rfl) ?_
      simp only [List.take_succ_cons, List.take_zero, List.drop_succ_cons, List.drop_zero]
      repeat still_step
      still_call (HC.out _)
      repeat still_step
      still_call (HD.out _)
      repeat still_step
      refine wpStill_nil ?_
      go_wp2
      go_roundw
      case rel => exact ⟨j, by go_num, by omega, by rw [HR.out], HB.out.drew⟩
      case measure => simp [intOf]
    · obtain rfl : k = 0 := by omega
      go_wp2
      go_ret
      exact ⟨by simp, HB.out⟩

set_option maxHeartbeats 1600000 in
set_option maxRecDepth 100000 in
theorem iZer_any (n : Int) (w : World) : Calls Tryz.prog 125 #[.int .i64 n] w fun e w' => ∃ u, e = .returned u ∧ ZOwn w.heap.size w'.heap.size w' u (pZer n) ∧ Below w.heap.size w w' := by
  by_cases h0 : n < 0
  · have HE : Hid (pZer n = []) := by show _ = _; unfold pZer; rw [if_pos (Or.inl h0)]
    go_enter Tryz.func125, Tryz.ntmps125
    go_wp2
    go_ret
    exact ⟨_, rfl, by rw [HE.out]; exact ZOwn.of (World.ownsRow_lit _ _ _ (Nat.le_refl _) (by simp [maxLen]) (by simp)), (Below.refl _ _).alloc (Nat.le_refl _) _⟩
  · by_cases h1 : n > 16
    · have HE : Hid (pZer n = []) := by show _ = _; unfold pZer; rw [if_pos (Or.inr h1)]
      go_enter Tryz.func125, Tryz.ntmps125
      go_wp2
      go_ret
      exact ⟨_, rfl, by rw [HE.out]; exact ZOwn.of (World.ownsRow_lit _ _ _ (Nat.le_refl _) (by simp [maxLen]) (by simp)), (Below.refl _ _).alloc (Nat.le_refl _) _⟩
    · obtain ⟨m, rfl⟩ : ∃ m : Nat, n = (m : Int) := ⟨n.toNat, by omega⟩
      have HE : Hid (pZer (m : Int) = zerL m) := by show _ = _; exact pZer_nat (by omega)
      have hm : m ≤ 16 := by omega
      have h0' : ¬ (m : Int) < 0 := by omega
      go_enter Tryz.func125, Tryz.ntmps125
      go_wp2
      go_loopw [3, 14] (fun u i wr => ∃ (k : Nat), i = .int .i64 (k : Int) ∧ k ≤ m ∧ Hid (ZOwn w.heap.size wr.heap.size wr u (zerL k)) ∧ Hid (Below w.heap.size w wr)) (fun _ i _ => m - (intOf i).toNat)
      case atStart => exact ⟨0, rfl, Nat.zero_le _, ZOwn.of (own_lit w [1] (by simp)), (Below.refl _ _).alloc (Nat.le_refl _) _⟩
      case round =>
        obtain ⟨k, rfl, hk, HU, HB⟩ := hrel
        obtain ⟨xa, xc, hxv⟩ := row_form HU.out.1
        subst hxv
        generalize hzl : (zerL k).length = zn at HU
        clear hzl
        by_cases hlt : k < m
        · have hlt' : (k : Int) < (m : Int) := by omega
          have hwr : IntKind.i64.wrap ((k : Int) + 1) = (k : Int) + 1 := IntWalk.i64_in _ (by omega)
          have hwn : IntKind.i64.wrap (-((k : Int) + 1)) = -((k : Int) + 1) := IntWalk.i64_in _ (by omega)
          have CM : Hid (∀ V : World, V = wr.alloc (.cells #[.int .i64 (-((k : Int) + 1)), .int .i64 1] 3) → Calls Tryz.prog 180 #[.slice xa zn xc, .slice (some ⟨wr.heap.size, 0, none⟩) 2 2] V fun e w' => ∃ x, e = .returned x ∧ ZOwn V.heap.size w'.heap.size w' x (zerL (k + 1)) ∧ Below V.heap.size V w') := fun V hV => by
            subst hV
            have hb : Below wr.heap.size wr (wr.alloc (.cells #[.int .i64 (-((k : Int) + 1)), .int .i64 1] 3)) := (Below.refl _ _).alloc (Nat.le_refl _) _
            refine iQMul_any _ _ (zerL k) [-((k : Int) + 1), 1] (zerL_len k) (by simp) _ (((HU.out.at).on hb).wide hb.size) ?_
            exact (ZOwn.of (own_lit wr [-((k : Int) + 1), 1] (by simp))).at
          clear HU
          go_wp2_with (go_at_call 180; refine (CM.out _ rfl).mono ?_; rintro e w2 ⟨x, rfl, hx, hb2⟩)
          have hs : wr.heap.size ≤ (wr.alloc (.cells #[.int .i64 (-((k : Int) + 1)), .int .i64 1] 3)).heap.size := by simp
          have HX : Hid (ZOwn w.heap.size w2.heap.size w2 x (zerL (k + 1))) := hx.wide (Nat.le_trans HB.out.size hs) (Nat.le_refl _)
          have HB2 : Hid (Below w.heap.size w w2) := (HB.out.alloc HB.out.size _).trans (hb2.mono (Nat.le_trans HB.out.size hs))
          clear hx hb2 hs CM
          go_wp2
          go_roundw
          case rel => exact ⟨k + 1, by go_num, hlt, HX, HB2⟩
          case measure => simp [intOf]; omega
        · have hlt' : ¬ (k : Int) < (m : Int) := by omega
          obtain rfl : m = k := by omega
          go_wp2
          go_ret
          exact ⟨_, rfl, by rw [HE.out]; exact HU.out, HB.out⟩

end Go.Proofs.YthnahalboomkoaaGreat

/-
  The walk of the program's polynomial through given values.
  (-DROP-: what the seat lacks is left out.)
-/
namespace Go.Proofs.YthnahalboomkoaaGreat
open Go.RowKit

theorem lit1_at (w : World) (x : Int) : ZAt (w.alloc (.cells #[.int .i64 x] 3)) (w.alloc (.cells #[.int .i64 x] 3)).heap.size (.slice (some ⟨w.heap.size, 0, none⟩) 1 1) [x] := (ZOwn.of (own_lit w [x] (by simp))).at

set_option maxHeartbeats 3200000 in
set_option maxRecDepth 100000 in
theorem iThr_any (v : Value) (l : List Int) (hl : l.length ≤ 1048576) (w : World) (h : ZAt w w.heap.size v l) : Calls Tryz.prog 179 #[v] w fun e w' => ∃ u, e = .returned u ∧ ZOwn w.heap.size w'.heap.size w' u (pThr l) ∧ Below w.heap.size w w' := by
  obtain ⟨a, cp, rfl, hA⟩ := h
  have HA : Hid (IntsAt w a l.length w.heap.size (fun j => l.getD j 0)) := hA
  clear hA
  by_cases hbig : 16 < l.length
  · have HE : Hid (pThr l = []) := by show _ = _; unfold pThr; rw [if_pos hbig]
    have hb' : (l.length : Int) > 16 := by omega
    generalize l.length = n at *
    go_enter Tryz.func179, Tryz.ntmps179
    go_wp2
    go_ret
    exact ⟨_, rfl, by rw [HE.out]; exact ZOwn.of (World.ownsRow_lit _ _ _ (Nat.le_refl _) (by simp [maxLen]) (by simp)), (Below.refl _ _).alloc (Nat.le_refl _) _⟩
  · have HE : Hid (pThr l = thrL l l.length) := by show _ = _; unfold pThr; rw [if_neg hbig]
    have hb' : ¬ (l.length : Int) > 16 := by omega
    generalize l.length = n at *
    go_enter Tryz.func179, Tryz.ntmps179
    go_wp2
    go_loopw [3, 17] (fun u i wr => ∃ (k : Nat), i = .int .i64 (k : Int) ∧ k ≤ n ∧ Hid (ZOwn w.heap.size wr.heap.size wr u (thrL l k)) ∧ Hid (Below w.heap.size w wr)) (fun _ i _ => n - (intOf i).toNat)
    case atStart => exact ⟨0, rfl, Nat.zero_le _, ZOwn.of (World.ownsRow_lit _ _ _ (Nat.le_refl _) (by simp [maxLen]) (by simp)), (Below.refl _ _).alloc (Nat.le_refl _) _⟩
    case round =>
      obtain ⟨k, rfl, hk, HU, HB⟩ := hrel
      obtain ⟨xa, xc, hxv⟩ := row_form HU.out.1
      subst hxv
      have hthr := thrL_small l k
      generalize hzl : (thrL l k).length = zn at HU
      by_cases hlt : k < n
      · have hlt' : (k : Int) < (n : Int) := by omega
        have hk0 : (0 : Int) ≤ (k : Int) := by omega
        have hwr : IntKind.i64.wrap ((k : Int) + 1) = (k : Int) + 1 := IntWalk.i64_in _ (by omega)
        obtain ⟨ba, off, rfl, hba, hz⟩ := (HA.out.on HB.out) k hlt
        replace hz : wr.cell? ⟨ba, off + k, none⟩ = some (.int .i64 (l.getD k 0)) := hz
        have CZ : Hid (∀ w, Calls Tryz.prog 125 #[.int .i64 (k : Int)] w fun e w' => ∃ u, e = .returned u ∧ ZOwn w.heap.size w'.heap.size w' u (zerL k) ∧ Below w.heap.size w w') := fun w => by
          have := iZer_any (k : Int) w
          rwa [pZer_nat (by omega)] at this
        have CT : Hid (∀ w (v : Value), ZAt w w.heap.size v (thrL l k) → Calls Tryz.prog 124 #[v, .int .i64 ((k : Int) + 1)] w fun e w' => e = .returned (.int .i64 (pAt (thrL l k) ((k : Int) + 1))) ∧ Below w.heap.size w w') := fun w v hv => iAt_any v _ _ (by omega) w hv
        have CE : Hid (∀ w (v : Value), ZAt w w.heap.size v (zerL k) → Calls Tryz.prog 124 #[v, .int .i64 ((k : Int) + 1)] w fun e w' => e = .returned (.int .i64 (pAt (zerL k) ((k : Int) + 1))) ∧ Below w.heap.size w w') := fun w v hv => iAt_any v _ _ (zerL_len k) w hv
        have CN : Hid (∀ w, Calls Tryz.prog 204 #[.int .i64 (pAt (thrL l k) ((k : Int) + 1))] w fun e w' => e = .returned (.int .i64 (scNeg (pAt (thrL l k) ((k : Int) + 1)))) ∧ w = w') := iScNeg_any _
        have CA : Hid (∀ w, Calls Tryz.prog 94 #[.int .i64 (l.getD k 0), .int .i64 (scNeg (pAt (thrL l k) ((k : Int) + 1)))] w fun e w' => e = .returned (.int .i64 (scAdd (l.getD k 0) (scNeg (pAt (thrL l k) ((k : Int) + 1))))) ∧ w = w') := iScAdd_any _ _
        have CI : Hid (∀ w, Calls Tryz.prog 96 #[.int .i64 (pAt (zerL k) ((k : Int) + 1))] w fun e w' => e = .returned (.int .i64 (scInv (pAt (zerL k) ((k : Int) + 1)))) ∧ w = w') := iScInv_any _
        have CM : Hid (∀ w, Calls Tryz.prog 56 #[.int .i64 (scAdd (l.getD k 0) (scNeg (pAt (thrL l k) ((k : Int) + 1)))), .int .i64 (scInv (pAt (zerL k) ((k : Int) + 1)))] w fun e w' => e = .returned (.int .i64 (thrF l (thrL l k) k)) ∧ w = w') := iScMul_any _ _
        have CP : Hid (∀ w (u v : Value), ZAt w w.heap.size u [thrF l (thrL l k) k] → ZAt w w.heap.size v (zerL k) → Calls Tryz.prog 180 #[u, v] w fun e w' => ∃ u, e = .returned u ∧ ZOwn w.heap.size w'.heap.size w' u (qMul [thrF l (thrL l k) k] (zerL k)) ∧ Below w.heap.size w w') := fun w u v h1 h2 => iQMul_any u v _ _ (by simp) (zerL_len k) w h1 h2
        have CS : Hid (∀ w (u v : Value), ZAt w w.heap.size u (thrL l k) → ZAt w w.heap.size v (qMul [thrF l (thrL l k) k] (zerL k)) → Calls Tryz.prog 205 #[u, v] w fun e w' => ∃ u, e = .returned u ∧ ZOwn w.heap.size w'.heap.size w' u (thrL l (k + 1)) ∧ Below w.heap.size w w') := fun w u v h1 h2 => iQAdd_any u v _ _ (by omega) (qMul_len _ _) w h1 h2
        clear hzl hthr hba
        generalize thrF l (thrL l k) k = fac at CM CP CS
        generalize qMul [fac] (zerL k) = pm at CP CS
        generalize scAdd (l.getD k 0) (scNeg (pAt (thrL l k) ((k : Int) + 1))) = q1 at CA CM
        generalize scNeg (pAt (thrL l k) ((k : Int) + 1)) = q2 at CN CA
        generalize pAt (thrL l k) ((k : Int) + 1) = q3 at CT CN
        generalize scInv (pAt (zerL k) ((k : Int) + 1)) = q4 at CI CM
        generalize pAt (zerL k) ((k : Int) + 1) = q5 at CE CI
        generalize l.getD k 0 = y at hz CA
        generalize ht2 : thrL l (k + 1) = t2 at CS
        have HT2 : Hid (thrL l (k + 1) = t2) := ht2
        clear ht2
        generalize thrL l k = t1 at HU CT CS
        generalize zerL k = z1 at CZ CE CP
        go_wp2_with fail
        go_at_call 125
        refine (CZ.out _).mono ?_
        rintro e w1 ⟨zv, rfl, hzv, hb1⟩
        have HZ1 : Hid (ZOwn wr.heap.size w1.heap.size w1 zv z1 ∧ Below wr.heap.size wr w1) := ⟨hzv, hb1⟩
        clear hzv hb1
        go_wp2_with fail
        go_at_call 124
        refine (CT.out _ _ ((HU.out.at.on HZ1.out.2).wide HZ1.out.2.size)).mono ?_
        rintro e w2 ⟨rfl, hb2⟩
        have HB2 : Hid (Below w1.heap.size w1 w2) := hb2
        clear hb2
        go_wp2_with fail
        go_at_call 204
        refine (CN.out _).mono ?_
        rintro e wz ⟨rfl, rfl⟩
        go_wp2_with fail
        go_at_call 94
        refine (CA.out _).mono ?_
        rintro e wz ⟨rfl, rfl⟩
        go_wp2_with fail
        go_at_call 124
        refine (CE.out _ _ ((HZ1.out.1.at.on HB2.out).wide HB2.out.size)).mono ?_
        rintro e w3 ⟨rfl, hb3⟩
        have HB3 : Hid (Below w1.heap.size w1 w3) := HB2.out.trans (hb3.mono HB2.out.size)
        clear hb3
        go_wp2_with fail
        go_at_call 96
        refine (CI.out _).mono ?_
        rintro e wz ⟨rfl, rfl⟩
        go_wp2_with fail
        go_at_call 56
        refine (CM.out _).mono ?_
        rintro e wz ⟨rfl, rfl⟩
        go_wp2_with fail
        have HB4 : Hid (Below w1.heap.size w1 (w3.alloc (.cells #[.int .i64 fac] 3))) := HB3.out.alloc HB3.out.size _
        have HL4 : Hid (ZAt (w3.alloc (.cells #[.int .i64 fac] 3)) (w3.alloc (.cells #[.int .i64 fac] 3)).heap.size (.slice (some ⟨w3.heap.size, 0, none⟩) 1 1) [fac]) := lit1_at w3 fac
        generalize w3.alloc (.cells #[.int .i64 fac] 3) = w4 at HB4 HL4 ⊢
        go_at_call 180
        refine (CP.out _ _ _ HL4.out ((HZ1.out.1.at.on HB4.out).wide HB4.out.size)).mono ?_
        rintro e w5 ⟨pv, rfl, hpv, hb5⟩
        have HB5 : Hid (Below wr.heap.size wr w5) := HZ1.out.2.trans ((HB4.out.trans (hb5.mono HB4.out.size)).mono HZ1.out.2.size)
        have HP5 : Hid (ZAt w5 w5.heap.size pv pm) := hpv.at
        clear hpv hb5
        go_wp2_with fail
        go_at_call 205
        refine (CS.out _ _ _ ((HU.out.at.on HB5.out).wide HB5.out.size) HP5.out).mono ?_
        rintro e w6 ⟨nv, rfl, hnv, hb6⟩
        have hws : w.heap.size ≤ w5.heap.size := Nat.le_trans HB.out.size HB5.out.size
        have HB6 : Hid (Below w.heap.size w w6) := (HB.out.trans (HB5.out.mono HB.out.size)).trans (hb6.mono hws)
        have HN6 : Hid (ZOwn w.heap.size w6.heap.size w6 nv t2) := hnv.wide hws (Nat.le_refl _)
        clear hnv hb6 hws HP5 HB5 HB4 HL4 HB3 HB2 HZ1 CS CP CM CI CA CN CE CT CZ HU
        go_wp2
        go_roundw
        case rel => exact ⟨k + 1, by go_num, hlt, by rw [HT2.out]; exact HN6, HB6⟩
        case measure => simp [intOf]; omega
      · have hlt' : ¬ (k : Int) < (n : Int) := by omega
        obtain rfl : n = k := by omega
        clear hzl hthr
        go_wp2
        go_ret
        exact ⟨_, rfl, by rw [HE.out]; exact HU.out, HB.out⟩

end Go.Proofs.YthnahalboomkoaaGreat
