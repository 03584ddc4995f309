/-
  The walk of the specification's polynomial through given values.
  (-DROP-: what the seat lacks is left out.)
-/
import Derived.Test.YthnahalboomkoaaGreatJoined12

namespace Go.Proofs.YthnahalboomkoaaGreat
open Go.RowKit

set_option maxHeartbeats 3200000 in
set_option maxRecDepth 100000 in
theorem sThr_any (v : Value) (l : List Int) (hl : l.length ≤ 1048576) (w : World) (h : ZAt w w.heap.size v l) : Calls Tryz.prog 151 #[v] w fun e w' => ∃ u, e = .returned u ∧ ZOwn w.heap.size w'.heap.size w' u (pThr l) ∧ Below w.heap.size w w' := by
  obtain ⟨a, cp, rfl, hA⟩ := h
  have HA : Hid (IntsAt w a l.length w.heap.size (fun j => l.getD j 0)) := hA
  clear hA
  by_cases hbig : 16 < l.length
  · have HE : Hid (pThr l = []) := by show _ = _; unfold pThr; rw [if_pos hbig]
    have hb' : (l.length : Int) > 16 := by omega
    generalize l.length = n at *
    go_enter Tryz.func151, Tryz.ntmps151
    go_wp2
    go_ret
    exact ⟨_, rfl, by rw [HE.out]; exact ZOwn.of (World.ownsRow_lit _ _ _ (Nat.le_refl _) (by simp [maxLen]) (by simp)), (Below.refl _ _).alloc (Nat.le_refl _) _⟩
  · have HE : Hid (lagL l l.length l.length = pThr l) := thr_lag l (by omega)
    have hb' : ¬ (l.length : Int) > 16 := by omega
    generalize l.length = n at *
    go_enter Tryz.func151, Tryz.ntmps151
    go_wp2
    go_loopw [3, 4] (fun u i wr => ∃ (k : Nat), i = .int .i64 (k : Int) ∧ k ≤ n ∧ Hid (ZOwn w.heap.size wr.heap.size wr u (lagL l n k)) ∧ Hid (Below w.heap.size w wr)) (fun _ i _ => n - (intOf i).toNat)
    case atStart => exact ⟨0, rfl, Nat.zero_le _, ZOwn.of (World.ownsRow_lit _ _ _ (Nat.le_refl _) (by simp [maxLen]) (by simp)), (Below.refl _ _).alloc (Nat.le_refl _) _⟩
    case round =>
      obtain ⟨i, rfl, hi, HU, HB⟩ := hrel
      obtain ⟨xa, xc, hxv⟩ := row_form HU.out.1
      subst hxv
      have hlag := lagL_small l n i hi
      generalize hzl : (lagL l n i).length = zn at HU
      by_cases hlt : i < n
      · have hlt' : (i : Int) < (n : Int) := by omega
        have hi0 : (0 : Int) ≤ (i : Int) := by omega
        generalize wr = w0 at *
        go_wp2
        go_loopw [5, 6, 7] (fun ov lv kv wr => ∃ (k : Nat), kv = .int .i64 (k : Int) ∧ k ≤ n ∧ lv = .int .i64 (lowL i k) ∧ Hid (ZOwn w0.heap.size wr.heap.size wr ov (oneL i k)) ∧ Hid (Below w0.heap.size w0 wr)) (fun _ _ kv _ => n - (intOf kv).toNat)
        case atStart => exact ⟨0, rfl, Nat.zero_le _, rfl, ZOwn.of (own_lit w0 [1] (by simp)), (Below.refl _ _).alloc (Nat.le_refl _) _⟩
        case round =>
          obtain ⟨k, rfl, hk, rfl, HO, HV⟩ := hrel
          obtain ⟨oa, oc, hov⟩ := row_form HO.out.1
          subst hov
          generalize hol : (oneL i k).length = on at HO
          by_cases hkn : k < n
          · have hkn' : (k : Int) < (n : Int) := by omega
            by_cases hki : k = i
            · subst hki
              have HO2 : Hid (oneL k (k + 1) = oneL k k) := by show _ = _; rw [oneL, if_pos rfl]
              have HL2 : Hid (lowL k (k + 1) = lowL k k) := by show _ = _; rw [lowL, if_pos rfl]
              clear hol hzl hlag
              go_wp2
              go_roundw
              case rel => exact ⟨k + 1, by go_num, hkn, by rw [HL2.out], by rw [HO2.out]; exact HO, HV⟩
              case measure => simp [intOf]; omega
            · have hne : ((k : Int) == (i : Int)) = false := by rw [beq_eq_false_iff_ne]; omega
              have HO2 : Hid (oneL i (k + 1) = qMul (oneL i k) [-((k : Int) + 1), 1]) := by show _ = _; rw [oneL, if_neg hki]
              have HL2 : Hid (lowL i (k + 1) = scMul (lowL i k) ((i : Int) - (k : Int))) := by show _ = _; rw [lowL, if_neg hki]
              have hwr : IntKind.i64.wrap ((k : Int) + 1) = (k : Int) + 1 := IntWalk.i64_in _ (by omega)
              have hwn : IntKind.i64.wrap (-((k : Int) + 1)) = -((k : Int) + 1) := IntWalk.i64_in _ (by omega)
              obtain ⟨dd, hdd⟩ : ∃ dd : Int, (i : Int) - (k : Int) = dd := ⟨_, rfl⟩
              have hws : IntKind.i64.wrap dd = dd := IntWalk.i64_in _ (by omega)
              have CM : Hid (∀ V : World, V = wr.alloc (.cells #[.int .i64 (-((k : Int) + 1)), .int .i64 1] 3) → Calls Tryz.prog 152 #[.slice oa on oc, .slice (some ⟨wr.heap.size, 0, none⟩) 2 2] V fun e w' => ∃ x, e = .returned x ∧ ZOwn V.heap.size w'.heap.size w' x (oneL i (k + 1)) ∧ Below V.heap.size V w') := fun V hV => by
                subst hV
                rw [HO2.out]
                have hb : Below wr.heap.size wr (wr.alloc (.cells #[.int .i64 (-((k : Int) + 1)), .int .i64 1] 3)) := (Below.refl _ _).alloc (Nat.le_refl _) _
                refine sQMul_any _ _ (oneL i k) [-((k : Int) + 1), 1] (by have := oneL_127 i k; omega) (by simp) _ (((HO.out.at).on hb).wide hb.size) ?_
                exact (ZOwn.of (own_lit wr [-((k : Int) + 1), 1] (by simp))).at
              have CL : Hid (∀ w, Calls Tryz.prog 81 #[.int .i64 (lowL i k), .int .i64 dd] w fun e w' => e = .returned (.int .i64 (lowL i (k + 1))) ∧ w = w') := fun w => by rw [HL2.out, hdd]; exact sScMul_any _ _ w
              clear HO hol HO2 HL2 hzl hlag
              generalize hlow : lowL i (k + 1) = low2 at CL
              have HLW : Hid (lowL i (k + 1) = low2) := hlow
              generalize lowL i k = low at CL ⊢
              have hne3 : ((k : Int) != (i : Int)) = true := by simp; omega
              clear hlow hki
              go_wp2_with (first
                | (go_at_call 152; refine (CM.out _ rfl).mono ?_; rintro e w2 ⟨x, rfl, hx, hb2⟩)
                | (go_at_call 81; refine (CL.out _).mono ?_; rintro e wz ⟨rfl, rfl⟩))
              have hs : wr.heap.size ≤ (wr.alloc (.cells #[.int .i64 (-((k : Int) + 1)), .int .i64 1] 3)).heap.size := by simp
              have HX : Hid (ZOwn w0.heap.size w2.heap.size w2 x (oneL i (k + 1))) := hx.wide (Nat.le_trans HV.out.size hs) (Nat.le_refl _)
              have HV2 : Hid (Below w0.heap.size w0 w2) := (HV.out.alloc HV.out.size _).trans (hb2.mono (Nat.le_trans HV.out.size hs))
              clear hx hb2 hs CM CL
              go_roundw
              case rel => exact ⟨k + 1, by go_num, hkn, by rw [HLW.out], HX, HV2⟩
              case measure => simp [intOf]; omega
          · have hkn' : ¬ (k : Int) < (n : Int) := by omega
            obtain rfl : n = k := by omega
            obtain ⟨ba, off, rfl, hba, hz⟩ := (HA.out.on HB.out) i hlt
            replace hz : w0.cell? ⟨ba, off + i, none⟩ = some (.int .i64 (l.getD i 0)) := hz
            have s0 := HB.out.size
            have HC : Hid (∀ wz, Below wr.heap.size wr wz → wz.cell? ⟨ba, off + i, none⟩ = some (.int .i64 (l.getD i 0))) := fun wz hwz => ((HV.out.trans (hwz.mono HV.out.size)).cell (p := ⟨ba, off + i, none⟩) (by show ba < _; omega)).trans hz
            have CI : Hid (∀ w, Calls Tryz.prog 82 #[.int .i64 (lowL i n)] w fun e w' => e = .returned (.int .i64 (scInv (lowL i n))) ∧ w = w') := sScInv_any _
            have CM : Hid (∀ w, Calls Tryz.prog 81 #[.int .i64 (l.getD i 0), .int .i64 (scInv (lowL i n))] w fun e w' => e = .returned (.int .i64 (scMul (l.getD i 0) (scInv (lowL i n)))) ∧ w = w') := sScMul_any _ _
            have CS : Hid (∀ W (v : Value), ZAt W W.heap.size v (oneL i n) → Calls Tryz.prog 156 #[v, .int .i64 (scMul (l.getD i 0) (scInv (lowL i n)))] W fun e w' => ∃ u, e = .returned u ∧ ZOwn W.heap.size w'.heap.size w' u (scl (oneL i n) (scMul (l.getD i 0) (scInv (lowL i n)))) ∧ Below W.heap.size W w') := fun W v hv => sScl_any v _ _ (by have := oneL_127 i n; omega) W hv
            have CA : Hid (∀ W (u v : Value), ZAt W W.heap.size u (lagL l n i) → ZAt W W.heap.size v (scl (oneL i n) (scMul (l.getD i 0) (scInv (lowL i n)))) → Calls Tryz.prog 155 #[u, v] W fun e w' => ∃ u, e = .returned u ∧ ZOwn W.heap.size w'.heap.size w' u (lagL l n (i + 1)) ∧ Below W.heap.size W w') := fun W u v h1 h2 => sQAdd_any u v _ _ (by omega) (by rw [scl_len]; have := oneL_127 i n; omega) W h1 h2
            have HOW : Hid (ZAt wr wr.heap.size (.slice oa on oc) (oneL i n)) := HO.out.at
            have HUW : Hid (ZAt wr wr.heap.size (.slice xa zn xc) (lagL l n i)) := (HU.out.at.on HV.out).wide HV.out.size
            have s1 := HV.out.size
            clear hz hol hzl hlag hba
            generalize scl (oneL i n) (scMul (l.getD i 0) (scInv (lowL i n))) = sc at CS CA
            generalize scMul (l.getD i 0) (scInv (lowL i n)) = q1 at CM CS
            generalize scInv (lowL i n) = q2 at CI CM
            generalize lowL i n = low at CI ⊢
            generalize l.getD i 0 = y at HC CM
            generalize hnx : lagL l n (i + 1) = nx at CA
            have HNX : Hid (lagL l n (i + 1) = nx) := hnx
            generalize lagL l n i = ln at CA HUW
            generalize oneL i n = on1 at CS HOW
            clear hnx HO HU
            go_wp2_with fail
            refine wp_region_ord [(0, false), (1, false), (2, false), (3, false), (4, false), (5, false), (6, false), (7, true), (8, true), (9, true), (10, true), (11, false)] (fun wz => Below wr.heap.size wr wz) mixesSc (by kernel_rfl) (Below.refl _ _).drew ?_
            repeat (refine ord_float rfl rfl (fun K hK => ⟨_, (fun w' hw => by have q0 := HC.out w' hw; go_simp; exact rfl), ?_⟩); go_simp; refine hK _ ?_; clear hK K)
            refine ord_call rfl rfl (fun K hK => ⟨_, _, (by go_simp <;> first | exact rfl | exact ⟨rfl, rfl⟩), ?_⟩)
            refine (CI.out _).mono ?_
            rintro e u1 ⟨rfl, hu1⟩
            have T1 : Below wr.heap.size wr u1 := hu1 ▸ (Below.refl _ _).drew
            refine ⟨_, rfl, T1, ?_⟩
            go_simp
            refine hK _ _ ?_
            clear hK K
            repeat (refine ord_float rfl rfl (fun K hK => ⟨_, (fun w' hw => by have q0 := HC.out w' hw; go_simp; exact rfl), ?_⟩); go_simp; refine hK _ ?_; clear hK K)
            refine ord_call rfl rfl (fun K hK => ⟨_, _, (by go_simp <;> first | exact rfl | exact ⟨rfl, rfl⟩), ?_⟩)
            refine (CM.out _).mono ?_
            rintro e u2 ⟨rfl, hu2⟩
            have T2 : Below wr.heap.size wr u2 := hu2 ▸ T1
            refine ⟨_, rfl, T2, ?_⟩
            go_simp
            refine hK _ _ ?_
            clear hK K
            repeat (refine ord_float rfl rfl (fun K hK => ⟨_, (fun w' hw => by have q0 := HC.out w' hw; go_simp; exact rfl), ?_⟩); go_simp; refine hK _ ?_; clear hK K)
            refine ord_call rfl rfl (fun K hK => ⟨_, _, (by go_simp <;> first | exact rfl | exact ⟨rfl, rfl⟩), ?_⟩)
            refine (CS.out _ _ ((HOW.out.on T2).wide T2.size)).mono ?_
            rintro e u3 ⟨sv, rfl, hsv, hb3⟩
            have T3 := T2.trans (hb3.mono T2.size)
            refine ⟨_, rfl, T3, ?_⟩
            go_simp
            refine hK _ _ ?_
            clear hK K
            repeat (refine ord_float rfl rfl (fun K hK => ⟨_, (fun w' hw => by have q0 := HC.out w' hw; go_simp; exact rfl), ?_⟩); go_simp; refine hK _ ?_; clear hK K)
            refine ord_call rfl rfl (fun K hK => ⟨_, _, (by go_simp <;> first | exact rfl | exact ⟨rfl, rfl⟩), ?_⟩)
            refine (CA.out _ _ _ ((HUW.out.on T3).wide T3.size) hsv.at).mono ?_
            rintro e u4 ⟨nv, rfl, hnv, hb4⟩
            have T4 := T3.trans (hb4.mono T3.size)
            refine ⟨_, rfl, T4, ?_⟩
            go_simp
            refine hK _ _ ?_
            clear hK K
            repeat (refine ord_float rfl rfl (fun K hK => ⟨_, (fun w' hw => by have q0 := HC.out w' hw; go_simp; exact rfl), ?_⟩); go_simp; refine hK _ ?_; clear hK K)
            refine ord_nil ?_
            have HN4 : Hid (ZOwn w.heap.size u4.heap.size u4 nv nx) := hnv.wide (Nat.le_trans (Nat.le_trans s0 s1) T3.size) (Nat.le_refl _)
            have HB4 : Hid (Below w.heap.size w u4) := (HB.out.trans (HV.out.mono s0)).trans (T4.mono (Nat.le_trans s0 s1))
            clear hnv hb4 T4 hsv hb3 T3 T2 T1 hu1 hu2 CA CS CM CI HC HOW HUW HV HB s0 s1
            go_wp2
            go_roundw
            case rel => exact ⟨i + 1, by go_num, hlt, by rw [HNX.out]; exact HN4, HB4⟩
            case measure => simp [intOf]; omega
      · have hlt' : ¬ (i : Int) < (n : Int) := by omega
        obtain rfl : n = i := by omega
        clear hzl hlag
        go_wp2
        go_ret
        exact ⟨_, rfl, by rw [← HE.out]; exact HU.out, HB.out⟩

end Go.Proofs.YthnahalboomkoaaGreat
