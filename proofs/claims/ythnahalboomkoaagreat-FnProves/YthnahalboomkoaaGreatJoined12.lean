/-
  Texts of one's own, joined.
-/
import Derived.Test.YthnahalboomkoaaGreatJoined11
import Derived.Test.YthnahalboomkoaaGreatPolyAddS
import Derived.Test.YthnahalboomkoaaGreatJoined10
import Derived.Test.YthnahalboomkoaaGreatJoined6

/-
  The walks of the specification's polynomial with given zeros and of its polynomial through given values.
  (-DROP-: what the seat lacks is left out.)
-/
namespace Go.Proofs.YthnahalboomkoaaGreat
open Go.RowKit

set_option maxHeartbeats 800000 in
set_option maxRecDepth 100000 in
theorem in16_any (n : Int) (w : World) : Calls Tryz.prog 87 #[.int .i64 n, .int .i64 0, .int .i64 16] w fun e w' => e = .returned (.bool (decide (0 ≤ n ∧ n ≤ 16))) ∧ w = w' := by
  by_cases h1 : n ≥ 0
  · by_cases h2 : n ≤ 16
    · have e : decide (0 ≤ n ∧ n ≤ 16) = true := by simp; omega
      rw [e]
      go_enter Tryz.func87, Tryz.ntmps87
      go_wp2
      go_ret
      exact ⟨rfl, rfl⟩
    · have e : decide (0 ≤ n ∧ n ≤ 16) = false := by simp; omega
      rw [e]
      go_enter Tryz.func87, Tryz.ntmps87
      go_wp2
      go_ret
      exact ⟨rfl, rfl⟩
  · have e : decide (0 ≤ n ∧ n ≤ 16) = false := by simp; omega
    rw [e]
    go_enter Tryz.func87, Tryz.ntmps87
    go_wp2
    go_ret
    exact ⟨rfl, rfl⟩

set_option maxHeartbeats 1600000 in
set_option maxRecDepth 100000 in
theorem sZer_any (n : Int) (w : World) : Calls Tryz.prog 84 #[.int .i64 n] w fun e w' => ∃ u, e = .returned u ∧ ZOwn w.heap.size w'.heap.size w' u (pZer n) ∧ Below w.heap.size w w' := by
  have CI : Hid (∀ w, Calls Tryz.prog 87 #[.int .i64 n, .int .i64 0, .int .i64 16] w fun e w' => e = .returned (.bool (decide (0 ≤ n ∧ n ≤ 16))) ∧ w = w') := in16_any n
  by_cases h0 : n < 0 ∨ n > 16
  · have HE : Hid (pZer n = []) := by show _ = _; unfold pZer; rw [if_pos h0]
    have e : decide (0 ≤ n ∧ n ≤ 16) = false := by simp; omega
    rw [e] at CI
    clear e h0
    go_enter Tryz.func84, Tryz.ntmps84
    go_wp2_with (go_at_call 87; refine (CI.out _).mono ?_; rintro e wz ⟨rfl, rfl⟩)
    go_ret
    exact ⟨_, rfl, by rw [HE.out]; exact ZOwn.of (World.ownsRow_lit _ _ _ (Nat.le_refl _) (by simp [maxLen]) (by simp)), (Below.refl _ _).alloc (Nat.le_refl _) _⟩
  · obtain ⟨m, rfl⟩ : ∃ m : Nat, n = (m : Int) := ⟨n.toNat, by omega⟩
    have HE : Hid (pZer (m : Int) = zerL m) := by show _ = _; exact pZer_nat (by omega)
    have hm : m ≤ 16 := by omega
    have e : decide (0 ≤ (m : Int) ∧ (m : Int) ≤ 16) = true := by simp; omega
    rw [e] at CI
    clear e h0
    go_enter Tryz.func84, Tryz.ntmps84
    go_wp2_with (go_at_call 87; refine (CI.out _).mono ?_; rintro e wz ⟨rfl, rfl⟩)
    go_loopw [3, 4] (fun u i wr => ∃ (k : Nat), i = .int .i64 ((k : Int) + 1) ∧ k ≤ m ∧ Hid (ZOwn w.heap.size wr.heap.size wr u (zerL k)) ∧ Hid (Below w.heap.size w wr)) (fun _ i _ => m + 1 - (intOf i).toNat)
    case atStart => exact ⟨0, rfl, Nat.zero_le _, ZOwn.of (own_lit w [1] (by simp)), (Below.refl _ _).alloc (Nat.le_refl _) _⟩
    case round =>
      obtain ⟨k, rfl, hk, HU, HB⟩ := hrel
      obtain ⟨xa, xc, hxv⟩ := row_form HU.out.1
      subst hxv
      generalize hzl : (zerL k).length = zn at HU
      clear hzl
      by_cases hlt : k < m
      · have hlt' : (k : Int) + 1 ≤ (m : Int) := by omega
        have hwn : IntKind.i64.wrap (-((k : Int) + 1)) = -((k : Int) + 1) := IntWalk.i64_in _ (by omega)
        have CM : Hid (∀ V : World, V = wr.alloc (.cells #[.int .i64 (-((k : Int) + 1)), .int .i64 1] 3) → Calls Tryz.prog 152 #[.slice xa zn xc, .slice (some ⟨wr.heap.size, 0, none⟩) 2 2] V fun e w' => ∃ x, e = .returned x ∧ ZOwn V.heap.size w'.heap.size w' x (zerL (k + 1)) ∧ Below V.heap.size V w') := fun V hV => by
          subst hV
          have hb : Below wr.heap.size wr (wr.alloc (.cells #[.int .i64 (-((k : Int) + 1)), .int .i64 1] 3)) := (Below.refl _ _).alloc (Nat.le_refl _) _
          refine sQMul_any _ _ (zerL k) [-((k : Int) + 1), 1] (zerL_len k) (by simp) _ (((HU.out.at).on hb).wide hb.size) ?_
          exact (ZOwn.of (own_lit wr [-((k : Int) + 1), 1] (by simp))).at
        clear HU
        go_wp2_with (go_at_call 152; refine (CM.out _ rfl).mono ?_; rintro e w2 ⟨x, rfl, hx, hb2⟩)
        have hs : wr.heap.size ≤ (wr.alloc (.cells #[.int .i64 (-((k : Int) + 1)), .int .i64 1] 3)).heap.size := by simp
        have HX : Hid (ZOwn w.heap.size w2.heap.size w2 x (zerL (k + 1))) := hx.wide (Nat.le_trans HB.out.size hs) (Nat.le_refl _)
        have HB2 : Hid (Below w.heap.size w w2) := (HB.out.alloc HB.out.size _).trans (hb2.mono (Nat.le_trans HB.out.size hs))
        clear hx hb2 hs CM
        go_wp2
        go_roundw
        case rel => exact ⟨k + 1, by go_num, hlt, HX, HB2⟩
        case measure => simp [intOf]; omega
      · have hlt' : ¬ (k : Int) + 1 ≤ (m : Int) := by omega
        obtain rfl : m = k := by omega
        go_wp2
        go_ret
        exact ⟨_, rfl, by rw [HE.out]; exact HU.out, HB.out⟩

set_option maxHeartbeats 1600000 in
set_option maxRecDepth 100000 in
theorem sScl_any (v : Value) (l : List Int) (c : Int) (hl : l.length ≤ 1048576) (w : World) (h : ZAt w w.heap.size v l) :
    Calls Tryz.prog 156 #[v, .int .i64 c] w fun e w' => ∃ u, e = .returned u ∧ ZOwn w.heap.size w'.heap.size w' u (scl l c) ∧ Below w.heap.size w w' := by
  obtain ⟨i0, hi, hz0, hz1, hz2⟩ := info_parts info3I
  obtain ⟨a, cp, rfl, hA⟩ := h
  have HA : Hid (IntsAt w a l.length w.heap.size (fun j => l.getD j 0)) := hA
  obtain ⟨n, hn⟩ : ∃ n, n = l.length := ⟨_, rfl⟩
  have HN : Hid (n = l.length) := hn
  rw [← hn] at HA hl ⊢
  clear hn hA
  go_enter Tryz.func156, Tryz.ntmps156
  go_wp2
  go_loopw [5, 6] (fun u i wr => ∃ (k : Nat) (m : List Int), i = .int .i64 (k : Int) ∧ k ≤ n ∧ Hid (m = scl (l.take k) c) ∧ m.length = k ∧ wr.ownsRow w.heap.size 3 1 u k (zsV m) ∧ Hid (Below w.heap.size w wr)) (fun _ i _ => n - (intOf i).toNat)
  case atStart => exact ⟨0, [], rfl, by omega, rfl, rfl, World.ownsRow_lit _ _ _ (Nat.le_refl _) (by simp [maxLen]) (by simp), (Below.refl _ _).alloc (Nat.le_refl _) _⟩
  case round =>
    obtain ⟨k, m, rfl, hk, HM, hml, hown, HB⟩ := hrel
    have hsz : w.heap.size ≤ wr.heap.size := HB.out.size
    by_cases hlt : k < n
    · have hlt' : (k : Int) < (n : Int) := by omega
      have hk0 : (0 : Int) ≤ (k : Int) := by omega
      have hm63 : k + 1 ≤ maxLen := by unfold maxLen; omega
      have hm47 : (k + 1) * 8 ≤ 140737488355328 := by omega
      obtain ⟨b, off, rfl, hb, hz⟩ := (HA.out.on HB.out) k hlt
      replace hz : wr.cell? ⟨b, off + k, none⟩ = some (.int .i64 (l.getD k 0)) := hz
      have HS : Hid (∀ w, Calls Tryz.prog 81 #[.int .i64 (l.getD k 0), .int .i64 c] w fun e w' => e = .returned (.int .i64 (scMul (l.getD k 0) c)) ∧ w = w') := sScMul_any _ _
      have HM2 : Hid (m ++ [scMul (l.getD k 0) c] = scl (l.take (k + 1)) c) := by
        show _ = _
        have hkl : k < l.length := by have := HN.out; omega
        rw [HM.out, List.take_succ_eq_append_getElem hkl]
        unfold scl
        rw [List.map_append]
        simp [hkl]
      generalize scMul (l.getD k 0) c = y at HS HM2
      generalize l.getD k 0 = x at hz HS
      clear hb HA HM
      go_wp2_with (first
        | (go_at_call 81; refine (HS.out _).mono ?_; rintro e wz ⟨rfl, rfl⟩)
        | (at_builtin; refine wpList_append_own _ rfl _ _ 27 rfl w.heap.size 3 i0 (.int .i64 0) 1 8 Tryz.underlying27 hi hz0 hz1 hz2 rfl (by decide) _ _ _ rfl (hown.alloc _) ⟨wr.heap.size, 0, none⟩ 1 1 [.int .i64 y] rfl rfl (cell_one_new _ _ _) (one_cell _ _) hm63 hm47 (room_for hsz _) ?_))
      intro v' w4 hown' hgrow _
      have R : w4.ownsRow w.heap.size 3 1 v' (k + 1) (zsV (m ++ [y])) := by rw [zsV_append]; exact hown'
      have HB2 : Hid (Below w.heap.size w w4) := (HB.out.alloc hsz _).grown hgrow (by simp; omega) (fun k hk => (hown.lt k hk).1)
      have hml2 : (m ++ [y]).length = k + 1 := by simp [hml]
      clear hown' hgrow hown
      go_wp2
      go_roundw
      case rel => exact ⟨k + 1, _, by go_num, hlt, HM2, hml2, R, HB2⟩
      case measure => simp [intOf]; omega
    · have hlt' : ¬ (k : Int) < (n : Int) := by omega
      obtain rfl : n = k := by omega
      have HM2 : Hid (m = scl l c) := by
        show _ = _
        rw [HM.out, HN.out, List.take_length]
      obtain ⟨ra, rc, hv⟩ := row_form hown
      subst hv
      have HR : Hid (RowZs w.heap.size wr (.slice ra n rc) (scl l c)) := by
        show wr.ownsRow w.heap.size 3 1 _ (scl l c).length (zsV (scl l c))
        rw [← HM2.out, hml]
        exact hown
      clear HM hown HM2
      go_wp2
      go_ret
      exact ⟨_, rfl, ZOwn.of HR.out, HB.out⟩

end Go.Proofs.YthnahalboomkoaaGreat

/-
  The walk of the specification's division.
  (-DROP-: what the seat lacks is left out.)
-/
namespace Go.Proofs.YthnahalboomkoaaGreat
open Go.RowKit

theorem slit0 (w : World) : RowZs w.heap.size (w.alloc (.cells #[] 3)) (.slice (some ⟨w.heap.size, 0, none⟩) 0 0) [] := own_lit w [] (by simp)
theorem slit0n (w : World) (g : Nat) (hg : g = w.heap.size) : RowZs g (w.alloc (.cells #[] 3)) (.slice (some ⟨g, 0, none⟩) 0 0) [] := by
  subst hg
  exact slit0 w
theorem rep_sets (i : Nat) (x : Int) (t : List Int) : (List.replicate (i + 1) 0 ++ t).set i x = List.replicate i 0 ++ (x :: t) := by
  rw [List.replicate_succ', List.append_assoc, List.set_append_right _ _ (by simp)]
  simp
theorem pTrim_sc {l : List Int} (h : ∀ j, Sc (l.getD j 0)) : pTrim l = trimZ l := can_eq (pTrim_can l) (Can.of_trim l h) fun j => by rw [pTrim_at, trimZ_at]; exact dp_sca _

set_option maxHeartbeats 6400000 in
set_option maxRecDepth 100000 in
theorem sDiv_any (v u : Value) (l m : List Int) (hl : l.length ≤ 1048576) (hm : m.length ≤ 1048576) (w : World) (h : ZAt w w.heap.size v l) (h2 : ZAt w w.heap.size u m) : Calls Tryz.prog 154 #[v, u] w fun e w' => ∃ q r, e = .returned (.tuple #[q, r]) ∧ ZOwn w.heap.size w'.heap.size w' q (pQuo l m) ∧ ZOwn w.heap.size w'.heap.size w' r (pRem l m) ∧ (∀ g, q.ownBlock = some g → r.ownBlock ≠ some g) ∧ Below w.heap.size w w' := by
  have HA : Hid (ZAt w w.heap.size v l) := h
  have HB : Hid (ZAt w w.heap.size u m) := h2
  obtain ⟨a, cp, rfl, hA⟩ := h
  obtain ⟨b, cq, rfl, hB⟩ := h2
  clear hA hB
  by_cases hbig : 64 < l.length ∨ 64 < m.length
  · have HE : Hid (pQuo l m = []) := by show _ = _; unfold pQuo; rw [if_pos (by omega)]
    have HE2 : Hid (pRem l m = []) := by show _ = _; unfold pRem; rw [if_pos hbig]
    have HF : Hid (ZOwn w.heap.size ((w.alloc (.cells #[] 3)).alloc (.cells #[] 3)).heap.size ((w.alloc (.cells #[] 3)).alloc (.cells #[] 3)) (.slice (some ⟨w.heap.size, 0, none⟩) 0 0) [] ∧ ZOwn w.heap.size ((w.alloc (.cells #[] 3)).alloc (.cells #[] 3)).heap.size ((w.alloc (.cells #[] 3)).alloc (.cells #[] 3)) (.slice (some ⟨w.heap.size + 1, 0, none⟩) 0 0) [] ∧ Below w.heap.size w ((w.alloc (.cells #[] 3)).alloc (.cells #[] 3))) := by
      refine ⟨ZOwn.of (World.ownsRow.alloc (slit0 w) _), (ZOwn.of (slit0n (w.alloc (.cells #[] 3)) (w.heap.size + 1) (by simp))).wide (by omega) (Nat.le_refl _), ((Below.refl _ _).alloc (Nat.le_refl _) _).alloc (by simp) _⟩
    generalize hla : l.length = la at *
    generalize hlb : m.length = lb at *
    clear hla hlb HA HB
    by_cases h1 : 64 < la
    · have h1' : (la : Int) > 64 := by omega
      clear hbig
      go_enter Tryz.func154, Tryz.ntmps154
      go_wp2
      go_ret2
      exact ⟨_, _, rfl, by rw [HE.out]; exact HF.out.1, by rw [HE2.out]; exact HF.out.2.1, fun g h1 h2 => by have e1 : w.heap.size = g := Option.some.inj h1; have e2 : w.heap.size + 1 = g := Option.some.inj h2; omega, HF.out.2.2⟩
    · have h1' : ¬ (la : Int) > 64 := by omega
      have h2' : (lb : Int) > 64 := by omega
      clear hbig
      go_enter Tryz.func154, Tryz.ntmps154
      go_wp2
      go_ret2
      exact ⟨_, _, rfl, by rw [HE.out]; exact HF.out.1, by rw [HE2.out]; exact HF.out.2.1, fun g h1 h2 => by have e1 : w.heap.size = g := Option.some.inj h1; have e2 : w.heap.size + 1 = g := Option.some.inj h2; omega, HF.out.2.2⟩
  · have C1 : Hid (∀ W : World, W = w → Calls Tryz.prog 193 #[.slice a l.length cp] W fun e w' => ∃ u, e = .returned u ∧ ZOwn W.heap.size w'.heap.size w' u (pTrim l) ∧ Below W.heap.size W w') := fun W e => by subst e; exact sTrim_any _ l hl _ HA.out
    have C2 : Hid (∀ W : World, Below w.heap.size w W → Calls Tryz.prog 193 #[.slice b m.length cq] W fun e w' => ∃ u, e = .returned u ∧ ZOwn W.heap.size w'.heap.size w' u (pTrim m) ∧ Below W.heap.size W w') := fun W hW => sTrim_any _ m hm _ ((HB.out.on hW).wide hW.size)
    have hl64 : ¬ (l.length : Int) > 64 := by omega
    have hm64 : ¬ (m.length : Int) > 64 := by omega
    have hpl := pTrim_len l
    have hpm := pTrim_len m
    have hll : l.length ≤ 64 ∧ m.length ≤ 64 := by omega
    have HE : Hid (¬ (64 < l.length ∨ 64 < m.length)) := hbig
    clear hbig
    generalize hla : l.length = la at C1 hl64 hpl hll ⊢
    generalize hlb : m.length = lb at C2 hm64 hpm hll ⊢
    clear hla hlb HA HB hl hm
    go_enter Tryz.func154, Tryz.ntmps154
    go_wp2_with fail
    go_at_call 193
    refine (C1.out _ rfl).mono ?_
    rintro e w1 ⟨v1, rfl, hv1, hb1⟩
    have HV1 : Hid (ZOwn w.heap.size w1.heap.size w1 v1 (pTrim l)) := hv1
    have HB1 : Hid (Below w.heap.size w w1) := hb1
    clear hv1 hb1
    go_wp2_with fail
    go_at_call 193
    refine (C2.out _ HB1.out).mono ?_
    rintro e w2 ⟨v2, rfl, hv2, hb2⟩
    have HV2 : Hid (ZOwn w1.heap.size w2.heap.size w2 v2 (pTrim m)) := hv2
    have HB2 : Hid (Below w1.heap.size w1 w2) := hb2
    clear hv2 hb2
    have HW : Hid (ZOwn w.heap.size w1.heap.size w2 v1 (pTrim l)) := HV1.out.on HB2.out (Nat.le_refl _)
    obtain ⟨a1, c1, hv⟩ := row_form HV1.out.1
    subst hv
    obtain ⟨a2, c2, hv⟩ := row_form HV2.out.1
    subst hv
    by_cases hs : (pTrim m).length = 0 ∨ (pTrim l).length < (pTrim m).length
    · have HQ : Hid (pQuo l m = []) := by show _ = _; unfold pQuo; rw [if_pos (Or.inr (Or.inr hs))]
      have HR : Hid (pRem l m = pTrim l) := by show _ = _; unfold pRem; rw [if_neg HE.out, if_pos hs]
      have HN : Hid (ZOwn w.heap.size (w2.alloc (.cells #[] 3)).heap.size (w2.alloc (.cells #[] 3)) (.slice (some ⟨w2.heap.size, 0, none⟩) 0 0) [] ∧ ZOwn w.heap.size (w2.alloc (.cells #[] 3)).heap.size (w2.alloc (.cells #[] 3)) (.slice a1 (pTrim l).length c1) (pTrim l) ∧ (∀ g, (Value.slice (some ⟨w2.heap.size, 0, none⟩) 0 0).ownBlock = some g → (Value.slice a1 (pTrim l).length c1).ownBlock ≠ some g) ∧ Below w.heap.size w (w2.alloc (.cells #[] 3))) := by
        have s1 := HB1.out.size
        have s2 := HB2.out.size
        have hbb : Below w2.heap.size w2 (w2.alloc (.cells #[] 3)) := (Below.refl _ _).alloc (Nat.le_refl _) _
        refine ⟨(ZOwn.of (slit0 w2)).wide (by omega) (Nat.le_refl _), (HW.out.on hbb s2).wide (Nat.le_refl _) (by simp; omega), fun g hq hr => ?_, (HB1.out.trans (HB2.out.mono s1)).trans (hbb.mono (by omega))⟩
        have e1 : w2.heap.size = g := Option.some.inj hq
        have := HV1.out.2 g hr
        omega
      by_cases hz : (pTrim m).length = 0
      · generalize (pTrim l).length = n1 at *
        rw [hz] at *
        clear hs
        go_wp2
        go_ret2
        exact ⟨_, _, rfl, by rw [HQ.out]; exact HN.out.1, by rw [HR.out]; exact HN.out.2.1, HN.out.2.2.1, HN.out.2.2.2⟩
      · have hz' : (((pTrim m).length : Int) == 0) = false := by rw [beq_eq_false_iff_ne]; omega
        have hz2 : ((pTrim l).length : Int) < ((pTrim m).length : Int) := by omega
        generalize (pTrim l).length = n1 at *
        generalize (pTrim m).length = n2 at *
        clear hs hz
        go_wp2
        go_ret2
        exact ⟨_, _, rfl, by rw [HQ.out]; exact HN.out.1, by rw [HR.out]; exact HN.out.2.1, HN.out.2.2.1, HN.out.2.2.2⟩
    · have hd0 : 0 < (pTrim m).length := by omega
      have hdp : (pTrim m).length ≤ (pTrim l).length := by omega
      have HQ : Hid (pQuo l m = pTrim (dv (pTrim m) ((pTrim m).length - 1) (dvC (pTrim m)) (dvN (pTrim l) (pTrim m)) (pTrim l)).1) := by
        show _ = _
        rw [trim_self (dv_can _ _ (pTrim_can l) (pTrim_can m) hd0 hdp)]
        unfold pQuo
        rw [if_neg (by have := HE.out; omega)]
      have HR : Hid (pRem l m = pTrim (dv (pTrim m) ((pTrim m).length - 1) (dvC (pTrim m)) (dvN (pTrim l) (pTrim m)) (pTrim l)).2) := by
        show _ = _
        rw [pTrim_sc (dv_sc2 _ _ _ (by omega) _ _ (by unfold dvN; omega) (pTrim_can l).1)]
        unfold pRem
        rw [if_neg HE.out, if_neg hs]
      obtain ⟨g, c1', hve, hgl, _, _⟩ := HW.out.1.cellZ (j := 0) (by omega)
      have ha1 : a1 = some ⟨g, 0, none⟩ := by injection hve
      subst ha1
      have hg1 : w.heap.size ≤ g ∧ g < w1.heap.size := HW.out.in g rfl
      clear hve hgl c1'
      obtain ⟨gd, c2', hve, _, _, hzd, _⟩ := HV2.out.1.cellZ (j := (pTrim m).length - 1) (by omega)
      have ha2 : a2 = some ⟨gd, 0, none⟩ := by injection hve
      subst ha2
      have hgd : w1.heap.size ≤ gd ∧ gd < w2.heap.size := HV2.out.in gd rfl
      clear hve c2'
      have CI : Hid (∀ w, Calls Tryz.prog 82 #[.int .i64 ((pTrim m).getD ((pTrim m).length - 1) 0)] w fun e w' => e = .returned (.int .i64 (dvC (pTrim m))) ∧ w = w') := fun w => sScInv_any _ w
      generalize dvC (pTrim m) = c at CI HQ HR
      obtain ⟨t, ht⟩ : ∃ t, (pTrim m).length = t + 1 := ⟨(pTrim m).length - 1, by omega⟩
      obtain ⟨n, hn⟩ : ∃ n, dvN (pTrim l) (pTrim m) = n + 1 := ⟨(pTrim l).length - (pTrim m).length, by unfold dvN; omega⟩
      have hpn : (pTrim l).length = n + 1 + t := by unfold dvN at hn; omega
      have ht1 : (pTrim m).length - 1 = t := by omega
      rw [hn, ht1] at HQ HR
      rw [ht1] at CI hzd
      obtain ⟨nd, hnd⟩ : ∃ nd, nd = t + 1 := ⟨_, rfl⟩
      obtain ⟨np, hnp⟩ : ∃ np, np = n + 1 + t := ⟨_, rfl⟩
      obtain ⟨no, hno⟩ : ∃ no, no = n + 1 := ⟨_, rfl⟩
      have HDL : Hid ((pTrim m).length = nd) := ht.trans hnd.symm
      have HPL : Hid ((pTrim l).length = np) := hpn.trans hnp.symm
      have HWR : Hid (RowZs w.heap.size w2 (.slice (some ⟨g, 0, none⟩) np c1) (pTrim l)) := by have := HW.out.1; rwa [HPL.out] at this
      have HDR : Hid (RowZs w1.heap.size w2 (.slice (some ⟨gd, 0, none⟩) nd c2) (pTrim m)) := by have := HV2.out.1; rwa [HDL.out] at this
      rw [HPL.out, HDL.out]
      have hr1 : nd ≤ t + 1 ∧ t + 1 ≤ nd ∧ np ≤ n + 1 + t ∧ n + 1 + t ≤ np ∧ no ≤ n + 1 ∧ n + 1 ≤ no ∧ np ≤ 64 := by omega
      rw [← hno] at HQ HR
      clear hs hd0 hdp hpl hpm hpn ht ht1 hn HW HV2 HV1 hnd hnp hno
      generalize (pTrim m).getD t 0 = zt at CI hzd
      generalize hfin : dv (pTrim m) t c no (pTrim l) = fin at HQ HR
      have HFI : Hid (dv (pTrim m) t c no (pTrim l) = fin) := hfin
      clear hfin
      generalize pTrim l = p at *
      generalize pTrim m = d at *
      have hmk : ∀ W : World, (Instr.makeSlice 27 (.int .i64 (no : Int)) (.int .i64 (no : Int))).run Tryz.prog W = .ok (.slice (some ⟨W.heap.size, 0, none⟩) no no) (W.alloc (.cells (ic (fun _ => 0) no) 3)) := fun W => make_ints no no (Nat.le_refl _) (by omega) W
      have HQ0 : Hid (RowZs w2.heap.size (w2.alloc (.cells (ic (fun _ => 0) no) 3)) (.slice (some ⟨w2.heap.size, 0, none⟩) no no) (List.replicate no 0)) := rowZ_none w2 no (by omega)
      generalize ic (fun _ => 0) no = M at hmk HQ0
      have hi0 : ((nd : Int) == 0) = false := by rw [beq_eq_false_iff_ne]; omega
      have hi1 : (nd : Int) - 1 = (t : Int) := by omega
      have hi2 : (np : Int) - (nd : Int) = (n : Int) := by omega
      have hi3 : (no : Int) - 1 = (n : Int) := by omega
      have hi7 : (n : Int) + 1 = (no : Int) := by omega
      have hi4 : (0 : Int) ≤ (t : Int) := by omega
      have hi5 : (t : Int) < (nd : Int) := by omega
      have hi6 : ¬ (np : Int) < (nd : Int) := by omega
      have hcz : (w2.alloc (.cells M 3)).cell? ⟨gd, t, none⟩ = some (.int .i64 zt) := (((Below.refl w2.heap.size w2).alloc (Nat.le_refl _) (.cells M 3)).cell (p := ⟨gd, t, none⟩) hgd.2).trans hzd
      go_wp2_with (go_at_call 82; refine (CI.out _).mono ?_; rintro e wz ⟨rfl, rfl⟩)
      go_loopw [10] (fun i wr => ∃ (k : Nat) (pc tl : List Int), i = .int .i64 ((k : Int) - 1) ∧ k ≤ no ∧ Hid (pc.length = np) ∧ Hid ((dv d t c k pc).1 ++ tl = fin.1 ∧ (dv d t c k pc).2 = fin.2) ∧ Hid (RowZs w2.heap.size wr (.slice (some ⟨w2.heap.size, 0, none⟩) no no) (List.replicate k 0 ++ tl)) ∧ Hid (RowZs w.heap.size wr (.slice (some ⟨g, 0, none⟩) np c1) pc) ∧ Hid (Kps (fun x => x = g ∨ x = w2.heap.size) w2 wr)) (fun i _ => (intOf i + 1).toNat)
      case atStart => exact ⟨no, p, [], congrArg (Value.int .i64) (by omega), Nat.le_refl _, HPL, ⟨by rw [List.append_nil, HFI.out], by rw [HFI.out]⟩, by rw [List.append_nil]; exact HQ0, (Kps.of_below (S := fun _ => False) ((Below.refl _ _).alloc (Nat.le_refl _) _)).row HWR.out (fun _ _ h => h), Kps.of_below ((Below.refl _ _).alloc (Nat.le_refl _) _)⟩
      case round =>
        obtain ⟨k, pc, tl, rfl, hk, HL, HF, HQR, HRR, HK⟩ := hrel
        clear HQ0 hmk hzd hcz HWR CI hi0 hi2 hi3 hi6 hi7
        by_cases hk0 : 0 < k
        · obtain ⟨j, rfl⟩ : ∃ j, k = j + 1 := ⟨k - 1, by omega⟩
          have hji : ((j + 1 : Nat) : Int) - 1 = (j : Int) := by omega
          have hj0 : (0 : Int) ≤ (j : Int) := by omega
          have hjn : (j : Int) < (no : Int) := by omega
          obtain ⟨mm, hm⟩ : ∃ mm, mm = j + t := ⟨_, rfl⟩
          obtain ⟨m1, hm1⟩ : ∃ m1, m1 = j + nd := ⟨_, rfl⟩
          have hjm : (j : Int) + (nd : Int) = (m1 : Int) := by omega
          have hjm1 : (m1 : Int) - 1 = (mm : Int) := by omega
          have hm0 : (0 : Int) ≤ (mm : Int) := by omega
          have hmn : (mm : Int) < (np : Int) := by omega
          have hwm1 : IntKind.i64.wrap (m1 : Int) = (m1 : Int) := IntWalk.i64_in _ (by omega)
          have hwm : IntKind.i64.wrap (mm : Int) = (mm : Int) := IntWalk.i64_in _ (by omega)
          obtain ⟨g', c', hve, _, _, hz, _⟩ := HRR.out.cellZ (j := mm) (by rw [HL.out]; omega)
          have hgg : g' = g := by injection hve with e1; injection e1 with e1; injection e1 with e1; exact e1.symm
          subst hgg
          have hlq : (List.replicate (j + 1) 0 ++ tl).length = no := HQR.out.len.symm
          obtain ⟨gq, cq', hveq, _, _, hzq, hzqf⟩ := HQR.out.cellZ (j := j) (by rw [hlq]; omega)
          have hgq : gq = w2.heap.size := by injection hveq with e1; injection e1 with e1; injection e1 with e1; exact e1.symm
          subst hgq
          have HKK : Hid (dvK t c pc j = scMul (pc.getD mm 0) c) := by rw [hm]; rfl
          have CM : Hid (∀ w, Calls Tryz.prog 81 #[.int .i64 (pc.getD mm 0), .int .i64 c] w fun e w' => e = .returned (.int .i64 (dvK t c pc j)) ∧ w = w') := fun w => by rw [HKK.out]; exact sScMul_any _ _ w
          have HF2 : Hid ((dv d t c j (addSh pc j (scNeg (dvK t c pc j)) (d.take nd))).1 ++ (dvK t c pc j :: tl) = fin.1 ∧ (dv d t c j (addSh pc j (scNeg (dvK t c pc j)) (d.take nd))).2 = fin.2) := by
            have e : d.take nd = d := by rw [← HDL.out, List.take_length]
            rw [e]
            exact ⟨by rw [← HF.out.1, dv, List.append_assoc]; rfl, by rw [← HF.out.2, dv]⟩
          have HQ2 : Hid (RowZs w2.heap.size (wr.setCell ⟨w2.heap.size, j, none⟩ (.int .i64 (dvK t c pc j))) (.slice (some ⟨w2.heap.size, 0, none⟩) no no) (List.replicate j 0 ++ (dvK t c pc j :: tl))) := by
            have := HQR.out.put j (dvK t c pc j)
            rwa [rep_sets] at this
          have HK2 : Hid (Kps (fun x => x = g' ∨ x = w2.heap.size) w2 (wr.setCell ⟨w2.heap.size, j, none⟩ (.int .i64 (dvK t c pc j)))) := HK.out.setCell (p := ⟨w2.heap.size, j, none⟩) (Or.inr rfl) _
          have HR2 : Hid (RowZs w.heap.size (wr.setCell ⟨w2.heap.size, j, none⟩ (.int .i64 (dvK t c pc j))) (.slice (some ⟨g', 0, none⟩) np c1) (addSh pc j (scNeg (dvK t c pc j)) (d.take 0))) := by
            rw [List.take_zero, addSh_nil]
            exact ((Kps.refl (fun x => x = w2.heap.size) wr).setCell (p := ⟨w2.heap.size, j, none⟩) rfl _).row HRR.out (fun k hk e => by have e1 : g' = k := Option.some.inj hk; omega)
          have HD2 : Hid (RowZs w1.heap.size (wr.setCell ⟨w2.heap.size, j, none⟩ (.int .i64 (dvK t c pc j))) (.slice (some ⟨gd, 0, none⟩) nd c2) d) := HK2.out.row HDR.out (fun k hk e => by
            have e1 : gd = k := Option.some.inj hk
            omega)
          have HX : Hid (∀ tt, tt < nd → (addSh pc j (scNeg (dvK t c pc j)) (d.take tt)).getD (j + tt) 0 = pc.getD (j + tt) 0) := fun tt htt => addSh_new pc j _ d (by rw [HL.out, HDL.out]; omega) (by rw [HDL.out]; exact htt)
          have HY : Hid (∀ tt, tt < nd → (addSh pc j (scNeg (dvK t c pc j)) (d.take tt)).set (j + tt) (scAdd (pc.getD (j + tt) 0) (scNeg (scMul (dvK t c pc j) (d.getD tt 0)))) = addSh pc j (scNeg (dvK t c pc j)) (d.take (tt + 1))) := fun tt htt => by
            rw [← shift_neg]
            exact addSh_next pc j _ d (by rw [HL.out, HDL.out]; omega) (by rw [HDL.out]; exact htt)
          have HLN : Hid (∀ tt, (addSh pc j (scNeg (dvK t c pc j)) (d.take tt)).length = np) := fun tt => by rw [addSh_len, HL.out]
          clear hve hveq HKK HF HQR HRR HK hlq hm hm1
          generalize hNN : scNeg (dvK t c pc j) = N at HF2 HR2 HX HY HLN
          clear hNN
          generalize dvK t c pc j = K at CM HF2 HQ2 HK2 HR2 HD2 HY
          generalize (List.replicate (j + 1) 0 ++ tl).getD j 0 = old at hzq
          generalize pc.getD mm 0 = x at hz CM
          go_wp2_with (go_at_call 81; refine (CM.out _).mono ?_; rintro e wz ⟨rfl, rfl⟩)
          generalize wr.setCell ⟨w2.heap.size, j, none⟩ (.int .i64 K) = V at HQ2 HK2 HR2 HD2 ⊢
          clear hz hzq hzqf CM hjm hjm1 hwm1 hwm hm0 hmn
          go_wp2
          go_loopw [12] (fun i wr => ∃ (tt : Nat), i = .int .i64 (tt : Int) ∧ tt ≤ nd ∧ Hid (RowZs w.heap.size wr (.slice (some ⟨g', 0, none⟩) np c1) (addSh pc j N (d.take tt))) ∧ Hid (Kps (fun x => x = g') V wr)) (fun i _ => nd - (intOf i).toNat)
          case atStart => exact ⟨0, rfl, Nat.zero_le _, HR2, Kps.refl _ _⟩
          case round =>
            obtain ⟨tt, rfl, ht, HRI, HKI⟩ := hrel
            clear HR2
            by_cases htl : tt < nd
            · have htl' : (tt : Int) < (nd : Int) := by omega
              have ht0 : (0 : Int) ≤ (tt : Int) := by omega
              have hxt := HX.out tt htl
              have hyt := HY.out tt htl
              generalize hii : j + tt = i at hxt hyt
              have hst : (j : Int) + (tt : Int) = (i : Int) := by omega
              have hst0 : (0 : Int) ≤ (i : Int) := by omega
              have hst1 : (i : Int) < (np : Int) := by omega
              have hwr : IntKind.i64.wrap (i : Int) = (i : Int) := IntWalk.i64_in _ (by omega)
              have hiL : i < np := by omega
              clear hii
              obtain ⟨g2, c', hv, _, _, hz, hf⟩ := HRI.out.cellZ (j := i) (by rw [HLN.out]; exact hiL)
              rw [hxt] at hz
              have hgg : g2 = g' := by injection hv with e1; injection e1 with e1; injection e1 with e1; exact e1.symm
              subst hgg
              have HDI : Hid (RowZs w1.heap.size wr (.slice (some ⟨gd, 0, none⟩) nd c2) d) := HKI.out.row HD2.out (fun k hk e => by have e1 : gd = k := Option.some.inj hk; omega)
              obtain ⟨gd2, c'', hv2, _, _, hzb, _⟩ := HDI.out.cellZ (j := tt) (by rw [HDL.out]; exact htl)
              have hgg : gd2 = gd := by injection hv2 with e1; injection e1 with e1; injection e1 with e1; exact e1.symm
              subst hgg
              have CM : Hid (∀ w, Calls Tryz.prog 81 #[.int .i64 K, .int .i64 (d.getD tt 0)] w fun e w' => e = .returned (.int .i64 (scMul K (d.getD tt 0))) ∧ w = w') := sScMul_any _ _
              have CN : Hid (∀ w, Calls Tryz.prog 91 #[.int .i64 (scMul K (d.getD tt 0))] w fun e w' => e = .returned (.int .i64 (scNeg (scMul K (d.getD tt 0)))) ∧ w = w') := sScNeg_any _
              have CA : Hid (∀ w, Calls Tryz.prog 18 #[.int .i64 (pc.getD i 0), .int .i64 (scNeg (scMul K (d.getD tt 0)))] w fun e w' => e = .returned (.int .i64 (scAdd (pc.getD i 0) (scNeg (scMul K (d.getD tt 0))))) ∧ w = w') := sScAdd_any _ _
              obtain ⟨L, hL⟩ : ∃ L, L = addSh pc j N (d.take tt) := ⟨_, rfl⟩
              have HRI2 : Hid (RowZs w.heap.size wr (.slice (some ⟨g2, 0, none⟩) np c1) L) := by rw [hL]; exact HRI
              rw [← hL] at hyt
              obtain ⟨L2, hL2⟩ : ∃ L, L = addSh pc j N (d.take (tt + 1)) := ⟨_, rfl⟩
              have HL2 : Hid (L2 = addSh pc j N (d.take (tt + 1))) := hL2
              rw [← hL2] at hyt
              have HNY : Hid (L.set i (scAdd (pc.getD i 0) (scNeg (scMul K (d.getD tt 0)))) = L2) := hyt
              have HC : Hid (∀ wz : World, wz.heap = wr.heap → wz.cell? ⟨g2, i, none⟩ = some (.int .i64 (pc.getD i 0)) ∧ wz.frozen? ⟨g2, i, none⟩ = false ∧ wz.cell? ⟨gd2, tt, none⟩ = some (.int .i64 (d.getD tt 0))) := fun wz hwz => ⟨cell_heap hz hwz, free_heap hf hwz, cell_heap hzb hwz⟩
              clear hyt hL hL2 hz hf hzb hxt hv hv2 HRI HDI
              generalize scAdd (pc.getD i 0) (scNeg (scMul K (d.getD tt 0))) = y at CA HNY
              generalize scNeg (scMul K (d.getD tt 0)) = q1 at CN CA
              generalize scMul K (d.getD tt 0) = q at CM CN
              generalize pc.getD i 0 = x at HC CA
              generalize d.getD tt 0 = z at CM HC
              go_wp2_with fail
              refine wp_region_last [(0, false), (1, false), (2, false), (3, false), (4, false), (5, false), (6, false), (7, false), (8, false), (9, false), (10, false), (11, false), (12, false), (13, false), (14, false), (15, true), (16, true), (17, true), (18, false)] 19 (fun wz => wz.heap = wr.heap) mixesSc (by kernel_rfl) rfl ?_
              repeat (refine ord_float rfl rfl (fun K hK => ⟨_, (fun w' hw => by have q0 := (HC.out w' hw).1; have q1 :=  (HC.out w' hw).2.2; go_simp; exact rfl), ?_⟩); go_simp; refine hK _ ?_; clear hK K)
              refine ord_call rfl rfl (fun K hK => ⟨_, _, (by go_simp <;> first | exact rfl | exact ⟨rfl, rfl⟩), ?_⟩)
              refine (CM.out _).mono ?_
              rintro e u1 ⟨rfl, hu1⟩
              have T1 : u1.heap = wr.heap := (by rw [← hu1]; rfl)
              refine ⟨_, rfl, T1, ?_⟩
              go_simp
              refine hK _ _ ?_
              clear hK K
              repeat (refine ord_float rfl rfl (fun K hK => ⟨_, (fun w' hw => by have q0 := (HC.out w' hw).1; go_simp; exact rfl), ?_⟩); go_simp; refine hK _ ?_; clear hK K)
              refine ord_call rfl rfl (fun K hK => ⟨_, _, (by go_simp <;> first | exact rfl | exact ⟨rfl, rfl⟩), ?_⟩)
              refine (CN.out _).mono ?_
              rintro e u2 ⟨rfl, hu2⟩
              have T2 : u2.heap = wr.heap := (congrArg World.heap hu2.symm).trans T1
              refine ⟨_, rfl, T2, ?_⟩
              go_simp
              refine hK _ _ ?_
              clear hK K
              repeat (refine ord_float rfl rfl (fun K hK => ⟨_, (fun w' hw => by have q0 := (HC.out w' hw).1; go_simp; exact rfl), ?_⟩); go_simp; refine hK _ ?_; clear hK K)
              refine ord_call rfl rfl (fun K hK => ⟨_, _, (by go_simp <;> first | exact rfl | exact ⟨rfl, rfl⟩), ?_⟩)
              refine (CA.out _).mono ?_
              rintro e u3 ⟨rfl, hu3⟩
              have T3 : u3.heap = wr.heap := (congrArg World.heap hu3.symm).trans T2
              refine ⟨_, rfl, T3, ?_⟩
              go_simp
              refine hK _ _ ?_
              clear hK K
              repeat (refine ord_float rfl rfl (fun K hK => ⟨_, (fun w' hw => by have q0 := (HC.out w' hw).1; go_simp; exact rfl), ?_⟩); go_simp; refine hK _ ?_; clear hK K)
              refine ord_nil ?_
              have hc2 := (HC.out u3 T3).1
              have hf2 := (HC.out u3 T3).2.1
              refine last_store rfl rfl rfl (u3.setCell ⟨g2, i, none⟩ (.int .i64 y)) (by go_simp <;> rfl) ?_
              have HR3 : Hid (RowZs w.heap.size (u3.setCell ⟨g2, i, none⟩ (.int .i64 y)) (.slice (some ⟨g2, 0, none⟩) np c1) L2) := by
                show RowZs _ _ _ _
                rw [← HNY.out]
                exact (HRI2.out.heap T3).put i y
              have HK3 : Hid (Kps (fun x => x = g2) V (u3.setCell ⟨g2, i, none⟩ (.int .i64 y))) := by
                subst hu1 hu2 hu3
                exact HKI.out.drew.setCell rfl _
              generalize u3.setCell ⟨g2, i, none⟩ (.int .i64 y) = V2 at HR3 HK3 ⊢
              clear hu1 hu2 hu3 T1 T2 T3 hc2 hf2 HC HRI2 HNY HKI CM CN CA
              go_wp2
              go_roundw
              case rel => exact ⟨tt + 1, by go_num, htl, by rw [← HL2.out]; exact HR3, HK3⟩
              case measure => simp [intOf]; omega
            · have htl' : ¬ (tt : Int) < (nd : Int) := by omega
              obtain rfl : nd = tt := by omega
              have HLN2 : Hid ((addSh pc j N (d.take nd)).length = np) := HLN.out nd
              have HQ3 : Hid (RowZs w2.heap.size wr (.slice (some ⟨w2.heap.size, 0, none⟩) no no) (List.replicate j 0 ++ (K :: tl))) := HKI.out.row HQ2.out (fun k hk e => by have e1 : w2.heap.size = k := Option.some.inj hk; omega)
              have HK3 : Hid (Kps (fun x => x = g' ∨ x = w2.heap.size) w2 wr) := HK2.out.trans (HKI.out.more fun _ h => Or.inl h)
              clear HQ2 HK2 HD2 HX HY HLN HKI
              go_wp2
              go_roundw
              case rel => exact ⟨j, _, K :: tl, by go_num, by omega, HLN2, HF2, HQ3, HRI, HK3⟩
              case measure => simp [intOf]
        · obtain rfl : k = 0 := by omega
          have hq1 : fin.1.length = no := by have h1 := HF.out.1; have h2 := HQR.out.len; rw [← h1]; exact h2.symm
          have hq2 : fin.2.length = np := by rw [← HF.out.2]; exact HL.out
          have HQA : Hid (ZOwn w2.heap.size wr.heap.size wr (.slice (some ⟨w2.heap.size, 0, none⟩) no no) fin.1) := by
            have h1 := HF.out.1
            show ZOwn _ _ _ _ _
            rw [← h1]
            exact ZOwn.of HQR.out
          have HRA : Hid (ZOwn w.heap.size wr.heap.size wr (.slice (some ⟨g, 0, none⟩) np c1) fin.2) := by
            rw [← HF.out.2]
            exact ZOwn.of HRR.out
          have s1 := HB1.out.size
          have s2 := HB2.out.size
          have HBW : Hid (Below w.heap.size w wr) := HK.out.bel (HB1.out.trans (HB2.out.mono s1)) (by omega) (fun k hk => by omega)
          have C3 : Hid (∀ W : World, W = wr → Calls Tryz.prog 193 #[.slice (some ⟨w2.heap.size, 0, none⟩) no no] W fun e w' => ∃ u, e = .returned u ∧ ZOwn W.heap.size w'.heap.size w' u (pQuo l m) ∧ Below W.heap.size W w') := fun W e => by
            subst e
            rw [HQ.out]
            exact sTrim_any _ fin.1 (by omega) _ HQA.out.at
          have C4 : Hid (∀ W : World, Below wr.heap.size wr W → Calls Tryz.prog 193 #[.slice (some ⟨g, 0, none⟩) np c1] W fun e w' => ∃ u, e = .returned u ∧ ZOwn W.heap.size w'.heap.size w' u (pRem l m) ∧ Below W.heap.size W w') := fun W hW => by
            rw [HR.out]
            exact sTrim_any _ fin.2 (by omega) _ ((HRA.out.at.on hW).wide hW.size)
          clear HF HQR HRR HK HQ HR hq1 hq2 HFI
          go_wp2_with fail
          go_at_call 193
          refine (C3.out _ rfl).mono ?_
          rintro e w3 ⟨qv, rfl, hqv, hb3⟩
          go_wp2_with fail
          go_at_call 193
          refine (C4.out _ hb3).mono ?_
          rintro e w4 ⟨rv, rfl, hrv, hb4⟩
          have hsw := HBW.out.size
          have hs3 := hb3.size
          have HQV : Hid (ZOwn wr.heap.size w3.heap.size w4 qv (pQuo l m)) := hqv.on hb4 (Nat.le_refl _)
          have HRV : Hid (ZOwn w3.heap.size w4.heap.size w4 rv (pRem l m)) := hrv
          have HB4 : Hid (Below w.heap.size w w4) := (HBW.out.trans (hb3.mono hsw)).trans (hb4.mono (by omega))
          have hs4 := hb4.size
          clear hqv hrv hb3 hb4 C3 C4
          go_wp2
          go_ret2
          refine ⟨qv, rv, rfl, HQV.out.wide hsw hs4, HRV.out.wide (by omega) (Nat.le_refl _), fun k h1 h2 => ?_, HB4.out⟩
          have e1 := HQV.out.in k h1
          have e2 := HRV.out.in k h2
          omega

end Go.Proofs.YthnahalboomkoaaGreat

/-
  The walks of the specification's rows as one product: what is mixed.
  (-DROP-: what the seat lacks is left out.)
-/
namespace Go.Proofs.YthnahalboomkoaaGreat
open Go.RowKit

set_option maxHeartbeats 3200000 in
set_option maxRecDepth 100000 in
theorem sMix_any (v u : Value) (L : List (List Int)) (m : List Int) (hL : L.length ≤ 1048576) (hz : ∀ j, (L.getD j []).length ≤ 1048576) (_hm : m.length ≤ 1048576) (w : World) (h : NAt 1 w w.heap.size v L.length L) (h2 : ZAt w w.heap.size u m) :
    Calls Tryz.prog 194 #[v, u] w fun e w' => ∃ x, e = .returned x ∧ ZOwn w.heap.size w'.heap.size w' x (pMix L m) ∧ Below w.heap.size w w' := by
  obtain ⟨hlen, a, cp, rfl, hA⟩ := h
  obtain ⟨b, cq, rfl, hB⟩ := h2
  have HA : Hid (∀ j, j < L.length * 1 → ∃ b off u, a = some ⟨b, off, none⟩ ∧ b < w.heap.size ∧ w.cell? ⟨b, off + j, none⟩ = some u ∧ ZAt w w.heap.size u (L.getD j [])) := hA
  have HB : Hid (IntsAt w b m.length w.heap.size (fun j => m.getD j 0)) := hB
  have HZ : Hid (∀ j, (L.getD j []).length ≤ 1048576) := hz
  have HE : Hid (pMix L m = mixN L m (min L.length m.length)) := rfl
  have HML : Hid (∀ k, (mixN L m k).length ≤ 1048576) := fun k => mixN_len L m 1048576 k fun i _ => hz i
  clear hA hB hlen hz
  generalize L.length = la at *
  generalize m.length = lb at *
  go_enter Tryz.func194, Tryz.ntmps194
  go_wp2
  go_loopw [5, 6] (fun o i wr => ∃ (k : Nat), i = .int .i64 (k : Int) ∧ k ≤ la ∧ k ≤ lb ∧ Hid (ZOwn w.heap.size wr.heap.size wr o (mixN L m k)) ∧ Hid (Below w.heap.size w wr)) (fun _ i _ => la - (intOf i).toNat)
  case atStart => exact ⟨0, rfl, Nat.zero_le _, Nat.zero_le _, ZOwn.of (World.ownsRow_lit _ _ _ (Nat.le_refl _) (by simp [maxLen]) (by simp)), (Below.refl _ _).alloc (Nat.le_refl _) _⟩
  case round =>
    obtain ⟨k, rfl, hka, hkb, HU, HW⟩ := hrel
    obtain ⟨xa, xc, hxv⟩ := row_form HU.out.1
    subst hxv
    generalize hzl : (mixN L m k).length = zn at HU
    clear hzl
    by_cases hla : k < la
    · have hla' : (k : Int) < (la : Int) := by omega
      have hk0 : (0 : Int) ≤ (k : Int) := by omega
      by_cases hlb : k < lb
      · have hlb' : (k : Int) < (lb : Int) := by omega
        obtain ⟨b1, o1, v1, rfl, hb1, c1, z1⟩ := HA.out k (by omega)
        obtain ⟨b2, o2, rfl, hb2, c2⟩ := HB.out k hlb
        replace c2 : w.cell? ⟨b2, o2 + k, none⟩ = some (.int .i64 (m.getD k 0)) := c2
        have HC : Hid (∀ wz, Below wr.heap.size wr wz → wz.cell? ⟨b1, o1 + k, none⟩ = some v1 ∧ wz.cell? ⟨b2, o2 + k, none⟩ = some (.int .i64 (m.getD k 0))) := fun wz hwz => by
          have hb := HW.out.trans (hwz.mono HW.out.size)
          exact ⟨(hb.cell (p := ⟨b1, o1 + k, none⟩) hb1).trans c1, (hb.cell (p := ⟨b2, o2 + k, none⟩) hb2).trans c2⟩
        have CS : Hid (∀ W, Below wr.heap.size wr W → Calls Tryz.prog 156 #[v1, .int .i64 (m.getD k 0)] W fun e w' => ∃ u, e = .returned u ∧ ZOwn W.heap.size w'.heap.size w' u (scl (L.getD k []) (m.getD k 0)) ∧ Below W.heap.size W w') := fun W hW => by
          have hb := HW.out.trans (hW.mono HW.out.size)
          exact sScl_any v1 _ _ (HZ.out k) W ((z1.on hb).wide hb.size)
        have CA : Hid (∀ W (x : Value), Below wr.heap.size wr W → ZAt W W.heap.size x (scl (L.getD k []) (m.getD k 0)) → Calls Tryz.prog 155 #[.slice xa zn xc, x] W fun e w' => ∃ u, e = .returned u ∧ ZOwn W.heap.size w'.heap.size w' u (mixN L m (k + 1)) ∧ Below W.heap.size W w') := fun W x hW hx => sQAdd_any _ x _ _ (HML.out k) (by rw [scl_len]; exact HZ.out k) W ((HU.out.at.on hW).wide hW.size) hx
        obtain ⟨v1a, v1c, hv1, _⟩ := z1
        subst hv1
        clear c1 c2 hb1 hb2
        generalize scl (L.getD k []) (m.getD k 0) = sc at CS CA
        generalize hnx : mixN L m (k + 1) = nx at CA
        have HNX : Hid (mixN L m (k + 1) = nx) := hnx
        generalize m.getD k 0 = y at HC CS
        generalize (L.getD k []).length = l1 at HC CS
        clear hnx HU
        go_wp2_with fail
        refine wp_region_ord [(0, false), (1, false), (2, false), (3, false), (4, false), (5, false), (6, false), (7, false), (8, false), (9, true), (10, true), (11, false)] (fun wz => Below wr.heap.size wr wz) mixesSc (by kernel_rfl) (Below.refl _ _).drew ?_
        repeat (refine ord_float rfl rfl (fun K hK => ⟨_, (fun w' hw => by have q0 := (HC.out w' hw).1; have q1 :=  (HC.out w' hw).2; go_simp; exact rfl), ?_⟩); go_simp; refine hK _ ?_; clear hK K)
        refine ord_call rfl rfl (fun K hK => ⟨_, _, (by go_simp <;> first | exact rfl | exact ⟨rfl, rfl⟩), ?_⟩)
        refine (CS.out _ (Below.refl _ _).drew).mono ?_
        rintro e u1 ⟨sv, rfl, hsv, hu1⟩
        have T1 := (Below.refl wr.heap.size wr).drew.trans hu1
        refine ⟨_, rfl, T1, ?_⟩
        go_simp
        refine hK _ _ ?_
        clear hK K
        repeat (refine ord_float rfl rfl (fun K hK => ⟨_, (fun w' hw => by have q0 := (HC.out w' hw).1; go_simp; exact rfl), ?_⟩); go_simp; refine hK _ ?_; clear hK K)
        refine ord_call rfl rfl (fun K hK => ⟨_, _, (by go_simp <;> first | exact rfl | exact ⟨rfl, rfl⟩), ?_⟩)
        refine (CA.out _ _ T1 hsv.at).mono ?_
        rintro e u2 ⟨nv, rfl, hnv, hu2⟩
        have T2 := T1.trans (hu2.mono T1.size)
        refine ⟨_, rfl, T2, ?_⟩
        go_simp
        refine hK _ _ ?_
        clear hK K
        repeat (refine ord_float rfl rfl (fun K hK => ⟨_, (fun w' hw => by have q0 := (HC.out w' hw).1; go_simp; exact rfl), ?_⟩); go_simp; refine hK _ ?_; clear hK K)
        refine ord_nil ?_
        have HN2 : Hid (ZOwn w.heap.size u2.heap.size u2 nv nx) := hnv.wide (Nat.le_trans HW.out.size T1.size) (Nat.le_refl _)
        have HW2 : Hid (Below w.heap.size w u2) := HW.out.trans (T2.mono HW.out.size)
        clear hnv hsv hu1 hu2 T1 T2 HC CS CA
        go_wp2
        go_roundw
        case rel => exact ⟨k + 1, by go_num, hla, hlb, by rw [HNX.out]; exact HN2, HW2⟩
        case measure => simp [intOf]; omega
      · have hlb' : ¬ (k : Int) < (lb : Int) := by omega
        have HF : Hid (mixN L m k = pMix L m) := by show _ = _; rw [HE.out, show min la lb = k by omega]
        go_wp2
        go_ret
        exact ⟨_, rfl, by rw [← HF.out]; exact HU.out, HW.out⟩
    · have hla' : ¬ (k : Int) < (la : Int) := by omega
      have HF : Hid (mixN L m k = pMix L m) := by show _ = _; rw [HE.out, show min la lb = k by omega]
      go_wp2
      go_ret
      exact ⟨_, rfl, by rw [← HF.out]; exact HU.out, HW.out⟩

end Go.Proofs.YthnahalboomkoaaGreat

/-
  Three lists of lists beside one another.
-/
namespace Go.Proofs.YthnahalboomkoaaGreat
open Go.RowKit

/-- The blocks of a list of lists. -/
def OwnB (v : Value) (n : Nat) (vs : List Value) (k : Nat) : Prop := v.ownBlock = some k ∨ ∃ i, i < n ∧ (vs.getD i undef).ownBlock = some k
theorem NOwnV.range {e lo hi n : Nat} {w : World} {v : Value} {vs : List Value} {ls : List (List Int)} (h : NOwnV 1 e lo hi w v n vs ls) {k : Nat} (hk : OwnB v n vs k) : lo ≤ k ∧ k < hi := by
  rcases hk with hk | ⟨i, hi, hk⟩
  · exact ⟨(h.row.lt k hk).1, h.top k hk⟩
  · exact (h.each i (by omega)).in k hk
theorem kps_grown {w w' : World} {r : Option Nat} (hg : w.grownBy w' r) : Kps (fun k => r = some k) w w' := ⟨hg.os, hg.tape, hg.output, hg.size, fun k hk hs => hg.block k hk fun e => hs e.symm⟩
theorem NOwnV.kept1 {e lo hi n : Nat} {w w' : World} {v : Value} {vs : List Value} {ls : List (List Int)} {S : Nat → Prop} (h : NOwnV 1 e lo hi w v n vs ls) (hk : Kps S w w') (hS : ∀ k, OwnB v n vs k → ¬ S k) : NOwnV 1 e lo hi w' v n vs ls :=
  ⟨hk.row h.row fun k hv => hS k (.inl hv), h.len, h.top, fun j hj => ⟨hk.row (h.each j hj).1 fun k hv => hS k (.inr ⟨j, by omega, hv⟩), (h.each j hj).2⟩, h.apart, h.off⟩
theorem NOwnV.wide1 {sz e lo hi hi' n : Nat} {w : World} {v : Value} {vs : List Value} {ls : List (List Int)} (h : NOwnV sz e lo hi w v n vs ls) (h2 : hi ≤ hi') : NOwnV sz e lo hi' w v n vs ls := h.wide h2

/-- Three of them, no block of one is another's. -/
structure Tri (e lo hi : Nat) (w : World) (U : Value) (nu : Nat) (us : List Value) (LU : List (List Int)) (V : Value) (nv : Nat) (vs : List Value) (LV : List (List Int)) (X : Value) (nx : Nat) (xs : List Value) (LX : List (List Int)) : Prop where
  u : NOwnV 1 e lo hi w U nu us LU
  v : NOwnV 1 e lo hi w V nv vs LV
  x : NOwnV 1 e lo hi w X nx xs LX
  uv : ∀ k, OwnB U nu us k → ¬ OwnB V nv vs k
  ux : ∀ k, OwnB U nu us k → ¬ OwnB X nx xs k
  vx : ∀ k, OwnB V nv vs k → ¬ OwnB X nx xs k
theorem Tri.rot {e lo hi : Nat} {w : World} {U V X : Value} {nu nv nx : Nat} {us vs xs : List Value} {LU LV LX : List (List Int)} (h : Tri e lo hi w U nu us LU V nv vs LV X nx xs LX) : Tri e lo hi w V nv vs LV X nx xs LX U nu us LU :=
  ⟨h.v, h.x, h.u, h.vx, fun k h1 h2 => h.uv k h2 h1, fun k h1 h2 => h.ux k h2 h1⟩
theorem Tri.same {e lo hi : Nat} {w w' : World} {U V X : Value} {nu nv nx : Nat} {us vs xs : List Value} {LU LV LX : List (List Int)} (h : Tri e lo hi w U nu us LU V nv vs LV X nx xs LX) (hs : Same lo hi w w') : Tri e lo hi w' U nu us LU V nv vs LV X nx xs LX :=
  ⟨h.u.same hs, h.v.same hs, h.x.same hs, h.uv, h.ux, h.vx⟩
theorem Tri.wide {e lo hi hi' : Nat} {w : World} {U V X : Value} {nu nv nx : Nat} {us vs xs : List Value} {LU LV LX : List (List Int)} (h : Tri e lo hi w U nu us LU V nv vs LV X nx xs LX) (h2 : hi ≤ hi') : Tri e lo hi' w U nu us LU V nv vs LV X nx xs LX :=
  ⟨h.u.wide h2, h.v.wide h2, h.x.wide h2, h.uv, h.ux, h.vx⟩
theorem NOwnV.low1 {sz e lo lo' hi n : Nat} {w : World} {v : Value} {vs : List Value} {ls : List (List Int)} (h : NOwnV sz e lo hi w v n vs ls) (h2 : lo' ≤ lo) : NOwnV sz e lo' hi w v n vs ls :=
  ⟨owns_low h.row h2, h.len, h.top, fun j hj => (h.each j hj).wide h2 (Nat.le_refl _), h.apart, h.off⟩
theorem Tri.low {e lo lo' hi : Nat} {w : World} {U V X : Value} {nu nv nx : Nat} {us vs xs : List Value} {LU LV LX : List (List Int)} (h : Tri e lo hi w U nu us LU V nv vs LV X nx xs LX) (h2 : lo' ≤ lo) : Tri e lo' hi w U nu us LU V nv vs LV X nx xs LX :=
  ⟨h.u.low1 h2, h.v.low1 h2, h.x.low1 h2, h.uv, h.ux, h.vx⟩
/-- The first of them grows by one list. -/
theorem Tri.app {e lo hi : Nat} {w w' : World} {U V X U' x : Value} {nu nv nx : Nat} {us vs xs : List Value} {LU LV LX : List (List Int)} {l : List Int} (h : Tri e lo hi w U nu us LU V nv vs LV X nx xs LX) (hr : w'.ownsRow lo e 1 U' (nu + 1) (us ++ [x])) (hg : w.grownBy w' U.ownBlock) (hv : U'.ownBlock = U.ownBlock ∨ U'.ownBlock = some w.heap.size) (hx : ZOwn hi w.heap.size w x l) (hw : hi ≤ w.heap.size) (hlo : lo ≤ hi) : Tri e lo w'.heap.size w' U' (nu + 1) (us ++ [x]) (LU ++ [l]) V nv vs LV X nx xs LX := by
  have hul : us.length = nu := by have := h.u.vlen; omega
  have hsz := hg.size
  have hnew : NOwnV 1 e lo w'.heap.size w' U' (nu + 1) (us ++ [x]) (LU ++ [l]) := h.u.app hr hg hv rfl (fun j hj => by
      have e0 : j = 0 := by omega
      subst e0
      exact hx) (fun i j k hi hj hij => by omega) hw hlo hsz (fun k hk => (hr.lt k hk).2)
  have hsub : ∀ k, OwnB U' (nu + 1) (us ++ [x]) k → OwnB U nu us k ∨ hi ≤ k := fun k hk => by
    rcases hk with hk | ⟨i, hi', hk⟩
    · rcases hv with hv | hv
      · exact .inl (.inl (hv ▸ hk))
      · rw [hv] at hk
        have := Option.some.inj hk
        exact .inr (by omega)
    · by_cases e1 : i < nu
      · rw [getD_app_left _ _ _ _ (by omega)] at hk
        exact .inl (.inr ⟨i, e1, hk⟩)
      · rw [getD_app_right _ _ _ _ (by omega), hul, show i - nu = 0 by omega] at hk
        exact .inr (hx.in k hk).1
  have hK := kps_grown hg
  have keepV := h.v.kept1 hK fun k hk hs => h.uv k (.inl hs) hk
  have keepX := h.x.kept1 hK fun k hk hs => h.ux k (.inl hs) hk
  refine ⟨hnew, keepV.wide (by omega), keepX.wide (by omega), fun k h1 h2 => ?_, fun k h1 h2 => ?_, h.vx⟩
  · rcases hsub k h1 with h3 | h3
    · exact h.uv k h3 h2
    · have := h.v.range h2; omega
  · rcases hsub k h1 with h3 | h3
    · exact h.ux k h3 h2
    · have := h.x.range h2; omega

/-- Three rows of numbers beside one another. -/
structure Row3s (lo : Nat) (w : World) (a b c : Value) (la lb lc : List Int) : Prop where
  ra : RowZs lo w a la
  rb : RowZs lo w b lb
  rc : RowZs lo w c lc
  ab : ∀ k, a.ownBlock = some k → b.ownBlock ≠ some k
  ac : ∀ k, a.ownBlock = some k → c.ownBlock ≠ some k
  bc : ∀ k, b.ownBlock = some k → c.ownBlock ≠ some k
theorem Row3s.rot {lo : Nat} {w : World} {a b c : Value} {la lb lc : List Int} (h : Row3s lo w a b c la lb lc) : Row3s lo w b c a lb lc la :=
  ⟨h.rb, h.rc, h.ra, h.bc, fun k h1 h2 => h.ab k h2 h1, fun k h1 h2 => h.ac k h2 h1⟩
theorem Row3s.alloc {lo : Nat} {w : World} {a b c : Value} {la lb lc : List Int} (h : Row3s lo w a b c la lb lc) (o : Obj) : Row3s lo (w.alloc o) a b c la lb lc :=
  ⟨World.ownsRow.alloc h.ra o, World.ownsRow.alloc h.rb o, World.ownsRow.alloc h.rc o, h.ab, h.ac, h.bc⟩
theorem Row3s.app {lo : Nat} {w w' : World} {a b c a' : Value} {la lb lc la' : List Int} (h : Row3s lo w a b c la lb lc) (hr : RowZs lo w' a' la') (hg : w.grownBy w' a.ownBlock) (hv : a'.ownBlock = a.ownBlock ∨ a'.ownBlock = some w.heap.size) : Row3s lo w' a' b c la' lb lc := by
  have hK := kps_grown hg
  refine ⟨hr, hK.row h.rb fun k hk hs => h.ab k hs hk, hK.row h.rc fun k hk hs => h.ac k hs hk, fun k h1 h2 => ?_, fun k h1 h2 => ?_, h.bc⟩
  · rcases hv with hv | hv
    · exact h.ab k (hv ▸ h1) h2
    · rw [hv] at h1
      have := Option.some.inj h1
      have := (h.rb.lt k h2).2
      omega
  · rcases hv with hv | hv
    · exact h.ac k (hv ▸ h1) h2
    · rw [hv] at h1
      have := Option.some.inj h1
      have := (h.rc.lt k h2).2
      omega

end Go.Proofs.YthnahalboomkoaaGreat

/-
  The walk of the specification's polynomial through given values.
  (-DROP-: what the seat lacks is left out.)
-/
namespace Go.Proofs.YthnahalboomkoaaGreat
open Go.RowKit

set_option maxHeartbeats 3200000 in
set_option maxRecDepth 100000 in
theorem sThr_any (v : Value) (l : List Int) (hl : l.length ≤ 1048576) (w : World) (h : ZAt w w.heap.size v l) : Calls Tryz.prog 151 #[v] w fun e w' => ∃ u, e = .returned u ∧ ZOwn w.heap.size w'.heap.size w' u (pThr l) ∧ Below w.heap.size w w' := by
  obtain ⟨a, cp, rfl, hA⟩ := h
  have HA : Hid (IntsAt w a l.length w.heap.size (fun j => l.getD j 0)) := hA
  clear hA
  by_cases hbig : 16 < l.length
  · have HE : Hid (pThr l = []) := by show _ = _; unfold pThr; rw [if_pos hbig]
    have hb' : (l.length : Int) > 16 := by omega
    generalize l.length = n at *
    go_enter Tryz.func151, Tryz.ntmps151
    go_wp2
    go_ret
    exact ⟨_, rfl, by rw [HE.out]; exact ZOwn.of (World.ownsRow_lit _ _ _ (Nat.le_refl _) (by simp [maxLen]) (by simp)), (Below.refl _ _).alloc (Nat.le_refl _) _⟩
  · have HE : Hid (lagL l l.length l.length = pThr l) := thr_lag l (by omega)
    have hb' : ¬ (l.length : Int) > 16 := by omega
    generalize l.length = n at *
    go_enter Tryz.func151, Tryz.ntmps151
    go_wp2
    go_loopw [3, 4] (fun u i wr => ∃ (k : Nat), i = .int .i64 (k : Int) ∧ k ≤ n ∧ Hid (ZOwn w.heap.size wr.heap.size wr u (lagL l n k)) ∧ Hid (Below w.heap.size w wr)) (fun _ i _ => n - (intOf i).toNat)
    case atStart => exact ⟨0, rfl, Nat.zero_le _, ZOwn.of (World.ownsRow_lit _ _ _ (Nat.le_refl _) (by simp [maxLen]) (by simp)), (Below.refl _ _).alloc (Nat.le_refl _) _⟩
    case round =>
      obtain ⟨i, rfl, hi, HU, HB⟩ := hrel
      obtain ⟨xa, xc, hxv⟩ := row_form HU.out.1
      subst hxv
      have hlag := lagL_small l n i hi
      generalize hzl : (lagL l n i).length = zn at HU
      by_cases hlt : i < n
      · have hlt' : (i : Int) < (n : Int) := by omega
        have hi0 : (0 : Int) ≤ (i : Int) := by omega
        generalize wr = w0 at *
        go_wp2
        go_loopw [5, 6, 7] (fun ov lv kv wr => ∃ (k : Nat), kv = .int .i64 (k : Int) ∧ k ≤ n ∧ lv = .int .i64 (lowL i k) ∧ Hid (ZOwn w0.heap.size wr.heap.size wr ov (oneL i k)) ∧ Hid (Below w0.heap.size w0 wr)) (fun _ _ kv _ => n - (intOf kv).toNat)
        case atStart => exact ⟨0, rfl, Nat.zero_le _, rfl, ZOwn.of (own_lit w0 [1] (by simp)), (Below.refl _ _).alloc (Nat.le_refl _) _⟩
        case round =>
          obtain ⟨k, rfl, hk, rfl, HO, HV⟩ := hrel
          obtain ⟨oa, oc, hov⟩ := row_form HO.out.1
          subst hov
          generalize hol : (oneL i k).length = on at HO
          by_cases hkn : k < n
          · have hkn' : (k : Int) < (n : Int) := by omega
            by_cases hki : k = i
            · subst hki
              have HO2 : Hid (oneL k (k + 1) = oneL k k) := by show _ = _; rw [oneL, if_pos rfl]
              have HL2 : Hid (lowL k (k + 1) = lowL k k) := by show _ = _; rw [lowL, if_pos rfl]
              clear hol hzl hlag
              go_wp2
              go_roundw
              case rel => exact ⟨k + 1, by go_num, hkn, by rw [HL2.out], by rw [HO2.out]; exact HO, HV⟩
              case measure => simp [intOf]; omega
            · have hne : ((k : Int) == (i : Int)) = false := by rw [beq_eq_false_iff_ne]; omega
              have HO2 : Hid (oneL i (k + 1) = qMul (oneL i k) [-((k : Int) + 1), 1]) := by show _ = _; rw [oneL, if_neg hki]
              have HL2 : Hid (lowL i (k + 1) = scMul (lowL i k) ((i : Int) - (k : Int))) := by show _ = _; rw [lowL, if_neg hki]
              have hwr : IntKind.i64.wrap ((k : Int) + 1) = (k : Int) + 1 := IntWalk.i64_in _ (by omega)
              have hwn : IntKind.i64.wrap (-((k : Int) + 1)) = -((k : Int) + 1) := IntWalk.i64_in _ (by omega)
              obtain ⟨dd, hdd⟩ : ∃ dd : Int, (i : Int) - (k : Int) = dd := ⟨_, rfl⟩
              have hws : IntKind.i64.wrap dd = dd := IntWalk.i64_in _ (by omega)
              have CM : Hid (∀ V : World, V = wr.alloc (.cells #[.int .i64 (-((k : Int) + 1)), .int .i64 1] 3) → Calls Tryz.prog 152 #[.slice oa on oc, .slice (some ⟨wr.heap.size, 0, none⟩) 2 2] V fun e w' => ∃ x, e = .returned x ∧ ZOwn V.heap.size w'.heap.size w' x (oneL i (k + 1)) ∧ Below V.heap.size V w') := fun V hV => by
                subst hV
                rw [HO2.out]
                have hb : Below wr.heap.size wr (wr.alloc (.cells #[.int .i64 (-((k : Int) + 1)), .int .i64 1] 3)) := (Below.refl _ _).alloc (Nat.le_refl _) _
                refine sQMul_any _ _ (oneL i k) [-((k : Int) + 1), 1] (by have := oneL_127 i k; omega) (by simp) _ (((HO.out.at).on hb).wide hb.size) ?_
                exact (ZOwn.of (own_lit wr [-((k : Int) + 1), 1] (by simp))).at
              have CL : Hid (∀ w, Calls Tryz.prog 81 #[.int .i64 (lowL i k), .int .i64 dd] w fun e w' => e = .returned (.int .i64 (lowL i (k + 1))) ∧ w = w') := fun w => by rw [HL2.out, hdd]; exact sScMul_any _ _ w
              clear HO hol HO2 HL2 hzl hlag
              generalize hlow : lowL i (k + 1) = low2 at CL
              have HLW : Hid (lowL i (k + 1) = low2) := hlow
              generalize lowL i k = low at CL ⊢
              have hne3 : ((k : Int) != (i : Int)) = true := by simp; omega
              clear hlow hki
              go_wp2_with (first
                | (go_at_call 152; refine (CM.out _ rfl).mono ?_; rintro e w2 ⟨x, rfl, hx, hb2⟩)
                | (go_at_call 81; refine (CL.out _).mono ?_; rintro e wz ⟨rfl, rfl⟩))
              have hs : wr.heap.size ≤ (wr.alloc (.cells #[.int .i64 (-((k : Int) + 1)), .int .i64 1] 3)).heap.size := by simp
              have HX : Hid (ZOwn w0.heap.size w2.heap.size w2 x (oneL i (k + 1))) := hx.wide (Nat.le_trans HV.out.size hs) (Nat.le_refl _)
              have HV2 : Hid (Below w0.heap.size w0 w2) := (HV.out.alloc HV.out.size _).trans (hb2.mono (Nat.le_trans HV.out.size hs))
              clear hx hb2 hs CM CL
              go_roundw
              case rel => exact ⟨k + 1, by go_num, hkn, by rw [HLW.out], HX, HV2⟩
              case measure => simp [intOf]; omega
          · have hkn' : ¬ (k : Int) < (n : Int) := by omega
            obtain rfl : n = k := by omega
            obtain ⟨ba, off, rfl, hba, hz⟩ := (HA.out.on HB.out) i hlt
            replace hz : w0.cell? ⟨ba, off + i, none⟩ = some (.int .i64 (l.getD i 0)) := hz
            have s0 := HB.out.size
            have HC : Hid (∀ wz, Below wr.heap.size wr wz → wz.cell? ⟨ba, off + i, none⟩ = some (.int .i64 (l.getD i 0))) := fun wz hwz => ((HV.out.trans (hwz.mono HV.out.size)).cell (p := ⟨ba, off + i, none⟩) (by show ba < _; omega)).trans hz
            have CI : Hid (∀ w, Calls Tryz.prog 82 #[.int .i64 (lowL i n)] w fun e w' => e = .returned (.int .i64 (scInv (lowL i n))) ∧ w = w') := sScInv_any _
            have CM : Hid (∀ w, Calls Tryz.prog 81 #[.int .i64 (l.getD i 0), .int .i64 (scInv (lowL i n))] w fun e w' => e = .returned (.int .i64 (scMul (l.getD i 0) (scInv (lowL i n)))) ∧ w = w') := sScMul_any _ _
            have CS : Hid (∀ W (v : Value), ZAt W W.heap.size v (oneL i n) → Calls Tryz.prog 156 #[v, .int .i64 (scMul (l.getD i 0) (scInv (lowL i n)))] W fun e w' => ∃ u, e = .returned u ∧ ZOwn W.heap.size w'.heap.size w' u (scl (oneL i n) (scMul (l.getD i 0) (scInv (lowL i n)))) ∧ Below W.heap.size W w') := fun W v hv => sScl_any v _ _ (by have := oneL_127 i n; omega) W hv
            have CA : Hid (∀ W (u v : Value), ZAt W W.heap.size u (lagL l n i) → ZAt W W.heap.size v (scl (oneL i n) (scMul (l.getD i 0) (scInv (lowL i n)))) → Calls Tryz.prog 155 #[u, v] W fun e w' => ∃ u, e = .returned u ∧ ZOwn W.heap.size w'.heap.size w' u (lagL l n (i + 1)) ∧ Below W.heap.size W w') := fun W u v h1 h2 => sQAdd_any u v _ _ (by omega) (by rw [scl_len]; have := oneL_127 i n; omega) W h1 h2
            have HOW : Hid (ZAt wr wr.heap.size (.slice oa on oc) (oneL i n)) := HO.out.at
            have HUW : Hid (ZAt wr wr.heap.size (.slice xa zn xc) (lagL l n i)) := (HU.out.at.on HV.out).wide HV.out.size
            have s1 := HV.out.size
            clear hz hol hzl hlag hba
            generalize scl (oneL i n) (scMul (l.getD i 0) (scInv (lowL i n))) = sc at CS CA
            generalize scMul (l.getD i 0) (scInv (lowL i n)) = q1 at CM CS
            generalize scInv (lowL i n) = q2 at CI CM
            generalize lowL i n = low at CI ⊢
            generalize l.getD i 0 = y at HC CM
            generalize hnx : lagL l n (i + 1) = nx at CA
            have HNX : Hid (lagL l n (i + 1) = nx) := hnx
            generalize lagL l n i = ln at CA HUW
            generalize oneL i n = on1 at CS HOW
            clear hnx HO HU
            go_wp2_with fail
            refine wp_region_ord [(0, false), (1, false), (2, false), (3, false), (4, false), (5, false), (6, false), (7, true), (8, true), (9, true), (10, true), (11, false)] (fun wz => Below wr.heap.size wr wz) mixesSc (by kernel_rfl) (Below.refl _ _).drew ?_
            repeat (refine ord_float rfl rfl (fun K hK => ⟨_, (fun w' hw => by have q0 := HC.out w' hw; go_simp; exact rfl), ?_⟩); go_simp; refine hK _ ?_; clear hK K)
            refine ord_call rfl rfl (fun K hK => ⟨_, _, (by go_simp <;> first | exact rfl | exact ⟨rfl, rfl⟩), ?_⟩)
            refine (CI.out _).mono ?_
            rintro e u1 ⟨rfl, hu1⟩
            have T1 : Below wr.heap.size wr u1 := hu1 ▸ (Below.refl _ _).drew
            refine ⟨_, rfl, T1, ?_⟩
            go_simp
            refine hK _ _ ?_
            clear hK K
            repeat (refine ord_float rfl rfl (fun K hK => ⟨_, (fun w' hw => by have q0 := HC.out w' hw; go_simp; exact rfl), ?_⟩); go_simp; refine hK _ ?_; clear hK K)
            refine ord_call rfl rfl (fun K hK => ⟨_, _, (by go_simp <;> first | exact rfl | exact ⟨rfl, rfl⟩), ?_⟩)
            refine (CM.out _).mono ?_
            rintro e u2 ⟨rfl, hu2⟩
            have T2 : Below wr.heap.size wr u2 := hu2 ▸ T1
            refine ⟨_, rfl, T2, ?_⟩
            go_simp
            refine hK _ _ ?_
            clear hK K
            repeat (refine ord_float rfl rfl (fun K hK => ⟨_, (fun w' hw => by have q0 := HC.out w' hw; go_simp; exact rfl), ?_⟩); go_simp; refine hK _ ?_; clear hK K)
            refine ord_call rfl rfl (fun K hK => ⟨_, _, (by go_simp <;> first | exact rfl | exact ⟨rfl, rfl⟩), ?_⟩)
            refine (CS.out _ _ ((HOW.out.on T2).wide T2.size)).mono ?_
            rintro e u3 ⟨sv, rfl, hsv, hb3⟩
            have T3 := T2.trans (hb3.mono T2.size)
            refine ⟨_, rfl, T3, ?_⟩
            go_simp
            refine hK _ _ ?_
            clear hK K
            repeat (refine ord_float rfl rfl (fun K hK => ⟨_, (fun w' hw => by have q0 := HC.out w' hw; go_simp; exact rfl), ?_⟩); go_simp; refine hK _ ?_; clear hK K)
            refine ord_call rfl rfl (fun K hK => ⟨_, _, (by go_simp <;> first | exact rfl | exact ⟨rfl, rfl⟩), ?_⟩)
            refine (CA.out _ _ _ ((HUW.out.on T3).wide T3.size) hsv.at).mono ?_
            rintro e u4 ⟨nv, rfl, hnv, hb4⟩
            have T4 := T3.trans (hb4.mono T3.size)
            refine ⟨_, rfl, T4, ?_⟩
            go_simp
            refine hK _ _ ?_
            clear hK K
            repeat (refine ord_float rfl rfl (fun K hK => ⟨_, (fun w' hw => by have q0 := HC.out w' hw; go_simp; exact rfl), ?_⟩); go_simp; refine hK _ ?_; clear hK K)
            refine ord_nil ?_
            have HN4 : Hid (ZOwn w.heap.size u4.heap.size u4 nv nx) := hnv.wide (Nat.le_trans (Nat.le_trans s0 s1) T3.size) (Nat.le_refl _)
            have HB4 : Hid (Below w.heap.size w u4) := (HB.out.trans (HV.out.mono s0)).trans (T4.mono (Nat.le_trans s0 s1))
            clear hnv hb4 T4 hsv hb3 T3 T2 T1 hu1 hu2 CA CS CM CI HC HOW HUW HV HB s0 s1
            go_wp2
            go_roundw
            case rel => exact ⟨i + 1, by go_num, hlt, by rw [HNX.out]; exact HN4, HB4⟩
            case measure => simp [intOf]; omega
      · have hlt' : ¬ (i : Int) < (n : Int) := by omega
        obtain rfl : n = i := by omega
        clear hzl hlag
        go_wp2
        go_ret
        exact ⟨_, rfl, by rw [← HE.out]; exact HU.out, HB.out⟩

end Go.Proofs.YthnahalboomkoaaGreat
