/-
  The walks of the helpers of the exact laws on lists of lists of numbers: the same, marks, whether they are held.
  (-DROP-: what the seat lacks is left out.)
-/
import Derived.Test.YtjlijflfepffiaaJoined15
import Derived.Test.YtjlijflfepffiaaJoined13
import Derived.Test.YtjlijflfepffiaaJoined10

namespace Go.Proofs.Ytjlijflfepffiaa
open Go.RowKit

/-- One list of them is marked. -/
theorem mark_one1 {e lo hi n g cp k m j : Nat} {w : World} {vs : List Value} {ls : List (List Int)} (h : NOwnV 1 e lo hi w (.slice (some ⟨g, 0, none⟩) n cp) n vs (mkzz k (ls.take j) ++ ls.drop j)) (hl : ls.length = n) (hj : j < n) (hm : m = k + tot (ls.take j)) (hkb : k + tot ls ≤ 1099511627776) (hz : ∀ j, (ls.getD j []).length ≤ 1048576) :
    Calls Try.prog 42 #[vs.getD j undef, .int .i64 (m : Int)] w fun e' w' => e' = .returned (.int .i64 ((k + tot (ls.take (j + 1)) : Nat) : Int)) ∧ NOwnV 1 e lo hi w' (.slice (some ⟨g, 0, none⟩) n cp) n vs (mkzz k (ls.take (j + 1)) ++ ls.drop (j + 1)) ∧ Kps (fun b => ∃ i, i < n ∧ (vs.getD i undef).ownBlock = some b) w w' := by
  have h1 := h.each j (by omega)
  rw [mark_cur ls k (by omega)] at h1
  have hb := tot_take_le ls j
  refine (markZ_any _ (ls.getD j []) m lo (by omega) (hz j) w h1.1).mono ?_
  rintro e' w' ⟨rfl, hR, hK⟩
  refine ⟨by rw [tot_take_next ls (by omega), hm, Nat.add_assoc], ?_, hK.more fun b hb => ⟨j, hj, hb⟩⟩
  have h2 := h.turn (by omega) hR hK
  rw [hm, mkzz_step ls k (by omega)] at h2
  exact h2
/-- One list of them holds its marks. -/
theorem held_one1 {e lo hi n g cp k m j : Nat} {w : World} {vs : List Value} {ls : List (List Int)} (h : NOwnV 1 e lo hi w (.slice (some ⟨g, 0, none⟩) n cp) n vs (mkzz k ls)) (hl : ls.length = n) (hj : j < n) (hm : m = k + tot (ls.take j)) (hkb : k + tot ls ≤ 1099511627776) (hz : ∀ j, (ls.getD j []).length ≤ 1048576) :
    Calls Try.prog 43 #[vs.getD j undef, .int .i64 (m : Int)] w fun e' w' => e' = .returned (.int .i64 ((k + tot (ls.take (j + 1)) : Nat) : Int)) ∧ w = w' := by
  have h1 := h.each j (by omega)
  rw [mkzz_at ls k (by omega), ← hm] at h1
  have hb := tot_take_le ls j
  refine (heldZ_any _ (ls.getD j []).length m lo (by omega) (hz j) w h1.1).mono ?_
  rintro e' w' ⟨rfl, rfl⟩
  exact ⟨by rw [tot_take_next ls (by omega), hm, Nat.add_assoc], rfl⟩

set_option maxHeartbeats 1600000 in
set_option maxRecDepth 100000 in
theorem markLs_any (e : Nat) (v : Value) (n : Nat) (vs : List Value) (ls : List (List Int)) (k lo hi : Nat) (hkb : k + tot ls ≤ 1099511627776) (hz : ∀ j, (ls.getD j []).length ≤ 1048576) (hn : n ≤ 1048576) (w : World) (h : NOwnV 1 e lo hi w v n vs ls) :
    Calls Try.prog 41 #[v, .int .i64 (k : Int)] w fun e' w' => e' = .returned (.int .i64 ((k + tot ls : Nat) : Int)) ∧ NOwnV 1 e lo hi w' v n vs (mkzz k ls) ∧ Kps (fun b => ∃ i, i < n ∧ (vs.getD i undef).ownBlock = some b) w w' := by
  obtain ⟨ra, rc, hv⟩ := row_form h.row
  subst hv
  have hlen : ls.length = n := by have := h.len; omega
  have HLN : Hid (ls.length = n) := hlen
  have HZ : Hid (∀ j, (ls.getD j []).length ≤ 1048576) := hz
  have HKB : Hid (k + tot ls ≤ 1099511627776) := hkb
  have h' : Hid (NOwnV 1 e lo hi w (.slice ra n rc) n vs (mkzz k (ls.take 0) ++ ls.drop 0)) := by
    show NOwnV _ _ _ _ _ _ _ _ _
    simpa [mkzz] using h
  clear h hz hkb hlen
  go_enter Try.func41, Try.ntmps41
  go_wp2
  go_loopw [1, 5] (fun x i wr => ∃ (m j : Nat), x = .int .i64 (m : Int) ∧ i = .int .i64 (j : Int) ∧ Hid (m = k + tot (ls.take j)) ∧ j ≤ n ∧ Hid (NOwnV 1 e lo hi wr (.slice ra n rc) n vs (mkzz k (ls.take j) ++ ls.drop j)) ∧ Hid (Kps (fun b => ∃ i, i < n ∧ (vs.getD i undef).ownBlock = some b) w wr)) (fun _ i _ => n - (RowKit.intOf i).toNat)
  case atStart => exact ⟨k, 0, rfl, rfl, (show k = k + tot (ls.take 0) by simp [tot]), Nat.zero_le _, h', Kps.refl _ _⟩
  case round =>
    obtain ⟨m, j, rfl, rfl, hm, hj, HO, HK⟩ := hrel
    clear h'
    by_cases hlt : j < n
    · rcases HO.out.row.2 with ⟨_, hz0⟩ | ⟨g, cap, cur, hveq, hg, _⟩
      · omega
      · have hra : ra = some ⟨g, 0, none⟩ := by injection hveq
        subst hra
        have hk0 : (0 : Int) ≤ (j : Int) := by omega
        have hk1 : (j : Int) < (n : Int) := by omega
        clear hveq
        have c0 := HO.out.cell (j := j) (by omega)
        have HC0 : Hid (Calls Try.prog 42 #[vs.getD j undef, .int .i64 (m : Int)] wr fun e' w' => e' = .returned (.int .i64 ((k + tot (ls.take (j + 1)) : Nat) : Int)) ∧ NOwnV 1 e lo hi w' (.slice (some ⟨g, 0, none⟩) n rc) n vs (mkzz k (ls.take (j + 1)) ++ ls.drop (j + 1)) ∧ Kps (fun b => ∃ i, i < n ∧ (vs.getD i undef).ownBlock = some b) wr w') := mark_one1 HO.out HLN.out hlt hm.out HKB.out HZ.out
        generalize vs.getD j undef = u0 at c0 HC0
        obtain ⟨m3, hm3⟩ : ∃ m3, m3 = k + tot (ls.take (j + 1)) := ⟨_, rfl⟩
        have HM3 : Hid (m3 = k + tot (ls.take (j + 1))) := hm3
        rw [← hm3] at HC0
        clear hm3 HO
        go_wp2_with fail
        refine HC0.out.mono ?_
        rintro e' w1 ⟨rfl, hO1, hK1⟩
        have HO1 : Hid (NOwnV 1 e lo hi w1 (.slice (some ⟨g, 0, none⟩) n rc) n vs (mkzz k (ls.take (j + 1)) ++ ls.drop (j + 1))) := hO1
        have HK1 : Hid (Kps (fun b => ∃ i, i < n ∧ (vs.getD i undef).ownBlock = some b) w w1) := HK.out.trans hK1
        clear hO1 hK1 HC0 c0 HK
        go_wp2
        go_roundw
        case rel => exact ⟨m3, j + 1, rfl, by go_num, HM3, hlt, HO1, HK1⟩
        case measure => simp [RowKit.intOf]; omega
    · have hje : j = n := by omega
      subst hje
      have HO2 : Hid (NOwnV 1 e lo hi wr (.slice ra j rc) j vs (mkzz k ls)) := by
        have h1 := HO.out
        rw [← HLN.out, List.take_length, List.drop_length, List.append_nil] at h1
        rw [← HLN.out]
        exact h1
      have HM : Hid (k + tot ls = m) := by
        have h1 := hm.out
        rw [← HLN.out, List.take_length] at h1
        exact h1.symm
      clear HO
      go_wp2
      go_ret
      exact ⟨by rw [HM.out]; rfl, HO2.out, HK.out⟩

set_option maxHeartbeats 1600000 in
set_option maxRecDepth 100000 in
theorem heldLs_any (e : Nat) (v : Value) (n : Nat) (vs : List Value) (ls : List (List Int)) (k lo hi : Nat) (hlen : ls.length = n) (hkb : k + tot ls ≤ 1099511627776) (hz : ∀ j, (ls.getD j []).length ≤ 1048576) (hn : n ≤ 1048576) (w : World) (h : NOwnV 1 e lo hi w v n vs (mkzz k ls)) :
    Calls Try.prog 74 #[v, .int .i64 (k : Int)] w fun e' w' => e' = .returned (.int .i64 ((k + tot ls : Nat) : Int)) ∧ w = w' := by
  obtain ⟨ra, rc, hv⟩ := row_form h.row
  subst hv
  have HLN : Hid (ls.length = n) := hlen
  have HZ : Hid (∀ j, (ls.getD j []).length ≤ 1048576) := hz
  have HKB : Hid (k + tot ls ≤ 1099511627776) := hkb
  have HO : Hid (NOwnV 1 e lo hi w (.slice ra n rc) n vs (mkzz k ls)) := h
  clear h hz hkb hlen
  go_enter Try.func74, Try.ntmps74
  go_wp2
  go_loopw [1, 5] (fun x i wr => ∃ (m j : Nat), x = .int .i64 (m : Int) ∧ i = .int .i64 (j : Int) ∧ Hid (m = k + tot (ls.take j)) ∧ j ≤ n ∧ w = wr) (fun _ i _ => n - (RowKit.intOf i).toNat)
  case atStart => exact ⟨k, 0, rfl, rfl, (show k = k + tot (ls.take 0) by simp [tot]), Nat.zero_le _, rfl⟩
  case round =>
    obtain ⟨m, j, rfl, rfl, hm, hj, rfl⟩ := hrel
    by_cases hlt : j < n
    · rcases HO.out.row.2 with ⟨_, hz0⟩ | ⟨g, cap, cur, hveq, hg, _⟩
      · omega
      · have hra : ra = some ⟨g, 0, none⟩ := by injection hveq
        subst hra
        have hk0 : (0 : Int) ≤ (j : Int) := by omega
        have hk1 : (j : Int) < (n : Int) := by omega
        clear hveq
        have c0 := HO.out.cell (j := j) (by omega)
        have HC0 : Hid (Calls Try.prog 43 #[vs.getD j undef, .int .i64 (m : Int)] w fun e' w' => e' = .returned (.int .i64 ((k + tot (ls.take (j + 1)) : Nat) : Int)) ∧ w = w') := held_one1 HO.out HLN.out hlt hm.out HKB.out HZ.out
        generalize vs.getD j undef = u0 at c0 HC0
        obtain ⟨m3, hm3⟩ : ∃ m3, m3 = k + tot (ls.take (j + 1)) := ⟨_, rfl⟩
        have HM3 : Hid (m3 = k + tot (ls.take (j + 1))) := hm3
        rw [← hm3] at HC0
        clear hm3
        go_wp2_with fail
        refine HC0.out.mono ?_
        rintro e' w1 ⟨rfl, rfl⟩
        have g3 : ¬ (m3 : Int) < 0 := by omega
        go_wp2
        go_roundw
        case rel => exact ⟨m3, j + 1, rfl, by go_num, HM3, hlt, by trivial⟩
        case measure => simp [RowKit.intOf]; omega
    · have hje : j = n := by omega
      subst hje
      have HM : Hid (k + tot ls = m) := by
        have h1 := hm.out
        rw [← HLN.out, List.take_length] at h1
        exact h1.symm
      go_wp2
      go_ret
      exact ⟨by rw [HM.out]; rfl, by trivial⟩

set_option maxHeartbeats 1600000 in
set_option maxRecDepth 100000 in
theorem eqLs_any (v u : Value) (n : Nat) (L : List (List Int)) (hn : n ≤ 1048576) (hz : ∀ j, (L.getD j []).length ≤ 1048576) (w : World) (h : NAt 1 w w.heap.size v n L) (h2 : NAt 1 w w.heap.size u n L) :
    Calls Try.prog 40 #[v, u] w fun e w' => e = .returned (.bool true) ∧ Below w.heap.size w w' := by
  obtain ⟨_, a, cp, rfl, hA⟩ := h
  obtain ⟨_, b, cq, rfl, hB⟩ := h2
  have HA : Hid (∀ j, j < n * 1 → ∃ b off u, a = some ⟨b, off, none⟩ ∧ b < w.heap.size ∧ w.cell? ⟨b, off + j, none⟩ = some u ∧ ZAt w w.heap.size u (L.getD j [])) := hA
  have HB : Hid (∀ j, j < n * 1 → ∃ b' off u, b = some ⟨b', off, none⟩ ∧ b' < w.heap.size ∧ w.cell? ⟨b', off + j, none⟩ = some u ∧ ZAt w w.heap.size u (L.getD j [])) := hB
  have HZ : Hid (∀ j, (L.getD j []).length ≤ 1048576) := hz
  clear hA hB hz
  go_enter Try.func40, Try.ntmps40
  go_wp2
  go_loopw [5] (fun i wr => ∃ k : Nat, i = .int .i64 (k : Int) ∧ k ≤ n ∧ Hid (Below w.heap.size w wr)) (fun i _ => n - (intOf i).toNat)
  case atStart => exact ⟨0, rfl, Nat.zero_le _, Below.refl _ _⟩
  case round =>
    obtain ⟨k, rfl, hk, HW⟩ := hrel
    by_cases hlt : k < n
    · have hlt' : (k : Int) < (n : Int) := by omega
      have hk0 : (0 : Int) ≤ (k : Int) := by omega
      obtain ⟨b1, o1, v1, rfl, hb1, c1, z1⟩ := HA.out k (by omega)
      obtain ⟨b2, o2, v2, rfl, hb2, c2, z2⟩ := HB.out k (by omega)
      have HC : Hid (∀ wz, Below wr.heap.size wr wz → wz.cell? ⟨b1, o1 + k, none⟩ = some v1 ∧ wz.cell? ⟨b2, o2 + k, none⟩ = some v2) := fun wz hwz => by
        have hb := HW.out.trans (hwz.mono HW.out.size)
        exact ⟨(hb.cell (p := ⟨b1, o1 + k, none⟩) hb1).trans c1, (hb.cell (p := ⟨b2, o2 + k, none⟩) hb2).trans c2⟩
      have CE : Hid (∀ W, Below wr.heap.size wr W → Calls Try.prog 39 #[v1, v2] W fun e w' => e = .returned (.bool true) ∧ Below W.heap.size W w') := fun W hW => by
        have hb := HW.out.trans (hW.mono HW.out.size)
        exact eqZ_any v1 v2 _ (HZ.out k) W ((z1.on hb).wide hb.size) ((z2.on hb).wide hb.size)
      obtain ⟨v1a, v1c, hv1, _⟩ := z1
      subst hv1
      obtain ⟨v2a, v2c, hv2, _⟩ := z2
      subst hv2
      clear c1 c2 hb1 hb2
      generalize (L.getD k []).length = l1 at HC CE
      go_wp2_with fail
      refine wp_region_ord [(0, false), (1, false), (2, false), (3, false), (4, false), (5, false), (6, false), (7, false), (8, true), (9, false)] (fun wz => Below wr.heap.size wr wz) mixesSc (by kernel_rfl) (Below.refl _ _).drew ?_
      repeat (refine ord_float rfl rfl (fun K hK => ⟨_, (fun w' hw => by have q0 := (HC.out w' hw).1; have q1 :=  (HC.out w' hw).2; go_simp; exact rfl), ?_⟩); go_simp; refine hK _ ?_; clear hK K)
      refine ord_call rfl rfl (fun K hK => ⟨_, _, (by go_simp <;> first | exact rfl | exact ⟨rfl, rfl⟩), ?_⟩)
      refine (CE.out _ (Below.refl _ _).drew).mono ?_
      rintro e u1 ⟨rfl, hu1⟩
      have T1 := (Below.refl wr.heap.size wr).drew.trans hu1
      refine ⟨_, rfl, T1, ?_⟩
      go_simp
      refine hK _ _ ?_
      clear hK K
      repeat (refine ord_float rfl rfl (fun K hK => ⟨_, (fun w' hw => by have q0 := (HC.out w' hw).1; go_simp; exact rfl), ?_⟩); go_simp; refine hK _ ?_; clear hK K)
      refine ord_nil ?_
      have HW2 : Hid (Below w.heap.size w u1) := HW.out.trans (T1.mono HW.out.size)
      clear hu1 T1 HC CE
      go_wp2
      go_roundw
      case rel => exact ⟨k + 1, by go_num, hlt, HW2⟩
      case measure => simp [intOf]; omega
    · have hlt' : ¬ (k : Int) < (n : Int) := by omega
      go_wp2
      go_ret
      exact ⟨rfl, HW.out⟩

end Go.Proofs.Ytjlijflfepffiaa
