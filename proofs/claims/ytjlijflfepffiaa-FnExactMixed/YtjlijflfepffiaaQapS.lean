/-
  The walks of the specification's rows as one product: what is mixed.
  (-DROP-: what the seat lacks is left out.)
-/
import Derived.Test.YtjlijflfepffiaaJoined4
import Derived.Test.YtjlijflfepffiaaPolySZ
import Derived.Test.YtjlijflfepffiaaPolySD

namespace Go.Proofs.Ytjlijflfepffiaa
open Go.RowKit

set_option maxHeartbeats 3200000 in
set_option maxRecDepth 100000 in
theorem sMix_any (v u : Value) (L : List (List Int)) (m : List Int) (hL : L.length ≤ 1048576) (hz : ∀ j, (L.getD j []).length ≤ 1048576) (_hm : m.length ≤ 1048576) (w : World) (h : NAt 1 w w.heap.size v L.length L) (h2 : ZAt w w.heap.size u m) :
    Calls Try.prog 27 #[v, u] w fun e w' => ∃ x, e = .returned x ∧ ZOwn w.heap.size w'.heap.size w' x (pMix L m) ∧ Below w.heap.size w w' := by
  obtain ⟨hlen, a, cp, rfl, hA⟩ := h
  obtain ⟨b, cq, rfl, hB⟩ := h2
  have HA : Hid (∀ j, j < L.length * 1 → ∃ b off u, a = some ⟨b, off, none⟩ ∧ b < w.heap.size ∧ w.cell? ⟨b, off + j, none⟩ = some u ∧ ZAt w w.heap.size u (L.getD j [])) := hA
  have HB : Hid (IntsAt w b m.length w.heap.size (fun j => m.getD j 0)) := hB
  have HZ : Hid (∀ j, (L.getD j []).length ≤ 1048576) := hz
  have HE : Hid (pMix L m = mixN L m (min L.length m.length)) := rfl
  have HML : Hid (∀ k, (mixN L m k).length ≤ 1048576) := fun k => mixN_len L m 1048576 k fun i _ => hz i
  clear hA hB hlen hz
  generalize L.length = la at *
  generalize m.length = lb at *
  go_enter Try.func27, Try.ntmps27
  go_wp2
  go_loopw [5, 6] (fun o i wr => ∃ (k : Nat), i = .int .i64 (k : Int) ∧ k ≤ la ∧ k ≤ lb ∧ Hid (ZOwn w.heap.size wr.heap.size wr o (mixN L m k)) ∧ Hid (Below w.heap.size w wr)) (fun _ i _ => la - (intOf i).toNat)
  case atStart => exact ⟨0, rfl, Nat.zero_le _, Nat.zero_le _, ZOwn.of (World.ownsRow_lit _ _ _ (Nat.le_refl _) (by simp [maxLen]) (by simp)), (Below.refl _ _).alloc (Nat.le_refl _) _⟩
  case round =>
    obtain ⟨k, rfl, hka, hkb, HU, HW⟩ := hrel
    obtain ⟨xa, xc, hxv⟩ := row_form HU.out.1
    subst hxv
    generalize hzl : (mixN L m k).length = zn at HU
    clear hzl
    by_cases hla : k < la
    · have hla' : (k : Int) < (la : Int) := by omega
      have hk0 : (0 : Int) ≤ (k : Int) := by omega
      by_cases hlb : k < lb
      · have hlb' : (k : Int) < (lb : Int) := by omega
        obtain ⟨b1, o1, v1, rfl, hb1, c1, z1⟩ := HA.out k (by omega)
        obtain ⟨b2, o2, rfl, hb2, c2⟩ := HB.out k hlb
        replace c2 : w.cell? ⟨b2, o2 + k, none⟩ = some (.int .i64 (m.getD k 0)) := c2
        have HC : Hid (∀ wz, Below wr.heap.size wr wz → wz.cell? ⟨b1, o1 + k, none⟩ = some v1 ∧ wz.cell? ⟨b2, o2 + k, none⟩ = some (.int .i64 (m.getD k 0))) := fun wz hwz => by
          have hb := HW.out.trans (hwz.mono HW.out.size)
          exact ⟨(hb.cell (p := ⟨b1, o1 + k, none⟩) hb1).trans c1, (hb.cell (p := ⟨b2, o2 + k, none⟩) hb2).trans c2⟩
        have CS : Hid (∀ W, Below wr.heap.size wr W → Calls Try.prog 65 #[v1, .int .i64 (m.getD k 0)] W fun e w' => ∃ u, e = .returned u ∧ ZOwn W.heap.size w'.heap.size w' u (scl (L.getD k []) (m.getD k 0)) ∧ Below W.heap.size W w') := fun W hW => by
          have hb := HW.out.trans (hW.mono HW.out.size)
          exact sScl_any v1 _ _ (HZ.out k) W ((z1.on hb).wide hb.size)
        have CA : Hid (∀ W (x : Value), Below wr.heap.size wr W → ZAt W W.heap.size x (scl (L.getD k []) (m.getD k 0)) → Calls Try.prog 63 #[.slice xa zn xc, x] W fun e w' => ∃ u, e = .returned u ∧ ZOwn W.heap.size w'.heap.size w' u (mixN L m (k + 1)) ∧ Below W.heap.size W w') := fun W x hW hx => sQAdd_any _ x _ _ (HML.out k) (by rw [scl_len]; exact HZ.out k) W ((HU.out.at.on hW).wide hW.size) hx
        obtain ⟨v1a, v1c, hv1, _⟩ := z1
        subst hv1
        clear c1 c2 hb1 hb2
        generalize scl (L.getD k []) (m.getD k 0) = sc at CS CA
        generalize hnx : mixN L m (k + 1) = nx at CA
        have HNX : Hid (mixN L m (k + 1) = nx) := hnx
        generalize m.getD k 0 = y at HC CS
        generalize (L.getD k []).length = l1 at HC CS
        clear hnx HU
        go_wp2_with fail
        refine wp_region_ord [(0, false), (1, false), (2, false), (3, false), (4, false), (5, false), (6, false), (7, false), (8, false), (9, true), (10, true), (11, false)] (fun wz => Below wr.heap.size wr wz) mixesSc (by kernel_rfl) (Below.refl _ _).drew ?_
        repeat (refine ord_float rfl rfl (fun K hK => ⟨_, (fun w' hw => by have q0 := (HC.out w' hw).1; have q1 :=  (HC.out w' hw).2; go_simp; exact rfl), ?_⟩); go_simp; refine hK _ ?_; clear hK K)
        refine ord_call rfl rfl (fun K hK => ⟨_, _, (by go_simp <;> first | exact rfl | exact ⟨rfl, rfl⟩), ?_⟩)
        refine (CS.out _ (Below.refl _ _).drew).mono ?_
        rintro e u1 ⟨sv, rfl, hsv, hu1⟩
        have T1 := (Below.refl wr.heap.size wr).drew.trans hu1
        refine ⟨_, rfl, T1, ?_⟩
        go_simp
        refine hK _ _ ?_
        clear hK K
        repeat (refine ord_float rfl rfl (fun K hK => ⟨_, (fun w' hw => by have q0 := (HC.out w' hw).1; go_simp; exact rfl), ?_⟩); go_simp; refine hK _ ?_; clear hK K)
        refine ord_call rfl rfl (fun K hK => ⟨_, _, (by go_simp <;> first | exact rfl | exact ⟨rfl, rfl⟩), ?_⟩)
        refine (CA.out _ _ T1 hsv.at).mono ?_
        rintro e u2 ⟨nv, rfl, hnv, hu2⟩
        have T2 := T1.trans (hu2.mono T1.size)
        refine ⟨_, rfl, T2, ?_⟩
        go_simp
        refine hK _ _ ?_
        clear hK K
        repeat (refine ord_float rfl rfl (fun K hK => ⟨_, (fun w' hw => by have q0 := (HC.out w' hw).1; go_simp; exact rfl), ?_⟩); go_simp; refine hK _ ?_; clear hK K)
        refine ord_nil ?_
        have HN2 : Hid (ZOwn w.heap.size u2.heap.size u2 nv nx) := hnv.wide (Nat.le_trans HW.out.size T1.size) (Nat.le_refl _)
        have HW2 : Hid (Below w.heap.size w u2) := HW.out.trans (T2.mono HW.out.size)
        clear hnv hsv hu1 hu2 T1 T2 HC CS CA
        go_wp2
        go_roundw
        case rel => exact ⟨k + 1, by go_num, hla, hlb, by rw [HNX.out]; exact HN2, HW2⟩
        case measure => simp [intOf]; omega
      · have hlb' : ¬ (k : Int) < (lb : Int) := by omega
        have HF : Hid (mixN L m k = pMix L m) := by show _ = _; rw [HE.out, show min la lb = k by omega]
        go_wp2
        go_ret
        exact ⟨_, rfl, by rw [← HF.out]; exact HU.out, HW.out⟩
    · have hla' : ¬ (k : Int) < (la : Int) := by omega
      have HF : Hid (mixN L m k = pMix L m) := by show _ = _; rw [HE.out, show min la lb = k by omega]
      go_wp2
      go_ret
      exact ⟨_, rfl, by rw [← HF.out]; exact HU.out, HW.out⟩

end Go.Proofs.Ytjlijflfepffiaa
