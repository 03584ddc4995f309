/-
  Texts of one's own, joined.
-/
import Derived.Test.YtjlijflfepffiaaLsHelp
import Derived.Test.YtjlijflfepffiaaRwHelp2
import Derived.Test.YtjlijflfepffiaaJoined7

/-
  The walk of the helper of the exact laws that copies a list of lists of numbers.
  (-DROP-: what the seat lacks is left out.)
-/
namespace Go.Proofs.Ytjlijflfepffiaa
open Go.RowKit

theorem infoLs : (Try.prog.info? 27).map (fun i => (i.zero, i.size, i.bytes)) = some (some (.slice none 0 0), 1, 24) := by kernel_rfl
/-- So many empty lists. -/
def nil1 (n : Nat) : Array Value := (List.replicate n (Value.slice none 0 0)).toArray
/-- make([][]int, n). -/
theorem make_ls (n : Nat) (h2 : n ≤ 1073741824) (W : World) :
    (Instr.makeSlice 39 (.int .i64 (n : Int)) (.int .i64 (n : Int))).run Try.prog W = .ok (.slice (some ⟨W.heap.size, 0, none⟩) n n) (W.alloc (.cells (nil1 n) 27)) := by
  obtain ⟨i0, hi, hz0, hz1, hz2⟩ := info_parts infoLs
  have hM : madeCells (Value.slice none 0 0).cells ((n : Int).toNat * i0.size) = nil1 n := by
    rw [hz1]
    have h3 := toList_madeCells_one (.slice none 0 0) n
    apply Array.toList_inj.1
    simpa [nil1, Value.cells] using h3
  have h := run_make (P := Try.prog) W 39 27 i0 (.slice none 0 0) Try.underlying39 hi hz0 .i64 .i64 (n : Int) (n : Int) (by omega) (by omega) (by rw [hz2]; omega) (by omega)
  rw [hM] at h
  simpa using h
theorem nown_made1 (w : World) (n : Nat) (hn : n ≤ 1048576) : NOwnV 1 27 w.heap.size (w.heap.size + 1) (w.alloc (.cells (nil1 n) 27)) (.slice (some ⟨w.heap.size, 0, none⟩) n n) n (List.replicate n (.slice none 0 0)) (List.replicate n []) := by
  have hv : ∀ j, j < n * 1 → (List.replicate n (Value.slice none 0 0)).getD j undef = .slice none 0 0 := fun j hj => by simp [show j < n by omega]
  refine ⟨?_, by simp, fun k hk => ?_, fun j hj => ?_, fun i j k h1 h2 h3 h4 => ?_, fun j k h1 h2 => ?_⟩
  · have h := World.ownsRow_lit (base := w.heap.size) (e := 27) (size := 1) w (nil1 n) n (Nat.le_refl _) (by unfold maxLen; omega) (by simp [nil1])
    simpa [nil1] using h
  · have e1 : some w.heap.size = some k := hk
    injection e1 with e1
    omega
  · rw [hv j hj]
    have : (List.replicate n ([] : List Int)).getD j [] = [] := by simp [show j < n by omega]
    rw [this]
    exact zown_nil _ _ _
  · rw [hv i h1] at h4; cases h4
  · rw [hv j h1] at h2; cases h2
theorem take_put (L : List (List Int)) {n k : Nat} (hn : L.length = n) (hk : k < n) : (L.take k ++ List.replicate (n - k) []).set k (L.getD k []) = L.take (k + 1) ++ List.replicate (n - (k + 1)) [] := by
  have hl : (L.take k).length = k := by simp; omega
  rw [List.set_append_right _ _ (by omega), hl, Nat.sub_self, show n - k = n - (k + 1) + 1 by omega, List.replicate_succ, List.set_cons_zero, List.take_succ_eq_append_getElem (by omega), List.append_assoc]
  simp [show k < L.length by omega]

set_option maxHeartbeats 1600000 in
set_option maxRecDepth 100000 in
theorem toLs_any (v : Value) (n : Nat) (L : List (List Int)) (hn : n ≤ 1048576) (hz : ∀ j, (L.getD j []).length ≤ 1048576) (w : World) (h : NAt 1 w w.heap.size v n L) :
    Calls Try.prog 37 #[v] w fun e w' => ∃ u vs, e = .returned u ∧ NOwnV 1 27 w.heap.size w'.heap.size w' u n vs L ∧ Below w.heap.size w w' := by
  obtain ⟨hlen, a, cp, rfl, hA⟩ := h
  have HA : Hid (∀ j, j < n * 1 → ∃ b off u, a = some ⟨b, off, none⟩ ∧ b < w.heap.size ∧ w.cell? ⟨b, off + j, none⟩ = some u ∧ ZAt w w.heap.size u (L.getD j [])) := hA
  have HZ : Hid (∀ j, (L.getD j []).length ≤ 1048576) := hz
  have HLN : Hid (L.length = n) := by show _ = _; omega
  have hmk : ∀ W : World, (Instr.makeSlice 39 (.int .i64 (n : Int)) (.int .i64 (n : Int))).run Try.prog W = .ok (.slice (some ⟨W.heap.size, 0, none⟩) n n) (W.alloc (.cells (nil1 n) 27)) := fun W => make_ls n (by omega) W
  have H0 : Hid (NOwnV 1 27 w.heap.size (w.alloc (.cells (nil1 n) 27)).heap.size (w.alloc (.cells (nil1 n) 27)) (.slice (some ⟨w.heap.size, 0, none⟩) n n) n (List.replicate n (.slice none 0 0)) (L.take 0 ++ List.replicate (n - 0) [])) := by
    have h := nown_made1 w n hn
    rw [List.take_zero, List.nil_append, Nat.sub_zero]
    rw [show (w.alloc (.cells (nil1 n) 27)).heap.size = w.heap.size + 1 by simp]
    exact h
  generalize nil1 n = M at hmk H0
  clear hA hz hlen
  go_enter Try.func37, Try.ntmps37
  go_wp2
  go_loopw [4] (fun i wr => ∃ (k : Nat) (vs : List Value), i = .int .i64 (k : Int) ∧ k ≤ n ∧ Hid (NOwnV 1 27 w.heap.size wr.heap.size wr (.slice (some ⟨w.heap.size, 0, none⟩) n n) n vs (L.take k ++ List.replicate (n - k) [])) ∧ Hid (Below w.heap.size w wr)) (fun i _ => n - (intOf i).toNat)
  case atStart => exact ⟨0, _, rfl, Nat.zero_le _, H0, (Below.refl _ _).alloc (Nat.le_refl _) _⟩
  case round =>
    obtain ⟨k, vs, rfl, hk, HO, HW⟩ := hrel
    clear hmk H0
    by_cases hlt : k < n
    · have hlt' : (k : Int) < (n : Int) := by omega
      have hk0 : (0 : Int) ≤ (k : Int) := by omega
      obtain ⟨b1, o1, v1, rfl, hb1, c1, z1⟩ := HA.out k (by omega)
      have c2 : wr.cell? ⟨b1, o1 + k, none⟩ = some v1 := (HW.out.cell (p := ⟨b1, o1 + k, none⟩) hb1).trans c1
      have CT : Hid (Calls Try.prog 38 #[v1] wr fun e w' => ∃ u, e = .returned u ∧ ZOwn wr.heap.size w'.heap.size w' u (L.getD k []) ∧ Below wr.heap.size wr w') := (toZ_any v1 _ (HZ.out k) wr ((z1.on HW.out).wide HW.out.size)).mono fun e w' ⟨g, h1, h2, h3⟩ => ⟨_, h1, h2, h3⟩
      obtain ⟨v1a, v1c, hv1, _⟩ := z1
      subst hv1
      generalize (L.getD k []).length = l1 at c2 CT
      clear c1 hb1
      go_wp2_with fail
      refine CT.out.mono ?_
      rintro e w1 ⟨u, rfl, hu, hb⟩
      have hO1 := HO.out.same (w' := w1) (Same.of_below hb (Nat.le_refl _))
      have hs1 : wr.heap.size ≤ w1.heap.size := hb.size
      have hcc := hO1.cell (j := k) (by omega)
      have hff : w1.frozen? ⟨w.heap.size, k, none⟩ = false := by
        rcases hO1.row.2 with ⟨_, hz⟩ | ⟨g', c', cur, hve, _, hh, _⟩
        · omega
        · injection hve with e1
          injection e1 with e1
          injection e1 with e1
          subst e1
          exact frozen_of_row w1 _ k _ _ hh
      have hput := hO1.put (j := k) (by omega) hu hs1 HW.out.size
      rw [take_put L HLN.out hlt] at hput
      obtain ⟨ua, uc, hue⟩ := row_form hu.1
      subst hue
      have HW1 : Hid (Below w.heap.size w (w1.setCell ⟨w.heap.size, k, none⟩ (.slice ua (L.getD k []).length uc))) := (HW.out.trans (hb.mono HW.out.size)).setCell (Nat.le_refl _) _
      have HP : Hid (NOwnV 1 27 w.heap.size (w1.setCell ⟨w.heap.size, k, none⟩ (.slice ua (L.getD k []).length uc)).heap.size (w1.setCell ⟨w.heap.size, k, none⟩ (.slice ua (L.getD k []).length uc)) (.slice (some ⟨w.heap.size, 0, none⟩) n n) n (vs.set k (.slice ua (L.getD k []).length uc)) (L.take (k + 1) ++ List.replicate (n - (k + 1)) [])) := by
        rw [show (w1.setCell ⟨w.heap.size, k, none⟩ (.slice ua (L.getD k []).length uc)).heap.size = w1.heap.size by simp [World.setCell]]
        exact hput
      generalize vs.getD k undef = old at hcc
      generalize (L.getD k []).length = l2 at HW1 HP ⊢
      clear hput hO1 hu hb HO HW CT c2
      go_wp2
      go_roundw
      case rel => exact ⟨k + 1, _, by go_num, hlt, HP, HW1⟩
      case measure => simp [intOf]; omega
    · have hlt' : ¬ (k : Int) < (n : Int) := by omega
      obtain rfl : n = k := by omega
      have HO2 : Hid (NOwnV 1 27 w.heap.size wr.heap.size wr (.slice (some ⟨w.heap.size, 0, none⟩) n n) n vs L) := by
        have h1 := HO.out
        rw [← HLN.out, List.take_length, Nat.sub_self, List.replicate_zero, List.append_nil] at h1
        rw [← HLN.out]
        exact h1
      clear HO
      go_wp2
      go_ret
      exact ⟨_, rfl, ⟨vs, HO2.out⟩, HW.out⟩

end Go.Proofs.Ytjlijflfepffiaa

/-
  The walk of the helper of the exact laws that counts what a list of lists of numbers holds.
  (-DROP-: what the seat lacks is left out.)
-/
namespace Go.Proofs.Ytjlijflfepffiaa
open Go.RowKit

set_option maxHeartbeats 1600000 in
set_option maxRecDepth 100000 in
theorem szLs_any (a : Option Addr) (n cap : Nat) (hn : n ≤ 9223372036854775807) (ls : List (List Int)) (hz : ∀ j, (ls.getD j []).length ≤ 9223372036854775807) (w : World) (hA : NAt 1 w w.heap.size (.slice a n cap) n ls) :
    Calls Try.prog 36 #[.slice a n cap, .int .i64 1048576] w fun e w' => e = .returned (.int .i64 (szF 1048576 (n + tot ls))) ∧ Below w.heap.size w w' := by
  have hlen : ls.length = n := by have := hA.1; omega
  obtain ⟨_, a', cp', hv, hA2⟩ := hA
  have haa : a = a' := by injection hv
  subst haa
  have HA : Hid (∀ j, j < n * 1 → ∃ b off u, a = some ⟨b, off, none⟩ ∧ b < w.heap.size ∧ w.cell? ⟨b, off + j, none⟩ = some u ∧ ZAt w w.heap.size u (ls.getD j [])) := hA2
  have HLN : Hid (ls.length = n) := hlen
  clear hA2 hv hlen
  by_cases h1 : 1048576 < n
  · have h1' : (1048576 : Int) - (n : Int) < 0 := by omega
    have HE : Hid (szF 1048576 (n + tot ls) = -1) := by show szF _ _ = _; unfold szF; rw [if_neg (by omega)]
    go_enter Try.func36, Try.ntmps36
    go_wp2
    go_ret
    exact ⟨by rw [HE.out]; rfl, Below.refl _ _⟩
  have h1' : ¬ (1048576 : Int) - (n : Int) < 0 := by omega
  have hLn : ((1048576 - n : Nat) : Int) = 1048576 - (n : Int) := by omega
  have HZ : Hid (∀ j, (ls.getD j []).length ≤ 9223372036854775807) := hz
  clear hz
  go_enter Try.func36, Try.ntmps36
  go_wp2
  go_loopw [1, 5] (fun x i wr => ∃ k L : Nat, x = .int .i64 (L : Int) ∧ i = .int .i64 (k : Int) ∧ k ≤ n ∧ Hid (L + n + tot (ls.take k) = 1048576) ∧ w = wr) (fun _ i _ => n - (intOf i).toNat)
  case atStart => exact ⟨0, 1048576 - n, by rw [hLn], rfl, Nat.zero_le _, (show 1048576 - n + n + 0 = 1048576 by omega), rfl⟩
  case round =>
    obtain ⟨k, L, rfl, rfl, hk, HL, rfl⟩ := hrel
    by_cases hlt : k < n
    · have hlt' : (k : Int) < (n : Int) := by omega
      have hk0 : (0 : Int) ≤ (k : Int) := by omega
      obtain ⟨b, off, u, rfl, hb, z0, zu⟩ := HA.out k (by omega)
      obtain ⟨a0, c0, hu, _⟩ := zu
      subst hu
      have HT : Hid (tot (ls.take (k + 1)) = tot (ls.take k) + (ls.getD k []).length) := tot_take_next ls (by rw [HLN.out]; exact hlt)
      have HTL : Hid (tot (ls.take (k + 1)) ≤ tot ls) := tot_take_le _ _
      have HC : Hid (∀ w, Calls Try.prog 75 #[.slice a0 (ls.getD k []).length c0, .int .i64 (L : Int)] w fun e w' => e = .returned (.int .i64 (szF L (ls.getD k []).length)) ∧ w = w') := fun w => szIntS_any a0 _ c0 L (HZ.out k) (by have := HL.out; omega) w
      generalize (ls.getD k []).length = m0 at HC HT z0
      generalize htk : tot (ls.take (k + 1)) = T1 at HT HTL
      have HTK : Hid (tot (ls.take (k + 1)) = T1) := htk
      clear htk
      generalize tot (ls.take k) = T0 at HT HL
      clear HA hb
      by_cases hs : m0 ≤ L
      · have he : szF L m0 = ((L - m0 : Nat) : Int) := by unfold szF; rw [if_pos hs]; omega
        have hp : ¬ ((L - m0 : Nat) : Int) < 0 := by omega
        rw [he] at HC
        have HL2 : Hid (L - m0 + n + tot (ls.take (k + 1)) = 1048576) := by
          show _ = _
          rw [HTK.out, HT.out]
          have := HL.out
          omega
        clear he hs
        generalize L - m0 = L2 at HC hp HL2
        go_wp2_with fail
        refine (HC.out _).mono ?_
        rintro e w1 ⟨rfl, rfl⟩
        clear z0 HC
        go_wp2
        go_roundw
        case rel => exact ⟨k + 1, L2, rfl, by go_num, hlt, HL2, by trivial⟩
        case measure => simp [intOf]; omega
      · have he : szF L m0 = -1 := by unfold szF; rw [if_neg hs]
        have HE : Hid (szF 1048576 (n + tot ls) = -1) := by
          show szF _ _ = _
          unfold szF
          rw [if_neg (by have := HL.out; have := HT.out; have := HTL.out; omega)]
        rw [he] at HC
        clear he hs
        go_wp2_with fail
        refine (HC.out _).mono ?_
        rintro e w1 ⟨rfl, rfl⟩
        clear z0 HC
        go_wp2
        go_ret
        exact ⟨by rw [HE.out]; rfl, Below.refl _ _⟩
    · have hlt' : ¬ (k : Int) < (n : Int) := by omega
      have hkn : k = n := by omega
      subst hkn
      have HE : Hid (szF 1048576 (k + tot ls) = (L : Int)) := by
        show szF _ _ = _
        have h2 := HL.out
        rw [← HLN.out, List.take_length, HLN.out] at h2
        unfold szF
        rw [if_pos (by omega)]
        omega
      go_wp2
      go_ret
      exact ⟨by rw [HE.out]; rfl, Below.refl _ _⟩

end Go.Proofs.Ytjlijflfepffiaa
