/-
  Texts of one's own, joined.
-/
import Derived.Test.YtjlijflfepffiaaQapI3
import Derived.Test.YtjlijflfepffiaaJoined5
import Derived.Test.YtjlijflfepffiaaJoined9

/-
  A polynomial of each wire, in one form.
  (-DROP-: what the seat lacks is left out.)
-/
namespace Go.Proofs.Ytjlijflfepffiaa
open Go.RowKit

theorem Blk.c30 {w : World} {g t : Nat} {a b c : Value} (h : Blk w g t #[a, b, c]) : w.cell? ⟨g, 0, none⟩ = some a := h.cell 0
theorem Blk.c31 {w : World} {g t : Nat} {a b c : Value} (h : Blk w g t #[a, b, c]) : w.cell? ⟨g, 1, none⟩ = some b := h.cell 1
theorem Blk.c32 {w : World} {g t : Nat} {a b c : Value} (h : Blk w g t #[a, b, c]) : w.cell? ⟨g, 2, none⟩ = some c := h.cell 2
/-- How many there are of each. -/
def qapC (wi pu : Int) (n : Nat) (ls : List (List Int)) : Nat := if sysOk wi pu n ls then wi.toNat else 0
theorem qapC_le (wi pu : Int) (n : Nat) (ls : List (List Int)) : qapC wi pu n ls ≤ 20 := by
  unfold qapC
  split
  · next h =>
    unfold sysOk at h
    simp only [Bool.and_eq_true, decide_eq_true_eq] at h
    omega
  · exact Nat.zero_le _
theorem qap_end {w : World} {wi pu : Int} {n : Nat} {ls : List (List Int)} {e : Ending} {w' : World} (h : QapEnd w wi pu n ls e w') : ∃ vuR vvR vxR usR vsR xsR, e = .returned (.tuple #[.agg #[vuR, vvR, vxR], .bool (sysOk wi pu n ls)]) ∧ Tri 27 w.heap.size w'.heap.size w' vuR (qapC wi pu n ls) usR (qapN ls n 0 (qapC wi pu n ls)) vvR (qapC wi pu n ls) vsR (qapN ls n 1 (qapC wi pu n ls)) vxR (qapC wi pu n ls) xsR (qapN ls n 2 (qapC wi pu n ls)) ∧ Below w.heap.size w w' := by
  rcases h with ⟨h0, rfl, hb⟩ | ⟨h1, U, V, X, us, vs, xs, rfl, hT, hb⟩
  · have e0 : qapC wi pu n ls = 0 := by unfold qapC; rw [h0]; rfl
    rw [e0, h0]
    exact ⟨_, _, _, [], [], [], rfl, ⟨nown_nil _ _ _ _ _, nown_nil _ _ _ _ _, nown_nil _ _ _ _ _, fun k h => by rcases h with h | ⟨i, hi, _⟩; cases h; omega, fun k h => by rcases h with h | ⟨i, hi, _⟩; cases h; omega, fun k h => by rcases h with h | ⟨i, hi, _⟩; cases h; omega⟩, hb⟩
  · have e1 : qapC wi pu n ls = wi.toNat := by unfold qapC; rw [h1]; rfl
    rw [e1, h1]
    exact ⟨U, V, X, us, vs, xs, rfl, hT, hb⟩
theorem qapN_small (ls : List (List Int)) (n t k j : Nat) : ((qapN ls n t k).getD j []).length ≤ 1048576 := by
  by_cases hj : j < k
  · rw [qapN_at ls n t k j hj]
    exact pThr_len _
  · rw [List.getD_eq_getElem?_getD, List.getElem?_eq_none (by rw [qapN_len]; omega)]
    exact Nat.zero_le _
theorem tot_le : ∀ (L : List (List Int)) (b : Nat), (∀ l, l ∈ L → l.length ≤ b) → tot L ≤ L.length * b
  | [], b, _ => by show 0 ≤ _; omega
  | l :: t, b, h => by
    have h1 := h l List.mem_cons_self
    have h2 := tot_le t b fun x hx => h x (List.mem_cons_of_mem _ hx)
    show l.length + tot t ≤ (t.length + 1) * b
    rw [Nat.add_mul]
    omega
theorem qapN_tot (ls : List (List Int)) (n t k : Nat) (hk : k ≤ 20) : tot (qapN ls n t k) ≤ 20971520 := by
  have h := tot_le (qapN ls n t k) 1048576 fun l hl => by
    obtain ⟨j, hj, rfl⟩ := List.getElem_of_mem hl
    have := qapN_small ls n t k j
    rwa [List.getD_eq_getElem?_getD, List.getElem?_eq_getElem hj] at this
  rw [qapN_len] at h
  omega
theorem iQapV (wi pu : Int) (hwf : (Lit.int .i64 wi).wf = true) (a : Option Addr) (n c : Nat) (hn : n ≤ 9223372036854775807) (ls : List (List Int)) (hz : ∀ j, (ls.getD j []).length ≤ 9223372036854775807) (w : World) (hA : NAt 3 w w.heap.size (.slice a n c) n ls) :
    Calls Try.prog 18 #[sysV wi pu (.slice a n c)] w fun e w' => ∃ vuR vvR vxR usR vsR xsR, e = .returned (.tuple #[.agg #[vuR, vvR, vxR], .bool (sysOk wi pu n ls)]) ∧ Tri 27 w.heap.size w'.heap.size w' vuR (qapC wi pu n ls) usR (qapN ls n 0 (qapC wi pu n ls)) vvR (qapC wi pu n ls) vsR (qapN ls n 1 (qapC wi pu n ls)) vxR (qapC wi pu n ls) xsR (qapN ls n 2 (qapC wi pu n ls)) ∧ Below w.heap.size w w' :=
  (iQapOf_any wi pu hwf a n c hn ls hz w hA).mono fun _ _ h => qap_end h
theorem sQapV (wi pu : Int) (hwf : (Lit.int .i64 wi).wf = true) (a : Option Addr) (n c : Nat) (hn : n ≤ 9223372036854775807) (ls : List (List Int)) (hz : ∀ j, (ls.getD j []).length ≤ 9223372036854775807) (w : World) (hA : NAt 3 w w.heap.size (.slice a n c) n ls) :
    Calls Try.prog 19 #[sysV wi pu (.slice a n c)] w fun e w' => ∃ vuR vvR vxR usR vsR xsR, e = .returned (.tuple #[.agg #[vuR, vvR, vxR], .bool (sysOk wi pu n ls)]) ∧ Tri 27 w.heap.size w'.heap.size w' vuR (qapC wi pu n ls) usR (qapN ls n 0 (qapC wi pu n ls)) vvR (qapC wi pu n ls) vsR (qapN ls n 1 (qapC wi pu n ls)) vxR (qapC wi pu n ls) xsR (qapN ls n 2 (qapC wi pu n ls)) ∧ Below w.heap.size w w' :=
  (sQapOf_any wi pu hwf a n c hn ls hz w hA).mono fun _ _ h => qap_end h


end Go.Proofs.Ytjlijflfepffiaa

/-
  The walks of the helpers of the exact laws on rows and systems: marks, and whether they are held.
  (-DROP-: what the seat lacks is left out.)
-/
namespace Go.Proofs.Ytjlijflfepffiaa
open Go.RowKit

theorem mark_cur (ls : List (List Int)) (k : Nat) {j : Nat} (h : j < ls.length) : (mkzz k (ls.take j) ++ ls.drop j).getD j [] = ls.getD j [] := by
  have hl : (mkzz k (ls.take j)).length = j := by rw [mkzz_length, List.length_take]; omega
  rw [getD_app_right _ _ _ _ (by omega), hl, Nat.sub_self]
  simp [h]

/-- One list of them is marked. -/
theorem mark_one {e lo hi n g cp k m j : Nat} {w : World} {vs : List Value} {ls : List (List Int)} (h : NOwnV 3 e lo hi w (.slice (some ⟨g, 0, none⟩) n cp) n vs (mkzz k (ls.take j) ++ ls.drop j)) (hl : ls.length = n * 3) (hj : j < n * 3) (hm : m = k + tot (ls.take j)) (hkb : k + tot ls ≤ 1099511627776) (hz : ∀ j, (ls.getD j []).length ≤ 1048576) (_hw : hi ≤ w.heap.size) :
    Calls Try.prog 42 #[vs.getD j undef, .int .i64 (m : Int)] w fun e' w' => e' = .returned (.int .i64 ((k + tot (ls.take (j + 1)) : Nat) : Int)) ∧ NOwnV 3 e lo hi w' (.slice (some ⟨g, 0, none⟩) n cp) n vs (mkzz k (ls.take (j + 1)) ++ ls.drop (j + 1)) ∧ Kps (fun b => lo ≤ b ∧ b < hi) w w' := by
  have h1 := h.each j hj
  rw [mark_cur ls k (by omega)] at h1
  have hb := tot_take_le ls j
  refine (markZ_any _ (ls.getD j []) m lo (by omega) (hz j) w h1.1).mono ?_
  rintro e' w' ⟨rfl, hR, hK⟩
  refine ⟨by rw [tot_take_next ls (by omega), hm, Nat.add_assoc], ?_, hK.more fun b hb => h1.in b hb⟩
  have h2 := h.turn hj hR hK
  rw [hm, mkzz_step ls k (by omega)] at h2
  exact h2

set_option maxHeartbeats 1600000 in
set_option maxRecDepth 100000 in
theorem markRowS_any (v : Value) (n : Nat) (vs : List Value) (ls : List (List Int)) (k lo hi : Nat) (hkb : k + tot ls ≤ 1099511627776) (hz : ∀ j, (ls.getD j []).length ≤ 1048576) (hn : n ≤ 1048576) (w : World) (h : NOwnV 3 35 lo hi w v n vs ls) (hw : hi ≤ w.heap.size) :
    Calls Try.prog 73 #[v, .int .i64 (k : Int)] w fun e w' => e = .returned (.int .i64 ((k + tot ls : Nat) : Int)) ∧ NOwnV 3 35 lo hi w' v n vs (mkzz k ls) ∧ Kps (fun b => lo ≤ b ∧ b < hi) w w' := by
  obtain ⟨ra, rc, hv⟩ := row_form h.row
  subst hv
  have hlen := h.len
  have HZ : Hid (∀ j, (ls.getD j []).length ≤ 1048576) := hz
  have HN : Hid (hi ≤ w.heap.size) := hw
  have HKB : Hid (k + tot ls ≤ 1099511627776) := hkb
  have h' : Hid (NOwnV 3 35 lo hi w (.slice ra n rc) n vs (mkzz k (ls.take (0 * 3)) ++ ls.drop (0 * 3))) := by
    show NOwnV _ _ _ _ _ _ _ _ _
    simpa [mkzz] using h
  clear h hz hw hkb
  go_enter Try.func73, Try.ntmps73
  go_wp2
  go_loopw [1, 5] (fun x i wr => ∃ (m j : Nat), x = .int .i64 (m : Int) ∧ i = .int .i64 (j : Int) ∧ Hid (m = k + tot (ls.take (j * 3))) ∧ j ≤ n ∧ Hid (NOwnV 3 35 lo hi wr (.slice ra n rc) n vs (mkzz k (ls.take (j * 3)) ++ ls.drop (j * 3))) ∧ Hid (Kps (fun b => lo ≤ b ∧ b < hi) w wr)) (fun _ i _ => n - (RowKit.intOf i).toNat)
  case atStart => exact ⟨k, 0, rfl, rfl, (show k = k + tot (ls.take (0 * 3)) by simp [tot]), Nat.zero_le _, h', Kps.refl _ _⟩
  case round =>
    obtain ⟨m, j, rfl, rfl, hm, hj, HO, HK⟩ := hrel
    clear h'
    by_cases hlt : j < n
    · rcases HO.out.row.2 with ⟨_, hz0⟩ | ⟨g, cap, cur, hveq, hg, _⟩
      · omega
      · have hra : ra = some ⟨g, 0, none⟩ := by injection hveq
        subst hra
        have hk0 : (0 : Int) ≤ (j : Int) := by omega
        have hk1 : (j : Int) < (n : Int) := by omega
        have hsz : Hid (hi ≤ wr.heap.size) := Nat.le_trans HN.out HK.out.size
        clear hveq
        have c0 := HO.out.cell (j := j * 3) (by omega)
        have HC0 := mark_one HO.out hlen (by omega) hm.out HKB.out HZ.out hsz.out
        generalize vs.getD (j * 3) undef = u0 at c0 HC0
        go_wp2_with fail
        refine HC0.mono ?_
        rintro e w1 ⟨rfl, hO1, hK1⟩
        have c1 := hO1.cell (j := j * 3 + 1) (by omega)
        have hs1 := hK1.size
        have HC1 := mark_one (m := k + tot (ls.take (j * 3 + 1))) hO1 hlen (by omega) rfl HKB.out HZ.out (Nat.le_trans hsz.out hs1)
        have HK1 : Hid (Kps (fun b => lo ≤ b ∧ b < hi) w w1) := HK.out.trans hK1
        generalize vs.getD (j * 3 + 1) undef = u1 at c1 HC1
        generalize k + tot (ls.take (j * 3 + 1)) = m1 at HC1
        clear HC0 c0 hK1 HK HO hO1
        go_wp2_with fail
        refine HC1.mono ?_
        rintro e w2 ⟨rfl, hO2, hK2⟩
        have c2 := hO2.cell (j := j * 3 + 1 + 1) (by omega)
        have hs2 := hK2.size
        have HC2 := mark_one (m := k + tot (ls.take (j * 3 + 1 + 1))) hO2 hlen (by omega) rfl HKB.out HZ.out (Nat.le_trans hsz.out (Nat.le_trans hs1 hs2))
        have HK2 : Hid (Kps (fun b => lo ≤ b ∧ b < hi) w w2) := HK1.out.trans hK2
        generalize vs.getD (j * 3 + 1 + 1) undef = u2 at c2 HC2
        generalize k + tot (ls.take (j * 3 + 1 + 1)) = m2 at HC2
        clear HC1 c1 hK2 HK1 hO2
        go_wp2_with fail
        refine HC2.mono ?_
        rintro e w3 ⟨rfl, hO3, hK3⟩
        have HK3 : Hid (Kps (fun b => lo ≤ b ∧ b < hi) w w3) := HK2.out.trans hK3
        have HO3 : Hid (NOwnV 3 35 lo hi w3 (.slice (some ⟨g, 0, none⟩) n rc) n vs (mkzz k (ls.take ((j + 1) * 3)) ++ ls.drop ((j + 1) * 3))) := by
          have e3 : (j + 1) * 3 = j * 3 + 1 + 1 + 1 := by omega
          rw [e3]
          exact hO3
        obtain ⟨m3, hm3⟩ : ∃ m3, m3 = k + tot (ls.take (j * 3 + 1 + 1 + 1)) := ⟨_, rfl⟩
        rw [← hm3]
        have HM3 : Hid (m3 = k + tot (ls.take ((j + 1) * 3))) := by
          have e3 : (j + 1) * 3 = j * 3 + 1 + 1 + 1 := by omega
          rw [e3]
          exact hm3
        clear HC2 c2 hK3 HK2 hO3 hm3
        go_wp2
        go_roundw
        case rel => exact ⟨m3, j + 1, rfl, by go_num, HM3, hlt, HO3, HK3⟩
        case measure => simp [RowKit.intOf]; omega
    · have hje : j = n := by omega
      subst hje
      have HO2 : Hid (NOwnV 3 35 lo hi wr (.slice ra j rc) j vs (mkzz k ls)) := by
        have h1 := HO.out
        rw [← hlen, List.take_length, List.drop_length, List.append_nil] at h1
        exact h1
      have HM : Hid (k + tot ls = m) := by
        have h1 := hm.out
        rw [← hlen, List.take_length] at h1
        exact h1.symm
      clear HO
      go_wp2
      go_ret
      exact ⟨by rw [HM.out]; rfl, HO2.out, HK.out⟩

/-- One list of them holds its marks. -/
theorem held_one {e lo hi n g cp k m j : Nat} {w : World} {vs : List Value} {ls : List (List Int)} (h : NOwnV 3 e lo hi w (.slice (some ⟨g, 0, none⟩) n cp) n vs (mkzz k ls)) (hl : ls.length = n * 3) (hj : j < n * 3) (hm : m = k + tot (ls.take j)) (hkb : k + tot ls ≤ 1099511627776) (hz : ∀ j, (ls.getD j []).length ≤ 1048576) :
    Calls Try.prog 43 #[vs.getD j undef, .int .i64 (m : Int)] w fun e' w' => e' = .returned (.int .i64 ((k + tot (ls.take (j + 1)) : Nat) : Int)) ∧ w = w' := by
  have h1 := h.each j hj
  rw [mkzz_at ls k (by omega), ← hm] at h1
  have hb := tot_take_le ls j
  refine (heldZ_any _ (ls.getD j []).length m lo (by omega) (hz j) w h1.1).mono ?_
  rintro e' w' ⟨rfl, rfl⟩
  exact ⟨by rw [tot_take_next ls (by omega), hm, Nat.add_assoc], rfl⟩

set_option maxHeartbeats 800000 in
set_option maxRecDepth 100000 in
theorem markSystem_any (wi pu : Int) (a : Option Addr) (n c : Nat) (vs : List Value) (ls : List (List Int)) (k lo hi : Nat) (hkb : k + tot ls ≤ 1099511627776) (hz : ∀ j, (ls.getD j []).length ≤ 1048576) (hn : n ≤ 1048576) (w : World) (h : NOwnV 3 35 lo hi w (.slice a n c) n vs ls) (hw : hi ≤ w.heap.size) :
    Calls Try.prog 33 #[sysV wi pu (.slice a n c), .int .i64 (k : Int)] w fun e w' => e = .returned (.int .i64 ((k + tot ls : Nat) : Int)) ∧ NOwnV 3 35 lo hi w' (.slice a n c) n vs (mkzz k ls) ∧ Kps (fun b => lo ≤ b ∧ b < hi) w w' := by
  obtain ⟨W, hW, hb, hx⟩ := box1 w 26 #[.int .i64 wi, .int .i64 pu, .slice a n c]
  have q0 := hx.cell 2
  have h1 := h.same (Same.of_below hb hw)
  have HC : Hid (Calls Try.prog 73 #[.slice a n c, .int .i64 (k : Int)] W fun e w' => e = .returned (.int .i64 ((k + tot ls : Nat) : Int)) ∧ NOwnV 3 35 lo hi w' (.slice a n c) n vs (mkzz k ls) ∧ Kps (fun b => lo ≤ b ∧ b < hi) W w') := markRowS_any _ n vs ls k lo hi hkb hz hn W h1 (Nat.le_trans hw hb.size)
  unfold sysV
  clear h h1
  go_enter Try.func33, Try.ntmps33
  go_wp2_with fail
  clear hW
  refine HC.out.mono ?_
  rintro e w1 ⟨rfl, hO, hK⟩
  have HO : Hid (NOwnV 3 35 lo hi w1 (.slice a n c) n vs (mkzz k ls)) := hO
  have HK : Hid (Kps (fun b => lo ≤ b ∧ b < hi) w w1) := (Kps.of_below hb).trans hK
  clear hO hK hb hx q0 HC
  go_wp2
  go_ret
  exact ⟨rfl, HO.out, HK.out⟩

end Go.Proofs.Ytjlijflfepffiaa
