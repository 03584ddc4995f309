/-
  Texts of one's own, joined.
-/
import Derived.Test.YtjlijflfepffiaaJoined7
import Derived.Test.YtjlijflfepffiaaPolyMulS
import Derived.Test.YtjlijflfepffiaaJoined12
import Derived.Test.YtjlijflfepffiaaJoined11
import Derived.Test.YtjlijflfepffiaaJoined17

/-
  The draws of polynomials.
  (-DROP-: what the seat lacks is left out.)
-/
namespace Go.Proofs.Ytjlijflfepffiaa
open Go.RowKit

set_option maxHeartbeats 800000 in
set_option maxRecDepth 100000 in
theorem sameZ_any (a b : Option Addr) (n c1 c2 : Nat) (hn : n ≤ 1048576) (f : Nat → Int) (w : World) (hA : IntsAt w a n w.heap.size f) (hB : IntsAt w b n w.heap.size f) :
    Calls Try.prog 25 #[.slice a n c1, .slice b n c2] w fun e w' => e = .returned (.bool true) ∧ Below w.heap.size w w' := by
  have HA : Hid (IntsAt w a n w.heap.size f) := hA
  have HB : Hid (IntsAt w b n w.heap.size f) := hB
  clear hA hB
  go_enter Try.func25, Try.ntmps25
  go_wp2
  go_loopw [5] (fun i wr => ∃ k : Nat, i = .int .i64 (k : Int) ∧ k ≤ n ∧ Hid (Below w.heap.size w wr)) (fun i _ => n - (intOf i).toNat)
  case atStart => exact ⟨0, rfl, Nat.zero_le _, Below.refl _ _⟩
  case round =>
    obtain ⟨k, rfl, hk, HW⟩ := hrel
    by_cases hlt : k < n
    · have hlt' : (k : Int) < (n : Int) := by omega
      have hk0 : (0 : Int) ≤ (k : Int) := by omega
      obtain ⟨b, off, rfl, hb, hz⟩ := (HA.out.on HW.out) k hlt
      obtain ⟨b', off', rfl, hb', hz'⟩ := (HB.out.on HW.out) k hlt
      generalize f k = x at hz hz'
      clear hb hb' HA HB
      go_wp2
      refine wp_region_still_tail 8 mixesSc (by kernel_rfl) ?_
      simp only [List.take_succ_cons, List.take_zero, List.drop_succ_cons, List.drop_zero]
      repeat still_step
      refine wpStill_nil ?_
      go_wp2
      go_roundw
      case rel => exact ⟨k + 1, by go_num, hlt, HW.out.drew⟩
      case measure => simp [intOf]; omega
    · have hlt' : ¬ (k : Int) < (n : Int) := by omega
      go_wp2
      go_ret
      exact ⟨rfl, HW.out⟩

theorem sameO_any (v u : Value) (l : List Int) (hl : l.length ≤ 1048576) (w : World) (h : ZAt w w.heap.size v l) (h2 : ZAt w w.heap.size u l) :
    Calls Try.prog 25 #[v, u] w fun e w' => e = .returned (.bool true) ∧ Below w.heap.size w w' := by
  obtain ⟨a, cp, rfl, hA⟩ := h
  obtain ⟨b, cq, rfl, hB⟩ := h2
  exact sameZ_any a b l.length cp cq hl _ w hA hB

set_option maxHeartbeats 1600000 in
set_option maxRecDepth 100000 in
theorem poly_any (c len cap : Nat) (a : Option Addr) (hm : len ≤ 1048576) (w : World) (hC : CurAt w c a len cap) (hA : ArgAt w a len c) :
    Calls Try.prog 59 #[.pointer (some ⟨c, 0, none⟩)] w fun e w' => ∃ (v : Value) (l : List Int), e = .returned v ∧ l.length ≤ 65 ∧ RowZs w.heap.size w' v l ∧ CurEnd w w' c a len cap := by
  obtain ⟨i0, hi, hz0, hz1, hz2⟩ := info_parts info3
  have hcl := hC.lt
  have HS : Hid (CurEnd w w c a len cap) := CurEnd.refl hC hA
  clear hA hC
  go_enter Try.func59, Try.ntmps59
  go_wp2
  go_loopw [3, 4] (fun v i wr => ∃ (k : Nat) (l : List Int), i = .int .i64 (k : Int) ∧ k ≤ 7 ∧ Hid (l.length = k) ∧ wr.ownsRow w.heap.size 3 1 v l.length (zsV l) ∧ Hid (CurEnd w wr c a len cap)) (fun _ i _ => 8 - (intOf i).toNat)
  case atStart => exact ⟨0, [], rfl, by omega, rfl, World.ownsRow_lit _ _ _ (Nat.le_refl _) (by simp [maxLen]) (by simp), HS.out.alloc _⟩
  case round =>
    obtain ⟨k, l, rfl, hk, HL, hown, HE⟩ := hrel
    have hm63 : l.length + 1 ≤ maxLen := by have := HL.out; unfold maxLen; omega
    have hm47 : (l.length + 1) * 8 ≤ 140737488355328 := by have := HL.out; omega
    go_wp2_with fail
    refine (below_any c len cap a hm 8 (by omega) (by omega) _ HE.out.cur HE.out.arg).mono ?_
    rintro e w1 ⟨x, rfl, x0, x1, hE1⟩
    have hown1 : w1.ownsRow w.heap.size 3 1 _ l.length (zsV l) := hown.kept hE1.grown (by
      refine .inr ?_
      intro e
      have := (hown.lt c e).1
      omega)
    have HE1 : Hid (CurEnd w w1 c a len cap) := HE.out.trans hE1
    clear hE1 hown HE
    by_cases hlt : (k : Int) < x
    · go_wp2_with fail
      refine (scNum_any c len cap a hm _ HE1.out.cur HE1.out.arg).mono ?_
      rintro e w2 ⟨y, rfl, _, hE2⟩
      have hown2 : w2.ownsRow w.heap.size 3 1 _ l.length (zsV l) := hown1.kept hE2.grown (by
        refine .inr ?_
        intro e
        have := (hown1.lt c e).1
        omega)
      have HE2 : Hid (CurEnd w w2 c a len cap) := HE1.out.trans hE2
      have hsz : w.heap.size ≤ w2.heap.size := HE2.out.grown.size
      clear hE2 hown1 HE1
      go_wp2_with (at_builtin; refine wpList_append_own _ rfl _ _ 27 rfl w.heap.size 3 i0 (.int .i64 0) 1 8 Try.underlying27 hi hz0 hz1 hz2 rfl (by decide) _ _ _ rfl (hown2.alloc _) ⟨w2.heap.size, 0, none⟩ 1 1 [.int .i64 y] rfl rfl (cell_one_new _ _ _) (one_cell _ _) hm63 hm47 (room_for hsz _) ?_)
      intro v' w4 hown' hgrow _
      have R : w4.ownsRow w.heap.size 3 1 v' (l ++ [y]).length (zsV (l ++ [y])) := by
        rw [zsV_append, List.length_append]; exact hown'
      have HE4 : Hid (CurEnd w w4 c a len cap) := (HE2.out.alloc _).push hgrow (fun k hk => by have := (hown2.lt k hk).1; omega) (fun k hk => (hown2.lt k hk).1)
      have HL2 : Hid ((l ++ [y]).length = k + 1) := (show (l ++ [y]).length = k + 1 by rw [List.length_append, HL.out]; rfl)
      clear hown' hgrow hown2
      go_wp2
      go_roundw
      case rel => exact ⟨k + 1, _, by go_num, by omega, HL2, R, HE4⟩
      case measure => simp [intOf]; omega
    · obtain ⟨ra, rc, hv⟩ := row_form hown1
      subst hv
      have HO : Hid (w1.ownsRow w.heap.size 3 1 (.slice ra l.length rc) l.length (zsV l)) := hown1
      have hl7 : l.length ≤ 7 := by have := HL.out; omega
      clear hown1 hm63 hm47
      go_wp2_with fail
      refine (once_any c len cap a hm 16 (by omega) (by omega) _ HE1.out.cur HE1.out.arg).mono ?_
      rintro e w2 ⟨b, rfl, hE2⟩
      have HE2 : Hid (CurEnd w w2 c a len cap) := HE1.out.trans hE2
      have HO2 : Hid (w2.ownsRow w.heap.size 3 1 (.slice ra l.length rc) l.length (zsV l)) := HO.out.kept hE2.grown (by
        refine .inr ?_
        intro e
        have := (HO.out.lt c e).1
        omega)
      clear hE2 HE1 HO
      cases b
      · go_wp2
        go_ret
        exact ⟨_, l, rfl, by omega, HO2.out, HE2.out⟩
      · go_wp2_with fail
        refine (below_any c len cap a hm 2 (by omega) (by omega) _ HE2.out.cur HE2.out.arg).mono ?_
        rintro e w3 ⟨y, rfl, y0, y1, hE3⟩
        have HE3 : Hid (CurEnd w w3 c a len cap) := HE2.out.trans hE3
        clear hE3 HE2 HO2
        obtain ⟨n, hn⟩ : ∃ n : Nat, 64 + y = (n : Int) := ⟨(64 + y).toNat, by omega⟩
        have hn1 : 64 ≤ n ∧ n ≤ 65 := by omega
        have hwn : IntKind.i64.wrap (n : Int) = (n : Int) := IntWalk.i64_in _ (by omega)
        have hmk0 : (Instr.makeSlice 27 (.int .i64 (n : Int)) (.int .i64 (n : Int))).run Try.prog w3 = .ok (.slice (some ⟨w3.heap.size, 0, none⟩) n n) (w3.alloc (.cells (ic (fun _ => 0) n) 3)) := make_ints n n (Nat.le_refl _) (by omega) w3
        have hsz3 : w.heap.size ≤ w3.heap.size := HE3.out.grown.size
        have HR : Hid (RowZs w3.heap.size (w3.alloc (.cells (ic (fun _ => 0) n) 3)) (.slice (some ⟨w3.heap.size, 0, none⟩) n n) (List.replicate n 0)) := rowZ_none w3 n (by omega)
        have HE3a : Hid (CurEnd w (w3.alloc (.cells (ic (fun _ => 0) n) 3)) c a len cap) := HE3.out.alloc _
        generalize w3.alloc (.cells (ic (fun _ => 0) n) 3) = V at hmk0 HR HE3a
        obtain ⟨g', c', hve, _, _, hz, hf⟩ := HR.out.cellZ (j := 5) (by simp; omega)
        have hgg : g' = w3.heap.size := by injection hve with e1; injection e1 with e1; injection e1 with e1; exact e1.symm
        subst hgg
        generalize (List.replicate n (0 : Int)).getD 5 0 = old at hz
        have h5 : (5 : Int) < (n : Int) := by omega
        have HR2 : Hid (RowZs w.heap.size (V.setCell ⟨w3.heap.size, 5, none⟩ (.int .i64 3)) (.slice (some ⟨w3.heap.size, 0, none⟩) n n) ((List.replicate n 0).set 5 3)) := owns_low (HR.out.put 5 3) hsz3
        have HE4 : Hid (CurEnd w (V.setCell ⟨w3.heap.size, 5, none⟩ (.int .i64 3)) c a len cap) := HE3a.out.cell hsz3 hcl _
        clear hve HR HE3
        go_wp2
        go_ret
        exact ⟨_, _, rfl, by rw [List.length_set, List.length_replicate]; omega, HR2.out, HE4.out⟩

/-- Two polynomials. -/
def PairEnd (w : World) (e : Ending) (w' : World) : Prop := ∃ (v u : Value) (l m : List Int), e = .returned (.tuple #[v, u]) ∧ l.length ≤ 65 ∧ m.length ≤ 65 ∧ ZAt w' w'.heap.size v l ∧ ZAt w' w'.heap.size u m ∧ Below w.heap.size w w'

end Go.Proofs.Ytjlijflfepffiaa

/-
  The walks of the helpers of the exact laws on rows and systems: marks, and whether they are held.
  (-DROP-: what the seat lacks is left out.)
-/
namespace Go.Proofs.Ytjlijflfepffiaa
open Go.RowKit

theorem mark_cur (ls : List (List Int)) (k : Nat) {j : Nat} (h : j < ls.length) : (mkzz k (ls.take j) ++ ls.drop j).getD j [] = ls.getD j [] := by
  have hl : (mkzz k (ls.take j)).length = j := by rw [mkzz_length, List.length_take]; omega
  rw [getD_app_right _ _ _ _ (by omega), hl, Nat.sub_self]
  simp [h]

/-- One list of them is marked. -/
theorem mark_one {e lo hi n g cp k m j : Nat} {w : World} {vs : List Value} {ls : List (List Int)} (h : NOwnV 3 e lo hi w (.slice (some ⟨g, 0, none⟩) n cp) n vs (mkzz k (ls.take j) ++ ls.drop j)) (hl : ls.length = n * 3) (hj : j < n * 3) (hm : m = k + tot (ls.take j)) (hkb : k + tot ls ≤ 1099511627776) (hz : ∀ j, (ls.getD j []).length ≤ 1048576) (_hw : hi ≤ w.heap.size) :
    Calls Try.prog 42 #[vs.getD j undef, .int .i64 (m : Int)] w fun e' w' => e' = .returned (.int .i64 ((k + tot (ls.take (j + 1)) : Nat) : Int)) ∧ NOwnV 3 e lo hi w' (.slice (some ⟨g, 0, none⟩) n cp) n vs (mkzz k (ls.take (j + 1)) ++ ls.drop (j + 1)) ∧ Kps (fun b => lo ≤ b ∧ b < hi) w w' := by
  have h1 := h.each j hj
  rw [mark_cur ls k (by omega)] at h1
  have hb := tot_take_le ls j
  refine (markZ_any _ (ls.getD j []) m lo (by omega) (hz j) w h1.1).mono ?_
  rintro e' w' ⟨rfl, hR, hK⟩
  refine ⟨by rw [tot_take_next ls (by omega), hm, Nat.add_assoc], ?_, hK.more fun b hb => h1.in b hb⟩
  have h2 := h.turn hj hR hK
  rw [hm, mkzz_step ls k (by omega)] at h2
  exact h2

set_option maxHeartbeats 1600000 in
set_option maxRecDepth 100000 in
theorem markRowS_any (v : Value) (n : Nat) (vs : List Value) (ls : List (List Int)) (k lo hi : Nat) (hkb : k + tot ls ≤ 1099511627776) (hz : ∀ j, (ls.getD j []).length ≤ 1048576) (hn : n ≤ 1048576) (w : World) (h : NOwnV 3 35 lo hi w v n vs ls) (hw : hi ≤ w.heap.size) :
    Calls Try.prog 73 #[v, .int .i64 (k : Int)] w fun e w' => e = .returned (.int .i64 ((k + tot ls : Nat) : Int)) ∧ NOwnV 3 35 lo hi w' v n vs (mkzz k ls) ∧ Kps (fun b => lo ≤ b ∧ b < hi) w w' := by
  obtain ⟨ra, rc, hv⟩ := row_form h.row
  subst hv
  have hlen := h.len
  have HZ : Hid (∀ j, (ls.getD j []).length ≤ 1048576) := hz
  have HN : Hid (hi ≤ w.heap.size) := hw
  have HKB : Hid (k + tot ls ≤ 1099511627776) := hkb
  have h' : Hid (NOwnV 3 35 lo hi w (.slice ra n rc) n vs (mkzz k (ls.take (0 * 3)) ++ ls.drop (0 * 3))) := by
    show NOwnV _ _ _ _ _ _ _ _ _
    simpa [mkzz] using h
  clear h hz hw hkb
  go_enter Try.func73, Try.ntmps73
  go_wp2
  go_loopw [1, 5] (fun x i wr => ∃ (m j : Nat), x = .int .i64 (m : Int) ∧ i = .int .i64 (j : Int) ∧ Hid (m = k + tot (ls.take (j * 3))) ∧ j ≤ n ∧ Hid (NOwnV 3 35 lo hi wr (.slice ra n rc) n vs (mkzz k (ls.take (j * 3)) ++ ls.drop (j * 3))) ∧ Hid (Kps (fun b => lo ≤ b ∧ b < hi) w wr)) (fun _ i _ => n - (RowKit.intOf i).toNat)
  case atStart => exact ⟨k, 0, rfl, rfl, (show k = k + tot (ls.take (0 * 3)) by simp [tot]), Nat.zero_le _, h', Kps.refl _ _⟩
  case round =>
    obtain ⟨m, j, rfl, rfl, hm, hj, HO, HK⟩ := hrel
    clear h'
    by_cases hlt : j < n
    · rcases HO.out.row.2 with ⟨_, hz0⟩ | ⟨g, cap, cur, hveq, hg, _⟩
      · omega
      · have hra : ra = some ⟨g, 0, none⟩ := by injection hveq
        subst hra
        have hk0 : (0 : Int) ≤ (j : Int) := by omega
        have hk1 : (j : Int) < (n : Int) := by omega
        have hsz : Hid (hi ≤ wr.heap.size) := Nat.le_trans HN.out HK.out.size
        clear hveq
        have c0 := HO.out.cell (j := j * 3) (by omega)
        have HC0 := mark_one HO.out hlen (by omega) hm.out HKB.out HZ.out hsz.out
        generalize vs.getD (j * 3) undef = u0 at c0 HC0
        go_wp2_with fail
        refine HC0.mono ?_
        rintro e w1 ⟨rfl, hO1, hK1⟩
        have c1 := hO1.cell (j := j * 3 + 1) (by omega)
        have hs1 := hK1.size
        have HC1 := mark_one (m := k + tot (ls.take (j * 3 + 1))) hO1 hlen (by omega) rfl HKB.out HZ.out (Nat.le_trans hsz.out hs1)
        have HK1 : Hid (Kps (fun b => lo ≤ b ∧ b < hi) w w1) := HK.out.trans hK1
        generalize vs.getD (j * 3 + 1) undef = u1 at c1 HC1
        generalize k + tot (ls.take (j * 3 + 1)) = m1 at HC1
        clear HC0 c0 hK1 HK HO hO1
        go_wp2_with fail
        refine HC1.mono ?_
        rintro e w2 ⟨rfl, hO2, hK2⟩
        have c2 := hO2.cell (j := j * 3 + 1 + 1) (by omega)
        have hs2 := hK2.size
        have HC2 := mark_one (m := k + tot (ls.take (j * 3 + 1 + 1))) hO2 hlen (by omega) rfl HKB.out HZ.out (Nat.le_trans hsz.out (Nat.le_trans hs1 hs2))
        have HK2 : Hid (Kps (fun b => lo ≤ b ∧ b < hi) w w2) := HK1.out.trans hK2
        generalize vs.getD (j * 3 + 1 + 1) undef = u2 at c2 HC2
        generalize k + tot (ls.take (j * 3 + 1 + 1)) = m2 at HC2
        clear HC1 c1 hK2 HK1 hO2
        go_wp2_with fail
        refine HC2.mono ?_
        rintro e w3 ⟨rfl, hO3, hK3⟩
        have HK3 : Hid (Kps (fun b => lo ≤ b ∧ b < hi) w w3) := HK2.out.trans hK3
        have HO3 : Hid (NOwnV 3 35 lo hi w3 (.slice (some ⟨g, 0, none⟩) n rc) n vs (mkzz k (ls.take ((j + 1) * 3)) ++ ls.drop ((j + 1) * 3))) := by
          have e3 : (j + 1) * 3 = j * 3 + 1 + 1 + 1 := by omega
          rw [e3]
          exact hO3
        obtain ⟨m3, hm3⟩ : ∃ m3, m3 = k + tot (ls.take (j * 3 + 1 + 1 + 1)) := ⟨_, rfl⟩
        rw [← hm3]
        have HM3 : Hid (m3 = k + tot (ls.take ((j + 1) * 3))) := by
          have e3 : (j + 1) * 3 = j * 3 + 1 + 1 + 1 := by omega
          rw [e3]
          exact hm3
        clear HC2 c2 hK3 HK2 hO3 hm3
        go_wp2
        go_roundw
        case rel => exact ⟨m3, j + 1, rfl, by go_num, HM3, hlt, HO3, HK3⟩
        case measure => simp [RowKit.intOf]; omega
    · have hje : j = n := by omega
      subst hje
      have HO2 : Hid (NOwnV 3 35 lo hi wr (.slice ra j rc) j vs (mkzz k ls)) := by
        have h1 := HO.out
        rw [← hlen, List.take_length, List.drop_length, List.append_nil] at h1
        exact h1
      have HM : Hid (k + tot ls = m) := by
        have h1 := hm.out
        rw [← hlen, List.take_length] at h1
        exact h1.symm
      clear HO
      go_wp2
      go_ret
      exact ⟨by rw [HM.out]; rfl, HO2.out, HK.out⟩

/-- One list of them holds its marks. -/
theorem held_one {e lo hi n g cp k m j : Nat} {w : World} {vs : List Value} {ls : List (List Int)} (h : NOwnV 3 e lo hi w (.slice (some ⟨g, 0, none⟩) n cp) n vs (mkzz k ls)) (hl : ls.length = n * 3) (hj : j < n * 3) (hm : m = k + tot (ls.take j)) (hkb : k + tot ls ≤ 1099511627776) (hz : ∀ j, (ls.getD j []).length ≤ 1048576) :
    Calls Try.prog 43 #[vs.getD j undef, .int .i64 (m : Int)] w fun e' w' => e' = .returned (.int .i64 ((k + tot (ls.take (j + 1)) : Nat) : Int)) ∧ w = w' := by
  have h1 := h.each j hj
  rw [mkzz_at ls k (by omega), ← hm] at h1
  have hb := tot_take_le ls j
  refine (heldZ_any _ (ls.getD j []).length m lo (by omega) (hz j) w h1.1).mono ?_
  rintro e' w' ⟨rfl, rfl⟩
  exact ⟨by rw [tot_take_next ls (by omega), hm, Nat.add_assoc], rfl⟩

set_option maxHeartbeats 800000 in
set_option maxRecDepth 100000 in
theorem markSystem_any (wi pu : Int) (a : Option Addr) (n c : Nat) (vs : List Value) (ls : List (List Int)) (k lo hi : Nat) (hkb : k + tot ls ≤ 1099511627776) (hz : ∀ j, (ls.getD j []).length ≤ 1048576) (hn : n ≤ 1048576) (w : World) (h : NOwnV 3 35 lo hi w (.slice a n c) n vs ls) (hw : hi ≤ w.heap.size) :
    Calls Try.prog 33 #[sysV wi pu (.slice a n c), .int .i64 (k : Int)] w fun e w' => e = .returned (.int .i64 ((k + tot ls : Nat) : Int)) ∧ NOwnV 3 35 lo hi w' (.slice a n c) n vs (mkzz k ls) ∧ Kps (fun b => lo ≤ b ∧ b < hi) w w' := by
  obtain ⟨W, hW, hb, hx⟩ := box1 w 26 #[.int .i64 wi, .int .i64 pu, .slice a n c]
  have q0 := hx.cell 2
  have h1 := h.same (Same.of_below hb hw)
  have HC : Hid (Calls Try.prog 73 #[.slice a n c, .int .i64 (k : Int)] W fun e w' => e = .returned (.int .i64 ((k + tot ls : Nat) : Int)) ∧ NOwnV 3 35 lo hi w' (.slice a n c) n vs (mkzz k ls) ∧ Kps (fun b => lo ≤ b ∧ b < hi) W w') := markRowS_any _ n vs ls k lo hi hkb hz hn W h1 (Nat.le_trans hw hb.size)
  unfold sysV
  clear h h1
  go_enter Try.func33, Try.ntmps33
  go_wp2_with fail
  clear hW
  refine HC.out.mono ?_
  rintro e w1 ⟨rfl, hO, hK⟩
  have HO : Hid (NOwnV 3 35 lo hi w1 (.slice a n c) n vs (mkzz k ls)) := hO
  have HK : Hid (Kps (fun b => lo ≤ b ∧ b < hi) w w1) := (Kps.of_below hb).trans hK
  clear hO hK hb hx q0 HC
  go_wp2
  go_ret
  exact ⟨rfl, HO.out, HK.out⟩

end Go.Proofs.Ytjlijflfepffiaa
