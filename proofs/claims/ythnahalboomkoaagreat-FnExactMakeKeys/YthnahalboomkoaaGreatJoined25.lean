/-
  Texts of one's own, joined.
-/
import Derived.Test.YthnahalboomkoaaGreatJoined9
import Derived.OpenShut
import Derived.Lib.SmallJoins
import Derived.Deep.Slices
import Derived.Test.YthnahalboomkoaaGreatJoined6

/-
  What an argument that is a system is to the walk.
-/
namespace Go.Proofs.YthnahalboomkoaaGreat
open Go.RowKit Go.ChangeShapes Go.WideShapes Go.Joins Go.Deep

theorem cellsLR : Tryz.prog.cellsOf 189 = 3 := by kernel_rfl
theorem cellsLS : Tryz.prog.cellsOf 69 = 3 := by kernel_rfl
theorem cellsIs : Tryz.prog.cellsOf 27 = 1 := by kernel_rfl
theorem cellsI3 : Tryz.prog.cellsOf 3 = 1 := by kernel_rfl
theorem cellsRs : Tryz.prog.cellsOf 67 = 1 := by kernel_rfl

set_option maxRecDepth 100000 in
theorem zat_of {H : Type} {enc : TypeId × Value → H} {W : World} {sp : Nat → Bool} {fuel : Nat} {u : Value} {x : DataW H × List MemPlace} (h : DataW.trod enc Tryz.prog W 0 sp true fuel 27 [u] = some x) :
    ∃ l, ZAt W W.heap.size u l ∧ l.length ≤ 9223372036854775807 := by
  rcases open_ints Tryz.underlying27 Tryz.underlying3 (by kernel_rfl) h with ⟨hcs, _⟩ | ⟨y, len, cap, zs, hcs, _, hl, hm, hz, _, hcell, _⟩
  · simp at hcs
    subst hcs
    exact ⟨[], ⟨none, 0, rfl, fun j hj => by cases hj⟩, by simp⟩
  · simp at hcs
    subst hcs
    have hlz : len ≤ zs.length := by rw [hz]; split <;> omega
    have hA : IntsAt W (some y) len W.heap.size (fun j => zs.getD j 0) := by
      intro j hj
      obtain ⟨b, off, spot⟩ := y
      have hspot : spot = none := by simpa [Addr.add] using World.cell?_spot (hcell 0 (by omega))
      subst hspot
      have hc0 : W.cell? ⟨b, off + j, none⟩ = some (.int .i64 (zs.getD j 0)) := by rw [← Addr.add_lit]; exact hcell j (by omega)
      exact ⟨b, off, rfl, World.block_lt_of_cell? W _ hc0, hc0⟩
    refine ⟨zls (fun j => zs.getD j 0) len, ZAt.of hA, ?_⟩
    rw [zls_length]
    unfold maxLen at hm
    omega

/-- One of three. -/
def pick3 (q : List Int × List Int × List Int) (i : Nat) : List Int := if i = 0 then q.1 else if i = 1 then q.2.1 else q.2.2

set_option maxRecDepth 100000 in
theorem rows_of {H : Type} {enc : TypeId × Value → H} {W : World} {sp : Nat → Bool} {fuel : Nat} {a : Option Addr} {len cap : Nat} {x : DataW H × List MemPlace} (h : DataW.trod enc Tryz.prog W 0 sp true fuel 67 [.slice a len cap] = some x) :
    ∃ ls, NAt 3 W W.heap.size (.slice a len cap) len ls ∧ len ≤ 9223372036854775807 ∧ ∀ j, (ls.getD j []).length ≤ 9223372036854775807 := by
  rcases open_slice Tryz.underlying67 h with ⟨hcs, _⟩ | ⟨x, l, c, m, n, D, Pl, hcs, hb, hl, hm, hmm, _, hx⟩
  · simp at hcs
    obtain ⟨rfl, rfl, rfl⟩ := hcs
    exact ⟨[], ⟨by simp, none, 0, rfl, fun j hj => by omega⟩, by omega, fun j => by simp⟩
  · simp at hcs
    obtain ⟨rfl, rfl, rfl⟩ := hcs
    have hlm : len ≤ m := by rw [hmm]; split <;> omega
    have each : ∀ i, i < m → ∃ q : List Int × List Int × List Int, ∀ k, k < 3 → ∃ u, W.cell? (x.add (i * 3 + k)) = some u ∧ ZAt W W.heap.size u (pick3 q k) ∧ (pick3 q k).length ≤ 9223372036854775807 := by
      intro i hi
      obtain ⟨cs', h1, h2⟩ := hx i hi
      rw [cellsLR] at h1
      obtain ⟨_, hlen, hcell⟩ := World.cells?_some h1
      obtain ⟨y0, y1, y2, k, hxy, _, u0, u1, u2⟩ := trod_struct3 Tryz.underlying189 h2
      match cs', hlen with
      | [v0, v1, v2], _ =>
        simp only [cellsIs, List.drop, List.take] at u0 u1 u2
        obtain ⟨l0, z0, b0⟩ := zat_of u0
        obtain ⟨l1, z1, b1⟩ := zat_of u1
        obtain ⟨l2, z2, b2⟩ := zat_of u2
        have c0 := hcell 0 (by omega)
        have c1 := hcell 1 (by omega)
        have c2 := hcell 2 (by omega)
        rw [add_add] at c0 c1 c2
        refine ⟨(l0, l1, l2), fun k hk => ?_⟩
        have hk3 : k = 0 ∨ k = 1 ∨ k = 2 := by omega
        rcases hk3 with rfl | rfl | rfl
        · exact ⟨v0, by simpa using c0, z0, b0⟩
        · exact ⟨v1, by simpa using c1, z1, b1⟩
        · exact ⟨v2, by simpa using c2, z2, b2⟩
    obtain ⟨q, hq⟩ := choose_lt each
    have hls : ∀ j, j < len * 3 → ((List.range (len * 3)).map fun j => pick3 (q (j / 3)) (j % 3)).getD j [] = pick3 (q (j / 3)) (j % 3) := fun j hj => by simp [hj]
    refine ⟨(List.range (len * 3)).map fun j => pick3 (q (j / 3)) (j % 3), ⟨by simp, some x, cap, rfl, fun j hj => ?_⟩, by unfold maxLen at hm; omega, fun j => ?_⟩
    · obtain ⟨u, h1, h2, _⟩ := hq (j / 3) (by omega) (j % 3) (by omega)
      obtain ⟨b, off, spot⟩ := x
      obtain ⟨u', h1', _⟩ := hq 0 (by omega) 0 (by omega)
      have hspot : spot = none := by simpa [Addr.add] using World.cell?_spot h1'
      subst hspot
      rw [show j / 3 * 3 + j % 3 = j by omega, Addr.add_lit] at h1
      exact ⟨b, off, u, rfl, World.block_lt_of_cell? W _ h1, h1, by rw [hls j hj]; exact h2⟩
    · by_cases hj : j < len * 3
      · rw [hls j hj]
        obtain ⟨u, _, _, h3⟩ := hq (j / 3) (by omega) (j % 3) (by omega)
        exact h3
      · have e : ((List.range (len * 3)).map fun j => pick3 (q (j / 3)) (j % 3)).getD j [] = [] := by rw [List.getD_eq_getElem?_getD, List.getElem?_eq_none (by simp; omega)]; rfl
        rw [e]
        exact Nat.zero_le _

set_option maxRecDepth 100000 in
theorem system_form {H : Type} {enc : TypeId × Value → H} {W : World} {sp : Nat → Bool} {r : Reach} {b0 : Nat} {v : Value} {d : DataW H} {p : List MemPlace} (hv : Value.okWide Tryz.prog W r b0 69 v) (h : DataW.Trod enc Tryz.prog W 0 sp true 69 v d p) :
    ∃ wi pu a len cap ls, v = sysV wi pu (.slice a len cap) ∧ (Lit.int .i64 wi).wf = true ∧ NAt 3 W W.heap.size (.slice a len cap) len ls ∧ len ≤ 9223372036854775807 ∧ ∀ j, (ls.getD j []).length ≤ 9223372036854775807 := by
  obtain ⟨cs, rfl, hsz⟩ := okWide_struct Tryz.underlying69 hv
  obtain ⟨l⟩ := cs
  match l, hsz.trans cellsLS with
  | [c0, c1, c2], _ =>
    obtain ⟨fuel, hf⟩ := h
    obtain ⟨y0, y1, y2, n, _, _, u0, u1, u2⟩ := trod_struct3 Tryz.underlying69 hf
    simp only [Value.cells, cellsI3, cellsRs, List.drop, List.take] at u0 u1 u2
    obtain ⟨wi, e0, _, hw⟩ := DataW.trod_int Tryz.underlying3 u0
    obtain ⟨pu, e1, _, _⟩ := DataW.trod_int Tryz.underlying3 u1
    simp only [List.cons.injEq, and_true] at e0 e1
    subst e0
    subst e1
    have hc : ∃ a len cap, c2 = .slice a len cap := by
      rcases open_slice Tryz.underlying67 u2 with ⟨hcs, _⟩ | ⟨x, l, c, m, n, D, Pl, hcs, _⟩
      · simp at hcs
        exact ⟨_, _, _, hcs⟩
      · simp at hcs
        exact ⟨_, _, _, hcs⟩
    obtain ⟨a, len, cap, rfl⟩ := hc
    obtain ⟨ls, h2, h3, h4⟩ := rows_of u2
    exact ⟨wi, pu, a, len, cap, ls, rfl, hw, h2, h3, h4⟩

end Go.Proofs.YthnahalboomkoaaGreat

/-
  What an argument of five numbers is to the walk; its copy.
  (-DROP-: what the seat lacks is left out.)
-/
namespace Go.Proofs.YthnahalboomkoaaGreat
open Go.RowKit Go.ChangeShapes Go.WideShapes Go.Joins Go.Deep

theorem trod_struct5 {H : Type} {enc : TypeId × Value → H} {P : Program} {w : World} {base : Nat} {spare : Nat → Bool} {held : Bool} {t : TypeId} {f0 f1 f2 f3 f4 : Field} {fuel : Nat} {cs : List Value} {x : DataW H × List MemPlace} (ht : P.underlying t = some (.struct #[f0, f1, f2, f3, f4])) (h : DataW.trod enc P w base spare held fuel t cs = some x) :
    ∃ y0 y1 y2 y3 y4 n, DataW.trod enc P w base spare held n f0.type ((cs.drop f0.offset).take (P.cellsOf f0.type)) = some y0 ∧ DataW.trod enc P w base spare held n f1.type ((cs.drop f1.offset).take (P.cellsOf f1.type)) = some y1 ∧ DataW.trod enc P w base spare held n f2.type ((cs.drop f2.offset).take (P.cellsOf f2.type)) = some y2 ∧
      DataW.trod enc P w base spare held n f3.type ((cs.drop f3.offset).take (P.cellsOf f3.type)) = some y3 ∧ DataW.trod enc P w base spare held n f4.type ((cs.drop f4.offset).take (P.cellsOf f4.type)) = some y4 := by
  obtain ⟨xs, n, _, rfl, hl, hlen, hf⟩ := DataW.trod_struct ht h
  match xs, hlen with
  | [y0, y1, y2, y3, y4], _ => exact ⟨y0, y1, y2, y3, y4, n, by simpa using hf 0 f0 rfl, by simpa using hf 1 f1 rfl, by simpa using hf 2 f2 rfl, by simpa using hf 3 f3 rfl, by simpa using hf 4 f4 rfl⟩

theorem cellsLT : Tryz.prog.cellsOf 70 = 5 := by kernel_rfl

set_option maxRecDepth 100000 in
theorem toxic_form {H : Type} {enc : TypeId × Value → H} {W : World} {sp : Nat → Bool} {r : Reach} {b0 : Nat} {v : Value} {d : DataW H} {p : List MemPlace} (hv : Value.okWide Tryz.prog W r b0 70 v) (h : DataW.Trod enc Tryz.prog W 0 sp true 70 v d p) :
    ∃ ta al be ga de, v = .agg #[.int .i64 ta, .int .i64 al, .int .i64 be, .int .i64 ga, .int .i64 de] := by
  obtain ⟨cs, rfl, hsz⟩ := okWide_struct Tryz.underlying70 hv
  obtain ⟨l⟩ := cs
  match l, hsz.trans cellsLT with
  | [c0, c1, c2, c3, c4], _ =>
    obtain ⟨fuel, hf⟩ := h
    obtain ⟨y0, y1, y2, y3, y4, n, u0, u1, u2, u3, u4⟩ := trod_struct5 Tryz.underlying70 hf
    simp only [Value.cells, cellsI3, List.drop, List.take] at u0 u1 u2 u3 u4
    obtain ⟨ta, e0, _, _⟩ := DataW.trod_int Tryz.underlying3 u0
    obtain ⟨al, e1, _, _⟩ := DataW.trod_int Tryz.underlying3 u1
    obtain ⟨be, e2, _, _⟩ := DataW.trod_int Tryz.underlying3 u2
    obtain ⟨ga, e3, _, _⟩ := DataW.trod_int Tryz.underlying3 u3
    obtain ⟨de, e4, _, _⟩ := DataW.trod_int Tryz.underlying3 u4
    simp only [List.cons.injEq, and_true] at e0 e1 e2 e3 e4
    subst e0 e1 e2 e3 e4
    exact ⟨ta, al, be, ga, de, rfl⟩

theorem infoTi : (Tryz.prog.info? 31).map (·.size) = some 5 := by kernel_rfl

set_option maxHeartbeats 1600000 in
set_option maxRecDepth 100000 in
theorem toToxic_any (ta al be ga de : Int) (w : World) : Calls Tryz.prog 36 #[.agg #[.int .i64 ta, .int .i64 al, .int .i64 be, .int .i64 ga, .int .i64 de]] w fun e w' => e = .returned (.agg #[.int .i64 ta, .int .i64 al, .int .i64 be, .int .i64 ga, .int .i64 de]) ∧ Below w.heap.size w w' := by
  go_enter Tryz.func36, Tryz.ntmps36
  go_wp2
  obtain ⟨W, hW, hb, hx, hr, hv⟩ := boxes2r w 70 31 31 #[.int .i64 ta, .int .i64 al, .int .i64 be, .int .i64 ga, .int .i64 de] #[.int .i64 ta, .int .i64 al, .int .i64 be, .int .i64 ga, .int .i64 de] #[.int .i64 ta, .int .i64 al, .int .i64 be, .int .i64 ga, .int .i64 de]
  rw [hW]
  refine bodyPost_ret_by (result_blk rfl rfl hr Tryz.underlying31 infoTi) rfl ⟨rfl, hb⟩

end Go.Proofs.YthnahalboomkoaaGreat

/-
  The walks of the helpers of the exact laws on rows and systems: marks, and whether they are held.
  (-DROP-: what the seat lacks is left out.)
-/
namespace Go.Proofs.YthnahalboomkoaaGreat
open Go.RowKit

theorem mark_cur (ls : List (List Int)) (k : Nat) {j : Nat} (h : j < ls.length) : (mkzz k (ls.take j) ++ ls.drop j).getD j [] = ls.getD j [] := by
  have hl : (mkzz k (ls.take j)).length = j := by rw [mkzz_length, List.length_take]; omega
  rw [getD_app_right _ _ _ _ (by omega), hl, Nat.sub_self]
  simp [h]

/-- One list of them is marked. -/
theorem mark_one {e lo hi n g cp k m j : Nat} {w : World} {vs : List Value} {ls : List (List Int)} (h : NOwnV 3 e lo hi w (.slice (some ⟨g, 0, none⟩) n cp) n vs (mkzz k (ls.take j) ++ ls.drop j)) (hl : ls.length = n * 3) (hj : j < n * 3) (hm : m = k + tot (ls.take j)) (hkb : k + tot ls ≤ 1099511627776) (hz : ∀ j, (ls.getD j []).length ≤ 1048576) (_hw : hi ≤ w.heap.size) :
    Calls Tryz.prog 176 #[vs.getD j undef, .int .i64 (m : Int)] w fun e' w' => e' = .returned (.int .i64 ((k + tot (ls.take (j + 1)) : Nat) : Int)) ∧ NOwnV 3 e lo hi w' (.slice (some ⟨g, 0, none⟩) n cp) n vs (mkzz k (ls.take (j + 1)) ++ ls.drop (j + 1)) ∧ Kps (fun b => lo ≤ b ∧ b < hi) w w' := by
  have h1 := h.each j hj
  rw [mark_cur ls k (by omega)] at h1
  have hb := tot_take_le ls j
  refine (markZ_any _ (ls.getD j []) m lo (by omega) (hz j) w h1.1).mono ?_
  rintro e' w' ⟨rfl, hR, hK⟩
  refine ⟨by rw [tot_take_next ls (by omega), hm, Nat.add_assoc], ?_, hK.more fun b hb => h1.in b hb⟩
  have h2 := h.turn hj hR hK
  rw [hm, mkzz_step ls k (by omega)] at h2
  exact h2

set_option maxHeartbeats 1600000 in
set_option maxRecDepth 100000 in
theorem markRowS_any (v : Value) (n : Nat) (vs : List Value) (ls : List (List Int)) (k lo hi : Nat) (hkb : k + tot ls ≤ 1099511627776) (hz : ∀ j, (ls.getD j []).length ≤ 1048576) (hn : n ≤ 1048576) (w : World) (h : NOwnV 3 146 lo hi w v n vs ls) (hw : hi ≤ w.heap.size) :
    Calls Tryz.prog 112 #[v, .int .i64 (k : Int)] w fun e w' => e = .returned (.int .i64 ((k + tot ls : Nat) : Int)) ∧ NOwnV 3 146 lo hi w' v n vs (mkzz k ls) ∧ Kps (fun b => lo ≤ b ∧ b < hi) w w' := by
  obtain ⟨ra, rc, hv⟩ := row_form h.row
  subst hv
  have hlen := h.len
  have HZ : Hid (∀ j, (ls.getD j []).length ≤ 1048576) := hz
  have HN : Hid (hi ≤ w.heap.size) := hw
  have HKB : Hid (k + tot ls ≤ 1099511627776) := hkb
  have h' : Hid (NOwnV 3 146 lo hi w (.slice ra n rc) n vs (mkzz k (ls.take (0 * 3)) ++ ls.drop (0 * 3))) := by
    show NOwnV _ _ _ _ _ _ _ _ _
    simpa [mkzz] using h
  clear h hz hw hkb
  go_enter Tryz.func112, Tryz.ntmps112
  go_wp2
  go_loopw [1, 5] (fun x i wr => ∃ (m j : Nat), x = .int .i64 (m : Int) ∧ i = .int .i64 (j : Int) ∧ Hid (m = k + tot (ls.take (j * 3))) ∧ j ≤ n ∧ Hid (NOwnV 3 146 lo hi wr (.slice ra n rc) n vs (mkzz k (ls.take (j * 3)) ++ ls.drop (j * 3))) ∧ Hid (Kps (fun b => lo ≤ b ∧ b < hi) w wr)) (fun _ i _ => n - (RowKit.intOf i).toNat)
  case atStart => exact ⟨k, 0, rfl, rfl, (show k = k + tot (ls.take (0 * 3)) by simp [tot]), Nat.zero_le _, h', Kps.refl _ _⟩
  case round =>
    obtain ⟨m, j, rfl, rfl, hm, hj, HO, HK⟩ := hrel
    clear h'
    by_cases hlt : j < n
    · rcases HO.out.row.2 with ⟨_, hz0⟩ | ⟨g, cap, cur, hveq, hg, _⟩
      · omega
      · have hra : ra = some ⟨g, 0, none⟩ := by injection hveq
        subst hra
        have hk0 : (0 : Int) ≤ (j : Int) := by omega
        have hk1 : (j : Int) < (n : Int) := by omega
        have hsz : Hid (hi ≤ wr.heap.size) := Nat.le_trans HN.out HK.out.size
        clear hveq
        have c0 := HO.out.cell (j := j * 3) (by omega)
        have HC0 := mark_one HO.out hlen (by omega) hm.out HKB.out HZ.out hsz.out
        generalize vs.getD (j * 3) undef = u0 at c0 HC0
        go_wp2_with fail
        refine HC0.mono ?_
        rintro e w1 ⟨rfl, hO1, hK1⟩
        have c1 := hO1.cell (j := j * 3 + 1) (by omega)
        have hs1 := hK1.size
        have HC1 := mark_one (m := k + tot (ls.take (j * 3 + 1))) hO1 hlen (by omega) rfl HKB.out HZ.out (Nat.le_trans hsz.out hs1)
        have HK1 : Hid (Kps (fun b => lo ≤ b ∧ b < hi) w w1) := HK.out.trans hK1
        generalize vs.getD (j * 3 + 1) undef = u1 at c1 HC1
        generalize k + tot (ls.take (j * 3 + 1)) = m1 at HC1
        clear HC0 c0 hK1 HK HO hO1
        go_wp2_with fail
        refine HC1.mono ?_
        rintro e w2 ⟨rfl, hO2, hK2⟩
        have c2 := hO2.cell (j := j * 3 + 1 + 1) (by omega)
        have hs2 := hK2.size
        have HC2 := mark_one (m := k + tot (ls.take (j * 3 + 1 + 1))) hO2 hlen (by omega) rfl HKB.out HZ.out (Nat.le_trans hsz.out (Nat.le_trans hs1 hs2))
        have HK2 : Hid (Kps (fun b => lo ≤ b ∧ b < hi) w w2) := HK1.out.trans hK2
        generalize vs.getD (j * 3 + 1 + 1) undef = u2 at c2 HC2
        generalize k + tot (ls.take (j * 3 + 1 + 1)) = m2 at HC2
        clear HC1 c1 hK2 HK1 hO2
        go_wp2_with fail
        refine HC2.mono ?_
        rintro e w3 ⟨rfl, hO3, hK3⟩
        have HK3 : Hid (Kps (fun b => lo ≤ b ∧ b < hi) w w3) := HK2.out.trans hK3
        have HO3 : Hid (NOwnV 3 146 lo hi w3 (.slice (some ⟨g, 0, none⟩) n rc) n vs (mkzz k (ls.take ((j + 1) * 3)) ++ ls.drop ((j + 1) * 3))) := by
          have e3 : (j + 1) * 3 = j * 3 + 1 + 1 + 1 := by omega
          rw [e3]
          exact hO3
        obtain ⟨m3, hm3⟩ : ∃ m3, m3 = k + tot (ls.take (j * 3 + 1 + 1 + 1)) := ⟨_, rfl⟩
        rw [← hm3]
        have HM3 : Hid (m3 = k + tot (ls.take ((j + 1) * 3))) := by
          have e3 : (j + 1) * 3 = j * 3 + 1 + 1 + 1 := by omega
          rw [e3]
          exact hm3
        clear HC2 c2 hK3 HK2 hO3 hm3
        go_wp2
        go_roundw
        case rel => exact ⟨m3, j + 1, rfl, by go_num, HM3, hlt, HO3, HK3⟩
        case measure => simp [RowKit.intOf]; omega
    · have hje : j = n := by omega
      subst hje
      have HO2 : Hid (NOwnV 3 146 lo hi wr (.slice ra j rc) j vs (mkzz k ls)) := by
        have h1 := HO.out
        rw [← hlen, List.take_length, List.drop_length, List.append_nil] at h1
        exact h1
      have HM : Hid (k + tot ls = m) := by
        have h1 := hm.out
        rw [← hlen, List.take_length] at h1
        exact h1.symm
      clear HO
      go_wp2
      go_ret
      exact ⟨by rw [HM.out]; rfl, HO2.out, HK.out⟩

set_option maxHeartbeats 800000 in
set_option maxRecDepth 100000 in
theorem markSystem_any (wi pu : Int) (a : Option Addr) (n c : Nat) (vs : List Value) (ls : List (List Int)) (k lo hi : Nat) (hkb : k + tot ls ≤ 1099511627776) (hz : ∀ j, (ls.getD j []).length ≤ 1048576) (hn : n ≤ 1048576) (w : World) (h : NOwnV 3 146 lo hi w (.slice a n c) n vs ls) (hw : hi ≤ w.heap.size) :
    Calls Tryz.prog 39 #[sysV wi pu (.slice a n c), .int .i64 (k : Int)] w fun e w' => e = .returned (.int .i64 ((k + tot ls : Nat) : Int)) ∧ NOwnV 3 146 lo hi w' (.slice a n c) n vs (mkzz k ls) ∧ Kps (fun b => lo ≤ b ∧ b < hi) w w' := by
  obtain ⟨W, hW, hb, hx⟩ := box1 w 26 #[.int .i64 wi, .int .i64 pu, .slice a n c]
  have q0 := hx.cell 2
  have h1 := h.same (Same.of_below hb hw)
  have HC : Hid (Calls Tryz.prog 112 #[.slice a n c, .int .i64 (k : Int)] W fun e w' => e = .returned (.int .i64 ((k + tot ls : Nat) : Int)) ∧ NOwnV 3 146 lo hi w' (.slice a n c) n vs (mkzz k ls) ∧ Kps (fun b => lo ≤ b ∧ b < hi) W w') := markRowS_any _ n vs ls k lo hi hkb hz hn W h1 (Nat.le_trans hw hb.size)
  unfold sysV
  clear h h1
  go_enter Tryz.func39, Tryz.ntmps39
  go_wp2_with fail
  clear hW
  refine HC.out.mono ?_
  rintro e w1 ⟨rfl, hO, hK⟩
  have HO : Hid (NOwnV 3 146 lo hi w1 (.slice a n c) n vs (mkzz k ls)) := hO
  have HK : Hid (Kps (fun b => lo ≤ b ∧ b < hi) w w1) := (Kps.of_below hb).trans hK
  clear hO hK hb hx q0 HC
  go_wp2
  go_ret
  exact ⟨rfl, HO.out, HK.out⟩

end Go.Proofs.YthnahalboomkoaaGreat
