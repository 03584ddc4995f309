/-
  The draw of two paths.
  (-DROP-: what the seat lacks is left out.)
-/
import Derived.Test.YtengnjffajimdaaNibD2
namespace Go.Proofs.Ytengnjffajimdaa
open Go.RowKit

theorem grown_store (w : World) (g j : Nat) (u : Value) : w.grownBy (w.setCell ⟨g, j, none⟩ u) (some g) :=
  ⟨rfl, rfl, rfl, by simp, fun k _ hne => Below.heap_setCell _ _ _ _ (fun e => hne (by rw [e]))⟩

set_option maxHeartbeats 1600000 in
set_option maxRecDepth 100000 in
theorem dCommon_any (len cap : Nat) (a : Option Addr) (hm : len ≤ 1048576) (w : World) (hA : ArgAt w a len w.heap.size) :
    Calls Try.prog 16 #[.slice a len cap] w fun e w' => ∃ (v u : Value) (l m : List Int), e = .returned (.tuple #[v, u]) ∧ l.length ≤ 65 ∧ m.length ≤ 65 ∧ ZOwn w.heap.size w'.heap.size w' v l ∧ ZOwn w.heap.size w'.heap.size w' u m ∧ Below w.heap.size w w' := by
  obtain ⟨i0, hi, hz0, hz1, hz2⟩ := info_parts info3I
  have HA : Hid (ArgAt w a len w.heap.size) := hA
  clear hA
  go_enter Try.func16, Try.ntmps16
  go_wp2_with fail
  refine (new_any len cap a hm _ HA.out).mono ?_
  rintro e w1 ⟨rfl, hC, hA1, hb⟩
  have HC : Hid (CurAt w1 w.heap.size a len cap) := hC
  have HA1 : Hid (ArgAt w1 a len w.heap.size) := hA1
  have hl1 : w.heap.size ≤ w1.heap.size := hb.size
  have hcl : w.heap.size < w1.heap.size := hC.lt
  have HB1 : Hid (Below w.heap.size w w1) := hb
  clear hC hA1 HA hb
  go_wp2_with fail
  refine (dNibs_any w.heap.size len cap a hm _ HC.out HA1.out).mono ?_
  rintro e w2 ⟨g, cv, l, rfl, hl, hR, hE⟩
  have HE2 : Hid (CurEnd w1 w2 w.heap.size a len cap) := hE
  have HZ2 : Hid (ZOwn w1.heap.size w2.heap.size w2 (.slice (some ⟨g, 0, none⟩) l.length cv) l) := ZOwn.of hR
  have HL : Hid (l.length ≤ 65) := hl
  have hs2 : w1.heap.size ≤ w2.heap.size := hE.grown.size
  have hE0 : (w2.alloc (.cells #[] 3)).ownsRow w2.heap.size 3 1 (.slice (some ⟨w2.heap.size, 0, none⟩) 0 0) 0 [] := World.ownsRow_lit _ _ _ (Nat.le_refl _) (by simp [maxLen]) (by simp)
  have hbA : Below w2.heap.size w2 (w2.alloc (.cells #[] 3)) := (Below.refl _ _).alloc (Nat.le_refl _) _
  have hnews : ∀ j u, (zsV l)[j]? = some u → (w2.alloc (.cells #[] 3)).cell? ((⟨g, 0, none⟩ : Addr).add j) = some u := fun j u hu => by
    have hj : j < (zsV l).length := (List.getElem?_eq_some_iff.1 hu).1
    have hz := HZ2.out.on hbA (Nat.le_refl _)
    rw [Addr.add_lit, Nat.zero_add, hz.1.cellAt j (by simpa [zsV] using hj)]
    exact hu
  clear HC HA1 hR hE
  have hzl : (zsV l).length = l.length := by simp [zsV]
  obtain ⟨n, hn⟩ : ∃ n, l.length = n := ⟨_, rfl⟩
  have HN : Hid (l.length = n) := hn
  rw [hn] at HZ2 HL hzl ⊢
  clear hn hl
  have hnb : n ≤ 65 := HL.out
  go_wp2_with (at_builtin; refine wpList_append_own _ rfl _ _ 24 rfl w2.heap.size 3 i0 (.int .i64 0) 1 8 Try.underlying24 hi hz0 hz1 hz2 rfl (by decide) _ _ _ rfl hE0 ⟨g, 0, none⟩ n cv (zsV l) rfl (by rw [hzl, Nat.mul_one]) hnews (zsV_oneC _) (by unfold maxLen; omega) (by omega) (by simp) ?_)
  intro v3 w3 hown3 hg3 _
  have hR3 : RowZs w2.heap.size w3 v3 l := by
    unfold RowZs
    rw [HN.out]
    simpa using hown3
  have hs3 : w2.heap.size ≤ w3.heap.size := by have h := hg3.size; simp at h; omega
  have HE3 : Hid (CurEnd w1 w3 w.heap.size a len cap) := (HE2.out.past hbA).push hg3 (fun k hk => by have := (hE0.lt k hk).1; omega) (fun k hk => by have := (hE0.lt k hk).1; omega)
  have HZ3 : Hid (ZOwn w1.heap.size w2.heap.size w3 (.slice (some ⟨g, 0, none⟩) n cv) l) := (HZ2.out.on hbA (Nat.le_refl _)).same (Same.of_grown hg3 (by simp) (fun k h1 h2 e => by have := (hE0.lt k e).1; omega))
  obtain ⟨b0, vc0, hv⟩ := row_form hR3
  rw [HN.out] at hv
  subst hv
  have HR3 : Hid (RowZs w2.heap.size w3 (.slice b0 n vc0) l) := hR3
  clear hown3 hg3 hnews hE0 hbA HE2 HZ2 hR3 hzl
  by_cases hn0 : 0 < n
  · have hn0' : (0 : Int) < (n : Int) := by omega
    go_wp2_with fail
    refine (once_any w.heap.size len cap a hm 2 (by decide) (by decide) _ HE3.out.cur HE3.out.arg).mono ?_
    rintro e w4 ⟨q, rfl, hE⟩
    have HE4 : Hid (CurEnd w1 w4 w.heap.size a len cap) := HE3.out.trans hE
    have HZ4 : Hid (ZOwn w1.heap.size w2.heap.size w4 (.slice (some ⟨g, 0, none⟩) n cv) l) := HZ3.out.same (Same.of_grown hE.grown hs3 (fun k h1 h2 e => by injection e with e; omega))
    have HR4 : Hid (RowZs w2.heap.size w4 (.slice b0 n vc0) l) := World.ownsRow.kept HR3.out hE.grown (.inr (fun e => by have := (World.ownsRow.lt HR3.out _ e).1; omega))
    have hs4 : w3.heap.size ≤ w4.heap.size := hE.grown.size
    clear hE HE3 HZ3 HR3
    have hs24 : w2.heap.size ≤ w4.heap.size := Nat.le_trans hs3 hs4
    have hs24 : w2.heap.size ≤ w4.heap.size := Nat.le_trans hs3 hs4
    cases q
    · skip
      go_wp2_with fail
      refine (once_any w.heap.size len cap a hm 4 (by decide) (by decide) _ HE4.out.cur HE4.out.arg).mono ?_
      rintro e w8 ⟨q8, rfl, hE⟩
      have HE8 : Hid (CurEnd w1 w8 w.heap.size a len cap) := HE4.out.trans hE
      have HZ8 : Hid (ZOwn w1.heap.size w2.heap.size w8 (.slice (some ⟨g, 0, none⟩) n cv) l) := HZ4.out.same (Same.of_grown hE.grown hs24 (fun k h1 h2 e => by injection e with e; omega))
      have HR8 : Hid (RowZs w2.heap.size w8 (.slice b0 n vc0) l) := World.ownsRow.kept HR4.out hE.grown (.inr (fun e => by have := (World.ownsRow.lt HR4.out _ e).1; omega))
      have hs8 : w2.heap.size ≤ w8.heap.size := Nat.le_trans hs24 hE.grown.size
      clear hE HE4 HZ4 HR4
      cases q8
      · have HB8 : Hid (Below w.heap.size w w8) := HB1.out.trans (below_of_grown HE8.out.grown hl1)
        go_wp2
        go_ret2
        exact ⟨_, _, l, l, rfl, by rw [HN.out]; exact hnb, by rw [HN.out]; exact hnb, HZ8.out.wide hl1 hs8, (ZOwn.of HR8.out).wide (Nat.le_trans hl1 hs2) (Nat.le_refl _), HB8.out⟩
      · go_wp2_with fail
        refine (dNibs_any w.heap.size len cap a hm _ HE8.out.cur HE8.out.arg).mono ?_
        rintro e w9 ⟨g9, cv9, l9, rfl, hl9, hR9, hE⟩
        have HE9 := HE8.out.trans hE
        have HB9 : Hid (Below w.heap.size w w9) := HB1.out.trans (below_of_grown HE9.grown hl1)
        have HZ9 : Hid (ZOwn w1.heap.size w2.heap.size w9 (.slice (some ⟨g, 0, none⟩) n cv) l) := HZ8.out.same (Same.of_grown hE.grown hs8 (fun k h1 h2 e => by injection e with e; omega))
        have hs9 : w8.heap.size ≤ w9.heap.size := hE.grown.size
        have HR9 : Hid (ZOwn w.heap.size w9.heap.size w9 (.slice (some ⟨g9, 0, none⟩) l9.length cv9) l9) := (ZOwn.of hR9).wide (by omega) (Nat.le_refl _)
        have HL9 : Hid (l9.length ≤ 65) := hl9
        generalize hn9 : l9.length = n9 at HR9 HL9 ⊢
        clear hE HE9 hR9 HE8 HZ8 HR8 hl9
        go_wp2
        go_ret2
        exact ⟨_, _, l, l9, rfl, by rw [HN.out]; exact hnb, by rw [hn9]; exact HL9.out, HZ9.out.wide hl1 (by omega), HR9.out, HB9.out⟩
    · obtain ⟨gb, cb, hv⟩ := row_some HR4.out (by rw [HN.out]; exact hn0)
      have hb0 : b0 = some ⟨gb, 0, none⟩ := by
        injection hv
      clear hv
      subst hb0
      go_wp2_with fail
      refine (below_any w.heap.size len cap a hm (n : Int) hn0' (by omega) _ HE4.out.cur HE4.out.arg).mono ?_
      rintro e w5 ⟨x, rfl, x0, x1, hE⟩
      obtain ⟨k, rfl⟩ : ∃ k : Nat, x = (k : Int) := ⟨x.toNat, by omega⟩
      have HE5 : Hid (CurEnd w1 w5 w.heap.size a len cap) := HE4.out.trans hE
      have HZ5 : Hid (ZOwn w1.heap.size w2.heap.size w5 (.slice (some ⟨g, 0, none⟩) n cv) l) := HZ4.out.same (Same.of_grown hE.grown hs24 (fun k h1 h2 e => by injection e with e; omega))
      have hR5 : RowZs w2.heap.size w5 (.slice (some ⟨gb, 0, none⟩) n vc0) l := World.ownsRow.kept HR4.out hE.grown (.inr (fun e => by have := (World.ownsRow.lt HR4.out _ e).1; omega))
      have hs5 : w2.heap.size ≤ w5.heap.size := Nat.le_trans hs24 hE.grown.size
      have hgb : w2.heap.size ≤ gb := (World.ownsRow.lt hR5 gb rfl).1
      clear hE HE4 HZ4 HR4
      have hkn : k < n := by omega
      have hkl : k < l.length := by rw [HN.out]; exact hkn
      have hown5 : w5.ownsRow w2.heap.size 3 1 (.slice (some ⟨gb, 0, none⟩) n vc0) n (zsV l) := by
        have h1 : w5.ownsRow w2.heap.size 3 1 (.slice (some ⟨gb, 0, none⟩) n vc0) l.length (zsV l) := hR5
        rw [HN.out] at h1
        exact h1
      have hc : w5.cell? ⟨gb, k, none⟩ = some (.int .i64 l[k]) := by
        rw [hown5.cellAt k (by omega), zsV, List.getElem?_map, List.getElem?_eq_getElem hkl]
        rfl
      have hf := hown5.frozenAt k
      have hst := hown5.stored k (.int .i64 7)
      have hms : (zsV l).set k (.int .i64 7) = zsV (l.set k 7) := by
        unfold zsV
        rw [List.map_set]
      rw [hms] at hst
      have hml : (l.set k 7).length = n := by rw [List.length_set, HN.out]
      have HM : Hid ((l.set k 7).length = n) := hml
      have HR6 : Hid (RowZs w2.heap.size (w5.setCell ⟨gb, k, none⟩ (.int .i64 7)) (.slice (some ⟨gb, 0, none⟩) n vc0) (l.set k 7)) := by
        show World.ownsRow _ _ _ _ _ _ _
        rw [hml]
        exact hst.1
      have HE6 : Hid (CurEnd w1 (w5.setCell ⟨gb, k, none⟩ (.int .i64 7)) w.heap.size a len cap) := HE5.out.push hst.2 (fun k hk => by injection hk with hk; omega) (fun k hk => by injection hk with hk; omega)
      have HZ6 : Hid (ZOwn w1.heap.size w2.heap.size (w5.setCell ⟨gb, k, none⟩ (.int .i64 7)) (.slice (some ⟨g, 0, none⟩) n cv) l) := HZ5.out.same (Same.of_grown hst.2 hs5 (fun k h1 h2 e => by injection e with e; omega))
      have hs6 : w2.heap.size ≤ (w5.setCell ⟨gb, k, none⟩ (.int .i64 7)).heap.size := Nat.le_trans hs5 hst.2.size
      generalize l[k] = old at hc
      generalize l.set k 7 = m at HM HR6 hml
      clear hown5 hst hms hR5 HE5 HZ5 x0 x1 hml hkl
      go_wp2_with fail
      refine (once_any w.heap.size len cap a hm 4 (by decide) (by decide) _ HE6.out.cur HE6.out.arg).mono ?_
      rintro e w8 ⟨q8, rfl, hE⟩
      have HE8 : Hid (CurEnd w1 w8 w.heap.size a len cap) := HE6.out.trans hE
      have HZ8 : Hid (ZOwn w1.heap.size w2.heap.size w8 (.slice (some ⟨g, 0, none⟩) n cv) l) := HZ6.out.same (Same.of_grown hE.grown hs6 (fun k h1 h2 e => by injection e with e; omega))
      have HR8 : Hid (RowZs w2.heap.size w8 (.slice (some ⟨gb, 0, none⟩) n vc0) m) := World.ownsRow.kept HR6.out hE.grown (.inr (fun e => by have := (World.ownsRow.lt HR6.out _ e).1; omega))
      have hs8 : w2.heap.size ≤ w8.heap.size := Nat.le_trans hs6 hE.grown.size
      clear hE HE6 HZ6 HR6
      cases q8
      · have HB8 : Hid (Below w.heap.size w w8) := HB1.out.trans (below_of_grown HE8.out.grown hl1)
        go_wp2
        go_ret2
        exact ⟨_, _, l, m, rfl, by rw [HN.out]; exact hnb, by rw [HM.out]; exact hnb, HZ8.out.wide hl1 hs8, (ZOwn.of HR8.out).wide (Nat.le_trans hl1 hs2) (Nat.le_refl _), HB8.out⟩
      · go_wp2_with fail
        refine (dNibs_any w.heap.size len cap a hm _ HE8.out.cur HE8.out.arg).mono ?_
        rintro e w9 ⟨g9, cv9, l9, rfl, hl9, hR9, hE⟩
        have HE9 := HE8.out.trans hE
        have HB9 : Hid (Below w.heap.size w w9) := HB1.out.trans (below_of_grown HE9.grown hl1)
        have HZ9 : Hid (ZOwn w1.heap.size w2.heap.size w9 (.slice (some ⟨g, 0, none⟩) n cv) l) := HZ8.out.same (Same.of_grown hE.grown hs8 (fun k h1 h2 e => by injection e with e; omega))
        have hs9 : w8.heap.size ≤ w9.heap.size := hE.grown.size
        have HR9 : Hid (ZOwn w.heap.size w9.heap.size w9 (.slice (some ⟨g9, 0, none⟩) l9.length cv9) l9) := (ZOwn.of hR9).wide (by omega) (Nat.le_refl _)
        have HL9 : Hid (l9.length ≤ 65) := hl9
        generalize hn9 : l9.length = n9 at HR9 HL9 ⊢
        clear hE HE9 hR9 HE8 HZ8 HR8 hl9
        go_wp2
        go_ret2
        exact ⟨_, _, l, l9, rfl, by rw [HN.out]; exact hnb, by rw [hn9]; exact HL9.out, HZ9.out.wide hl1 (by omega), HR9.out, HB9.out⟩
  · have hn0' : ¬ (0 : Int) < (n : Int) := by omega
    go_wp2_with fail
    refine (once_any w.heap.size len cap a hm 4 (by decide) (by decide) _ HE3.out.cur HE3.out.arg).mono ?_
    rintro e w8 ⟨q8, rfl, hE⟩
    have HE8 : Hid (CurEnd w1 w8 w.heap.size a len cap) := HE3.out.trans hE
    have HZ8 : Hid (ZOwn w1.heap.size w2.heap.size w8 (.slice (some ⟨g, 0, none⟩) n cv) l) := HZ3.out.same (Same.of_grown hE.grown hs3 (fun k h1 h2 e => by injection e with e; omega))
    have HR8 : Hid (RowZs w2.heap.size w8 (.slice b0 n vc0) l) := World.ownsRow.kept HR3.out hE.grown (.inr (fun e => by have := (World.ownsRow.lt HR3.out _ e).1; omega))
    have hs8 : w2.heap.size ≤ w8.heap.size := Nat.le_trans hs3 hE.grown.size
    clear hE HE3 HZ3 HR3
    cases q8
    · have HB8 : Hid (Below w.heap.size w w8) := HB1.out.trans (below_of_grown HE8.out.grown hl1)
      go_wp2
      go_ret2
      exact ⟨_, _, l, l, rfl, by rw [HN.out]; exact hnb, by rw [HN.out]; exact hnb, HZ8.out.wide hl1 hs8, (ZOwn.of HR8.out).wide (Nat.le_trans hl1 hs2) (Nat.le_refl _), HB8.out⟩
    · go_wp2_with fail
      refine (dNibs_any w.heap.size len cap a hm _ HE8.out.cur HE8.out.arg).mono ?_
      rintro e w9 ⟨g9, cv9, l9, rfl, hl9, hR9, hE⟩
      have HE9 := HE8.out.trans hE
      have HB9 : Hid (Below w.heap.size w w9) := HB1.out.trans (below_of_grown HE9.grown hl1)
      have HZ9 : Hid (ZOwn w1.heap.size w2.heap.size w9 (.slice (some ⟨g, 0, none⟩) n cv) l) := HZ8.out.same (Same.of_grown hE.grown hs8 (fun k h1 h2 e => by injection e with e; omega))
      have hs9 : w8.heap.size ≤ w9.heap.size := hE.grown.size
      have HR9 : Hid (ZOwn w.heap.size w9.heap.size w9 (.slice (some ⟨g9, 0, none⟩) l9.length cv9) l9) := (ZOwn.of hR9).wide (by omega) (Nat.le_refl _)
      have HL9 : Hid (l9.length ≤ 65) := hl9
      generalize hn9 : l9.length = n9 at HR9 HL9 ⊢
      clear hE HE9 hR9 HE8 HZ8 HR8 hl9
      go_wp2
      go_ret2
      exact ⟨_, _, l, l9, rfl, by rw [HN.out]; exact hnb, by rw [hn9]; exact HL9.out, HZ9.out.wide hl1 (by omega), HR9.out, HB9.out⟩

end Go.Proofs.Ytengnjffajimdaa
