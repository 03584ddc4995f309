/-
  Texts of one's own, joined.
-/
import Derived.Test.YthnahalboomkoaaGreatJoined32
import Derived.Test.YthnahalboomkoaaGreatJoined11

/-
  The draw of a system, right or not, and of numbers for it.
  (-DROP-: what the seat lacks is left out.)
-/
namespace Go.Proofs.YthnahalboomkoaaGreat
open Go.RowKit

/-- The rest of a list. -/
theorem ZOwn.rest {lo hi : Nat} {w : World} {g n c : Nat} {l : List Int} (h : ZOwn lo hi w (.slice (some ⟨g, 0, none⟩) n c) l) (hn : n = l.length) (h1 : 1 ≤ l.length) (cp : Nat) : ZAt w hi (.slice (some ⟨g, 1, none⟩) (n - 1) cp) l.tail := by
  obtain ⟨a, cq, hv, hI⟩ := h.at
  injection hv with e1 e2 e3
  subst e1
  refine ⟨some ⟨g, 1, none⟩, cp, by rw [hn, List.length_tail], ?_⟩
  rw [List.length_tail]
  intro j hj
  obtain ⟨b, off, e, hb, hc⟩ := hI (j + 1) (by omega)
  injection e with e
  injection e with e4 e5
  subst e4
  subst e5
  refine ⟨g, 1, rfl, hb, ?_⟩
  rw [show 1 + j = 0 + (j + 1) by omega, hc]
  congr 2
  cases l with
  | nil => rfl
  | cons x t => rfl

/-- One of the cells of a list of structs holds another list. -/
theorem nat_put {sz e lo hi n : Nat} {w : World} {v : Value} {vs : List Value} {ls : List (List Int)} {j : Nat} {u : Value} {l : List Int} (hr : w.ownsRow lo e sz v n (vs.set j u)) (htop : ∀ k, v.ownBlock = some k → k < hi) (hlen : ls.length = n * sz) (heach : ∀ i, i < n * sz → i ≠ j → ZAt w hi (vs.getD i undef) (ls.getD i [])) (hu : ZAt w hi u l) (hj : j < n * sz) : NAt sz w hi v n (ls.set j l) := by
  have hvl : vs.length = n * sz := by have := hr.1; simpa using this
  refine ⟨by simpa using hlen, ?_⟩
  rcases hr.2 with ⟨rfl, h0⟩ | ⟨g, cp, cur, rfl, hg, hh, hrest⟩
  · rw [h0] at hj; omega
  · refine ⟨_, cp, rfl, fun i hi' => ⟨g, 0, (vs.set j u).getD i undef, rfl, htop g rfl, ?_, ?_⟩⟩
    · rw [Nat.zero_add, World.ownsRow.cellAt hr i hi', List.getD_eq_getElem?_getD, List.getElem?_eq_getElem (by simp; omega)]
      rfl
    · by_cases hij : j = i
      · subst hij
        rw [getD_set_same _ _ _ _ (by omega), getD_set_same _ _ _ _ (by omega)]
        exact hu
      · rw [getD_set_other _ _ _ _ _ hij, getD_set_other _ _ _ _ _ hij]
        exact heach i hi' (fun e => hij e.symm)

theorem heap_cell {w w' : World} {p : Addr} {x : Option Value} (h : w.cell? p = x) (e : w'.heap = w.heap) : w'.cell? p = x := (World.cell?_of_block (by rw [e])).trans h
theorem heap_free {w w' : World} {p : Addr} (h : w.frozen? p = false) (e : w'.heap = w.heap) : w'.frozen? p = false := by
  rw [← h]
  unfold World.frozen?
  rw [e]
/-- A small number is one that an int holds. -/
theorem wf_small {z : Int} (h0 : -1000000 ≤ z) (h1 : z ≤ 1000000) : (Lit.int .i64 z).wf = true := by
  have e1 : IntKind.i64.min = -9223372036854775808 := rfl
  have e2 : IntKind.i64.max = 9223372036854775807 := rfl
  simp [Lit.wf]
  omega

/-- What a draw of a system, right or not, leaves. -/
def AnyEnd (w : World) (c : Nat) (a : Option Addr) (len cap : Nat) (e : Ending) (w' : World) : Prop := ∃ (wi pu : Int) (v u : Value) (n : Nat) (ls : List (List Int)) (m : List Int), e = .returned (.tuple #[sysV wi pu v, u]) ∧ (Lit.int .i64 wi).wf = true ∧ n ≤ 16 ∧ (∀ j, (ls.getD j []).length ≤ 16) ∧ m.length ≤ 16 ∧ (∀ V, Same w.heap.size w'.heap.size w' V → NAt 3 V w'.heap.size v n ls ∧ ZAt V w'.heap.size u m) ∧ CurEnd w w' c a len cap

set_option maxHeartbeats 6400000 in
set_option maxRecDepth 100000 in
theorem sAny_any (c len cap : Nat) (a : Option Addr) (hm : len ≤ 1048576) (w : World) (hC : CurAt w c a len cap) (hA : ArgAt w a len c) :
    Calls Tryz.prog 93 #[.pointer (some ⟨c, 0, none⟩)] w fun e w' => AnyEnd w c a len cap e w' := by
  obtain ⟨j0, hj, hy0, hy1, hy2⟩ := info_parts info3I
  have hcl := hC.lt
  obtain ⟨W, hW, hb, hr⟩ := box1 w 26 #[.int .i64 0, .int .i64 0, .slice none 0 0]
  have H0 : Hid (CurEnd w W c a len cap ∧ Blk W w.heap.size 26 #[.int .i64 0, .int .i64 0, .slice none 0 0]) := ⟨(CurEnd.refl hC hA).below hb, hr⟩
  clear hC hA hb hr
  go_enter Tryz.func93, Tryz.ntmps93
  go_wp2_with fail
  clear hW
  refine (below_any c len cap a hm 14 (by omega) (by omega) _ H0.out.1.cur H0.out.1.arg).mono ?_
  rintro e w1 ⟨k, rfl, k0, k1, hE⟩
  have H1 : Hid (CurEnd w w1 c a len cap ∧ Blk w1 w.heap.size 26 #[.int .i64 0, .int .i64 0, .slice none 0 0]) := ⟨H0.out.1.trans hE, H0.out.2.grown hE.grown (by omega)⟩
  clear H0 hE
  go_wp2_with fail
  refine (below_any c len cap a hm 60 (by omega) (by omega) _ H1.out.1.cur H1.out.1.arg).mono ?_
  rintro e w2 ⟨x, rfl, x0, x1, hE⟩
  have H2 : Hid (CurEnd w w2 c a len cap ∧ Blk w2 w.heap.size 26 #[.int .i64 0, .int .i64 0, .slice none 0 0]) := ⟨H1.out.1.trans hE, H1.out.2.grown hE.grown (by omega)⟩
  clear H1 hE
  go_wp2_with fail
  refine (sSystem_any c len cap a hm _ H2.out.1.cur H2.out.1.arg).mono ?_
  rintro e w3 ⟨wi, pu, v, u, n, ls, m, rfl, hD, hN, hM, hE⟩
  have H3 : Hid (CurEnd w w3 c a len cap ∧ Blk w3 w.heap.size 26 #[.int .i64 0, .int .i64 0, .slice none 0 0]) := ⟨H2.out.1.trans hE, H2.out.2.grown hE.grown (by omega)⟩
  have HDR : Hid (Drawn wi pu n ls m) := hD
  obtain ⟨va, vc, rfl⟩ : ∃ va vc, v = .slice va n vc := by obtain ⟨_, va, vc, h, _⟩ := hN; exact ⟨va, vc, h⟩
  obtain ⟨ua, uc, rfl⟩ : ∃ ua uc, u = .slice ua m.length uc := by obtain ⟨ua, uc, h, _⟩ := hM; exact ⟨ua, uc, h⟩
  have HN : Hid (NAt 3 w3 w3.heap.size (.slice va n vc) n ls) := hN
  have HM : Hid (ZAt w3 w3.heap.size (.slice ua m.length uc) m) := hM
  have hs3 : w.heap.size + 1 ≤ w3.heap.size := H3.out.2.lt
  clear H2 hE hD hN hM
  unfold sysV
  obtain ⟨V0, hV0, hb0, hs0⟩ := box1 w3 26 #[.int .i64 0, .int .i64 0, .slice none 0 0]
  go_wp2_with (first | (refine store_blk (cs' := #[.int .i64 wi, .int .i64 pu, .slice va n vc]) rfl rfl rfl rfl rfl hs0 infoSy rfl (onesSy _ _ _ _ _) ?_; intro V hsV hoth hbel; have hbV := hbel _ _ (Nat.le_refl _) hb0; clear hoth hbel) | (refine load_blk rfl rfl rfl hsV Tryz.underlying26 infoSy ?_))
  clear hV0 hb0 hs0
  have HC := sCopy_any wi pu va n vc HDR.out.n1 ls (fun j hj => by have := HDR.out.each j hj; omega) V ((HN.out.on hbV).wide hbV.size)
  refine HC.mono ?_
  rintro e w5 ⟨v5, vs5, rfl, hO5, hb5⟩
  obtain ⟨ra, rc, hv5⟩ := row_form hO5.row
  subst hv5
  have hsV5 := hsV.on hb5 hsV.lt
  have hVs : w3.heap.size + 1 ≤ V.heap.size := hsV.lt
  have hres5 := (H3.out.2.on hbV H3.out.2.lt).on hb5 (H3.out.2.on hbV H3.out.2.lt).lt
  have hcur5 := (H3.out.1.below hbV).below hb5
  have HM5 : Hid (ZAt w5 w3.heap.size (.slice ua m.length uc) m) := (HM.out.on hbV).on (hb5.mono hbV.size)
  have hs5 : V.heap.size ≤ w5.heap.size := hb5.size
  clear HC HN HM H3 hbV hsV hb5
  unfold sysV
  obtain ⟨um, cm, hum, hIM⟩ := HM5.out
  obtain ⟨rfl, rfl⟩ : ua = um ∧ uc = cm := by injection hum with e1 _ e3; exact ⟨e1, e3⟩
  obtain ⟨b0, o0, rfl, hb0, N0⟩ := ints_news hIM (by have := HDR.out.m0; omega)
  have hml : m.length ≤ 16 := HDR.out.m1
  have hml0 : 2 ≤ m.length := HDR.out.m0
  clear hum hIM HM5
  go_wp2_with (first
    | (refine store_blkS (cs' := #[.int .i64 wi, .int .i64 pu, .slice ra n rc]) rfl rfl rfl rfl rfl hsV5 infoSy rfl (onesSy _ _ _ _ _) ?_; intro V6 hsV6 hheap hoth hbel; have hres6 := hoth _ _ _ (by omega) hres5; have hcur6 := hcur5.store (g := w3.heap.size) (by omega) hcl hoth hbel; have hbV6 := hbel w3.heap.size w5 (Nat.le_refl _) (Below.refl _ _); have hO6 := hO5.oth hoth (by omega); have hs6 : w5.heap.size ≤ V6.heap.size := hbV6.size; have hE6 : (V6.alloc (.cells #[] 3)).ownsRow V6.heap.size 3 1 (.slice (some ⟨V6.heap.size, 0, none⟩) 0 0) 0 [] := World.ownsRow_lit V6 #[] 0 (Nat.le_refl _) (by simp [maxLen]) (by simp); have hn6 : ∀ j q, (zsV m)[j]? = some q → (V6.alloc (.cells #[] 3)).cell? ((⟨b0, o0, none⟩ : Addr).add j) = some q := fun j q hq => by { rw [Addr.add_lit]; rw [← N0 j q hq, Addr.add_lit]; exact (World.cell?_of_block (a := ⟨b0, o0 + j, none⟩) (Below.heap_alloc V6 _ b0 (by omega))).trans (hbV6.cell (p := ⟨b0, o0 + j, none⟩) hb0) }; clear hoth hbel hheap)
    | (at_builtin; refine wpList_append_own_at _ rfl _ _ 27 rfl V6.heap.size 3 j0 (.int .i64 0) 1 8 Tryz.underlying27 hj hy0 hy1 hy2 rfl (by decide) _ _ _ rfl hE6 ⟨b0, o0, none⟩ m.length uc (zsV m) rfl (by simp [zsV]) hn6 (zsV_one m) (by unfold maxLen; omega) (by omega) (by simp) ?_))
  intro u7 w7 hown7 hg7 _ hat7
  have hg8 : (V6.alloc (.cells #[] 3)).grownBy w7 (some V6.heap.size) := hg7
  have hR7 : RowZs V6.heap.size w7 u7 m := hown7
  have hz8 : (V6.alloc (.cells #[] 3)).heap.size = V6.heap.size + 1 := by simp
  have hsz7 : V6.heap.size + 1 ≤ w7.heap.size := by have := hg8.size; omega
  have hs7 : Blk w7 w3.heap.size 26 #[.int .i64 wi, .int .i64 pu, .slice ra n rc] := (hsV6.alloc _).grown hg8 (by omega)
  have hres7 : Blk w7 w.heap.size 26 #[.int .i64 0, .int .i64 0, .slice none 0 0] := (hres6.alloc _).grown hg8 (by omega)
  have HO7 : Hid (NOwnV 3 146 V.heap.size w5.heap.size w7 (.slice ra n rc) n vs5 ls) := hO6.same fun k h1 h2 => (hg8.block k (by omega) (fun e => by have := Option.some.inj e; omega)).trans (Below.heap_alloc V6 _ k (by omega))
  have HC7 : Hid (CurEnd w w7 c a len cap) := (hcur6.alloc _).push hg8 (fun k hk => by have := Option.some.inj hk; omega) (fun k hk => by have := Option.some.inj hk; omega)
  obtain ⟨g7, c7, hu7, hg7l, hg7h, _, _⟩ := hR7.cellZ (j := 0) (by omega)
  subst hu7
  have HU7 : Hid (ZOwn V6.heap.size w7.heap.size w7 (.slice (some ⟨g7, 0, none⟩) m.length c7) m) := ZOwn.of hR7
  have hszs : w.heap.size + 1 ≤ w3.heap.size ∧ w3.heap.size + 1 ≤ V.heap.size ∧ V.heap.size ≤ w5.heap.size ∧ w5.heap.size ≤ V6.heap.size ∧ V6.heap.size + 1 ≤ w7.heap.size := ⟨hs3, hVs, hs5, hs6, hsz7⟩
  have hls : ∀ j, (ls.getD j []).length ≤ 16 := fun j => by
    by_cases hj : j < n * 3
    · have := HDR.out.each j hj; omega
    · rw [List.getD_eq_getElem?_getD, List.getElem?_eq_none (by rw [HO7.out.len]; omega)]
      exact Nat.zero_le _
  have HLS : Hid (∀ j, (ls.getD j []).length ≤ 16) := hls
  have hn1 := HDR.out.n1
  have hn0 := HDR.out.n0
  have hwi : (Lit.int .i64 wi).wf = true := by have h1 := HDR.out.wi0; have h2 := HDR.out.wi1; exact wf_small (by omega) (by omega)
  have HWI : Hid ((Lit.int .i64 wi).wf = true) := hwi
  clear hls hwi hown7 hg7 hg8 hR7 hz8 hat7 hsV6 hres6 hcur6 hO6 hE6 hn6 hbV6 N0 hb0 hs3 hVs hs5 hs6 hsz7 hsV5 hres5 hcur5 hO5
  have HOU := HO7
  have HUU := HU7
  by_cases hk0 : k = 0
  · subst hk0
    obtain ⟨y, hy⟩ : ∃ y, Int.tmod x 23 = y := ⟨_, rfl⟩
    have hy0 : 0 ≤ y ∧ y < 60 := by rw [← hy, Int.tmod_eq_emod_of_nonneg (by omega)]; omega
    have hst := store3 (x := y) (hs7.cell 0) (hs7.free 0)
    have hsys := hs7.set 0 (.int .i64 y)
    have hres := hres7.other (g' := w3.heap.size) (i := 0) (by omega) (.int .i64 y)
    have HCU : Hid (CurEnd w (w7.setCell ⟨w3.heap.size, 0, none⟩ (.int .i64 y)) c a len cap) := HC7.out.cell (by omega) hcl _
    have HOU : Hid (NOwnV 3 146 V.heap.size w5.heap.size (w7.setCell ⟨w3.heap.size, 0, none⟩ (.int .i64 y)) (.slice ra n rc) n vs5 ls) := HO7.out.same (Same.set _ _ _ (.inl (by show w3.heap.size < _; omega)))
    have HUU : Hid (ZOwn V6.heap.size w7.heap.size (w7.setCell ⟨w3.heap.size, 0, none⟩ (.int .i64 y)) (.slice (some ⟨g7, 0, none⟩) m.length c7) m) := HU7.out.same (Same.set _ _ _ (.inl (by show w3.heap.size < _; omega)))
    have hsw : w7.heap.size ≤ (w7.setCell ⟨w3.heap.size, 0, none⟩ (.int .i64 y)).heap.size := by simp [World.setCell]
    generalize w7.setCell ⟨w3.heap.size, 0, none⟩ (.int .i64 y) = W8 at hst hsys hres HCU HOU HUU hsw
    clear hs7 hres7 HC7 HO7 HU7
    go_wp2_with (first | (refine store_at rfl rfl rfl rfl rfl hst ?_)| (refine load_blk rfl rfl rfl hsys Tryz.underlying26 infoSy ?_) | (refine store_blkS (cs' := #[.int .i64 y, .int .i64 pu, .slice ra n rc]) rfl rfl rfl rfl rfl hres infoSy rfl (onesSy _ _ _ _ _) ?_; intro V8 h8 hheap hoth hbel; have hEV := HCU.out.store (Nat.le_refl _) hcl hoth hbel; have hb8 := hbel 0 W8 (Nat.zero_le _) (Below.refl _ _); clear hoth hbel))
    have hs8 : W8.heap.size ≤ V8.heap.size := hb8.size
    refine bodyPost_ret_by (result_Btmp rfl rfl rfl h8 Tryz.underlying26 infoSy) rfl ⟨y, pu, _, .slice (some ⟨g7, 0, none⟩) m.length c7, n, ls, m, rfl, wf_small (by omega) (by omega), hn1, HLS.out, hml, fun VV hVV => ⟨(HOU.out.same (fun k h1 h2 => (hVV k (by omega) (by omega)).trans (hheap k (by omega)))).at.wide (by omega), (HUU.out.same (fun k h1 h2 => (hVV k (by omega) (by omega)).trans (hheap k (by omega)))).at.wide (by omega)⟩, hEV⟩
  · by_cases hk1 : k = 1
    · subst hk1
      obtain ⟨y, hy⟩ : ∃ y, Int.tmod x 9 = y := ⟨_, rfl⟩
      have hy0 : 0 ≤ y ∧ y < 60 := by rw [← hy, Int.tmod_eq_emod_of_nonneg (by omega)]; omega
      obtain ⟨z, hz⟩ : ∃ z, y - 1 = z := ⟨_, rfl⟩
      have hwz : IntKind.i64.wrap z = z := IntWalk.i64_in _ (by omega)
      have hst := store3 (x := z) (hs7.cell 1) (hs7.free 1)
      have hsys := hs7.set 1 (.int .i64 z)
      have hres := hres7.other (g' := w3.heap.size) (i := 1) (by omega) (.int .i64 z)
      have HCU : Hid (CurEnd w (w7.setCell ⟨w3.heap.size, 1, none⟩ (.int .i64 z)) c a len cap) := HC7.out.cell (by omega) hcl _
      have HOU : Hid (NOwnV 3 146 V.heap.size w5.heap.size (w7.setCell ⟨w3.heap.size, 1, none⟩ (.int .i64 z)) (.slice ra n rc) n vs5 ls) := HO7.out.same (Same.set _ _ _ (.inl (by show w3.heap.size < _; omega)))
      have HUU : Hid (ZOwn V6.heap.size w7.heap.size (w7.setCell ⟨w3.heap.size, 1, none⟩ (.int .i64 z)) (.slice (some ⟨g7, 0, none⟩) m.length c7) m) := HU7.out.same (Same.set _ _ _ (.inl (by show w3.heap.size < _; omega)))
      have hsw : w7.heap.size ≤ (w7.setCell ⟨w3.heap.size, 1, none⟩ (.int .i64 z)).heap.size := by simp [World.setCell]
      generalize w7.setCell ⟨w3.heap.size, 1, none⟩ (.int .i64 z) = W8 at hst hsys hres HCU HOU HUU hsw
      clear hs7 hres7 HC7 HO7 HU7
      go_wp2_with (first | (refine store_at rfl rfl rfl rfl rfl hst ?_)| (refine load_blk rfl rfl rfl hsys Tryz.underlying26 infoSy ?_) | (refine store_blkS (cs' := #[.int .i64 wi, .int .i64 z, .slice ra n rc]) rfl rfl rfl rfl rfl hres infoSy rfl (onesSy _ _ _ _ _) ?_; intro V8 h8 hheap hoth hbel; have hEV := HCU.out.store (Nat.le_refl _) hcl hoth hbel; have hb8 := hbel 0 W8 (Nat.zero_le _) (Below.refl _ _); clear hoth hbel))
      have hs8 : W8.heap.size ≤ V8.heap.size := hb8.size
      refine bodyPost_ret_by (result_Btmp rfl rfl rfl h8 Tryz.underlying26 infoSy) rfl ⟨wi, z, _, .slice (some ⟨g7, 0, none⟩) m.length c7, n, ls, m, rfl, HWI.out, hn1, HLS.out, hml, fun VV hVV => ⟨(HOU.out.same (fun k h1 h2 => (hVV k (by omega) (by omega)).trans (hheap k (by omega)))).at.wide (by omega), (HUU.out.same (fun k h1 h2 => (hVV k (by omega) (by omega)).trans (hheap k (by omega)))).at.wide (by omega)⟩, hEV⟩
    · by_cases hk3 : k = 3
      · subst hk3
        obtain ⟨j, hj⟩ : ∃ j : Nat, Int.tmod x (m.length : Int) = (j : Int) := ⟨(Int.tmod x (m.length : Int)).toNat, by rw [Int.tmod_eq_emod_of_nonneg (by omega)]; have := Int.emod_nonneg x (b := (m.length : Int)) (by omega); omega⟩
        have hjm : j < m.length := by rw [Int.tmod_eq_emod_of_nonneg (by omega)] at hj; have := Int.emod_lt_of_pos x (b := (m.length : Int)) (by omega); omega
        have hj0 : (0 : Int) ≤ (j : Int) := by omega
        have hj1 : (j : Int) < (m.length : Int) := by omega
        have hmn : ¬ (m.length : Int) = 0 := by omega
        obtain ⟨z, hz⟩ : ∃ z, Int.tmod x 5 = z := ⟨_, rfl⟩
        obtain ⟨g9, c9, hv9, _, _, hcz, hcf⟩ := HU7.out.1.cellZ (j := j) hjm
        have hg9 : g9 = g7 := by injection hv9 with e1; injection e1 with e1; injection e1 with e1; exact e1.symm
        subst hg9
        have hst := store3 (x := z) hcz hcf
        have hsys := hs7.other (g' := g9) (i := j) (by omega) (.int .i64 z)
        have hres := hres7.other (g' := g9) (i := j) (by omega) (.int .i64 z)
        have HCU : Hid (CurEnd w (w7.setCell ⟨g9, j, none⟩ (.int .i64 z)) c a len cap) := HC7.out.cell (by omega) hcl _
        have HOU : Hid (NOwnV 3 146 V.heap.size w5.heap.size (w7.setCell ⟨g9, j, none⟩ (.int .i64 z)) (.slice ra n rc) n vs5 ls) := HO7.out.same (Same.set _ _ _ (.inr (by show _ ≤ g9; omega)))
        have HUU : Hid (ZOwn V6.heap.size w7.heap.size (w7.setCell ⟨g9, j, none⟩ (.int .i64 z)) (.slice (some ⟨g9, 0, none⟩) m.length c7) (m.set j z)) := ⟨HU7.out.1.put j z, HU7.out.2⟩
        have hsw : w7.heap.size ≤ (w7.setCell ⟨g9, j, none⟩ (.int .i64 z)).heap.size := by simp [World.setCell]
        generalize w7.setCell ⟨g9, j, none⟩ (.int .i64 z) = W8 at hst hsys hres HCU HOU HUU hsw
        clear hs7 hres7 HC7 HO7 HU7 hv9 hcz hcf hjm
        go_wp2_with (first | (refine store_at rfl rfl rfl rfl rfl hst ?_)| (refine load_blk rfl rfl rfl hsys Tryz.underlying26 infoSy ?_) | (refine store_blkS (cs' := #[.int .i64 wi, .int .i64 pu, .slice ra n rc]) rfl rfl rfl rfl rfl hres infoSy rfl (onesSy _ _ _ _ _) ?_; intro V8 h8 hheap hoth hbel; have hEV := HCU.out.store (Nat.le_refl _) hcl hoth hbel; have hb8 := hbel 0 W8 (Nat.zero_le _) (Below.refl _ _); clear hoth hbel))
        have hs8 : W8.heap.size ≤ V8.heap.size := hb8.size
        refine bodyPost_ret_by (result_Btmp rfl rfl rfl h8 Tryz.underlying26 infoSy) rfl ⟨wi, pu, _, .slice (some ⟨g9, 0, none⟩) m.length c7, n, ls, m.set j z, rfl, HWI.out, hn1, HLS.out, (by rw [List.length_set]; exact hml), fun VV hVV => ⟨(HOU.out.same (fun k h1 h2 => (hVV k (by omega) (by omega)).trans (hheap k (by omega)))).at.wide (by omega), (HUU.out.same (fun k h1 h2 => (hVV k (by omega) (by omega)).trans (hheap k (by omega)))).at.wide (by omega)⟩, hEV⟩
      · by_cases hk4 : k = 4
        · subst hk4
          have hcap : m.length ≤ c7 := HU7.out.1.cap
          have hc1 : (1 : Int) ≤ (m.length : Int) := by omega
          have hc2 : (m.length : Int) ≤ (c7 : Int) := by omega
          have hsys := hs7
          have hres := hres7
          have HCU := HC7
          have HOU := HO7
          have HUU := HU7
          clear hs7 hres7 HC7 HO7 HU7
          go_wp2_with (first | (refine load_blk rfl rfl rfl hsys Tryz.underlying26 infoSy ?_) | (refine store_blkS (cs' := #[.int .i64 wi, .int .i64 pu, .slice ra n rc]) rfl rfl rfl rfl rfl hres infoSy rfl (onesSy _ _ _ _ _) ?_; intro V8 h8 hheap hoth hbel; have hEV := HCU.out.store (Nat.le_refl _) hcl hoth hbel; have hb8 := hbel 0 w7 (Nat.zero_le _) (Below.refl _ _); clear hoth hbel))
          have hs8 : w7.heap.size ≤ V8.heap.size := hb8.size
          refine bodyPost_ret_by (result_Btmp rfl rfl rfl h8 Tryz.underlying26 infoSy) rfl ⟨wi, pu, _, .slice (some ⟨g7, 1, none⟩) (m.length - 1) (c7 - 1), n, ls, m.tail, rfl, HWI.out, hn1, HLS.out, (by rw [List.length_tail]; omega), fun VV hVV => ⟨(HOU.out.same (fun k h1 h2 => (hVV k (by omega) (by omega)).trans (hheap k (by omega)))).at.wide (by omega), ((HUU.out.same (fun k h1 h2 => (hVV k (by omega) (by omega)).trans (hheap k (by omega)))).rest rfl (by omega) _).wide (by omega)⟩, hEV⟩
        · by_cases hk5 : k = 5
          · subst hk5
            obtain ⟨gr, hra⟩ : ∃ gr, ra = some ⟨gr, 0, none⟩ := by
              rcases HO7.out.row.2 with ⟨_, hz⟩ | ⟨g', c', cur, hve, _⟩
              · omega
              · exact ⟨g', by injection hve⟩
            subst hra
            have hgr : V.heap.size ≤ gr ∧ gr < w5.heap.size := ⟨(HO7.out.row.lt gr rfl).1, HO7.out.top gr rfl⟩
            have hj3 : 2 < n * 3 := by omega
            have hrc := HO7.out.cell hj3
            have hrf : w7.frozen? ⟨gr, 2, none⟩ = false := by
              rcases HO7.out.row.2 with ⟨_, hz⟩ | ⟨g', c', cur, hve, _, hh, _⟩
              · omega
              · injection hve with e1
                injection e1 with e1
                injection e1 with e1
                subst e1
                exact frozen_of_row w7 _ 2 _ _ hh
            have hel := HO7.out.each 2 hj3
            have hll := HDR.out.each 2 hj3
            obtain ⟨ge, ce, hev, hel1, _, hec, hef⟩ := hel.1.cellZ (j := 0) (by omega)
            have hge : V.heap.size ≤ ge ∧ ge < w5.heap.size := hel.in ge (by rw [hev]; rfl)
            have hne : ge ≠ gr := fun e => HO7.out.off 2 ge hj3 (by rw [hev]; rfl) (by rw [e]; rfl)
            have HEV : Hid (vs5.getD 2 undef = .slice (some ⟨ge, 0, none⟩) (ls.getD 2 []).length ce) := hev
            rw [hev] at hrc hel
            have hcap : (ls.getD 2 []).length ≤ ce := hel.1.cap
            clear hev hel1
            generalize hlc : (ls.getD 2 []).length = lc at *
            have HLC : Hid ((ls.getD 2 []).length = lc) := hlc
            clear hlc
            have hc1 : (1 : Int) ≤ (lc : Int) := by omega
            have hc2 : (lc : Int) ≤ (ce : Int) := by omega
            have hce : ¬ ce = 1 := by omega
            have hcs := hs7.cell 2
            replace hcs : w7.cell? ⟨w3.heap.size, 2, none⟩ = some (.slice (some ⟨gr, 0, none⟩) n rc) := hcs
            have hn2 : (0 : Int) < (n : Int) := by omega
            have hn3 : 0 < n := by omega
            have hn4 : ¬ n = 0 := by omega
            have HC : Hid (∀ wz : World, wz.heap = w7.heap → wz.cell? ⟨w3.heap.size, 2, none⟩ = some (.slice (some ⟨gr, 0, none⟩) n rc) ∧ wz.cell? ⟨gr, 2, none⟩ = some (.slice (some ⟨ge, 0, none⟩) lc ce) ∧ wz.frozen? ⟨gr, 2, none⟩ = false) := fun wz hwz => ⟨heap_cell hcs hwz, heap_cell hrc hwz, heap_free hrf hwz⟩
            go_wp2_with fail
            refine wp_region_last [(0, false), (1, false), (2, false), (3, false), (4, false), (5, false), (6, false), (7, false), (8, true), (9, false)] 10 (fun wz => wz.heap = w7.heap) mixesSc (by kernel_rfl) rfl ?_
            repeat (refine ord_float rfl rfl (fun K hK => ⟨_, (fun w' hw => by have q0 := (HC.out w' hw).1; have q1 :=  (HC.out w' hw).2.1; go_simp; exact rfl), ?_⟩); go_simp; refine hK _ ?_; clear hK K)
            refine ord_op rfl rfl (fun K hK => ⟨_, w7.drew, (by go_simp <;> first | exact rfl | exact ⟨rfl, rfl⟩), rfl, ?_⟩)
            go_simp
            refine hK _ _ ?_
            clear hK K
            repeat (refine ord_float rfl rfl (fun K hK => ⟨_, (fun w' hw => by have q0 := (HC.out w' hw).1; go_simp; exact rfl), ?_⟩); go_simp; refine hK _ ?_; clear hK K)
            refine ord_nil ?_
            have hd1 := (HC.out w7.drew rfl).2.1
            have hd2 := (HC.out w7.drew rfl).2.2
            refine last_store rfl rfl rfl (w7.drew.setCell ⟨gr, 2, none⟩ (.slice (some ⟨ge, 1, none⟩) (lc - 1) (ce - 1))) (by go_simp <;> rfl) ?_
            have hO7d : NOwnV 3 146 V.heap.size w5.heap.size w7.drew (.slice (some ⟨gr, 0, none⟩) n rc) n vs5 ls := HO7.out.same (fun _ _ _ => rfl)
            have hst8 := World.ownsRow.stored hO7d.row 2 (.slice (some ⟨ge, 1, none⟩) (lc - 1) (ce - 1))
            have HRW : Hid ((w7.drew.setCell ⟨gr, 2, none⟩ (.slice (some ⟨ge, 1, none⟩) (lc - 1) (ce - 1))).ownsRow V.heap.size 146 3 (.slice (some ⟨gr, 0, none⟩) n rc) n (vs5.set 2 (.slice (some ⟨ge, 1, none⟩) (lc - 1) (ce - 1)))) := hst8.1
            have HEA : Hid (∀ i, i < n * 3 → ZOwn V.heap.size w5.heap.size (w7.drew.setCell ⟨gr, 2, none⟩ (.slice (some ⟨ge, 1, none⟩) (lc - 1) (ce - 1))) (vs5.getD i undef) (ls.getD i [])) := fun i hi => by
              have h0 := hO7d.each i hi
              refine ⟨World.ownsRow.kept h0.1 hst8.2 (.inr fun e => HO7.out.off i gr hi e rfl), h0.2⟩
            have hsys : Blk (w7.drew.setCell ⟨gr, 2, none⟩ (.slice (some ⟨ge, 1, none⟩) (lc - 1) (ce - 1))) w3.heap.size 26 #[.int .i64 wi, .int .i64 pu, .slice (some ⟨gr, 0, none⟩) n rc] := hs7.drew.other (g' := gr) (i := 2) (by omega) _
            have hres : Blk (w7.drew.setCell ⟨gr, 2, none⟩ (.slice (some ⟨ge, 1, none⟩) (lc - 1) (ce - 1))) w.heap.size 26 #[.int .i64 0, .int .i64 0, .slice none 0 0] := hres7.drew.other (g' := gr) (i := 2) (by omega) _
            have HCU : Hid (CurEnd w (w7.drew.setCell ⟨gr, 2, none⟩ (.slice (some ⟨ge, 1, none⟩) (lc - 1) (ce - 1))) c a len cap) := HC7.out.drew.cell (by omega) hcl _
            have HUU : Hid (ZOwn V6.heap.size w7.heap.size (w7.drew.setCell ⟨gr, 2, none⟩ (.slice (some ⟨ge, 1, none⟩) (lc - 1) (ce - 1))) (.slice (some ⟨g7, 0, none⟩) m.length c7) m) := (HU7.out.same (w' := w7.drew) (fun _ _ _ => rfl)).same (Same.set _ _ _ (.inl (by show gr < _; omega)))
            have hsw : w7.heap.size ≤ (w7.drew.setCell ⟨gr, 2, none⟩ (.slice (some ⟨ge, 1, none⟩) (lc - 1) (ce - 1))).heap.size := by simp [World.setCell]
            have HTOP : Hid (∀ k, (Value.slice (some ⟨gr, 0, none⟩) n rc).ownBlock = some k → k < w5.heap.size) := HO7.out.top
            have HLN : Hid (ls.length = n * 3) := HO7.out.len
            have HLB : Hid (∀ j, ((ls.set 2 (ls.getD 2 []).tail).getD j []).length ≤ 16) := fun j => by
              by_cases hj : 2 = j
              · subst hj
                rw [getD_set_same _ _ _ _ (by rw [HLN.out]; omega), List.length_tail]
                have := HLS.out 2
                omega
              · rw [getD_set_other _ _ _ _ _ hj]
                exact HLS.out j
            generalize w7.drew.setCell ⟨gr, 2, none⟩ (.slice (some ⟨ge, 1, none⟩) (lc - 1) (ce - 1)) = W8 at HRW HEA hsys hres HCU HUU hsw ⊢
            clear hst8 hO7d hs7 hres7 HC7 HO7 HU7 hd1 hd2 HC hrc hrf hel hec hef hcs
            go_wp2_with (first | (refine load_blk rfl rfl rfl hsys Tryz.underlying26 infoSy ?_) | (refine store_blkS (cs' := #[.int .i64 wi, .int .i64 pu, .slice (some ⟨gr, 0, none⟩) n rc]) rfl rfl rfl rfl rfl hres infoSy rfl (onesSy _ _ _ _ _) ?_; intro V8 h8 hheap hoth hbel; have hEV := HCU.out.store (Nat.le_refl _) hcl hoth hbel; have hb8 := hbel 0 W8 (Nat.zero_le _) (Below.refl _ _); clear hoth hbel))
            have hs8 : W8.heap.size ≤ V8.heap.size := hb8.size
            refine bodyPost_ret_by (result_Btmp rfl rfl rfl h8 Tryz.underlying26 infoSy) rfl ⟨wi, pu, _, .slice (some ⟨g7, 0, none⟩) m.length c7, n, ls.set 2 (ls.getD 2 []).tail, m, rfl, HWI.out, hn1, HLB.out, hml, fun VV hVV => ⟨(nat_put (j := 2) (owns_same HRW.out (lo := V.heap.size) (hi := w5.heap.size) (fun k h1 h2 => (hVV k (by omega) (by omega)).trans (hheap k (by omega))) (fun k hk => ⟨(HRW.out.lt k hk).1, HTOP.out k hk⟩)) HTOP.out HLN.out (fun i hi _ => ((HEA.out i hi).same (fun k h1 h2 => (hVV k (by omega) (by omega)).trans (hheap k (by omega)))).at) (ZOwn.rest (by have h := (HEA.out 2 (by omega)).same (w' := VV) (fun k h1 h2 => (hVV k (by omega) (by omega)).trans (hheap k (by omega))); rw [HEV.out] at h; exact h) HLC.out.symm (by rw [HLC.out]; omega) _) (by omega)).wide (by omega), (HUU.out.same (fun k h1 h2 => (hVV k (by omega) (by omega)).trans (hheap k (by omega)))).at.wide (by omega)⟩, hEV⟩
          · by_cases hk2 : k = 2
            · subst hk2
              obtain ⟨gr, hra⟩ : ∃ gr, ra = some ⟨gr, 0, none⟩ := by
                rcases HO7.out.row.2 with ⟨_, hz⟩ | ⟨g', c', cur, hve, _⟩
                · omega
                · exact ⟨g', by injection hve⟩
              subst hra
              have hgr : V.heap.size ≤ gr ∧ gr < w5.heap.size := ⟨(HO7.out.row.lt gr rfl).1, HO7.out.top gr rfl⟩
              have hj3 : 0 < n * 3 := by omega
              have hrc := HO7.out.cell hj3
              have hrf : w7.frozen? ⟨gr, 0, none⟩ = false := by
                rcases HO7.out.row.2 with ⟨_, hz⟩ | ⟨g', c', cur, hve, _, hh, _⟩
                · omega
                · injection hve with e1
                  injection e1 with e1
                  injection e1 with e1
                  subst e1
                  exact frozen_of_row w7 _ 0 _ _ hh
              have hel := HO7.out.each 0 hj3
              have hll := HDR.out.each 0 hj3
              obtain ⟨ge, ce, hev, hel1, _, hec, hef⟩ := hel.1.cellZ (j := 0) (by omega)
              have hge : V.heap.size ≤ ge ∧ ge < w5.heap.size := hel.in ge (by rw [hev]; rfl)
              have hne : ge ≠ gr := fun e => HO7.out.off 0 ge hj3 (by rw [hev]; rfl) (by rw [e]; rfl)
              have HEV : Hid (vs5.getD 0 undef = .slice (some ⟨ge, 0, none⟩) (ls.getD 0 []).length ce) := hev
              rw [hev] at hrc hel
              have hcap : (ls.getD 0 []).length ≤ ce := hel.1.cap
              clear hev hel1
              generalize hlc : (ls.getD 0 []).length = lc at *
              have HLC : Hid ((ls.getD 0 []).length = lc) := hlc
              clear hlc
              have hcs := hs7.cell 2
              replace hcs : w7.cell? ⟨w3.heap.size, 2, none⟩ = some (.slice (some ⟨gr, 0, none⟩) n rc) := hcs
              have hn2 : (0 : Int) < (n : Int) := by omega
              have hn3 : 0 < n := by omega
              have hn4 : ¬ n = 0 := by omega
              have hl3 : 0 < lc := by omega
              have hl4 : ¬ lc = 0 := by omega
              obtain ⟨j3, hj3e, hj3l⟩ : ∃ j3 : Nat, Int.tmod x 3 = (j3 : Int) ∧ j3 < 3 := ⟨(Int.tmod x 3).toNat, by rw [Int.tmod_eq_emod_of_nonneg (by omega)]; omega, by rw [Int.tmod_eq_emod_of_nonneg (by omega)]; omega⟩
              have hj30 : (0 : Int) ≤ (j3 : Int) := by omega
              have hj31 : (j3 : Int) < 3 := by omega
              obtain ⟨y, hy⟩ : ∃ y : Int, (#[Value.int .i64 (-1), .int .i64 1008, .int .i64 1009])[j3]? = some (.int .i64 y) := by
                rcases (show j3 = 0 ∨ j3 = 1 ∨ j3 = 2 by omega) with rfl | rfl | rfl <;> exact ⟨_, rfl⟩
              have HC : Hid (∀ wz : World, Below w7.heap.size w7 wz → wz.cell? ⟨w3.heap.size, 2, none⟩ = some (.slice (some ⟨gr, 0, none⟩) n rc) ∧ wz.cell? ⟨gr, 0, none⟩ = some (.slice (some ⟨ge, 0, none⟩) lc ce)) := fun wz hwz => ⟨(hwz.cell (p := ⟨w3.heap.size, 2, none⟩) (by show w3.heap.size < _; omega)).trans hcs, (hwz.cell (p := ⟨gr, 0, none⟩) (by show gr < _; omega)).trans hrc⟩
              have hnew : (w7.drew.alloc (.cells #[.int .i64 (-1), .int .i64 1008, .int .i64 1009] 3)).cell? ⟨w7.heap.size, j3, none⟩ = some (.int .i64 y) := ((Blk.new w7.drew 3 #[.int .i64 (-1), .int .i64 1008, .int .i64 1009]).cell j3).trans hy
              obtain ⟨V9, hV9⟩ : ∃ V9, w7.drew.alloc (.cells #[.int .i64 (-1), .int .i64 1008, .int .i64 1009] 3) = V9 := ⟨_, rfl⟩
              have hB9 : Below w7.heap.size w7 V9 := by rw [← hV9]; exact (Below.refl _ _).drew.alloc (Nat.le_refl _) _
              rw [hV9] at hnew
              go_wp2_with fail
              refine wp_region_last [(0, false), (1, false), (2, false), (3, false), (4, false), (6, false), (7, false), (5, true), (8, false), (9, true), (10, false)] 11 (fun wz => Below w7.heap.size w7 wz) mixesSc (by kernel_rfl) (Below.refl _ _).drew ?_
              repeat (refine ord_float rfl rfl (fun K hK => ⟨_, (fun w' hw => by have q0 := (HC.out w' hw).1; have q1 :=  (HC.out w' hw).2; go_simp; exact rfl), ?_⟩); go_simp; refine hK _ ?_; clear hK K)
              refine ord_op rfl rfl (fun K hK => ⟨.slice (some ⟨w7.heap.size, 0, none⟩) 3 3, V9, (by go_simp <;> first | rfl | (rw [← hV9]; rfl)), hB9, ?_⟩)
              go_simp
              refine hK _ _ ?_
              clear hK K hV9
              repeat (refine ord_float rfl rfl (fun K hK => ⟨_, (fun w' hw => by have q0 := (HC.out w' hw).1; go_simp; exact rfl), ?_⟩); go_simp; refine hK _ ?_; clear hK K)
              refine ord_op rfl rfl (fun K hK => ⟨.int .i64 y, V9, (by go_simp), hB9, ?_⟩)
              go_simp
              refine hK _ _ ?_
              clear hK K
              repeat (refine ord_float rfl rfl (fun K hK => ⟨_, (fun w' hw => by have q0 := (HC.out w' hw).1; go_simp; exact rfl), ?_⟩); go_simp; refine hK _ ?_; clear hK K)
              refine ord_nil ?_
              have hO9 : NOwnV 3 146 V.heap.size w5.heap.size V9 (.slice (some ⟨gr, 0, none⟩) n rc) n vs5 ls := HO7.out.same (Same.of_below hB9 (by omega))
              have he9 := hO9.each 0 hj3
              rw [HEV.out] at he9
              obtain ⟨g9, c9, hv9, _, _, hcz, hcf⟩ := he9.1.cellZ (j := 0) (by rw [HLC.out]; omega)
              have hg9 : g9 = ge := by injection hv9 with e1; injection e1 with e1; injection e1 with e1; exact e1.symm
              subst hg9
              refine last_store rfl rfl rfl (V9.setCell ⟨g9, 0, none⟩ (.int .i64 y)) (by go_simp <;> rfl) ?_
              have HOU : Hid (NOwnV 3 146 V.heap.size w5.heap.size (V9.setCell ⟨g9, 0, none⟩ (.int .i64 y)) (.slice (some ⟨gr, 0, none⟩) n rc) n vs5 (ls.set 0 ((ls.getD 0 []).set 0 y))) := hO9.turn hj3 (by rw [HEV.out]; exact he9.1.put 0 y) ((Kps.refl _ V9).setCell (p := ⟨g9, 0, none⟩) (by rw [HEV.out]; rfl) _)
              have hsys : Blk (V9.setCell ⟨g9, 0, none⟩ (.int .i64 y)) w3.heap.size 26 #[.int .i64 wi, .int .i64 pu, .slice (some ⟨gr, 0, none⟩) n rc] := (hs7.on hB9 hs7.lt).other (g' := g9) (i := 0) (by omega) _
              have hres : Blk (V9.setCell ⟨g9, 0, none⟩ (.int .i64 y)) w.heap.size 26 #[.int .i64 0, .int .i64 0, .slice none 0 0] := (hres7.on hB9 hres7.lt).other (g' := g9) (i := 0) (by omega) _
              have HCU : Hid (CurEnd w (V9.setCell ⟨g9, 0, none⟩ (.int .i64 y)) c a len cap) := (HC7.out.below hB9).cell (by omega) hcl _
              have HUU : Hid (ZOwn V6.heap.size w7.heap.size (V9.setCell ⟨g9, 0, none⟩ (.int .i64 y)) (.slice (some ⟨g7, 0, none⟩) m.length c7) m) := (HU7.out.same (Same.of_below hB9 (Nat.le_refl _))).same (Same.set _ _ _ (.inl (by show g9 < _; omega)))
              have hsw : w7.heap.size ≤ (V9.setCell ⟨g9, 0, none⟩ (.int .i64 y)).heap.size := by have := hB9.size; simpa [World.setCell] using this
              have HLB : Hid (∀ j, ((ls.set 0 ((ls.getD 0 []).set 0 y)).getD j []).length ≤ 16) := fun j => by
                by_cases hj : 0 = j
                · subst hj
                  rw [getD_set_same _ _ _ _ (by rw [HO7.out.len]; omega), List.length_set]
                  exact HLS.out 0
                · rw [getD_set_other _ _ _ _ _ hj]
                  exact HLS.out j
              generalize V9.setCell ⟨g9, 0, none⟩ (.int .i64 y) = W8 at HOU hsys hres HCU HUU hsw ⊢
              clear hO9 he9 hs7 hres7 HC7 HO7 HU7 HC hrc hrf hel hec hef hcs hcz hcf hv9 hnew hB9 hy
              go_wp2_with (first | (refine load_blk rfl rfl rfl hsys Tryz.underlying26 infoSy ?_) | (refine store_blkS (cs' := #[.int .i64 wi, .int .i64 pu, .slice (some ⟨gr, 0, none⟩) n rc]) rfl rfl rfl rfl rfl hres infoSy rfl (onesSy _ _ _ _ _) ?_; intro V8 h8 hheap hoth hbel; have hEV := HCU.out.store (Nat.le_refl _) hcl hoth hbel; have hb8 := hbel 0 W8 (Nat.zero_le _) (Below.refl _ _); clear hoth hbel))
              have hs8 : W8.heap.size ≤ V8.heap.size := hb8.size
              refine bodyPost_ret_by (result_Btmp rfl rfl rfl h8 Tryz.underlying26 infoSy) rfl ⟨wi, pu, _, .slice (some ⟨g7, 0, none⟩) m.length c7, n, ls.set 0 ((ls.getD 0 []).set 0 y), m, rfl, HWI.out, hn1, HLB.out, hml, fun VV hVV => ⟨(HOU.out.same (fun k h1 h2 => (hVV k (by omega) (by omega)).trans (hheap k (by omega)))).at.wide (by omega), (HUU.out.same (fun k h1 h2 => (hVV k (by omega) (by omega)).trans (hheap k (by omega)))).at.wide (by omega)⟩, hEV⟩
            · have hsys := hs7
              have hres := hres7
              have HCU := HC7
              have HOU := HO7
              have HUU := HU7
              have hq0 : (k == 0) = false := by rw [beq_eq_false_iff_ne]; exact hk0
              have hq1 : (k == 1) = false := by rw [beq_eq_false_iff_ne]; exact hk1
              have hq2 : (k == 2) = false := by rw [beq_eq_false_iff_ne]; exact hk2
              have hq3 : (k == 3) = false := by rw [beq_eq_false_iff_ne]; exact hk3
              have hq4 : (k == 4) = false := by rw [beq_eq_false_iff_ne]; exact hk4
              have hq5 : (k == 5) = false := by rw [beq_eq_false_iff_ne]; exact hk5
              clear hs7 hres7 HC7 HO7 HU7
              go_wp2_with (first | (refine load_blk rfl rfl rfl hsys Tryz.underlying26 infoSy ?_) | (refine store_blkS (cs' := #[.int .i64 wi, .int .i64 pu, .slice ra n rc]) rfl rfl rfl rfl rfl hres infoSy rfl (onesSy _ _ _ _ _) ?_; intro V8 h8 hheap hoth hbel; have hEV := HCU.out.store (Nat.le_refl _) hcl hoth hbel; have hb8 := hbel 0 w7 (Nat.zero_le _) (Below.refl _ _); clear hoth hbel))
              have hs8 : w7.heap.size ≤ V8.heap.size := hb8.size
              refine bodyPost_ret_by (result_Btmp rfl rfl rfl h8 Tryz.underlying26 infoSy) rfl ⟨wi, pu, _, .slice (some ⟨g7, 0, none⟩) m.length c7, n, ls, m, rfl, HWI.out, hn1, HLS.out, hml, fun VV hVV => ⟨(HOU.out.same (fun k h1 h2 => (hVV k (by omega) (by omega)).trans (hheap k (by omega)))).at.wide (by omega), (HUU.out.same (fun k h1 h2 => (hVV k (by omega) (by omega)).trans (hheap k (by omega)))).at.wide (by omega)⟩, hEV⟩

end Go.Proofs.YthnahalboomkoaaGreat

/-
  The draws of systems for what becomes of them.
  (-DROP-: what the seat lacks is left out.)
-/
namespace Go.Proofs.YthnahalboomkoaaGreat
open Go.RowKit

/-- What the draw leaves. -/
def QuoEnd (w : World) (e : Ending) (w' : World) : Prop := ∃ (wi pu : Int) (v u : Value) (n : Nat) (ls : List (List Int)) (m : List Int), e = .returned (.tuple #[sysV wi pu v, u]) ∧ (Lit.int .i64 wi).wf = true ∧ n ≤ 16 ∧ (∀ j, (ls.getD j []).length ≤ 16) ∧ m.length ≤ 16 ∧ NAt 3 w' w'.heap.size v n ls ∧ ZAt w' w'.heap.size u m ∧ Below w.heap.size w w'

/-- What the draw of a system alone leaves. -/
def QapOfEnd (w : World) (e : Ending) (w' : World) : Prop := ∃ (wi pu : Int) (v : Value) (n : Nat) (ls : List (List Int)), e = .returned (sysV wi pu v) ∧ (Lit.int .i64 wi).wf = true ∧ n ≤ 16 ∧ (∀ j, (ls.getD j []).length ≤ 16) ∧ NAt 3 w' w'.heap.size v n ls ∧ Below w.heap.size w w'

end Go.Proofs.YthnahalboomkoaaGreat
