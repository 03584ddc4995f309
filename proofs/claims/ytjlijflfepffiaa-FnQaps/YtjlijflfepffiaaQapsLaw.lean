/-
  The walk of the law of many rows and one product.
  (-DROP-: what the seat lacks is left out.)
-/
import Derived.Test.YtjlijflfepffiaaQapI7
import Derived.Test.YtjlijflfepffiaaJoined21
import Derived.Test.YtjlijflfepffiaaJoined22
import Derived.Test.YtjlijflfepffiaaJoined6
import Derived.Test.YtjlijflfepffiaaPolyMulS
import Derived.Test.YtjlijflfepffiaaJoined12

namespace Go.Proofs.Ytjlijflfepffiaa
open Go.RowKit

theorem ArgAt.widenQ {w : World} {a : Option Addr} {len c d : Nat} (h : ArgAt w a len c) (hd : c ≤ d) : ArgAt w a len d := fun j hj => by
  obtain ⟨b, off, z, h1, h2, h3⟩ := h j hj
  exact ⟨b, off, z, h1, by omega, h3⟩
theorem wfQ {x : Int} (h0 : 0 ≤ x) (h1 : x ≤ 1000) : (Lit.int .i64 x).wf = true := wf_small (by omega) (by omega)
/-- What is drawn, and where it is read. -/
structure QSt (w : World) (sb : Nat) (wi pu : Int) (va : Option Addr) (n vc : Nat) (ls : List (List Int)) (u : Value) (m : List Int) (g x0 x1 x2 : Nat) (X : World) : Prop where
  bel : Below w.heap.size w X
  sys : Blk X sb 26 #[.int .i64 wi, .int .i64 pu, .slice va n vc]
  rows : NAt 3 X X.heap.size (.slice va n vc) n ls
  wit : ZAt X X.heap.size u m
  lt : g < X.heap.size
  p0 : X.cell? ⟨g, 0, none⟩ = some (.int .i64 (x0 : Int))
  p1 : X.cell? ⟨g, 1, none⟩ = some (.int .i64 (x1 : Int))
  p2 : X.cell? ⟨g, 2, none⟩ = some (.int .i64 (x2 : Int))
theorem QSt.on {w : World} {sb : Nat} {wi pu : Int} {va : Option Addr} {n vc : Nat} {ls : List (List Int)} {u : Value} {m : List Int} {g x0 x1 x2 : Nat} {X Y : World} (h : QSt w sb wi pu va n vc ls u m g x0 x1 x2 X) (hb : Below X.heap.size X Y) : QSt w sb wi pu va n vc ls u m g x0 x1 x2 Y :=
  ⟨h.bel.trans (hb.mono h.bel.size), h.sys.on hb h.sys.lt, (h.rows.on hb).wide hb.size, (h.wit.on hb).wide hb.size, Nat.lt_of_lt_of_le h.lt hb.size, (hb.cell (p := ⟨g, 0, none⟩) h.lt).trans h.p0, (hb.cell (p := ⟨g, 1, none⟩) h.lt).trans h.p1, (hb.cell (p := ⟨g, 2, none⟩) h.lt).trans h.p2⟩
/-- Scalars with one of them another one. -/
theorem wide_bent {m : List Int} {wi : Int} (h : wide m wi = true) (i : Nat) (x d : Int) : wide (m.set i (scAdd x d)) wi = true := by
  unfold wide at h ⊢
  rw [Bool.and_eq_true] at h ⊢
  rw [List.length_set]
  refine ⟨h.1, List.all_eq_true.2 fun y hy => ?_⟩
  rcases List.mem_or_eq_of_mem_set hy with h1 | h1
  · exact List.all_eq_true.1 h.2 y h1
  · have h2 := sc_add x d
    rw [h1]
    exact decide_eq_true ⟨h2.1, by have := h2.2; omega⟩
set_option maxHeartbeats 6400000 in
set_option maxRecDepth 100000 in
theorem lawQaps (a : Option Addr) (len cap : Nat) (hm : len ≤ 9223372036854775807) (w : World) (hA : ArgAt w a len w.heap.size) :
    Calls Try.prog 3 #[.slice a len cap] w fun e w' => e = .returned (.bool true) ∧ Below w.heap.size w w' := by
  obtain ⟨i0, hi, hz0, hz1, hz2⟩ := info_parts info3I
  have HA : Hid (ArgAt w a len w.heap.size) := hA
  clear hA
  by_cases hb : 1048576 < len
  · have hd : decide (1048576 < len) = true := decide_eq_true hb
    go_enter Try.func3, Try.ntmps3
    go_wp2_with (go_at_call 9; refine (big_any _ _ _ hm _).mono ?_; rintro e w0 ⟨rfl, rfl⟩)
    go_ret
    exact ⟨rfl, Below.refl _ _⟩
  · have hd : decide (1048576 < len) = false := decide_eq_false hb
    have hm1 : len ≤ 1048576 := by omega
    have CB : Hid (∀ w, Calls Try.prog 9 #[.slice a len cap] w fun e w' => e = .returned (.bool false) ∧ w = w') := fun w => by rw [← hd]; exact big_any _ _ _ hm w
    clear hb hd hm
    go_enter Try.func3, Try.ntmps3
    go_wp2_with fail
    go_at_call 9
    refine (CB.out _).mono ?_
    rintro e wz ⟨rfl, rfl⟩
    go_wp2_with fail
    refine (systemD_any len cap a hm1 _ HA.out).mono ?_
    rintro e w1 ⟨wi, pu, v, u, n, ls, m, rfl, hdr, hrt, hN, hU, hb1⟩
    obtain ⟨_, va, vc, hva, _⟩ := id hN
    subst hva
    obtain ⟨ua, uc, hua, _⟩ := id hU
    subst hua
    have HDR : Hid (Drawn wi pu n ls m) := hdr
    have HRT : Hid (Right wi pu n ls m) := hrt
    have HNU : Hid (NAt 3 w1 w1.heap.size (.slice va n vc) n ls ∧ ZAt w1 w1.heap.size (.slice ua m.length uc) m ∧ Below w.heap.size w w1) := ⟨hN, hU, hb1⟩
    have hml2 := hdr.m0
    have hml16 := hdr.m1
    have hn1 := hdr.n0
    have hn16 := hdr.n1
    clear hN hU hb1 hdr hrt CB
    have HLN : Hid (ls.length = n * 3) := HNU.out.1.1
    obtain ⟨ml, hml⟩ : ∃ ml, ml = m.length := ⟨_, rfl⟩
    have HML : Hid (ml = m.length) := hml
    rw [← hml] at HNU hml2 hml16 ⊢
    clear hml
    unfold sysV
    obtain ⟨V0, hV0, hbv0, hsv0⟩ := box1 w1 26 #[.int .i64 0, .int .i64 0, .slice none 0 0]
    go_wp2_with (refine store_blkS (cs' := #[.int .i64 wi, .int .i64 pu, .slice va n vc]) rfl rfl rfl rfl rfl hsv0 infoSy rfl (onesSy _ _ _ _ _) ?_; intro V3 hsy hheap hoth hbel; have hbV3 := hbel _ _ (Nat.le_refl _) hbv0; clear hoth hbel hheap)
    have hAV : Hid (ArgAt V3 a len V3.heap.size) := by
      have h := HNU.out.2.2.trans (hbV3.mono HNU.out.2.2.size)
      exact (HA.out.on h).widenQ h.size
    refine (places_any len cap a hm1 _ hAV.out).mono ?_
    rintro e w2 ⟨g, gp, xs, rfl, hg, _, hx, hb2⟩
    have hb12 : Below w1.heap.size w1 w2 := hbV3.trans (hb2.mono hbV3.size)
    have HQ : Hid (QSt w w1.heap.size wi pu va n vc ls (.slice ua ml uc) m g (xs 0) (xs 1) (xs 2) w2) := ⟨HNU.out.2.2.trans (hb12.mono HNU.out.2.2.size), hsy.on hb2 hsy.lt, (HNU.out.1.on hb12).wide hb12.size, (HNU.out.2.1.on hb12).wide hb12.size, hg, (hx 0 (by omega)).2, (hx 1 (by omega)).2, (hx 2 (by omega)).2⟩
    have hx0 := (hx 0 (by omega)).1
    have hx1 := (hx 1 (by omega)).1
    generalize xs 0 = x0 at HQ hx0
    generalize xs 1 = x1 at HQ hx1
    generalize xs 2 = x2 at HQ
    clear hx hb2 hb12 hbV3 hsy hsv0 hbv0 hV0 HNU hAV HA
    have HWF : Hid ((Lit.int .i64 wi).wf = true) := wfQ HDR.out.wi0 HDR.out.wi1
    have HZ : Hid (∀ j, (ls.getD j []).length ≤ 9223372036854775807) := fun j => by
      by_cases hj : j < n * 3
      · have := (HDR.out.each j hj).2; omega
      · rw [List.getD_eq_getElem?_getD, List.getElem?_eq_none (by rw [HLN.out]; omega)]
        exact Nat.zero_le _
    have CQ : Hid (∀ (g' : Option Addr) (c' : Nat) (b : List Int) (X : World), b.length = ml → NAt 3 X X.heap.size (.slice va n vc) n ls → ZAt X X.heap.size (.slice g' ml c') b → Calls Try.prog 12 #[.agg #[.int .i64 wi, .int .i64 pu, .slice va n vc], .slice g' ml c'] X fun e w' => ∃ q, e = .returned (.tuple #[q, .bool (quotB wi pu n ls b)]) ∧ ZOwn X.heap.size w'.heap.size w' q (quotL wi pu n ls b) ∧ Below X.heap.size X w') := fun g' c' b X hbl hN hB => by
      subst hbl
      exact iQuot_any wi pu HWF.out va n vc (by omega) ls HZ.out g' c' b (by omega) X hN hB
    have CH : Hid (∀ (x : Int) (X : World), NAt 3 X X.heap.size (.slice va n vc) n ls → ZAt X X.heap.size (.slice ua ml uc) m → Calls Try.prog 16 #[.agg #[.int .i64 wi, .int .i64 pu, .slice va n vc], .slice ua ml uc, .int .i64 x] X fun e w' => e = .returned (.bool true) ∧ Below X.heap.size X w') := fun x X hN hB => by
      have e : quotB wi pu n ls m = true := by rw [quot_so wi pu n ls m HLN.out HRT.out.1 HRT.out.2.1]; exact HRT.out.2.2
      have h := HML.out
      subst h
      rw [← e]
      exact iQHolds_any wi pu HWF.out va n vc (by omega) ls HZ.out ua uc m (by omega) x X hN hB
    have HQT : Hid (quotB wi pu n ls m = true) := by show _ = _; rw [quot_so wi pu n ls m HLN.out HRT.out.1 HRT.out.2.1]; exact HRT.out.2.2
    have HQN : Hid ((quotL wi pu n ls m).length < n) := by
      obtain ⟨_, _, _, h3, h4, h5, h6⟩ := quotB_parts HQT.out
      show _ < _
      unfold quotL
      rw [HQT.out, if_pos rfl]
      exact quo_lt h3 h4 (sideL_small ls n wi.toNat 0 m h4 h5).2 (sideL_small ls n wi.toNat 1 m h4 h5).2 (sideL_small ls n wi.toNat 2 m h4 h5).2
    have hsy := HQ.out.sys
    have CQ1 : Hid (Calls Try.prog 12 #[.agg #[.int .i64 wi, .int .i64 pu, .slice va n vc], .slice ua ml uc] w2 fun e w' => ∃ q, e = .returned (.tuple #[q, .bool true]) ∧ ZOwn w2.heap.size w'.heap.size w' q (quotL wi pu n ls m) ∧ Below w2.heap.size w2 w') := by
      have h := CQ.out ua uc m w2 HML.out.symm HQ.out.rows HQ.out.wit
      rwa [HQT.out] at h
    go_wp2_with (refine load_blk rfl rfl rfl hsy Try.underlying26 infoSy ?_)
    refine CQ1.out.mono ?_
    rintro e w5 ⟨q, rfl, hq, hb5⟩
    obtain ⟨qa, qc, hqv⟩ := row_form hq.1
    subst hqv
    have HQ5 : Hid (QSt w w1.heap.size wi pu va n vc ls (.slice ua ml uc) m g x0 x1 x2 w5) := HQ.out.on hb5
    obtain ⟨ql, hql⟩ : ∃ ql, ql = (quotL wi pu n ls m).length := ⟨_, rfl⟩
    have hqn : ql < n := by rw [hql]; exact HQN.out
    rw [← hql]
    clear hq hb5 CQ1 HQ hsy hql HQN
    have hE6 : (w5.alloc (.cells #[] 3)).ownsRow w5.heap.size 3 1 (.slice (some ⟨w5.heap.size, 0, none⟩) 0 0) 0 [] := World.ownsRow_lit w5 #[] 0 (Nat.le_refl _) (by simp [maxLen]) (by simp)
    obtain ⟨am, cm, hv, hI⟩ := HQ5.out.wit
    obtain ⟨b0', o0', hab, hbb, N0⟩ := ints_news hI (by rw [← HML.out]; omega)
    have hua : ua = some ⟨b0', o0', none⟩ := by injection hv with e1; rw [e1, hab]
    subst hua
    have HN6 : Hid (∀ j q, (zsV m)[j]? = some q → (w5.alloc (.cells #[] 3)).cell? ((⟨b0', o0', none⟩ : Addr).add j) = some q) := fun j q hq => by
      rw [Addr.add_lit]
      rw [← N0 j q hq, Addr.add_lit]
      exact World.cell?_of_block (a := ⟨b0', o0' + j, none⟩) (Below.heap_alloc w5 _ b0' hbb)
    clear hv hI hab hbb N0
    go_wp2_with (at_builtin; refine wpList_append_own_at _ rfl _ _ 27 rfl w5.heap.size 3 i0 (.int .i64 0) 1 8 Try.underlying27 hi hz0 hz1 hz2 rfl (by decide) _ _ _ rfl hE6 ⟨b0', o0', none⟩ ml uc (zsV m) rfl (by rw [zsV, List.length_map, ← HML.out, Nat.mul_one]) HN6.out (zsV_one _) (by unfold maxLen; omega) (by omega) (by simp) ?_)
    intro u6 w6 hown6 hg6 _ hat6
    have hg8 : (w5.alloc (.cells #[] 3)).grownBy w6 (some w5.heap.size) := hg6
    have hR6 : RowZs w5.heap.size w6 u6 m := by
      unfold RowZs
      rw [← HML.out]
      simpa using hown6
    have hz8 : (w5.alloc (.cells #[] 3)).heap.size = w5.heap.size + 1 := by simp
    have hs6 : w5.heap.size + 1 ≤ w6.heap.size := by have := hg8.size; omega
    have hB56 : Below w5.heap.size w5 w6 := ⟨hg8.os, hg8.tape, hg8.output, by omega, fun k hk => (hg8.block k (by omega) (fun e => by have := Option.some.inj e; omega)).trans (Below.heap_alloc w5 _ k hk)⟩
    obtain ⟨g6, c6, hu6, hg6l, hg6h, _, _⟩ := hR6.cellZ (j := 0) (by rw [← HML.out]; omega)
    rw [← HML.out] at hu6
    subst hu6
    have HBT : Hid (ZOwn w5.heap.size w6.heap.size w6 (.slice (some ⟨g6, 0, none⟩) ml c6) m) := ZOwn.of hR6
    have HB56 : Hid (Below w5.heap.size w5 w6) := hB56
    have p0 := (HQ5.out.on hB56).p0
    have p1 := (HQ5.out.on hB56).p1
    clear hown6 hg6 hg8 hR6 hz8 hat6 hE6 HN6 hB56
    have hml0 : ¬ (ml : Int) = 0 := by omega
    have hml1 : (0 : Int) < (ml : Int) := by omega
    obtain ⟨i, hii, hil⟩ : ∃ i : Nat, Int.tmod (x0 : Int) (ml : Int) = (i : Int) ∧ i < ml := ⟨(Int.tmod (x0 : Int) (ml : Int)).toNat, by rw [Int.tmod_eq_emod_of_nonneg (by omega)]; have := Int.emod_nonneg (x0 : Int) hml0; omega, by rw [Int.tmod_eq_emod_of_nonneg (by omega)]; have h1 := Int.emod_lt_of_pos (x0 : Int) hml1; have h2 := Int.emod_nonneg (x0 : Int) hml0; omega⟩
    have hil' : (i : Int) < (ml : Int) := by omega
    have hi0' : (0 : Int) ≤ (i : Int) := by omega
    obtain ⟨k2, hk2, hk20, hk21⟩ : ∃ k2 : Int, Int.tmod (x1 : Int) 1008 = k2 ∧ 0 ≤ k2 ∧ k2 < 1008 := ⟨_, rfl, by rw [Int.tmod_eq_emod_of_nonneg (by omega)]; omega, by rw [Int.tmod_eq_emod_of_nonneg (by omega)]; omega⟩
    obtain ⟨d, hd⟩ : ∃ d : Int, 1 + k2 = d := ⟨_, rfl⟩
    have hwd : IntKind.i64.wrap d = d := IntWalk.i64_in _ (by omega)
    obtain ⟨g9, c9, hv9, _, _, hcz, hcf⟩ := HBT.out.1.cellZ (j := i) (by rw [← HML.out]; exact hil)
    have hg9 : g9 = g6 := by injection hv9 with e1; injection e1 with e1; injection e1 with e1; exact e1.symm
    subst hg9
    have HC : Hid (∀ wz : World, wz.heap = w6.heap → wz.cell? ⟨g9, i, none⟩ = some (.int .i64 (m.getD i 0)) ∧ wz.frozen? ⟨g9, i, none⟩ = false ∧ wz.cell? ⟨g, 1, none⟩ = some (.int .i64 (x1 : Int))) := fun wz hwz => ⟨cell_heap hcz hwz, free_heap hcf hwz, cell_heap p1 hwz⟩
    have CA : Hid (∀ w, Calls Try.prog 13 #[.int .i64 (m.getD i 0), .int .i64 d] w fun e w' => e = .returned (.int .i64 (scAdd (m.getD i 0) d)) ∧ w = w') := sScAdd_any _ _
    have HBW : Hid (wide (m.set i (scAdd (m.getD i 0) d)) wi = true) := wide_bent HRT.out.2.1 i _ d
    have HPUT : Hid (∀ wz : World, wz.heap = w6.heap → ZOwn w5.heap.size w6.heap.size (wz.setCell ⟨g9, i, none⟩ (.int .i64 (scAdd (m.getD i 0) d))) (.slice (some ⟨g9, 0, none⟩) ml c6) (m.set i (scAdd (m.getD i 0) d))) := fun wz hwz => ⟨(HBT.out.1.heap hwz).put i _, HBT.out.2⟩
    have HWL2 : Hid ((m.set i (scAdd (m.getD i 0) d)).length = ml) := by show _ = _; rw [List.length_set, ← HML.out]
    generalize m.set i (scAdd (m.getD i 0) d) = bent at HBW HPUT HWL2
    generalize scAdd (m.getD i 0) d = y at CA HPUT
    generalize m.getD i 0 = x at HC CA
    clear hv9 hcz hcf HBT p1
    go_wp2_with fail
    clear p0 hii
    refine wp_region_last [(0, false), (1, false), (2, false), (3, false), (4, false), (5, false), (6, false), (7, false), (8, false), (9, false), (10, false), (11, true), (12, false)] 13 (fun wz => wz.heap = w6.heap) mixesSc (by kernel_rfl) rfl ?_
    repeat (refine ord_float rfl rfl (fun K hK => ⟨_, (fun w' hw => by have q0 := (HC.out w' hw).1; have q1 :=  (HC.out w' hw).2.2; go_simp; exact rfl), ?_⟩); go_simp; refine hK _ ?_; clear hK K)
    refine ord_call rfl rfl (fun K hK => ⟨_, _, (by go_simp <;> first | exact rfl | exact ⟨rfl, rfl⟩), ?_⟩)
    refine (CA.out _).mono ?_
    rintro e u7 ⟨rfl, hu7⟩
    have T7 : u7.heap = w6.heap := (by rw [← hu7]; rfl)
    refine ⟨_, rfl, T7, ?_⟩
    go_simp
    refine hK _ _ ?_
    clear hK K
    repeat (refine ord_float rfl rfl (fun K hK => ⟨_, (fun w' hw => by have q0 := (HC.out w' hw).1; go_simp; exact rfl), ?_⟩); go_simp; refine hK _ ?_; clear hK K)
    refine ord_nil ?_
    have hq1 := (HC.out u7 T7).1
    have hq2 := (HC.out u7 T7).2.1
    refine last_store rfl rfl rfl (u7.setCell ⟨g9, i, none⟩ (.int .i64 y)) (by go_simp <;> rfl) ?_
    have HBT7 : Hid (ZOwn w5.heap.size w6.heap.size (u7.setCell ⟨g9, i, none⟩ (.int .i64 y)) (.slice (some ⟨g9, 0, none⟩) ml c6) bent) := HPUT.out u7 T7
    have hB67 : Below w5.heap.size w6 (u7.setCell ⟨g9, i, none⟩ (.int .i64 y)) := by
      subst hu7
      exact (Below.refl _ _).drew.setCell (by show w5.heap.size ≤ g9; omega) _
    have hs7 : w6.heap.size ≤ (u7.setCell ⟨g9, i, none⟩ (.int .i64 y)).heap.size := hB67.size
    have HQ7 : Hid (QSt w w1.heap.size wi pu va n vc ls (.slice (some ⟨b0', o0', none⟩) ml uc) m g x0 x1 x2 (u7.setCell ⟨g9, i, none⟩ (.int .i64 y))) := HQ5.out.on (HB56.out.trans hB67)
    generalize u7.setCell ⟨g9, i, none⟩ (.int .i64 y) = w7 at HBT7 hs7 HQ7 ⊢
    clear hu7 T7 hq1 hq2 hB67 HC CA HPUT HQ5 HB56 hk2 hd hwd
    have hsy7 := HQ7.out.sys
    have HMB : Hid (quotB wi pu n ls bent = soN ls bent n) := quot_so wi pu n ls bent HLN.out HRT.out.1 HBW.out
    have CQ2 : Hid (Calls Try.prog 12 #[.agg #[.int .i64 wi, .int .i64 pu, .slice va n vc], .slice (some ⟨g9, 0, none⟩) ml c6] w7 fun e w' => ∃ q, e = .returned (.tuple #[q, .bool (soN ls bent n)]) ∧ ZOwn w7.heap.size w'.heap.size w' q (quotL wi pu n ls bent) ∧ Below w7.heap.size w7 w') := by
      have h := CQ.out (some ⟨g9, 0, none⟩) c6 bent w7 HWL2.out HQ7.out.rows (HBT7.out.at.wide (by omega))
      rwa [HMB.out] at h
    go_wp2_with (refine load_blk rfl rfl rfl hsy7 Try.underlying26 infoSy ?_)
    refine CQ2.out.mono ?_
    rintro e w8 ⟨q8, rfl, _, hb8⟩
    have HQ8 : Hid (QSt w w1.heap.size wi pu va n vc ls (.slice (some ⟨b0', o0', none⟩) ml uc) m g x0 x1 x2 w8) := HQ7.out.on hb8
    have HBT8 : Hid (ZAt w8 w8.heap.size (.slice (some ⟨g9, 0, none⟩) ml c6) bent) := ((HBT7.out.at.wide (by omega)).on hb8).wide hb8.size
    clear hb8 CQ2 hsy7 HQ7 HBT7 CQ HMB HBW
    obtain ⟨mb, hmb⟩ : ∃ mb, mb = soN ls bent n := ⟨_, rfl⟩
    have HMB : Hid (mb = soN ls bent n) := hmb
    rw [← hmb]
    clear hmb
    go_wp2
    go_loopw [12, 13] (fun r iv wr => ∃ (k : Nat), iv = .int .i64 (k : Int) ∧ k ≤ n ∧ r = .bool (soN ls bent k) ∧ Hid (QSt w w1.heap.size wi pu va n vc ls (.slice (some ⟨b0', o0', none⟩) ml uc) m g x0 x1 x2 wr ∧ ZAt wr wr.heap.size (.slice (some ⟨g9, 0, none⟩) ml c6) bent)) (fun _ iv _ => n - (intOf iv).toNat)
    case atStart => exact ⟨0, rfl, Nat.zero_le _, rfl, ⟨HQ8.out, HBT8.out⟩⟩
    case round =>
      obtain ⟨k, rfl, hk, rfl, HR⟩ := hrel
      clear HQ8 HBT8
      have hcr : wr.cell? ⟨w1.heap.size, 2, none⟩ = some (.slice va n vc) := HR.out.1.sys.cell 2
      by_cases hkn : k < n
      · have hkn' : (k : Int) < (n : Int) := by omega
        have hk0 : (0 : Int) ≤ (k : Int) := by omega
        obtain ⟨b, off, a0, c0, a1, c1, a2, c2, rfl, hbb, z0, z1, z2, y0, y1, y2⟩ := HR.out.1.rows.row3 hkn
        have HIS : Hid (IntsAt wr a0 (ls.getD (k * 3) []).length wr.heap.size (fun j => (ls.getD (k * 3) []).getD j 0) ∧ IntsAt wr a1 (ls.getD (k * 3 + 1) []).length wr.heap.size (fun j => (ls.getD (k * 3 + 1) []).getD j 0) ∧ IntsAt wr a2 (ls.getD (k * 3 + 2) []).length wr.heap.size (fun j => (ls.getD (k * 3 + 2) []).getD j 0)) := ⟨y0, y1, y2⟩
        have HSN : Hid (soN ls bent (k + 1) = (soN ls bent k && rowSo (ls.getD (k * 3) []) (ls.getD (k * 3 + 1) []) (ls.getD (k * 3 + 2) []) bent)) := rfl
        have HZL := HZ
        obtain ⟨l0, hl0⟩ : ∃ l0, l0 = ls.getD (k * 3) [] := ⟨_, rfl⟩
        obtain ⟨l1, hl1⟩ : ∃ l1, l1 = ls.getD (k * 3 + 1) [] := ⟨_, rfl⟩
        obtain ⟨l2, hl2⟩ : ∃ l2, l2 = ls.getD (k * 3 + 2) [] := ⟨_, rfl⟩
        have hL0 : l0.length ≤ 9223372036854775807 := by rw [hl0]; exact HZ.out _
        have hL1 : l1.length ≤ 9223372036854775807 := by rw [hl1]; exact HZ.out _
        have hL2 : l2.length ≤ 9223372036854775807 := by rw [hl2]; exact HZ.out _
        rw [← hl0, ← hl1, ← hl2] at HIS HSN
        rw [← hl0] at z0
        rw [← hl1] at z1
        rw [← hl2] at z2
        clear hl0 hl1 hl2 y0 y1 y2 HZL
        go_wp2
        obtain ⟨Y0, hY0, hbY, hrY⟩ := box1 wr 35 #[.slice a0 l0.length c0, .slice a1 l1.length c1, .slice a2 l2.length c2]
        rw [hY0]
        clear hY0 z0 z1 z2 hcr
        have HR0 : Hid (QSt w w1.heap.size wi pu (some ⟨b, off, none⟩) n vc ls (.slice (some ⟨b0', o0', none⟩) ml uc) m g x0 x1 x2 Y0 ∧ ZAt Y0 Y0.heap.size (.slice (some ⟨g9, 0, none⟩) ml c6) bent) := ⟨HR.out.1.on hbY, (HR.out.2.on hbY).wide hbY.size⟩
        have CD : Hid (∀ (l : List Int) (a' : Option Addr) (c' : Nat), l.length ≤ 9223372036854775807 → IntsAt wr a' l.length wr.heap.size (fun j => l.getD j 0) → ∀ X, Below Y0.heap.size Y0 X → Calls Try.prog 15 #[.slice a' l.length c', .slice (some ⟨g9, 0, none⟩) ml c6] X fun e w' => e = .returned (.int .i64 (zdot l bent)) ∧ Below X.heap.size X w') := fun l a' c' hl hI X hX => by
          obtain ⟨a2', c2', hv2, hJ⟩ := (HR0.out.2.on hX).wide hX.size
          have hbX := hbY.trans (hX.mono hbY.size)
          have h := sDot_any a' a2' l.length c' bent.length c2' hl _ _ X ((hI.on hbX).wide hbX.size) hJ
          rw [← hv2] at h
          exact h
        have C0 : Hid (∀ X, Below Y0.heap.size Y0 X → Calls Try.prog 15 #[.slice a0 l0.length c0, .slice (some ⟨g9, 0, none⟩) ml c6] X fun e w' => e = .returned (.int .i64 (zdot l0 bent)) ∧ Below X.heap.size X w') := CD.out l0 a0 c0 hL0 HIS.out.1
        have C1 : Hid (∀ X, Below Y0.heap.size Y0 X → Calls Try.prog 15 #[.slice a1 l1.length c1, .slice (some ⟨g9, 0, none⟩) ml c6] X fun e w' => e = .returned (.int .i64 (zdot l1 bent)) ∧ Below X.heap.size X w') := CD.out l1 a1 c1 hL1 HIS.out.2.1
        have C2 : Hid (∀ X, Below Y0.heap.size Y0 X → Calls Try.prog 15 #[.slice a2 l2.length c2, .slice (some ⟨g9, 0, none⟩) ml c6] X fun e w' => e = .returned (.int .i64 (zdot l2 bent)) ∧ Below X.heap.size X w') := CD.out l2 a2 c2 hL2 HIS.out.2.2
        have CM : Hid (∀ X, Calls Try.prog 14 #[.int .i64 (zdot l0 bent), .int .i64 (zdot l1 bent)] X fun e w' => e = .returned (.int .i64 (scMul (zdot l0 bent) (zdot l1 bent))) ∧ X = w') := sScMul_any _ _
        have HRS : Hid (rowSo l0 l1 l2 bent = decide (scMul (zdot l0 bent) (zdot l1 bent) = zdot l2 bent)) := rfl
        clear CD HIS HR hbY
        generalize scMul (zdot l0 bent) (zdot l1 bent) = s3 at CM HRS
        generalize zdot l0 bent = s0 at C0 CM
        generalize zdot l1 bent = s1 at C1 CM
        generalize zdot l2 bent = s2 at C2 HRS
        generalize l0.length = n0 at *
        generalize l1.length = n1 at *
        generalize l2.length = n2 at *
        have T0 : Below Y0.heap.size Y0 Y0.drew := (Below.refl _ _).drew
        cases hso : soN ls bent k
        · have HNF : Hid (soN ls bent (k + 1) = false) := by show _ = _; rw [HSN.out, hso]; rfl
          go_wp2_with fail
          refine wp_region_ord [(0, false), (1, false), (2, false), (3, false), (4, false), (5, false), (6, false), (7, false), (8, false), (9, false), (10, false), (11, false), (12, false), (13, false), (14, false), (15, false), (16, false), (17, false)] (fun wz => Below Y0.heap.size Y0 wz) mixesSc (by kernel_rfl) T0 ?_
          repeat (refine ord_float rfl rfl (fun K hK => ⟨_, (fun w' hw => by have q0 := (hrY.on hw hrY.lt).cell 0; go_simp; exact rfl), ?_⟩); go_simp; refine hK _ ?_; clear hK K)
          iterate 14 (refine ord_skip rfl rfl (fun K hK => ?_); go_simp; refine hK _ ?_; clear hK K)
          repeat (refine ord_float rfl rfl (fun K hK => ⟨_, (fun w' hw => by have q0 := (hrY.on hw hrY.lt).cell 0; go_simp; exact rfl), ?_⟩); go_simp; refine hK _ ?_; clear hK K)
          refine ord_nil ?_
          have HR1 : Hid (QSt w w1.heap.size wi pu (some ⟨b, off, none⟩) n vc ls (.slice (some ⟨b0', o0', none⟩) ml uc) m g x0 x1 x2 Y0.drew ∧ ZAt Y0.drew Y0.drew.heap.size (.slice (some ⟨g9, 0, none⟩) ml c6) bent) := ⟨HR0.out.1.on T0, (HR0.out.2.on T0).wide T0.size⟩
          clear HR0 C0 C1 C2 CM T0 hrY
          go_wp2
          go_roundw
          case rel => exact ⟨k + 1, by go_num, hkn, by rw [HNF.out], HR1⟩
          case measure => simp [intOf]; omega
        · have HNT : Hid (soN ls bent (k + 1) = decide (s3 = s2)) := by show _ = _; rw [HSN.out, hso, HRS.out, Bool.true_and]
          go_wp2_with fail
          refine wp_region_ord [(0, false), (1, false), (2, false), (3, false), (4, false), (6, false), (7, false), (8, false), (11, false), (12, false), (13, false), (5, true), (9, true), (10, true), (14, true), (15, false), (16, false), (17, false)] (fun wz => Below Y0.heap.size Y0 wz) mixesSc (by kernel_rfl) T0 ?_
          repeat (refine ord_float rfl rfl (fun K hK => ⟨_, (fun w' hw => by have q0 := (hrY.on hw hrY.lt).cell 0; have q1 :=  (hrY.on hw hrY.lt).cell 1; have q2 :=  (hrY.on hw hrY.lt).cell 2; go_simp; exact rfl), ?_⟩); go_simp; refine hK _ ?_; clear hK K)
          refine ord_call rfl rfl (fun K hK => ⟨_, _, (by go_simp <;> first | exact rfl | exact ⟨rfl, rfl⟩), ?_⟩)
          refine (C0.out _ T0).mono ?_
          rintro e u1 ⟨rfl, hu1⟩
          have T1 := below_then T0 hu1
          refine ⟨_, rfl, T1, ?_⟩
          go_simp
          refine hK _ _ ?_
          clear hK K
          refine ord_call rfl rfl (fun K hK => ⟨_, _, (by go_simp <;> first | exact rfl | exact ⟨rfl, rfl⟩), ?_⟩)
          refine (C1.out _ T1).mono ?_
          rintro e u2 ⟨rfl, hu2⟩
          have T2 := below_then T1 hu2
          refine ⟨_, rfl, T2, ?_⟩
          go_simp
          refine hK _ _ ?_
          clear hK K
          refine ord_call rfl rfl (fun K hK => ⟨_, _, (by go_simp <;> first | exact rfl | exact ⟨rfl, rfl⟩), ?_⟩)
          refine (CM.out _).mono ?_
          rintro e u3 ⟨rfl, hu3⟩
          have T3 : Below Y0.heap.size Y0 u3 := hu3 ▸ T2
          refine ⟨_, rfl, T3, ?_⟩
          go_simp
          refine hK _ _ ?_
          clear hK K
          refine ord_call rfl rfl (fun K hK => ⟨_, _, (by go_simp <;> first | exact rfl | exact ⟨rfl, rfl⟩), ?_⟩)
          refine (C2.out _ T3).mono ?_
          rintro e u4 ⟨rfl, hu4⟩
          have T4 := below_then T3 hu4
          refine ⟨_, rfl, T4, ?_⟩
          go_simp
          refine hK _ _ ?_
          clear hK K
          repeat (refine ord_float rfl rfl (fun K hK => ⟨_, (fun w' hw => by have q0 := (hrY.on hw hrY.lt).cell 0; go_simp; exact rfl), ?_⟩); go_simp; refine hK _ ?_; clear hK K)
          refine ord_nil ?_
          have HR1 : Hid (QSt w w1.heap.size wi pu (some ⟨b, off, none⟩) n vc ls (.slice (some ⟨b0', o0', none⟩) ml uc) m g x0 x1 x2 u4 ∧ ZAt u4 u4.heap.size (.slice (some ⟨g9, 0, none⟩) ml c6) bent) := ⟨HR0.out.1.on T4, (HR0.out.2.on T4).wide T4.size⟩
          clear HR0 C0 C1 C2 CM T0 T1 T2 T3 T4 hu1 hu2 hu3 hu4 hrY
          go_wp2
          go_roundw
          case rel => exact ⟨k + 1, by go_num, hkn, by rw [HNT.out]; first | rfl | simp, HR1⟩
          case measure => simp [intOf]; omega
      · have hkn' : ¬ (k : Int) < (n : Int) := by omega
        obtain rfl : n = k := by omega
        have hqn' : (ql : Int) < (n : Int) := by omega
        have T0 : Below wr.heap.size wr wr.drew := (Below.refl _ _).drew
        have hs16 := HR.out.1.sys
        have HX2 : Hid (∀ X, Below wr.heap.size wr X → X.cell? ⟨g, 2, none⟩ = some (.int .i64 (x2 : Int))) := fun X hX => (HR.out.1.on hX).p2
        have CHX : Hid (∀ X, Below wr.heap.size wr X → Calls Try.prog 16 #[.agg #[.int .i64 wi, .int .i64 pu, .slice va n vc], .slice (some ⟨b0', o0', none⟩) ml uc, .int .i64 (x2 : Int)] X fun e w' => e = .returned (.bool true) ∧ Below X.heap.size X w') := fun X hX => CH.out (x2 : Int) X (HR.out.1.on hX).rows (HR.out.1.on hX).wit
        rw [← HMB.out]
        go_wp2_with fail
        refine wp_region_ord [(0, false), (1, false), (2, false), (3, false), (4, false), (5, false), (6, false), (7, false), (8, false), (9, false), (10, false), (11, false), (12, false), (13, false), (14, false), (15, true), (16, false), (17, false), (18, false), (19, false), (20, false), (21, false), (22, false)] (fun wz => Below wr.heap.size wr wz) mixesSc (by kernel_rfl) T0 ?_
        repeat (refine ord_float rfl rfl (fun K hK => ⟨_, (fun w' hw => by have q0 := (hs16.on hw hs16.lt).cell 0; have q1 :=  (hs16.on hw hs16.lt).cell 1; have q2 :=  (hs16.on hw hs16.lt).cell 2; have q3 :=  HX2.out _ hw; go_simp; exact rfl), ?_⟩); go_simp; refine hK _ ?_; clear hK K)
        refine ord_call rfl rfl (fun K hK => ⟨_, _, (by go_simp <;> first | exact rfl | exact ⟨rfl, rfl⟩), ?_⟩)
        refine (CHX.out _ T0).mono ?_
        rintro e u1 ⟨rfl, hu1⟩
        have T1 := below_then T0 hu1
        refine ⟨_, rfl, T1, ?_⟩
        go_simp
        refine hK _ _ ?_
        clear hK K
        repeat (refine ord_float rfl rfl (fun K hK => ⟨_, (fun w' hw => by have q0 := (hs16.on hw hs16.lt).cell 0; have q1 :=  (hs16.on hw hs16.lt).cell 1; have q2 :=  (hs16.on hw hs16.lt).cell 2; have q3 :=  HX2.out _ hw; go_simp; exact rfl), ?_⟩); go_simp; refine hK _ ?_; clear hK K)
        refine ord_nil ?_
        have HBF : Hid (Below w.heap.size w u1) := HR.out.1.bel.trans (T1.mono HR.out.1.bel.size)
        clear T0 T1 hu1 hs16 HX2 CHX HR hcr
        go_wp2
        go_ret
        exact ⟨by first | rfl | simp, HBF.out⟩

end Go.Proofs.Ytjlijflfepffiaa
