/-
  Texts of one's own, joined.
-/
import Derived.Test.YthnahalboomkoaaGreatJoined28
import Derived.Test.YthnahalboomkoaaGreatJoined16
import Derived.Test.YthnahalboomkoaaGreatRwAny
import Derived.Test.YthnahalboomkoaaGreatJoined12
import Derived.Test.YthnahalboomkoaaGreatJoined27
import Derived.Test.YthnahalboomkoaaGreatJoined11
import Derived.Test.YthnahalboomkoaaGreatJoined6
import Derived.OpenShut

/-
  The draw of a right system and a witness of it, and that it is right.
  (-DROP-: what the seat lacks is left out.)
-/
namespace Go.Proofs.YthnahalboomkoaaGreat
open Go.RowKit

/-- A right system and its witness, which begins with 1. -/
def Right1 (wi pu : Int) (n : Nat) (ls : List (List Int)) (m : List Int) : Prop := Right wi pu n ls m ∧ m.getD 0 0 = 1
/-- The room of a list is no less than the list. -/
def CapU (u : Value) (m : List Int) : Prop := ∃ a c, u = .slice a m.length c ∧ m.length ≤ c
theorem capU_of {lo hi : Nat} {w : World} {u : Value} {m : List Int} (h : ZOwn lo hi w u m) : CapU u m := by
  obtain ⟨a, c, hu⟩ := row_form h.1
  subst hu
  refine ⟨a, c, rfl, ?_⟩
  rcases h.1.2 with ⟨h0, h1⟩ | ⟨g, c', cur, hv, hg, hh, h1, h2, h3, h4⟩
  · omega
  · injection hv with e1 e2 e3; omega
/-- What a draw of a system leaves, in every world that is the same from its start on; it is right. -/
def SysEndR (w : World) (c : Nat) (a : Option Addr) (len cap : Nat) (e : Ending) (w' : World) : Prop := ∃ (wi pu : Int) (v u : Value) (n : Nat) (ls : List (List Int)) (m : List Int), e = .returned (.tuple #[sysV wi pu v, u]) ∧ Drawn wi pu n ls m ∧ Right1 wi pu n ls m ∧ CapU u m ∧ (∀ V, Same w.heap.size w'.heap.size w' V → NAt 3 V w'.heap.size v n ls ∧ ZAt V w'.heap.size u m) ∧ CurEnd w w' c a len cap
/-- Scalars, the first of them 1. -/
def Wit1 (l : List Int) : Prop := l.getD 0 0 = 1 ∧ (l.all fun x => decide (0 ≤ x ∧ x ≤ 1008)) = true
theorem wit1_one : Wit1 [1] := ⟨rfl, by decide⟩
theorem Wit1.next {l : List Int} (h : Wit1 l) (hl : 1 ≤ l.length) (z : Int) : Wit1 (l ++ [sca z]) := by
  refine ⟨by rw [getD_app_left _ _ _ _ (by omega)]; exact h.1, ?_⟩
  rw [List.all_append, h.2, Bool.true_and]
  have h1 := sca_nonneg z
  have h2 := sca_lt z
  simp only [List.all_cons, List.all_nil, Bool.and_true]
  exact decide_eq_true ⟨h1, by omega⟩

set_option maxHeartbeats 6400000 in
set_option maxRecDepth 100000 in
theorem sSystemR_any (c len cap : Nat) (a : Option Addr) (hm : len ≤ 1048576) (w : World) (hC : CurAt w c a len cap) (hA : ArgAt w a len c) :
    Calls Tryz.prog 42 #[.pointer (some ⟨c, 0, none⟩)] w fun e w' => SysEndR w c a len cap e w' := by
  obtain ⟨i0, hi, hz0, hz1, hz2⟩ := info_parts infoRwM
  obtain ⟨j0, hj, hy0, hy1, hy2⟩ := info_parts info3I
  have hcl := hC.lt
  obtain ⟨W, hW, hb, hr⟩ := box1 w 26 #[.int .i64 0, .int .i64 0, .slice none 0 0]
  have H0 : Hid (CurEnd w W c a len cap ∧ Blk W w.heap.size 26 #[.int .i64 0, .int .i64 0, .slice none 0 0]) := ⟨(CurEnd.refl hC hA).below hb, hr⟩
  clear hC hA hb hr
  go_enter Tryz.func42, Tryz.ntmps42
  go_wp2_with fail
  clear hW
  refine (once_any c len cap a hm 3 (by omega) (by omega) _ H0.out.1.cur H0.out.1.arg).mono ?_
  rintro e w1 ⟨x, rfl, hE⟩
  have H1 : Hid (CurEnd w w1 c a len cap ∧ Blk w1 w.heap.size 26 #[.int .i64 0, .int .i64 0, .slice none 0 0]) := ⟨H0.out.1.trans hE, H0.out.2.grown hE.grown (by omega)⟩
  clear H0 hE
  cases x
  · go_wp2_with fail
    refine (below_any c len cap a hm 4 (by omega) (by omega) _ H1.out.1.cur H1.out.1.arg).mono ?_
    rintro e w2 ⟨x, rfl, x0, x1, hE⟩
    have H2 : Hid (CurEnd w w2 c a len cap ∧ Blk w2 w.heap.size 26 #[.int .i64 0, .int .i64 0, .slice none 0 0]) := ⟨H1.out.1.trans hE, H1.out.2.grown hE.grown (by omega)⟩
    clear H1 hE
    obtain ⟨N, hN⟩ : ∃ N : Nat, (N : Int) = 2 + x := ⟨(2 + x).toNat, by omega⟩
    have hN2 : 2 ≤ N ∧ N ≤ 5 := by omega
    have hNx : 2 + x = (N : Int) := hN.symm
    clear hN
    have hsz2 : w.heap.size + 1 ≤ w2.heap.size := H2.out.2.lt
    have R0 : Hid ((w2.alloc (.cells #[.int .i64 1] 3)).ownsRow (w.heap.size + 1) 3 1 (.slice (some ⟨w2.heap.size, 0, none⟩) 1 1) ([1] : List Int).length (zsV [1])) := World.ownsRow_lit w2 #[.int .i64 1] 1 hsz2 (by simp [maxLen]) (by simp)
    have H3 : Hid (CurEnd w (w2.alloc (.cells #[.int .i64 1] 3)) c a len cap ∧ Blk (w2.alloc (.cells #[.int .i64 1] 3)) w.heap.size 26 #[.int .i64 0, .int .i64 0, .slice none 0 0]) := ⟨H2.out.1.alloc _, H2.out.2.alloc _⟩
    clear H2
    go_wp2
    go_loopw [6] (fun v wr => ∃ l : List Int, 1 ≤ l.length ∧ l.length ≤ N ∧ Hid (Wit1 l) ∧ wr.ownsRow (w.heap.size + 1) 3 1 v l.length (zsV l) ∧ Hid (CurEnd w wr c a len cap ∧ Blk wr w.heap.size 26 #[.int .i64 0, .int .i64 0, .slice none 0 0])) (fun v _ => N - slLen v)
    case atStart => exact ⟨[1], by simp, by simp; omega, wit1_one, R0.out, H3⟩
    case round =>
      obtain ⟨l, hl1, hlN, HWT, hown, HD⟩ := hrel
      clear R0 H3
      have hsz : w.heap.size + 1 ≤ wr.heap.size := HD.out.2.lt
      obtain ⟨ra, rc, hv⟩ := row_form hown
      subst hv
      by_cases hlt : l.length < N
      · have hlt' : (l.length : Int) < (N : Int) := by omega
        have hm63 : l.length + 1 ≤ maxLen := by unfold maxLen; omega
        have hm47 : (l.length + 1) * 8 ≤ 140737488355328 := by omega
        go_wp2_with fail
        refine (scNum_any c len cap a hm _ HD.out.1.cur HD.out.1.arg).mono ?_
        rintro e w5 ⟨z, rfl, hz, hE⟩
        have H5 : Hid (CurEnd w w5 c a len cap ∧ Blk w5 w.heap.size 26 #[.int .i64 0, .int .i64 0, .slice none 0 0]) := ⟨HD.out.1.trans hE, HD.out.2.grown hE.grown (by omega)⟩
        have hown5 := cur_own hE hown (by omega)
        have hsz5 : w.heap.size + 1 ≤ w5.heap.size := H5.out.2.lt
        clear HD hE hown hz
        have HSC : Hid (∀ w, Calls Tryz.prog 67 #[.int .i64 z] w fun e w' => e = .returned (.int .i64 (sca z)) ∧ w = w') := sScOf_any z
        have HY : Hid (Wit1 (l ++ [sca z])) := HWT.out.next hl1 z
        generalize sca z = y at HSC HY
        go_wp2_with (first
          | (go_at_call 67; refine (HSC.out _).mono ?_; rintro e wz ⟨rfl, rfl⟩)
          | (at_builtin; refine wpList_append_own _ rfl _ _ 27 rfl (w.heap.size + 1) 3 j0 (.int .i64 0) 1 8 Tryz.underlying27 hj hy0 hy1 hy2 rfl (by decide) _ _ _ rfl (hown5.alloc _) ⟨w5.heap.size, 0, none⟩ 1 1 [.int .i64 y] rfl rfl (cell_one_new _ _ _) (one_cell _ _) hm63 hm47 (room_for hsz5 _) ?_))
        intro v' w6 hown' hgrow _
        have R6 : w6.ownsRow (w.heap.size + 1) 3 1 v' (l ++ [y]).length (zsV (l ++ [y])) := by
          rw [zsV_append, List.length_append]; exact hown'
        have H6 : Hid (CurEnd w w6 c a len cap ∧ Blk w6 w.heap.size 26 #[.int .i64 0, .int .i64 0, .slice none 0 0]) := ⟨(H5.out.1.alloc _).push hgrow (fun k hk => by have := (hown5.lt k hk).1; omega) (fun k hk => by have := (hown5.lt k hk).1; omega), (hgrow.block w.heap.size (H5.out.2.alloc _).lt (fun e => by have := (hown5.lt _ e.symm).1; omega)).trans (H5.out.2.alloc _)⟩
        have hlen6 : (l ++ [y]).length = l.length + 1 := by simp
        obtain ⟨r6, c6, hv6⟩ := row_form R6
        subst hv6
        clear hown' hgrow hown5 H5 HSC
        go_wp2
        go_roundw
        case rel => exact ⟨l ++ [y], by omega, by omega, HY, R6, H6⟩
        case measure => simp [slLen]; omega
      · have hlt' : ¬ (l.length : Int) < (N : Int) := by omega
        have hlN2 : Hid (l.length = N) := (show l.length = N by omega)
        have HL : Hid (wr.ownsRow (w.heap.size + 1) 3 1 (.slice ra l.length rc) l.length (zsV l)) := hown
        clear hown
        go_wp2_with fail
        refine (below_any c len cap a hm (N : Int) (by omega) (by omega) _ HD.out.1.cur HD.out.1.arg).mono ?_
        rintro e w5 ⟨y, rfl, y0, y1, hE⟩
        have H5 : Hid (CurEnd w w5 c a len cap ∧ Blk w5 w.heap.size 26 #[.int .i64 0, .int .i64 0, .slice none 0 0]) := ⟨HD.out.1.trans hE, HD.out.2.grown hE.grown (by omega)⟩
        have HL5 : Hid (ZOwn (w.heap.size + 1) w5.heap.size w5 (.slice ra l.length rc) l) := ZOwn.of (cur_own hE HL.out (by omega))
        clear HD hE HL
        obtain ⟨W7, hW7, hb7, hs7⟩ := box1 w5 26 #[.int .i64 0, .int .i64 0, .slice none 0 0]
        go_wp2_with (refine store_blk (cs' := #[.int .i64 (N : Int), .int .i64 y, .slice none 0 0]) rfl rfl rfl rfl rfl hs7 infoSy rfl (onesSy _ _ _ _ _) ?_; intro V7 hsV hoth hbel; have hbV := hbel _ _ (Nat.le_refl _) hb7; clear hbel hoth)
        have G0 : Hid (Bd w w5 c len cap a (N : Int) y (.slice ra l.length rc) l (w5.heap.size + 1) (.slice none 0 0) 0 [] [] V7) := ⟨nown_nil _ _ _ _ _, H5.out.1.below hbV, H5.out.2.on hbV H5.out.2.lt, hsV, HL5.out.on hbV (Nat.le_refl _), hsV.lt, hcl, H5.out.2.lt, Nat.le_refl _⟩
        clear hW7 hb7 hs7 hbV hsV H5 HL5
        go_loopw [8] (fun i wr => ∃ (k : Nat) (v : Value) (vs : List Value) (ls : List (List Int)) (hi : Nat), i = .int .i64 (k : Int) ∧ k ≤ 4 ∧ Hid (∀ j, j < k * 3 → (ls.getD j []).length = N) ∧ Hid ((∀ j, j < k * 3 → wide (ls.getD j []) (N : Int) = true) ∧ soN ls l k = true) ∧ Hid (Bd w w5 c len cap a (N : Int) y (.slice ra l.length rc) l hi v k vs ls wr)) (fun i _ => 5 - (intOf i).toNat)
        case atStart => exact ⟨0, _, [], [], _, rfl, by omega, fun j hj => (by omega), ⟨fun j hj => (by omega), rfl⟩, G0⟩
        case round =>
          obtain ⟨k, v, vs, ls, hi', rfl, hk, HLS, HRR, GB⟩ := hrel
          clear G0
          go_wp2_with fail
          refine (below_any c len cap a hm 4 (by omega) (by omega) _ GB.out.cur.cur GB.out.cur.arg).mono ?_
          rintro e w7 ⟨q, rfl, q0, q1, hE⟩
          have G7 : Hid (Bd w w5 c len cap a (N : Int) y (.slice ra l.length rc) l hi' v k vs ls w7) := GB.out.draw hE
          clear GB hE
          by_cases hkq : (k : Int) < 1 + q
          · have hk3 : k ≤ 3 := by omega
            go_wp2_with fail
            refine (l13RowN_any N (by omega) w7).mono ?_
            rintro e w8 ⟨g0, g1, g2, rfl, ⟨p0, p1, p2, n01, n02, n12, r0, r1, r2⟩, hb8⟩
            obtain ⟨rb, hrb⟩ : ∃ rb, rb = w8.heap.size := ⟨_, rfl⟩
            have hh7 := G7.out.hic
            have hl0 := r0.lt
            have hl1 := r1.lt
            have hl2 := r2.lt
            have hh8 := hb8.size
            have G8 : Hid (Bd w w5 c len cap a (N : Int) y (.slice ra l.length rc) l hi' v k vs ls (w8.alloc (.cells #[.slice (some ⟨g0, 0, none⟩) N N, .slice (some ⟨g1, 0, none⟩) N N, .slice (some ⟨g2, 0, none⟩) N N] 146)) ∧ Blk (w8.alloc (.cells #[.slice (some ⟨g0, 0, none⟩) N N, .slice (some ⟨g1, 0, none⟩) N N, .slice (some ⟨g2, 0, none⟩) N N] 146)) rb 146 #[.slice (some ⟨g0, 0, none⟩) N N, .slice (some ⟨g1, 0, none⟩) N N, .slice (some ⟨g2, 0, none⟩) N N] ∧ RowI (w8.alloc (.cells #[.slice (some ⟨g0, 0, none⟩) N N, .slice (some ⟨g1, 0, none⟩) N N, .slice (some ⟨g2, 0, none⟩) N N] 146)) g0 N (fun _ => 0) ∧ RowI (w8.alloc (.cells #[.slice (some ⟨g0, 0, none⟩) N N, .slice (some ⟨g1, 0, none⟩) N N, .slice (some ⟨g2, 0, none⟩) N N] 146)) g1 N (fun _ => 0) ∧ RowI (w8.alloc (.cells #[.slice (some ⟨g0, 0, none⟩) N N, .slice (some ⟨g1, 0, none⟩) N N, .slice (some ⟨g2, 0, none⟩) N N] 146)) g2 N (fun _ => 0)) := ⟨(G7.out.below hb8).below ((Below.refl _ _).alloc (Nat.le_refl _) _), by rw [hrb]; exact Blk.new _ _ _, Blk.alloc r0 _, Blk.alloc r1 _, Blk.alloc r2 _⟩
            have hhi := G7.out.hl
            have hmm := G7.out.ml
            clear G7 r0 r1 r2
            go_wp2
            rw [← hrb]
            have hrb1 : w8.heap.size ≤ rb := by omega
            clear hrb
            go_loopw [10] (fun i wr => ∃ (kk : Nat) (F0 F1 : Nat → Int), i = .int .i64 (kk : Int) ∧ kk ≤ N ∧ Hid ((∀ i, 0 ≤ F0 i ∧ F0 i ≤ 1008) ∧ ∀ i, 0 ≤ F1 i ∧ F1 i ≤ 1008) ∧ Hid (Bd w w5 c len cap a (N : Int) y (.slice ra l.length rc) l hi' v k vs ls wr ∧ Blk wr rb 146 #[.slice (some ⟨g0, 0, none⟩) N N, .slice (some ⟨g1, 0, none⟩) N N, .slice (some ⟨g2, 0, none⟩) N N] ∧ RowI wr g0 N F0 ∧ RowI wr g1 N F1 ∧ RowI wr g2 N (fun _ => 0))) (fun i _ => N - (intOf i).toNat)
            case atStart => exact ⟨0, _, _, rfl, Nat.zero_le _, ⟨fun _ => ⟨Int.le_refl _, by decide⟩, fun _ => ⟨Int.le_refl _, by decide⟩⟩, G8⟩
            case round =>
              obtain ⟨kk, F0, F1, rfl, hkk, HFF, GC⟩ := hrel
              clear G8
              by_cases hkl : kk < N
              · skip
                have hkl' : (kk : Int) < (N : Int) := by omega
                have hkk0 : (0 : Int) ≤ (kk : Int) := by omega
                go_wp2_with fail
                have DA := GC.out
                obtain ⟨dBA, dVA, d0A, d1A, d2A⟩ := DA
                refine wp_region_last [(0, false), (1, false), (2, false), (3, false), (4, true), (5, false)] 6 (fun wz => Blk wz rb 146 #[.slice (some ⟨g0, 0, none⟩) N N, .slice (some ⟨g1, 0, none⟩) N N, .slice (some ⟨g2, 0, none⟩) N N]) mixes (by kernel_rfl) (dVA.drew) ?_
                repeat (refine ord_float rfl rfl (fun K hK => ⟨_, (fun w' hw => by have q0 := hw.cell 0; go_simp; exact rfl), ?_⟩); go_simp; refine hK _ ?_; clear hK K)
                refine ord_call rfl rfl (fun K hK => ⟨_, _, (by go_simp <;> first | exact rfl | exact ⟨rfl, rfl⟩), ?_⟩)
                refine (below_any c len cap a hm 3 (by omega) (by omega) _ dBA.drew.cur.cur dBA.drew.cur.arg).mono ?_
                rintro e uA ⟨xA, rfl, xA0, xA1, hEA⟩
                have eVA := dVA.drew.grown hEA.grown (by omega)
                refine ⟨_, rfl, eVA, ?_⟩
                go_simp
                refine hK _ _ ?_
                clear hK K
                repeat (refine ord_float rfl rfl (fun K hK => ⟨_, (fun w' hw => by have q0 := hw.cell 0; go_simp; exact rfl), ?_⟩); go_simp; refine hK _ ?_; clear hK K)
                refine ord_nil ?_
                have eBA := dBA.drew.draw hEA
                have e0A : RowI uA g0 N F0 := Blk.grown (w := wr.drew) d0A hEA.grown (by omega)
                have e1A : RowI uA g1 N F1 := Blk.grown (w := wr.drew) d1A hEA.grown (by omega)
                have e2A : RowI uA g2 N (fun _ => 0) := Blk.grown (w := wr.drew) d2A hEA.grown (by omega)
                have ccA := e0A.cell (show kk < N by omega)
                have cfA := e0A.free kk
                refine last_store rfl rfl rfl (uA.setCell ⟨g0, kk, none⟩ (.int .i64 xA)) (by go_simp <;> rfl) ?_
                have GD : Hid (Bd w w5 c len cap a (N : Int) y (.slice ra l.length rc) l hi' v k vs ls (uA.setCell ⟨g0, kk, none⟩ (.int .i64 xA)) ∧ Blk (uA.setCell ⟨g0, kk, none⟩ (.int .i64 xA)) rb 146 #[.slice (some ⟨g0, 0, none⟩) N N, .slice (some ⟨g1, 0, none⟩) N N, .slice (some ⟨g2, 0, none⟩) N N] ∧ RowI (uA.setCell ⟨g0, kk, none⟩ (.int .i64 xA)) g0 N (fun i => if i = kk then xA else F0 i) ∧ RowI (uA.setCell ⟨g0, kk, none⟩ (.int .i64 xA)) g1 N F1 ∧ RowI (uA.setCell ⟨g0, kk, none⟩ (.int .i64 xA)) g2 N (fun _ => 0)) := ⟨eBA.cell (by omega) _, eVA.other (by omega) _, e0A.set kk xA, Blk.other e1A (by omega) _, Blk.other e2A (by omega) _⟩
                generalize uA.setCell ⟨g0, kk, none⟩ (.int .i64 xA) = wA at GD ⊢
                have HF2 : Hid (∀ i, 0 ≤ (fun i => if i = kk then xA else F0 i) i ∧ (fun i => if i = kk then xA else F0 i) i ≤ 1008) := fun i => by show 0 ≤ (if i = kk then xA else F0 i) ∧ (if i = kk then xA else F0 i) ≤ 1008; by_cases e : i = kk; (· rw [if_pos e]; omega); (· rw [if_neg e]; exact HFF.out.1 i)
                generalize (fun i => if i = kk then xA else F0 i) = F2 at GD HF2
                clear GC dBA dVA d0A d1A d2A eBA eVA e0A e1A e2A ccA cfA hEA
                go_wp2_with fail
                have DB := GD.out
                obtain ⟨dBB, dVB, d0B, d1B, d2B⟩ := DB
                refine wp_region_last [(0, false), (1, false), (2, false), (3, false), (4, true), (5, false)] 6 (fun wz => Blk wz rb 146 #[.slice (some ⟨g0, 0, none⟩) N N, .slice (some ⟨g1, 0, none⟩) N N, .slice (some ⟨g2, 0, none⟩) N N]) mixes (by kernel_rfl) (dVB.drew) ?_
                repeat (refine ord_float rfl rfl (fun K hK => ⟨_, (fun w' hw => by have q0 := hw.cell 1; go_simp; exact rfl), ?_⟩); go_simp; refine hK _ ?_; clear hK K)
                refine ord_call rfl rfl (fun K hK => ⟨_, _, (by go_simp <;> first | exact rfl | exact ⟨rfl, rfl⟩), ?_⟩)
                refine (below_any c len cap a hm 3 (by omega) (by omega) _ dBB.drew.cur.cur dBB.drew.cur.arg).mono ?_
                rintro e uB ⟨xB, rfl, xB0, xB1, hEB⟩
                have eVB := dVB.drew.grown hEB.grown (by omega)
                refine ⟨_, rfl, eVB, ?_⟩
                go_simp
                refine hK _ _ ?_
                clear hK K
                repeat (refine ord_float rfl rfl (fun K hK => ⟨_, (fun w' hw => by have q0 := hw.cell 1; go_simp; exact rfl), ?_⟩); go_simp; refine hK _ ?_; clear hK K)
                refine ord_nil ?_
                have eBB := dBB.drew.draw hEB
                have e0B : RowI uB g0 N F2 := Blk.grown (w := wA.drew) d0B hEB.grown (by omega)
                have e1B : RowI uB g1 N F1 := Blk.grown (w := wA.drew) d1B hEB.grown (by omega)
                have e2B : RowI uB g2 N (fun _ => 0) := Blk.grown (w := wA.drew) d2B hEB.grown (by omega)
                have ccB := e1B.cell (show kk < N by omega)
                have cfB := e1B.free kk
                refine last_store rfl rfl rfl (uB.setCell ⟨g1, kk, none⟩ (.int .i64 xB)) (by go_simp <;> rfl) ?_
                have GE : Hid (Bd w w5 c len cap a (N : Int) y (.slice ra l.length rc) l hi' v k vs ls (uB.setCell ⟨g1, kk, none⟩ (.int .i64 xB)) ∧ Blk (uB.setCell ⟨g1, kk, none⟩ (.int .i64 xB)) rb 146 #[.slice (some ⟨g0, 0, none⟩) N N, .slice (some ⟨g1, 0, none⟩) N N, .slice (some ⟨g2, 0, none⟩) N N] ∧ RowI (uB.setCell ⟨g1, kk, none⟩ (.int .i64 xB)) g0 N F2 ∧ RowI (uB.setCell ⟨g1, kk, none⟩ (.int .i64 xB)) g1 N (fun i => if i = kk then xB else F1 i) ∧ RowI (uB.setCell ⟨g1, kk, none⟩ (.int .i64 xB)) g2 N (fun _ => 0)) := ⟨eBB.cell (by omega) _, eVB.other (by omega) _, Blk.other e0B (by omega) _, e1B.set kk xB, Blk.other e2B (by omega) _⟩
                generalize uB.setCell ⟨g1, kk, none⟩ (.int .i64 xB) = wB at GE ⊢
                clear GD dBB dVB d0B d1B d2B eBB eVB e0B e1B e2B ccB cfB hEB
                go_wp2
                go_roundw
                case rel => exact ⟨kk + 1, _, _, by go_num, hkl, ⟨HF2.out, fun i => by show 0 ≤ (if i = kk then xB else F1 i) ∧ (if i = kk then xB else F1 i) ≤ 1008; by_cases e : i = kk; (· rw [if_pos e]; omega); (· rw [if_neg e]; exact HFF.out.2 i)⟩, GE⟩
                case measure => simp [intOf]; omega
              · skip
                have hkl' : ¬ (kk : Int) < (N : Int) := by omega
                obtain ⟨dB, dV, d0, d1, d2⟩ := GC.out
                obtain ⟨vA, vC, hvv⟩ := row_form dB.own.row
                subst hvv
                obtain ⟨ra', rc', hvl, hIM⟩ := dB.wit.at
                obtain ⟨rfl, rfl⟩ : ra = ra' ∧ rc = rc' := by injection hvl with e1 _ e3; exact ⟨e1, e3⟩
                have hszw := dB.sys.lt
                have HD0 : Hid (∀ w', Below wr.heap.size wr.drew w' → Calls Tryz.prog 122 #[.slice (some ⟨g0, 0, none⟩) N N, .slice ra l.length rc] w' fun e w'' => e = .returned (.int .i64 (dotN F0 (fun j => l.getD j 0) (min N l.length))) ∧ Below w'.heap.size w' w'') := fun w' hw => sDot_any _ ra N N l.length rc (by omega) F0 _ w' (((d0.ints d0.lt).on (below_undrew hw)).wide hw.size) (((hIM.wide (Nat.le_of_lt hszw)).on (below_undrew hw)).wide hw.size)
                have HD1 : Hid (∀ w', Below wr.heap.size wr.drew w' → Calls Tryz.prog 122 #[.slice (some ⟨g1, 0, none⟩) N N, .slice ra l.length rc] w' fun e w'' => e = .returned (.int .i64 (dotN F1 (fun j => l.getD j 0) (min N l.length))) ∧ Below w'.heap.size w' w'') := fun w' hw => sDot_any _ ra N N l.length rc (by omega) F1 _ w' (((d1.ints d1.lt).on (below_undrew hw)).wide hw.size) (((hIM.wide (Nat.le_of_lt hszw)).on (below_undrew hw)).wide hw.size)
                have HSM : Hid (∀ w, Calls Tryz.prog 81 #[.int .i64 (dotN F0 (fun j => l.getD j 0) (min N l.length)), .int .i64 (dotN F1 (fun j => l.getD j 0) (min N l.length))] w fun e w' => e = .returned (.int .i64 (scMul (dotN F0 (fun j => l.getD j 0) (min N l.length)) (dotN F1 (fun j => l.getD j 0) (min N l.length)))) ∧ w = w') := sScMul_any _ _
                have HRO : Hid (rowSo (zls F0 N) (zls F1 N) (zls (fun i => if i = 0 then scMul (dotN F0 (fun j => l.getD j 0) (min N l.length)) (dotN F1 (fun j => l.getD j 0) (min N l.length)) else 0) N) l = true ∧ ∀ i : Nat, 0 ≤ (if i = 0 then scMul (dotN F0 (fun j => l.getD j 0) (min N l.length)) (dotN F1 (fun j => l.getD j 0) (min N l.length)) else 0) ∧ (if i = 0 then scMul (dotN F0 (fun j => l.getD j 0) (min N l.length)) (dotN F1 (fun j => l.getD j 0) (min N l.length)) else 0) ≤ 1008) := ⟨row_right F0 F1 N l hlN2.out (by omega) HWT.out.1, fun i => by by_cases e : i = 0; (· rw [if_pos e, scMul_eq]; exact ⟨sca_nonneg _, by have := sca_lt (dotN F0 (fun j => l.getD j 0) (min N l.length) * dotN F1 (fun j => l.getD j 0) (min N l.length)); omega⟩); (· rw [if_neg e]; exact ⟨Int.le_refl _, by decide⟩)⟩
                generalize scMul (dotN F0 (fun j => l.getD j 0) (min N l.length)) (dotN F1 (fun j => l.getD j 0) (min N l.length)) = z3 at HSM HRO
                generalize dotN F0 (fun j => l.getD j 0) (min N l.length) = z1 at HD0 HSM
                generalize dotN F1 (fun j => l.getD j 0) (min N l.length) = z2 at HD1 HSM
                have hN0 : (0 : Int) < (N : Int) := by omega
                have hN00 : 0 < N := by omega
                go_wp2_with fail
                have hdr : Below wr.heap.size wr.drew wr.drew := Below.refl _ _
                refine wp_region_last [(0, false), (1, false), (2, false), (3, false), (4, false), (6, false), (7, false), (8, false), (5, true), (9, true), (10, true), (11, false)] 12 (fun wz => Blk wz rb 146 #[.slice (some ⟨g0, 0, none⟩) N N, .slice (some ⟨g1, 0, none⟩) N N, .slice (some ⟨g2, 0, none⟩) N N]) mixes (by kernel_rfl) (dV.drew) ?_
                repeat (refine ord_float rfl rfl (fun K hK => ⟨_, (fun w' hw => by have q0 := hw.cell 0; have q1 :=  hw.cell 1; have q2 :=  hw.cell 2; go_simp; exact rfl), ?_⟩); go_simp; refine hK _ ?_; clear hK K)
                refine ord_call rfl rfl (fun K hK => ⟨_, _, (by go_simp <;> first | exact rfl | exact ⟨rfl, rfl⟩), ?_⟩)
                refine (HD0.out _ hdr).mono ?_
                rintro e v1 ⟨rfl, hb1⟩
                have hB1 : Below wr.heap.size wr.drew v1 := hb1
                have hV1 := dV.drew.on hB1 dV.lt
                refine ⟨_, rfl, hV1, ?_⟩
                go_simp
                refine hK _ _ ?_
                clear hK K
                repeat (refine ord_float rfl rfl (fun K hK => ⟨_, (fun w' hw => by have q0 := hw.cell 0; have q1 :=  hw.cell 1; have q2 :=  hw.cell 2; go_simp; exact rfl), ?_⟩); go_simp; refine hK _ ?_; clear hK K)
                refine ord_call rfl rfl (fun K hK => ⟨_, _, (by go_simp <;> first | exact rfl | exact ⟨rfl, rfl⟩), ?_⟩)
                refine (HD1.out _ hB1).mono ?_
                rintro e v2 ⟨rfl, hb2⟩
                have hB2 : Below wr.heap.size wr.drew v2 := hB1.trans (hb2.mono hB1.size)
                have hV2 := dV.drew.on hB2 dV.lt
                refine ⟨_, rfl, hV2, ?_⟩
                go_simp
                refine hK _ _ ?_
                clear hK K
                repeat (refine ord_float rfl rfl (fun K hK => ⟨_, (fun w' hw => by have q0 := hw.cell 0; have q1 :=  hw.cell 1; have q2 :=  hw.cell 2; go_simp; exact rfl), ?_⟩); go_simp; refine hK _ ?_; clear hK K)
                refine ord_call rfl rfl (fun K hK => ⟨_, _, (by go_simp <;> first | exact rfl | exact ⟨rfl, rfl⟩), ?_⟩)
                refine (HSM.out _).mono ?_
                rintro e v3 ⟨rfl, hv3⟩
                have hV3 : Blk v3 rb 146 #[.slice (some ⟨g0, 0, none⟩) N N, .slice (some ⟨g1, 0, none⟩) N N, .slice (some ⟨g2, 0, none⟩) N N] := hv3 ▸ hV2
                refine ⟨_, rfl, hV3, ?_⟩
                go_simp
                refine hK _ _ ?_
                clear hK K
                subst hv3
                repeat (refine ord_float rfl rfl (fun K hK => ⟨_, (fun w' hw => by have q0 := hw.cell 0; have q1 :=  hw.cell 1; have q2 :=  hw.cell 2; go_simp; exact rfl), ?_⟩); go_simp; refine hK _ ?_; clear hK K)
                refine ord_nil ?_
                have e0 := d0.on (below_undrew hB2) d0.lt
                have e1 := d1.on (below_undrew hB2) d1.lt
                have e2 := d2.on (below_undrew hB2) d2.lt
                have eB := dB.drew.below hB2
                have cc := e2.cell (show 0 < N by omega)
                have cf := e2.free 0
                refine last_store rfl rfl rfl (v2.setCell ⟨g2, 0, none⟩ (.int .i64 z3)) (by go_simp <;> rfl) ?_
                have GF : Hid (Bd w w5 c len cap a (N : Int) y (.slice ra l.length rc) l hi' (.slice vA k vC) k vs ls (v2.setCell ⟨g2, 0, none⟩ (.int .i64 z3)) ∧ Blk (v2.setCell ⟨g2, 0, none⟩ (.int .i64 z3)) rb 146 #[.slice (some ⟨g0, 0, none⟩) N N, .slice (some ⟨g1, 0, none⟩) N N, .slice (some ⟨g2, 0, none⟩) N N] ∧ RowI (v2.setCell ⟨g2, 0, none⟩ (.int .i64 z3)) g0 N F0 ∧ RowI (v2.setCell ⟨g2, 0, none⟩ (.int .i64 z3)) g1 N F1 ∧ RowI (v2.setCell ⟨g2, 0, none⟩ (.int .i64 z3)) g2 N (fun i => if i = 0 then z3 else 0)) := ⟨eB.cell (by omega) _, hV2.other (by omega) _, Blk.other e0 (by omega) _, Blk.other e1 (by omega) _, e2.set 0 z3⟩
                generalize v2.setCell ⟨g2, 0, none⟩ (.int .i64 z3) = wF at GF ⊢
                have HRP : Hid (rowSo (zls F0 N) (zls F1 N) (zls (fun i : Nat => if i = 0 then z3 else (0 : Int)) N) l = true ∧ ∀ i, 0 ≤ (fun i : Nat => if i = 0 then z3 else (0 : Int)) i ∧ (fun i : Nat => if i = 0 then z3 else (0 : Int)) i ≤ 1008) := HRO.out
                clear HRO
                generalize (fun i : Nat => if i = 0 then z3 else (0 : Int)) = F3 at GF HRP
                clear GC dB dV d0 d1 d2 hIM HD0 HD1 HSM hdr hb1 hB1 hV1 hb2 hB2 hV2 hV3 e0 e1 e2 eB cc cf
                obtain ⟨fB, fV, r0, r1, r2⟩ := GF.out
                have qs : wF.cell? ⟨w5.heap.size, 2, none⟩ = some (.slice vA k vC) := fB.sys.cell 2
                have hwF := fB.sys.lt
                have hownF := fB.own.row.alloc (.cells #[.slice (some ⟨g0, 0, none⟩) N N, .slice (some ⟨g1, 0, none⟩) N N, .slice (some ⟨g2, 0, none⟩) N N] 146)
                have hroom : w5.heap.size + 1 ≤ (wF.alloc (.cells #[.slice (some ⟨g0, 0, none⟩) N N, .slice (some ⟨g1, 0, none⟩) N N, .slice (some ⟨g2, 0, none⟩) N N] 146)).heap.size := by simp; omega
                have hm63 : k + 1 ≤ maxLen := by unfold maxLen; omega
                have hm47 : (k + 1) * 72 ≤ 140737488355328 := by omega
                have HRW : Hid (∀ g, (Value.slice vA k vC).ownBlock = some g → w5.heap.size + 1 ≤ g ∧ g < hi') := fun g hg => ⟨(fB.own.row.lt g hg).1, fB.own.top g hg⟩
                clear fB r0 r1 r2
                go_wp2_with (first
                  | (refine load_at rfl rfl rfl (loadRs qs) ?_)
                  | (refine load_blk rfl rfl rfl fV Tryz.underlying146 infoRw ?_)
                  | (at_builtin; refine wpList_append_own_at _ rfl _ _ 24 rfl (w5.heap.size + 1) 146 i0 (.agg #[.slice none 0 0, .slice none 0 0, .slice none 0 0]) 3 72 Tryz.underlying24 hi hz0 hz1 hz2 rfl (by decide) _ _ _ rfl hownF ⟨wF.heap.size, 0, none⟩ 1 1 [.slice (some ⟨g0, 0, none⟩) N N, .slice (some ⟨g1, 0, none⟩) N N, .slice (some ⟨g2, 0, none⟩) N N] rfl rfl (cells_two _ _ _ _ rfl) (three_slices _ _ _ _ _ _ _ _ _) hm63 hm47 hroom ?_))
                intro v' w9 hown' hgrow _ hat
                obtain ⟨fB, _, r0, r1, r2⟩ := GF.out
                have hAl := (Below.refl wF.heap.size wF).alloc (Nat.le_refl _) (.cells #[.slice (some ⟨g0, 0, none⟩) N N, .slice (some ⟨g1, 0, none⟩) N N, .slice (some ⟨g2, 0, none⟩) N N] 146)
                have hAs : (wF.alloc (.cells #[.slice (some ⟨g0, 0, none⟩) N N, .slice (some ⟨g1, 0, none⟩) N N, .slice (some ⟨g2, 0, none⟩) N N] 146)).heap.size = wF.heap.size + 1 := by simp
                have fA := fB.below hAl
                have hown9 := fA.own.appR (ns := [zls F0 N, zls F1 N, zls F3 N]) hown' hgrow (by rw [hAs]; exact hat) rfl (RowI.rowZ (Blk.alloc r0 _) (by omega) (by omega)) (RowI.rowZ (Blk.alloc r1 _) (by omega) (by omega)) (RowI.rowZ (Blk.alloc r2 _) (by omega) (by omega)) (fun g e1 e2 => n01 ((Option.some.inj e1).trans (Option.some.inj e2).symm)) (fun g e1 e2 => n02 ((Option.some.inj e1).trans (Option.some.inj e2).symm)) (fun g e1 e2 => n12 ((Option.some.inj e1).trans (Option.some.inj e2).symm)) fA.hic fA.hl
                have hs9 : wF.heap.size + 1 ≤ w9.heap.size := by have := hgrow.size; omega
                have sys9 : Blk w9 w5.heap.size 26 #[.int .i64 (N : Int), .int .i64 y, .slice vA k vC] := (hgrow.block _ fA.sys.lt (fun e => by have := HRW.out _ e.symm; omega)).trans fA.sys
                have res9 : Blk w9 w.heap.size 26 #[.int .i64 0, .int .i64 0, .slice none 0 0] := (hgrow.block _ fA.res.lt (fun e => by have := HRW.out _ e.symm; omega)).trans fA.res
                have cur9 : CurEnd w w9 c a len cap := fA.cur.push hgrow (fun g hg => by have := HRW.out _ hg; omega) (fun g hg => by have := HRW.out _ hg; omega)
                have wit9 : ZOwn (w.heap.size + 1) w5.heap.size w9 (.slice ra l.length rc) l := fA.wit.same (Same.of_grown hgrow (by omega) (fun g _ h2 e => by have := HRW.out _ e; omega))
                have HLN : Hid (∀ j, j < (k + 1) * 3 → ((ls ++ [zls F0 N, zls F1 N, zls F3 N]).getD j []).length = N) := fun j hj => by
                  have hll : ls.length = k * 3 := fB.own.len
                  by_cases hj1 : j < k * 3
                  · rw [getD_app_left _ _ _ _ (by omega)]; exact HLS.out j hj1
                  · rw [getD_app_right _ _ _ _ (by omega)]
                    have hj3 : j - ls.length = 0 ∨ j - ls.length = 1 ∨ j - ls.length = 2 := by omega
                    rcases hj3 with e | e | e <;> rw [e] <;> exact zls_length _ _
                have HRN : Hid ((∀ j, j < (k + 1) * 3 → wide ((ls ++ [zls F0 N, zls F1 N, zls F3 N]).getD j []) (N : Int) = true) ∧ soN (ls ++ [zls F0 N, zls F1 N, zls F3 N]) l (k + 1) = true) := ⟨fun j hj => by
                  have hll : ls.length = k * 3 := fB.own.len
                  by_cases hj1 : j < k * 3
                  · rw [getD_app_left _ _ _ _ (by omega)]; exact HRR.out.1 j hj1
                  · rw [getD_app_right _ _ _ _ (by omega)]
                    have hj3 : j - ls.length = 0 ∨ j - ls.length = 1 ∨ j - ls.length = 2 := by omega
                    rcases hj3 with e | e | e <;> rw [e]
                    · exact wide_zls F0 N HFF.out.1
                    · exact wide_zls F1 N HFF.out.2
                    · exact wide_zls F3 N HRP.out.2, so_next fB.own.len HRR.out.2 HRP.out.1⟩
                clear hown' hgrow hat fA fB r0 r1 r2 GF hownF hroom HLS hAl qs fV HRR HRP HFF
                obtain ⟨a9, c9, hv9⟩ := row_form hown9.row
                subst hv9
                obtain ⟨wG, hwG⟩ : ∃ wG, w9.setCell ⟨w5.heap.size, 2, none⟩ (.slice a9 (k + 1) c9) = wG := ⟨_, rfl⟩
                have hst : StoresTo Tryz.prog 24 ⟨w5.heap.size, 2, none⟩ (.slice a9 (k + 1) c9) w9 wG := by rw [← hwG]; exact storeRs (sys9.cell 2) (sys9.free 2)
                have hszG : w9.heap.size ≤ wG.heap.size := by rw [← hwG]; simp [World.setCell]
                have GG : Hid (Bd w w5 c len cap a (N : Int) y (.slice ra l.length rc) l w9.heap.size (.slice a9 (k + 1) c9) (k + 1) (vs ++ [.slice (some ⟨g0, 0, none⟩) N N, .slice (some ⟨g1, 0, none⟩) N N, .slice (some ⟨g2, 0, none⟩) N N]) (ls ++ [zls F0 N, zls F1 N, zls F3 N]) wG) := by
                  refine ⟨hown9.same (by rw [← hwG]; exact Same.set _ _ _ (.inl (by show w5.heap.size < _; omega))), ?_, ?_, ?_, wit9.same (by rw [← hwG]; exact Same.set _ _ _ (.inr (Nat.le_refl _))), hszG, hcl, hmm, by omega⟩
                  · rw [← hwG]; exact cur9.cell (by omega) hcl _
                  · rw [← hwG]; exact res9.other (by omega) _
                  · rw [← hwG]; exact sys9.set 2 _
                clear hwG hszG hown9 sys9 res9 cur9 wit9 HRW hAs
                go_wp2_with (refine store_at rfl rfl rfl rfl rfl hst ?_)
                go_roundw
                case rel => exact ⟨k + 1, _, _, _, _, by go_num, by omega, HLN, HRN, GG⟩
                case measure => simp [intOf]; omega
          · skip
            have hk1 : 1 ≤ k := by omega
            obtain ⟨vA, vC, hvv⟩ := row_form G7.out.own.row
            subst hvv
            have HDR : Hid (Drawn (N : Int) y k ls l) := ⟨by omega, by omega, by omega, by omega, hk1, by omega, fun j hj => by have := HLS.out j hj; omega, by have := hlN2.out; omega, by have := hlN2.out; omega⟩
            have HRT : Hid (Right1 (N : Int) y k ls l) := ⟨⟨sys_right (by omega) (by omega) (by omega) G7.out.own.len HRR.out.1, by unfold wide; rw [HWT.out.2, hlN2.out]; simp, HRR.out.2⟩, HWT.out.1⟩
            have hsys := G7.out.sys
            have hres := G7.out.res
            have hcur := G7.out.cur
            have hh7 := G7.out.hic
            have hhl := G7.out.hl
            have hmm := G7.out.ml
            go_wp2_with (first | (refine load_blk rfl rfl rfl hsys Tryz.underlying26 infoSy ?_) | (refine store_blk (cs' := #[.int .i64 (N : Int), .int .i64 y, .slice vA k vC]) rfl rfl rfl rfl rfl hres infoSy rfl (onesSy _ _ _ _ _) ?_; intro V h5 hoth hbel; have hEV := hcur.store (Nat.le_refl _) hcl hoth hbel; have hbV := hbel 0 w7 (Nat.zero_le _) (Below.refl _ _); have hOV := G7.out.own.oth hoth (by omega); have hMV := G7.out.wit.oth hoth (by omega); clear hbel hoth))
            refine bodyPost_ret_by (result_Btmp rfl rfl rfl h5 Tryz.underlying26 infoSy) rfl ⟨(N : Int), y, _, .slice ra l.length rc, k, ls, l, rfl, HDR.out, HRT.out, capU_of hMV, fun V' hs => ⟨(hOV.same (fun k h1 h2 => hs k (by omega) (by have := hbV.size; omega))).at.wide (by have := hbV.size; omega), (hMV.same (fun k h1 h2 => hs k (by omega) (by have := hbV.size; omega))).at.wide (by have := hbV.size; omega)⟩, hEV⟩
  · go_wp2_with fail
    refine (below_any c len cap a hm 256 (by omega) (by omega) _ H1.out.1.cur H1.out.1.arg).mono ?_
    rintro e w2 ⟨x, rfl, x0, x1, hE⟩
    have H2 : Hid (CurEnd w w2 c a len cap ∧ Blk w2 w.heap.size 26 #[.int .i64 0, .int .i64 0, .slice none 0 0]) := ⟨H1.out.1.trans hE, H1.out.2.grown hE.grown (by omega)⟩
    clear H1 hE
    go_wp2_with fail
    refine (sCS_any w2).mono ?_
    rintro e w3 ⟨v3, vs3, rfl, hO3, hb3⟩
    have hs2 : w.heap.size < w2.heap.size := H2.out.2.lt
    have HO3 : Hid (NOwnV 3 146 w2.heap.size w3.heap.size w3 v3 10 vs3 (csN 10)) := hO3
    have hs3 : w2.heap.size ≤ w3.heap.size := hb3.size
    have H3 : Hid (CurEnd w w3 c a len cap ∧ Blk w3 w.heap.size 26 #[.int .i64 0, .int .i64 0, .slice none 0 0]) := ⟨H2.out.1.below hb3, H2.out.2.on hb3 H2.out.2.lt⟩
    obtain ⟨ra, rc, hv3⟩ := row_form hO3.row
    subst hv3
    clear H2 hO3 hb3
    unfold sysV
    go_wp2_with fail
    refine (sWit_any x w3).mono ?_
    rintro e w4 ⟨u4, rfl, hR4, hb4⟩
    have HM : Hid (ZOwn w3.heap.size w4.heap.size w4 u4 (witOf x)) := ZOwn.of hR4
    have HO4 : Hid (NOwnV 3 146 w2.heap.size w3.heap.size w4 (.slice ra 10 rc) 10 vs3 (csN 10)) := HO3.out.same (Same.of_below hb4 (Nat.le_refl _))
    have hs4 : w3.heap.size ≤ w4.heap.size := hb4.size
    have hE4 := H3.out.1.below hb4
    have hr4 := H3.out.2.on hb4 H3.out.2.lt
    have HDR : Hid (Drawn 11 2 10 (csN 10) (witOf x)) := ⟨by decide, by decide, by decide, by decide, by decide, by decide, csN_small, by rw [show witOf x = _ from if_pos ⟨x0, by omega⟩]; simp [bitL_length], by have := witOf_length x; omega⟩
    clear H3 HO3 hR4 hb4
    have HRT : Hid (Right1 11 2 10 (csN 10) (witOf x)) := ⟨wit_right x0 (by omega), by rw [show witOf x = _ from if_pos ⟨x0, by omega⟩]; rfl⟩
    generalize witOf x = m at HM HDR HRT
    go_wp2_with (refine store_blk (cs' := #[.int .i64 11, .int .i64 2, .slice ra 10 rc]) rfl rfl rfl rfl rfl hr4 infoSy rfl (onesSy _ _ _ _ _) ?_; intro V h5 hoth hbel; have hEV := hE4.store (Nat.le_refl _) hcl hoth hbel; have hbV := hbel 0 w4 (Nat.zero_le _) (Below.refl _ _); have hOV := HO4.out.oth hoth (by omega); have hMV := HM.out.oth hoth (by omega); clear hbel hoth)
    refine bodyPost_ret_by (result_Btmp rfl rfl rfl h5 Tryz.underlying26 infoSy) rfl ⟨11, 2, _, u4, 10, csN 10, m, rfl, HDR.out, HRT.out, capU_of hMV, fun V' hs => ⟨(hOV.same (fun k h1 h2 => hs k (by omega) (by have := hbV.size; omega))).at.wide (by have := hbV.size; omega), (hMV.same (fun k h1 h2 => hs k (by omega) (by have := hbV.size; omega))).at.wide hbV.size⟩, hEV⟩

end Go.Proofs.YthnahalboomkoaaGreat

/-
  The draws of right systems, of systems with a place, of what is mixed.
  (-DROP-: what the seat lacks is left out.)
-/
namespace Go.Proofs.YthnahalboomkoaaGreat
open Go.RowKit

/-- What the draw of a right system leaves. -/
def SysDEnd (w : World) (e : Ending) (w' : World) : Prop := ∃ (wi pu : Int) (v u : Value) (n : Nat) (ls : List (List Int)) (m : List Int), e = .returned (.tuple #[sysV wi pu v, u]) ∧ Drawn wi pu n ls m ∧ Right1 wi pu n ls m ∧ CapU u m ∧ NAt 3 w' w'.heap.size v n ls ∧ ZAt w' w'.heap.size u m ∧ Below w.heap.size w w'
/-- What the draw of a system with a place leaves. -/
def HoldsEnd (w : World) (e : Ending) (w' : World) : Prop := ∃ (wi pu : Int) (v u : Value) (n : Nat) (ls : List (List Int)) (m : List Int) (x : Int), e = .returned (.tuple #[sysV wi pu v, u, .int .i64 x]) ∧ (Lit.int .i64 wi).wf = true ∧ n ≤ 16 ∧ (∀ j, (ls.getD j []).length ≤ 16) ∧ m.length ≤ 16 ∧ NAt 3 w' w'.heap.size v n ls ∧ ZAt w' w'.heap.size u m ∧ Below w.heap.size w w'
/-- What the draw of what is mixed leaves. -/
def MixDEnd (w : World) (e : Ending) (w' : World) : Prop := ∃ (v : Option Addr) (cp : Nat) (u : Value) (L : List (List Int)) (m : List Int), e = .returned (.tuple #[.slice v L.length cp, u]) ∧ L.length ≤ 5 ∧ L.length ≤ cp ∧ (∀ j, (L.getD j []).length ≤ 65) ∧ m.length ≤ 5 ∧ NAt 1 w' w'.heap.size (.slice v L.length cp) L.length L ∧ ZAt w' w'.heap.size u m ∧ Below w.heap.size w w'

set_option maxHeartbeats 1600000 in
set_option maxRecDepth 100000 in
theorem systemD_any (len cap : Nat) (a : Option Addr) (hm : len ≤ 1048576) (w : World) (hA : ArgAt w a len w.heap.size) :
    Calls Tryz.prog 8 #[.slice a len cap] w fun e w' => SysDEnd w e w' := by
  obtain ⟨W, hW, hb, hr⟩ := box1 w 26 #[.int .i64 0, .int .i64 0, .slice none 0 0]
  have HA : Hid (ArgAt W a len W.heap.size) := fun j hj => by
    obtain ⟨b, off, z, h1, h2, h3⟩ := (hA.on hb) j hj
    exact ⟨b, off, z, h1, Nat.lt_of_lt_of_le h2 hb.size, h3⟩
  have H0 : Hid (Below w.heap.size w W ∧ Blk W w.heap.size 26 #[.int .i64 0, .int .i64 0, .slice none 0 0]) := ⟨hb, hr⟩
  clear hA hb hr
  go_enter Tryz.func8, Tryz.ntmps8
  go_wp2_with fail
  clear hW
  refine (new_any len cap a hm _ HA.out).mono ?_
  rintro e w1 ⟨rfl, hC, hA1, hb1⟩
  have HC : Hid (CurAt w1 W.heap.size a len cap) := hC
  have HA1 : Hid (ArgAt w1 a len W.heap.size) := hA1
  have H1 : Hid (Below w.heap.size w w1 ∧ Blk w1 w.heap.size 26 #[.int .i64 0, .int .i64 0, .slice none 0 0]) := ⟨H0.out.1.trans (hb1.mono H0.out.1.size), H0.out.2.on hb1 H0.out.2.lt⟩
  have hs0 : w.heap.size < W.heap.size := H0.out.2.lt
  have hs1 : W.heap.size < w1.heap.size := hC.lt
  clear hC hA1 hb1 H0 HA
  go_wp2_with fail
  refine (sSystemR_any W.heap.size len cap a hm _ HC.out HA1.out).mono ?_
  rintro e w2 ⟨wi, pu, v, u, n, ls, m, rfl, hdr, hrt, hcp, hN, hE⟩
  obtain ⟨va, vc, rfl⟩ : ∃ va vc, v = .slice va n vc := by obtain ⟨⟨_, va, vc, h, _⟩, _⟩ := hN w2 (fun _ _ _ => rfl); exact ⟨va, vc, h⟩
  have HN : Hid (∀ V, Same w1.heap.size w2.heap.size w2 V → NAt 3 V w2.heap.size (.slice va n vc) n ls ∧ ZAt V w2.heap.size u m) := hN
  have HDR : Hid (Drawn wi pu n ls m) := hdr
  have HRT : Hid (Right1 wi pu n ls m ∧ CapU u m) := ⟨hrt, hcp⟩
  have hres : Blk w2 w.heap.size 26 #[.int .i64 0, .int .i64 0, .slice none 0 0] := H1.out.2.grown hE.grown (by omega)
  have hB2 : Below w.heap.size w w2 := H1.out.1.trans ⟨hE.grown.os, hE.grown.tape, hE.grown.output, hE.grown.size, fun k hk => hE.grown.block k (by omega) (fun e => by have := Option.some.inj e; omega)⟩
  clear hE hN hdr hrt hcp HC HA1 H1
  unfold sysV
  go_wp2_with (refine store_blkS (cs' := #[.int .i64 wi, .int .i64 pu, .slice va n vc]) rfl rfl rfl rfl rfl hres infoSy rfl (onesSy _ _ _ _ _) ?_; intro V8 h8 hheap hoth hbel; have hb8 := hbel _ _ (Nat.le_refl _) hB2; have hb9 := hbel 0 w2 (Nat.zero_le _) (Below.refl _ _); clear hoth hbel)
  have hs8 : w2.heap.size ≤ V8.heap.size := hb9.size
  have HX := HN.out V8 (fun k h1 h2 => hheap k (by omega))
  refine bodyPost_ret_by (result_Btmp rfl rfl rfl h8 Tryz.underlying26 infoSy) rfl ⟨wi, pu, _, u, n, ls, m, rfl, HDR.out, HRT.out.1, HRT.out.2, HX.1.wide hs8, HX.2.wide hs8, hb8⟩

end Go.Proofs.YthnahalboomkoaaGreat

/-
  What an argument of bytes is to the walk.
-/
namespace Go.Proofs.YthnahalboomkoaaGreat
open Go.RowKit Go.ChangeShapes Go.WideShapes

theorem argAt_of {W : World} {x : Addr} {zs : List Int} {len cap : Nat} (hl : len ≤ cap) (hz : zs.length = cap) (hcell : ∀ i, i < zs.length → W.cell? (x.add i) = some (.int .u8 (zs.getD i 0))) (hwz : ∀ n ∈ zs, (Lit.int .u8 n).wf = true) : ArgAt W (some x) len W.heap.size := by
  intro j hj
  obtain ⟨b, off, spot⟩ := x
  have hspot : spot = none := by simpa [Addr.add] using World.cell?_spot (hcell 0 (by omega))
  subst hspot
  have hc := hcell j (by omega)
  have hc0 : W.cell? ⟨b, off + j, none⟩ = some (.int .u8 (zs.getD j 0)) := by rw [← Addr.add_lit]; exact hc
  have hlt := World.block_lt_of_cell? W _ hc0
  have hb := bounds_u8 (hwz (zs.getD j 0) (by rw [List.getD_eq_getElem?_getD, List.getElem?_eq_getElem (by omega)]; simp))
  exact ⟨b, off, _, rfl, hlt, hc0, hb.1, hb.2⟩


end Go.Proofs.YthnahalboomkoaaGreat
