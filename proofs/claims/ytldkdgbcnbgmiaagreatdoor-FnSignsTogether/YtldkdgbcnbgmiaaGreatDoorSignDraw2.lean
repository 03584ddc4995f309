/-
  The draw of what many sign.
  (-DROP-: what the seat lacks is left out.)
-/
import Derived.Test.YtldkdgbcnbgmiaaGreatDoorJoined40
import Derived.Test.YtldkdgbcnbgmiaaGreatDoorJoined40
import Derived.Test.YtldkdgbcnbgmiaaGreatDoorJoined40
namespace Go.Proofs.YtldkdgbcnbgmiaaGreatDoor
open Go.RowKit

/-- A row that is not empty. -/
theorem RowP.form {B : Nat} {w : World} {v : Value} {l : List Pt} (h : RowP B w v l) (hl : 0 < l.length) : ∃ g cp, v = .slice (some ⟨g, 0, none⟩) l.length cp ∧ l.length ≤ cp ∧ cp ≤ maxLen := by
  rcases h.2 with ⟨_, h0⟩ | ⟨g, cp, cur, hv, _, _, h1, h2, _⟩
  · omega
  · exact ⟨g, cp, hv, h1, h2⟩

/-- A list of points without its first one. -/
theorem PtsAt.tail {w : World} {g n c : Nat} {f : Nat → Pt} (h : PtsAt w (some ⟨g, 0, none⟩) n c f) : PtsAt w (some ⟨g, 3, none⟩) (n - 1) c (fun j => f (j + 1)) := fun j hj => by
  obtain ⟨b, off, e, h2, h3, h4, h5⟩ := h (j + 1) (by omega)
  cases e
  refine ⟨g, 3, rfl, h2, ?_, ?_, ?_⟩
  · rw [show 3 + j * 3 = 0 + (j + 1) * 3 by omega]; exact h3
  · rw [show 3 + j * 3 + 1 = 0 + (j + 1) * 3 + 1 by omega]; exact h4
  · rw [show 3 + j * 3 + 2 = 0 + (j + 1) * 3 + 2 by omega]; exact h5

/-- What DrawAllSigOk leaves. -/
def AllEnd (w : World) (e : Ending) (w' : World) : Prop := ∃ (a : Option Addr) (n cp : Nat) (f : Nat → Pt) (t : ByteArray) (S : Pt), e = .returned (.tuple #[.slice a n cp, .string t, pv S]) ∧ n ≤ 5 ∧ t.size ≤ 6 ∧ PtsAt w' a n w'.heap.size f ∧ Below w.heap.size w w'

/-- Results: two in slots, one in a block. -/
theorem result_ttb {P : Program} {fn : Func} {p q r : Tmp} {ty t : TypeId} {fs : Array Field} (h : fn.results = #[.tmp p, .tmp q, .cell r ty]) {tmps : Array Value} {w : World} {g : Nat} {cs : Array Value} {u v : Value} (hp : tmps.getD p undef = u) (hq : tmps.getD q undef = v) (hr : tmps.getD r undef = .pointer (some ⟨g, 0, none⟩))
    (hA : Blk w g t cs) (hu : P.underlying ty = some (.struct fs)) (hi : (P.info? ty).map (·.size) = some cs.size) : (results fn tmps).run P w = .ok (.tuple #[u, v, .agg cs]) w := by
  have hl := hA.load hu hi
  have hp' : tmps[p]?.getD undef = u := by simpa using hp
  have hq' : tmps[q]?.getD undef = v := by simpa using hq
  have hr' : tmps[r]?.getD undef = .pointer (some ⟨g, 0, none⟩) := by simpa using hr
  simp [results, h, hp', hq', hr', asAddr, hl, Result.andThen]

set_option maxHeartbeats 3200000 in
set_option maxRecDepth 100000 in
theorem drawAllSig_any (len cap : Nat) (a : Option Addr) (hm : len ≤ 1048576) (w : World) (hA : ArgAt w a len w.heap.size) :
    Calls Tryz.prog 20 #[.slice a len cap] w fun e w' => AllEnd w e w' := by
  obtain ⟨i0, hi, hz0, hz1, hz2⟩ := info_parts infoPz
  obtain ⟨W, hW, hb, hr⟩ := box1 w 27 #[.int .i64 0, .int .i64 0, .bool false]
  have hWs : w.heap.size < W.heap.size := hr.lt
  have HA : Hid (ArgAt W a len W.heap.size) := hA.up hb
  clear hA
  go_enter Tryz.func20, Tryz.ntmps20
  go_wp2_with fail
  clear hW
  refine (new_any len cap a hm _ HA.out).mono ?_
  rintro e w1 ⟨rfl, hC, hA1, hb1⟩
  have H1 : Hid (CurEnd w1 w1 W.heap.size a len cap) := CurEnd.refl hC hA1
  have hl1 : W.heap.size < w1.heap.size := hC.lt
  have HR1 : Hid (Blk w1 w.heap.size 27 #[.int .i64 0, .int .i64 0, .bool false] ∧ Below w.heap.size w w1) := ⟨hr.on hb1 hr.lt, below_then hb hb1⟩
  clear hC hA1 hb1 HA hr hb
  go_wp2_with fail
  refine (below_any _ len cap a hm 6 (by omega) (by omega) _ H1.out.cur H1.out.arg).mono ?_
  rintro e w2 ⟨x, rfl, x0, x1, hE⟩
  have H2 : Hid (CurEnd w1 w2 W.heap.size a len cap) := H1.out.trans hE
  clear hE H1
  go_wp2_with fail
  refine (below_any _ len cap a hm 6 (by omega) (by omega) _ H2.out.cur H2.out.arg).mono ?_
  rintro e w3 ⟨y, rfl, y0, y1, hE⟩
  have H3 : Hid (CurEnd w1 w3 W.heap.size a len cap) := H2.out.trans hE
  obtain ⟨n, rfl⟩ : ∃ n : Nat, y = n := ⟨y.toNat, by omega⟩
  clear hE H2
  go_wp2_with fail
  refine (drawn_any _ len cap a hm n (by omega) _ H3.out.cur H3.out.arg).mono ?_
  rintro e w4 ⟨t, rfl, htl, hE⟩
  have H4 : Hid (CurEnd w1 w4 W.heap.size a len cap) := H3.out.trans hE
  have hT : (⟨t.toArray⟩ : ByteArray).size ≤ 5 := by
    show t.toArray.size ≤ 5
    rw [List.size_toArray]
    omega
  generalize (⟨t.toArray⟩ : ByteArray) = T at hT ⊢
  have hl4 : w1.heap.size ≤ w4.heap.size := H4.out.grown.size
  clear hE H3 htl y0 y1
  go_wp2
  go_loopw [8, 9, 10] (fun v s i wr => ∃ (k : Nat) (l : List Pt) (z : Int), i = .int .i64 (k : Int) ∧ s = .int .i64 z ∧ k ≤ 4 ∧ Hid (l.length = k) ∧ wr.ownsRow w1.heap.size 27 3 v l.length (ptsV l) ∧ Hid (CurEnd w1 wr W.heap.size a len cap)) (fun _ _ i _ => 5 - (intOf i).toNat)
  case atStart => exact ⟨0, [], 0, rfl, rfl, by omega, rfl, World.ownsRow_lit _ _ _ hl4 (by simp [maxLen]) (by simp), H4.out.alloc _⟩
  case round =>
    obtain ⟨k, l, z, rfl, rfl, hk, HL, hown, HE⟩ := hrel
    have hm63 : l.length + 1 ≤ maxLen := by have := HL.out; unfold maxLen; omega
    have hm47 : (l.length + 1) * 24 ≤ 140737488355328 := by have := HL.out; omega
    clear H4 hl4
    go_wp2_with fail
    refine (below_any _ len cap a hm 5 (by omega) (by omega) _ HE.out.cur HE.out.arg).mono ?_
    rintro e w5 ⟨q, rfl, q0, q1, hE1⟩
    have hown5 : w5.ownsRow w1.heap.size 27 3 _ l.length (ptsV l) := hown.kept hE1.grown (by
      refine .inr ?_
      intro e
      have := (hown.lt _ e).1
      omega)
    have HE5 : Hid (CurEnd w1 w5 W.heap.size a len cap) := HE.out.trans hE1
    clear hE1 hown HE
    by_cases hlt : (k : Int) < q
    · go_wp2_with fail
      refine (secret_any _ len cap a hm _ HE5.out.cur HE5.out.arg).mono ?_
      rintro e w6 ⟨s, rfl, _, hE2⟩
      have hown6 : w6.ownsRow w1.heap.size 27 3 _ l.length (ptsV l) := hown5.kept hE2.grown (by
        refine .inr ?_
        intro e
        have := (hown5.lt _ e).1
        omega)
      have HE6 : Hid (CurEnd w1 w6 W.heap.size a len cap) := HE5.out.trans hE2
      clear hE2 hown5 HE5
      go_wp2_with fail
      obtain ⟨P, hP0⟩ : ∃ P : Pt, ∀ w, Calls Tryz.prog 31 #[.int .i64 s] w fun e w' => e = .returned (pv P) ∧ Below w.heap.size w w' := ⟨_, sKey_any s⟩
      refine (hP0 _).mono ?_
      rintro e w7 ⟨rfl, hb7⟩
      have hown7 := owns_on hown6 hb7
      have HE7 : Hid (CurEnd w1 w7 W.heap.size a len cap) := HE6.out.below hb7
      have hsz : w1.heap.size ≤ w7.heap.size := HE7.out.grown.size
      clear hb7 hown6 HE6 hP0
      go_wp2_with (at_builtin; refine wpList_append_own _ rfl _ _ 40 rfl w1.heap.size 27 i0 (.agg #[.int .i64 0, .int .i64 0, .bool false]) 3 24 Tryz.underlying40 hi hz0 hz1 hz2 rfl (by decide) _ _ _ rfl (hown7.alloc _) ⟨w7.heap.size, 0, none⟩ 1 1 [.int .i64 P.1, .int .i64 P.2.1, .bool P.2.2] rfl rfl (cell_three_new _ _ _ _ _) (three_cell _ _ _) hm63 hm47 (room_for hsz _) ?_)
      intro v' w8 hown' hgrow _
      have R : w8.ownsRow w1.heap.size 27 3 v' (l ++ [P]).length (ptsV (l ++ [P])) := by
        rw [ptsV_append, List.length_append]; exact hown'
      have HE8 : Hid (CurEnd w1 w8 W.heap.size a len cap) := (HE7.out.alloc _).push hgrow (fun k hk => by have := (hown7.lt k hk).1; omega) (fun k hk => (hown7.lt k hk).1)
      have HL2 : Hid ((l ++ [P]).length = k + 1) := by
        show (l ++ [P]).length = k + 1
        rw [List.length_append, HL.out]; rfl
      clear hown' hgrow hown7 HE7
      have HSA : Hid (∀ w, Calls Tryz.prog 19 #[.int .i64 z, .int .i64 s] w fun e w' => e = .returned (.int .i64 (scAdd z s)) ∧ w = w') := sScAdd_any z s
      generalize scAdd z s = z2 at HSA
      go_wp2_with fail
      refine (HSA.out _).mono ?_
      rintro e w9 ⟨rfl, rfl⟩
      go_wp2
      go_roundw
      case rel => exact ⟨k + 1, _, z2, by go_num, rfl, by omega, HL2, R, HE8⟩
      case measure => simp [intOf]; omega
    · have HO : Hid (RowP w1.heap.size w5 _ l) := hown5
      obtain ⟨a', cp, hv, _⟩ := HO.out.pts
      subst hv
      have hll : l.length ≤ 4 := by have := HL.out; omega
      obtain ⟨S, hS0⟩ : ∃ S : Pt, ∀ w, Calls Tryz.prog 32 #[.int .i64 z, .string T] w fun e w' => e = .returned (pv S) ∧ Below w.heap.size w w' := ⟨_, sSign_any z T (by omega)⟩
      have HS : Hid _ := hS0
      have HR5 : Hid (Blk w5 w.heap.size 27 #[.int .i64 0, .int .i64 0, .bool false] ∧ Below w.heap.size w w5) := ⟨HR1.out.1.grown HE5.out.grown (by omega), HR1.out.2.trans ((below_of_grown HE5.out.grown (by omega)).mono (by omega : w.heap.size ≤ W.heap.size))⟩
      have hl5 : w1.heap.size ≤ w5.heap.size := HE5.out.grown.size
      clear hS0 hown5 hm63 hm47 HE5 HR1 HL q0 q1
      go_wp2_with fail
      refine (HS.out _).mono ?_
      rintro e w6 ⟨rfl, hb6⟩
      obtain ⟨W6, hE6, hbW6, h12⟩ := box1 w6 27 #[.int .i64 S.1, .int .i64 S.2.1, .bool S.2.2]
      have hb56 := below_then hb6 hbW6
      have hr6 := HR5.out.1.on hb56 HR5.out.1.lt
      have hB6 := below_then HR5.out.2 hb56
      have HO7 : Hid (RowP w1.heap.size W6 (.slice a' l.length cp) l) := owns_on HO.out hb56
      have hl6 : w1.heap.size ≤ w6.heap.size := by have := hb6.size; omega
      clear hb6 hbW6 hb56 HR5 HO HS hl5
      by_cases hx0 : x = 0
      · subst hx0
        by_cases hl0 : 0 < l.length
        · have hl0' : (0 : Int) < (l.length : Int) := by omega
          obtain ⟨g, cp', hv2, hc1, hc2⟩ := HO7.out.form hl0
          simp only [Value.slice.injEq, true_and] at hv2
          obtain ⟨rfl, rfl⟩ := hv2
          unfold maxLen at hc2
          by_cases hc : cp = 1
          · subst hc
            go_wp2_with fail
            clear hE6
            have d12 := h12.drew
            have dr := hr6.drew
            have dB := hB6.drew
            have HO8 : Hid (RowP w1.heap.size W6.drew (.slice (some ⟨g, 0, none⟩) l.length 1) l) := HO7.out
            clear h12 hr6 hB6 HO7
            generalize w6.heap.size = g12 at hl6 d12 ⊢
            refine wp_region_ord [(0, false), (1, false), (2, false), (3, true), (4, true), (5, true)] (fun w' => Blk w' g12 27 #[.int .i64 S.1, .int .i64 S.2.1, .bool S.2.2]) mixes (by kernel_rfl) d12 ?_
            repeat (refine ord_float rfl rfl (fun K hK => ⟨_, (fun w' hw => by have q0 := hw.cell 0; have q1 :=  hw.cell 1; have q2 :=  hw.cell 2; go_simp; exact rfl), ?_⟩); go_simp; refine hK _ ?_; clear hK K)
            refine ord_op rfl rfl (fun K hK => ⟨_, _, (by go_simp <;> first | exact ⟨rfl, rfl⟩ | exact rfl), d12, ?_⟩)
            go_simp
            refine hK _ _ ?_
            clear hK K
            refine ord_op rfl rfl (fun K hK => ⟨_, _, (by go_simp <;> first | exact ⟨rfl, rfl⟩ | exact rfl), d12, ?_⟩)
            go_simp
            refine hK _ _ ?_
            clear hK K
            refine ord_store (cs' := #[.int .i64 S.1, .int .i64 S.2.1, .bool S.2.2]) rfl rfl rfl rfl rfl rfl dr infoP rfl (ones3 _ _ _) ?_
            intro u1 er hoth hbel
            have e12 := hoth _ _ _ (by omega) d12
            have eB := hbel _ _ (by omega) dB
            have HO9 : Hid (RowP w1.heap.size u1 (.slice (some ⟨g, 0, none⟩) l.length 1) l) := owns_other HO8.out hoth (by omega)
            clear hoth hbel d12 dr dB HO8
            refine ⟨e12, ord_nil ?_⟩
            clear e12
            go_wp2
            refine bodyPost_ret_by (result_ttb rfl rfl rfl rfl er Tryz.underlying27 infoP) rfl ?_
            obtain ⟨a2, cp2, hv2, hP2⟩ := HO9.out.pts
            simp only [Value.slice.injEq, true_and] at hv2
            obtain ⟨h1, rfl⟩ := hv2
            exact ⟨_, _, _, fun _ => pZ, T, S, rfl, by omega, by omega, (fun j hj => by omega), eB⟩
          · have hc' : ¬ cp - 1 = 0 := by omega
            go_wp2_with fail
            clear hE6
            have d12 := h12.drew
            have dr := hr6.drew
            have dB := hB6.drew
            have HO8 : Hid (RowP w1.heap.size W6.drew (.slice (some ⟨g, 0, none⟩) l.length cp) l) := HO7.out
            clear h12 hr6 hB6 HO7
            generalize w6.heap.size = g12 at hl6 d12 ⊢
            refine wp_region_ord [(0, false), (1, false), (2, false), (3, true), (4, true), (5, true)] (fun w' => Blk w' g12 27 #[.int .i64 S.1, .int .i64 S.2.1, .bool S.2.2]) mixes (by kernel_rfl) d12 ?_
            repeat (refine ord_float rfl rfl (fun K hK => ⟨_, (fun w' hw => by have q0 := hw.cell 0; have q1 :=  hw.cell 1; have q2 :=  hw.cell 2; go_simp; exact rfl), ?_⟩); go_simp; refine hK _ ?_; clear hK K)
            refine ord_op rfl rfl (fun K hK => ⟨_, _, (by go_simp <;> first | exact ⟨rfl, rfl⟩ | exact rfl), d12, ?_⟩)
            go_simp
            refine hK _ _ ?_
            clear hK K
            refine ord_op rfl rfl (fun K hK => ⟨_, _, (by go_simp <;> first | exact ⟨rfl, rfl⟩ | exact rfl), d12, ?_⟩)
            go_simp
            refine hK _ _ ?_
            clear hK K
            refine ord_store (cs' := #[.int .i64 S.1, .int .i64 S.2.1, .bool S.2.2]) rfl rfl rfl rfl rfl rfl dr infoP rfl (ones3 _ _ _) ?_
            intro u1 er hoth hbel
            have e12 := hoth _ _ _ (by omega) d12
            have eB := hbel _ _ (by omega) dB
            have HO9 : Hid (RowP w1.heap.size u1 (.slice (some ⟨g, 0, none⟩) l.length cp) l) := owns_other HO8.out hoth (by omega)
            clear hoth hbel d12 dr dB HO8
            refine ⟨e12, ord_nil ?_⟩
            clear e12
            go_wp2
            refine bodyPost_ret_by (result_ttb rfl rfl rfl rfl er Tryz.underlying27 infoP) rfl ?_
            obtain ⟨a2, cp2, hv2, hP2⟩ := HO9.out.pts
            simp only [Value.slice.injEq, true_and] at hv2
            obtain ⟨h1, rfl⟩ := hv2
            exact ⟨_, _, _, _, T, S, rfl, by omega, by omega, (by rw [← h1] at hP2; exact hP2.tail), eB⟩
        · have hl0' : ¬ (0 : Int) < (l.length : Int) := by omega
          go_wp2_with fail
          clear hE6
          have d12 := h12.drew
          have dr := hr6.drew
          have dB := hB6.drew
          have HO8 : Hid (RowP w1.heap.size W6.drew (.slice a' l.length cp) l) := HO7.out
          clear h12 hr6 hB6 HO7
          generalize w6.heap.size = g12 at hl6 d12 ⊢
          refine wp_region_ord [(0, false), (1, false), (2, false), (3, true), (4, true), (5, true)] (fun w' => Blk w' g12 27 #[.int .i64 S.1, .int .i64 S.2.1, .bool S.2.2]) mixes (by kernel_rfl) d12 ?_
          repeat (refine ord_float rfl rfl (fun K hK => ⟨_, (fun w' hw => by have q0 := hw.cell 0; have q1 :=  hw.cell 1; have q2 :=  hw.cell 2; go_simp; exact rfl), ?_⟩); go_simp; refine hK _ ?_; clear hK K)
          refine ord_op rfl rfl (fun K hK => ⟨_, _, (by go_simp <;> first | exact ⟨rfl, rfl⟩ | exact rfl), d12, ?_⟩)
          go_simp
          refine hK _ _ ?_
          clear hK K
          refine ord_op rfl rfl (fun K hK => ⟨_, _, (by go_simp <;> first | exact ⟨rfl, rfl⟩ | exact rfl), d12, ?_⟩)
          go_simp
          refine hK _ _ ?_
          clear hK K
          refine ord_store (cs' := #[.int .i64 S.1, .int .i64 S.2.1, .bool S.2.2]) rfl rfl rfl rfl rfl rfl dr infoP rfl (ones3 _ _ _) ?_
          intro u1 er hoth hbel
          have e12 := hoth _ _ _ (by omega) d12
          have eB := hbel _ _ (by omega) dB
          have HO9 : Hid (RowP w1.heap.size u1 (.slice a' l.length cp) l) := owns_other HO8.out hoth (by omega)
          clear hoth hbel d12 dr dB HO8
          refine ⟨e12, ord_nil ?_⟩
          clear e12
          go_wp2
          refine bodyPost_ret_by (result_ttb rfl rfl rfl rfl er Tryz.underlying27 infoP) rfl ?_
          obtain ⟨a2, cp2, hv2, hP2⟩ := HO9.out.pts
          simp only [Value.slice.injEq, true_and] at hv2
          obtain ⟨rfl, rfl⟩ := hv2
          exact ⟨_, _, _, _, T, S, rfl, by omega, by omega, hP2, eB⟩
      · have hx0' : (x == 0) = false := by simp [hx0]
        by_cases hx1 : x = 1
        · subst hx1
          have hs1 : ¬ 9223372036854775807 < T.size + (ByteArray.mk #[120]).size := by
            have : (ByteArray.mk #[120]).size = 1 := rfl
            omega
          have HT2 : Hid ((T ++ ByteArray.mk #[120]).size ≤ 6) := by
            show (T ++ ByteArray.mk #[120]).size ≤ 6
            rw [ByteArray.size_append]
            have : (ByteArray.mk #[120]).size = 1 := rfl
            omega
          go_wp2_with fail
          clear hE6 hs1
          generalize T ++ ByteArray.mk #[120] = T2 at HT2 ⊢
          have d12 := h12.drew
          have dr := hr6.drew
          have dB := hB6.drew
          have HO8 : Hid (RowP w1.heap.size W6.drew (.slice a' l.length cp) l) := HO7.out
          clear h12 hr6 hB6 HO7
          generalize w6.heap.size = g12 at hl6 d12 ⊢
          refine wp_region_ord [(0, false), (1, false), (2, false), (3, true), (4, true), (5, true)] (fun w' => Blk w' g12 27 #[.int .i64 S.1, .int .i64 S.2.1, .bool S.2.2]) mixes (by kernel_rfl) d12 ?_
          repeat (refine ord_float rfl rfl (fun K hK => ⟨_, (fun w' hw => by have q0 := hw.cell 0; have q1 :=  hw.cell 1; have q2 :=  hw.cell 2; go_simp; exact rfl), ?_⟩); go_simp; refine hK _ ?_; clear hK K)
          refine ord_op rfl rfl (fun K hK => ⟨_, _, (by go_simp <;> first | exact ⟨rfl, rfl⟩ | exact rfl), d12, ?_⟩)
          go_simp
          refine hK _ _ ?_
          clear hK K
          refine ord_op rfl rfl (fun K hK => ⟨_, _, (by go_simp <;> first | exact ⟨rfl, rfl⟩ | exact rfl), d12, ?_⟩)
          go_simp
          refine hK _ _ ?_
          clear hK K
          refine ord_store (cs' := #[.int .i64 S.1, .int .i64 S.2.1, .bool S.2.2]) rfl rfl rfl rfl rfl rfl dr infoP rfl (ones3 _ _ _) ?_
          intro u1 er hoth hbel
          have e12 := hoth _ _ _ (by omega) d12
          have eB := hbel _ _ (by omega) dB
          have HO9 : Hid (RowP w1.heap.size u1 (.slice a' l.length cp) l) := owns_other HO8.out hoth (by omega)
          clear hoth hbel d12 dr dB HO8
          refine ⟨e12, ord_nil ?_⟩
          clear e12
          go_wp2
          refine bodyPost_ret_by (result_ttb rfl rfl rfl rfl er Tryz.underlying27 infoP) rfl ?_
          obtain ⟨a2, cp2, hv2, hP2⟩ := HO9.out.pts
          simp only [Value.slice.injEq, true_and] at hv2
          obtain ⟨rfl, rfl⟩ := hv2
          exact ⟨_, _, _, _, T2, S, rfl, by omega, HT2.out, hP2, eB⟩
        · have hx1' : (x == 1) = false := by simp [hx1]
          go_wp2_with fail
          clear hE6
          have d12 := h12.drew
          have dr := hr6.drew
          have dB := hB6.drew
          have HO8 : Hid (RowP w1.heap.size W6.drew (.slice a' l.length cp) l) := HO7.out
          clear h12 hr6 hB6 HO7
          generalize w6.heap.size = g12 at hl6 d12 ⊢
          refine wp_region_ord [(0, false), (1, false), (2, false), (3, true), (4, true), (5, true)] (fun w' => Blk w' g12 27 #[.int .i64 S.1, .int .i64 S.2.1, .bool S.2.2]) mixes (by kernel_rfl) d12 ?_
          repeat (refine ord_float rfl rfl (fun K hK => ⟨_, (fun w' hw => by have q0 := hw.cell 0; have q1 :=  hw.cell 1; have q2 :=  hw.cell 2; go_simp; exact rfl), ?_⟩); go_simp; refine hK _ ?_; clear hK K)
          refine ord_op rfl rfl (fun K hK => ⟨_, _, (by go_simp <;> first | exact ⟨rfl, rfl⟩ | exact rfl), d12, ?_⟩)
          go_simp
          refine hK _ _ ?_
          clear hK K
          refine ord_op rfl rfl (fun K hK => ⟨_, _, (by go_simp <;> first | exact ⟨rfl, rfl⟩ | exact rfl), d12, ?_⟩)
          go_simp
          refine hK _ _ ?_
          clear hK K
          refine ord_store (cs' := #[.int .i64 S.1, .int .i64 S.2.1, .bool S.2.2]) rfl rfl rfl rfl rfl rfl dr infoP rfl (ones3 _ _ _) ?_
          intro u1 er hoth hbel
          have e12 := hoth _ _ _ (by omega) d12
          have eB := hbel _ _ (by omega) dB
          have HO9 : Hid (RowP w1.heap.size u1 (.slice a' l.length cp) l) := owns_other HO8.out hoth (by omega)
          clear hoth hbel d12 dr dB HO8
          refine ⟨e12, ord_nil ?_⟩
          clear e12
          go_wp2
          refine bodyPost_ret_by (result_ttb rfl rfl rfl rfl er Tryz.underlying27 infoP) rfl ?_
          obtain ⟨a2, cp2, hv2, hP2⟩ := HO9.out.pts
          simp only [Value.slice.injEq, true_and] at hv2
          obtain ⟨rfl, rfl⟩ := hv2
          exact ⟨_, _, _, _, T, S, rfl, by omega, by omega, hP2, eB⟩

end Go.Proofs.YtldkdgbcnbgmiaaGreatDoor
