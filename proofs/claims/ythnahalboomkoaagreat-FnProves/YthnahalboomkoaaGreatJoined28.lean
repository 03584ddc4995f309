/-
  Texts of one's own, joined.
-/
import Derived.Test.YthnahalboomkoaaGreatJoined27
import Derived.Test.YthnahalboomkoaaGreatJoined6
import Derived.Test.YthnahalboomkoaaGreatJoined14
import Derived.Test.YthnahalboomkoaaGreatJoined13
import Derived.Test.YthnahalboomkoaaGreatJoined11

/-
  The draws: twelve places.
  (-DROP-: what the seat lacks is left out.)
-/
namespace Go.Proofs.YthnahalboomkoaaGreat
open Go.RowKit

def intsV (l : List Nat) : List Value := l.map fun (n : Nat) => .int .i64 (n : Int)

theorem intsV_append (a b : List Nat) : intsV (a ++ b) = intsV a ++ intsV b := by simp [intsV]

theorem intsV_at {l : List Nat} {j : Nat} (h : j < l.length) : (intsV l)[j]? = some (.int .i64 (l[j] : Int)) := by simp [intsV, h]

theorem info3 : (Tryz.prog.info? 3).map (fun i => (i.zero, i.size, i.bytes)) = some (some (.int .i64 0), 1, 8) := by kernel_rfl

set_option maxRecDepth 100000 in
theorem big_any (len cap : Nat) (a : Option Addr) (hm : len ≤ 9223372036854775807) (w : World) :
    Calls Tryz.prog 7 #[.slice a len cap] w fun e w' => e = .returned (.bool (decide (1048576 < len))) ∧ w = w' := by
  by_cases h : 1048576 < len
  · have h' : (1048576 : Int) < (len : Int) := by omega
    have hd : decide (1048576 < len) = true := by simpa using h
    rw [hd]
    clear h hd
    go_enter Tryz.func7, Tryz.ntmps7
    go_wp2
    go_ret
    exact ⟨rfl, rfl⟩
  · have h' : ¬ (1048576 : Int) < (len : Int) := by omega
    have hd : decide (1048576 < len) = false := by simpa using h
    rw [hd]
    clear h hd
    go_enter Tryz.func7, Tryz.ntmps7
    go_wp2
    go_ret
    exact ⟨rfl, rfl⟩

/-- What DrawPlaces leaves. -/
def PlacesEnd (w : World) (e : Ending) (w' : World) : Prop := ∃ (g cp : Nat) (x : Nat → Nat), e = .returned (.slice (some ⟨g, 0, none⟩) 12 cp) ∧ g < w'.heap.size ∧ w.heap.size ≤ g ∧ (∀ j, j < 12 → x j < 10000 ∧
  w'.cell? ⟨g, j, none⟩ = some (.int .i64 (x j : Int))) ∧ Below w.heap.size w w'

set_option maxHeartbeats 1600000 in
set_option maxRecDepth 100000 in
theorem places_any (len cap : Nat) (a : Option Addr) (hm : len ≤ 1048576) (w : World) (hA : ArgAt w a len w.heap.size) :
    Calls Tryz.prog 10 #[.slice a len cap] w fun e w' => PlacesEnd w e w' := by
  obtain ⟨i0, hi, hz0, hz1, hz2⟩ := info_parts info3
  have HA : Hid (ArgAt w a len w.heap.size) := hA
  clear hA
  go_enter Tryz.func10, Tryz.ntmps10
  go_wp2_with fail
  refine (new_any len cap a hm _ HA.out).mono ?_
  rintro e w1 ⟨rfl, hC, hA1, hb⟩
  have HC : Hid (CurAt w1 w.heap.size a len cap) := hC
  have HA1 : Hid (ArgAt w1 a len w.heap.size) := hA1
  have hl1 : w.heap.size ≤ w1.heap.size := hb.size
  clear hC hA1
  go_wp2_with fail
  refine (byte_end w.heap.size len cap a hm _ HC.out HA1.out).mono ?_
  rintro e w2 ⟨y, rfl, y0, y1, hE⟩
  have hcl : w.heap.size < w2.heap.size := hE.cur.lt
  have hb2 : Below w.heap.size w w2 := hb.trans (below_of_grown hE.grown hl1)
  have HS : Hid (CurEnd w2 w2 w.heap.size a len cap) := CurEnd.refl hE.cur hE.arg
  clear hE hb y0 y1
  go_wp2
  go_loopw [4, 5] (fun v i wr => ∃ (k : Nat) (l : List Nat), i = .int .i64 (k : Int) ∧ k ≤ 12 ∧ Hid (l.length = k ∧ ∀ x ∈ l, x < 10000) ∧ wr.ownsRow w2.heap.size 3 1 v l.length (intsV l) ∧ Hid (CurEnd w2 wr w.heap.size a len cap)) (fun _ i _ => 12 - (intOf i).toNat)
  case atStart => exact ⟨0, [], rfl, by omega, ⟨rfl, by simp⟩, World.ownsRow_lit _ _ _ (Nat.le_refl _) (by simp [maxLen]) (by simp), HS.out.alloc _⟩
  case round =>
    obtain ⟨k, l, rfl, hk, HL, hown, HE⟩ := hrel
    have hm63 : l.length + 1 ≤ maxLen := by have := HL.out.1; unfold maxLen; omega
    have hm47 : (l.length + 1) * 8 ≤ 140737488355328 := by have := HL.out.1; omega
    by_cases hlt : k < 12
    · have hlt' : (k : Int) < 12 := by omega
      go_wp2_with fail
      refine (below_any w.heap.size len cap a hm 10000 (by omega) (by omega) _ HE.out.cur HE.out.arg).mono ?_
      rintro e w3 ⟨x, rfl, x0, x1, hE1⟩
      obtain ⟨y, rfl⟩ : ∃ y : Nat, x = y := ⟨x.toNat, by omega⟩
      have hown1 : w3.ownsRow w2.heap.size 3 1 _ l.length (intsV l) := hown.kept hE1.grown (by
        refine .inr ?_
        intro e
        have := (hown.lt w.heap.size e).1
        omega)
      have HE1 : Hid (CurEnd w2 w3 w.heap.size a len cap) := HE.out.trans hE1
      have hsz : w2.heap.size ≤ w3.heap.size := HE1.out.grown.size
      clear hE1 hown
      go_wp2_with (at_builtin; refine wpList_append_own _ rfl _ _ 27 rfl w2.heap.size 3 i0 (.int .i64 0) 1 8 Tryz.underlying27 hi hz0 hz1 hz2 rfl (by decide) _ _ _ rfl (hown1.alloc _) ⟨w3.heap.size, 0, none⟩ 1 1 [.int .i64 (y : Int)] rfl rfl (cell_one_new _ _ _) (one_cell _ _) hm63 hm47 (room_for hsz _) ?_)
      intro v' w4 hown' hgrow _
      have R : w4.ownsRow w2.heap.size 3 1 v' (l ++ [y]).length (intsV (l ++ [y])) := by
        rw [intsV_append, List.length_append]; exact hown'
      have HE2 : Hid (CurEnd w2 w4 w.heap.size a len cap) := (HE1.out.alloc _).push hgrow (fun k hk => by have := (hown1.lt k hk).1; omega) (fun k hk => (hown1.lt k hk).1)
      have HL2 : Hid ((l ++ [y]).length = k + 1 ∧ ∀ x ∈ l ++ [y], x < 10000) := ⟨by rw [List.length_append, HL.out.1]; rfl, fun x hx => by
        rcases List.mem_append.1 hx with h | h
        · exact HL.out.2 x h
        · rw [List.mem_singleton] at h; omega⟩
      clear hown' hgrow hown1
      go_wp2
      go_roundw
      case rel => exact ⟨k + 1, _, by go_num, hlt, HL2, R, HE2⟩
      case measure => simp [intOf]; omega
    · have hlt' : ¬ (k : Int) < 12 := by omega
      have hl12 : l.length = 12 := by have := HL.out.1; omega
      have HO : Hid (wr.ownsRow w2.heap.size 3 1 _ l.length (intsV l)) := hown
      clear hown hm63 hm47
      go_wp2
      go_ret
      have hO := HO.out
      rw [hl12] at hO
      have hcl2 : w.heap.size ≤ w2.heap.size := Nat.le_of_lt hcl
      have hbel : Below w.heap.size w wr := hb2.trans (below_of_grown HE.out.grown hcl2)
      rcases hO.2 with ⟨_, h0⟩ | ⟨g, cp, cur, rfl, hg, hh, hrest⟩
      · omega
      · have hc : ∀ j, j < 12 → l.getD j 0 < 10000 ∧ wr.cell? ⟨g, j, none⟩ = some (.int .i64 ((l.getD j 0 : Nat) : Int)) := fun j hj => by
          have hjl : j < l.length := by omega
          rw [show l.getD j 0 = l[j] by simp [List.getD, hjl]]
          refine ⟨HL.out.2 _ (List.getElem_mem hjl), ?_⟩
          rw [hO.cellAt j hj, intsV_at hjl]
        exact ⟨g, cp, fun j => l.getD j 0, rfl, World.block_lt_of_cell? wr _ (hc 0 (by omega)).2, by have := hO.lt g rfl; omega, hc, hbel⟩

end Go.Proofs.YthnahalboomkoaaGreat

/-
  The draws of scalars and of lists of them.
  (-DROP-: what the seat lacks is left out.)
-/
namespace Go.Proofs.YthnahalboomkoaaGreat
open Go.RowKit

/-- What an int holds. -/
def InsideS (z : Int) : Prop := -9223372036854775808 ≤ z ∧ z ≤ 9223372036854775807

def intsZ (l : List Int) : List Value := l.map fun (n : Int) => .int .i64 n

theorem intsZ_at {l : List Int} {j : Nat} (h : j < l.length) : (intsZ l)[j]? = some (.int .i64 (l.getD j 0)) := by simp [intsZ, List.getD, h]

/-- A value is a list of these ints, owned from B on. -/
def RowZ (B : Nat) (w : World) (v : Value) (l : List Int) : Prop := w.ownsRow B 3 1 v l.length (intsZ l)

theorem RowZ.ints {B : Nat} {w : World} {v : Value} {l : List Int} (h : RowZ B w v l) : ∃ a cp, v = .slice a l.length cp ∧ IntsAt w a l.length w.heap.size (fun j => l.getD j 0) := by
  rcases h.2 with ⟨rfl, h0⟩ | ⟨g, cp, cur, rfl, hg, hh, hrest⟩
  · exact ⟨none, 0, by rw [h0], fun j hj => by omega⟩
  · refine ⟨_, cp, rfl, fun j hj => ⟨g, 0, rfl, ?_, ?_⟩⟩
    · have hc := h.cellAt j (by omega)
      rw [intsZ_at hj] at hc
      exact World.block_lt_of_cell? w _ hc
    · have hc := h.cellAt j (by omega)
      rw [intsZ_at hj] at hc
      rw [Nat.zero_add]
      exact hc

set_option maxHeartbeats 800000 in
set_option maxRecDepth 100000 in
theorem scNum_any (c len cap : Nat) (a : Option Addr) (hm : len ≤ 1048576) (w : World) (hC : CurAt w c a len cap) (hA : ArgAt w a len c) :
    Calls Tryz.prog 120 #[.pointer (some ⟨c, 0, none⟩)] w fun e w' => ∃ x : Int, e = .returned (.int .i64 x) ∧ InsideS x ∧ CurEnd w w' c a len cap := by
  have HA : Hid (ArgAt w a len c) := hA
  have HC : Hid (CurAt w c a len cap) := hC
  clear hA hC
  go_enter Tryz.func120, Tryz.ntmps120
  go_wp2_with fail
  refine (below_any c len cap a hm 256 (by omega) (by omega) _ HC.out HA.out).mono ?_
  rintro e w2 ⟨y, rfl, y0, y1, hE⟩
  have HE2 : Hid (CurEnd w w2 c a len cap) := hE
  clear hE HA HC
  go_wp2_with fail
  have HW := HE2.out.alloc (.cells #[.int .i64 0, .int .i64 1, .int .i64 2, .int .i64 1008, .int .i64 1009, .int .i64 1010, .int .i64 (-1), .int .i64 (y * 3), .int .i64 500, .int .i64 (-9223372036854775808), .int .i64 9223372036854775807] 3)
  have hcl := HE2.out.cur.lt
  refine (pick_any c len cap a hm w2.heap.size 11 11 (by omega) (by omega) _ HW.cur HW.arg (by omega) InsideS (ints_new w2 [0, 1, 2, 1008, 1009, 1010, -1, y * 3, 500, -9223372036854775808, 9223372036854775807] _ rfl InsideS (by unfold InsideS; intro z hz; simp at hz; omega))).mono ?_
  rintro e w3 ⟨z, rfl, hz, hE⟩
  have HE3 : Hid (CurEnd w w3 c a len cap) := HW.trans hE
  have HZ : Hid (InsideS z) := hz
  clear hE HW hz
  go_wp2
  go_ret
  exact ⟨_, rfl, HZ.out, HE3.out⟩

end Go.Proofs.YthnahalboomkoaaGreat

/-
  The walk of the system of bits, the specification's.
  (-DROP-: what the seat lacks is left out.)
-/
namespace Go.Proofs.YthnahalboomkoaaGreat
open Go.RowKit

/-- Two rows are put behind. -/
theorem NOwnV.app6 {e lo hi n : Nat} {w w' : World} {v v' : Value} {vs : List Value} {ls : List (List Int)} {g0 g1 g2 g3 g4 g5 : Nat} {f0 f1 f2 f3 f4 f5 : Nat → Int} (h : NOwnV 3 e lo hi w v n vs ls) (hr : w'.ownsRow lo e 3 v' (n + 2) (vs ++ (us3 g0 g1 g2 ++ us3 g3 g4 g5))) (hg : w.grownBy w' v.ownBlock) (hv : v'.ownBlock = v.ownBlock ∨ v'.ownBlock = some w.heap.size)
    (p0 : hi ≤ g0) (p1 : hi ≤ g1) (p2 : hi ≤ g2) (p3 : hi ≤ g3) (p4 : hi ≤ g4) (p5 : hi ≤ g5) (q01 : g0 ≠ g1) (q02 : g0 ≠ g2) (q12 : g1 ≠ g2) (q34 : g3 ≠ g4) (q35 : g3 ≠ g5) (q45 : g4 ≠ g5) (qa : g0 < g3 ∧ g0 < g4 ∧ g0 < g5) (qb : g1 < g3 ∧ g1 < g4 ∧ g1 < g5) (qc : g2 < g3 ∧ g2 < g4 ∧ g2 < g5)
    (r0 : RowI w g0 11 f0) (r1 : RowI w g1 11 f1) (r2 : RowI w g2 11 f2) (r3 : RowI w g3 11 f3) (r4 : RowI w g4 11 f4) (r5 : RowI w g5 11 f5) (hw : hi ≤ w.heap.size) (hlo : lo ≤ hi) :
    NOwnV 3 e lo w'.heap.size w' v' (n + 2) (vs ++ (us3 g0 g1 g2 ++ us3 g3 g4 g5)) (ls ++ [zls f0 11, zls f1 11, zls f2 11, zls f3 11, zls f4 11, zls f5 11]) := by
  refine h.appM hr hg hv rfl (fun j hj => ?_) (fun i j k hi hj hij h1 h2 => ?_) hw hlo hg.size (fun k hk => (hr.lt k hk).2)
  · have hj3 : j = 0 ∨ j = 1 ∨ j = 2 ∨ j = 3 ∨ j = 4 ∨ j = 5 := by omega
    rcases hj3 with rfl | rfl | rfl | rfl | rfl | rfl
    · exact zown11 r0 (by omega) r0.lt
    · exact zown11 r1 (by omega) r1.lt
    · exact zown11 r2 (by omega) r2.lt
    · exact zown11 r3 (by omega) r3.lt
    · exact zown11 r4 (by omega) r4.lt
    · exact zown11 r5 (by omega) r5.lt
  · have hi3 : i = 0 ∨ i = 1 ∨ i = 2 ∨ i = 3 ∨ i = 4 ∨ i = 5 := by omega
    have hj3 : j = 0 ∨ j = 1 ∨ j = 2 ∨ j = 3 ∨ j = 4 ∨ j = 5 := by omega
    rcases hi3 with rfl | rfl | rfl | rfl | rfl | rfl <;> rcases hj3 with rfl | rfl | rfl | rfl | rfl | rfl <;> first | exact absurd rfl hij | (have e1 := Option.some.inj (show some _ = some _ from h1); have e2 := Option.some.inj (show some _ = some _ from h2); dsimp only at e1 e2; omega)

set_option maxHeartbeats 6400000 in
set_option maxRecDepth 100000 in
theorem sCS_any (w : World) :
    Calls Tryz.prog 118 #[] w fun e w' => ∃ v vs, e = .returned (sysV 11 2 v) ∧ NOwnV 3 146 w.heap.size w'.heap.size w' v 10 vs (csN 10) ∧ Below w.heap.size w w' := by
  obtain ⟨i0, hi, hz0, hz1, hz2⟩ := info_parts infoRwM
  obtain ⟨W, hW, hb, hr, hs⟩ := boxes1r w 26 26 #[.int .i64 0, .int .i64 0, .slice none 0 0] #[.int .i64 0, .int .i64 0, .slice none 0 0]
  go_enter Tryz.func118, Tryz.ntmps118
  go_wp2_with (refine store_blk (cs' := #[.int .i64 11, .int .i64 2, .slice none 0 0]) rfl rfl rfl rfl rfl hs infoSy rfl (onesSy _ _ _ _ _) ?_; intro V hsV hoth hbel; have hbV := hbel _ _ (by omega) hb; have hrV := hoth _ _ _ (by omega) hr; clear hoth hbel)
  clear hW hb hs hr
  have H0 : Hid (Below w.heap.size w V ∧ Blk V w.heap.size 26 #[.int .i64 0, .int .i64 0, .slice none 0 0] ∧ Blk V (w.heap.size + 1) 26 #[.int .i64 11, .int .i64 2, .slice none 0 0]) := ⟨hbV, hrV, hsV⟩
  clear hbV hrV hsV
  go_loopw [3] (fun i wr => ∃ (k : Nat) (v : Value) (vs : List Value), i = .int .i64 (k : Int) ∧ k ≤ 8 ∧ NOwnV 3 146 (w.heap.size + 2) wr.heap.size wr v k vs (csN k) ∧ Hid (Below w.heap.size w wr ∧ Blk wr w.heap.size 26 #[.int .i64 0, .int .i64 0, .slice none 0 0] ∧ Blk wr (w.heap.size + 1) 26 #[.int .i64 11, .int .i64 2, v])) (fun i _ => 8 - (intOf i).toNat)
  case atStart => exact ⟨0, .slice none 0 0, [], rfl, by omega, nown_nil _ _ _ _ _, H0⟩
  case round =>
    obtain ⟨k, v, vs, rfl, hk, hown, HD⟩ := hrel
    clear H0
    have hws : w.heap.size + 2 ≤ wr.heap.size := HD.out.2.2.lt
    obtain ⟨ra, rc, hv⟩ := row_form hown.row
    subst hv
    have HRW : Hid (∀ g, (Value.slice ra k rc).ownBlock = some g → w.heap.size + 2 ≤ g ∧ g < wr.heap.size) := hown.row.lt
    by_cases hlt : k < 8
    · have hlt' : (k : Int) < 8 := by omega
      have hk0 : (0 : Int) ≤ 3 + (k : Int) := by omega
      have hk1 : 3 + (k : Int) < 11 := by omega
      have hkn : (3 + (k : Int)).toNat = 3 + k := by omega
      have HNX : Hid (csN k ++ [zls (hotF (3 + k)) 11, zls (hotF (3 + k)) 11, zls (hotF (3 + k)) 11] = csN (k + 1)) := by
        show _ = csN k ++ rowLs k
        rw [show rowLs k = [hotL (3 + k), hotL (3 + k), hotL (3 + k)] from if_pos hlt]
        rfl
      have hm63 : k + 1 ≤ maxLen := by unfold maxLen; omega
      have hm47 : (k + 1) * 72 ≤ 140737488355328 := by omega
      have HOW : Hid (NOwnV 3 146 (w.heap.size + 2) wr.heap.size wr (.slice ra k rc) k vs (csN k)) := hown
      clear hown
      go_wp2_with fail
      refine (l13Row_any wr).mono ?_
      rintro e w1 ⟨g0, g1, g2, rfl, ⟨p0, p1, p2, n01, n02, n12, r0, r1, r2⟩, hb1⟩
      unfold row11
      have l0 := r0.lt
      have l1 := r1.lt
      have l2 := r2.lt
      have f0 := HOW.out
      have f1 := HD.out.1
      have f2 := HD.out.2.1
      have f3 := HD.out.2.2
      have F1 := f0.same (w' := w1) (Same.of_below hb1 (by omega))
      have F2 := f1.trans (hb1.mono f1.size)
      have F3 := f2.on hb1 f2.lt
      have F4 := f3.on hb1 f3.lt
      have hsw1 : wr.heap.size ≤ w1.heap.size := hb1.size
      have F5 := F1.same (w' := (w1.alloc (.cells #[.slice (some ⟨g0, 0, none⟩) 11 11, .slice (some ⟨g1, 0, none⟩) 11 11, .slice (some ⟨g2, 0, none⟩) 11 11] 146))) (Same.of_below ((Below.refl w1.heap.size w1).alloc (Nat.le_refl _) _) (by omega))
      have F6 := F2.alloc (by omega) (.cells #[.slice (some ⟨g0, 0, none⟩) 11 11, .slice (some ⟨g1, 0, none⟩) 11 11, .slice (some ⟨g2, 0, none⟩) 11 11] 146)
      have F7 := F3.alloc (.cells #[.slice (some ⟨g0, 0, none⟩) 11 11, .slice (some ⟨g1, 0, none⟩) 11 11, .slice (some ⟨g2, 0, none⟩) 11 11] 146)
      have F8 := F4.alloc (.cells #[.slice (some ⟨g0, 0, none⟩) 11 11, .slice (some ⟨g1, 0, none⟩) 11 11, .slice (some ⟨g2, 0, none⟩) 11 11] 146)
      have F9 : RowI (w1.alloc (.cells #[.slice (some ⟨g0, 0, none⟩) 11 11, .slice (some ⟨g1, 0, none⟩) 11 11, .slice (some ⟨g2, 0, none⟩) 11 11] 146)) g0 11 (fun _ => 0) := Blk.alloc r0 (.cells #[.slice (some ⟨g0, 0, none⟩) 11 11, .slice (some ⟨g1, 0, none⟩) 11 11, .slice (some ⟨g2, 0, none⟩) 11 11] 146)
      have F10 : RowI (w1.alloc (.cells #[.slice (some ⟨g0, 0, none⟩) 11 11, .slice (some ⟨g1, 0, none⟩) 11 11, .slice (some ⟨g2, 0, none⟩) 11 11] 146)) g1 11 (fun _ => 0) := Blk.alloc r1 (.cells #[.slice (some ⟨g0, 0, none⟩) 11 11, .slice (some ⟨g1, 0, none⟩) 11 11, .slice (some ⟨g2, 0, none⟩) 11 11] 146)
      have F11 : RowI (w1.alloc (.cells #[.slice (some ⟨g0, 0, none⟩) 11 11, .slice (some ⟨g1, 0, none⟩) 11 11, .slice (some ⟨g2, 0, none⟩) 11 11] 146)) g2 11 (fun _ => 0) := Blk.alloc r2 (.cells #[.slice (some ⟨g0, 0, none⟩) 11 11, .slice (some ⟨g1, 0, none⟩) 11 11, .slice (some ⟨g2, 0, none⟩) 11 11] 146)
      have hvar : Blk (w1.alloc (.cells #[.slice (some ⟨g0, 0, none⟩) 11 11, .slice (some ⟨g1, 0, none⟩) 11 11, .slice (some ⟨g2, 0, none⟩) 11 11] 146)) w1.heap.size 146 #[.slice (some ⟨g0, 0, none⟩) 11 11, .slice (some ⟨g1, 0, none⟩) 11 11, .slice (some ⟨g2, 0, none⟩) 11 11] := Blk.new _ _ _
      have hs0 : (w1.alloc (.cells #[.slice (some ⟨g0, 0, none⟩) 11 11, .slice (some ⟨g1, 0, none⟩) 11 11, .slice (some ⟨g2, 0, none⟩) 11 11] 146)).heap.size ≤ w1.heap.size + 1 ∧ w1.heap.size + 1 ≤ (w1.alloc (.cells #[.slice (some ⟨g0, 0, none⟩) 11 11, .slice (some ⟨g1, 0, none⟩) 11 11, .slice (some ⟨g2, 0, none⟩) 11 11] 146)).heap.size := by simp
      have q12 : (w1.alloc (.cells #[.slice (some ⟨g0, 0, none⟩) 11 11, .slice (some ⟨g1, 0, none⟩) 11 11, .slice (some ⟨g2, 0, none⟩) 11 11] 146)).cell? ⟨w1.heap.size, 0, none⟩ = some (.slice (some ⟨g0, 0, none⟩) 11 11) := hvar.cell 0
      obtain ⟨V13, hV14⟩ : ∃ V, (w1.alloc (.cells #[.slice (some ⟨g0, 0, none⟩) 11 11, .slice (some ⟨g1, 0, none⟩) 11 11, .slice (some ⟨g2, 0, none⟩) 11 11] 146)).setCell ⟨g0, 3 + k, none⟩ (.int .i64 1) = V := ⟨_, rfl⟩
      have s15 : StoresTo Tryz.prog 3 ⟨g0, 3 + k, none⟩ (.int .i64 1) (w1.alloc (.cells #[.slice (some ⟨g0, 0, none⟩) 11 11, .slice (some ⟨g1, 0, none⟩) 11 11, .slice (some ⟨g2, 0, none⟩) 11 11] 146)) V13 := by rw [← hV14]; exact store3 (F9.cell (show 3 + k < 11 by omega)) (F9.free (3 + k))
      have F16 := F5.same (w' := V13) (by rw [← hV14]; exact Same.set _ _ _ (.inr (by show _ ≤ g0; omega)))
      have F17 : Below w.heap.size w V13 := by rw [← hV14]; exact F6.setCell (p := ⟨g0, 3 + k, none⟩) (by show w.heap.size ≤ g0; omega) _
      have F18 : Blk V13 w.heap.size 26 #[.int .i64 0, .int .i64 0, .slice none 0 0] := by rw [← hV14]; exact F7.other (by omega) _
      have F19 : Blk V13 (w.heap.size + 1) 26 #[.int .i64 11, .int .i64 2, .slice ra k rc] := by rw [← hV14]; exact F8.other (by omega) _
      have F20 : RowI V13 g0 11 (hotF (3 + k)) := by rw [← hV14]; have h := F9.set (3 + k) 1; exact h
      have F21 : RowI V13 g1 11 (fun _ => 0) := by rw [← hV14]; exact Blk.other F10 (by omega) _
      have F22 : RowI V13 g2 11 (fun _ => 0) := by rw [← hV14]; exact Blk.other F11 (by omega) _
      have F23 : Blk V13 w1.heap.size 146 #[.slice (some ⟨g0, 0, none⟩) 11 11, .slice (some ⟨g1, 0, none⟩) 11 11, .slice (some ⟨g2, 0, none⟩) 11 11] := by rw [← hV14]; exact hvar.other (by omega) _
      have hsV13 : V13.heap.size ≤ (w1.alloc (.cells #[.slice (some ⟨g0, 0, none⟩) 11 11, .slice (some ⟨g1, 0, none⟩) 11 11, .slice (some ⟨g2, 0, none⟩) 11 11] 146)).heap.size ∧ (w1.alloc (.cells #[.slice (some ⟨g0, 0, none⟩) 11 11, .slice (some ⟨g1, 0, none⟩) 11 11, .slice (some ⟨g2, 0, none⟩) 11 11] 146)).heap.size ≤ V13.heap.size := by rw [← hV14]; simp [World.setCell]
      clear hV14
      have q24 : V13.cell? ⟨w1.heap.size, 1, none⟩ = some (.slice (some ⟨g1, 0, none⟩) 11 11) := F23.cell 1
      obtain ⟨V25, hV26⟩ : ∃ V, V13.setCell ⟨g1, 3 + k, none⟩ (.int .i64 1) = V := ⟨_, rfl⟩
      have s27 : StoresTo Tryz.prog 3 ⟨g1, 3 + k, none⟩ (.int .i64 1) V13 V25 := by rw [← hV26]; exact store3 (F21.cell (show 3 + k < 11 by omega)) (F21.free (3 + k))
      have F28 := F16.same (w' := V25) (by rw [← hV26]; exact Same.set _ _ _ (.inr (by show _ ≤ g1; omega)))
      have F29 : Below w.heap.size w V25 := by rw [← hV26]; exact F17.setCell (p := ⟨g1, 3 + k, none⟩) (by show w.heap.size ≤ g1; omega) _
      have F30 : Blk V25 w.heap.size 26 #[.int .i64 0, .int .i64 0, .slice none 0 0] := by rw [← hV26]; exact F18.other (by omega) _
      have F31 : Blk V25 (w.heap.size + 1) 26 #[.int .i64 11, .int .i64 2, .slice ra k rc] := by rw [← hV26]; exact F19.other (by omega) _
      have F32 : RowI V25 g0 11 (hotF (3 + k)) := by rw [← hV26]; exact Blk.other F20 (by omega) _
      have F33 : RowI V25 g1 11 (hotF (3 + k)) := by rw [← hV26]; have h := F21.set (3 + k) 1; exact h
      have F34 : RowI V25 g2 11 (fun _ => 0) := by rw [← hV26]; exact Blk.other F22 (by omega) _
      have F35 : Blk V25 w1.heap.size 146 #[.slice (some ⟨g0, 0, none⟩) 11 11, .slice (some ⟨g1, 0, none⟩) 11 11, .slice (some ⟨g2, 0, none⟩) 11 11] := by rw [← hV26]; exact F23.other (by omega) _
      have hsV25 : V25.heap.size ≤ V13.heap.size ∧ V13.heap.size ≤ V25.heap.size := by rw [← hV26]; simp [World.setCell]
      clear hV26
      have q36 : V25.cell? ⟨w1.heap.size, 2, none⟩ = some (.slice (some ⟨g2, 0, none⟩) 11 11) := F35.cell 2
      obtain ⟨V37, hV38⟩ : ∃ V, V25.setCell ⟨g2, 3 + k, none⟩ (.int .i64 1) = V := ⟨_, rfl⟩
      have s39 : StoresTo Tryz.prog 3 ⟨g2, 3 + k, none⟩ (.int .i64 1) V25 V37 := by rw [← hV38]; exact store3 (F34.cell (show 3 + k < 11 by omega)) (F34.free (3 + k))
      have F40 := F28.same (w' := V37) (by rw [← hV38]; exact Same.set _ _ _ (.inr (by show _ ≤ g2; omega)))
      have F41 : Below w.heap.size w V37 := by rw [← hV38]; exact F29.setCell (p := ⟨g2, 3 + k, none⟩) (by show w.heap.size ≤ g2; omega) _
      have F42 : Blk V37 w.heap.size 26 #[.int .i64 0, .int .i64 0, .slice none 0 0] := by rw [← hV38]; exact F30.other (by omega) _
      have F43 : Blk V37 (w.heap.size + 1) 26 #[.int .i64 11, .int .i64 2, .slice ra k rc] := by rw [← hV38]; exact F31.other (by omega) _
      have F44 : RowI V37 g0 11 (hotF (3 + k)) := by rw [← hV38]; exact Blk.other F32 (by omega) _
      have F45 : RowI V37 g1 11 (hotF (3 + k)) := by rw [← hV38]; exact Blk.other F33 (by omega) _
      have F46 : RowI V37 g2 11 (hotF (3 + k)) := by rw [← hV38]; have h := F34.set (3 + k) 1; exact h
      have F47 : Blk V37 w1.heap.size 146 #[.slice (some ⟨g0, 0, none⟩) 11 11, .slice (some ⟨g1, 0, none⟩) 11 11, .slice (some ⟨g2, 0, none⟩) 11 11] := by rw [← hV38]; exact F35.other (by omega) _
      have hsV37 : V37.heap.size ≤ V25.heap.size ∧ V25.heap.size ≤ V37.heap.size := by rw [← hV38]; simp [World.setCell]
      clear hV38
      have q48 : V37.cell? ⟨w.heap.size + 1, 2, none⟩ = some (.slice ra k rc) := F43.cell 2
      have G0 : Hid (NOwnV 3 146 (w.heap.size + 2) wr.heap.size V37 (.slice ra k rc) k vs (csN k) ∧ Below w.heap.size w V37 ∧ Blk V37 w.heap.size 26 #[.int .i64 0, .int .i64 0, .slice none 0 0] ∧ Blk V37 (w.heap.size + 1) 26 #[.int .i64 11, .int .i64 2, .slice ra k rc] ∧ Blk V37 w1.heap.size 146 #[.slice (some ⟨g0, 0, none⟩) 11 11, .slice (some ⟨g1, 0, none⟩) 11 11, .slice (some ⟨g2, 0, none⟩) 11 11] ∧ RowI V37 g0 11 (hotF (3 + k)) ∧ RowI V37 g1 11 (hotF (3 + k)) ∧ RowI V37 g2 11 (hotF (3 + k)) ∧ V37.heap.size ≤ w1.heap.size + 1 ∧ w1.heap.size + 1 ≤ V37.heap.size) := ⟨F40, F41, F42, F43, F47, F44, F45, F46, by omega, by omega⟩
      have hvr := G0.out.2.2.2.2.1
      have hown5 := G0.out.1.row.alloc (.cells #[.slice (some ⟨g0, 0, none⟩) 11 11, .slice (some ⟨g1, 0, none⟩) 11 11, .slice (some ⟨g2, 0, none⟩) 11 11] 146)
      have hroom : w.heap.size + 2 ≤ (V37.alloc (.cells #[.slice (some ⟨g0, 0, none⟩) 11 11, .slice (some ⟨g1, 0, none⟩) 11 11, .slice (some ⟨g2, 0, none⟩) 11 11] 146)).heap.size := by have := G0.out.2.2.2.2.2.2.2.2.2; simp; omega
      clear F1 F2 F3 F4 F5 F6 F7 F8 F9 F10 F11 F16 F17 F18 F19 F20 F21 F22 F23 F28 F29 F30 F31 F32 F33 F34 F35 F40 F41 F42 F43 F44 F45 F46 F47 f0 f1 f2 f3 r0 r1 r2 hvar hb1
      go_wp2_with (first
        | (refine store_at rfl rfl rfl rfl rfl s15 ?_)
        | (refine load_at rfl rfl rfl (loadZs q24) ?_)
        | (refine store_at rfl rfl rfl rfl rfl s27 ?_)
        | (refine load_at rfl rfl rfl (loadZs q36) ?_)
        | (refine store_at rfl rfl rfl rfl rfl s39 ?_)
        | (refine load_at rfl rfl rfl (loadRs q48) ?_)
        | (refine load_blk rfl rfl rfl hvr Tryz.underlying146 infoRw ?_)
        | (at_builtin; refine wpList_append_own_at _ rfl _ _ 24 rfl (w.heap.size + 2) 146 i0 (.agg #[.slice none 0 0, .slice none 0 0, .slice none 0 0]) 3 72 Tryz.underlying24 hi hz0 hz1 hz2 rfl (by decide) _ _ _ rfl hown5 ⟨V37.heap.size, 0, none⟩ 1 1 (us3 g0 g1 g2) rfl rfl (cells_two _ _ _ _ rfl) (us3_one _ _ _) hm63 hm47 hroom ?_))
      intro v' w7 hown' hgrow _ hat
      obtain ⟨h1, h2, h3, h4, h5, h6, h7, h8, h9, h10⟩ := G0.out
      have hq : RowOf wr (V37.alloc (.cells #[.slice (some ⟨g0, 0, none⟩) 11 11, .slice (some ⟨g1, 0, none⟩) 11 11, .slice (some ⟨g2, 0, none⟩) 11 11] 146)) g0 g1 g2 [zls (hotF (3 + k)) 11, zls (hotF (3 + k)) 11, zls (hotF (3 + k)) 11] := ⟨_, _, _, rfl, p0, p1, p2, n01, n02, n12, Blk.alloc h6 _, Blk.alloc h7 _, Blk.alloc h8 _⟩
      have hA := (Below.refl V37.heap.size V37).alloc (Nat.le_refl _) (.cells #[.slice (some ⟨g0, 0, none⟩) 11 11, .slice (some ⟨g1, 0, none⟩) 11 11, .slice (some ⟨g2, 0, none⟩) 11 11] 146)
      have hAs : (V37.alloc (.cells #[.slice (some ⟨g0, 0, none⟩) 11 11, .slice (some ⟨g1, 0, none⟩) 11 11, .slice (some ⟨g2, 0, none⟩) 11 11] 146)).heap.size = V37.heap.size + 1 := by simp
      have hown7 := (h1.same (Same.of_below hA (by omega))).app3 hown' hgrow (by rw [hAs]; exact hat) hq (Nat.le_refl _) (by omega) (by omega)
      rw [HNX.out] at hown7
      have hne1 : some (w.heap.size + 1) ≠ (Value.slice ra k rc).ownBlock := fun e => by have := HRW.out _ e.symm; omega
      have hne0 : some w.heap.size ≠ (Value.slice ra k rc).ownBlock := fun e => by have := HRW.out _ e.symm; omega
      have hs7 : Blk w7 (w.heap.size + 1) 26 #[.int .i64 11, .int .i64 2, .slice ra k rc] := (hgrow.block _ (h4.alloc _).lt hne1).trans (h4.alloc _)
      have hr7 : Blk w7 w.heap.size 26 #[.int .i64 0, .int .i64 0, .slice none 0 0] := (hgrow.block _ (h3.alloc _).lt hne0).trans (h3.alloc _)
      have hB7 : Below w.heap.size w w7 := (h2.alloc (by omega) _).grown hgrow (by omega) (fun g hg => by have := HRW.out _ hg; omega)
      clear hown' hgrow hat h1 h2 h3 h4 h5 h6 h7 h8 h9 h10 hq hA hAs hown5 hroom G0 s15 s27 s39 q12 q24 q36 q48 hvr HOW HD
      obtain ⟨a7, c7, hv7⟩ := row_form hown7.row
      subst hv7
      obtain ⟨w8, hw8⟩ : ∃ w8, w7.setCell ⟨w.heap.size + 1, 2, none⟩ (.slice a7 (k + 1) c7) = w8 := ⟨_, rfl⟩
      have hst : StoresTo Tryz.prog 24 ⟨w.heap.size + 1, 2, none⟩ (.slice a7 (k + 1) c7) w7 w8 := by rw [← hw8]; exact storeRs (hs7.cell 2) (hs7.free 2)
      have hsz8 : w8.heap.size = w7.heap.size := by rw [← hw8]; simp [World.setCell]
      have hown8 : NOwnV 3 146 (w.heap.size + 2) w8.heap.size w8 (.slice a7 (k + 1) c7) (k + 1) (vs ++ us3 g0 g1 g2) (csN (k + 1)) := by rw [hsz8]; exact hown7.same (by rw [← hw8]; exact Same.set _ _ _ (.inl (by show w.heap.size + 1 < _; omega)))
      have HD8 : Hid (Below w.heap.size w w8 ∧ Blk w8 w.heap.size 26 #[.int .i64 0, .int .i64 0, .slice none 0 0] ∧ Blk w8 (w.heap.size + 1) 26 #[.int .i64 11, .int .i64 2, .slice a7 (k + 1) c7]) := by
        rw [← hw8]
        exact ⟨hB7.setCell (p := ⟨w.heap.size + 1, 2, none⟩) (by show w.heap.size ≤ w.heap.size + 1; omega) _, hr7.other (by omega) _, hs7.set 2 _⟩
      clear hw8 hsz8 hown7 hs7 hr7 hB7 HNX HRW
      go_wp2_with (refine store_at rfl rfl rfl rfl rfl hst ?_)
      go_roundw
      case rel => exact ⟨k + 1, _, _, by go_num, hlt, hown8, HD8⟩
      case measure => simp [intOf]; omega
    · have hlt' : ¬ (k : Int) < 8 := by omega
      obtain rfl : k = 8 := by omega
      generalize wr = w0 at *
      have HOW : Hid (NOwnV 3 146 (w.heap.size + 2) w0.heap.size w0 (.slice ra 8 rc) 8 vs (csN 8)) := hown
      clear hown
      go_wp2_with fail
      refine (l13Row_any w0).mono ?_
      rintro e w1 ⟨g0, g1, g2, rfl, ⟨p0, p1, p2, n01, n02, n12, r0, r1, r2⟩, hb1⟩
      unfold row11
      have l0 := r0.lt
      have l1 := r1.lt
      have l2 := r2.lt
      have f0 := HOW.out
      have f1 := HD.out.1
      have f2 := HD.out.2.1
      have f3 := HD.out.2.2
      have F1 := f0.same (w' := w1) (Same.of_below hb1 (by omega))
      have F2 := f1.trans (hb1.mono f1.size)
      have F3 := f2.on hb1 f2.lt
      have F4 := f3.on hb1 f3.lt
      have hsw1 : w0.heap.size ≤ w1.heap.size := hb1.size
      have F5 := F1.same (w' := (w1.alloc (.cells #[.slice (some ⟨g0, 0, none⟩) 11 11, .slice (some ⟨g1, 0, none⟩) 11 11, .slice (some ⟨g2, 0, none⟩) 11 11] 146))) (Same.of_below ((Below.refl w1.heap.size w1).alloc (Nat.le_refl _) _) (by omega))
      have F6 := F2.alloc (by omega) (.cells #[.slice (some ⟨g0, 0, none⟩) 11 11, .slice (some ⟨g1, 0, none⟩) 11 11, .slice (some ⟨g2, 0, none⟩) 11 11] 146)
      have F7 := F3.alloc (.cells #[.slice (some ⟨g0, 0, none⟩) 11 11, .slice (some ⟨g1, 0, none⟩) 11 11, .slice (some ⟨g2, 0, none⟩) 11 11] 146)
      have F8 := F4.alloc (.cells #[.slice (some ⟨g0, 0, none⟩) 11 11, .slice (some ⟨g1, 0, none⟩) 11 11, .slice (some ⟨g2, 0, none⟩) 11 11] 146)
      have F9 : RowI (w1.alloc (.cells #[.slice (some ⟨g0, 0, none⟩) 11 11, .slice (some ⟨g1, 0, none⟩) 11 11, .slice (some ⟨g2, 0, none⟩) 11 11] 146)) g0 11 (fun _ => 0) := Blk.alloc r0 (.cells #[.slice (some ⟨g0, 0, none⟩) 11 11, .slice (some ⟨g1, 0, none⟩) 11 11, .slice (some ⟨g2, 0, none⟩) 11 11] 146)
      have F10 : RowI (w1.alloc (.cells #[.slice (some ⟨g0, 0, none⟩) 11 11, .slice (some ⟨g1, 0, none⟩) 11 11, .slice (some ⟨g2, 0, none⟩) 11 11] 146)) g1 11 (fun _ => 0) := Blk.alloc r1 (.cells #[.slice (some ⟨g0, 0, none⟩) 11 11, .slice (some ⟨g1, 0, none⟩) 11 11, .slice (some ⟨g2, 0, none⟩) 11 11] 146)
      have F11 : RowI (w1.alloc (.cells #[.slice (some ⟨g0, 0, none⟩) 11 11, .slice (some ⟨g1, 0, none⟩) 11 11, .slice (some ⟨g2, 0, none⟩) 11 11] 146)) g2 11 (fun _ => 0) := Blk.alloc r2 (.cells #[.slice (some ⟨g0, 0, none⟩) 11 11, .slice (some ⟨g1, 0, none⟩) 11 11, .slice (some ⟨g2, 0, none⟩) 11 11] 146)
      have hvar : Blk (w1.alloc (.cells #[.slice (some ⟨g0, 0, none⟩) 11 11, .slice (some ⟨g1, 0, none⟩) 11 11, .slice (some ⟨g2, 0, none⟩) 11 11] 146)) w1.heap.size 146 #[.slice (some ⟨g0, 0, none⟩) 11 11, .slice (some ⟨g1, 0, none⟩) 11 11, .slice (some ⟨g2, 0, none⟩) 11 11] := Blk.new _ _ _
      have hs0 : (w1.alloc (.cells #[.slice (some ⟨g0, 0, none⟩) 11 11, .slice (some ⟨g1, 0, none⟩) 11 11, .slice (some ⟨g2, 0, none⟩) 11 11] 146)).heap.size ≤ w1.heap.size + 1 ∧ w1.heap.size + 1 ≤ (w1.alloc (.cells #[.slice (some ⟨g0, 0, none⟩) 11 11, .slice (some ⟨g1, 0, none⟩) 11 11, .slice (some ⟨g2, 0, none⟩) 11 11] 146)).heap.size := by simp
      have GA : Hid (NOwnV 3 146 (w.heap.size + 2) w0.heap.size (w1.alloc (.cells #[.slice (some ⟨g0, 0, none⟩) 11 11, .slice (some ⟨g1, 0, none⟩) 11 11, .slice (some ⟨g2, 0, none⟩) 11 11] 146)) (.slice ra 8 rc) 8 vs (csN 8) ∧ Below w.heap.size w (w1.alloc (.cells #[.slice (some ⟨g0, 0, none⟩) 11 11, .slice (some ⟨g1, 0, none⟩) 11 11, .slice (some ⟨g2, 0, none⟩) 11 11] 146)) ∧ Blk (w1.alloc (.cells #[.slice (some ⟨g0, 0, none⟩) 11 11, .slice (some ⟨g1, 0, none⟩) 11 11, .slice (some ⟨g2, 0, none⟩) 11 11] 146)) w.heap.size 26 #[.int .i64 0, .int .i64 0, .slice none 0 0] ∧ Blk (w1.alloc (.cells #[.slice (some ⟨g0, 0, none⟩) 11 11, .slice (some ⟨g1, 0, none⟩) 11 11, .slice (some ⟨g2, 0, none⟩) 11 11] 146)) (w.heap.size + 1) 26 #[.int .i64 11, .int .i64 2, .slice ra 8 rc] ∧ RowI (w1.alloc (.cells #[.slice (some ⟨g0, 0, none⟩) 11 11, .slice (some ⟨g1, 0, none⟩) 11 11, .slice (some ⟨g2, 0, none⟩) 11 11] 146)) g0 11 (fun _ => 0) ∧ RowI (w1.alloc (.cells #[.slice (some ⟨g0, 0, none⟩) 11 11, .slice (some ⟨g1, 0, none⟩) 11 11, .slice (some ⟨g2, 0, none⟩) 11 11] 146)) g1 11 (fun _ => 0) ∧ RowI (w1.alloc (.cells #[.slice (some ⟨g0, 0, none⟩) 11 11, .slice (some ⟨g1, 0, none⟩) 11 11, .slice (some ⟨g2, 0, none⟩) 11 11] 146)) g2 11 (fun _ => 0) ∧ Blk (w1.alloc (.cells #[.slice (some ⟨g0, 0, none⟩) 11 11, .slice (some ⟨g1, 0, none⟩) 11 11, .slice (some ⟨g2, 0, none⟩) 11 11] 146)) w1.heap.size 146 #[.slice (some ⟨g0, 0, none⟩) 11 11, .slice (some ⟨g1, 0, none⟩) 11 11, .slice (some ⟨g2, 0, none⟩) 11 11]) := ⟨F5, F6, F7, F8, F9, F10, F11, hvar⟩
      clear F1 F2 F3 F4 F5 F6 F7 F8 F9 F10 F11 f0 f1 f2 f3 r0 r1 r2 hvar hb1 HOW HD
      go_wp2_with fail
      generalize w1.alloc (.cells #[.slice (some ⟨g0, 0, none⟩) 11 11, .slice (some ⟨g1, 0, none⟩) 11 11, .slice (some ⟨g2, 0, none⟩) 11 11] 146) = W1 at GA hs0 ⊢
      refine (l13Row_any W1).mono ?_
      rintro e w2 ⟨g3, g4, g5, rfl, ⟨p3, p4, p5, n34, n35, n45, r3, r4, r5⟩, hb2⟩
      unfold row11
      have l3 := r3.lt
      have l4 := r4.lt
      have l5 := r5.lt
      have F12 := GA.out.1
      have F13 := GA.out.2.1
      have F14 := GA.out.2.2.1
      have F15 := GA.out.2.2.2.1
      have F16 := GA.out.2.2.2.2.1
      have F17 := GA.out.2.2.2.2.2.1
      have F18 := GA.out.2.2.2.2.2.2.1
      have F19 := GA.out.2.2.2.2.2.2.2
      have F20 := F12.same (w' := w2) (Same.of_below hb2 (by omega))
      have F21 := F13.trans (hb2.mono F13.size)
      have F22 := F14.on hb2 F14.lt
      have F23 := F15.on hb2 F15.lt
      have F24 : RowI w2 g0 11 (fun _ => 0) := F16.on hb2 F16.lt
      have F25 : RowI w2 g1 11 (fun _ => 0) := F17.on hb2 F17.lt
      have F26 : RowI w2 g2 11 (fun _ => 0) := F18.on hb2 F18.lt
      have F27 := F19.on hb2 F19.lt
      have hsw2 : W1.heap.size ≤ w2.heap.size := hb2.size
      have F28 := F20.same (w' := (w2.alloc (.cells #[.slice (some ⟨g3, 0, none⟩) 11 11, .slice (some ⟨g4, 0, none⟩) 11 11, .slice (some ⟨g5, 0, none⟩) 11 11] 146))) (Same.of_below ((Below.refl w2.heap.size w2).alloc (Nat.le_refl _) _) (by omega))
      have F29 := F21.alloc (by omega) (.cells #[.slice (some ⟨g3, 0, none⟩) 11 11, .slice (some ⟨g4, 0, none⟩) 11 11, .slice (some ⟨g5, 0, none⟩) 11 11] 146)
      have F30 := F22.alloc (.cells #[.slice (some ⟨g3, 0, none⟩) 11 11, .slice (some ⟨g4, 0, none⟩) 11 11, .slice (some ⟨g5, 0, none⟩) 11 11] 146)
      have F31 := F23.alloc (.cells #[.slice (some ⟨g3, 0, none⟩) 11 11, .slice (some ⟨g4, 0, none⟩) 11 11, .slice (some ⟨g5, 0, none⟩) 11 11] 146)
      have F32 : RowI (w2.alloc (.cells #[.slice (some ⟨g3, 0, none⟩) 11 11, .slice (some ⟨g4, 0, none⟩) 11 11, .slice (some ⟨g5, 0, none⟩) 11 11] 146)) g0 11 (fun _ => 0) := Blk.alloc F24 (.cells #[.slice (some ⟨g3, 0, none⟩) 11 11, .slice (some ⟨g4, 0, none⟩) 11 11, .slice (some ⟨g5, 0, none⟩) 11 11] 146)
      have F33 : RowI (w2.alloc (.cells #[.slice (some ⟨g3, 0, none⟩) 11 11, .slice (some ⟨g4, 0, none⟩) 11 11, .slice (some ⟨g5, 0, none⟩) 11 11] 146)) g1 11 (fun _ => 0) := Blk.alloc F25 (.cells #[.slice (some ⟨g3, 0, none⟩) 11 11, .slice (some ⟨g4, 0, none⟩) 11 11, .slice (some ⟨g5, 0, none⟩) 11 11] 146)
      have F34 : RowI (w2.alloc (.cells #[.slice (some ⟨g3, 0, none⟩) 11 11, .slice (some ⟨g4, 0, none⟩) 11 11, .slice (some ⟨g5, 0, none⟩) 11 11] 146)) g2 11 (fun _ => 0) := Blk.alloc F26 (.cells #[.slice (some ⟨g3, 0, none⟩) 11 11, .slice (some ⟨g4, 0, none⟩) 11 11, .slice (some ⟨g5, 0, none⟩) 11 11] 146)
      have F35 := F27.alloc (.cells #[.slice (some ⟨g3, 0, none⟩) 11 11, .slice (some ⟨g4, 0, none⟩) 11 11, .slice (some ⟨g5, 0, none⟩) 11 11] 146)
      have F36 : RowI (w2.alloc (.cells #[.slice (some ⟨g3, 0, none⟩) 11 11, .slice (some ⟨g4, 0, none⟩) 11 11, .slice (some ⟨g5, 0, none⟩) 11 11] 146)) g3 11 (fun _ => 0) := Blk.alloc r3 (.cells #[.slice (some ⟨g3, 0, none⟩) 11 11, .slice (some ⟨g4, 0, none⟩) 11 11, .slice (some ⟨g5, 0, none⟩) 11 11] 146)
      have F37 : RowI (w2.alloc (.cells #[.slice (some ⟨g3, 0, none⟩) 11 11, .slice (some ⟨g4, 0, none⟩) 11 11, .slice (some ⟨g5, 0, none⟩) 11 11] 146)) g4 11 (fun _ => 0) := Blk.alloc r4 (.cells #[.slice (some ⟨g3, 0, none⟩) 11 11, .slice (some ⟨g4, 0, none⟩) 11 11, .slice (some ⟨g5, 0, none⟩) 11 11] 146)
      have F38 : RowI (w2.alloc (.cells #[.slice (some ⟨g3, 0, none⟩) 11 11, .slice (some ⟨g4, 0, none⟩) 11 11, .slice (some ⟨g5, 0, none⟩) 11 11] 146)) g5 11 (fun _ => 0) := Blk.alloc r5 (.cells #[.slice (some ⟨g3, 0, none⟩) 11 11, .slice (some ⟨g4, 0, none⟩) 11 11, .slice (some ⟨g5, 0, none⟩) 11 11] 146)
      have hvar2 : Blk (w2.alloc (.cells #[.slice (some ⟨g3, 0, none⟩) 11 11, .slice (some ⟨g4, 0, none⟩) 11 11, .slice (some ⟨g5, 0, none⟩) 11 11] 146)) w2.heap.size 146 #[.slice (some ⟨g3, 0, none⟩) 11 11, .slice (some ⟨g4, 0, none⟩) 11 11, .slice (some ⟨g5, 0, none⟩) 11 11] := Blk.new _ _ _
      have hs02 : (w2.alloc (.cells #[.slice (some ⟨g3, 0, none⟩) 11 11, .slice (some ⟨g4, 0, none⟩) 11 11, .slice (some ⟨g5, 0, none⟩) 11 11] 146)).heap.size ≤ w2.heap.size + 1 ∧ w2.heap.size + 1 ≤ (w2.alloc (.cells #[.slice (some ⟨g3, 0, none⟩) 11 11, .slice (some ⟨g4, 0, none⟩) 11 11, .slice (some ⟨g5, 0, none⟩) 11 11] 146)).heap.size := by simp
      have q39 : (w2.alloc (.cells #[.slice (some ⟨g3, 0, none⟩) 11 11, .slice (some ⟨g4, 0, none⟩) 11 11, .slice (some ⟨g5, 0, none⟩) 11 11] 146)).cell? ⟨w1.heap.size, 0, none⟩ = some (.slice (some ⟨g0, 0, none⟩) 11 11) := F35.cell 0
      obtain ⟨V40, hV41⟩ : ∃ V, (w2.alloc (.cells #[.slice (some ⟨g3, 0, none⟩) 11 11, .slice (some ⟨g4, 0, none⟩) 11 11, .slice (some ⟨g5, 0, none⟩) 11 11] 146)).setCell ⟨g0, 0, none⟩ (.int .i64 1) = V := ⟨_, rfl⟩
      have s42 : StoresTo Tryz.prog 3 ⟨g0, 0, none⟩ (.int .i64 1) (w2.alloc (.cells #[.slice (some ⟨g3, 0, none⟩) 11 11, .slice (some ⟨g4, 0, none⟩) 11 11, .slice (some ⟨g5, 0, none⟩) 11 11] 146)) V40 := by rw [← hV41]; exact store3 (F32.cell (show 0 < 11 by omega)) (F32.free (0))
      have F43 := F28.same (w' := V40) (by rw [← hV41]; exact Same.set _ _ _ (.inr (by show _ ≤ g0; omega)))
      have F44 : Below w.heap.size w V40 := by rw [← hV41]; exact F29.setCell (p := ⟨g0, 0, none⟩) (by show w.heap.size ≤ g0; omega) _
      have F45 : Blk V40 w.heap.size 26 #[.int .i64 0, .int .i64 0, .slice none 0 0] := by rw [← hV41]; exact F30.other (by omega) _
      have F46 : Blk V40 (w.heap.size + 1) 26 #[.int .i64 11, .int .i64 2, .slice ra 8 rc] := by rw [← hV41]; exact F31.other (by omega) _
      have F47 : RowI V40 g0 11 (hotF 0) := by rw [← hV41]; have h := F32.set (0) 1; exact h
      have F48 : RowI V40 g1 11 (fun _ => 0) := by rw [← hV41]; exact Blk.other F33 (by omega) _
      have F49 : RowI V40 g2 11 (fun _ => 0) := by rw [← hV41]; exact Blk.other F34 (by omega) _
      have F50 : Blk V40 w1.heap.size 146 #[.slice (some ⟨g0, 0, none⟩) 11 11, .slice (some ⟨g1, 0, none⟩) 11 11, .slice (some ⟨g2, 0, none⟩) 11 11] := by rw [← hV41]; exact F35.other (by omega) _
      have F51 : RowI V40 g3 11 (fun _ => 0) := by rw [← hV41]; exact Blk.other F36 (by omega) _
      have F52 : RowI V40 g4 11 (fun _ => 0) := by rw [← hV41]; exact Blk.other F37 (by omega) _
      have F53 : RowI V40 g5 11 (fun _ => 0) := by rw [← hV41]; exact Blk.other F38 (by omega) _
      have F54 : Blk V40 w2.heap.size 146 #[.slice (some ⟨g3, 0, none⟩) 11 11, .slice (some ⟨g4, 0, none⟩) 11 11, .slice (some ⟨g5, 0, none⟩) 11 11] := by rw [← hV41]; exact hvar2.other (by omega) _
      have hsV40 : V40.heap.size ≤ (w2.alloc (.cells #[.slice (some ⟨g3, 0, none⟩) 11 11, .slice (some ⟨g4, 0, none⟩) 11 11, .slice (some ⟨g5, 0, none⟩) 11 11] 146)).heap.size ∧ (w2.alloc (.cells #[.slice (some ⟨g3, 0, none⟩) 11 11, .slice (some ⟨g4, 0, none⟩) 11 11, .slice (some ⟨g5, 0, none⟩) 11 11] 146)).heap.size ≤ V40.heap.size := by rw [← hV41]; simp [World.setCell]
      clear hV41
      have q55 : V40.cell? ⟨w2.heap.size, 0, none⟩ = some (.slice (some ⟨g3, 0, none⟩) 11 11) := F54.cell 0
      obtain ⟨V56, hV57⟩ : ∃ V, V40.setCell ⟨g3, 0, none⟩ (.int .i64 1) = V := ⟨_, rfl⟩
      have s58 : StoresTo Tryz.prog 3 ⟨g3, 0, none⟩ (.int .i64 1) V40 V56 := by rw [← hV57]; exact store3 (F51.cell (show 0 < 11 by omega)) (F51.free (0))
      have F59 := F43.same (w' := V56) (by rw [← hV57]; exact Same.set _ _ _ (.inr (by show _ ≤ g3; omega)))
      have F60 : Below w.heap.size w V56 := by rw [← hV57]; exact F44.setCell (p := ⟨g3, 0, none⟩) (by show w.heap.size ≤ g3; omega) _
      have F61 : Blk V56 w.heap.size 26 #[.int .i64 0, .int .i64 0, .slice none 0 0] := by rw [← hV57]; exact F45.other (by omega) _
      have F62 : Blk V56 (w.heap.size + 1) 26 #[.int .i64 11, .int .i64 2, .slice ra 8 rc] := by rw [← hV57]; exact F46.other (by omega) _
      have F63 : RowI V56 g0 11 (hotF 0) := by rw [← hV57]; exact Blk.other F47 (by omega) _
      have F64 : RowI V56 g1 11 (fun _ => 0) := by rw [← hV57]; exact Blk.other F48 (by omega) _
      have F65 : RowI V56 g2 11 (fun _ => 0) := by rw [← hV57]; exact Blk.other F49 (by omega) _
      have F66 : Blk V56 w1.heap.size 146 #[.slice (some ⟨g0, 0, none⟩) 11 11, .slice (some ⟨g1, 0, none⟩) 11 11, .slice (some ⟨g2, 0, none⟩) 11 11] := by rw [← hV57]; exact F50.other (by omega) _
      have F67 : RowI V56 g3 11 (hotF 0) := by rw [← hV57]; have h := F51.set (0) 1; exact h
      have F68 : RowI V56 g4 11 (fun _ => 0) := by rw [← hV57]; exact Blk.other F52 (by omega) _
      have F69 : RowI V56 g5 11 (fun _ => 0) := by rw [← hV57]; exact Blk.other F53 (by omega) _
      have F70 : Blk V56 w2.heap.size 146 #[.slice (some ⟨g3, 0, none⟩) 11 11, .slice (some ⟨g4, 0, none⟩) 11 11, .slice (some ⟨g5, 0, none⟩) 11 11] := by rw [← hV57]; exact F54.other (by omega) _
      have hsV56 : V56.heap.size ≤ V40.heap.size ∧ V40.heap.size ≤ V56.heap.size := by rw [← hV57]; simp [World.setCell]
      clear hV57
      have F71 : RowI V56 g1 11 (powF 2 0) := F64.congr fun j _ => by unfold powF; rw [if_neg (by omega)]
      have F72 : RowI V56 g4 11 (powF 1 0) := F68.congr fun j _ => by unfold powF; rw [if_neg (by omega)]
      have GB : Hid (NOwnV 3 146 (w.heap.size + 2) w0.heap.size V56 (.slice ra 8 rc) 8 vs (csN 8) ∧ Below w.heap.size w V56 ∧ Blk V56 w.heap.size 26 #[.int .i64 0, .int .i64 0, .slice none 0 0] ∧ Blk V56 (w.heap.size + 1) 26 #[.int .i64 11, .int .i64 2, .slice ra 8 rc] ∧ RowI V56 g0 11 (hotF 0) ∧ RowI V56 g1 11 (powF 2 0) ∧ RowI V56 g2 11 (fun _ => 0) ∧ Blk V56 w1.heap.size 146 #[.slice (some ⟨g0, 0, none⟩) 11 11, .slice (some ⟨g1, 0, none⟩) 11 11, .slice (some ⟨g2, 0, none⟩) 11 11] ∧ RowI V56 g3 11 (hotF 0) ∧ RowI V56 g4 11 (powF 1 0) ∧ RowI V56 g5 11 (fun _ => 0) ∧ Blk V56 w2.heap.size 146 #[.slice (some ⟨g3, 0, none⟩) 11 11, .slice (some ⟨g4, 0, none⟩) 11 11, .slice (some ⟨g5, 0, none⟩) 11 11]) := ⟨F59, F60, F61, F62, F63, F71, F65, F66, F67, F72, F69, F70⟩
      clear F12 F13 F14 F15 F16 F17 F18 F19 F20 F21 F22 F23 F24 F25 F26 F27 F28 F29 F30 F31 F32 F33 F34 F35 F36 F37 F38 F43 F44 F45 F46 F47 F48 F49 F50 F51 F52 F53 F54 F59 F60 F61 F62 F63 F64 F65 F66 F67 F68 F69 F70 F71 F72 r3 r4 r5 hvar2 hb2 GA
      go_wp2_with (first
        | (refine load_at rfl rfl rfl (loadZs q39) ?_)
        | (refine store_at rfl rfl rfl rfl rfl s42 ?_)
        | (refine load_at rfl rfl rfl (loadZs q55) ?_)
        | (refine store_at rfl rfl rfl rfl rfl s58 ?_))
      have hsV2 : w2.heap.size + 1 ≤ V56.heap.size ∧ V56.heap.size ≤ w2.heap.size + 1 := by omega
      clear q39 s42 q55 s58
      go_loopw [7] (fun x wr => ∃ i : Nat, x = .int .i64 (i : Int) ∧ i ≤ 8 ∧ Hid (w2.heap.size + 1 ≤ wr.heap.size ∧ wr.heap.size ≤ w2.heap.size + 1) ∧ Hid (NOwnV 3 146 (w.heap.size + 2) w0.heap.size wr (.slice ra 8 rc) 8 vs (csN 8) ∧ Below w.heap.size w wr ∧ Blk wr w.heap.size 26 #[.int .i64 0, .int .i64 0, .slice none 0 0] ∧ Blk wr (w.heap.size + 1) 26 #[.int .i64 11, .int .i64 2, .slice ra 8 rc] ∧ RowI wr g0 11 (hotF 0) ∧ RowI wr g1 11 (powF 2 i) ∧ RowI wr g2 11 (fun _ => 0) ∧ Blk wr w1.heap.size 146 #[.slice (some ⟨g0, 0, none⟩) 11 11, .slice (some ⟨g1, 0, none⟩) 11 11, .slice (some ⟨g2, 0, none⟩) 11 11] ∧ RowI wr g3 11 (hotF 0) ∧ RowI wr g4 11 (powF 1 i) ∧ RowI wr g5 11 (fun _ => 0) ∧ Blk wr w2.heap.size 146 #[.slice (some ⟨g3, 0, none⟩) 11 11, .slice (some ⟨g4, 0, none⟩) 11 11, .slice (some ⟨g5, 0, none⟩) 11 11])) (fun x _ => 8 - (intOf x).toNat)
      case atStart => exact ⟨0, rfl, Nat.zero_le _, hsV2, GB⟩
      case round =>
        obtain ⟨i, rfl, hi8, HSZ, GC⟩ := hrel
        clear GB hsV2
        have hszq := HSZ.out
        by_cases hil : i < 8
        · skip
          have hil' : (i : Int) < 8 := by omega
          have hi0 : (0 : Int) ≤ (i : Int) := by omega
          have hik : (0 : Int) ≤ 3 + (i : Int) := by omega
          have hik1 : 3 + (i : Int) < 11 := by omega
          have hikn : (3 + (i : Int)).toNat = 3 + i := by omega
          have F73 := GC.out.1
          have F74 := GC.out.2.1
          have F75 := GC.out.2.2.1
          have F76 := GC.out.2.2.2.1
          have F77 := GC.out.2.2.2.2.1
          have F78 := GC.out.2.2.2.2.2.1
          have F79 := GC.out.2.2.2.2.2.2.1
          have F80 := GC.out.2.2.2.2.2.2.2.1
          have F81 := GC.out.2.2.2.2.2.2.2.2.1
          have F82 := GC.out.2.2.2.2.2.2.2.2.2.1
          have F83 := GC.out.2.2.2.2.2.2.2.2.2.2.1
          have F84 := GC.out.2.2.2.2.2.2.2.2.2.2.2
          obtain ⟨pw, hpw⟩ : ∃ pw : Int, pw = 2 ^ i := ⟨_, rfl⟩
          have HPW : Hid (pw = 2 ^ i) := hpw
          have hpb : 1 ≤ pw ∧ pw ≤ 128 := by
            rw [hpw]
            have h8 : i = 0 ∨ i = 1 ∨ i = 2 ∨ i = 3 ∨ i = 4 ∨ i = 5 ∨ i = 6 ∨ i = 7 := by omega
            rcases h8 with rfl | rfl | rfl | rfl | rfl | rfl | rfl | rfl <;> decide
          have hpw2 : (2 : Int) ^ i = pw := hpw.symm
          clear hpw
          have q85 : wr.cell? ⟨w1.heap.size, 1, none⟩ = some (.slice (some ⟨g1, 0, none⟩) 11 11) := F80.cell 1
          obtain ⟨V86, hV87⟩ : ∃ V, wr.setCell ⟨g1, 3 + i, none⟩ (.int .i64 pw) = V := ⟨_, rfl⟩
          have s88 : StoresTo Tryz.prog 3 ⟨g1, 3 + i, none⟩ (.int .i64 pw) wr V86 := by rw [← hV87]; exact store3 (F78.cell (show 3 + i < 11 by omega)) (F78.free (3 + i))
          have F89 := F73.same (w' := V86) (by rw [← hV87]; exact Same.set _ _ _ (.inr (by show _ ≤ g1; omega)))
          have F90 : Below w.heap.size w V86 := by rw [← hV87]; exact F74.setCell (p := ⟨g1, 3 + i, none⟩) (by show w.heap.size ≤ g1; omega) _
          have F91 : Blk V86 w.heap.size 26 #[.int .i64 0, .int .i64 0, .slice none 0 0] := by rw [← hV87]; exact F75.other (by omega) _
          have F92 : Blk V86 (w.heap.size + 1) 26 #[.int .i64 11, .int .i64 2, .slice ra 8 rc] := by rw [← hV87]; exact F76.other (by omega) _
          have F93 : RowI V86 g0 11 (hotF 0) := by rw [← hV87]; exact Blk.other F77 (by omega) _
          have F94 : RowI V86 g1 11 (fun j => if j = 3 + i then pw else powF 2 i j) := by rw [← hV87]; have h := F78.set (3 + i) pw; exact h
          have F95 : RowI V86 g2 11 (fun _ => 0) := by rw [← hV87]; exact Blk.other F79 (by omega) _
          have F96 : Blk V86 w1.heap.size 146 #[.slice (some ⟨g0, 0, none⟩) 11 11, .slice (some ⟨g1, 0, none⟩) 11 11, .slice (some ⟨g2, 0, none⟩) 11 11] := by rw [← hV87]; exact F80.other (by omega) _
          have F97 : RowI V86 g3 11 (hotF 0) := by rw [← hV87]; exact Blk.other F81 (by omega) _
          have F98 : RowI V86 g4 11 (powF 1 i) := by rw [← hV87]; exact Blk.other F82 (by omega) _
          have F99 : RowI V86 g5 11 (fun _ => 0) := by rw [← hV87]; exact Blk.other F83 (by omega) _
          have F100 : Blk V86 w2.heap.size 146 #[.slice (some ⟨g3, 0, none⟩) 11 11, .slice (some ⟨g4, 0, none⟩) 11 11, .slice (some ⟨g5, 0, none⟩) 11 11] := by rw [← hV87]; exact F84.other (by omega) _
          have hsV86 : V86.heap.size ≤ wr.heap.size ∧ wr.heap.size ≤ V86.heap.size := by rw [← hV87]; simp [World.setCell]
          clear hV87
          have F101 : RowI V86 g1 11 (powF 2 (i + 1)) := by rw [← powF_next, ← HPW.out]; exact F94
          have q102 : V86.cell? ⟨w2.heap.size, 1, none⟩ = some (.slice (some ⟨g4, 0, none⟩) 11 11) := F100.cell 1
          obtain ⟨V103, hV104⟩ : ∃ V, V86.setCell ⟨g4, 3 + i, none⟩ (.int .i64 1) = V := ⟨_, rfl⟩
          have s105 : StoresTo Tryz.prog 3 ⟨g4, 3 + i, none⟩ (.int .i64 1) V86 V103 := by rw [← hV104]; exact store3 (F98.cell (show 3 + i < 11 by omega)) (F98.free (3 + i))
          have F106 := F89.same (w' := V103) (by rw [← hV104]; exact Same.set _ _ _ (.inr (by show _ ≤ g4; omega)))
          have F107 : Below w.heap.size w V103 := by rw [← hV104]; exact F90.setCell (p := ⟨g4, 3 + i, none⟩) (by show w.heap.size ≤ g4; omega) _
          have F108 : Blk V103 w.heap.size 26 #[.int .i64 0, .int .i64 0, .slice none 0 0] := by rw [← hV104]; exact F91.other (by omega) _
          have F109 : Blk V103 (w.heap.size + 1) 26 #[.int .i64 11, .int .i64 2, .slice ra 8 rc] := by rw [← hV104]; exact F92.other (by omega) _
          have F110 : RowI V103 g0 11 (hotF 0) := by rw [← hV104]; exact Blk.other F93 (by omega) _
          have F111 : RowI V103 g1 11 (powF 2 (i + 1)) := by rw [← hV104]; exact Blk.other F101 (by omega) _
          have F112 : RowI V103 g2 11 (fun _ => 0) := by rw [← hV104]; exact Blk.other F95 (by omega) _
          have F113 : Blk V103 w1.heap.size 146 #[.slice (some ⟨g0, 0, none⟩) 11 11, .slice (some ⟨g1, 0, none⟩) 11 11, .slice (some ⟨g2, 0, none⟩) 11 11] := by rw [← hV104]; exact F96.other (by omega) _
          have F114 : RowI V103 g3 11 (hotF 0) := by rw [← hV104]; exact Blk.other F97 (by omega) _
          have F115 : RowI V103 g4 11 (fun j => if j = 3 + i then 1 else powF 1 i j) := by rw [← hV104]; have h := F98.set (3 + i) 1; exact h
          have F116 : RowI V103 g5 11 (fun _ => 0) := by rw [← hV104]; exact Blk.other F99 (by omega) _
          have F117 : Blk V103 w2.heap.size 146 #[.slice (some ⟨g3, 0, none⟩) 11 11, .slice (some ⟨g4, 0, none⟩) 11 11, .slice (some ⟨g5, 0, none⟩) 11 11] := by rw [← hV104]; exact F100.other (by omega) _
          have hsV103 : V103.heap.size ≤ V86.heap.size ∧ V86.heap.size ≤ V103.heap.size := by rw [← hV104]; simp [World.setCell]
          clear hV104
          have F118 : RowI V103 g4 11 (powF 1 (i + 1)) := by rw [← powF_next, Int.one_pow]; exact F115
          have GD : Hid (NOwnV 3 146 (w.heap.size + 2) w0.heap.size V103 (.slice ra 8 rc) 8 vs (csN 8) ∧ Below w.heap.size w V103 ∧ Blk V103 w.heap.size 26 #[.int .i64 0, .int .i64 0, .slice none 0 0] ∧ Blk V103 (w.heap.size + 1) 26 #[.int .i64 11, .int .i64 2, .slice ra 8 rc] ∧ RowI V103 g0 11 (hotF 0) ∧ RowI V103 g1 11 (powF 2 (i + 1)) ∧ RowI V103 g2 11 (fun _ => 0) ∧ Blk V103 w1.heap.size 146 #[.slice (some ⟨g0, 0, none⟩) 11 11, .slice (some ⟨g1, 0, none⟩) 11 11, .slice (some ⟨g2, 0, none⟩) 11 11] ∧ RowI V103 g3 11 (hotF 0) ∧ RowI V103 g4 11 (powF 1 (i + 1)) ∧ RowI V103 g5 11 (fun _ => 0) ∧ Blk V103 w2.heap.size 146 #[.slice (some ⟨g3, 0, none⟩) 11 11, .slice (some ⟨g4, 0, none⟩) 11 11, .slice (some ⟨g5, 0, none⟩) 11 11]) := ⟨F106, F107, F108, F109, F110, F111, F112, F113, F114, F118, F116, F117⟩
          have HSZ2 : Hid (w2.heap.size + 1 ≤ V103.heap.size ∧ V103.heap.size ≤ w2.heap.size + 1) := by show _ ∧ _; omega
          clear F73 F74 F75 F76 F77 F78 F79 F80 F81 F82 F83 F84 F89 F90 F91 F92 F93 F94 F95 F96 F97 F98 F99 F100 F101 F106 F107 F108 F109 F110 F111 F112 F113 F114 F115 F116 F117 F118 GC HSZ hszq
          go_wp2_with (first
            | (refine load_at rfl rfl rfl (loadZs q85) ?_)
            | (refine store_at rfl rfl rfl rfl rfl s88 ?_)
            | (refine load_at rfl rfl rfl (loadZs q102) ?_)
            | (refine store_at rfl rfl rfl rfl rfl s105 ?_))
          go_roundw
          case rel => exact ⟨i + 1, by go_num, hil, HSZ2, GD⟩
          case measure => simp [intOf]; omega
        · skip
          have hil' : ¬ (i : Int) < 8 := by omega
          obtain rfl : i = 8 := by omega
          have F119 := GC.out.1
          have F120 := GC.out.2.1
          have F121 := GC.out.2.2.1
          have F122 := GC.out.2.2.2.1
          have F123 := GC.out.2.2.2.2.1
          have F124 := GC.out.2.2.2.2.2.1
          have F125 := GC.out.2.2.2.2.2.2.1
          have F126 := GC.out.2.2.2.2.2.2.2.1
          have F127 := GC.out.2.2.2.2.2.2.2.2.1
          have F128 := GC.out.2.2.2.2.2.2.2.2.2.1
          have F129 := GC.out.2.2.2.2.2.2.2.2.2.2.1
          have F130 := GC.out.2.2.2.2.2.2.2.2.2.2.2
          have q131 : wr.cell? ⟨w1.heap.size, 2, none⟩ = some (.slice (some ⟨g2, 0, none⟩) 11 11) := F126.cell 2
          obtain ⟨V132, hV133⟩ : ∃ V, wr.setCell ⟨g2, 1, none⟩ (.int .i64 1) = V := ⟨_, rfl⟩
          have s134 : StoresTo Tryz.prog 3 ⟨g2, 1, none⟩ (.int .i64 1) wr V132 := by rw [← hV133]; exact store3 (F125.cell (show 1 < 11 by omega)) (F125.free (1))
          have F135 := F119.same (w' := V132) (by rw [← hV133]; exact Same.set _ _ _ (.inr (by show _ ≤ g2; omega)))
          have F136 : Below w.heap.size w V132 := by rw [← hV133]; exact F120.setCell (p := ⟨g2, 1, none⟩) (by show w.heap.size ≤ g2; omega) _
          have F137 : Blk V132 w.heap.size 26 #[.int .i64 0, .int .i64 0, .slice none 0 0] := by rw [← hV133]; exact F121.other (by omega) _
          have F138 : Blk V132 (w.heap.size + 1) 26 #[.int .i64 11, .int .i64 2, .slice ra 8 rc] := by rw [← hV133]; exact F122.other (by omega) _
          have F139 : RowI V132 g0 11 (hotF 0) := by rw [← hV133]; exact Blk.other F123 (by omega) _
          have F140 : RowI V132 g1 11 (powF 2 8) := by rw [← hV133]; exact Blk.other F124 (by omega) _
          have F141 : RowI V132 g2 11 (hotF 1) := by rw [← hV133]; have h := F125.set (1) 1; exact h
          have F142 : Blk V132 w1.heap.size 146 #[.slice (some ⟨g0, 0, none⟩) 11 11, .slice (some ⟨g1, 0, none⟩) 11 11, .slice (some ⟨g2, 0, none⟩) 11 11] := by rw [← hV133]; exact F126.other (by omega) _
          have F143 : RowI V132 g3 11 (hotF 0) := by rw [← hV133]; exact Blk.other F127 (by omega) _
          have F144 : RowI V132 g4 11 (powF 1 8) := by rw [← hV133]; exact Blk.other F128 (by omega) _
          have F145 : RowI V132 g5 11 (fun _ => 0) := by rw [← hV133]; exact Blk.other F129 (by omega) _
          have F146 : Blk V132 w2.heap.size 146 #[.slice (some ⟨g3, 0, none⟩) 11 11, .slice (some ⟨g4, 0, none⟩) 11 11, .slice (some ⟨g5, 0, none⟩) 11 11] := by rw [← hV133]; exact F130.other (by omega) _
          have hsV132 : V132.heap.size ≤ wr.heap.size ∧ wr.heap.size ≤ V132.heap.size := by rw [← hV133]; simp [World.setCell]
          clear hV133
          have q147 : V132.cell? ⟨w2.heap.size, 2, none⟩ = some (.slice (some ⟨g5, 0, none⟩) 11 11) := F146.cell 2
          obtain ⟨V148, hV149⟩ : ∃ V, V132.setCell ⟨g5, 2, none⟩ (.int .i64 1) = V := ⟨_, rfl⟩
          have s150 : StoresTo Tryz.prog 3 ⟨g5, 2, none⟩ (.int .i64 1) V132 V148 := by rw [← hV149]; exact store3 (F145.cell (show 2 < 11 by omega)) (F145.free (2))
          have F151 := F135.same (w' := V148) (by rw [← hV149]; exact Same.set _ _ _ (.inr (by show _ ≤ g5; omega)))
          have F152 : Below w.heap.size w V148 := by rw [← hV149]; exact F136.setCell (p := ⟨g5, 2, none⟩) (by show w.heap.size ≤ g5; omega) _
          have F153 : Blk V148 w.heap.size 26 #[.int .i64 0, .int .i64 0, .slice none 0 0] := by rw [← hV149]; exact F137.other (by omega) _
          have F154 : Blk V148 (w.heap.size + 1) 26 #[.int .i64 11, .int .i64 2, .slice ra 8 rc] := by rw [← hV149]; exact F138.other (by omega) _
          have F155 : RowI V148 g0 11 (hotF 0) := by rw [← hV149]; exact Blk.other F139 (by omega) _
          have F156 : RowI V148 g1 11 (powF 2 8) := by rw [← hV149]; exact Blk.other F140 (by omega) _
          have F157 : RowI V148 g2 11 (hotF 1) := by rw [← hV149]; exact Blk.other F141 (by omega) _
          have F158 : Blk V148 w1.heap.size 146 #[.slice (some ⟨g0, 0, none⟩) 11 11, .slice (some ⟨g1, 0, none⟩) 11 11, .slice (some ⟨g2, 0, none⟩) 11 11] := by rw [← hV149]; exact F142.other (by omega) _
          have F159 : RowI V148 g3 11 (hotF 0) := by rw [← hV149]; exact Blk.other F143 (by omega) _
          have F160 : RowI V148 g4 11 (powF 1 8) := by rw [← hV149]; exact Blk.other F144 (by omega) _
          have F161 : RowI V148 g5 11 (hotF 2) := by rw [← hV149]; have h := F145.set (2) 1; exact h
          have F162 : Blk V148 w2.heap.size 146 #[.slice (some ⟨g3, 0, none⟩) 11 11, .slice (some ⟨g4, 0, none⟩) 11 11, .slice (some ⟨g5, 0, none⟩) 11 11] := by rw [← hV149]; exact F146.other (by omega) _
          have hsV148 : V148.heap.size ≤ V132.heap.size ∧ V132.heap.size ≤ V148.heap.size := by rw [← hV149]; simp [World.setCell]
          clear hV149
          have q163 : V148.cell? ⟨w.heap.size + 1, 2, none⟩ = some (.slice ra 8 rc) := F154.cell 2
          have GE : Hid (NOwnV 3 146 (w.heap.size + 2) w0.heap.size V148 (.slice ra 8 rc) 8 vs (csN 8) ∧ Below w.heap.size w V148 ∧ Blk V148 w.heap.size 26 #[.int .i64 0, .int .i64 0, .slice none 0 0] ∧ Blk V148 (w.heap.size + 1) 26 #[.int .i64 11, .int .i64 2, .slice ra 8 rc] ∧ RowI V148 g0 11 (hotF 0) ∧ RowI V148 g1 11 (powF 2 8) ∧ RowI V148 g2 11 (hotF 1) ∧ Blk V148 w1.heap.size 146 #[.slice (some ⟨g0, 0, none⟩) 11 11, .slice (some ⟨g1, 0, none⟩) 11 11, .slice (some ⟨g2, 0, none⟩) 11 11] ∧ RowI V148 g3 11 (hotF 0) ∧ RowI V148 g4 11 (powF 1 8) ∧ RowI V148 g5 11 (hotF 2) ∧ Blk V148 w2.heap.size 146 #[.slice (some ⟨g3, 0, none⟩) 11 11, .slice (some ⟨g4, 0, none⟩) 11 11, .slice (some ⟨g5, 0, none⟩) 11 11]) := ⟨F151, F152, F153, F154, F155, F156, F157, F158, F159, F160, F161, F162⟩
          have hownr := F151.row
          have hpv := F158
          have hcv := F162
          have hown5 := hownr.alloc (.cells #[.slice (some ⟨g0, 0, none⟩) 11 11, .slice (some ⟨g1, 0, none⟩) 11 11, .slice (some ⟨g2, 0, none⟩) 11 11, .slice (some ⟨g3, 0, none⟩) 11 11, .slice (some ⟨g4, 0, none⟩) 11 11, .slice (some ⟨g5, 0, none⟩) 11 11] 146)
          have hroom : w.heap.size + 2 ≤ (V148.alloc (.cells #[.slice (some ⟨g0, 0, none⟩) 11 11, .slice (some ⟨g1, 0, none⟩) 11 11, .slice (some ⟨g2, 0, none⟩) 11 11, .slice (some ⟨g3, 0, none⟩) 11 11, .slice (some ⟨g4, 0, none⟩) 11 11, .slice (some ⟨g5, 0, none⟩) 11 11] 146)).heap.size := by simp; omega
          have hV9 : w2.heap.size + 1 ≤ V148.heap.size ∧ V148.heap.size ≤ w2.heap.size + 1 := by omega
          clear F119 F120 F121 F122 F123 F124 F125 F126 F127 F128 F129 F130 F135 F136 F137 F138 F139 F140 F141 F142 F143 F144 F145 F146 F151 F152 F153 F154 F155 F156 F157 F158 F159 F160 F161 F162 GC HSZ hszq hownr
          go_wp2_with (first
            | (refine load_at rfl rfl rfl (loadZs q131) ?_)
            | (refine store_at rfl rfl rfl rfl rfl s134 ?_)
            | (refine load_at rfl rfl rfl (loadZs q147) ?_)
            | (refine store_at rfl rfl rfl rfl rfl s150 ?_)
            | (refine load_at rfl rfl rfl (loadRs q163) ?_)
            | (refine load_blk rfl rfl rfl hpv Tryz.underlying146 infoRw ?_)
            | (refine load_blk rfl rfl rfl hcv Tryz.underlying146 infoRw ?_)
            | (at_builtin; refine wpList_append_own_at _ rfl _ _ 24 rfl (w.heap.size + 2) 146 i0 (.agg #[.slice none 0 0, .slice none 0 0, .slice none 0 0]) 3 72 Tryz.underlying24 hi hz0 hz1 hz2 rfl (by decide) _ _ _ rfl hown5 ⟨V148.heap.size, 0, none⟩ 2 2 (us3 g0 g1 g2 ++ us3 g3 g4 g5) rfl rfl (cells_two _ _ _ _ rfl) (fun u hu => (List.mem_append.1 hu).elim (us3_one _ _ _ u) (us3_one _ _ _ u)) (by simp [maxLen]) (by simp) hroom ?_))
          intro v' w7 hown' hgrow _ hat
          obtain ⟨zown, zbel, zres, zsys, zg0, zg1, zg2, zpv, zg3, zg4, zg5, zcv⟩ := GE.out
          have hA := (Below.refl V148.heap.size V148).alloc (Nat.le_refl _) (.cells #[.slice (some ⟨g0, 0, none⟩) 11 11, .slice (some ⟨g1, 0, none⟩) 11 11, .slice (some ⟨g2, 0, none⟩) 11 11, .slice (some ⟨g3, 0, none⟩) 11 11, .slice (some ⟨g4, 0, none⟩) 11 11, .slice (some ⟨g5, 0, none⟩) 11 11] 146)
          have hAs : (V148.alloc (.cells #[.slice (some ⟨g0, 0, none⟩) 11 11, .slice (some ⟨g1, 0, none⟩) 11 11, .slice (some ⟨g2, 0, none⟩) 11 11, .slice (some ⟨g3, 0, none⟩) 11 11, .slice (some ⟨g4, 0, none⟩) 11 11, .slice (some ⟨g5, 0, none⟩) 11 11] 146)).heap.size = V148.heap.size + 1 := by simp
          have hown7 := (zown.same (Same.of_below hA (by omega))).app6 hown' hgrow (by rw [hAs]; exact hat) p0 p1 p2 (by omega) (by omega) (by omega) n01 n02 n12 n34 n35 n45 (by omega) (by omega) (by omega) (Blk.alloc zg0 _) (Blk.alloc zg1 _) (Blk.alloc zg2 _) (Blk.alloc zg3 _) (Blk.alloc zg4 _) (Blk.alloc zg5 _) (by omega) (by omega)
          replace hown7 : NOwnV 3 146 (w.heap.size + 2) w7.heap.size w7 v' 10 (vs ++ (us3 g0 g1 g2 ++ us3 g3 g4 g5)) (csN 10) := hown7
          have hne1 : some (w.heap.size + 1) ≠ (Value.slice ra 8 rc).ownBlock := fun e => by have := HRW.out _ e.symm; omega
          have hne0 : some w.heap.size ≠ (Value.slice ra 8 rc).ownBlock := fun e => by have := HRW.out _ e.symm; omega
          have hs7 : Blk w7 (w.heap.size + 1) 26 #[.int .i64 11, .int .i64 2, .slice ra 8 rc] := (hgrow.block _ (zsys.alloc _).lt hne1).trans (zsys.alloc _)
          have hr7 : Blk w7 w.heap.size 26 #[.int .i64 0, .int .i64 0, .slice none 0 0] := (hgrow.block _ (zres.alloc _).lt hne0).trans (zres.alloc _)
          have hB7 : Below w.heap.size w w7 := (zbel.alloc (by omega) _).grown hgrow (by omega) (fun g hg => by have := HRW.out _ hg; omega)
          clear hown' hgrow hat hA hAs hown5 hroom GE s134 s150 q131 q147 q163 hpv hcv zown zbel zres zsys zg0 zg1 zg2 zpv zg3 zg4 zg5 zcv
          obtain ⟨a7, c7, hv7⟩ := row_form hown7.row
          subst hv7
          obtain ⟨w8, hw8⟩ : ∃ w8, w7.setCell ⟨w.heap.size + 1, 2, none⟩ (.slice a7 10 c7) = w8 := ⟨_, rfl⟩
          have hst : StoresTo Tryz.prog 24 ⟨w.heap.size + 1, 2, none⟩ (.slice a7 10 c7) w7 w8 := by rw [← hw8]; exact storeRs (hs7.cell 2) (hs7.free 2)
          have hsz8 : w7.heap.size ≤ w8.heap.size := by rw [← hw8]; simp [World.setCell]
          have HO : Hid (NOwnV 3 146 (w.heap.size + 2) w7.heap.size w8 (.slice a7 10 c7) 10 (vs ++ (us3 g0 g1 g2 ++ us3 g3 g4 g5)) (csN 10)) := hown7.same (by rw [← hw8]; exact Same.set _ _ _ (.inl (by show w.heap.size + 1 < _; omega)))
          have hB : Below w.heap.size w w8 := by rw [← hw8]; exact hB7.setCell (p := ⟨w.heap.size + 1, 2, none⟩) (by show w.heap.size ≤ w.heap.size + 1; omega) _
          have hr : Blk w8 w.heap.size 26 #[.int .i64 0, .int .i64 0, .slice none 0 0] := by rw [← hw8]; exact hr7.other (by omega) _
          have hx : Blk w8 (w.heap.size + 1) 26 #[.int .i64 11, .int .i64 2, .slice a7 10 c7] := by rw [← hw8]; exact hs7.set 2 _
          clear hw8 hown7 hs7 hr7 hB7
          go_wp2_with (first | (refine store_at rfl rfl rfl rfl rfl hst ?_) | (refine load_blk rfl rfl rfl hx Tryz.underlying26 infoSy ?_) | (refine store_blk (cs' := #[.int .i64 11, .int .i64 2, .slice a7 10 c7]) rfl rfl rfl rfl rfl hr infoSy rfl (onesSy _ _ _ _ _) ?_; intro V h5 hoth hbel; have hbV := hbel _ _ (Nat.le_refl _) hB; have hbV0 := hbel 0 _ (Nat.zero_le _) (Below.refl 0 _); have hOV := HO.out.oth hoth (by omega); clear hoth hbel))
          refine bodyPost_ret_by (result_blk rfl rfl h5 Tryz.underlying26 infoSy) rfl ⟨_, _, rfl, (hOV.wide (Nat.le_trans hsz8 hbV0.size)).low (by omega), hbV⟩

end Go.Proofs.YthnahalboomkoaaGreat

/-
  The draw of a right system and a witness of it.
  (-DROP-: what the seat lacks is left out.)
-/
namespace Go.Proofs.YthnahalboomkoaaGreat
open Go.RowKit

/-- What is drawn is small, and nothing of it is empty. -/
structure Drawn (wi pu : Int) (n : Nat) (ls : List (List Int)) (m : List Int) : Prop where
  wi0 : 0 ≤ wi
  wi1 : wi ≤ 1000
  pu0 : -1000 ≤ pu
  pu1 : pu ≤ 1000
  n0 : 1 ≤ n
  n1 : n ≤ 16
  each : ∀ j, j < n * 3 → 2 ≤ (ls.getD j []).length ∧ (ls.getD j []).length ≤ 16
  m0 : 2 ≤ m.length
  m1 : m.length ≤ 16
/-- What a draw of a system leaves. -/
def SysEnd (w : World) (c : Nat) (a : Option Addr) (len cap : Nat) (e : Ending) (w' : World) : Prop := ∃ (wi pu : Int) (v u : Value) (n : Nat) (ls : List (List Int)) (m : List Int), e = .returned (.tuple #[sysV wi pu v, u]) ∧ Drawn wi pu n ls m ∧ NAt 3 w' w'.heap.size v n ls ∧ ZAt w' w'.heap.size u m ∧ CurEnd w w' c a len cap

theorem csN_small : ∀ j, j < 10 * 3 → 2 ≤ ((csN 10).getD j []).length ∧ ((csN 10).getD j []).length ≤ 16 := by
  intro j hj
  have h : ((List.range 30).all fun j => decide (2 ≤ ((csN 10).getD j []).length ∧ ((csN 10).getD j []).length ≤ 16)) = true := by decide +kernel
  simpa using List.all_eq_true.1 h j (List.mem_range.2 hj)

theorem below_undrew {c : Nat} {w w' : World} (h : Below c w.drew w') : Below c w w' := ⟨h.os, h.tape, h.output, h.size, h.block⟩
theorem cur_own {w1 w2 : World} {c len cap B e sz n : Nat} {a : Option Addr} {v : Value} {xs : List Value} (hE : CurEnd w1 w2 c a len cap) (h : w1.ownsRow B e sz v n xs) (hB : c < B) : w2.ownsRow B e sz v n xs :=
  h.kept hE.grown (.inr fun e => by have := (h.lt c e).1; omega)
theorem cur_same {w1 w2 : World} {c len cap lo hi : Nat} {a : Option Addr} (hE : CurEnd w1 w2 c a len cap) (hh : hi ≤ w1.heap.size) (hc : c < lo) : Same lo hi w1 w2 := Same.of_grown hE.grown hh fun k h1 _ e => by injection e with e; omega

/-- What stands while rows are drawn. -/
structure Bd (w w5 : World) (c len cap : Nat) (a : Option Addr) (N y : Int) (ul : Value) (l : List Int) (hi : Nat) (v : Value) (k : Nat) (vs : List Value) (ls : List (List Int)) (W : World) : Prop where
  own : NOwnV 3 146 (w5.heap.size + 1) hi W v k vs ls
  cur : CurEnd w W c a len cap
  res : Blk W w.heap.size 26 #[.int .i64 0, .int .i64 0, .slice none 0 0]
  sys : Blk W w5.heap.size 26 #[.int .i64 N, .int .i64 y, v]
  wit : ZOwn (w.heap.size + 1) w5.heap.size W ul l
  hic : hi ≤ W.heap.size
  cl : c < w.heap.size
  ml : w.heap.size + 1 ≤ w5.heap.size
  hl : w5.heap.size + 1 ≤ hi
section
variable {w w5 : World} {c len cap : Nat} {a : Option Addr} {N y : Int} {ul : Value} {l : List Int} {hi : Nat} {v : Value} {k : Nat} {vs : List Value} {ls : List (List Int)} {W W' : World}
theorem Bd.draw (h : Bd w w5 c len cap a N y ul l hi v k vs ls W) (hE : CurEnd W W' c a len cap) : Bd w w5 c len cap a N y ul l hi v k vs ls W' := by
  have h1 := h.cl; have h2 := h.ml
  exact ⟨h.own.same (cur_same hE h.hic (by omega)), h.cur.trans hE, h.res.grown hE.grown (by omega), h.sys.grown hE.grown (by omega), h.wit.same (cur_same hE (by have := h.sys.lt; omega) (by omega)), Nat.le_trans h.hic hE.grown.size, h.cl, h.ml, h.hl⟩
theorem Bd.drew (h : Bd w w5 c len cap a N y ul l hi v k vs ls W) : Bd w w5 c len cap a N y ul l hi v k vs ls W.drew := ⟨h.own.same (fun _ _ _ => rfl), h.cur.drew, h.res, h.sys, h.wit.same (fun _ _ _ => rfl), h.hic, h.cl, h.ml, h.hl⟩
theorem Bd.below (h : Bd w w5 c len cap a N y ul l hi v k vs ls W) (hb : Below W.heap.size W W') : Bd w w5 c len cap a N y ul l hi v k vs ls W' :=
  ⟨h.own.same (Same.of_below hb h.hic), h.cur.below hb, h.res.on hb h.res.lt, h.sys.on hb h.sys.lt, h.wit.on hb (by have := h.sys.lt; omega), Nat.le_trans h.hic hb.size, h.cl, h.ml, h.hl⟩
theorem Bd.cell (h : Bd w w5 c len cap a N y ul l hi v k vs ls W) {g i : Nat} (hg : hi ≤ g) (u : Value) : Bd w w5 c len cap a N y ul l hi v k vs ls (W.setCell ⟨g, i, none⟩ u) := by
  have h1 := h.cl; have h2 := h.ml; have h3 := h.hl
  exact ⟨h.own.same (Same.set _ _ _ (.inr hg)), h.cur.cell (by omega) h.cl u, h.res.other (by omega) _, h.sys.other (by omega) _, h.wit.same (Same.set _ _ _ (.inr (by show _ ≤ g; omega))), by simp [World.setCell]; exact h.hic, h.cl, h.ml, h.hl⟩
end

end Go.Proofs.YthnahalboomkoaaGreat
