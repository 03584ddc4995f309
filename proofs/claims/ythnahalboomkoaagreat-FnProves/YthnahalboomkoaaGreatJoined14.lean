/-
  Texts of one's own, joined.
-/
import Derived.Test.YthnahalboomkoaaGreatJoined11
import Derived.RegionTactic
import Derived.ChangeAlike
import Derived.Maps.AppendAt
import Derived.Test.YthnahalboomkoaaGreatJoined13
import Derived.Test.YthnahalboomkoaaGreatJoined6
import Derived.Below
import Derived.WalkLawsBesides
import Derived.WalkSpells
import Derived.Test.YthnahalboomkoaaGreatProg
import Derived.Test.YthnahalboomkoaaGreatBytes

/-
  The walks of the rows of the system of bits, the program's and the specification's.
  (-DROP-: what the seat lacks is left out.)
-/
namespace Go.Proofs.YthnahalboomkoaaGreat
open Go.RowKit

/-- 1 at one place. -/
def hotF (k : Nat) : Nat → Int := fun j => if j = k then 1 else 0
/-- A number to a bit's place at each bit. -/
def powF (b : Int) (k : Nat) : Nat → Int := fun j => if 3 ≤ j ∧ j < 3 + k then b ^ (j - 3) else 0
theorem powF_next (b : Int) (k : Nat) : (fun i => if i = 3 + k then b ^ k else powF b k i) = powF b (k + 1) := by
  funext i
  unfold powF
  by_cases h : i = 3 + k
  · subst h
    rw [if_pos rfl, if_pos (by omega), show 3 + k - 3 = k by omega]
  · rw [if_neg h]
    by_cases h2 : 3 ≤ i ∧ i < 3 + k
    · rw [if_pos h2, if_pos (by omega)]
    · rw [if_neg h2, if_neg (by omega)]

/-- Three lists of eleven numbers in blocks of their own. -/
def Three (w0 w : World) (g0 g1 g2 : Nat) (f0 f1 f2 : Nat → Int) : Prop :=
  w0.heap.size ≤ g0 ∧ w0.heap.size ≤ g1 ∧ w0.heap.size ≤ g2 ∧ g0 ≠ g1 ∧ g0 ≠ g2 ∧ g1 ≠ g2 ∧ RowI w g0 11 f0 ∧ RowI w g1 11 f1 ∧ RowI w g2 11 f2
def row11 (g0 g1 g2 : Nat) : Value := .agg #[.slice (some ⟨g0, 0, none⟩) 11 11, .slice (some ⟨g1, 0, none⟩) 11 11, .slice (some ⟨g2, 0, none⟩) 11 11]

theorem fresh3 (w : World) (o : Obj) (f : Nat → Int) : RowI ((((w.alloc o).alloc (.cells (ic f 11) 3)).alloc (.cells (ic f 11) 3)).alloc (.cells (ic f 11) 3)) (w.heap.size + 1) 11 f ∧ RowI ((((w.alloc o).alloc (.cells (ic f 11) 3)).alloc (.cells (ic f 11) 3)).alloc (.cells (ic f 11) 3)) (w.heap.size + 1 + 1) 11 f ∧ RowI ((((w.alloc o).alloc (.cells (ic f 11) 3)).alloc (.cells (ic f 11) 3)).alloc (.cells (ic f 11) 3)) (w.heap.size + 1 + 1 + 1) 11 f ∧ Below w.heap.size w ((((w.alloc o).alloc (.cells (ic f 11) 3)).alloc (.cells (ic f 11) 3)).alloc (.cells (ic f 11) 3)) :=
  ⟨((Blk.newAt (by simp)).alloc _).alloc _, (Blk.newAt (by simp)).alloc _, Blk.newAt (by simp), ((((Below.refl _ _).alloc (Nat.le_refl _) _).alloc (by simp) _).alloc (by simp; omega) _).alloc (by simp; omega) _⟩

set_option maxHeartbeats 1600000 in
set_option maxRecDepth 100000 in
theorem l13Row_any (w : World) :
    Calls Tryz.prog 121 #[.int .i64 11] w fun e w' => ∃ g0 g1 g2, e = .returned (row11 g0 g1 g2) ∧ Three w w' g0 g1 g2 (fun _ => 0) (fun _ => 0) (fun _ => 0) ∧ Below w.heap.size w w' := by
  have hmk : ∀ W : World, (Instr.makeSlice 27 (.int .i64 11) (.int .i64 11)).run Tryz.prog W = .ok (.slice (some ⟨W.heap.size, 0, none⟩) 11 11) (W.alloc (.cells (ic (fun _ => 0) 11) 3)) := fun W => make_ints 11 11 (Nat.le_refl _) (by omega) W
  go_enter Tryz.func121, Tryz.ntmps121
  go_wp2
  go_region
  all_goals go_wp2
  all_goals refine bodyPost_ret_by (result_blk rfl rfl ((((Blk.new _ _ _).alloc _).alloc _).alloc _) Tryz.underlying146 infoRw) rfl ⟨_, _, _, rfl, ⟨by omega, by omega, by omega, by omega, by omega, by omega, ?_, ?_, ?_⟩, ?_⟩
  all_goals first | exact (fresh3 w _ (fun _ => 0)).1 | exact (fresh3 w _ (fun _ => 0)).2.1 | exact (fresh3 w _ (fun _ => 0)).2.2.1 | exact (fresh3 w _ (fun _ => 0)).2.2.2 | exact (fresh3 w _ (fun _ => 0)).2.2.2.drew

end Go.Proofs.YthnahalboomkoaaGreat

/-
  The walks of the rules of the system of bits, the program's.
  (-DROP-: what the seat lacks is left out.)
-/
namespace Go.Proofs.YthnahalboomkoaaGreat
open Go.RowKit

theorem cells_two (w : World) (cs : Array Value) (l : List Value) (t : TypeId) (h : cs.toList = l) : ∀ j u, l[j]? = some u → (w.alloc (.cells cs t)).cell? ((⟨w.heap.size, 0, none⟩ : Addr).add j) = some u := by
  intro j u hj
  subst h
  rw [Addr.add_lit, Nat.zero_add, cell_of_row _ _ j cs t (0, 0) (heap_alloc_new w _)]
  simpa using hj

end Go.Proofs.YthnahalboomkoaaGreat

/-
  The walk of the system of bits, the program's.
  (-DROP-: what the seat lacks is left out.)
-/
namespace Go.Proofs.YthnahalboomkoaaGreat
open Go.RowKit

def hotL (k : Nat) : List Int := zls (hotF k) 11
def powL (b : Int) : List Int := zls (powF b 8) 11
/-- The lists of a row. -/
def rowLs (k : Nat) : List (List Int) := if k < 8 then [hotL (3 + k), hotL (3 + k), hotL (3 + k)] else if k = 8 then [hotL 0, powL 2, hotL 1] else [hotL 0, powL 1, hotL 2]
/-- The lists of so many rows. -/
def csN : Nat → List (List Int)
  | 0 => []
  | k + 1 => csN k ++ rowLs k
theorem rowLs_len (k : Nat) : (rowLs k).length = 3 := by
  unfold rowLs
  split
  · rfl
  · split <;> rfl
theorem csN_len : ∀ k, (csN k).length = k * 3
  | 0 => rfl
  | k + 1 => by rw [csN, List.length_append, csN_len k, rowLs_len]; omega

/-- A row of three lists in blocks of their own. -/
def RowOf (w0 w : World) (g0 g1 g2 : Nat) (ls : List (List Int)) : Prop := ∃ f0 f1 f2, ls = [zls f0 11, zls f1 11, zls f2 11] ∧ Three w0 w g0 g1 g2 f0 f1 f2

theorem nown_nil (sz e lo hi : Nat) (w : World) : NOwnV sz e lo hi w (.slice none 0 0) 0 [] [] := ⟨World.ownsRow_nil _ _ _ _, by simp, fun k hk => (by cases hk), fun j hj => (by omega), fun i j k h1 => (by omega), fun j k h1 => (by omega)⟩
theorem RowOf.alloc {w0 w : World} {g0 g1 g2 : Nat} {ls : List (List Int)} (h : RowOf w0 w g0 g1 g2 ls) (o : Obj) : RowOf w0 (w.alloc o) g0 g1 g2 ls := by
  obtain ⟨f0, f1, f2, e, p0, p1, p2, q0, q1, q2, r0, r1, r2⟩ := h
  exact ⟨f0, f1, f2, e, p0, p1, p2, q0, q1, q2, Blk.alloc r0 o, Blk.alloc r1 o, Blk.alloc r2 o⟩

/-- The three cells of a row. -/
def us3 (g0 g1 g2 : Nat) : List Value := [.slice (some ⟨g0, 0, none⟩) 11 11, .slice (some ⟨g1, 0, none⟩) 11 11, .slice (some ⟨g2, 0, none⟩) 11 11]
theorem us3_one (g0 g1 g2 : Nat) : ∀ u ∈ us3 g0 g1 g2, u.oneCell' = true := by
  intro u hu
  simp only [us3, List.mem_cons, List.not_mem_nil, or_false] at hu
  rcases hu with rfl | rfl | rfl <;> rfl
theorem zown11 {w : World} {g lo hi : Nat} {f : Nat → Int} (h : RowI w g 11 f) (hlo : lo ≤ g) (hhi : g < hi) : ZOwn lo hi w (.slice (some ⟨g, 0, none⟩) 11 11) (zls f 11) := by
  refine ⟨h.rowZ hlo (by omega), fun k hk => ?_⟩
  have e1 : some g = some k := hk
  injection e1 with e1
  omega
/-- A row is put behind. -/
theorem NOwnV.app3 {e lo hi n : Nat} {w0 w w' : World} {v v' : Value} {vs : List Value} {ls ns : List (List Int)} {g0 g1 g2 : Nat} (h : NOwnV 3 e lo hi w v n vs ls) (hr : w'.ownsRow lo e 3 v' (n + 1) (vs ++ us3 g0 g1 g2)) (hg : w.grownBy w' v.ownBlock) (hv : v'.ownBlock = v.ownBlock ∨ v'.ownBlock = some w.heap.size) (hq : RowOf w0 w g0 g1 g2 ns) (h0 : hi ≤ w0.heap.size) (hw : w0.heap.size ≤ w.heap.size) (hlo : lo ≤ hi) :
    NOwnV 3 e lo w'.heap.size w' v' (n + 1) (vs ++ us3 g0 g1 g2) (ls ++ ns) := by
  obtain ⟨f0, f1, f2, rfl, p0, p1, p2, q0, q1, q2, r0, r1, r2⟩ := hq
  refine h.app hr hg hv rfl (fun j hj => ?_) (fun i j k hi hj hij h1 h2 => ?_) (by omega) hlo hg.size (fun k hk => (hr.lt k hk).2)
  · have hj3 : j = 0 ∨ j = 1 ∨ j = 2 := by omega
    rcases hj3 with rfl | rfl | rfl
    · exact zown11 r0 (by omega) r0.lt
    · exact zown11 r1 (by omega) r1.lt
    · exact zown11 r2 (by omega) r2.lt
  · have hi3 : i = 0 ∨ i = 1 ∨ i = 2 := by omega
    have hj3 : j = 0 ∨ j = 1 ∨ j = 2 := by omega
    rcases hi3 with rfl | rfl | rfl <;> rcases hj3 with rfl | rfl | rfl <;> first | exact absurd rfl hij | (have e1 := Option.some.inj (show some _ = some _ from h1); have e2 := Option.some.inj (show some _ = some _ from h2); dsimp only at e1 e2; omega)

end Go.Proofs.YthnahalboomkoaaGreat

/-
  The walk of the specification's bits.
  (-DROP-: what the seat lacks is left out.)
-/
namespace Go.Proofs.YthnahalboomkoaaGreat
open Go.RowKit

set_option maxHeartbeats 800000 in
set_option maxRecDepth 100000 in
theorem sCount_any (b : Int) (w : World) :
    Calls Tryz.prog 177 #[.int .i64 b] w fun e w' => e = .returned (.int .i64 (bitsB b)) ∧ w = w' := by
  have HB : Hid (∀ w, Calls Tryz.prog 87 #[.int .i64 b, .int .i64 0, .int .i64 255] w fun e w' => e = .returned (.bool (decide (0 ≤ b ∧ b ≤ 255))) ∧ w = w') := sBetween_any b 0 255
  unfold bitsB
  by_cases hb : 0 ≤ b ∧ b ≤ 255
  · rw [decide_eq_true hb] at HB
    rw [if_pos hb]
    obtain ⟨b0, b1⟩ := hb
    go_enter Tryz.func177, Tryz.ntmps177
    go_wp2_with (go_at_call 87; refine (HB.out _).mono ?_; rintro e wz ⟨rfl, rfl⟩)
    go_loopw [3, 4] (fun v i wr => ∃ (k : Nat), v = .int .i64 (bitsN b k) ∧ i = .int .i64 (k : Int) ∧ k ≤ 8 ∧ w = wr) (fun _ i _ => 8 - (intOf i).toNat)
    case atStart => exact ⟨0, rfl, rfl, by omega, rfl⟩
    case round =>
      obtain ⟨k, rfl, rfl, hk, rfl⟩ := hrel
      by_cases hlt : k < 8
      · have hlt' : (k : Int) < 8 := by omega
        obtain ⟨m, hm⟩ : ∃ m : Int, b / 2 ^ k = m := ⟨_, rfl⟩
        have hm0 : 0 ≤ m := by rw [← hm]; exact Int.ediv_nonneg b0 (Int.le_of_lt (Int.pow_pos (by decide)))
        obtain ⟨r, hr⟩ : ∃ r : Int, Int.tmod m 2 = r := ⟨_, rfl⟩
        have hre : r = m % 2 := by rw [← hr, Int.tmod_eq_emod_of_nonneg hm0]
        obtain ⟨h1, h2⟩ := bitsN_in b k
        have HN : Hid (bitsN b (k + 1) = bitsN b k + r) := by show bitsN b k + b / 2 ^ k % 2 = _; rw [hm, hre]
        have hr0 : 0 ≤ r ∧ r ≤ 1 := by omega
        generalize bitsN b k = C at h1 h2 HN
        clear hre
        go_wp2
        go_roundw
        case rel => exact ⟨k + 1, by rw [HN.out], by go_num, by omega, by trivial⟩
        case measure => simp [intOf]; omega
      · have hlt' : ¬ (k : Int) < 8 := by omega
        obtain rfl : k = 8 := by omega
        go_wp2
        go_ret
        exact ⟨rfl, by trivial⟩
  · rw [decide_eq_false hb] at HB
    rw [if_neg hb]
    go_enter Tryz.func177, Tryz.ntmps177
    go_wp2_with (go_at_call 87; refine (HB.out _).mono ?_; rintro e wz ⟨rfl, rfl⟩)
    go_ret
    exact ⟨rfl, by trivial⟩

end Go.Proofs.YthnahalboomkoaaGreat

/-
  The walks of witnesses of bits, the program's and the specification's.
  (-DROP-: what the seat lacks is left out.)
-/
namespace Go.Proofs.YthnahalboomkoaaGreat
open Go.RowKit

theorem cells_new (w : World) (cs : Array Value) (t : TypeId) : ∀ j u, cs.toList[j]? = some u → (w.alloc (.cells cs t)).cell? ((⟨w.heap.size, 0, none⟩ : Addr).add j) = some u := by
  intro j u hj
  rw [Addr.add_lit, Nat.zero_add, cell_of_row _ _ j cs t (0, 0) (heap_alloc_new w _)]
  simpa using hj

theorem zsV_one (l : List Int) : ∀ u ∈ zsV l, u.oneCell' = true := by
  intro u hu
  simp only [zsV, List.mem_map] at hu
  obtain ⟨x, _, rfl⟩ := hu
  rfl

theorem RowZs.has {B : Nat} {w : World} {v : Value} {l : List Int} (h : RowZs B w v l) (hl : 0 < l.length) : ∃ g c, v = .slice (some ⟨g, 0, none⟩) l.length c ∧ B ≤ g ∧ ∀ j u, (zsV l)[j]? = some u → w.cell? ((⟨g, 0, none⟩ : Addr).add j) = some u := by
  rcases h.2 with ⟨_, h0⟩ | ⟨g, c, cur, rfl, hg, hh, hrest⟩
  · omega
  · refine ⟨g, c, rfl, hg, fun j u hj => ?_⟩
    have hj2 : j < l.length := by
      rcases Nat.lt_or_ge j l.length with h1 | h1
      · exact h1
      · rw [List.getElem?_eq_none (by simpa [zsV] using h1)] at hj
        cases hj
    rw [Addr.add_lit, Nat.zero_add, World.ownsRow.cellAt h j (by omega)]
    exact hj

set_option maxHeartbeats 800000 in
set_option maxRecDepth 100000 in
theorem sWit_any (b : Int) (w : World) :
    Calls Tryz.prog 119 #[.int .i64 b] w fun e w' => ∃ v, e = .returned v ∧ RowZs w.heap.size w' v (witOf b) ∧ Below w.heap.size w w' := by
  obtain ⟨i0, hi, hz0, hz1, hz2⟩ := info_parts info3I
  have HB : Hid (∀ w, Calls Tryz.prog 87 #[.int .i64 b, .int .i64 0, .int .i64 255] w fun e w' => e = .returned (.bool (decide (0 ≤ b ∧ b ≤ 255))) ∧ w = w') := sBetween_any b 0 255
  by_cases hb : 0 ≤ b ∧ b ≤ 255
  · rw [decide_eq_true hb] at HB
    have HS : Hid (witOf b = [1, b, bitsB b] ++ bitL b 8) := if_pos hb
    have HC : Hid (∀ w, Calls Tryz.prog 177 #[.int .i64 b] w fun e w' => e = .returned (.int .i64 (bitsB b)) ∧ w = w') := sCount_any b
    obtain ⟨b0, b1⟩ := hb
    generalize bitsB b = c at HC HS
    have hown0 : (w.alloc (.cells #[] 3)).ownsRow w.heap.size 3 1 (.slice (some ⟨w.heap.size, 0, none⟩) 0 0) 0 [] := World.ownsRow_lit w #[] 0 (Nat.le_refl _) (by simp [maxLen]) (by simp)
    have hnw : ∀ j u, [Value.int .i64 1, Value.int .i64 b, Value.int .i64 c][j]? = some u → ((w.alloc (.cells #[] 3)).alloc (.cells #[.int .i64 1, .int .i64 b, .int .i64 c] 3)).cell? ((⟨w.heap.size + 1, 0, none⟩ : Addr).add j) = some u := by
      have e : (w.alloc (.cells #[] 3)).heap.size = w.heap.size + 1 := by simp
      have h := cells_new (w.alloc (.cells #[] 3)) #[.int .i64 1, .int .i64 b, .int .i64 c] 3
      rw [e] at h
      exact h
    go_enter Tryz.func119, Tryz.ntmps119
    go_wp2_with (first
      | (go_at_call 87; refine (HB.out _).mono ?_; rintro e wz ⟨rfl, rfl⟩)
      | (go_at_call 177; refine (HC.out _).mono ?_; rintro e wz ⟨rfl, rfl⟩)
      | (at_builtin; refine wpList_append_own _ rfl _ _ 27 rfl w.heap.size 3 i0 (.int .i64 0) 1 8 Tryz.underlying27 hi hz0 hz1 hz2 rfl (by decide) _ _ _ rfl (hown0.alloc _) ⟨w.heap.size + 1, 0, none⟩ 3 3 [.int .i64 1, .int .i64 b, .int .i64 c] rfl rfl hnw (zsV_one [1, b, c]) (by simp [maxLen]) (by simp) (by simp; omega) ?_))
    intro v' w4 hown' hgrow _
    have R4 : Hid (w4.ownsRow w.heap.size 3 1 v' ([1, b, c] ++ bitL b 0).length (zsV ([1, b, c] ++ bitL b 0))) := hown'
    have HB4 : Hid (Below w.heap.size w w4) := (((Below.refl w.heap.size w).alloc (Nat.le_refl _) _).alloc (by simp) _).grown hgrow (by simp; omega) (fun k hk => (hown0.lt k hk).1)
    clear hown' hgrow hown0 HB HC hnw
    go_wp2
    go_loopw [3, 4] (fun v i wr => ∃ (k : Nat) (l : List Int), i = .int .i64 (k : Int) ∧ k ≤ 8 ∧ Hid (l = [1, b, c] ++ bitL b k) ∧ wr.ownsRow w.heap.size 3 1 v l.length (zsV l) ∧ Hid (Below w.heap.size w wr)) (fun _ i _ => 8 - (intOf i).toNat)
    case atStart => exact ⟨0, _, rfl, by omega, rfl, R4.out, HB4⟩
    case round =>
      obtain ⟨k, l, rfl, hk, HL, hown, HB⟩ := hrel
      clear R4 HB4
      have hll : l.length = 3 + k := by rw [HL.out]; simp [bitL_length]; omega
      have hm63 : l.length + 1 ≤ maxLen := by unfold maxLen; omega
      have hm47 : (l.length + 1) * 8 ≤ 140737488355328 := by omega
      have hsz : w.heap.size ≤ wr.heap.size := HB.out.size
      clear hll
      by_cases hlt : k < 8
      · have hlt' : (k : Int) < 8 := by omega
        obtain ⟨m, hm⟩ : ∃ m : Int, b / 2 ^ k = m := ⟨_, rfl⟩
        have hm0 : 0 ≤ m := by rw [← hm]; exact Int.ediv_nonneg b0 (Int.le_of_lt (Int.pow_pos (by decide)))
        obtain ⟨x, hx⟩ : ∃ x : Int, Int.tmod m 2 = x := ⟨_, rfl⟩
        have HX : Hid (x = b / 2 ^ k % 2) := by rw [hm, ← hx, Int.tmod_eq_emod_of_nonneg hm0]; rfl
        go_wp2_with (at_builtin; refine wpList_append_own _ rfl _ _ 27 rfl w.heap.size 3 i0 (.int .i64 0) 1 8 Tryz.underlying27 hi hz0 hz1 hz2 rfl (by decide) _ _ _ rfl (hown.alloc _) ⟨wr.heap.size, 0, none⟩ 1 1 [.int .i64 x] rfl rfl (cell_one_new _ _ _) (one_cell _ _) hm63 hm47 (room_for hsz _) ?_)
        intro v' w4 hown' hgrow _
        have R : w4.ownsRow w.heap.size 3 1 v' (l ++ [x]).length (zsV (l ++ [x])) := by
          rw [zsV_append, List.length_append]; exact hown'
        have HB2 : Hid (Below w.heap.size w w4) := (HB.out.alloc hsz _).grown hgrow (by simp; omega) (fun k hk => (hown.lt k hk).1)
        have HL2 : Hid (l ++ [x] = [1, b, c] ++ bitL b (k + 1)) := by
          show l ++ [x] = _
          rw [bitL_next, HL.out, HX.out, List.append_assoc]
        clear hown' hgrow hown
        go_wp2
        go_roundw
        case rel => exact ⟨k + 1, _, by go_num, hlt, HL2, R, HB2⟩
        case measure => simp [intOf]; omega
      · have hlt' : ¬ (k : Int) < 8 := by omega
        obtain rfl : k = 8 := by omega
        have HO : Hid (wr.ownsRow w.heap.size 3 1 _ l.length (zsV l)) := hown
        clear hown hm63 hm47
        go_wp2
        go_ret
        exact ⟨_, rfl, by rw [HS.out, ← HL.out]; exact HO.out, HB.out⟩
  · rw [decide_eq_false hb] at HB
    have HS : Hid (witOf b = []) := if_neg hb
    go_enter Tryz.func119, Tryz.ntmps119
    go_wp2_with (go_at_call 87; refine (HB.out _).mono ?_; rintro e wz ⟨rfl, rfl⟩)
    go_ret
    exact ⟨_, rfl, by rw [HS.out]; exact World.ownsRow_lit _ _ _ (Nat.le_refl _) (by simp [maxLen]) (by simp), (Below.refl _ _).alloc (Nat.le_refl _) _⟩

end Go.Proofs.YthnahalboomkoaaGreat

/-
  The walk of the copy of a system, the specification's.
  (-DROP-: what the seat lacks is left out.)
-/
namespace Go.Proofs.YthnahalboomkoaaGreat
open Go.RowKit

/-- What three appends to empty lists make, in whatever order. -/
def tgt3 (l0 l1 l2 : List Int) (i : Nat) : List Int := if i = 5 then l0 else if i = 9 then l1 else if i = 13 then l2 else []
def cl3 (i : Nat) : Nat := if i ≤ 5 then 0 else if i ≤ 9 then 1 else 2
def nx3 (i : Nat) : Nat := if i = 2 then 5 else if i = 6 then 9 else if i = 10 then 13 else 0
def H3 : List Nat := [2, 5, 6, 9, 10, 13]
def holds3 (L : Array Bool) (i : Nat) : Prop := L.getD i false = true ∧ (i = 5 ∨ i = 9 ∨ i = 13 ∨ L.getD (nx3 i) false = false)
structure JCopy (V : World) (l0 l1 l2 : List Int) (L : Array Bool) (v : Nat → Value) (w : World) : Prop where
  bel : Below V.heap.size V w
  row : ∀ i, i ∈ H3 → holds3 L i → RowZs V.heap.size w (v i) (tgt3 l0 l1 l2 i)
  lt : ∀ i, i ∈ H3 → L.getD i false = true → ∀ g, (v i).ownBlock = some g → g < w.heap.size
  apart : ∀ i j, i ∈ H3 → j ∈ H3 → cl3 i ≠ cl3 j → L.getD i false = true → L.getD j false = true → ∀ g, (v i).ownBlock = some g → (v j).ownBlock ≠ some g
theorem lt_of_un {L : Array Bool} {i : Nat} (h : L.getD i true = false) : i < L.size ∧ L.getD i false = false := by
  rcases Nat.lt_or_ge i L.size with h1 | h1
  · refine ⟨h1, ?_⟩
    simp [h1] at h ⊢
    exact h
  · simp [Array.getElem?_eq_none h1] at h
theorem upd_same (v : Nat → Value) (i : Nat) (x : Value) : upd v i x i = x := if_pos rfl
theorem upd_other (v : Nat → Value) {i j : Nat} (x : Value) (h : j ≠ i) : upd v i x j = v j := if_neg h
theorem JCopy.add {V : World} {l0 l1 l2 : List Int} {L : Array Bool} {v : Nat → Value} {w w' : World} {i : Nat} {x : Value} (h : JCopy V l0 l1 l2 L v w) (hL : L.getD i true = false) (hrow : RowZs V.heap.size w' x (tgt3 l0 l1 l2 i)) (hb : Below V.heap.size V w') (hsz : w.heap.size ≤ w'.heap.size)
    (hkeep : ∀ j, j ∈ H3 → j ≠ i → holds3 L j → holds3 (L.setIfInBounds i true) j → RowZs V.heap.size w' (v j) (tgt3 l0 l1 l2 j)) (hap : ∀ j, j ∈ H3 → cl3 i ≠ cl3 j → L.getD j false = true → ∀ g, x.ownBlock = some g → (v j).ownBlock ≠ some g) : JCopy V l0 l1 l2 (L.setIfInBounds i true) (upd v i x) w' := by
  obtain ⟨hi, hf⟩ := lt_of_un hL
  refine ⟨hb, fun j hj hh => ?_, fun j hj hh g hg => ?_, fun j k hj hk hc h1 h2 g hg => ?_⟩
  · by_cases hji : j = i
    · subst hji; rw [upd_same]; exact hrow
    · rw [upd_other _ _ hji]
      refine hkeep j hj hji ?_ hh
      obtain ⟨h1, h2⟩ := hh
      rw [getD_set_ne' (fun e => hji e.symm)] at h1
      refine ⟨h1, ?_⟩
      rcases h2 with h2 | h2 | h2 | h2
      · exact .inl h2
      · exact .inr (.inl h2)
      · exact .inr (.inr (.inl h2))
      · refine .inr (.inr (.inr ?_))
        by_cases hn : i = nx3 j
        · rw [← hn]; exact hf
        · rw [getD_set_ne' hn] at h2; exact h2
  · by_cases hji : j = i
    · subst hji; rw [upd_same] at hg; exact (hrow.lt g hg).2
    · rw [upd_other _ _ hji] at hg
      rw [getD_set_ne' (fun e => hji e.symm)] at hh
      have := h.lt j hj hh g hg
      omega
  · by_cases hji : j = i
    · subst hji
      have hki : k ≠ j := fun e => hc (by rw [e])
      rw [upd_same] at hg
      rw [upd_other _ _ hki]
      rw [getD_set_ne' (fun e => hki e.symm)] at h2
      exact hap k hk hc h2 g hg
    · rw [upd_other _ _ hji] at hg
      rw [getD_set_ne' (fun e => hji e.symm)] at h1
      by_cases hki : k = i
      · subst hki
        rw [upd_same]
        exact fun e => hap j hj (fun e2 => hc e2.symm) h1 g e hg
      · rw [upd_other _ _ hki]
        rw [getD_set_ne' (fun e => hki e.symm)] at h2
        exact h.apart j k hj hk hc h1 h2 g hg
/-- An empty list is made. -/
theorem JCopy.made {V : World} {l0 l1 l2 : List Int} {L : Array Bool} {v : Nat → Value} {w : World} {i : Nat} (h : JCopy V l0 l1 l2 L v w) (hL : L.getD i true = false) (ht : tgt3 l0 l1 l2 i = []) : JCopy V l0 l1 l2 (L.setIfInBounds i true) (upd v i (.slice (some ⟨w.heap.size, 0, none⟩) 0 0)) (w.alloc (.cells #[] 3)) := by
  have hs := h.bel.size
  refine h.add hL ?_ (h.bel.alloc hs _) (by simp) (fun j hj _ h1 _ => World.ownsRow.alloc (h.row j hj h1) _) (fun j hj _ h1 g hg h2 => ?_)
  · rw [ht]
    exact World.ownsRow_lit _ _ _ hs (by simp [maxLen]) (by simp)
  · have e : some w.heap.size = some g := hg
    injection e with e
    have := h.lt j hj h1 g h2
    omega
/-- A list is put behind an empty one. -/
theorem JCopy.app {V : World} {l0 l1 l2 : List Int} {L : Array Bool} {v : Nat → Value} {w w' : World} {i d : Nat} {x : Value} (h : JCopy V l0 l1 l2 L v w) (hL : L.getD i true = false) (hd : d ∈ H3) (hdL : L.getD d false = true) (hc : cl3 d = cl3 i) (hn : nx3 d = i) (hsame : ∀ j, j ∈ H3 → j ≠ i → cl3 j = cl3 i → j = d) (hd4 : d ≠ 5 ∧ d ≠ 9 ∧ d ≠ 13)
    (hown : w'.ownsRow V.heap.size 3 1 x (0 + (tgt3 l0 l1 l2 i).length) ([] ++ zsV (tgt3 l0 l1 l2 i))) (hg : w.grownBy w' (v d).ownBlock) (hat : x.ownBlock = (v d).ownBlock ∨ x.ownBlock = some w.heap.size) : JCopy V l0 l1 l2 (L.setIfInBounds i true) (upd v i x) w' := by
  obtain ⟨hi, hf⟩ := lt_of_un hL
  have hs := h.bel.size
  have hrd := h.row d hd ⟨hdL, .inr (.inr (.inr (by rw [hn]; exact hf)))⟩
  refine h.add hL ?_ (h.bel.grown hg hs (fun k hk => (hrd.lt k hk).1)) hg.size (fun j hj hji h1 h2 => ?_) (fun j hj hcj h1 g hx hj2 => ?_)
  · have e : 0 + (tgt3 l0 l1 l2 i).length = (tgt3 l0 l1 l2 i).length := Nat.zero_add _
    rw [e, List.nil_append] at hown
    exact hown
  · by_cases hcc : cl3 j = cl3 i
    · have hjd := hsame j hj hji hcc
      subst hjd
      exfalso
      rcases h2.2 with e | e | e | e
      · exact hd4.1 e
      · exact hd4.2.1 e
      · exact hd4.2.2 e
      · rw [hn, getD_set_same' hi] at e
        cases e
    · refine World.ownsRow.kept (h.row j hj h1) hg ?_
      cases ho : (v j).ownBlock with
      | none => exact .inl rfl
      | some g => exact .inr fun e => h.apart j d hj hd (by rw [hc]; exact hcc) h1.1 hdL g ho e.symm
  · rcases hat with e | e
    · rw [e] at hx
      exact h.apart d j hd hj (by rw [hc]; exact hcj) hdL h1 g hx hj2
    · rw [e] at hx
      injection hx with hx
      have := h.lt j hj h1 g hj2
      omega
theorem putSt_H3 {ops : Array Oper} (v : Nat → Value) (a : Act) (h : ops.size = 19) (h2 : dsOf ops 2 = some 25) (h5 : dsOf ops 5 = some 28) (h6 : dsOf ops 6 = some 29) (h9 : dsOf ops 9 = some 32) (h10 : dsOf ops 10 = some 33) (h13 : dsOf ops 13 = some 36) : putSt ops v a (fun i => H3.contains i) ops.size = (((((a.put (some 25) (v 2)).put (some 28) (v 5)).put (some 29) (v 6)).put (some 32) (v 9)).put (some 33) (v 10)).put (some 36) (v 13) := by
  rw [← h2, ← h5, ← h6, ← h9, ← h10, ← h13, h]
  rfl
theorem three_slices (a b c : Option Addr) (n m k n' m' k' : Nat) : ∀ u ∈ [Value.slice a n n', .slice b m m', .slice c k k'], u.oneCell' = true := by
  intro u hu
  simp only [List.mem_cons, List.not_mem_nil, or_false] at hu
  rcases hu with rfl | rfl | rfl <;> rfl
theorem RowZs.low {B B' : Nat} {w : World} {v : Value} {l : List Int} (h : RowZs B w v l) (hB : B' ≤ B) : RowZs B' w v l := owns_low h hB
/-- A row of three owned lists is put behind. -/
theorem NOwnV.appR {e lo hi n : Nat} {w w' : World} {v v' x0 x1 x2 : Value} {vs : List Value} {ls ns : List (List Int)} {l0 l1 l2 : List Int} (h : NOwnV 3 e lo hi w v n vs ls) (hr : w'.ownsRow lo e 3 v' (n + 1) (vs ++ [x0, x1, x2])) (hg : w.grownBy w' v.ownBlock) (hv : v'.ownBlock = v.ownBlock ∨ v'.ownBlock = some w.heap.size) (hns : ns = [l0, l1, l2])
    (r0 : RowZs hi w x0 l0) (r1 : RowZs hi w x1 l1) (r2 : RowZs hi w x2 l2) (d01 : ∀ g, x0.ownBlock = some g → x1.ownBlock ≠ some g) (d02 : ∀ g, x0.ownBlock = some g → x2.ownBlock ≠ some g) (d12 : ∀ g, x1.ownBlock = some g → x2.ownBlock ≠ some g) (hw : hi ≤ w.heap.size) (hlo : lo ≤ hi) :
    NOwnV 3 e lo w'.heap.size w' v' (n + 1) (vs ++ [x0, x1, x2]) (ls ++ ns) := by
  subst hns
  refine h.app hr hg hv rfl (fun j hj => ?_) (fun i j k hi hj hij h1 h2 => ?_) hw hlo hg.size (fun k hk => (hr.lt k hk).2)
  · have hj3 : j = 0 ∨ j = 1 ∨ j = 2 := by omega
    rcases hj3 with rfl | rfl | rfl
    · exact ZOwn.of r0
    · exact ZOwn.of r1
    · exact ZOwn.of r2
  · have hi3 : i = 0 ∨ i = 1 ∨ i = 2 := by omega
    have hj3 : j = 0 ∨ j = 1 ∨ j = 2 := by omega
    rcases hi3 with rfl | rfl | rfl <;> rcases hj3 with rfl | rfl | rfl
    · exact absurd rfl hij
    · exact d01 k h1 h2
    · exact d02 k h1 h2
    · exact d01 k h2 h1
    · exact absurd rfl hij
    · exact d12 k h1 h2
    · exact d02 k h2 h1
    · exact d12 k h2 h1
    · exact absurd rfl hij
/-- What a list holds, for an append. -/
theorem ints_news {w : World} {l : List Int} {a : Option Addr} {c : Nat} (h : IntsAt w a l.length c (fun j => l.getD j 0)) (hl : 0 < l.length) : ∃ b off, a = some ⟨b, off, none⟩ ∧ b < c ∧ ∀ j u, (zsV l)[j]? = some u → w.cell? ((⟨b, off, none⟩ : Addr).add j) = some u := by
  obtain ⟨b, off, rfl, hb, _⟩ := h 0 hl
  refine ⟨b, off, rfl, hb, fun j u hj => ?_⟩
  have hj2 : j < l.length := by
    rcases Nat.lt_or_ge j l.length with h1 | h1
    · exact h1
    · rw [List.getElem?_eq_none (by simpa [zsV] using h1)] at hj
      cases hj
  obtain ⟨b', off', e, _, hc⟩ := h j hj2
  injection e with e
  injection e with e1 e2
  subst e1
  subst e2
  rw [Addr.add_lit, hc]
  simp [zsV, hj2] at hj ⊢
  exact hj

end Go.Proofs.YthnahalboomkoaaGreat

/-
  The walk of a row of nothing, the specification's.
  (-DROP-: what the seat lacks is left out.)
-/
namespace Go.Proofs.YthnahalboomkoaaGreat
open Go.RowKit

theorem freshN (w : World) (o : Obj) (n : Nat) (f : Nat → Int) : RowI ((((w.alloc o).alloc (.cells (ic f n) 3)).alloc (.cells (ic f n) 3)).alloc (.cells (ic f n) 3)) (w.heap.size + 1) n f ∧ RowI ((((w.alloc o).alloc (.cells (ic f n) 3)).alloc (.cells (ic f n) 3)).alloc (.cells (ic f n) 3)) (w.heap.size + 1 + 1) n f ∧ RowI ((((w.alloc o).alloc (.cells (ic f n) 3)).alloc (.cells (ic f n) 3)).alloc (.cells (ic f n) 3)) (w.heap.size + 1 + 1 + 1) n f ∧ Below w.heap.size w ((((w.alloc o).alloc (.cells (ic f n) 3)).alloc (.cells (ic f n) 3)).alloc (.cells (ic f n) 3)) :=
  ⟨((Blk.newAt (by simp)).alloc _).alloc _, (Blk.newAt (by simp)).alloc _, Blk.newAt (by simp), ((((Below.refl _ _).alloc (Nat.le_refl _) _).alloc (by simp) _).alloc (by simp; omega) _).alloc (by simp; omega) _⟩

set_option maxHeartbeats 1600000 in
set_option maxRecDepth 100000 in
theorem l13RowN_any (n : Nat) (hn : n ≤ 1000) (w : World) :
    Calls Tryz.prog 121 #[.int .i64 (n : Int)] w fun e w' => ∃ g0 g1 g2, e = .returned (.agg #[.slice (some ⟨g0, 0, none⟩) n n, .slice (some ⟨g1, 0, none⟩) n n, .slice (some ⟨g2, 0, none⟩) n n]) ∧ (w.heap.size ≤ g0 ∧ w.heap.size ≤ g1 ∧ w.heap.size ≤ g2 ∧ g0 ≠ g1 ∧ g0 ≠ g2 ∧ g1 ≠ g2 ∧ RowI w' g0 n (fun _ => 0) ∧ RowI w' g1 n (fun _ => 0) ∧ RowI w' g2 n (fun _ => 0)) ∧ Below w.heap.size w w' := by
  have hmk : ∀ W : World, (Instr.makeSlice 27 (.int .i64 (n : Int)) (.int .i64 (n : Int))).run Tryz.prog W = .ok (.slice (some ⟨W.heap.size, 0, none⟩) n n) (W.alloc (.cells (ic (fun _ => 0) n) 3)) := fun W => make_ints n n (Nat.le_refl _) (by omega) W
  go_enter Tryz.func121, Tryz.ntmps121
  go_wp2
  go_region
  all_goals go_wp2
  all_goals refine bodyPost_ret_by (result_blk rfl rfl ((((Blk.new _ _ _).alloc _).alloc _).alloc _) Tryz.underlying146 infoRw) rfl ⟨_, _, _, rfl, ⟨by omega, by omega, by omega, by omega, by omega, by omega, ?_, ?_, ?_⟩, ?_⟩
  all_goals first | exact (freshN w _ n (fun _ => 0)).1 | exact (freshN w _ n (fun _ => 0)).2.1 | exact (freshN w _ n (fun _ => 0)).2.2.1 | exact (freshN w _ n (fun _ => 0)).2.2.2 | exact (freshN w _ n (fun _ => 0)).2.2.2.drew

end Go.Proofs.YthnahalboomkoaaGreat
