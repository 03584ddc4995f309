/-
  Texts of one's own, joined.
-/
import Derived.Test.YthnahalboomkoaaGreatJoined3
import Derived.Test.YthnahalboomkoaaGreatJoined17
import Derived.Test.YthnahalboomkoaaGreatJoined18
import Derived.Test.YthnahalboomkoaaGreatPrfMk
import Derived.Test.YthnahalboomkoaaGreatJoined21

/-
  Two blocks of structs.
-/
namespace Go.Proofs.YthnahalboomkoaaGreat
open Go.RowKit

theorem two_boxes (w : World) (t1 t2 : TypeId) (c1 c2 : Array Value) : ∃ W, (w.alloc (.cells c1 t1)).alloc (.cells c2 t2) = W ∧ Below w.heap.size w W ∧ Blk W w.heap.size t1 c1 ∧ Blk W (w.heap.size + 1) t2 c2 :=
  ⟨_, rfl, ((Below.refl _ _).alloc (Nat.le_refl _) _).alloc (by simp) _, (Blk.new w t1 c1).alloc _, Blk.newAt (by simp)⟩

end Go.Proofs.YthnahalboomkoaaGreat

/-
  The walk of the program's proof of a right witness.
  (-DROP-: what the seat lacks is left out.)
-/
namespace Go.Proofs.YthnahalboomkoaaGreat
open Go.RowKit

set_option maxHeartbeats 1600000 in
set_option maxRecDepth 100000 in
theorem isFor_yes (A B G D : Pt) (ia : Option Addr) (ni ic : Nat) (ua : Option Addr) (uc : Nat) (va : Option Addr) (vc : Nat) (la : Option Addr) (lc : Nat) (za : Option Addr) (zn zc : Nat) (wn p ln : Nat) (hwn : wn = p + 1 + ln) (hp : wn ≤ 20) (a : Option Addr) (n c : Nat) (hn : n ≤ 16) (hz : zn + 1 = n) (w : World) :
    Calls Tryz.prog 51 #[.agg #[.int .i64 A.1, .int .i64 A.2.1, .bool A.2.2, .int .i64 B.1, .int .i64 B.2.1, .bool B.2.2, .int .i64 G.1, .int .i64 G.2.1, .bool G.2.2, .int .i64 D.1, .int .i64 D.2.1, .bool D.2.2, .slice ia ni ic, .slice ua wn uc, .slice va wn vc, .slice la ln lc, .slice za zn zc], .agg #[.int .i64 (wn : Int), .int .i64 (p : Int), .slice a n c]] w fun e w' => e = .returned (.bool true) ∧ Below w.heap.size w w' := by
  obtain ⟨W, hW, hb, hm, hs⟩ := two_boxes w 40 26 #[.int .i64 A.1, .int .i64 A.2.1, .bool A.2.2, .int .i64 B.1, .int .i64 B.2.1, .bool B.2.2, .int .i64 G.1, .int .i64 G.2.1, .bool G.2.2, .int .i64 D.1, .int .i64 D.2.1, .bool D.2.2, .slice ia ni ic, .slice ua wn uc, .slice va wn vc, .slice la ln lc, .slice za zn zc] #[.int .i64 (wn : Int), .int .i64 (p : Int), .slice a n c]
  have q13 : W.cell? ⟨w.heap.size, 13, none⟩ = some (.slice ua wn uc) := hm.cell 13
  have q14 : W.cell? ⟨w.heap.size, 14, none⟩ = some (.slice va wn vc) := hm.cell 14
  have q15 : W.cell? ⟨w.heap.size, 15, none⟩ = some (.slice la ln lc) := hm.cell 15
  have q16 : W.cell? ⟨w.heap.size, 16, none⟩ = some (.slice za zn zc) := hm.cell 16
  have r0 : W.cell? ⟨w.heap.size + 1, 0, none⟩ = some (.int .i64 (wn : Int)) := hs.cell 0
  have r1 : W.cell? ⟨w.heap.size + 1, 1, none⟩ = some (.int .i64 (p : Int)) := hs.cell 1
  have r2 : W.cell? ⟨w.heap.size + 1, 2, none⟩ = some (.slice a n c) := hs.cell 2
  have e1 : ((ln : Int) == (wn : Int) - (p : Int) - 1) = true := by rw [beq_iff_eq]; omega
  have e2 : ((zn : Int) == (n : Int) - 1) = true := by rw [beq_iff_eq]; omega
  have b1 : (wn : Int) ≤ 20 := by omega
  have b2 : (p : Int) ≤ 20 := by omega
  have b3 : (n : Int) ≤ 16 := by omega
  clear hz hn hp hm hs hwn
  go_enter Tryz.func51, Tryz.ntmps51
  go_wp2
  go_ret
  exact ⟨rfl, hb⟩

end Go.Proofs.YthnahalboomkoaaGreat
