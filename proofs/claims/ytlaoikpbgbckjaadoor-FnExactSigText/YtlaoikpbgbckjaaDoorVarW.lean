/-
  The walks of the functions that write a number in bytes.
  (-DROP-: what the seat lacks is left out.)
-/
import Derived.Test.YtlaoikpbgbckjaaDoorJoined3
import Derived.Test.YtlaoikpbgbckjaaDoorJoined5
import Derived.WalkLawsBesides
import Derived.WalkSpells
namespace Go.Proofs.YtlaoikpbgbckjaaDoor
open Go.RowKit

/-- What one append of a byte leaves. -/
theorem push_byte {w wr w1 : World} {B : Nat} {v v' : Value} {pre : List UInt8} {o : Obj} {k : Nat} {z : Int} (hk : k < 256) (hz : z = (k : Int)) (hB : B ≤ wr.heap.size) (hbel : Below B w wr) (hown : wr.ownsRow B 5 1 v pre.length (bytesV pre))
    (hown' : w1.ownsRow B 5 1 v' (pre.length + 1) (bytesV pre ++ [Value.int .u8 z])) (hgrow : (wr.alloc o).grownBy w1 v.ownBlock) :
    w1.ownsRow B 5 1 v' (pre ++ [UInt8.ofNat k]).length (bytesV (pre ++ [UInt8.ofNat k])) ∧ Below B w w1 := by
  refine ⟨?_, (hbel.alloc hB o).grown hgrow (by simp; omega) (fun k hk => (hown.lt k hk).1)⟩
  rw [bytesV_append, bytesV_one hk, List.length_append, ← hz]
  exact hown'

set_option maxHeartbeats 800000 in
set_option maxRecDepth 100000 in
theorem var_any (n : Nat) (hn : n ≤ 1000000000000) (w : World) :
    Calls Tryd.prog 42 #[.int .i64 (n : Int)] w fun e w' => e = .returned (.string ⟨(varB n).toArray⟩) ∧ Below w.heap.size w w' := by
  have hlen := varB_len n
  obtain ⟨i0, hi, hz0, hz1, hz2⟩ := info_parts info5
  go_enter Tryd.func42, Tryd.ntmps42
  go_wp2
  go_loopw [0, 3] (fun x v wr => ∃ (m : Nat) (pre : List UInt8), x = .int .i64 (m : Int) ∧ m ≤ n ∧ Hid (varB n = pre ++ varB m) ∧ wr.ownsRow w.heap.size 5 1 v pre.length (bytesV pre) ∧ Below w.heap.size w wr) (fun x _ _ => (intOf x).toNat)
  case atStart =>
    refine ⟨n, [], rfl, Nat.le_refl _, (show varB n = [] ++ varB n from rfl), ?_, ?_⟩
    · exact World.ownsRow_lit _ _ _ (Nat.le_refl _) (by simp [maxLen]) (by simp)
    · exact (Below.refl _ _).alloc (Nat.le_refl _) _
  case round =>
    obtain ⟨m, pre, rfl, hm, hpre, hown, hbel⟩ := hrel
    have hpl : pre.length ≤ n + 1 := by have := congrArg List.length hpre.out; simp at this; omega
    have hsz := hbel.size
    by_cases h7 : 127 < m
    · go_wp2_with (at_builtin; refine wpList_append_own _ rfl _ _ 22 rfl w.heap.size 5 i0 (.int .u8 0) 1 1 Tryd.underlying22 hi hz0 hz1 hz2 rfl (by decide) _ _ _ rfl (hown.alloc _) ⟨wr.heap.size, 0, none⟩ 1 1 [.int .u8 ((m : Int) % 128 + 128)] rfl rfl ?c1 ?c2 ?c3 ?c4 ?c5 ?_)
      case c1 => exact cell_one_new _ _ _
      case c2 => intro u hu; simp at hu; subst hu; rfl
      case c3 => unfold maxLen; omega
      case c4 => omega
      case c5 => simp; omega
      intro v' w1 hown' hgrow _
      have R := push_byte (k := m % 128 + 128) (by omega) (by omega) hsz hbel hown hown' hgrow
      clear hown' hgrow hown
      go_wp2
      go_roundw
      case rel => exact ⟨m / 128, pre ++ [UInt8.ofNat (m % 128 + 128)], by go_num, by omega, varB_step hpre.out h7, R.1, R.2⟩
      case measure => simp [intOf]; omega
    · go_wp2_with (at_builtin; refine wpList_append_own _ rfl _ _ 22 rfl w.heap.size 5 i0 (.int .u8 0) 1 1 Tryd.underlying22 hi hz0 hz1 hz2 rfl (by decide) _ _ _ rfl (hown.alloc _) ⟨wr.heap.size, 0, none⟩ 1 1 [.int .u8 (m : Int)] rfl rfl ?d1 ?d2 ?d3 ?d4 ?d5 ?_)
      case d1 => exact cell_one_new _ _ _
      case d2 => intro u hu; simp at hu; subst hu; rfl
      case d3 => unfold maxLen; omega
      case d4 => omega
      case d5 => simp; omega
      intro v' w1 hown' hgrow _
      have R := push_byte (k := m) (by omega) rfl hsz hbel hown hown' hgrow
      have hcv := text_of_row R.1
      have hb := R.2
      have he : pre ++ [UInt8.ofNat m] = varB n := varB_last hpre.out h7
      rw [he] at hcv
      clear hown' hgrow hown R he
      go_wp2
      go_ret
      exact ⟨rfl, hb⟩

set_option maxHeartbeats 800000 in
set_option maxRecDepth 100000 in
theorem iVarText_ok (n : Nat) (hn : n ≤ 1000000000) (w : World) :
    Calls Tryd.prog 59 #[.int .i64 (n : Int)] w fun e w' => e = .returned (.tuple #[.string ⟨(varB n).toArray⟩, .bool true]) ∧ Below w.heap.size w w' := by
  have hlen := varB_len n
  obtain ⟨i0, hi, hz0, hz1, hz2⟩ := info_parts info5
  go_enter Tryd.func59, Tryd.ntmps59
  go_wp2
  go_loopw [0, 4] (fun x v wr => ∃ (m : Nat) (pre : List UInt8), x = .int .i64 (m : Int) ∧ m ≤ n ∧ Hid (varB n = pre ++ varB m) ∧ wr.ownsRow w.heap.size 5 1 v pre.length (bytesV pre) ∧ Below w.heap.size w wr) (fun x _ _ => (intOf x).toNat)
  case atStart => exact ⟨n, [], rfl, Nat.le_refl _, (show varB n = [] ++ varB n from rfl), World.ownsRow_nil _ _ _ _, Below.refl _ _⟩
  case round =>
    obtain ⟨m, pre, rfl, hm, hpre, hown, hbel⟩ := hrel
    have hpl : pre.length ≤ n + 1 := by have := congrArg List.length hpre.out; simp at this; omega
    have hsz := hbel.size
    by_cases h7 : 127 < m
    · go_wp2_with (at_builtin; refine wpList_append_own _ rfl _ _ 22 rfl w.heap.size 5 i0 (.int .u8 0) 1 1 Tryd.underlying22 hi hz0 hz1 hz2 rfl (by decide) _ _ _ rfl (hown.alloc _) ⟨wr.heap.size, 0, none⟩ 1 1 [.int .u8 ((m : Int) % 128 + 128)] rfl rfl ?c1 ?c2 ?c3 ?c4 ?c5 ?_)
      case c1 => exact cell_one_new _ _ _
      case c2 => intro u hu; simp at hu; subst hu; rfl
      case c3 => unfold maxLen; omega
      case c4 => omega
      case c5 => simp; omega
      intro v' w1 hown' hgrow _
      have R := push_byte (k := m % 128 + 128) (by omega) (by omega) hsz hbel hown hown' hgrow
      clear hown' hgrow hown
      go_wp2
      go_roundw
      case rel => exact ⟨m / 128, pre ++ [UInt8.ofNat (m % 128 + 128)], by go_num, by omega, varB_step hpre.out h7, R.1, R.2⟩
      case measure => simp [intOf]; omega
    · go_wp2_with (at_builtin; refine wpList_append_own _ rfl _ _ 22 rfl w.heap.size 5 i0 (.int .u8 0) 1 1 Tryd.underlying22 hi hz0 hz1 hz2 rfl (by decide) _ _ _ rfl (hown.alloc _) ⟨wr.heap.size, 0, none⟩ 1 1 [.int .u8 (m : Int)] rfl rfl ?d1 ?d2 ?d3 ?d4 ?d5 ?_)
      case d1 => exact cell_one_new _ _ _
      case d2 => intro u hu; simp at hu; subst hu; rfl
      case d3 => unfold maxLen; omega
      case d4 => omega
      case d5 => simp; omega
      intro v' w1 hown' hgrow _
      have R := push_byte (k := m) (by omega) rfl hsz hbel hown hown' hgrow
      have hcv := text_of_row R.1
      have hb := R.2
      have he : pre ++ [UInt8.ofNat m] = varB n := varB_last hpre.out h7
      rw [he] at hcv
      clear hown' hgrow hown R he
      go_wp2
      go_ret2
      exact ⟨rfl, hb⟩

set_option maxRecDepth 100000 in
theorem iVarText_no (n : Int) (hn : n < 0 ∨ 1000000000 < n) (w : World) :
    Calls Tryd.prog 59 #[.int .i64 n] w fun e w' => e = .returned (.tuple #[.string ⟨#[]⟩, .bool false]) ∧ w = w' := by
  rcases hn with h | h
  · go_enter Tryd.func59, Tryd.ntmps59
    go_wp2
    go_ret2
    exact ⟨rfl, rfl⟩
  · have h0 : ¬ n < 0 := by omega
    go_enter Tryd.func59, Tryd.ntmps59
    go_wp2
    go_ret2
    exact ⟨rfl, rfl⟩

end Go.Proofs.YtlaoikpbgbckjaaDoor
