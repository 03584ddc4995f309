/-
  Texts of one's own, joined.
-/
import Derived.Test.YtjlijflfepffiaaJoined11
import Derived.Test.YtjlijflfepffiaaJoined1
import Derived.Test.YtjlijflfepffiaaJoined2

/-
  The draws of scalars and of lists of them.
  (-DROP-: what the seat lacks is left out.)
-/
namespace Go.Proofs.Ytjlijflfepffiaa
open Go.RowKit

/-- What an int holds. -/
def InsideS (z : Int) : Prop := -9223372036854775808 ≤ z ∧ z ≤ 9223372036854775807

def intsZ (l : List Int) : List Value := l.map fun (n : Int) => .int .i64 n

theorem intsZ_append (a b : List Int) : intsZ (a ++ b) = intsZ a ++ intsZ b := by simp [intsZ]

theorem intsZ_at {l : List Int} {j : Nat} (h : j < l.length) : (intsZ l)[j]? = some (.int .i64 (l.getD j 0)) := by simp [intsZ, List.getD, h]

/-- A value is a list of these ints, owned from B on. -/
def RowZ (B : Nat) (w : World) (v : Value) (l : List Int) : Prop := w.ownsRow B 3 1 v l.length (intsZ l)

theorem RowZ.ints {B : Nat} {w : World} {v : Value} {l : List Int} (h : RowZ B w v l) : ∃ a cp, v = .slice a l.length cp ∧ IntsAt w a l.length w.heap.size (fun j => l.getD j 0) := by
  rcases h.2 with ⟨rfl, h0⟩ | ⟨g, cp, cur, rfl, hg, hh, hrest⟩
  · exact ⟨none, 0, by rw [h0], fun j hj => by omega⟩
  · refine ⟨_, cp, rfl, fun j hj => ⟨g, 0, rfl, ?_, ?_⟩⟩
    · have hc := h.cellAt j (by omega)
      rw [intsZ_at hj] at hc
      exact World.block_lt_of_cell? w _ hc
    · have hc := h.cellAt j (by omega)
      rw [intsZ_at hj] at hc
      rw [Nat.zero_add]
      exact hc

set_option maxHeartbeats 800000 in
set_option maxRecDepth 100000 in
theorem scNum_any (c len cap : Nat) (a : Option Addr) (hm : len ≤ 1048576) (w : World) (hC : CurAt w c a len cap) (hA : ArgAt w a len c) :
    Calls Try.prog 67 #[.pointer (some ⟨c, 0, none⟩)] w fun e w' => ∃ x : Int, e = .returned (.int .i64 x) ∧ InsideS x ∧ CurEnd w w' c a len cap := by
  have HA : Hid (ArgAt w a len c) := hA
  have HC : Hid (CurAt w c a len cap) := hC
  clear hA hC
  go_enter Try.func67, Try.ntmps67
  go_wp2_with fail
  refine (below_any c len cap a hm 256 (by omega) (by omega) _ HC.out HA.out).mono ?_
  rintro e w2 ⟨y, rfl, y0, y1, hE⟩
  have HE2 : Hid (CurEnd w w2 c a len cap) := hE
  clear hE HA HC
  go_wp2_with fail
  have HW := HE2.out.alloc (.cells #[.int .i64 0, .int .i64 1, .int .i64 2, .int .i64 1008, .int .i64 1009, .int .i64 1010, .int .i64 (-1), .int .i64 (y * 3), .int .i64 500, .int .i64 (-9223372036854775808), .int .i64 9223372036854775807] 3)
  have hcl := HE2.out.cur.lt
  refine (pick_any c len cap a hm w2.heap.size 11 11 (by omega) (by omega) _ HW.cur HW.arg (by omega) InsideS (ints_new w2 [0, 1, 2, 1008, 1009, 1010, -1, y * 3, 500, -9223372036854775808, 9223372036854775807] _ rfl InsideS (by unfold InsideS; intro z hz; simp at hz; omega))).mono ?_
  rintro e w3 ⟨z, rfl, hz, hE⟩
  have HE3 : Hid (CurEnd w w3 c a len cap) := HW.trans hE
  have HZ : Hid (InsideS z) := hz
  clear hE HW hz
  go_wp2
  go_ret
  exact ⟨_, rfl, HZ.out, HE3.out⟩

set_option maxHeartbeats 1600000 in
set_option maxRecDepth 100000 in
theorem scList_any (c len cap : Nat) (a : Option Addr) (hm : len ≤ 1048576) (w : World) (hC : CurAt w c a len cap) (hA : ArgAt w a len c) :
    Calls Try.prog 58 #[.pointer (some ⟨c, 0, none⟩)] w fun e w' => ∃ (v : Value) (l : List Int), e = .returned v ∧ l.length ≤ 5 ∧ RowZ w.heap.size w' v l ∧ CurEnd w w' c a len cap := by
  obtain ⟨i0, hi, hz0, hz1, hz2⟩ := info_parts info3
  have hcl := hC.lt
  have HS : Hid (CurEnd w w c a len cap) := CurEnd.refl hC hA
  clear hA hC
  go_enter Try.func58, Try.ntmps58
  go_wp2
  go_loopw [3, 4] (fun v i wr => ∃ (k : Nat) (l : List Int), i = .int .i64 (k : Int) ∧ k ≤ 5 ∧ Hid (l.length = k) ∧ wr.ownsRow w.heap.size 3 1 v l.length (intsZ l) ∧ Hid (CurEnd w wr c a len cap)) (fun _ i _ => 6 - (intOf i).toNat)
  case atStart => exact ⟨0, [], rfl, by omega, rfl, World.ownsRow_lit _ _ _ (Nat.le_refl _) (by simp [maxLen]) (by simp), HS.out.alloc _⟩
  case round =>
    obtain ⟨k, l, rfl, hk, HL, hown, HE⟩ := hrel
    have hm63 : l.length + 1 ≤ maxLen := by have := HL.out; unfold maxLen; omega
    have hm47 : (l.length + 1) * 8 ≤ 140737488355328 := by have := HL.out; omega
    go_wp2_with fail
    refine (below_any c len cap a hm 6 (by omega) (by omega) _ HE.out.cur HE.out.arg).mono ?_
    rintro e w1 ⟨x, rfl, x0, x1, hE1⟩
    have hown1 : w1.ownsRow w.heap.size 3 1 _ l.length (intsZ l) := hown.kept hE1.grown (by
      refine .inr ?_
      intro e
      have := (hown.lt c e).1
      omega)
    have HE1 : Hid (CurEnd w w1 c a len cap) := HE.out.trans hE1
    clear hE1 hown HE
    by_cases hlt : (k : Int) < x
    · go_wp2_with fail
      refine (scNum_any c len cap a hm _ HE1.out.cur HE1.out.arg).mono ?_
      rintro e w2 ⟨y, rfl, _, hE2⟩
      have hown2 : w2.ownsRow w.heap.size 3 1 _ l.length (intsZ l) := hown1.kept hE2.grown (by
        refine .inr ?_
        intro e
        have := (hown1.lt c e).1
        omega)
      have HE2 : Hid (CurEnd w w2 c a len cap) := HE1.out.trans hE2
      have hsz : w.heap.size ≤ w2.heap.size := HE2.out.grown.size
      clear hE2 hown1 HE1
      go_wp2_with (at_builtin; refine wpList_append_own _ rfl _ _ 27 rfl w.heap.size 3 i0 (.int .i64 0) 1 8 Try.underlying27 hi hz0 hz1 hz2 rfl (by decide) _ _ _ rfl (hown2.alloc _) ⟨w2.heap.size, 0, none⟩ 1 1 [.int .i64 y] rfl rfl (cell_one_new _ _ _) (one_cell _ _) hm63 hm47 (room_for hsz _) ?_)
      intro v' w4 hown' hgrow _
      have R : w4.ownsRow w.heap.size 3 1 v' (l ++ [y]).length (intsZ (l ++ [y])) := by
        rw [intsZ_append, List.length_append]; exact hown'
      have HE4 : Hid (CurEnd w w4 c a len cap) := (HE2.out.alloc _).push hgrow (fun k hk => by have := (hown2.lt k hk).1; omega) (fun k hk => (hown2.lt k hk).1)
      have HL2 : Hid ((l ++ [y]).length = k + 1) := (show (l ++ [y]).length = k + 1 by rw [List.length_append, HL.out]; rfl)
      clear hown' hgrow hown2
      go_wp2
      go_roundw
      case rel => exact ⟨k + 1, _, by go_num, by omega, HL2, R, HE4⟩
      case measure => simp [intOf]; omega
    · have HO : Hid (w1.ownsRow w.heap.size 3 1 _ l.length (intsZ l)) := hown1
      clear hown1 hm63 hm47
      go_wp2
      go_ret
      exact ⟨_, l, rfl, by have := HL.out; omega, HO.out, HE1.out⟩

/-- What DrawScDot leaves. -/
def DotEnd (w : World) (e : Ending) (w' : World) : Prop := ∃ (a1 : Option Addr) (n1 c1 : Nat) (a2 : Option Addr) (n2 c2 : Nat) (f g : Nat → Int), e = .returned (.tuple #[.slice a1 n1 c1, .slice a2 n2 c2]) ∧ n1 ≤ 5 ∧ n2 ≤ 5 ∧ IntsAt w' a1 n1 w'.heap.size f ∧ IntsAt w' a2 n2 w'.heap.size g ∧ Below w.heap.size w w'

end Go.Proofs.Ytjlijflfepffiaa

/-
  The steps of the law of a class where operations are guarded.
-/
namespace Go.Proofs.Ytjlijflfepffiaa

section
variable {P : Program} {ops : Array Oper} {C : World → Prop}

theorem cls_stepG {R : Act → Prop} {a : Act} {o : Oper} {rest : List Oper} (hg : Region.wanted o (yielded ops a.tmps) = true)
    (h : ∀ K : Act → Prop, (∀ a, WQ P ops C R rest a → K a) → ∃ v, (∀ w, C w → (execOp a.eval o).run P w = .ok (.value v) w) ∧ K (a.put o.dst v)) : WQ P ops C R (o :: rest) a := by
  refine ⟨wpQuiet_step fun K hK => ?_⟩
  rw [if_pos hg]
  obtain ⟨v, h1, h2⟩ := h K fun a ha => hK a ha.out
  exact ⟨v, fun w hw => by unfold Oper.quietAt; rw [h1 w hw]; exact ⟨rfl, rfl⟩, h2⟩

theorem cls_callG {R : Act → Prop} {a : Act} {o : Oper} {rest : List Oper} (hg : Region.wanted o (yielded ops a.tmps) = true)
    (h : ∀ K : Act → Prop, (∀ a, WQ P ops C R rest a → K a) → ∃ f args v, (∀ w, (execOp a.eval o).run P w = .ok (.enter f args) w) ∧ (∀ w, C w → Calls P f args w fun e w' => e = .returned v ∧ C w') ∧ K (a.put o.dst v)) : WQ P ops C R (o :: rest) a := by
  refine ⟨wpQuiet_step fun K hK => ?_⟩
  rw [if_pos hg]
  obtain ⟨f, args, v, h1, h2, h3⟩ := h K fun a ha => hK a ha.out
  exact ⟨v, fun w hw => by unfold Oper.quietAt; rw [h1 w]; exact ⟨rfl, h2 w hw⟩, h3⟩

/-- One that is passed over. -/
theorem cls_skip {R : Act → Prop} {a : Act} {o : Oper} {rest : List Oper} (hg : Region.wanted o (yielded ops a.tmps) = false)
    (h : ∀ K : Act → Prop, (∀ a, WQ P ops C R rest a → K a) → K (a.put o.dst undef)) : WQ P ops C R (o :: rest) a := by
  refine ⟨wpQuiet_step fun K hK => ?_⟩
  rw [if_neg (by rw [hg]; exact Bool.false_ne_true)]
  exact h K fun a ha => hK a ha.out

end
end Go.Proofs.Ytjlijflfepffiaa
