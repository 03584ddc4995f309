/-
  Texts of one's own, joined.
-/
import Derived.Test.YtjlijflfepffiaaJoined6
import Derived.Test.YtjlijflfepffiaaJoined1
import Derived.Test.YtjlijflfepffiaaJoined2
import Derived.Test.YtjlijflfepffiaaJoined5
import Derived.StillTail
import Derived.StillTailTactics

/-
  The draws of scalars and of lists of them.
  (-DROP-: what the seat lacks is left out.)
-/
namespace Go.Proofs.Ytjlijflfepffiaa
open Go.RowKit

/-- What an int holds. -/
def InsideS (z : Int) : Prop := -9223372036854775808 ≤ z ∧ z ≤ 9223372036854775807

def intsZ (l : List Int) : List Value := l.map fun (n : Int) => .int .i64 n

theorem intsZ_append (a b : List Int) : intsZ (a ++ b) = intsZ a ++ intsZ b := by simp [intsZ]

theorem intsZ_at {l : List Int} {j : Nat} (h : j < l.length) : (intsZ l)[j]? = some (.int .i64 (l.getD j 0)) := by simp [intsZ, List.getD, h]

/-- A value is a list of these ints, owned from B on. -/
def RowZ (B : Nat) (w : World) (v : Value) (l : List Int) : Prop := w.ownsRow B 3 1 v l.length (intsZ l)

theorem RowZ.ints {B : Nat} {w : World} {v : Value} {l : List Int} (h : RowZ B w v l) : ∃ a cp, v = .slice a l.length cp ∧ IntsAt w a l.length w.heap.size (fun j => l.getD j 0) := by
  rcases h.2 with ⟨rfl, h0⟩ | ⟨g, cp, cur, rfl, hg, hh, hrest⟩
  · exact ⟨none, 0, by rw [h0], fun j hj => by omega⟩
  · refine ⟨_, cp, rfl, fun j hj => ⟨g, 0, rfl, ?_, ?_⟩⟩
    · have hc := h.cellAt j (by omega)
      rw [intsZ_at hj] at hc
      exact World.block_lt_of_cell? w _ hc
    · have hc := h.cellAt j (by omega)
      rw [intsZ_at hj] at hc
      rw [Nat.zero_add]
      exact hc

set_option maxHeartbeats 800000 in
set_option maxRecDepth 100000 in
theorem scNum_any (c len cap : Nat) (a : Option Addr) (hm : len ≤ 1048576) (w : World) (hC : CurAt w c a len cap) (hA : ArgAt w a len c) :
    Calls Try.prog 67 #[.pointer (some ⟨c, 0, none⟩)] w fun e w' => ∃ x : Int, e = .returned (.int .i64 x) ∧ InsideS x ∧ CurEnd w w' c a len cap := by
  have HA : Hid (ArgAt w a len c) := hA
  have HC : Hid (CurAt w c a len cap) := hC
  clear hA hC
  go_enter Try.func67, Try.ntmps67
  go_wp2_with fail
  refine (below_any c len cap a hm 256 (by omega) (by omega) _ HC.out HA.out).mono ?_
  rintro e w2 ⟨y, rfl, y0, y1, hE⟩
  have HE2 : Hid (CurEnd w w2 c a len cap) := hE
  clear hE HA HC
  go_wp2_with fail
  have HW := HE2.out.alloc (.cells #[.int .i64 0, .int .i64 1, .int .i64 2, .int .i64 1008, .int .i64 1009, .int .i64 1010, .int .i64 (-1), .int .i64 (y * 3), .int .i64 500, .int .i64 (-9223372036854775808), .int .i64 9223372036854775807] 3)
  have hcl := HE2.out.cur.lt
  refine (pick_any c len cap a hm w2.heap.size 11 11 (by omega) (by omega) _ HW.cur HW.arg (by omega) InsideS (ints_new w2 [0, 1, 2, 1008, 1009, 1010, -1, y * 3, 500, -9223372036854775808, 9223372036854775807] _ rfl InsideS (by unfold InsideS; intro z hz; simp at hz; omega))).mono ?_
  rintro e w3 ⟨z, rfl, hz, hE⟩
  have HE3 : Hid (CurEnd w w3 c a len cap) := HW.trans hE
  have HZ : Hid (InsideS z) := hz
  clear hE HW hz
  go_wp2
  go_ret
  exact ⟨_, rfl, HZ.out, HE3.out⟩

set_option maxHeartbeats 1600000 in
set_option maxRecDepth 100000 in
theorem scList_any (c len cap : Nat) (a : Option Addr) (hm : len ≤ 1048576) (w : World) (hC : CurAt w c a len cap) (hA : ArgAt w a len c) :
    Calls Try.prog 58 #[.pointer (some ⟨c, 0, none⟩)] w fun e w' => ∃ (v : Value) (l : List Int), e = .returned v ∧ l.length ≤ 5 ∧ RowZ w.heap.size w' v l ∧ CurEnd w w' c a len cap := by
  obtain ⟨i0, hi, hz0, hz1, hz2⟩ := info_parts info3
  have hcl := hC.lt
  have HS : Hid (CurEnd w w c a len cap) := CurEnd.refl hC hA
  clear hA hC
  go_enter Try.func58, Try.ntmps58
  go_wp2
  go_loopw [3, 4] (fun v i wr => ∃ (k : Nat) (l : List Int), i = .int .i64 (k : Int) ∧ k ≤ 5 ∧ Hid (l.length = k) ∧ wr.ownsRow w.heap.size 3 1 v l.length (intsZ l) ∧ Hid (CurEnd w wr c a len cap)) (fun _ i _ => 6 - (intOf i).toNat)
  case atStart => exact ⟨0, [], rfl, by omega, rfl, World.ownsRow_lit _ _ _ (Nat.le_refl _) (by simp [maxLen]) (by simp), HS.out.alloc _⟩
  case round =>
    obtain ⟨k, l, rfl, hk, HL, hown, HE⟩ := hrel
    have hm63 : l.length + 1 ≤ maxLen := by have := HL.out; unfold maxLen; omega
    have hm47 : (l.length + 1) * 8 ≤ 140737488355328 := by have := HL.out; omega
    go_wp2_with fail
    refine (below_any c len cap a hm 6 (by omega) (by omega) _ HE.out.cur HE.out.arg).mono ?_
    rintro e w1 ⟨x, rfl, x0, x1, hE1⟩
    have hown1 : w1.ownsRow w.heap.size 3 1 _ l.length (intsZ l) := hown.kept hE1.grown (by
      refine .inr ?_
      intro e
      have := (hown.lt c e).1
      omega)
    have HE1 : Hid (CurEnd w w1 c a len cap) := HE.out.trans hE1
    clear hE1 hown HE
    by_cases hlt : (k : Int) < x
    · go_wp2_with fail
      refine (scNum_any c len cap a hm _ HE1.out.cur HE1.out.arg).mono ?_
      rintro e w2 ⟨y, rfl, _, hE2⟩
      have hown2 : w2.ownsRow w.heap.size 3 1 _ l.length (intsZ l) := hown1.kept hE2.grown (by
        refine .inr ?_
        intro e
        have := (hown1.lt c e).1
        omega)
      have HE2 : Hid (CurEnd w w2 c a len cap) := HE1.out.trans hE2
      have hsz : w.heap.size ≤ w2.heap.size := HE2.out.grown.size
      clear hE2 hown1 HE1
      go_wp2_with (at_builtin; refine wpList_append_own _ rfl _ _ 27 rfl w.heap.size 3 i0 (.int .i64 0) 1 8 Try.underlying27 hi hz0 hz1 hz2 rfl (by decide) _ _ _ rfl (hown2.alloc _) ⟨w2.heap.size, 0, none⟩ 1 1 [.int .i64 y] rfl rfl (cell_one_new _ _ _) (one_cell _ _) hm63 hm47 (room_for hsz _) ?_)
      intro v' w4 hown' hgrow _
      have R : w4.ownsRow w.heap.size 3 1 v' (l ++ [y]).length (intsZ (l ++ [y])) := by
        rw [intsZ_append, List.length_append]; exact hown'
      have HE4 : Hid (CurEnd w w4 c a len cap) := (HE2.out.alloc _).push hgrow (fun k hk => by have := (hown2.lt k hk).1; omega) (fun k hk => (hown2.lt k hk).1)
      have HL2 : Hid ((l ++ [y]).length = k + 1) := (show (l ++ [y]).length = k + 1 by rw [List.length_append, HL.out]; rfl)
      clear hown' hgrow hown2
      go_wp2
      go_roundw
      case rel => exact ⟨k + 1, _, by go_num, by omega, HL2, R, HE4⟩
      case measure => simp [intOf]; omega
    · have HO : Hid (w1.ownsRow w.heap.size 3 1 _ l.length (intsZ l)) := hown1
      clear hown1 hm63 hm47
      go_wp2
      go_ret
      exact ⟨_, l, rfl, by have := HL.out; omega, HO.out, HE1.out⟩

/-- What DrawScDot leaves. -/
def DotEnd (w : World) (e : Ending) (w' : World) : Prop := ∃ (a1 : Option Addr) (n1 c1 : Nat) (a2 : Option Addr) (n2 c2 : Nat) (f g : Nat → Int), e = .returned (.tuple #[.slice a1 n1 c1, .slice a2 n2 c2]) ∧ n1 ≤ 5 ∧ n2 ≤ 5 ∧ IntsAt w' a1 n1 w'.heap.size f ∧ IntsAt w' a2 n2 w'.heap.size g ∧ Below w.heap.size w w'

end Go.Proofs.Ytjlijflfepffiaa

/-
  The steps of the law of a class where operations are guarded.
-/
namespace Go.Proofs.Ytjlijflfepffiaa

section
variable {P : Program} {ops : Array Oper} {C : World → Prop}

theorem cls_stepG {R : Act → Prop} {a : Act} {o : Oper} {rest : List Oper} (hg : Region.wanted o (yielded ops a.tmps) = true)
    (h : ∀ K : Act → Prop, (∀ a, WQ P ops C R rest a → K a) → ∃ v, (∀ w, C w → (execOp a.eval o).run P w = .ok (.value v) w) ∧ K (a.put o.dst v)) : WQ P ops C R (o :: rest) a := by
  refine ⟨wpQuiet_step fun K hK => ?_⟩
  rw [if_pos hg]
  obtain ⟨v, h1, h2⟩ := h K fun a ha => hK a ha.out
  exact ⟨v, fun w hw => by unfold Oper.quietAt; rw [h1 w hw]; exact ⟨rfl, rfl⟩, h2⟩

theorem cls_callG {R : Act → Prop} {a : Act} {o : Oper} {rest : List Oper} (hg : Region.wanted o (yielded ops a.tmps) = true)
    (h : ∀ K : Act → Prop, (∀ a, WQ P ops C R rest a → K a) → ∃ f args v, (∀ w, (execOp a.eval o).run P w = .ok (.enter f args) w) ∧ (∀ w, C w → Calls P f args w fun e w' => e = .returned v ∧ C w') ∧ K (a.put o.dst v)) : WQ P ops C R (o :: rest) a := by
  refine ⟨wpQuiet_step fun K hK => ?_⟩
  rw [if_pos hg]
  obtain ⟨f, args, v, h1, h2, h3⟩ := h K fun a ha => hK a ha.out
  exact ⟨v, fun w hw => by unfold Oper.quietAt; rw [h1 w]; exact ⟨rfl, h2 w hw⟩, h3⟩

/-- One that is passed over. -/
theorem cls_skip {R : Act → Prop} {a : Act} {o : Oper} {rest : List Oper} (hg : Region.wanted o (yielded ops a.tmps) = false)
    (h : ∀ K : Act → Prop, (∀ a, WQ P ops C R rest a → K a) → K (a.put o.dst undef)) : WQ P ops C R (o :: rest) a := by
  refine ⟨wpQuiet_step fun K hK => ?_⟩
  rw [if_neg (by rw [hg]; exact Bool.false_ne_true)]
  exact h K fun a ha => hK a ha.out

end
end Go.Proofs.Ytjlijflfepffiaa

/-
  The walks of the helpers of the exact laws on rows and systems: how long, copies, whether two are the same.
  (-DROP-: what the seat lacks is left out.)
-/
namespace Go.Proofs.Ytjlijflfepffiaa
open Go.RowKit

/-- What is left of so many, behind n of them. -/
def szF (L n : Nat) : Int := if n ≤ L then (L : Int) - (n : Int) else -1

set_option maxHeartbeats 400000 in
set_option maxRecDepth 100000 in
theorem szIntS_any (a : Option Addr) (n cap L : Nat) (hn : n ≤ 9223372036854775807) (hL : L ≤ 1048576) (w : World) :
    Calls Try.prog 75 #[.slice a n cap, .int .i64 (L : Int)] w fun e w' => e = .returned (.int .i64 (szF L n)) ∧ w = w' := by
  unfold szF
  by_cases h : n ≤ L
  · rw [if_pos h]
    have h' : ¬ (L : Int) - (n : Int) < 0 := by omega
    go_enter Try.func75, Try.ntmps75
    go_wp2
    go_ret
    exact ⟨rfl, rfl⟩
  · rw [if_neg h]
    have h' : (L : Int) - (n : Int) < 0 := by omega
    go_enter Try.func75, Try.ntmps75
    go_wp2
    go_ret
    exact ⟨rfl, rfl⟩

set_option maxHeartbeats 800000 in
set_option maxRecDepth 100000 in
theorem szRow_any (a0 a1 a2 : Option Addr) (n0 n1 n2 c0 c1 c2 L : Nat) (h0 : n0 ≤ 9223372036854775807) (h1 : n1 ≤ 9223372036854775807) (h2 : n2 ≤ 9223372036854775807) (hL : L ≤ 1048576) (w : World) :
    Calls Try.prog 99 #[.agg #[.slice a0 n0 c0, .slice a1 n1 c1, .slice a2 n2 c2], .int .i64 (L : Int)] w fun e w' => e = .returned (.int .i64 (szF L (n0 + n1 + n2))) ∧ Below w.heap.size w w' := by
  obtain ⟨W, hW, hb, hx⟩ := box1 w 109 #[.slice a0 n0 c0, .slice a1 n1 c1, .slice a2 n2 c2]
  have q0 := hx.cell 0
  have q1 := hx.cell 1
  have q2 := hx.cell 2
  by_cases g0 : n0 ≤ L
  · have e0 : szF L n0 = ((L - n0 : Nat) : Int) := by unfold szF; rw [if_pos g0]; omega
    have p0 : ¬ ((L - n0 : Nat) : Int) < 0 := by omega
    have C0 : Hid (∀ w, Calls Try.prog 75 #[.slice a0 n0 c0, .int .i64 (L : Int)] w fun e w' => e = .returned (.int .i64 ((L - n0 : Nat) : Int)) ∧ w = w') := fun w => by rw [← e0]; exact szIntS_any a0 n0 c0 L h0 hL w
    by_cases g1 : n1 ≤ L - n0
    · have e1 : szF (L - n0) n1 = ((L - n0 - n1 : Nat) : Int) := by unfold szF; rw [if_pos g1]; omega
      have p1 : ¬ ((L - n0 - n1 : Nat) : Int) < 0 := by omega
      have C1 : Hid (∀ w, Calls Try.prog 75 #[.slice a1 n1 c1, .int .i64 ((L - n0 : Nat) : Int)] w fun e w' => e = .returned (.int .i64 ((L - n0 - n1 : Nat) : Int)) ∧ w = w') := fun w => by rw [← e1]; exact szIntS_any a1 n1 c1 (L - n0) h1 (by omega) w
      by_cases g2 : n2 ≤ L - n0 - n1
      · have e2 : szF (L - n0 - n1) n2 = ((L - n0 - n1 - n2 : Nat) : Int) := by unfold szF; rw [if_pos g2]; omega
        have p2 : ¬ ((L - n0 - n1 - n2 : Nat) : Int) < 0 := by omega
        have C2 : Hid (∀ w, Calls Try.prog 75 #[.slice a2 n2 c2, .int .i64 ((L - n0 - n1 : Nat) : Int)] w fun e w' => e = .returned (.int .i64 ((L - n0 - n1 - n2 : Nat) : Int)) ∧ w = w') := fun w => by rw [← e2]; exact szIntS_any a2 n2 c2 (L - n0 - n1) h2 (by omega) w
        have HE : Hid (szF L (n0 + n1 + n2) = ((L - n0 - n1 - n2 : Nat) : Int)) := by show szF _ _ = _; unfold szF; rw [if_pos (by omega)]; omega
        generalize ((L - n0 - n1 - n2 : Nat) : Int) = r2 at p2 C2 HE
        generalize ((L - n0 - n1 : Nat) : Int) = r1 at p1 C1 C2
        generalize ((L - n0 : Nat) : Int) = r0 at p0 C0 C1
        clear g0 g1 g2 e0 e1 e2
        go_enter Try.func99, Try.ntmps99
        go_wp2_with fail
        refine (C0.out _).mono ?_
        rintro e w0 ⟨rfl, rfl⟩
        go_wp2_with fail
        refine (C1.out _).mono ?_
        rintro e w0 ⟨rfl, rfl⟩
        go_wp2_with fail
        refine (C2.out _).mono ?_
        rintro e w0 ⟨rfl, rfl⟩
        go_wp2
        go_ret
        exact ⟨by rw [HE.out]; rfl, hb⟩
      · have e2 : szF (L - n0 - n1) n2 = -1 := by unfold szF; rw [if_neg g2]
        have C2 : Hid (∀ w, Calls Try.prog 75 #[.slice a2 n2 c2, .int .i64 ((L - n0 - n1 : Nat) : Int)] w fun e w' => e = .returned (.int .i64 (-1)) ∧ w = w') := fun w => by rw [← e2]; exact szIntS_any a2 n2 c2 (L - n0 - n1) h2 (by omega) w
        have HE : Hid (szF L (n0 + n1 + n2) = -1) := by show szF _ _ = _; unfold szF; rw [if_neg (by omega)]
        generalize ((L - n0 - n1 : Nat) : Int) = r1 at p1 C1 C2
        generalize ((L - n0 : Nat) : Int) = r0 at p0 C0 C1
        clear g0 g1 g2 e0 e1 e2
        go_enter Try.func99, Try.ntmps99
        go_wp2_with fail
        refine (C0.out _).mono ?_
        rintro e w0 ⟨rfl, rfl⟩
        go_wp2_with fail
        refine (C1.out _).mono ?_
        rintro e w0 ⟨rfl, rfl⟩
        go_wp2_with fail
        refine (C2.out _).mono ?_
        rintro e w0 ⟨rfl, rfl⟩
        go_wp2
        go_ret
        exact ⟨by rw [HE.out]; rfl, hb⟩
    · have e1 : szF (L - n0) n1 = -1 := by unfold szF; rw [if_neg g1]
      have C1 : Hid (∀ w, Calls Try.prog 75 #[.slice a1 n1 c1, .int .i64 ((L - n0 : Nat) : Int)] w fun e w' => e = .returned (.int .i64 (-1)) ∧ w = w') := fun w => by rw [← e1]; exact szIntS_any a1 n1 c1 (L - n0) h1 (by omega) w
      have HE : Hid (szF L (n0 + n1 + n2) = -1) := by show szF _ _ = _; unfold szF; rw [if_neg (by omega)]
      generalize ((L - n0 : Nat) : Int) = r0 at p0 C0 C1
      clear g0 g1 e0 e1
      go_enter Try.func99, Try.ntmps99
      go_wp2_with fail
      refine (C0.out _).mono ?_
      rintro e w0 ⟨rfl, rfl⟩
      go_wp2_with fail
      refine (C1.out _).mono ?_
      rintro e w0 ⟨rfl, rfl⟩
      go_wp2
      go_ret
      exact ⟨by rw [HE.out]; rfl, hb⟩
  · have e0 : szF L n0 = -1 := by unfold szF; rw [if_neg g0]
    have C0 : Hid (∀ w, Calls Try.prog 75 #[.slice a0 n0 c0, .int .i64 (L : Int)] w fun e w' => e = .returned (.int .i64 (-1)) ∧ w = w') := fun w => by rw [← e0]; exact szIntS_any a0 n0 c0 L h0 hL w
    have HE : Hid (szF L (n0 + n1 + n2) = -1) := by show szF _ _ = _; unfold szF; rw [if_neg (by omega)]
    clear g0 e0
    go_enter Try.func99, Try.ntmps99
    go_wp2_with fail
    refine (C0.out _).mono ?_
    rintro e w0 ⟨rfl, rfl⟩
    go_wp2
    go_ret
    exact ⟨by rw [HE.out]; rfl, hb⟩

/-- The three lists of a row that lies in a list. -/
theorem NAt.row3 {w : World} {c n cp : Nat} {a : Option Addr} {ls : List (List Int)} (h : NAt 3 w c (.slice a n cp) n ls) {i : Nat} (hi : i < n) : ∃ b off a0 c0 a1 c1 a2 c2, a = some ⟨b, off, none⟩ ∧ b < c ∧ w.cell? ⟨b, off + i * 3, none⟩ = some (.slice a0 (ls.getD (i * 3) []).length c0) ∧ w.cell? ⟨b, off + i * 3 + 1, none⟩ = some (.slice a1 (ls.getD (i * 3 + 1) []).length c1) ∧ w.cell? ⟨b, off + i * 3 + 2, none⟩ = some (.slice a2 (ls.getD (i * 3 + 2) []).length c2)
    ∧ IntsAt w a0 (ls.getD (i * 3) []).length c (fun j => (ls.getD (i * 3) []).getD j 0) ∧ IntsAt w a1 (ls.getD (i * 3 + 1) []).length c (fun j => (ls.getD (i * 3 + 1) []).getD j 0) ∧ IntsAt w a2 (ls.getD (i * 3 + 2) []).length c (fun j => (ls.getD (i * 3 + 2) []).getD j 0) := by
  obtain ⟨_, a', cp', hv, hc⟩ := h
  have ha : a = a' := by injection hv
  subst ha
  obtain ⟨b, off, u0, e0, l0, z0, a0, c0, rfl, i0⟩ := hc (i * 3) (by omega)
  obtain ⟨b1, off1, u1, e1, l1, z1, a1, c1, rfl, i1⟩ := hc (i * 3 + 1) (by omega)
  obtain ⟨b2, off2, u2, e2, l2, z2, a2, c2, rfl, i2⟩ := hc (i * 3 + 2) (by omega)
  subst e0
  obtain ⟨rfl, rfl⟩ : b = b1 ∧ off = off1 := by injection e1 with e; injection e with e3 e4; exact ⟨e3, e4⟩
  obtain ⟨rfl, rfl⟩ : b = b2 ∧ off = off2 := by injection e2 with e; injection e with e3 e4; exact ⟨e3, e4⟩
  exact ⟨b, off, a0, c0, a1, c1, a2, c2, rfl, l0, z0, z1, z2, i0, i1, i2⟩

theorem tot_take_three (ls : List (List Int)) (k : Nat) (h : (k + 1) * 3 ≤ ls.length) : tot (ls.take ((k + 1) * 3)) = tot (ls.take (k * 3)) + ((ls.getD (k * 3) []).length + (ls.getD (k * 3 + 1) []).length + (ls.getD (k * 3 + 2) []).length) := by
  have t2 : tot (ls.take (k * 3 + 3)) = tot (ls.take (k * 3 + 2)) + (ls.getD (k * 3 + 2) []).length := tot_take_next ls (j := k * 3 + 2) (by omega)
  have t1 : tot (ls.take (k * 3 + 2)) = tot (ls.take (k * 3 + 1)) + (ls.getD (k * 3 + 1) []).length := tot_take_next ls (j := k * 3 + 1) (by omega)
  have t0 := tot_take_next ls (j := k * 3) (by omega)
  rw [show (k + 1) * 3 = k * 3 + 3 by omega]
  omega

set_option maxHeartbeats 800000 in
set_option maxRecDepth 100000 in
theorem szRowS_any (a : Option Addr) (n cap : Nat) (hn : n ≤ 9223372036854775807) (ls : List (List Int)) (hz : ∀ j, (ls.getD j []).length ≤ 9223372036854775807) (w : World) (hA : NAt 3 w w.heap.size (.slice a n cap) n ls) :
    Calls Try.prog 70 #[.slice a n cap, .int .i64 1048576] w fun e w' => e = .returned (.int .i64 (szF 1048576 (n + tot ls))) ∧ Below w.heap.size w w' := by
  have HA : Hid (NAt 3 w w.heap.size (.slice a n cap) n ls) := hA
  have hlen := hA.1
  clear hA
  by_cases h1 : 1048576 < n
  · have h1' : (1048576 : Int) - (n : Int) < 0 := by omega
    have HE : Hid (szF 1048576 (n + tot ls) = -1) := by show szF _ _ = _; unfold szF; rw [if_neg (by omega)]
    go_enter Try.func70, Try.ntmps70
    go_wp2
    go_ret
    exact ⟨by rw [HE.out]; rfl, Below.refl _ _⟩
  have h1' : ¬ (1048576 : Int) - (n : Int) < 0 := by omega
  have hLn : ((1048576 - n : Nat) : Int) = 1048576 - (n : Int) := by omega
  have HZ : Hid (∀ j, (ls.getD j []).length ≤ 9223372036854775807) := hz
  clear hz
  go_enter Try.func70, Try.ntmps70
  go_wp2
  go_loopw [1, 5] (fun x i wr => ∃ k L : Nat, x = .int .i64 (L : Int) ∧ i = .int .i64 (k : Int) ∧ k ≤ n ∧ Hid (L + n + tot (ls.take (k * 3)) = 1048576) ∧ Hid (Below w.heap.size w wr)) (fun _ i _ => n - (intOf i).toNat)
  case atStart => exact ⟨0, 1048576 - n, by rw [hLn], rfl, Nat.zero_le _, (show 1048576 - n + n + 0 = 1048576 by omega), Below.refl _ _⟩
  case round =>
    obtain ⟨k, L, rfl, rfl, hk, HL, HW⟩ := hrel
    by_cases hlt : k < n
    · have hlt' : (k : Int) < (n : Int) := by omega
      have hk0 : (0 : Int) ≤ (k : Int) := by omega
      obtain ⟨b, off, a0, c0, a1, c1, a2, c2, rfl, hb, z0, z1, z2, _, _, _⟩ := (HA.out.on HW.out).row3 hlt
      have HT : Hid (tot (ls.take ((k + 1) * 3)) = tot (ls.take (k * 3)) + ((ls.getD (k * 3) []).length + (ls.getD (k * 3 + 1) []).length + (ls.getD (k * 3 + 2) []).length)) := by
        exact tot_take_three ls k (by omega)
      have HTL : Hid (tot (ls.take ((k + 1) * 3)) ≤ tot ls) := tot_take_le _ _
      have HC : Hid (∀ w, Calls Try.prog 99 #[.agg #[.slice a0 (ls.getD (k * 3) []).length c0, .slice a1 (ls.getD (k * 3 + 1) []).length c1, .slice a2 (ls.getD (k * 3 + 2) []).length c2], .int .i64 (L : Int)] w fun e w' => e = .returned (.int .i64 (szF L ((ls.getD (k * 3) []).length + (ls.getD (k * 3 + 1) []).length + (ls.getD (k * 3 + 2) []).length))) ∧ Below w.heap.size w w') := szRow_any a0 a1 a2 _ _ _ c0 c1 c2 L (HZ.out _) (HZ.out _) (HZ.out _) (by have := HL.out; omega)
      generalize (ls.getD (k * 3) []).length = m0 at HC HT z0
      generalize (ls.getD (k * 3 + 1) []).length = m1 at HC HT z1
      generalize (ls.getD (k * 3 + 2) []).length = m2 at HC HT z2
      generalize htk : tot (ls.take ((k + 1) * 3)) = T1 at HT HTL
      have HTK : Hid (tot (ls.take ((k + 1) * 3)) = T1) := htk
      clear htk
      generalize tot (ls.take (k * 3)) = T0 at HT HL
      clear HA hb
      by_cases hs : m0 + m1 + m2 ≤ L
      · have he : szF L (m0 + m1 + m2) = ((L - (m0 + m1 + m2) : Nat) : Int) := by unfold szF; rw [if_pos hs]; omega
        have hp : ¬ ((L - (m0 + m1 + m2) : Nat) : Int) < 0 := by omega
        rw [he] at HC
        have HL2 : Hid (L - (m0 + m1 + m2) + n + tot (ls.take ((k + 1) * 3)) = 1048576) := by
          show _ = _
          rw [HTK.out, HT.out]
          have := HL.out
          omega
        clear he hs
        generalize L - (m0 + m1 + m2) = L2 at HC hp HL2
        go_wp2_with fail
        refine (HC.out _).mono ?_
        rintro e w1 ⟨rfl, hb1⟩
        have HW2 : Hid (Below w.heap.size w w1) := HW.out.trans (hb1.mono HW.out.size)
        clear hb1 HW z0 z1 z2 HC
        go_wp2
        go_roundw
        case rel => exact ⟨k + 1, L2, rfl, by go_num, hlt, HL2, HW2⟩
        case measure => simp [intOf]; omega
      · have he : szF L (m0 + m1 + m2) = -1 := by unfold szF; rw [if_neg hs]
        have HE : Hid (szF 1048576 (n + tot ls) = -1) := by
          show szF _ _ = _
          unfold szF
          rw [if_neg (by have := HL.out; have := HT.out; have := HTL.out; omega)]
        rw [he] at HC
        clear he hs
        go_wp2_with fail
        refine (HC.out _).mono ?_
        rintro e w1 ⟨rfl, hb1⟩
        have HW2 : Hid (Below w.heap.size w w1) := HW.out.trans (hb1.mono HW.out.size)
        clear hb1 HW z0 z1 z2 HC
        go_wp2
        go_ret
        exact ⟨by rw [HE.out]; rfl, HW2.out⟩
    · have hlt' : ¬ (k : Int) < (n : Int) := by omega
      have hkn : k = n := by omega
      have HE : Hid (szF 1048576 (n + tot ls) = (L : Int)) := by
        have h := HL.out
        rw [hkn, ← hlen, List.take_length] at h
        show szF _ _ = _
        unfold szF
        rw [if_pos (by omega)]
        omega
      clear hkn
      go_wp2
      go_ret
      exact ⟨by rw [HE.out]; rfl, HW.out⟩

end Go.Proofs.Ytjlijflfepffiaa
