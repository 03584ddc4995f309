/-
  Contracts of chapter 1, carried from the seats of its exact laws: ImplA.
-/
import Derived.Test.YtpienefbgpgdkaaDoorVarPure
import Derived.Test.YtpienefbgpgdkaaDoorDraw2
import Derived.Test.YtpienefbgpgdkaaDoorShelf
import Derived.Deep.RegionHeld3
import Derived.Deep.AppendLies
namespace Go.Proofs.YtpienefbgpgdkaaDoor
open Go.RowKit Go.Lib

set_option maxHeartbeats 800000 in
set_option maxRecDepth 100000 in
theorem iVarText_ok (n : Nat) (hn : n ≤ 1000000000) (w : World) :
    Calls Tryd.prog 6 #[.int .i64 (n : Int)] w fun e w' => e = .returned (.tuple #[.string ⟨(varB n).toArray⟩, .bool true]) ∧ Below w.heap.size w w' := by
  have hlen := varB_len n
  obtain ⟨i0, hi, hz0, hz1, hz2⟩ := info_parts info5
  go_enter Tryd.func6, Tryd.ntmps6
  go_wp2
  go_loopw [0, 4] (fun x v wr => ∃ (m : Nat) (pre : List UInt8), x = .int .i64 (m : Int) ∧ m ≤ n ∧ Hid (varB n = pre ++ varB m) ∧ wr.ownsRow w.heap.size 5 1 v pre.length (bytesV pre) ∧ Below w.heap.size w wr) (fun x _ _ => (RowKit.intOf x).toNat)
  case atStart => exact ⟨n, [], rfl, Nat.le_refl _, (show varB n = [] ++ varB n from rfl), World.ownsRow_nil _ _ _ _, Below.refl _ _⟩
  case round =>
    obtain ⟨m, pre, rfl, hm, hpre, hown, hbel⟩ := hrel
    have hpl : pre.length ≤ n + 1 := by have := congrArg List.length hpre.out; simp at this; omega
    have hsz := hbel.size
    by_cases h7 : 127 < m
    · go_wp2_with (at_builtin; refine wpList_append_own _ rfl _ _ 22 rfl w.heap.size 5 i0 (.int .u8 0) 1 1 Tryd.underlying22 hi hz0 hz1 hz2 rfl (by decide) _ _ _ rfl (hown.alloc _) ⟨wr.heap.size, 0, none⟩ 1 1 [.int .u8 ((m : Int) % 128 + 128)] rfl rfl ?c1 ?c2 ?c3 ?c4 ?c5 ?_)
      case c1 => exact cell_one_new _ _ _
      case c2 => intro u hu; simp at hu; subst hu; rfl
      case c3 => unfold maxLen; omega
      case c4 => omega
      case c5 => simp; omega
      intro v' w1 hown' hgrow _
      have R := push_byte (k := m % 128 + 128) (by omega) (by omega) (room_for hsz _) (hbel.alloc hsz _) hown hown' hgrow
      clear hown' hgrow hown
      go_wp2
      go_roundw
      case rel => exact ⟨m / 128, pre ++ [UInt8.ofNat (m % 128 + 128)], by go_num, by omega, varB_step hpre.out h7, R.1, R.2⟩
      case measure => simp [RowKit.intOf]; omega
    · go_wp2_with (at_builtin; refine wpList_append_own _ rfl _ _ 22 rfl w.heap.size 5 i0 (.int .u8 0) 1 1 Tryd.underlying22 hi hz0 hz1 hz2 rfl (by decide) _ _ _ rfl (hown.alloc _) ⟨wr.heap.size, 0, none⟩ 1 1 [.int .u8 (m : Int)] rfl rfl ?d1 ?d2 ?d3 ?d4 ?d5 ?_)
      case d1 => exact cell_one_new _ _ _
      case d2 => intro u hu; simp at hu; subst hu; rfl
      case d3 => unfold maxLen; omega
      case d4 => omega
      case d5 => simp; omega
      intro v' w1 hown' hgrow _
      have R := push_byte (k := m) (by omega) rfl (room_for hsz _) (hbel.alloc hsz _) hown hown' hgrow
      have hcv := text_of_row R.1
      have hb := R.2
      have he : pre ++ [UInt8.ofNat m] = varB n := varB_last hpre.out h7
      rw [he] at hcv
      clear hown' hgrow hown R he
      go_wp2
      go_ret2
      exact ⟨rfl, hb⟩

set_option maxRecDepth 100000 in
theorem iVarText_no (n : Int) (hn : n < 0 ∨ 1000000000 < n) (w : World) :
    Calls Tryd.prog 6 #[.int .i64 n] w fun e w' => e = .returned (.tuple #[.string ⟨#[]⟩, .bool false]) ∧ w = w' := by
  rcases hn with h | h
  · go_enter Tryd.func6, Tryd.ntmps6
    go_wp2
    go_ret2
    exact ⟨rfl, rfl⟩
  · have h0 : ¬ n < 0 := by omega
    go_enter Tryd.func6, Tryd.ntmps6
    go_wp2
    go_ret2
    exact ⟨rfl, rfl⟩

set_option maxRecDepth 100000 in
theorem iReadVar_no (s : ByteArray) (a : Int) (hs : s.size ≤ maxLen) (ha : a < 0 ∨ (s.size : Int) < a) (w : World) :
    Calls Tryd.prog 7 #[.string s, .int .i64 a] w fun e w' => e = .returned (ret3 none) ∧ w = w' := by
  unfold maxLen at hs
  rcases ha with h | h
  · go_enter Tryd.func7, Tryd.ntmps7
    go_wp2
    go_ret3
    exact ⟨rfl, rfl⟩
  · have h0 : ¬ a < 0 := by omega
    go_enter Tryd.func7, Tryd.ntmps7
    go_wp2
    go_ret3
    exact ⟨rfl, rfl⟩

set_option maxHeartbeats 1600000 in
set_option maxRecDepth 100000 in
theorem iReadVar_ok (s : ByteArray) (a : Nat) (hs : s.size ≤ 1048576) (ha : a ≤ s.size) (w : World) :
    Calls Tryd.prog 7 #[.string s, .int .i64 (a : Int)] w fun e w' => e = .returned (ret3 (rdAt s a)) ∧ w = w' := by
  have h0 : ¬ (a : Int) < 0 := by omega
  have h1 : ¬ (s.size : Int) < (a : Int) := by omega
  go_enter Tryd.func7, Tryd.ntmps7
  go_wp2
  go_loop [7, 8, 9] (fun x c i => ∃ n sc j : Nat, x = .int .i64 (n : Int) ∧ c = .int .i64 (sc : Int) ∧ i = .int .i64 (j : Int) ∧ RdInv s a j n sc) (fun _ _ i => s.size - (RowKit.intOf i).toNat)
  case atStart => exact ⟨0, 1, a, rfl, rfl, rfl, RdInv.start ha⟩
  case round =>
    obtain ⟨n, sc, j, rfl, rfl, rfl, hinv⟩ := hrel
    obtain ⟨c0, c1, c2, c3⟩ := hinv.weight
    have l1 := hinv.lo
    have l2 := hinv.hi
    have l3 := hinv.five
    have l4 := hinv.small
    by_cases hi : j < s.size
    · by_cases h5 : j < a + 5
      · have c4 := c2 h5
        clear c2 c3
        have hp := hinv.prod (s[j].toNat % 128) (by omega)
        have hp1 : (s[j].toNat : Int) % 128 * (sc : Int) ≤ 127 * (sc : Int) := by exact_mod_cast hp.1
        have hp0 : (0 : Int) ≤ (s[j].toNat : Int) % 128 * (sc : Int) := by exact_mod_cast Nat.zero_le (s[j].toNat % 128 * sc)
        clear hp
        have hsc : (sc : Int) ≤ 1000000000 := by omega
        have hby : (s[j].toNat : Int) ≤ 255 := by have := s[j].toNat_lt; omega
        by_cases hb : s[j].toNat < 128
        · have hb' : ¬ (127 : Int) < (s[j].toNat : Int) := by omega
          by_cases hx : 1000000000 < n + s[j].toNat % 128 * sc
          · have hx' : (1000000000 : Int) < (n : Int) + (s[j].toNat : Int) % 128 * (sc : Int) := big_cast hx
            go_wp2
            go_ret3
            exact ⟨by rw [hinv.bad hi h5 hb (.inl hx)]; rfl, rfl⟩
          · have hx' : ¬ (1000000000 : Int) < (n : Int) + (s[j].toNat : Int) % 128 * (sc : Int) := big_cast' hx
            by_cases hz : s[j].toNat = 0
            · have hz' : ((s[j].toNat : Int) == 0) = true := by simp; omega
              have HZ : Hid (s[j].toNat = 0) := hz
              clear hz
              by_cases hj : a < j
              · have hj' : (a : Int) < (j : Int) := by omega
                go_wp2
                go_ret3
                exact ⟨by rw [hinv.bad hi h5 hb (.inr ⟨HZ.out, hj⟩)]; rfl, rfl⟩
              · have hj' : ¬ (a : Int) < (j : Int) := by omega
                go_wp2
                go_ret3
                exact ⟨by rw [hinv.good hi h5 hb hx (by omega)]; exact ret3_some, rfl⟩
            · have hz' : ((s[j].toNat : Int) == 0) = false := by simp; omega
              go_wp2
              go_ret3
              exact ⟨by rw [hinv.good hi h5 hb hx (by omega)]; exact ret3_some, rfl⟩
        · have hb' : (127 : Int) < (s[j].toNat : Int) := by omega
          have hn := hinv.next hi h5 hb
          go_wp2
          go_round
          case rel => exact ⟨_, _, _, by go_num, by go_num, by go_num, hn⟩
          case measure => simp [RowKit.intOf]; omega
      · have hsc := c3 h5
        have hsc' : ¬ (sc : Int) ≤ 1000000000 := by omega
        go_wp2
        go_ret3
        exact ⟨by rw [hinv.out (by omega)]; rfl, rfl⟩
    · go_wp2
      go_ret3
      exact ⟨by rw [hinv.out (by omega)]; rfl, rfl⟩

theorem cut_text (s : ByteArray) (a b : Nat) (h : a ≤ b) (hb : b ≤ s.size) (z : Int) (hz : z = (b : Int)) (wx : World) :
    (Instr.slice 9 (.string s) (some (.int .i64 (a : Int))) (some (.int .i64 z)) none).run Tryd.prog wx = .ok (.string (s.extract a b)) wx := by
  subst hz
  have := run_slice_string (P := Tryd.prog) wx 9 s .i64 .i64 (a : Int) (b : Int) Tryd.underlying9 (by omega) (by omega) (by omega)
  simpa using this

theorem iReadVar_any (s : ByteArray) (a : Int) (hs : s.size ≤ 1048576) (w : World) :
    Calls Tryd.prog 7 #[.string s, .int .i64 a] w fun e w' => e = .returned (ret3 (if 0 ≤ a ∧ a ≤ s.size then rdAt s a.toNat else none)) ∧ Below w.heap.size w w' := by
  by_cases h : 0 ≤ a ∧ a ≤ s.size
  · obtain ⟨k, rfl⟩ : ∃ k : Nat, a = k := ⟨a.toNat, by omega⟩
    rw [if_pos h]
    exact (iReadVar_ok s k hs (by omega) w).mono fun e w' ⟨h1, h2⟩ => ⟨h1, by subst h2; exact Below.refl _ _⟩
  · rw [if_neg h]
    exact (iReadVar_no s a (by unfold maxLen; omega) (by omega) w).mono fun e w' ⟨h1, h2⟩ => ⟨h1, by subst h2; exact Below.refl _ _⟩

theorem ret3_form (o : Option (Nat × Nat)) : ∃ (x y : Int) (b : Bool), ret3 o = .tuple #[.int .i64 x, .int .i64 y, .bool b] := by
  cases o with
  | none => exact ⟨_, _, _, rfl⟩
  | some p => exact ⟨_, _, _, rfl⟩

theorem sizeVar (n : Nat) : (⟨(varB n).toArray⟩ : ByteArray).size = (varB n).length := by simp [ByteArray.size]

theorem joins (n : Nat) (s : ByteArray) (hn : n ≤ 20000) (hs : s.size ≤ 20000) (w : World) :
    (Op.stringOp .add ⟨(varB n).toArray⟩ s).run Tryd.prog w = .ok (.string (⟨(varB n).toArray⟩ ++ s)) w :=
  run_string_add_sum (P := Tryd.prog) w _ _ (by rw [sizeVar]; have := varB_len n; omega)

set_option maxRecDepth 100000 in
theorem iShort_ok (s : ByteArray) (hs : s.size ≤ 20000) (w : World) :
    Calls Tryd.prog 11 #[.string s] w fun e w' => e = .returned (.tuple #[.string (⟨(varB s.size).toArray⟩ ++ s), .bool true]) ∧ Below w.heap.size w w' := by
  have h1 : ¬ (20000 : Int) < (s.size : Int) := by omega
  have hj := joins s.size s hs hs
  go_enter Tryd.func11, Tryd.ntmps11
  go_wp2_with (go_at_call 6; refine (iVarText_ok s.size (by omega) _).mono ?_; rintro e w1 ⟨rfl, hb⟩)
  go_ret2
  exact ⟨rfl, hb⟩

theorem rd_bound (f : Nat) : ∀ (l : List UInt8) (k n m j : Nat), rd f l k n = some (m, j) → j ≤ k + l.length ∧ m ≤ 1000000000 := by
  induction f with
  | zero => intro l k n m j h; simp [rd] at h
  | succ f ih =>
    intro l k n m j h
    match l, h with
    | [], h => simp [rd] at h
    | b :: r, h =>
      rw [rd] at h
      by_cases hb : b.toNat < 128
      · rw [if_pos hb] at h
        by_cases hc : 1000000000 < n + b.toNat % 128 * 128 ^ k ∨ (b.toNat = 0 ∧ 0 < k)
        · rw [if_pos hc] at h; cases h
        · rw [if_neg hc] at h
          obtain ⟨rfl, rfl⟩ := Prod.mk.inj (Option.some.inj h)
          simp only [List.length_cons]
          refine ⟨by omega, ?_⟩
          have := fun x => hc (.inl x)
          omega
      · rw [if_neg hb] at h
        have := ih r (k + 1) _ m j h
        simp only [List.length_cons]
        omega

theorem rdAt_bound {s : ByteArray} {a n j : Nat} (ha : a ≤ s.size) (h : rdAt s a = some (n, j)) : j ≤ s.size ∧ n ≤ 1000000000 := by
  unfold rdAt at h
  cases hr : rd 5 (s.data.toList.drop a) 0 0 with
  | none => rw [hr] at h; cases h
  | some x =>
    rw [hr] at h
    obtain ⟨m, k⟩ := x
    simp at h
    obtain ⟨rfl, rfl⟩ := h
    have := rd_bound 5 _ _ _ _ _ hr
    simp at this
    have e : s.size = s.data.size := rfl
    omega

/-- What ReadShort answers behind what ReadVar answered. -/
def shortOf (s : ByteArray) : Option (Nat × Nat) → Value
  | none => .tuple #[.string ⟨#[]⟩, .int .i64 0, .bool false]
  | some (n, j) => if n ≤ 20000 ∧ n ≤ s.size - j then .tuple #[.string (s.extract j (j + n)), .int .i64 ((j + n : Nat) : Int), .bool true] else .tuple #[.string ⟨#[]⟩, .int .i64 0, .bool false]

def rdAny (s : ByteArray) (a : Int) : Option (Nat × Nat) := if 0 ≤ a ∧ a ≤ s.size then rdAt s a.toNat else none

theorem rdAny_bound {s : ByteArray} {a : Int} {n j : Nat} (h : rdAny s a = some (n, j)) : j ≤ s.size ∧ n ≤ 1000000000 := by
  unfold rdAny at h
  by_cases ha : 0 ≤ a ∧ a ≤ s.size
  · rw [if_pos ha] at h; exact rdAt_bound (by omega) h
  · rw [if_neg ha] at h; cases h

set_option maxRecDepth 100000 in
theorem clone_any (s : ByteArray) (hs : s.size ≤ 281474976710656) (w : World) :
    Calls Tryd.prog 23 #[.string s] w fun e w' => e = .returned (.string s) ∧ Below w.heap.size w w' := by
  go_enter Tryd.func23, Tryd.ntmps23
  go_wp2_with (go_at_call 27; refine (Tryd.stringslite_Clone s _ hs).mono ?_; rintro e w1 ⟨rfl, hb⟩)
  go_ret
  exact ⟨rfl, hb⟩

set_option maxHeartbeats 800000 in
set_option maxRecDepth 100000 in
theorem iReadShort_any (s : ByteArray) (a : Int) (hs : s.size ≤ 1048576) (w : World) :
    Calls Tryd.prog 12 #[.string s, .int .i64 a] w fun e w' => e = .returned (shortOf s (rdAny s a)) ∧ Below w.heap.size w w' := by
  have hi0 : ∀ w : World, Calls Tryd.prog 7 #[.string s, .int .i64 a] w fun e w' => e = .returned (ret3 (rdAny s a)) ∧ Below w.heap.size w w' := fun w => iReadVar_any s a hs w
  rcases ho : rdAny s a with _ | ⟨n, j⟩
  · rw [ho] at hi0
    have HI : Hid (∀ w : World, Calls Tryd.prog 7 #[.string s, .int .i64 a] w fun e w' => e = .returned (.tuple #[.int .i64 0, .int .i64 0, .bool false]) ∧ Below w.heap.size w w') := hi0
    clear hi0 ho
    go_enter Tryd.func12, Tryd.ntmps12
    go_wp2_with (go_at_call 7; refine (HI.out _).mono ?_; rintro e w1 ⟨rfl, hb1⟩)
    go_ret3
    exact ⟨rfl, hb1⟩
  · obtain ⟨hj, hn⟩ := rdAny_bound ho
    rw [ho] at hi0
    have HI : Hid (∀ w : World, Calls Tryd.prog 7 #[.string s, .int .i64 a] w fun e w' => e = .returned (.tuple #[.int .i64 (n : Int), .int .i64 (j : Int), .bool true]) ∧ Below w.heap.size w w') := hi0
    clear hi0 ho
    by_cases h1 : n ≤ 20000
    · have h1' : ¬ (20000 : Int) < (n : Int) := by omega
      by_cases h2 : n ≤ s.size - j
      · have h2' : ¬ (s.size : Int) - (j : Int) < (n : Int) := by omega
        have hsl := cut_text s j (j + n) (by omega) (by omega) ((j : Int) + (n : Int)) (by omega)
        have e : shortOf s (some (n, j)) = .tuple #[.string (s.extract j (j + n)), .int .i64 ((j : Int) + (n : Int)), .bool true] := by
          rw [shortOf, if_pos ⟨h1, h2⟩]; simp
        rw [e]
        clear e
        have hsz : (s.extract j (j + n)).size ≤ 281474976710656 := by rw [ByteArray.size_extract]; omega
        go_enter Tryd.func12, Tryd.ntmps12
        go_wp2_with (first | (go_at_call 7; refine (HI.out _).mono ?_; rintro e w1 ⟨rfl, hb1⟩) | (go_at_call 23; refine (clone_any _ hsz _).mono ?_; rintro e w2 ⟨rfl, hb2⟩))
        go_ret3
        exact ⟨rfl, hb1.trans (hb2.mono hb1.size)⟩
      · have h2' : (s.size : Int) - (j : Int) < (n : Int) := by omega
        have e : shortOf s (some (n, j)) = .tuple #[.string ⟨#[]⟩, .int .i64 0, .bool false] := by
          rw [shortOf, if_neg (by omega)]
        rw [e]
        clear e
        go_enter Tryd.func12, Tryd.ntmps12
        go_wp2_with (go_at_call 7; refine (HI.out _).mono ?_; rintro e w1 ⟨rfl, hb1⟩)
        go_ret3
        exact ⟨rfl, hb1⟩
    · have h1' : (20000 : Int) < (n : Int) := by omega
      have e : shortOf s (some (n, j)) = .tuple #[.string ⟨#[]⟩, .int .i64 0, .bool false] := by
        rw [shortOf, if_neg (by omega)]
      rw [e]
      clear e
      go_enter Tryd.func12, Tryd.ntmps12
      go_wp2_with (go_at_call 7; refine (HI.out _).mono ?_; rintro e w1 ⟨rfl, hb1⟩)
      go_ret3
      exact ⟨rfl, hb1⟩

theorem at_byte (s : ByteArray) (k : Nat) (h : k < s.size) (w : World) : (Instr.index 9 (.string s) (.int .i64 (k : Int))).run Tryd.prog w = .ok (.int .u8 (s[k].toNat : Int)) w := by
  rw [run_index_string w 9 s .i64 (k : Int) Tryd.underlying9, dif_pos ⟨by omega, by omega⟩]
  simp

theorem rems (b : UInt8) : (b.toNat : Int).tmod 16 = (b.toNat : Int) % 16 := Int.tmod_eq_emod_of_nonneg (by omega)

/-- The append of two bytes, at its place in a statement that draws its order. -/
theorem step_push2 {ops : Array Oper} {o : Oper} {a : Act} {K : Act → World → Prop} {Q : Exit → Act → World → Prop} {E : Prop} (hgd : o.guard = none) (s x : Operand)
    (ho : o.op = .call { callee := .builtin .append, args := #[s, x], argTypes := #[22, 22] }) (base : Nat) (wr : World) (v : Value) (l : List UInt8) (z1 z2 : Int) (hs : a.eval s = v)
    (hown : wr.ownsRow base 5 1 v l.length (bytesV l)) (hx : a.eval x = .slice (some ⟨wr.heap.size, 0, none⟩) 2 2) (hl : l.length ≤ 1000000) (hB : base ≤ wr.heap.size)
    (h : ∀ g cap w', w'.ownsRow base 5 1 (.slice (some ⟨g, 0, none⟩) (l.length + 2) cap) (l.length + 2) (bytesV l ++ [.int .u8 z1, .int .u8 z2]) →
      ((wr.alloc (.cells #[.int .u8 z1, .int .u8 z2] 5)).drew).grownBy w' v.ownBlock → K (a.put o.dst (.slice (some ⟨g, 0, none⟩) (l.length + 2) cap)) w') :
    if Region.wanted o (yielded ops a.tmps) = true then Oper.wp Tryd.prog o a ((wr.alloc (.cells #[.int .u8 z1, .int .u8 z2] 5)).drew) K Q else E := by
  obtain ⟨i0, hi, hz0, hz1, hz2⟩ := info_parts info5
  refine step_append_lies _ hgd s x 22 ho base 5 i0 (.int .u8 0) 1 1 Tryd.underlying22 hi hz0 hz1 hz2 rfl Nat.zero_lt_one v l.length (bytesV l) hs ((hown.alloc _).drew) ⟨wr.heap.size, 0, none⟩ 2 2 [.int .u8 z1, .int .u8 z2] hx rfl
    (World.news_of_block (cs := #[.int .u8 z1, .int .u8 z2]) (t := 5) (fr := (0, 0)) (heap_alloc_new wr _)) (by simp [Value.oneCell']) Nat.zero_lt_two (by unfold maxLen; omega) (by omega) (by simp; omega) (wr.heap.size + 1) (by simp) ?_
  intro g cap w1 h1 h2 _ _
  exact h g cap w1 h1 h2

def tab : ByteArray := ⟨#[48, 49, 50, 51, 52, 53, 54, 55, 56, 57, 97, 98, 99, 100, 101, 102]⟩

theorem tab_at : ∀ n : Fin 16, ((tab[n.val]'(by have := n.isLt; exact this)).toNat : Int) = figZ (n.val : Int) := by decide +kernel

theorem fig_at (z : Int) (h0 : 0 ≤ z) (h1 : z < 16) (w : World) :
    (Instr.index 9 (.string ⟨#[48, 49, 50, 51, 52, 53, 54, 55, 56, 57, 97, 98, 99, 100, 101, 102]⟩) (.int .u8 z)).run Tryd.prog w = .ok (.int .u8 (figZ z)) w := by
  obtain ⟨n, rfl⟩ : ∃ n : Nat, z = n := ⟨z.toNat, by omega⟩
  have hs : (tab.size : Int) = 16 := by decide +kernel
  have h := run_index_string w 9 tab .u8 (n : Int) Tryd.underlying9
  rw [dif_pos ⟨h0, by omega⟩] at h
  refine h.trans ?_
  have := tab_at ⟨n, by omega⟩
  simp only [Int.toNat_natCast]
  rw [← this]
  rfl

theorem wraps8 (b : UInt8) : IntKind.u8.wrap ((b.toNat : Int) / 16) = (b.toNat : Int) / 16 ∧ IntKind.u8.wrap ((b.toNat : Int) % 16) = (b.toNat : Int) % 16 := by
  have hb := b.toNat_lt
  exact ⟨IntWalk.u8_in _ (by omega), IntWalk.u8_in _ (by omega)⟩

set_option maxHeartbeats 1600000 in
set_option maxRecDepth 100000 in
theorem iHex_ok (s : ByteArray) (hs : s.size ≤ 20000) (w : World) :
    Calls Tryd.prog 13 #[.string s] w fun e w' => e = .returned (.tuple #[.string ⟨(hexL s.data.toList).toArray⟩, .bool true]) ∧ Below w.heap.size w w' := by
  have h1 : ¬ (20000 : Int) < (s.size : Int) := by omega
  obtain ⟨i0, hi, hz0, hz1, hz2⟩ := info_parts info5
  obtain ⟨M, hM⟩ : ∃ M, M = madeCells (Value.int .u8 0).cells ((2 * (s.size : Int)).toNat * i0.size) := ⟨_, rfl⟩
  have hMs : M.size = 2 * s.size * 1 := by rw [hM, size_madeCells, hz1]; simp; omega
  have hmk : ∀ W : World, (Instr.makeSlice 22 (.int .i64 0) (.int .i64 (2 * (s.size : Int)))).run Tryd.prog W = .ok (.slice (some ⟨W.heap.size, 0, none⟩) 0 (2 * s.size)) (W.alloc (.cells M 5)) := fun W => by
    have h := run_make (P := Tryd.prog) W 22 5 i0 (.int .u8 0) Tryd.underlying22 hi hz0 .i64 .i64 0 (2 * (s.size : Int)) (by omega) (by omega) (by rw [hz2]; omega) (by omega)
    rw [← hM] at h
    have e : (2 * (s.size : Int)).toNat = 2 * s.size := by omega
    rw [e] at h
    simpa using h
  clear hM
  go_enter Tryd.func13, Tryd.ntmps13
  go_wp2
  go_loopw [4, 5] (fun v i wr => ∃ k : Nat, k ≤ s.size ∧ i = .int .i64 (k : Int) ∧ wr.ownsRow w.heap.size 5 1 v (hexL (s.data.toList.take k)).length (bytesV (hexL (s.data.toList.take k))) ∧ Below w.heap.size w wr) (fun _ i _ => s.size - (RowKit.intOf i).toNat)
  case atStart =>
    refine ⟨0, Nat.zero_le _, rfl, ?_, ?_⟩
    · exact World.ownsRow_made w M (2 * s.size) (Nat.le_refl _) (by unfold maxLen; omega) hMs
    · exact (Below.refl _ _).alloc (Nat.le_refl _) _
  case round =>
    obtain ⟨k, hk, rfl, hown, hbel⟩ := hrel
    have hl := hex_len s k hk
    have hsz := hbel.size
    clear hmk
    by_cases hlt : k < s.size
    · have hby : (s[k].toNat : Int) ≤ 255 := by have := s[k].toNat_lt; omega
      have hk0 : (0 : Int) ≤ (k : Int) := by omega
      have hk1 : (k : Int) < (s.size : Int) := by omega
      have hat1 := at_byte s k hlt
      have hq1 := fig_at ((s[k].toNat : Int) / 16) (by omega) (by omega)
      have hq2 := fig_at ((s[k].toNat : Int) % 16) (by omega) (by omega)
      obtain ⟨hw2, hw3⟩ := wraps8 s[k]
      have hw4 := rems s[k]
      have hl6 : (hexL (s.data.toList.take k)).length ≤ 1000000 := by omega
      clear hl
      go_wp2_with fail
      go_region_held3 (fun _ => True) (trivial) ((refine step_push2 ?_ (.tmp 19) (.tmp 30) ?_ w.heap.size wr _ _ _ _ ?_ hown ?_ hl6 hsz ?_; rfl; rfl; rfl; rfl; intro gg cap w1 hown1 hgrow))
      all_goals
        have R := push_hex (w := w) hlt (by simp; omega) ((hbel.alloc hsz _).drew) hown hown1 hgrow
        clear hown1 hgrow hown
        go_wp2
        go_roundw
        case rel => exact ⟨k + 1, by omega, by go_num, R.1, R.2⟩
        case measure => simp [RowKit.intOf]; omega
    · have he := take_all s k hlt
      rw [he] at hown
      have hcv := text_of_row hown
      clear hown he
      go_wp2
      go_ret2
      exact ⟨rfl, hbel⟩


end Go.Proofs.YtpienefbgpgdkaaDoor
