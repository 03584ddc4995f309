/-
  The walk of spec.Hex.
-/
import Derived.Test.YtpienefbgpgdkakHexPure
import Derived.Test.YtpienefbgpgdkakVar
import Derived.Deep.RegionHeld3
import Derived.Deep.AppendLies
namespace Go.Proofs.Ytpienefbgpgdkak
open Go.RowKit

set_option maxRecDepth 100000 in
theorem figure_any (z : Int) (h0 : 0 ≤ z) (h1 : z < 16) (w : World) :
    Calls Try.prog 21 #[.int .i64 z] w fun e w' => e = .returned (.int .u8 (figZ z)) ∧ w = w' := by
  by_cases h : z < 10
  · have e : figZ z = 48 + z := by rw [figZ, if_pos h]
    rw [e]
    clear e
    go_enter Try.func21, Try.ntmps21
    go_wp2
    go_ret
    exact ⟨rfl, rfl⟩
  · have e : figZ z = 87 + z := by rw [figZ, if_neg h]
    rw [e]
    clear e
    go_enter Try.func21, Try.ntmps21
    go_wp2
    go_ret
    exact ⟨by go_num, rfl⟩

theorem at_byte (s : ByteArray) (k : Nat) (h : k < s.size) (w : World) : (Instr.index 9 (.string s) (.int .i64 (k : Int))).run Try.prog w = .ok (.int .u8 (s[k].toNat : Int)) w := by
  rw [run_index_string w 9 s .i64 (k : Int) Try.underlying9, dif_pos ⟨by omega, by omega⟩]
  simp

theorem wraps (b : UInt8) : IntKind.i64.wrap (b.toNat : Int) = (b.toNat : Int) ∧ IntKind.i64.wrap ((b.toNat : Int) / 16) = (b.toNat : Int) / 16 ∧ IntKind.i64.wrap ((b.toNat : Int) % 16) = (b.toNat : Int) % 16 := by
  have hb := b.toNat_lt
  exact ⟨IntWalk.i64_in _ (by omega), IntWalk.i64_in _ (by omega), IntWalk.i64_in _ (by omega)⟩

theorem rems (b : UInt8) : (b.toNat : Int).tmod 16 = (b.toNat : Int) % 16 := Int.tmod_eq_emod_of_nonneg (by omega)

/-- As 'text_of_row', of no byte too where the row is not nil. -/
theorem text_of_row_some {w : World} {B g cap : Nat} {l : List UInt8} (h : w.ownsRow B 5 1 (.slice (some ⟨g, 0, none⟩) l.length cap) l.length (bytesV l)) :
    (convert 34 9 (.slice (some ⟨g, 0, none⟩) l.length cap)).run Try.prog w = .ok (.string ⟨l.toArray⟩) w :=
  run_convert_bytes_back (P := Try.prog) w 34 9 5 ⟨g, 0, none⟩ cap l Try.underlying34 Try.underlying5 Try.underlying9 (cells_of_row h)

theorem text_of_nil (w : World) : (convert 34 9 (.slice none 0 0)).run Try.prog w = .ok (.string ⟨#[]⟩) w := by
  rw [run_convert_bytes_string w 34 9 5 none 0 0 Try.underlying34 Try.underlying5 Try.underlying9]
  rfl

theorem text_of_row_any {w : World} {B : Nat} {v : Value} {l : List UInt8} (h : w.ownsRow B 5 1 v l.length (bytesV l)) :
    (convert 34 9 v).run Try.prog w = .ok (.string ⟨l.toArray⟩) w := by
  rcases h.2 with ⟨rfl, h0⟩ | ⟨g, cap, cur, rfl, hg, hh, hnc, hcp, hcs, htake⟩
  · obtain rfl : l = [] := List.length_eq_zero_iff.1 h0
    exact text_of_nil w
  · exact text_of_row_some h

/-- The append of two bytes, at its place in a statement that draws its order. -/
theorem step_push2 {ops : Array Oper} {o : Oper} {a : Act} {K : Act → World → Prop} {Q : Exit → Act → World → Prop} {E : Prop} (hgd : o.guard = none) (s x : Operand)
    (ho : o.op = .call { callee := .builtin .append, args := #[s, x], argTypes := #[34, 34] }) (base : Nat) (wr : World) (v : Value) (l : List UInt8) (z1 z2 : Int) (hs : a.eval s = v)
    (hown : wr.ownsRow base 5 1 v l.length (bytesV l)) (hx : a.eval x = .slice (some ⟨wr.heap.size, 0, none⟩) 2 2) (hl : l.length ≤ 1000000) (hB : base ≤ wr.heap.size)
    (h : ∀ g cap w', w'.ownsRow base 5 1 (.slice (some ⟨g, 0, none⟩) (l.length + 2) cap) (l.length + 2) (bytesV l ++ [.int .u8 z1, .int .u8 z2]) →
      ((wr.alloc (.cells #[.int .u8 z1, .int .u8 z2] 5)).drew).grownBy w' v.ownBlock → K (a.put o.dst (.slice (some ⟨g, 0, none⟩) (l.length + 2) cap)) w') :
    if Region.wanted o (yielded ops a.tmps) = true then Oper.wp Try.prog o a ((wr.alloc (.cells #[.int .u8 z1, .int .u8 z2] 5)).drew) K Q else E := by
  obtain ⟨i0, hi, hz0, hz1, hz2⟩ := info_parts info5
  refine step_append_lies _ hgd s x 34 ho base 5 i0 (.int .u8 0) 1 1 Try.underlying34 hi hz0 hz1 hz2 rfl Nat.zero_lt_one v l.length (bytesV l) hs ((hown.alloc _).drew) ⟨wr.heap.size, 0, none⟩ 2 2 [.int .u8 z1, .int .u8 z2] hx rfl
    (World.news_of_block (cs := #[.int .u8 z1, .int .u8 z2]) (t := 5) (fr := (0, 0)) (heap_alloc_new wr _)) (by simp [Value.oneCell']) Nat.zero_lt_two (by unfold maxLen; omega) (by omega) (by simp; omega) (wr.heap.size + 1) (by simp) ?_
  intro g cap w1 h1 h2 _ _
  exact h g cap w1 h1 h2

set_option maxHeartbeats 1600000 in
set_option maxRecDepth 100000 in
theorem sHex_ok (s : ByteArray) (hs : s.size ≤ 20000) (w : World) :
    Calls Try.prog 16 #[.string s] w fun e w' => e = .returned (.tuple #[.string ⟨(hexL s.data.toList).toArray⟩, .bool true]) ∧ Below w.heap.size w w' := by
  have h1 : ¬ (20000 : Int) < (s.size : Int) := by omega
  obtain ⟨i0, hi, hz0, hz1, hz2⟩ := info_parts info5
  go_enter Try.func16, Try.ntmps16
  go_wp2
  go_loopw [4, 5] (fun v i wr => ∃ k : Nat, k ≤ s.size ∧ i = .int .i64 (k : Int) ∧ wr.ownsRow w.heap.size 5 1 v (hexL (s.data.toList.take k)).length (bytesV (hexL (s.data.toList.take k))) ∧ Below w.heap.size w wr) (fun _ i _ => s.size - (intOf i).toNat)
  case atStart =>
    refine ⟨0, Nat.zero_le _, rfl, ?_, ?_⟩
    · exact World.ownsRow_lit _ _ _ (Nat.le_refl _) (by simp [maxLen]) (by simp)
    · exact (Below.refl _ _).alloc (Nat.le_refl _) _
  case round =>
    obtain ⟨k, hk, rfl, hown, hbel⟩ := hrel
    have hl := hex_len s k hk
    have hsz := hbel.size
    by_cases hlt : k < s.size
    · have hby : (s[k].toNat : Int) ≤ 255 := by have := s[k].toNat_lt; omega
      have hk0 : (0 : Int) ≤ (k : Int) := by omega
      have hk1 : (k : Int) < (s.size : Int) := by omega
      have hat1 := at_byte s k hlt
      obtain ⟨hw1, hw2, hw3⟩ := wraps s[k]
      have hw4 := rems s[k]
      have hl6 : (hexL (s.data.toList.take k)).length ≤ 1000000 := by omega
      clear hl
      go_wp2_with fail
      go_region_held3 (fun _ => True) (trivial) (first | (go_at_call 21; refine (figure_any _ ?_ ?_ _).mono ?_; omega; omega; rintro e w1 ⟨rfl, rfl⟩) | (refine step_push2 ?_ (.tmp 16) (.tmp 29) ?_ w.heap.size wr _ _ _ _ ?_ hown ?_ hl6 hsz ?_; rfl; rfl; rfl; rfl; intro gg cap w1 hown1 hgrow))
      all_goals
        have R := push_hex (w := w) hlt (by simp; omega) ((hbel.alloc hsz _).drew) hown hown1 hgrow
        clear hown1 hgrow hown
        go_wp2
        go_roundw
        case rel => exact ⟨k + 1, by omega, by go_num, R.1, R.2⟩
        case measure => simp [intOf]; omega
    · have he := take_all s k hlt
      rw [he] at hown
      have hcv := text_of_row_any hown
      clear hown he
      go_wp2
      go_ret2
      exact ⟨rfl, hbel⟩

end Go.Proofs.Ytpienefbgpgdkak
