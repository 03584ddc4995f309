/-
  Hex on both sides.
  (-DROP-: what the seat lacks is left out.)
-/
import Derived.Test.YthncegemhaofnaaDoorRowsB
import Derived.WalkLawsBesides
import Derived.WalkSpells
import Derived.Deep.RegionHeld3
import Derived.Deep.AppendLies
namespace Go.Proofs.YthncegemhaofnaaDoor
open Go.RowKit

/-- The figure of a number below 16, as a number. -/
def figZ (z : Int) : Int := if z < 10 then 48 + z else 87 + z

def fig (n : Nat) : UInt8 := UInt8.ofNat (if n < 10 then 48 + n else 87 + n)

theorem figZ_eq (n : Nat) (h : n < 16) : figZ (n : Int) = ((fig n).toNat : Int) := by
  unfold figZ fig
  by_cases h9 : n < 10
  · rw [if_pos h9, if_pos (by omega), toNat_of (by omega)]; omega
  · rw [if_neg h9, if_neg (by omega), toNat_of (by omega)]; omega

/-- Two figures for each byte. -/
def hexL : List UInt8 → List UInt8
  | [] => []
  | b :: r => fig (b.toNat / 16) :: fig (b.toNat % 16) :: hexL r

theorem hexL_len (l : List UInt8) : (hexL l).length = 2 * l.length := by
  induction l with
  | nil => rfl
  | cons b r ih => simp only [hexL, List.length_cons, ih]; omega

theorem hexL_snoc (l : List UInt8) (b : UInt8) : hexL (l ++ [b]) = hexL l ++ [fig (b.toNat / 16), fig (b.toNat % 16)] := by
  induction l with
  | nil => rfl
  | cons x r ih => simp only [List.cons_append, hexL, ih]

theorem take_snoc (s : ByteArray) (k : Nat) (h : k < s.size) : s.data.toList.take (k + 1) = s.data.toList.take k ++ [s[k]] := by
  rw [List.take_succ_eq_append_getElem (by simpa using h)]; rfl

theorem take_all (s : ByteArray) (k : Nat) (h : ¬ k < s.size) : s.data.toList.take k = s.data.toList :=
  List.take_of_length_le (by simp; have : s.data.size = s.size := rfl; omega)

theorem hex_len (s : ByteArray) (k : Nat) (h : k ≤ s.size) : (hexL (s.data.toList.take k)).length = 2 * k := by
  rw [hexL_len]; simp; have : s.data.size = s.size := rfl; omega

/-- What the append of two figures leaves. -/
theorem push_hex {w wr w1 W : World} {B : Nat} {v v' : Value} {s : ByteArray} {k : Nat} (hk : k < s.size) (hB : B ≤ W.heap.size) (hbel : Below B w W)
    (hown : wr.ownsRow B 5 1 v (hexL (s.data.toList.take k)).length (bytesV (hexL (s.data.toList.take k))))
    (hown' : w1.ownsRow B 5 1 v' ((hexL (s.data.toList.take k)).length + 2) (bytesV (hexL (s.data.toList.take k)) ++ [Value.int .u8 (figZ ((s[k].toNat : Int) / 16)), Value.int .u8 (figZ ((s[k].toNat : Int) % 16))])) (hgrow : W.grownBy w1 v.ownBlock) :
    w1.ownsRow B 5 1 v' (hexL (s.data.toList.take (k + 1))).length (bytesV (hexL (s.data.toList.take (k + 1)))) ∧ Below B w w1 := by
  have hb := s[k].toNat_lt
  refine ⟨?_, hbel.grown hgrow hB (fun k hk => (hown.lt k hk).1)⟩
  have e1 := figZ_eq (s[k].toNat / 16) (by omega)
  have e2 := figZ_eq (s[k].toNat % 16) (by omega)
  have c1 : ((s[k].toNat / 16 : Nat) : Int) = (s[k].toNat : Int) / 16 := by omega
  have c2 : ((s[k].toNat % 16 : Nat) : Int) = (s[k].toNat : Int) % 16 := by omega
  rw [c1] at e1
  rw [c2] at e2
  rw [take_snoc s k hk, hexL_snoc, bytesV_append, List.length_append]
  rw [e1, e2] at hown'
  exact hown'

theorem at_byte (s : ByteArray) (k : Nat) (h : k < s.size) (w : World) : (Instr.index 9 (.string s) (.int .i64 (k : Int))).run Tryd.prog w = .ok (.int .u8 (s[k].toNat : Int)) w := by
  rw [run_index_string w 9 s .i64 (k : Int) Tryd.underlying9, dif_pos ⟨by omega, by omega⟩]
  simp

theorem wraps (b : UInt8) : IntKind.i64.wrap (b.toNat : Int) = (b.toNat : Int) ∧ IntKind.i64.wrap ((b.toNat : Int) / 16) = (b.toNat : Int) / 16 ∧ IntKind.i64.wrap ((b.toNat : Int) % 16) = (b.toNat : Int) % 16 := by
  have hb := b.toNat_lt
  exact ⟨IntWalk.i64_in _ (by omega), IntWalk.i64_in _ (by omega), IntWalk.i64_in _ (by omega)⟩

theorem rems (b : UInt8) : (b.toNat : Int).tmod 16 = (b.toNat : Int) % 16 := Int.tmod_eq_emod_of_nonneg (by omega)

/-- As 'text_of_row', of no byte too where the row is not nil. -/
theorem text_of_row_some {w : World} {B g cap : Nat} {l : List UInt8} (h : w.ownsRow B 5 1 (.slice (some ⟨g, 0, none⟩) l.length cap) l.length (bytesV l)) :
    (convert 22 9 (.slice (some ⟨g, 0, none⟩) l.length cap)).run Tryd.prog w = .ok (.string ⟨l.toArray⟩) w :=
  run_convert_bytes_back (P := Tryd.prog) w 22 9 5 ⟨g, 0, none⟩ cap l Tryd.underlying22 Tryd.underlying5 Tryd.underlying9 (cells_of_row h)

theorem text_of_row_any {w : World} {B : Nat} {v : Value} {l : List UInt8} (h : w.ownsRow B 5 1 v l.length (bytesV l)) :
    (convert 22 9 v).run Tryd.prog w = .ok (.string ⟨l.toArray⟩) w := by
  rcases h.2 with ⟨rfl, h0⟩ | ⟨g, cap, cur, rfl, hg, hh, hnc, hcp, hcs, htake⟩
  · obtain rfl : l = [] := List.length_eq_zero_iff.1 h0
    exact text_of_nil w
  · exact text_of_row_some h

/-- The append of two bytes, at its place in a statement that draws its order. -/
theorem step_push2 {ops : Array Oper} {o : Oper} {a : Act} {K : Act → World → Prop} {Q : Exit → Act → World → Prop} {E : Prop} (hgd : o.guard = none) (s x : Operand)
    (ho : o.op = .call { callee := .builtin .append, args := #[s, x], argTypes := #[22, 22] }) (base : Nat) (wr : World) (v : Value) (l : List UInt8) (z1 z2 : Int) (hs : a.eval s = v)
    (hown : wr.ownsRow base 5 1 v l.length (bytesV l)) (hx : a.eval x = .slice (some ⟨wr.heap.size, 0, none⟩) 2 2) (hl : l.length ≤ 1000000) (hB : base ≤ wr.heap.size)
    (h : ∀ g cap w', w'.ownsRow base 5 1 (.slice (some ⟨g, 0, none⟩) (l.length + 2) cap) (l.length + 2) (bytesV l ++ [.int .u8 z1, .int .u8 z2]) →
      ((wr.alloc (.cells #[.int .u8 z1, .int .u8 z2] 5)).drew).grownBy w' v.ownBlock → K (a.put o.dst (.slice (some ⟨g, 0, none⟩) (l.length + 2) cap)) w') :
    if Region.wanted o (yielded ops a.tmps) = true then Oper.wp Tryd.prog o a ((wr.alloc (.cells #[.int .u8 z1, .int .u8 z2] 5)).drew) K Q else E := by
  obtain ⟨i0, hi, hz0, hz1, hz2⟩ := info_parts info5
  refine step_append_lies _ hgd s x 22 ho base 5 i0 (.int .u8 0) 1 1 Tryd.underlying22 hi hz0 hz1 hz2 rfl Nat.zero_lt_one v l.length (bytesV l) hs ((hown.alloc _).drew) ⟨wr.heap.size, 0, none⟩ 2 2 [.int .u8 z1, .int .u8 z2] hx rfl
    (World.news_of_block (cs := #[.int .u8 z1, .int .u8 z2]) (t := 5) (fr := (0, 0)) (heap_alloc_new wr _)) (by simp [Value.oneCell']) Nat.zero_lt_two (by unfold maxLen; omega) (by omega) (by simp; omega) (wr.heap.size + 1) (by simp) ?_
  intro g cap w1 h1 h2 _ _
  exact h g cap w1 h1 h2

def tab : ByteArray := ⟨#[48, 49, 50, 51, 52, 53, 54, 55, 56, 57, 97, 98, 99, 100, 101, 102]⟩

theorem tab_at : ∀ n : Fin 16, ((tab[n.val]'(by have := n.isLt; exact this)).toNat : Int) = figZ (n.val : Int) := by decide +kernel

theorem fig_at (z : Int) (h0 : 0 ≤ z) (h1 : z < 16) (w : World) :
    (Instr.index 9 (.string ⟨#[48, 49, 50, 51, 52, 53, 54, 55, 56, 57, 97, 98, 99, 100, 101, 102]⟩) (.int .u8 z)).run Tryd.prog w = .ok (.int .u8 (figZ z)) w := by
  obtain ⟨n, rfl⟩ : ∃ n : Nat, z = n := ⟨z.toNat, by omega⟩
  have hs : (tab.size : Int) = 16 := by decide +kernel
  have h := run_index_string w 9 tab .u8 (n : Int) Tryd.underlying9
  rw [dif_pos ⟨h0, by omega⟩] at h
  refine h.trans ?_
  have := tab_at ⟨n, by omega⟩
  simp only [Int.toNat_natCast]
  rw [← this]
  rfl

theorem wraps8 (b : UInt8) : IntKind.u8.wrap ((b.toNat : Int) / 16) = (b.toNat : Int) / 16 ∧ IntKind.u8.wrap ((b.toNat : Int) % 16) = (b.toNat : Int) % 16 := by
  have hb := b.toNat_lt
  exact ⟨IntWalk.u8_in _ (by omega), IntWalk.u8_in _ (by omega)⟩

set_option maxHeartbeats 1600000 in
set_option maxRecDepth 100000 in
theorem iHex_ok (s : ByteArray) (hs : s.size ≤ 20000) (w : World) :
    Calls Tryd.prog 33 #[.string s] w fun e w' => e = .returned (.tuple #[.string ⟨(hexL s.data.toList).toArray⟩, .bool true]) ∧ Below w.heap.size w w' := by
  have h1 : ¬ (20000 : Int) < (s.size : Int) := by omega
  obtain ⟨i0, hi, hz0, hz1, hz2⟩ := info_parts info5
  obtain ⟨M, hM⟩ : ∃ M, M = madeCells (Value.int .u8 0).cells ((2 * (s.size : Int)).toNat * i0.size) := ⟨_, rfl⟩
  have hMs : M.size = 2 * s.size * 1 := by rw [hM, size_madeCells, hz1]; simp; omega
  have hmk : ∀ W : World, (Instr.makeSlice 22 (.int .i64 0) (.int .i64 (2 * (s.size : Int)))).run Tryd.prog W = .ok (.slice (some ⟨W.heap.size, 0, none⟩) 0 (2 * s.size)) (W.alloc (.cells M 5)) := fun W => by
    have h := run_make (P := Tryd.prog) W 22 5 i0 (.int .u8 0) Tryd.underlying22 hi hz0 .i64 .i64 0 (2 * (s.size : Int)) (by omega) (by omega) (by rw [hz2]; omega) (by omega)
    rw [← hM] at h
    have e : (2 * (s.size : Int)).toNat = 2 * s.size := by omega
    rw [e] at h
    simpa using h
  clear hM
  go_enter Tryd.func33, Tryd.ntmps33
  go_wp2
  go_loopw [4, 5] (fun v i wr => ∃ k : Nat, k ≤ s.size ∧ i = .int .i64 (k : Int) ∧ wr.ownsRow w.heap.size 5 1 v (hexL (s.data.toList.take k)).length (bytesV (hexL (s.data.toList.take k))) ∧ Below w.heap.size w wr) (fun _ i _ => s.size - (intOf i).toNat)
  case atStart =>
    refine ⟨0, Nat.zero_le _, rfl, ?_, ?_⟩
    · exact World.ownsRow_made w M (2 * s.size) (Nat.le_refl _) (by unfold maxLen; omega) hMs
    · exact (Below.refl _ _).alloc (Nat.le_refl _) _
  case round =>
    obtain ⟨k, hk, rfl, hown, hbel⟩ := hrel
    have hl := hex_len s k hk
    have hsz := hbel.size
    clear hmk
    by_cases hlt : k < s.size
    · have hby : (s[k].toNat : Int) ≤ 255 := by have := s[k].toNat_lt; omega
      have hk0 : (0 : Int) ≤ (k : Int) := by omega
      have hk1 : (k : Int) < (s.size : Int) := by omega
      have hat1 := at_byte s k hlt
      have hq1 := fig_at ((s[k].toNat : Int) / 16) (by omega) (by omega)
      have hq2 := fig_at ((s[k].toNat : Int) % 16) (by omega) (by omega)
      obtain ⟨hw2, hw3⟩ := wraps8 s[k]
      have hw4 := rems s[k]
      have hl6 : (hexL (s.data.toList.take k)).length ≤ 1000000 := by omega
      clear hl
      go_wp2_with fail
      go_region_held3 (fun _ => True) (trivial) ((refine step_push2 ?_ (.tmp 19) (.tmp 30) ?_ w.heap.size wr _ _ _ _ ?_ hown ?_ hl6 hsz ?_; rfl; rfl; rfl; rfl; intro gg cap w1 hown1 hgrow))
      all_goals
        have R := push_hex (w := w) hlt (by simp; omega) ((hbel.alloc hsz _).drew) hown hown1 hgrow
        clear hown1 hgrow hown
        go_wp2
        go_roundw
        case rel => exact ⟨k + 1, by omega, by go_num, R.1, R.2⟩
        case measure => simp [intOf]; omega
    · have he := take_all s k hlt
      rw [he] at hown
      have hcv := text_of_row_any hown
      clear hown he
      go_wp2
      go_ret2
      exact ⟨rfl, hbel⟩

end Go.Proofs.YthncegemhaofnaaDoor
