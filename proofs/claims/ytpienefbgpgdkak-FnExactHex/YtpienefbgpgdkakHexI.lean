/-
  The walk of impl.Hex.
-/
import Derived.Test.YtpienefbgpgdkakHexS
namespace Go.Proofs.Ytpienefbgpgdkak
open Go.RowKit

def tab : ByteArray := ⟨#[48, 49, 50, 51, 52, 53, 54, 55, 56, 57, 97, 98, 99, 100, 101, 102]⟩

theorem tab_at : ∀ n : Fin 16, ((tab[n.val]'(by have := n.isLt; exact this)).toNat : Int) = figZ (n.val : Int) := by decide +kernel

theorem fig_at (z : Int) (h0 : 0 ≤ z) (h1 : z < 16) (w : World) :
    (Instr.index 9 (.string ⟨#[48, 49, 50, 51, 52, 53, 54, 55, 56, 57, 97, 98, 99, 100, 101, 102]⟩) (.int .u8 z)).run Try.prog w = .ok (.int .u8 (figZ z)) w := by
  obtain ⟨n, rfl⟩ : ∃ n : Nat, z = n := ⟨z.toNat, by omega⟩
  have hs : (tab.size : Int) = 16 := by decide +kernel
  have h := run_index_string w 9 tab .u8 (n : Int) Try.underlying9
  rw [dif_pos ⟨h0, by omega⟩] at h
  refine h.trans ?_
  have := tab_at ⟨n, by omega⟩
  simp only [Int.toNat_natCast]
  rw [← this]
  rfl

theorem wraps8 (b : UInt8) : IntKind.u8.wrap ((b.toNat : Int) / 16) = (b.toNat : Int) / 16 ∧ IntKind.u8.wrap ((b.toNat : Int) % 16) = (b.toNat : Int) % 16 := by
  have hb := b.toNat_lt
  exact ⟨IntWalk.u8_in _ (by omega), IntWalk.u8_in _ (by omega)⟩

set_option maxHeartbeats 1600000 in
set_option maxRecDepth 100000 in
theorem iHex_ok (s : ByteArray) (hs : s.size ≤ 20000) (w : World) :
    Calls Try.prog 17 #[.string s] w fun e w' => e = .returned (.tuple #[.string ⟨(hexL s.data.toList).toArray⟩, .bool true]) ∧ Below w.heap.size w w' := by
  have h1 : ¬ (20000 : Int) < (s.size : Int) := by omega
  obtain ⟨i0, hi, hz0, hz1, hz2⟩ := info_parts info5
  obtain ⟨M, hM⟩ : ∃ M, M = madeCells (Value.int .u8 0).cells ((2 * (s.size : Int)).toNat * i0.size) := ⟨_, rfl⟩
  have hMs : M.size = 2 * s.size * 1 := by rw [hM, size_madeCells, hz1]; simp; omega
  have hmk : ∀ W : World, (Instr.makeSlice 34 (.int .i64 0) (.int .i64 (2 * (s.size : Int)))).run Try.prog W = .ok (.slice (some ⟨W.heap.size, 0, none⟩) 0 (2 * s.size)) (W.alloc (.cells M 5)) := fun W => by
    have h := run_make (P := Try.prog) W 34 5 i0 (.int .u8 0) Try.underlying34 hi hz0 .i64 .i64 0 (2 * (s.size : Int)) (by omega) (by omega) (by rw [hz2]; omega) (by omega)
    rw [← hM] at h
    have e : (2 * (s.size : Int)).toNat = 2 * s.size := by omega
    rw [e] at h
    simpa using h
  clear hM
  go_enter Try.func17, Try.ntmps17
  go_wp2
  go_loopw [4, 5] (fun v i wr => ∃ k : Nat, k ≤ s.size ∧ i = .int .i64 (k : Int) ∧ wr.ownsRow w.heap.size 5 1 v (hexL (s.data.toList.take k)).length (bytesV (hexL (s.data.toList.take k))) ∧ Below w.heap.size w wr) (fun _ i _ => s.size - (intOf i).toNat)
  case atStart =>
    refine ⟨0, Nat.zero_le _, rfl, ?_, ?_⟩
    · exact World.ownsRow_made w M (2 * s.size) (Nat.le_refl _) (by unfold maxLen; omega) hMs
    · exact (Below.refl _ _).alloc (Nat.le_refl _) _
  case round =>
    obtain ⟨k, hk, rfl, hown, hbel⟩ := hrel
    have hl := hex_len s k hk
    have hsz := hbel.size
    clear hmk
    by_cases hlt : k < s.size
    · have hby : (s[k].toNat : Int) ≤ 255 := by have := s[k].toNat_lt; omega
      have hk0 : (0 : Int) ≤ (k : Int) := by omega
      have hk1 : (k : Int) < (s.size : Int) := by omega
      have hat1 := at_byte s k hlt
      have hq1 := fig_at ((s[k].toNat : Int) / 16) (by omega) (by omega)
      have hq2 := fig_at ((s[k].toNat : Int) % 16) (by omega) (by omega)
      obtain ⟨hw2, hw3⟩ := wraps8 s[k]
      have hw4 := rems s[k]
      have hl6 : (hexL (s.data.toList.take k)).length ≤ 1000000 := by omega
      clear hl
      go_wp2_with fail
      go_region_held3 (fun _ => True) (trivial) ((refine step_push2 ?_ (.tmp 19) (.tmp 30) ?_ w.heap.size wr _ _ _ _ ?_ hown ?_ hl6 hsz ?_; rfl; rfl; rfl; rfl; intro gg cap w1 hown1 hgrow))
      all_goals
        have R := push_hex (w := w) hlt (by simp; omega) ((hbel.alloc hsz _).drew) hown hown1 hgrow
        clear hown1 hgrow hown
        go_wp2
        go_roundw
        case rel => exact ⟨k + 1, by omega, by go_num, R.1, R.2⟩
        case measure => simp [intOf]; omega
    · have he := take_all s k hlt
      rw [he] at hown
      have hcv := text_of_row_any hown
      clear hown he
      go_wp2
      go_ret2
      exact ⟨rfl, hbel⟩

end Go.Proofs.Ytpienefbgpgdkak
