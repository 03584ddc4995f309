/-
  Texts of one's own, joined.
-/
import Derived.Test.YtlaoikpbgbckjaaDoorTreeI2

/-
  The walks of the program's tree of hashes: the root.
  (-DROP-: what the seat lacks is left out.)
-/
namespace Go.Proofs.YtlaoikpbgbckjaaDoor
open Go.RowKit

set_option maxHeartbeats 400000 in
set_option maxRecDepth 100000 in
theorem iRootOf_any (a : Option Addr) (n cp : Nat) (hm : n ≤ 9223372036854775807) (f : Nat → ByteArray) (hs : ∀ j, j < n → (f j).size ≤ 1048576) (w : World) (hA : StrsAt w a n w.heap.size f) (hT : Tab w) :
    Calls Tryd.prog 36 #[.slice a n cp] w fun e w' => e = .returned (.string (rootT digT (lst f n))) ∧ Below w.heap.size w w' := by
  by_cases hn : n ≤ 32
  · have HH : Hid (Calls Tryd.prog 52 #[.slice a n cp] w fun e w' => e = .returned (.slice (some ⟨w.heap.size, 0, none⟩) (hashL digT (lst f n)).length (hashL digT (lst f n)).length) ∧ LevAt w' w.heap.size (hashL digT (lst f n)).length (hashL digT (lst f n)) ∧ Below w.heap.size w w') := iLow_any a n cp hn f hs w hA hT
    have HT : Hid (Tab w) := hT
    have hn' : ¬ (32 : Int) < (n : Int) := by omega
    have HL : Hid ((hashL digT (lst f n)).length = 2 ^ lvN n) := by
      have := hashL_length (D := digT) (l := lst f n) (by rw [lst_length]; exact hn)
      rw [lst_length] at this
      exact this
    have HS : Hid (∀ j, j < (hashL digT (lst f n)).length → ((hashL digT (lst f n)).getD j noT).size ≤ 1048576) := hash_sizes _
    have HR : Hid (rootT digT (lst f n) = (upN digT (lvN n) (hashL digT (lst f n))).getD 0 noT) := by
      show rootT digT (lst f n) = _
      unfold rootT
      rw [lst_length, if_pos hn]
    have hL5 := lvN_le n
    generalize hashL digT (lst f n) = H at HH HL HS HR
    generalize rootT digT (lst f n) = RT at HR ⊢
    generalize lvN n = L at HL HR hL5
    obtain ⟨N, hN⟩ : ∃ N, N = H.length := ⟨_, rfl⟩
    rw [← hN] at HH
    have HN : Hid (N = H.length) := hN
    clear hA hs hT hN
    go_enter Tryd.func36, Tryd.ntmps36
    go_wp2_with fail
    refine HH.out.mono ?_
    rintro e w1 ⟨rfl, hR1, hb1⟩
    have H0 : Hid (N = H.length ∧ LevAt w1 w.heap.size N H ∧ Below w.heap.size w w1 ∧ H.length = 2 ^ L ∧ RT = (upN digT L H).getD 0 noT ∧ (∀ j, j < H.length → (H.getD j noT).size ≤ 1048576)) := ⟨HN.out, hR1, hb1, HL.out, HR.out, HS.out⟩
    clear hR1 hb1 HL HR HS HH HN
    go_wp2
    go_loopw [3] (fun v wr => ∃ (l : List ByteArray) (j m c : Nat), v = .slice (some ⟨w.heap.size, 0, none⟩) m c ∧ j ≤ 5 ∧ m ≤ c ∧ Hid (m = l.length ∧ LevAt wr w.heap.size N l ∧ Below w.heap.size w wr ∧ l.length = 2 ^ j ∧ RT = (upN digT j l).getD 0 noT ∧ (∀ j, j < l.length → (l.getD j noT).size ≤ 1048576))) (fun v _ => slLen v)
    case atStart => exact ⟨H, L, N, N, rfl, hL5, Nat.le_refl _, H0⟩
    case round =>
      obtain ⟨l, j, m, c, rfl, hj, hmc, HD⟩ := hrel
      clear H0
      have hml := HD.out.1
      have hlen := HD.out.2.2.2.1
      by_cases h0 : j = 0
      · subst h0
        have hone : m = 1 := by rw [hml]; exact hlen
        subst hone
        have hz := HD.out.2.1.cell (j := 0) (by omega)
        have hz' : wr.cell? ⟨w.heap.size, 0, none⟩ = some (.string RT) := by rw [HD.out.2.2.2.2.1]; exact hz
        have hB := HD.out.2.2.1
        clear HD hlen hz hml
        go_wp2
        go_ret
        exact ⟨rfl, hB⟩
      · obtain ⟨i, rfl⟩ : ∃ i, j = i + 1 := ⟨j - 1, by omega⟩
        have hp : 2 ^ (i + 1) ≤ 32 := by
          have : 2 ^ (i + 1) ≤ 2 ^ 5 := Nat.pow_le_pow_right (by decide) hj
          omega
        have hp2 : 0 < 2 ^ i := Nat.pow_pos (by decide)
        have hps : 2 ^ (i + 1) = 2 * 2 ^ i := by rw [Nat.pow_succ]; omega
        have HUP : Hid (Calls Tryd.prog 53 #[.slice (some ⟨w.heap.size, 0, none⟩) m c] wr fun e w' => e = .returned (.slice (some ⟨w.heap.size, 0, none⟩) (upL digT l).length (upL digT l).length) ∧ LevAt w' w.heap.size N (upL digT l) ∧ Kps (fun k => k = w.heap.size) wr w') := by
          have h := iAbove_any l w.heap.size N c (by omega) HT.out.1 HD.out.2.2.2.2.2 (by omega) wr HD.out.2.1 (HT.out.on HD.out.2.2.1 HT.out.1)
          rw [hml]
          exact h
        have HNN : Hid ((upL digT l).length = 2 ^ i ∧ RT = (upN digT i (upL digT l)).getD 0 noT) := ⟨by rw [upL_length, hlen, hps]; omega, HD.out.2.2.2.2.1⟩
        have hgt : (1 : Int) < (m : Int) := by omega
        have HM2 : Hid ((upL digT l).length < m) := by
          show (upL digT l).length < m
          rw [upL_length, hml, hlen, hps]; omega
        have HB : Hid (Below w.heap.size w wr) := HD.out.2.2.1
        have HZ : Hid (∀ j, j < (upL digT l).length → ((upL digT l).getD j noT).size ≤ 1048576) := up_size
        generalize upL digT l = l2 at HUP HNN HM2 HZ
        obtain ⟨m2, hm2⟩ : ∃ m2, m2 = l2.length := ⟨_, rfl⟩
        rw [← hm2] at HUP HM2
        have HE2 : Hid (m2 = l2.length) := hm2
        clear HD hp hp2 hps hlen hml hm2
        go_wp2_with fail
        refine HUP.out.mono ?_
        rintro e w2 ⟨rfl, hR2, hk2⟩
        have H2 : Hid (LevAt w2 w.heap.size N l2 ∧ Below w.heap.size w w2) := ⟨hR2, hk2.bel HB.out HB.out.size (fun k e => by rw [e]; exact Nat.le_refl _)⟩
        clear hR2 hk2 HUP HB
        go_wp2
        go_roundw
        case rel => exact ⟨l2, i, m2, m2, rfl, by omega, Nat.le_refl _, ⟨HE2.out, H2.out.1, H2.out.2, HNN.out.1, HNN.out.2, HZ.out⟩⟩
        case measure => exact HM2.out
  · have hn' : (32 : Int) < (n : Int) := by omega
    have HR : Hid (rootT digT (lst f n) = noT) := by
      show rootT digT (lst f n) = _
      unfold rootT
      rw [lst_length, if_neg hn]
    generalize rootT digT (lst f n) = RT at HR ⊢
    clear hA hs hT
    go_enter Tryd.func36, Tryd.ntmps36
    go_wp2
    go_ret
    exact ⟨by rw [HR.out]; rfl, Below.refl _ _⟩

end Go.Proofs.YtlaoikpbgbckjaaDoor

/-
  The walks of the program's tree of hashes: a leaf with its branch.
  (-DROP-: what the seat lacks is left out.)
-/
namespace Go.Proofs.YtlaoikpbgbckjaaDoor
open Go.RowKit

/-- Halved so often. -/
def hlf (m j : Nat) : Nat := m / 2 ^ j
theorem hlf_next (m j : Nat) : hlf m (j + 1) = hlf m j / 2 := by
  unfold hlf
  rw [Nat.pow_succ, Nat.div_div_eq_div_mul]
theorem hlf_zero (m : Nat) : hlf m 0 = m := by simp [hlf]

end Go.Proofs.YtlaoikpbgbckjaaDoor
