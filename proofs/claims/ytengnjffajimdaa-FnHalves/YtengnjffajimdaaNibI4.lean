/-
  The walk of the program's twoByTwo.
  (-DROP-: what the seat lacks is left out.)
-/
import Derived.Test.YtengnjffajimdaaNibI1
import Derived.Test.YtengnjffajimdaaNibS4
import Derived.Test.YtengnjffajimdaaClone
namespace Go.Proofs.Ytengnjffajimdaa
open Go.RowKit

theorem twoB_val {x y : Int} (hx : 0 ≤ x ∧ x ≤ 15) (hy : 0 ≤ y ∧ y ≤ 15) (m : List UInt8) : bytesV (m ++ [twoB x y]) = bytesV m ++ [.int .u8 (x * 16 + y)] := by
  have h := twoB_nat hx hy
  have e : ((twoB x y).toNat : Int) = x * 16 + y := by rw [h]; omega
  unfold bytesV
  rw [List.map_append, ← e]
  rfl

set_option maxHeartbeats 1600000 in
set_option maxRecDepth 100000 in
theorem iTwo_any (v : Value) (l : List Int) (n : Nat) (hn : l.length = 2 * n) (hl : l.length ≤ 1048576) (hin : ∀ j, 0 ≤ l.getD j 0 ∧ l.getD j 0 ≤ 15) (w : World) (h : ZAt w w.heap.size v l) :
    Calls Try.prog 32 #[v] w fun e w' => e = .returned (.string ⟨(twoL l).toArray⟩) ∧ Below w.heap.size w w' := by
  obtain ⟨a, cp, rfl, hA⟩ := h
  have HA : Hid (IntsAt w a l.length w.heap.size (fun j => l.getD j 0)) := hA
  have HIN : Hid (∀ j, 0 ≤ l.getD j 0 ∧ l.getD j 0 ≤ 15) := hin
  have HN : Hid (∀ j, 2 * j + 1 < l.length → twoL (l.take (2 * j)) ++ [twoB (l.getD (2 * j) 0) (l.getD (2 * j + 1) 0)] = twoL (l.take (2 * j + 2))) := fun j hj => by
    rw [take_two (by omega), twoL_app j _ _ (by rw [List.length_take]; omega)]
    rfl
  have HE : Hid (∀ p, p = l.length → twoL (l.take p) = twoL l) := fun p hp => by rw [List.take_of_length_le (by omega)]
  have HML : Hid (∀ j, 2 * j ≤ l.length → (twoL (l.take (2 * j))).length = j) := fun j hj => twoL_length j _ (by rw [List.length_take]; omega)
  obtain ⟨i0, hi, hz0, hz1, hz2⟩ := info_parts info5
  obtain ⟨N, hN⟩ : ∃ N, l.length = N := ⟨_, rfl⟩
  rw [hN] at HA HN HE HML hl hn ⊢
  have HNN : Hid (N = 2 * n) := hn
  clear hN hA hin hn
  go_enter Try.func32, Try.ntmps32
  go_wp2
  go_loopw [3, 4] (fun u i wr => ∃ (j p : Nat) (m : List UInt8), i = .int .i64 (p : Int) ∧ p ≤ N ∧ Hid (p = 2 * j ∧ m = twoL (l.take p)) ∧ m.length = j ∧ wr.ownsRow w.heap.size 5 1 u m.length (bytesV m) ∧ Hid (Below w.heap.size w wr)) (fun _ i _ => N - (intOf i).toNat)
  case atStart => exact ⟨0, 0, [], rfl, Nat.zero_le _, ⟨rfl, rfl⟩, rfl, World.ownsRow_lit _ _ _ (Nat.le_refl _) (by simp [maxLen]) (by simp), (Below.refl _ _).alloc (Nat.le_refl _) _⟩
  case round =>
    obtain ⟨j, p, m, rfl, hp, HJ, hml, hown, HB⟩ := hrel
    have hsz : w.heap.size ≤ wr.heap.size := HB.out.size
    by_cases hlt : p < N
    · have hlt' : (p : Int) < (N : Int) := by omega
      have hp0 : (0 : Int) ≤ (p : Int) := by omega
      have hp1 : p + 1 < N := by have := HJ.out.1; have := HNN.out; omega
      have hp1' : (p : Int) + 1 < (N : Int) := by omega
      have hp2 : (0 : Int) ≤ (p : Int) + 1 := by omega
      obtain ⟨b, off, rfl, hb, hz1⟩ := HA.out p hlt
      obtain ⟨b2, off2, hbb, hb2, hz2⟩ := HA.out (p + 1) hp1
      cases hbb
      replace hz1 : w.cell? ⟨b, off + p, none⟩ = some (.int .i64 (l.getD p 0)) := hz1
      replace hz2 : w.cell? ⟨b, off + (p + 1), none⟩ = some (.int .i64 (l.getD (p + 1) 0)) := hz2
      obtain ⟨x0, x1⟩ := HIN.out p
      obtain ⟨y0, y1⟩ := HIN.out (p + 1)
      have HM2 : Hid (m ++ [twoB (l.getD p 0) (l.getD (p + 1) 0)] = twoL (l.take (p + 2))) := by
        have h1 := HN.out j (by have := HJ.out.1; omega)
        rw [← HJ.out.1, ← HJ.out.2] at h1
        exact h1
      have HV : Hid (bytesV (m ++ [twoB (l.getD p 0) (l.getD (p + 1) 0)]) = bytesV m ++ [.int .u8 (l.getD p 0 * 16 + l.getD (p + 1) 0)]) := twoB_val ⟨x0, x1⟩ ⟨y0, y1⟩ m
      have HML2 : Hid ((m ++ [twoB (l.getD p 0) (l.getD (p + 1) 0)]).length = j + 1) := by show _ = _; rw [List.length_append, hml]; rfl
      generalize hq : m ++ [twoB (l.getD p 0) (l.getD (p + 1) 0)] = m2 at HM2 HV HML2
      generalize l.getD p 0 = x at hz1 x0 x1 HV hq
      generalize l.getD (p + 1) 0 = y at hz2 y0 y1 HV hq
      have k1 : IntKind.i64.wrap (x * 16) = x * 16 := IntWalk.i64_in _ (by omega)
      have k2 : IntKind.i64.wrap (x * 16 + y) = x * 16 + y := IntWalk.i64_in _ (by omega)
      have k3 : IntKind.i64.wrap ((p : Int) + 1) = (p : Int) + 1 := IntWalk.i64_in _ (by omega)
      have k5 : IntKind.i64.wrap ((p : Int) + 2) = (p : Int) + 2 := IntWalk.i64_in _ (by omega)
      have k4 : IntKind.u8.wrap (x * 16 + y) = x * 16 + y := IntWalk.u8_in _ (by omega)
      have hm63 : m.length + 1 ≤ maxLen := by unfold maxLen; have := HJ.out.1; omega
      have hm47 : (m.length + 1) * 1 ≤ 140737488355328 := by have := HJ.out.1; omega
      have HP : Hid (p = 2 * j) := HJ.out.1
      have HB3 : Hid (Below w.heap.size w wr.drew) := HB.out.drew
      have hown2 := hown.drew
      have hszd : w.heap.size ≤ wr.drew.heap.size := hsz
      clear HJ hq hown
      go_wp2_with fail
      refine wp_region_ord [(0, false), (1, false), (2, false), (3, false), (4, false), (5, false), (6, false), (7, false), (8, false), (9, false), (10, false), (11, false), (12, false), (13, true), (14, true), (15, true)] (fun wz => Below w.heap.size w wz) mixes (by kernel_rfl) HB3.out ?_
      repeat (refine ord_float rfl rfl (fun K hK => ⟨_, (fun w' hw => by have q0 := (hw.cell (p := ⟨b, off + p, none⟩) hb).trans hz1; have q1 :=  (hw.cell (p := ⟨b, off + (p + 1), none⟩) hb).trans hz2; go_simp; exact rfl), ?_⟩); go_simp; refine hK _ ?_; clear hK K)
      clear hz1 hz2 hsz
      generalize wr.drew = w0 at *
      refine ord_op rfl rfl (fun K hK => ⟨.slice (some ⟨w0.heap.size, 0, none⟩) 1 1, w0.alloc (.cells #[.int .u8 (x * 16 + y)] 5), (by go_simp <;> rfl), HB3.out.alloc hszd _, ?_⟩)
      go_simp
      refine hK _ _ ?_
      clear hK K
      refine ord_append rfl rfl _ _ 22 rfl w.heap.size 5 i0 (.int .u8 0) 1 1 Try.underlying22 hi hz0 hz1 hz2 rfl (by decide) _ _ _ rfl (hown2.alloc _) ⟨w0.heap.size, 0, none⟩ 1 1 [.int .u8 (x * 16 + y)] rfl rfl (cell_one_new _ _ _) (one_cell _ _) hm63 hm47 (room_for hszd _) ?_
      intro v' w4 hown' hgrow _
      have R : w4.ownsRow w.heap.size 5 1 v' m2.length (bytesV m2) := by rw [HV.out, HML2.out, ← hml]; exact hown'
      have HB2 : Below w.heap.size w w4 := (HB3.out.alloc hszd _).grown hgrow (by simp; omega) (fun k hk => (hown2.lt k hk).1)
      obtain ⟨va, vc, hv⟩ := row_form R
      subst hv
      clear hown' hgrow hown2
      refine ⟨HB2, fun K hK => ?_⟩
      go_simp
      refine hK _ ?_
      clear hK K
      refine ord_op rfl rfl (fun K hK => ⟨_, _, (by go_simp <;> first | exact ⟨rfl, rfl⟩ | exact rfl), HB2, ?_⟩)
      go_simp
      refine hK _ _ ?_
      clear hK K
      refine ord_nil ?_
      have HB5 : Hid (Below w.heap.size w w4) := HB2
      clear HB2 k1 k2 k3 k4
      go_wp2
      go_roundw
      case rel => exact ⟨j + 1, p + 2, m2, by go_num, by have := HP.out; have := HNN.out; omega, ⟨by have := HP.out; omega, HM2.out⟩, HML2.out, R, HB5⟩
      case measure => simp [intOf]; omega
    · have hlt' : ¬ (p : Int) < (N : Int) := by omega
      have HT : Hid (m = twoL l) := by
        show _ = _
        rw [HJ.out.2, HE.out p (by omega)]
      have hcv := text_of_row hown
      have HCl : Hid (∀ wz, Calls Try.prog 38 #[.string ⟨m.toArray⟩] wz fun e w' => e = .returned (.string ⟨m.toArray⟩) ∧ Below wz.heap.size wz w') := fun wz => clone_any _ wz (by
        have : (ByteArray.mk m.toArray).size = m.length := by show m.toArray.size = _; simp
        have := HJ.out.1
        omega)
      obtain ⟨va, vc, hv⟩ := row_form hown
      subst hv
      have HS : Hid (ByteArray.mk m.toArray = ⟨(twoL l).toArray⟩) := by show _ = _; rw [HT.out]
      generalize ByteArray.mk m.toArray = S at hcv HCl HS
      clear hown HT HJ hml
      go_wp2_with fail
      refine (HCl.out _).mono ?_
      rintro e w3 ⟨rfl, hb3⟩
      have hB3 := below_then HB.out hb3
      go_wp2
      go_ret
      exact ⟨by rw [← HS.out]; rfl, hB3⟩

end Go.Proofs.Ytengnjffajimdaa
