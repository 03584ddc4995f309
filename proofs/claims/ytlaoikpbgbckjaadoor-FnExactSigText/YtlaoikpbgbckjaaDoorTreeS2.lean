/-
  The walks of the specification's tree of hashes: levels up, the root.
  (-DROP-: what the seat lacks is left out.)
-/
import Derived.Test.YtlaoikpbgbckjaaDoorTreeS
import Derived.Test.YtlaoikpbgbckjaaDoorJoined23
namespace Go.Proofs.YtlaoikpbgbckjaaDoor
open Go.RowKit

set_option maxHeartbeats 400000 in
set_option maxRecDepth 100000 in
theorem sDPair_any (x y : ByteArray) (hx : x.size ≤ 1048576) (hy : y.size ≤ 1048576) (w : World) :
    Calls Tryd.prog 56 #[.string x, .string y] w fun e w' => e = .returned (.string (digT (x ++ y))) ∧ Below w.heap.size w w' := by
  have HD : Hid (∀ w, Calls Tryd.prog 54 #[.string (x ++ y)] w fun e w' => e = .returned (.string (digT (x ++ y))) ∧ Below w.heap.size w w') := sDig_any (x ++ y) (by rw [ByteArray.size_append]; omega)
  generalize digT (x ++ y) = d at HD
  go_enter Tryd.func56, Tryd.ntmps56
  go_wp2_with fail
  refine (HD.out _).mono ?_
  rintro e w1 ⟨rfl, hb1⟩
  go_wp2
  go_ret
  exact ⟨rfl, hb1⟩

theorem lst_getD (l : List ByteArray) : lst (fun j => l.getD j noT) l.length = l := by
  apply List.ext_getElem
  · simp [lst]
  · intro i h1 h2
    simp [lst, h2]

theorem up_lst (D : ByteArray → ByteArray) (f : Nat → ByteArray) (n : Nat) : upL D (lst f n) = lst (fun j => D (f (2 * j) ++ f (2 * j + 1))) (n / 2) := by
  have hl : (upL D (lst f n)).length = n / 2 := by rw [upL_length, lst_length]
  rw [← lst_getD (upL D (lst f n)), hl]
  unfold lst
  apply List.map_congr_left
  intro j hj
  have hj' := List.mem_range.1 hj
  rw [upL_at _ j (by rw [List.length_map, List.length_range]; omega)]
  show D ((lst f n).getD (2 * j) noT ++ (lst f n).getD (2 * j + 1) noT) = _
  rw [lst_at f (by omega), lst_at f (by omega)]

set_option maxHeartbeats 1600000 in
set_option maxRecDepth 100000 in
theorem sUp_any (a : Option Addr) (n cp : Nat) (hn : n ≤ 32) (f : Nat → ByteArray) (hs : ∀ j, j < n → (f j).size ≤ 1048576) (w : World) (hA : StrsAt w a n w.heap.size f) :
    Calls Tryd.prog 39 #[.slice a n cp] w fun e w' => ∃ v, e = .returned v ∧ RowS w.heap.size w' v (upL digT (lst f n)) ∧ Below w.heap.size w w' := by
  obtain ⟨i0, hi, hz0, hz1, hz2⟩ := info_parts info9T
  have HA : Hid (StrsAt w a n w.heap.size f) := hA
  clear hA
  obtain ⟨g, RS, hg, HG, HRS⟩ : ∃ (g : Nat → ByteArray) (RS : List ByteArray), RS = upL digT (lst f n) ∧ Hid (∀ j, 2 * j + 1 < n → ∀ w, Calls Tryd.prog 56 #[.string (f (2 * j)), .string (f (2 * j + 1))] w fun e w' => e = .returned (.string (g j)) ∧ Below w.heap.size w w') ∧ Hid (RS = lst g (n / 2)) :=
    ⟨fun j => digT (f (2 * j) ++ f (2 * j + 1)), _, rfl, fun j hj => sDPair_any _ _ (hs _ (by omega)) (hs _ hj), up_lst digT f n⟩
  rw [← hg]
  clear hg hs
  have hni : (n : Int) ≤ 32 := by omega
  go_enter Tryd.func39, Tryd.ntmps39
  go_wp2
  go_loopw [3, 4] (fun v i wr => ∃ (u0 : Value) (k : Nat), u0 = v ∧ i = .int .i64 ((2 * k : Nat) : Int) ∧ 2 * k ≤ n ∧ wr.ownsRow w.heap.size 9 1 u0 (lst g k).length ((lst g k).map Value.string) ∧ Hid (Below w.heap.size w wr)) (fun _ i _ => n + 2 - (intOf i).toNat)
  case atStart => exact ⟨_, 0, rfl, rfl, by omega, World.ownsRow_lit _ _ _ (Nat.le_refl _) (by simp [maxLen]) (by simp), (Below.refl _ _).alloc (Nat.le_refl _) _⟩
  case round =>
    obtain ⟨u0, k, rfl, rfl, hk, hown, HB⟩ := hrel
    obtain ⟨q, hq⟩ : ∃ q : Nat, q = 2 * k := ⟨_, rfl⟩
    rw [← hq]
    have HQ0 : Hid (q = 2 * k) := hq
    by_cases hlt : 2 * k + 1 < n
    · have hlt' : (q : Int) + 1 < (n : Int) := by omega
      have hltb : (q : Int) < (n : Int) := by omega
      have hk0 : (0 : Int) ≤ (q : Int) := by omega
      have hk1 : (0 : Int) ≤ (q : Int) + 1 := by omega
      have hw1 : IntKind.i64.wrap ((q : Int) + 1) = ((q + 1 : Nat) : Int) := by rw [IntWalk.i64_in _ (by omega)]; omega
      obtain ⟨b, off, hae, hb, hz⟩ := HA.out (2 * k) (by omega)
      obtain ⟨b', off', hae', hb', hz'⟩ := HA.out (2 * k + 1) (by omega)
      subst hae
      cases hae'
      rw [← hq] at hz hz'
      have hm63 : (lst g k).length + 1 ≤ maxLen := by rw [lst_length]; unfold maxLen; omega
      have hm47 : ((lst g k).length + 1) * 16 ≤ 140737488355328 := by rw [lst_length]; omega
      have HDk : Hid (∀ w, Calls Tryd.prog 56 #[.string (f q), .string (f (q + 1))] w fun e w' => e = .returned (.string (g k)) ∧ Below w.heap.size w w') := by rw [hq]; exact HG.out k (by omega)
      have HNX : Hid (lst g (k + 1) = lst g k ++ [g k]) := lst_next g k
      have HKN : Hid (2 * (k + 1) ≤ n ∧ ((q + 2 : Nat) : Int) = ((2 * (k + 1) : Nat) : Int)) := ⟨by omega, by omega⟩
      have hqb : q ≤ 31 := by omega
      clear hq hlt hk
      have hbl : b < wr.heap.size := by have := HB.out.size; omega
      generalize g k = d at HDk HNX
      generalize f q = t at HDk hz
      generalize f (q + 1) = u at HDk hz'
      have Z0 : ∀ w', Below w.heap.size w w' → w'.cell? ⟨b, off + q, none⟩ = some (.string t) := fun w' hw => (hw.cell (p := ⟨b, off + q, none⟩) hb).trans hz
      have Z1 : ∀ w', Below w.heap.size w w' → w'.cell? ⟨b, off + (q + 1), none⟩ = some (.string u) := fun w' hw => (hw.cell (p := ⟨b, off + (q + 1), none⟩) hb).trans hz'
      clear hz hz' hb hb'
      have hsz0 : w.heap.size ≤ wr.heap.size := HB.out.size
      go_wp2_with fail
      refine wp_region_ord [(0, false), (1, false), (2, false), (3, false), (4, false), (5, false), (6, false), (7, false), (8, false), (9, false), (10, true), (11, true), (12, true), (13, true)] (fun wz => Below w.heap.size w wz) mixes (by kernel_rfl) HB.out.drew ?_
      repeat (refine ord_float rfl rfl (fun K hK => ⟨_, (fun w' hw => by have q0 := Z0 w' hw; have q1 :=  Z1 w' hw; go_simp; exact rfl), ?_⟩); go_simp; refine hK _ ?_; clear hK K)
      refine ord_call rfl rfl (fun K hK => ⟨_, _, (by go_simp <;> first | exact rfl | exact ⟨rfl, rfl⟩), ?_⟩)
      refine (HDk.out _).mono ?_
      rintro e w5 ⟨rfl, hw5⟩
      have HB5 : Hid (Below w.heap.size w w5) := HB.out.drew.trans (hw5.mono hsz0)
      have hown5 := owns_on (w := wr.drew) hown hw5
      have hsz5 : w.heap.size ≤ w5.heap.size := HB5.out.size
      clear hw5
      refine ⟨_, rfl, HB5.out, ?_⟩
      go_simp
      refine hK _ _ ?_
      clear hK K
      clear Z0 Z1 HDk hown HB hsz0
      refine ord_op rfl rfl (fun K hK => ⟨.slice (some ⟨w5.heap.size, 0, none⟩) 1 1, w5.alloc (.cells #[.string d] 9), (by go_simp <;> rfl), HB5.out.alloc hsz5 _, ?_⟩)
      go_simp
      refine hK _ _ ?_
      clear hK K
      refine ord_append rfl rfl _ _ 33 rfl w.heap.size 9 i0 (.string ⟨#[]⟩) 1 16 Tryd.underlying33 hi hz0 hz1 hz2 rfl (by decide) _ _ _ rfl (hown5.alloc _) ⟨w5.heap.size, 0, none⟩ 1 1 [.string d] rfl rfl (cell_one_new _ _ _) (one_str _) hm63 hm47 (room_for hsz5 _) ?_
      intro v' w7 hown' hgrow _
      have R7 : w7.ownsRow w.heap.size 9 1 v' (lst g (k + 1)).length ((lst g (k + 1)).map Value.string) := by
        rw [HNX.out]; exact RowS.push hown'
      have HB7 : Hid (Below w.heap.size w w7) := (HB5.out.alloc HB5.out.size _).grown hgrow (by simp; omega) (fun k hk => (hown5.lt k hk).1)
      clear hown' hgrow hown5 HB5
      refine ⟨HB7.out, fun K hK => ?_⟩
      go_simp
      refine hK _ ?_
      clear hK K
      refine ord_op rfl rfl (fun K hK => ⟨v', w7, (by go_simp <;> rfl), HB7.out, ?_⟩)
      go_simp
      refine hK _ _ ?_
      clear hK K
      refine ord_nil ?_
      go_wp2
      go_roundw
      case rel => exact ⟨_, k + 1, rfl, by rw [← HKN.out.2]; go_num, HKN.out.1, R7, HB7⟩
      case measure => simp [intOf]; omega
    · have hlt' : ¬ (q : Int) + 1 < (n : Int) := by omega
      have hqn : (q : Int) ≤ 32 := by omega
      have HE : Hid (RowS w.heap.size wr u0 RS) := by
        rw [HRS.out, show n / 2 = k by omega]
        exact hown
      clear hown hq hlt hk
      go_wp2
      go_ret
      exact ⟨_, rfl, HE.out, HB.out⟩

end Go.Proofs.YtlaoikpbgbckjaaDoor
