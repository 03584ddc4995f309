/-
  The walks of the specification's paths by halves.
  (-DROP-: what the seat lacks is left out.)
-/
import Derived.Test.YtengnjffajimdaaNibPure
import Derived.Test.YtengnjffajimdaaExZ
import Derived.Test.YtengnjffajimdaaNumS
import Derived.Test.YtengnjffajimdaaOrdApp
import Derived.Test.YtengnjffajimdaaBlk
namespace Go.Proofs.Ytengnjffajimdaa
open Go.RowKit

theorem two_cellI (p q : Int) : ∀ u ∈ [Value.int .i64 p, Value.int .i64 q], u.oneCell' = true := by
  intro u hu
  simp at hu
  rcases hu with rfl | rfl <;> rfl
theorem cell_twoI (w : World) (x y : Value) (t : TypeId) : ∀ j u, [x, y][j]? = some u → (w.alloc (.cells #[x, y] t)).cell? ((⟨w.heap.size, 0, none⟩ : Addr).add j) = some u := by
  intro j u hj
  rw [Addr.add_lit, Nat.zero_add, cell_of_row _ w.heap.size j #[x, y] t (0, 0) (heap_alloc_new w _)]
  simpa using hj
theorem row_some {B n : Nat} {w : World} {v : Value} {xs : List Value} (h : w.ownsRow B 3 1 v n xs) (hn : 0 < n) : ∃ g c, v = .slice (some ⟨g, 0, none⟩) n c := by
  rcases h.2 with ⟨rfl, h0⟩ | ⟨g, cp, cur, rfl, _⟩
  · omega
  · exact ⟨g, cp, rfl⟩
theorem nib_next {l : List UInt8} {k : Nat} (h : k < l.length) : nibL (l.take (k + 1)) = nibL (l.take k) ++ [((l[k].toNat / 16 : Nat) : Int), ((l[k].toNat % 16 : Nat) : Int)] := by
  rw [List.take_succ_eq_append_getElem h, nibL_app]
  rfl

set_option maxHeartbeats 1600000 in
set_option maxRecDepth 100000 in
theorem sNib_any (t : ByteArray) (ht : t.size ≤ 1048576) (w : World) :
    Calls Try.prog 21 #[.string t] w fun e w' => ∃ g c, e = .returned (.slice (some ⟨g, 0, none⟩) (nibs t).length c) ∧ ZOwn w.heap.size w'.heap.size w' (.slice (some ⟨g, 0, none⟩) (nibs t).length c) (nibs t) ∧ Below w.heap.size w w' := by
  obtain ⟨i0, hi, hz0, hz1, hz2⟩ := info_parts info3I
  go_enter Try.func21, Try.ntmps21
  go_wp2
  go_loopw [3, 4] (fun u i wr => ∃ (k : Nat) (m : List Int), i = .int .i64 (k : Int) ∧ k ≤ t.size ∧ Hid (m = nibL (t.data.toList.take k)) ∧ m.length = 2 * k ∧ wr.ownsRow w.heap.size 3 1 u (2 * k) (zsV m) ∧ (∃ g c, u = .slice (some ⟨g, 0, none⟩) (2 * k) c) ∧ Hid (Below w.heap.size w wr)) (fun _ i _ => t.size - (intOf i).toNat)
  case atStart => exact ⟨0, [], rfl, by omega, rfl, rfl, World.ownsRow_lit _ _ _ (Nat.le_refl _) (by simp [maxLen]) (by simp), ⟨_, _, rfl⟩, (Below.refl _ _).alloc (Nat.le_refl _) _⟩
  case round =>
    obtain ⟨k, m, rfl, hk, HM, hml, hown, ⟨ug, uc, rfl⟩, HB⟩ := hrel
    have hsz : w.heap.size ≤ wr.heap.size := HB.out.size
    by_cases hlt : k < t.size
    · have hlt' : (k : Int) < (t.size : Int) := by omega
      have hk0 : (0 : Int) ≤ (k : Int) := by omega
      have hm63 : 2 * k + 2 ≤ maxLen := by unfold maxLen; omega
      have hm47 : (2 * k + 2) * 8 ≤ 140737488355328 := by omega
      have hx : t[k].toNat < 256 := t[k].toNat_lt
      have HM2 : Hid (m ++ [((t[k].toNat / 16 : Nat) : Int), ((t[k].toNat % 16 : Nat) : Int)] = nibL (t.data.toList.take (k + 1))) := by
        show _ = _
        have hd : k < t.data.toList.length := by rw [Array.length_toList]; exact hlt
        have e1 : t.data.toList[k] = t[k] := by rw [Array.getElem_toList]; rfl
        rw [nib_next hd, HM.out, e1]
      have d1 : ((t[k].toNat : Nat) : Int).tdiv 16 = ((t[k].toNat / 16 : Nat) : Int) := by rw [Int.tdiv_eq_ediv_of_nonneg (by omega)]; omega
      have d2 : ((t[k].toNat : Nat) : Int).tmod 16 = ((t[k].toNat % 16 : Nat) : Int) := by rw [Int.tmod_eq_emod_of_nonneg (by omega)]; omega
      have d3 : IntKind.i64.wrap ((t[k].toNat : Nat) : Int) = ((t[k].toNat : Nat) : Int) := IntWalk.i64_in _ (by omega)
      have d4 : IntKind.i64.wrap ((t[k].toNat / 16 : Nat) : Int) = ((t[k].toNat / 16 : Nat) : Int) := IntWalk.i64_in _ (by omega)
      have d5 : IntKind.i64.wrap ((t[k].toNat % 16 : Nat) : Int) = ((t[k].toNat % 16 : Nat) : Int) := IntWalk.i64_in _ (by omega)
      generalize ((t[k].toNat / 16 : Nat) : Int) = q1 at d1 d4 HM2
      generalize ((t[k].toNat % 16 : Nat) : Int) = q2 at d2 d5 HM2
      have HML : Hid ((m ++ [q1, q2]).length = 2 * (k + 1)) := by
        show _ = _
        rw [List.length_append, hml]
        rfl
      clear HM hx hml
      have hD : Below wr.heap.size wr wr.drew := (Below.refl _ _).drew
      have hown2 := hown.drew
      have hszd : w.heap.size ≤ wr.drew.heap.size := hsz
      have HB3 : Hid (Below w.heap.size w wr.drew) := HB.out.drew
      go_wp2_with fail
      refine wp_region_ord [(0, false), (1, false), (2, false), (3, false), (4, false), (5, false), (6, false), (7, false), (8, false), (9, false), (10, false), (11, true), (12, true), (13, true)] (fun _ => True) mixes (by kernel_rfl) trivial ?_
      repeat (refine ord_float rfl rfl (fun K hK => ⟨_, (fun w' hw => by go_simp; exact rfl), ?_⟩); go_simp; refine hK _ ?_; clear hK K)
      clear hown hsz hD
      generalize wr.drew = w0 at *
      refine ord_op rfl rfl (fun K hK => ⟨.slice (some ⟨w0.heap.size, 0, none⟩) 2 2, w0.alloc (.cells #[.int .i64 q1, .int .i64 q2] 3), (by go_simp <;> rfl), trivial, ?_⟩)
      go_simp
      refine hK _ _ ?_
      clear hK K
      refine ord_append rfl rfl _ _ 24 rfl w.heap.size 3 i0 (.int .i64 0) 1 8 Try.underlying24 hi hz0 hz1 hz2 rfl (by decide) _ _ _ rfl (hown2.alloc _) ⟨w0.heap.size, 0, none⟩ 2 2 [.int .i64 q1, .int .i64 q2] rfl rfl (cell_twoI _ _ _ _) (two_cellI _ _) hm63 hm47 (room_for hszd _) ?_
      intro v' w4 hown' hgrow _
      have R : w4.ownsRow w.heap.size 3 1 v' (2 * (k + 1)) (zsV (m ++ [q1, q2])) := by rw [zsV_append]; exact hown'
      have HB2 : Hid (Below w.heap.size w w4) := (HB3.out.alloc hszd _).grown hgrow (by simp; omega) (fun k hk => (hown2.lt k hk).1)
      obtain ⟨vg, vc, hv⟩ := row_some R (by omega)
      subst hv
      clear hown' hgrow hown2
      refine ⟨trivial, fun K hK => ?_⟩
      go_simp
      refine hK _ ?_
      clear hK K
      refine ord_op rfl rfl (fun K hK => ⟨_, _, (by go_simp <;> first | exact ⟨rfl, rfl⟩ | exact rfl), trivial, ?_⟩)
      go_simp
      refine hK _ _ ?_
      clear hK K
      refine ord_nil ?_
      clear d1 d2 d3 d4 d5
      go_wp2
      go_roundw
      case rel => exact ⟨k + 1, _, by go_num, hlt, HM2, HML.out, R, ⟨_, _, rfl⟩, HB2⟩
      case measure => simp [intOf]; omega
    · have hlt' : ¬ (k : Int) < (t.size : Int) := by omega
      have HE : Hid (m = nibs t) := by
        show _ = _
        rw [HM.out, List.take_of_length_le (by rw [Array.length_toList]; exact Nat.le_of_not_lt hlt)]
        rfl
      clear HM
      go_wp2
      go_ret
      rw [← HE.out, hml]
      refine ⟨_, _, rfl, ?_, HB.out⟩
      refine ZOwn.of ?_
      show World.ownsRow _ _ _ _ _ _ _
      rw [hml]
      exact hown

end Go.Proofs.Ytengnjffajimdaa
