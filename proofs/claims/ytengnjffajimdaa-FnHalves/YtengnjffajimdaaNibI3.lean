/-
  The walk of the program's NibblesOf.
  (-DROP-: what the seat lacks is left out.)
-/
import Derived.Test.YtengnjffajimdaaNibI2
import Derived.Lib.ConvBytes
namespace Go.Proofs.Ytengnjffajimdaa
open Go.RowKit

/-- A text's bytes in a row of their own. -/
theorem conv_bytes (w : World) (T : ByteArray) :
    ∃ K w5 cs fz, (convert 9 22 (.string T)).run Try.prog w = .ok (.slice (some ⟨w.heap.size, 0, none⟩) T.size K) w5 ∧ Below w.heap.size w w5 ∧ w5.heap[w.heap.size]? = some (.cells cs 5 fz) ∧ ∀ j, j < T.size → w5.cell? ⟨w.heap.size, j, none⟩ = some (.int .u8 ((T.data.toList.getD j 0).toNat : Int)) := by
  have hsl : T.data.toList.length = T.size := by simp
  refine ⟨_, _, _, _, Lib.run_convert_string_bytes (P := Try.prog) w 9 22 5 T Try.underlying9 Try.underlying22 Try.underlying5, ?_, Lib.bytesWorld_at_new w 5 T, ?_⟩
  · exact ⟨rfl, rfl, rfl, by rw [Lib.bytesWorld_size]; omega, fun k hk => Lib.bytesWorld_at_old w 5 T k hk⟩
  · intro j hj
    have hj' : j < T.data.toList.length := by omega
    rw [Lib.bytesWorld_cell w 5 T j hj]
    try simp only [List.getD_eq_getElem?_getD, List.getElem?_eq_getElem hj', Option.getD_some]
theorem iter_grown (w : World) (k : Nat) (s : ByteArray) (p : Nat) : w.grownBy (w.iterAt k s p) (some k) :=
  ⟨rfl, rfl, rfl, by rw [Lib.iterAt_size]; exact Nat.le_refl _, fun i _ hne => Lib.iterAt_other w k i s p (fun e => hne (by rw [e]))⟩
theorem own_ne {w : World} {B n : Nat} {v : Value} {xs : List Value} {k : Nat} {o : Obj} (h : w.ownsRow B 3 1 v n xs) (hk : w.heap[k]? = some o) (ho : ∀ c f, o ≠ .cells c 3 f) : v.ownBlock ≠ some k := by
  intro hv
  rcases h.2 with ⟨rfl, _⟩ | ⟨g, cap, cur, rfl, _, hg, _⟩
  · cases hv
  · have e : g = k := by simpa [Value.ownBlock] using hv
    subst e
    rw [hg] at hk
    exact ho _ _ (Option.some.inj hk).symm
theorem getD_ext (t : ByteArray) (p k j : Nat) (hj : j < k) : (t.extract p (p + k)).data.toList.getD j 0 = t.data.toList.getD (p + j) 0 := by
  rw [ext_list, List.getD_eq_getElem?_getD, List.getD_eq_getElem?_getD, List.getElem?_take_of_lt hj, List.getElem?_drop]
theorem nib_nextD {l : List UInt8} {k : Nat} (h : k < l.length) : nibL (l.take (k + 1)) = nibL (l.take k) ++ [(((l.getD k 0).toNat / 16 : Nat) : Int), (((l.getD k 0).toNat % 16 : Nat) : Int)] := by
  rw [nib_next h, List.getD_eq_getElem?_getD, List.getElem?_eq_getElem h]
  rfl

set_option maxHeartbeats 1600000 in
set_option maxRecDepth 100000 in
theorem iNib_any (t : ByteArray) (ht : t.size ≤ 1048576) (w : World) :
    Calls Try.prog 17 #[.string t] w fun e w' => ∃ g c, e = .returned (.slice (some ⟨g, 0, none⟩) (nibs t).length c) ∧ ZOwn w.heap.size w'.heap.size w' (.slice (some ⟨g, 0, none⟩) (nibs t).length c) (nibs t) ∧ Below w.heap.size w w' := by
  obtain ⟨i0, hi, hz0, hz1, hz2⟩ := info_parts info3I
  have HTL : Hid (t.data.toList.length = t.size) := by show _ = _; rw [Array.length_toList]; rfl
  go_enter Try.func17, Try.ntmps17
  go_wp2
  go_loopw [3] (fun u wr => ∃ (p : Nat) (m : List Int), p ≤ t.size ∧ Hid (m = nibL (t.data.toList.take p)) ∧ m.length = 2 * p ∧ wr.ownsRow w.heap.size 3 1 u (2 * p) (zsV m) ∧ (∃ g c, u = .slice (some ⟨g, 0, none⟩) (2 * p) c) ∧ wr.heap[w.heap.size + 1]? = some (.stringIter t p) ∧ Hid (Below w.heap.size w wr)) (fun _ wr => t.size - wr.iterPos (w.heap.size + 1))
  case atStart =>
    have hB : Below w.heap.size w (w.alloc (.cells #[] 3)) := (Below.refl _ _).alloc (Nat.le_refl _) _
    have hO : (w.alloc (.cells #[] 3)).ownsRow w.heap.size 3 1 (.slice (some ⟨w.heap.size, 0, none⟩) 0 0) 0 [] := World.ownsRow_lit _ _ _ (Nat.le_refl _) (by simp [maxLen]) (by simp)
    exact ⟨0, [], Nat.zero_le _, rfl, rfl, hO.alloc _, ⟨_, _, rfl⟩, by have := World.iter_heap (w.alloc (.cells #[] 3)) t 0; simpa using this, hB.alloc (by simp) _⟩
  case round =>
    obtain ⟨p, m, hp, HM, hml, hown, ⟨ug, uc, rfl⟩, hit, HB⟩ := hrel
    have hsz : w.heap.size ≤ wr.heap.size := HB.out.size
    have hkl : w.heap.size + 1 < wr.heap.size := (Array.getElem?_eq_some_iff.1 hit).1
    have hip : wr.iterPos (w.heap.size + 1) = p := by unfold World.iterPos; rw [hit]
    by_cases hlt : p < t.size
    · have hnx : ∀ ty, (Instr.next (.pointer (some ⟨w.heap.size + 1, 0, none⟩)) true ty).run Try.prog wr = _ := fun ty => Lib.run_next_any_at wr (w.heap.size + 1) t p ty hit hlt
      obtain ⟨d1, d2, _⟩ := dec_enc t p hlt
      have HR : Hid (∀ w, Calls Try.prog 35 #[.int .i32 ((Utf8.decode t p).1 : Int), .string (t.extract p t.size)] w fun e w' => e = .returned (.string (t.extract p (p + (Utf8.decode t p).2))) ∧ w = w') := fun w => iRune_any t p hlt w
      generalize (Utf8.decode t p).1 = c at hnx HR
      generalize (Utf8.decode t p).2 = k at hnx HR d1 d2
      have hit1 := Lib.iterAt_heap wr (w.heap.size + 1) t p (p + k) hit
      have hown1 := hown.kept (iter_grown wr (w.heap.size + 1) t (p + k)) (.inr (own_ne hown hit (fun c f e => by cases e)))
      have HB1 : Below w.heap.size w (wr.iterAt (w.heap.size + 1) t (p + k)) := Lib.below_iterAt HB.out (by omega) t (p + k)
      have hs1 : (wr.iterAt (w.heap.size + 1) t (p + k)).heap.size = wr.heap.size := Lib.iterAt_size _ _ _ _
      generalize wr.iterAt (w.heap.size + 1) t (p + k) = W1 at hnx hit1 hown1 HB1 hs1
      have hxs : (t.extract p (p + k)).size = k := by rw [ByteArray.size_extract]; omega
      obtain ⟨K, w5, cs, fz, hcv, hb5, hrow5, hcell5⟩ := conv_bytes W1 (t.extract p (p + k))
      rw [hxs] at hcv hcell5
      have HCL : Hid (∀ j, j < k → w5.cell? ⟨W1.heap.size, j, none⟩ = some (.int .u8 ((t.data.toList.getD (p + j) 0).toNat : Int))) := fun j hj => by rw [hcell5 j hj, getD_ext t p k j hj]
      have hown5 := owns_on hown1 hb5
      have hit5 : w5.heap[w.heap.size + 1]? = some (.stringIter t (p + k)) := (hb5.block _ (by omega)).trans hit1
      have HB5 : Hid (Below w.heap.size w w5) := below_then HB1 hb5
      have hpz : (0 : Int) ≤ (p : Int) := by omega
      have hps : (p : Int) ≤ (t.size : Int) := by omega
      have HW1 : Hid (W1.heap.size < w5.heap.size ∧ w.heap.size + 1 < W1.heap.size) := ⟨(Array.getElem?_eq_some_iff.1 hrow5).1, by omega⟩
      generalize hG : W1.heap.size = G at hcv hrow5 HCL HW1
      generalize t.extract p (p + k) = X at hcv HR
      clear hcell5 hb5 hown hown1 hit hit1 HB HB1 hs1 hxs hsz hkl hG
      go_wp2_with (go_at_call 35; refine (HR.out _).mono ?_; rintro e wz ⟨rfl, rfl⟩)
      go_loopw [3, 22] (fun u i wz => ∃ (j : Nat) (m : List Int), i = .int .i64 (j : Int) ∧ j ≤ k ∧ Hid (m = nibL (t.data.toList.take (p + j))) ∧ m.length = 2 * (p + j) ∧ wz.ownsRow w.heap.size 3 1 u (2 * (p + j)) (zsV m) ∧ (∃ g c, u = .slice (some ⟨g, 0, none⟩) (2 * (p + j)) c) ∧ wz.heap[w.heap.size + 1]? = some (.stringIter t (p + k)) ∧ wz.heap[G]? = w5.heap[G]? ∧ Hid (Below w.heap.size w wz ∧ w5.heap.size ≤ wz.heap.size)) (fun _ i _ => k - (intOf i).toNat)
      case atStart => exact ⟨0, m, rfl, Nat.zero_le _, HM, hml, hown5, ⟨_, _, rfl⟩, hit5, rfl, HB5.out, Nat.le_refl _⟩
      case round =>
        clear hown5 hit5 HB5 HM hml hcv hnx HR
        obtain ⟨j, m, rfl, hj, HM, hml, hown, ⟨ug, uc, rfl⟩, hit, hG, HB⟩ := hrel
        have hsz : w.heap.size ≤ wr.heap.size := HB.out.1.size
        by_cases hjk : j < k
        · have hjk' : (j : Int) < (k : Int) := by omega
          have hj0 : (0 : Int) ≤ (j : Int) := by omega
          have hm63 : 2 * (p + j) + 2 ≤ maxLen := by unfold maxLen; omega
          have hm47 : (2 * (p + j) + 2) * 8 ≤ 140737488355328 := by omega
          have hz : wr.cell? ⟨G, j, none⟩ = some (.int .u8 ((t.data.toList.getD (p + j) 0).toNat : Int)) := (World.cell?_of_block hG).trans (HCL.out j hjk)
          have hGl : G < wr.heap.size := Nat.lt_of_lt_of_le HW1.out.1 HB.out.2
          have HN := nib_nextD (l := t.data.toList) (k := p + j) (by rw [HTL.out]; omega)
          have hx : (t.data.toList.getD (p + j) 0).toNat < 256 := UInt8.toNat_lt _
          rw [← HM.out] at HN
          have HN' : Hid (nibL (t.data.toList.take (p + j + 1)) = m ++ [(((t.data.toList.getD (p + j) 0).toNat / 16 : Nat) : Int), (((t.data.toList.getD (p + j) 0).toNat % 16 : Nat) : Int)]) := HN
          clear HN HM
          generalize (t.data.toList.getD (p + j) 0).toNat = y at hz hx HN'
          have d1 : ((y : Nat) : Int).tdiv 16 = ((y / 16 : Nat) : Int) := by rw [Int.tdiv_eq_ediv_of_nonneg (by omega)]; omega
          have d2 : ((y : Nat) : Int).tmod 16 = ((y % 16 : Nat) : Int) := by rw [Int.tmod_eq_emod_of_nonneg (by omega)]; omega
          have d3 : IntKind.u8.wrap ((y / 16 : Nat) : Int) = ((y / 16 : Nat) : Int) := IntWalk.u8_in _ (by omega)
          have d4 : IntKind.u8.wrap ((y % 16 : Nat) : Int) = ((y % 16 : Nat) : Int) := IntWalk.u8_in _ (by omega)
          have d5 : IntKind.i64.wrap ((y / 16 : Nat) : Int) = ((y / 16 : Nat) : Int) := IntWalk.i64_in _ (by omega)
          have d6 : IntKind.i64.wrap ((y % 16 : Nat) : Int) = ((y % 16 : Nat) : Int) := IntWalk.i64_in _ (by omega)
          generalize ((y / 16 : Nat) : Int) = q1 at d1 d3 d5 HN'
          generalize ((y % 16 : Nat) : Int) = q2 at d2 d4 d6 HN'
          go_wp2_with (at_builtin; go_loud (refine wpList_append_own _ rfl _ _ 24 rfl w.heap.size 3 i0 (.int .i64 0) 1 8 Try.underlying24 hi hz0 hz1 hz2 rfl (by decide) _ _ _ rfl (hown.alloc _) ⟨wr.heap.size, 0, none⟩ 2 2 [.int .i64 q1, .int .i64 q2] rfl rfl (cell_twoI _ _ _ _) (two_cellI _ _) hm63 hm47 (room_for hsz _) ?_))
          intro v' w4 hown' hgrow _
          have hown4 : w4.ownsRow w.heap.size 3 1 v' (2 * (p + (j + 1))) (zsV (m ++ [q1, q2])) := by rw [zsV_append]; exact hown'
          have HB4 : Hid (Below w.heap.size w w4 ∧ w5.heap.size ≤ w4.heap.size) := ⟨(HB.out.1.alloc hsz _).grown hgrow (by simp; omega) (fun k hk => (hown.lt k hk).1), by have h1 := hgrow.size; have h2 := HB.out.2; simp at h1; omega⟩
          have hkl4 : w.heap.size + 1 < wr.heap.size := (Array.getElem?_eq_some_iff.1 hit).1
          have hit4 : w4.heap[w.heap.size + 1]? = some (.stringIter t (p + k)) := by
            rw [hgrow.block _ (by simp; omega) (fun e => own_ne hown hit (fun c f e => by cases e) e.symm), heap_alloc_old _ _ hkl4]
            exact hit
          have hG4 : w4.heap[G]? = w5.heap[G]? := by
            rw [hgrow.block _ (by simp; omega) (fun e => own_ne hown (hG.trans hrow5) (fun c f e => by cases e) e.symm), heap_alloc_old _ _ hGl]
            exact hG
          have HM4 : Hid (m ++ [q1, q2] = nibL (t.data.toList.take (p + (j + 1)))) := HN'.out.symm
          have HML : Hid ((m ++ [q1, q2]).length = 2 * (p + (j + 1))) := by
            show _ = _
            rw [List.length_append, hml]
            show 2 * (p + j) + 2 = _
            omega
          obtain ⟨vg, vc, hv⟩ := row_some hown4 (by omega)
          subst hv
          clear hown' hgrow hown hit hG HB HN' d1 d2 d3 d4 d5 d6 hml
          go_wp2
          go_roundw
          case rel => exact ⟨j + 1, _, by go_num, hjk, HM4, HML.out, hown4, ⟨_, _, rfl⟩, hit4, hG4, HB4⟩
          case measure => simp [intOf]; omega
        · have hjk' : ¬ (j : Int) < (k : Int) := by omega
          obtain rfl : j = k := by omega
          go_wp2
          go_roundw
          case rel => exact ⟨p + j, m, by omega, HM, hml, hown, ⟨_, _, rfl⟩, hit, HB.out.1⟩
          case measure =>
            have hip2 : wr.iterPos (w.heap.size + 1) = p + j := by unfold World.iterPos; rw [hit]
            rw [hip, hip2]
            omega
    · have hnx : ∀ ty, (Instr.next (.pointer (some ⟨w.heap.size + 1, 0, none⟩)) true ty).run Try.prog wr = _ := fun ty => Lib.run_next_end_at wr (w.heap.size + 1) t p ty hit hlt
      have HE : Hid (m = nibs t) := by
        show _ = _
        rw [HM.out, List.take_of_length_le (by rw [Array.length_toList]; exact Nat.le_of_not_lt hlt)]
        rfl
      clear HM
      go_wp2
      go_ret
      rw [← HE.out, hml]
      refine ⟨_, _, rfl, ?_, HB.out⟩
      refine ZOwn.of ?_
      show World.ownsRow _ _ _ _ _ _ _
      rw [hml]
      exact hown

end Go.Proofs.Ytengnjffajimdaa
