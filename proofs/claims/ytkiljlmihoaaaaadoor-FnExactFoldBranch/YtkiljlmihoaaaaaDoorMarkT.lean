/-
  The walks of the helpers of the exact laws on lists of texts: marks, and whether they are held.
  (-DROP-: what the seat lacks is left out.)
-/
import Derived.Test.YtkiljlmihoaaaaaDoorTreeS3
import Derived.Test.YtkiljlmihoaaaaaDoorKps
import Derived.WalkLawsBesides
import Derived.WalkSpells
import Derived.Lib.ConvBytes
namespace Go.Proofs.YtkiljlmihoaaaaaDoor
open Go.RowKit

/-- The figures of a number, laid ahead of a text. -/
def mtf : Nat → Nat → List UInt8 → List UInt8
  | 0, _, t => t
  | f + 1, u, t => if u = 0 then t else mtf f (u / 10) (UInt8.ofNat (48 + u % 10) :: t)
def mtL (k : Nat) : List UInt8 := mtf 20 k []
/-- A mark. -/
def mt (k : Nat) : ByteArray := ⟨(109 :: mtL k).toArray⟩

theorem mtf_zero : ∀ (f : Nat) (t : List UInt8), mtf f 0 t = t
  | 0, _ => rfl
  | _ + 1, _ => if_pos rfl
theorem mtf_next {f u : Nat} (t : List UInt8) (h : u ≠ 0) : mtf (f + 1) u t = mtf f (u / 10) (UInt8.ofNat (48 + u % 10) :: t) := if_neg h

theorem cat_b (a b : List UInt8) : (⟨a.toArray⟩ : ByteArray) ++ ⟨b.toArray⟩ = ⟨(a ++ b).toArray⟩ := by
  apply ByteArray.ext
  simp

theorem cats_t (b : UInt8) (t : List UInt8) (ht : t.length ≤ 20) (w : World) : (Op.stringOp .add ⟨#[b]⟩ ⟨t.toArray⟩).run Tryd.prog w = .ok (.string ⟨(b :: t).toArray⟩) w := by
  have h := run_string_add_sum (P := Tryd.prog) w ⟨#[b]⟩ ⟨t.toArray⟩ (by simp [ByteArray.size]; omega)
  rw [h]
  exact congrArg (fun x => Result.ok (Value.string x) w) (cat_b [b] t)

theorem one_t (w : World) (b : UInt8) (z : Int) (hz : z = (b.toNat : Int)) : (convert 22 9 (.slice (some ⟨w.heap.size, 0, none⟩) 1 1)).run Tryd.prog (w.alloc (.cells #[.int .u8 z] 5)) = .ok (.string ⟨#[b]⟩) (w.alloc (.cells #[.int .u8 z] 5)) := by
  have h := run_convert_bytes_back (P := Tryd.prog) (w.alloc (.cells #[.int .u8 z] 5)) 22 9 5 ⟨w.heap.size, 0, none⟩ 1 [b] Tryd.underlying22 Tryd.underlying5 Tryd.underlying9 (by
    intro j hj
    have : j = 0 := by simp at hj; omega
    subst this
    rw [hz]
    simp [Addr.add])
  simpa using h

set_option maxHeartbeats 800000 in
set_option maxRecDepth 100000 in
theorem markText_any (n : Nat) (hn : n ≠ 0) (hm : n ≤ 1000000000000) (w : World) :
    Calls Tryd.prog 49 #[.int .i64 (n : Int)] w fun e w' => e = .returned (.string (mt n)) ∧ Below w.heap.size w w' := by
  have h0 : ¬ (n : Int) ≤ 0 := by omega
  go_enter Tryd.func49, Tryd.ntmps49
  go_wp2
  go_loopw [0, 3] (fun x v wr => ∃ (u f : Nat) (t : List UInt8), x = .int .i64 (u : Int) ∧ v = .string ⟨t.toArray⟩ ∧ Hid (mtL n = mtf f u t ∧ t.length + f = 20 ∧ u < 10 ^ f) ∧ u ≤ n ∧ Below w.heap.size w wr) (fun x _ _ => (RowKit.intOf x).toNat)
  case atStart => exact ⟨n, 20, [], rfl, rfl, ⟨rfl, rfl, by omega⟩, Nat.le_refl _, Below.refl _ _⟩
  case round =>
    obtain ⟨u, f, t, rfl, rfl, hinv, hun, hbel⟩ := hrel
    have htl : t.length ≤ 20 := by have := hinv.out.2.1; omega
    have hsz := hbel.size
    by_cases hu : u = 0
    · subst hu
      have HE : Hid (mt n = ⟨(109 :: t).toArray⟩) := by
        show mt n = _
        unfold mt
        rw [hinv.out.1, mtf_zero]
      have hda := cats_t 109 t htl
      clear hinv
      go_wp2
      go_ret
      exact ⟨by rw [HE.out]; rfl, hbel⟩
    · have hu0 : (0 : Int) < (u : Int) := by omega
      obtain ⟨g, rfl⟩ : ∃ g, f = g + 1 := by
        cases f with
        | zero => have := hinv.out.2.2; omega
        | succ g => exact ⟨g, rfl⟩
      obtain ⟨c, hc⟩ : ∃ c, c = UInt8.ofNat (48 + u % 10) := ⟨_, rfl⟩
      have hn2 : Hid (mtL n = mtf g (u / 10) (c :: t) ∧ (c :: t).length + g = 20 ∧ u / 10 < 10 ^ g) := by
        refine ⟨by rw [hinv.out.1, mtf_next t hu, ← hc], by have := hinv.out.2.1; simp; omega, ?_⟩
        have := hinv.out.2.2
        rw [Nat.pow_succ] at this
        omega
      have hfz : 48 + (u : Int) % 10 = (c.toNat : Int) := by rw [hc]; simp; omega
      clear hc hinv
      have hone := fun W => one_t W c (48 + (u : Int) % 10) hfz
      have hcat := cats_t c t htl
      clear hfz
      go_wp2
      go_roundw
      case rel => exact ⟨u / 10, g, c :: t, by go_num, by simp, hn2, by omega, (hbel.alloc hsz _)⟩
      case measure => simp [RowKit.intOf]; omega

/-- So many marks. -/
def mks (k n : Nat) : List ByteArray := lst (fun j => mt (k + j)) n
theorem mks_length (k n : Nat) : (mks k n).length = n := lst_length _ _
theorem mks_at (k : Nat) {n j : Nat} (h : j < n) : (mks k n)[j]? = some (mt (k + j)) := by simp [mks, lst, h]
theorem mks_step {l : List ByteArray} {k j : Nat} (h : j < l.length) : (mks k j ++ l.drop j).set j (mt (k + j)) = mks k (j + 1) ++ l.drop (j + 1) := by
  have hl := mks_length k j
  rw [List.drop_eq_getElem_cons h, show mks k (j + 1) = mks k j ++ [mt (k + j)] from lst_next _ _, List.append_assoc]
  rw [List.set_append_right _ _ (by omega)]
  have : j - (mks k j).length = 0 := by omega
  rw [this]
  rfl

set_option maxHeartbeats 800000 in
set_option maxRecDepth 100000 in
theorem mark_any (v : Value) (l : List ByteArray) (k B : Nat) (hk : k ≠ 0) (hkb : k ≤ 1048576) (hl : l.length ≤ 1048576) (w : World) (h : RowS B w v l) :
    Calls Tryd.prog 29 #[v, .int .i64 (k : Int)] w fun e w' => e = .returned (.int .i64 ((k + l.length : Nat) : Int)) ∧ RowS B w' v (mks k l.length) ∧ Kps (fun b => v.ownBlock = some b) w w' := by
  obtain ⟨ra, rc, hv⟩ := row_form h
  subst hv
  have h' : Hid (RowS B w (.slice ra l.length rc) (mks k 0 ++ l.drop 0)) := h
  clear h
  go_enter Tryd.func29, Tryd.ntmps29
  go_wp2
  go_loopw [1, 5] (fun x i wr => ∃ (m j : Nat), x = .int .i64 (m : Int) ∧ i = .int .i64 (j : Int) ∧ Hid (m = k + j) ∧ j ≤ l.length ∧ Hid (RowS B wr (.slice ra l.length rc) (mks k j ++ l.drop j)) ∧ Hid (Kps (fun b => (Value.slice ra l.length rc).ownBlock = some b) w wr)) (fun _ i _ => l.length - (RowKit.intOf i).toNat)
  case atStart => exact ⟨k, 0, rfl, rfl, (show k = k + 0 from rfl), Nat.zero_le _, h', Kps.refl _ _⟩
  case round =>
    obtain ⟨m, j, rfl, rfl, hm, hj, HO, HK⟩ := hrel
    clear h'
    have hmb : m ≤ 2097152 := by have := hm.out; omega
    have hm0 : m ≠ 0 := by have := hm.out; omega
    by_cases hlt : j < l.length
    · have hll : (mks k j ++ l.drop j).length = l.length := by rw [List.length_append, mks_length, List.length_drop]; omega
      rcases HO.out.2 with ⟨_, hz0⟩ | ⟨g, cap, cur, hveq, hg, _⟩
      · rw [hll] at hz0; omega
      · have hra : ra = some ⟨g, 0, none⟩ := by injection hveq
        subst hra
        have hk0 : (0 : Int) ≤ (j : Int) := by omega
        have hk1 : (j : Int) < (l.length : Int) := by omega
        clear hveq
        go_wp2_with fail
        refine (markText_any m hm0 (by omega) _).mono ?_
        rintro e w1 ⟨rfl, hb1⟩
        have hown1 : w1.ownsRow B 9 1 (.slice (some ⟨g, 0, none⟩) l.length rc) l.length ((mks k j ++ l.drop j).map Value.string) := by
          have h1 := owns_on HO.out hb1
          rw [hll] at h1
          exact h1
        obtain ⟨old, hc⟩ : ∃ old, w1.cell? ⟨g, j, none⟩ = some (.string old) := by
          have h1 := hown1.cellAt j (by omega)
          have hj2 : j < (mks k j ++ l.drop j).length := by omega
          exact ⟨(mks k j ++ l.drop j)[j], by rw [h1, List.getElem?_map, List.getElem?_eq_getElem hj2]; rfl⟩
        have hf := hown1.frozenAt j
        have hst := (hown1.stored j (.string (mt m))).1
        have hms : ((mks k j ++ l.drop j).map Value.string).set j (.string (mt m)) = (mks k (j + 1) ++ l.drop (j + 1)).map Value.string := by
          rw [← mks_step hlt, List.map_set, hm.out]
        rw [hms] at hst
        have HST : Hid (RowS B (w1.setCell ⟨g, j, none⟩ (.string (mt m))) (.slice (some ⟨g, 0, none⟩) l.length rc) (mks k (j + 1) ++ l.drop (j + 1))) := by
          have hll2 : (mks k (j + 1) ++ l.drop (j + 1)).length = l.length := by rw [List.length_append, mks_length, List.length_drop]; omega
          show World.ownsRow _ _ _ _ _ _ _
          rw [hll2]
          exact hst
        have HBS : Hid (Kps (fun b => (Value.slice (some ⟨g, 0, none⟩) l.length rc).ownBlock = some b) w (w1.setCell ⟨g, j, none⟩ (.string (mt m)))) := (HK.out.trans (.of_below hb1)).setCell (p := ⟨g, j, none⟩) rfl _
        clear hown1 hst hms hll HO HK hb1
        generalize mt m = mm at HST HBS hc ⊢
        go_wp2
        go_roundw
        case rel => exact ⟨m + 1, j + 1, by go_num, by go_num, (show m + 1 = k + (j + 1) by have := hm.out; omega), hlt, HST, HBS⟩
        case measure => simp [RowKit.intOf]; omega
    · have hje : j = l.length := by omega
      subst hje
      have HO2 : Hid (RowS B wr (.slice ra l.length rc) (mks k l.length)) := by
        have h1 := HO.out
        rw [List.drop_length, List.append_nil] at h1
        exact h1
      clear HO
      go_wp2
      go_ret
      exact ⟨by rw [← hm.out]; rfl, HO2.out, HK.out⟩

set_option maxHeartbeats 800000 in
set_option maxRecDepth 100000 in
theorem held_any (v : Value) (n k B : Nat) (hk : k ≠ 0) (hkb : k ≤ 1048576) (hl : n ≤ 1048576) (w : World) (h : RowS B w v (mks k n)) :
    Calls Tryd.prog 30 #[v, .int .i64 (k : Int)] w fun e w' => e = .returned (.int .i64 ((k + n : Nat) : Int)) ∧ Below w.heap.size w w' := by
  obtain ⟨ra, rc, hv⟩ := row_form h
  rw [mks_length] at hv
  subst hv
  have HH : Hid (w.ownsRow B 9 1 (.slice ra n rc) n ((mks k n).map Value.string)) := by
    have h1 : w.ownsRow B 9 1 (.slice ra n rc) (mks k n).length ((mks k n).map Value.string) := h
    rw [mks_length] at h1
    exact h1
  clear h
  go_enter Tryd.func30, Tryd.ntmps30
  go_wp2
  go_loopw [1, 5] (fun x i wr => ∃ (m j : Nat), x = .int .i64 (m : Int) ∧ i = .int .i64 (j : Int) ∧ Hid (m = k + j) ∧ j ≤ n ∧ Below w.heap.size w wr) (fun _ i _ => n - (RowKit.intOf i).toNat)
  case atStart => exact ⟨k, 0, rfl, rfl, (show k = k + 0 from rfl), Nat.zero_le _, Below.refl _ _⟩
  case round =>
    obtain ⟨m, j, rfl, rfl, hm, hj, hbel⟩ := hrel
    have hsz := hbel.size
    have hmb : m ≤ 2097152 := by have := hm.out; omega
    have hm0 : m ≠ 0 := by have := hm.out; omega
    by_cases hlt : j < n
    · rcases HH.out.2 with ⟨_, hz0⟩ | ⟨g, cap, cur, hveq, hg, _⟩
      · omega
      · have hra : ra = some ⟨g, 0, none⟩ := by injection hveq
        subst hra
        have hgl : g < w.heap.size := (HH.out.lt g rfl).2
        have hk0 : (0 : Int) ≤ (j : Int) := by omega
        have hk1 : (j : Int) < (n : Int) := by omega
        have hc : wr.cell? ⟨g, j, none⟩ = some (.string (mt m)) := by
          rw [hbel.cell (p := ⟨g, j, none⟩) hgl, HH.out.cellAt j (by omega), List.getElem?_map, mks_at k hlt, hm.out]
          rfl
        have hgr : g < wr.heap.size := by omega
        have HMT : Hid (∀ w, Calls Tryd.prog 49 #[.int .i64 (m : Int)] w fun e w' => e = .returned (.string (mt m)) ∧ Below w.heap.size w w') := markText_any m hm0 (by omega)
        generalize mt m = mm at hc HMT
        have Z0 : ∀ w', Below wr.heap.size wr w' → w'.cell? ⟨g, j, none⟩ = some (.string mm) := fun w' hw => (hw.cell (p := ⟨g, j, none⟩) hgr).trans hc
        clear hveq hc
        go_wp2_with fail
        refine wp_region_class 6 (fun wz => Below wr.heap.size wr wz) mixes (by kernel_rfl) (Below.refl _ _).drew ?_
        simp only [List.take_succ_cons, List.take_zero, List.drop_succ_cons, List.drop_zero]
        repeat (refine cls_step rfl (fun K hK => ⟨_, (fun w' hw => by have z0 := Z0 w' hw; go_simp; exact rfl), ?_⟩); go_simp; refine hK _ ?_; clear hK K)
        refine cls_call rfl (fun K hK => ⟨_, _, _, (fun w' => by go_simp <;> first | exact rfl | exact ⟨rfl, rfl⟩), (fun w' hw => calls_below hw (HMT.out _)), ?_⟩); go_simp; refine hK _ ?_; clear hK K
        refine wq_nil ?_
        intro w' hw
        have hbn : Below w.heap.size w w' := hbel.trans (hw.mono hsz)
        clear hw hbel Z0
        go_wp2
        go_roundw
        case rel => exact ⟨m + 1, j + 1, by go_num, by go_num, (show m + 1 = k + (j + 1) by have := hm.out; omega), hlt, hbn⟩
        case measure => simp [RowKit.intOf]; omega
    · have hje : j = n := by omega
      subst hje
      go_wp2
      go_ret
      exact ⟨by rw [← hm.out]; rfl, hbel⟩

end Go.Proofs.YtkiljlmihoaaaaaDoor
