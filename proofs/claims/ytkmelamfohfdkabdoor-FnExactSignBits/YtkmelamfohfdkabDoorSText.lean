/-
  The walks of the specification's words of a text, and text of words.
  (-DROP-: what the seat lacks is left out.)
-/
import Derived.Test.YtkmelamfohfdkabDoorSpecPure
import Derived.Test.YtkmelamfohfdkabDoorJoined12
namespace Go.Proofs.YtkmelamfohfdkabDoor
open Go.RowKit

theorem infoA' : (Tryd.prog.info? 56).map (·.size) = some 25 := by kernel_rfl

/-- The first k words of a text. -/
def ldK (l : List UInt8) : Nat → Nat → BitVec 64
  | 0 => zf
  | k + 1 => upd (ldK l k) k (wordAt l (8 * k))
theorem ldK_at (l : List UInt8) (k i : Nat) : ldK l k i = if i < k then wordAt l (8 * i) else 0#64 := by
  induction k with
  | zero => rfl
  | succ k ih =>
    rw [ldK]
    unfold upd
    by_cases h : i = k
    · subst h; rw [if_pos rfl, if_pos (by omega)]
    · rw [if_neg h, ih]
      by_cases h2 : i < k
      · rw [if_pos h2, if_pos (by omega)]
      · rw [if_neg h2, if_neg (by omega)]
theorem ldK_all (l : List UInt8) (i : Nat) (h : i < 25) : ldK l 25 i = loadF l i := by rw [ldK_at, if_pos h]; rfl

/-- The first k bytes of the words. -/
def stK (f : Nat → BitVec 64) (k : Nat) : List UInt8 := (List.range k).map fun i => byteOf (f (i / 8)) (i % 8)
theorem stK_length (f : Nat → BitVec 64) (k : Nat) : (stK f k).length = k := by simp [stK]
theorem stK_succ (f : Nat → BitVec 64) (k : Nat) : stK f (k + 1) = stK f k ++ [byteOf (f (k / 8)) (k % 8)] := by simp [stK, List.range_succ]
theorem stK_all (f : Nat → BitVec 64) : stK f 200 = textL f 25 := by
  apply List.ext_getElem?
  intro i
  by_cases hi : i < 200
  · have h1 : i < (textL f 25).length := by rw [textL_length]; omega
    have h2 := textL_getD f 25 i (by omega)
    rw [List.getD_eq_getElem?_getD, List.getElem?_eq_getElem h1] at h2
    rw [List.getElem?_eq_getElem h1]
    simp [stK, hi]
    exact h2.symm
  · rw [List.getElem?_eq_none (by rw [stK_length]; omega), List.getElem?_eq_none (by rw [textL_length]; omega)]

set_option maxHeartbeats 400000 in
set_option maxRecDepth 100000 in
theorem sText_any (f : Nat → BitVec 64) (w : World) :
    Calls Tryd.prog 45 #[.agg (sc f 25)] w fun e w' => e = .returned (.string (textT f 25)) ∧ Below w.heap.size w w' := by
  have hmk : ∀ W : World, (Instr.makeSlice 45 (.int .i64 200) (.int .i64 200)).run Tryd.prog W = .ok (.slice (some ⟨W.heap.size, 0, none⟩) 200 200) (W.alloc (.cells (bCells (List.replicate 200 0)) 5)) := fun W => make_bytes 200 200 (by omega) (by omega) W
  obtain ⟨W, hW⟩ : ∃ W, W = w.alloc (.cells (sc f 25) 56) := ⟨_, rfl⟩
  obtain ⟨b2, hb2⟩ : ∃ b, b = w.heap.size + 1 := ⟨_, rfl⟩
  have hWs : b2 = W.heap.size := by rw [hb2, hW, size_alloc]
  have HWS : Hid (b2 = W.heap.size) := hWs
  have HA : Hid (∀ o, At (W.alloc o) w.heap.size 56 25 f) := fun o => by rw [hW]; exact (At.new _ _ _ _).alloc _
  have HBL : Hid (Below w.heap.size w W) := by
    show Below _ _ _
    rw [hW]; exact (Below.refl _ _).alloc (Nat.le_refl _) _
  go_enter Tryd.func45, Tryd.ntmps45
  go_wp2
  rw [← hb2, ← hW]
  clear hmk hW hb2 hWs
  go_loopw [4] (fun i wr => ∃ k : Nat, i = .int .i64 (k : Int) ∧ k ≤ 200 ∧ wr = W.alloc (.cells (bCells (stK f k ++ List.replicate (200 - k) 0)) 5)) (fun i _ => 200 - (intOf i).toNat)
  case atStart => exact ⟨0, rfl, Nat.zero_le _, rfl⟩
  case round =>
    obtain ⟨k, rfl, hk, rfl⟩ := hrel
    by_cases hlt : k < 200
    · have hlt' : (k : Int) < 200 := by omega
      obtain ⟨q, hq⟩ : ∃ q, q = k / 8 := ⟨_, rfl⟩
      obtain ⟨r, hr⟩ : ∃ r, r = k % 8 := ⟨_, rfl⟩
      have hq1 : (k : Int) / 8 = (q : Int) := by omega
      have hq2 : Int.tdiv (k : Int) 8 = (q : Int) := by rw [Int.tdiv_eq_ediv_of_nonneg (by omega)]; exact hq1
      have hr1 : (k : Int) % 8 = (r : Int) := by omega
      have hr2 : Int.tmod (k : Int) 8 = (r : Int) := by rw [Int.tmod_eq_emod_of_nonneg (by omega)]; exact hr1
      have hq25 : (q : Int) < 25 := by omega
      have hr8 : (r : Int) < 8 := by omega
      have h8 : (8 * (r : Int)).toNat = 8 * r := by omega
      have h80 : (0 : Int) ≤ 8 * (r : Int) := by omega
      have hmin : min (8 * r) 64 = 8 * r := by omega
      have hw1 : IntKind.u64.wrap (r : Int) = (r : Int) := wrap_wv r (by omega)
      have hw2 : IntKind.u64.wrap (8 * (r : Int)) = 8 * (r : Int) := by
        rw [show (8 : Int) * r = ((8 * r : Nat) : Int) by omega]; exact wrap_wv _ (by omega)
      have hshr := wv_shr
      have hbw := byteOf_wrap (f q) r
      obtain ⟨l, hl⟩ : ∃ l, l = stK f k ++ List.replicate (200 - k) 0 := ⟨_, rfl⟩
      have hll : l.length = 200 := by rw [hl]; simp [stK_length]; omega
      have HL : Hid (stK f (k + 1) ++ List.replicate (200 - (k + 1)) 0 = l.set k (byteOf (f q) r)) := by
        show stK f (k + 1) ++ List.replicate (200 - (k + 1)) 0 = l.set k (byteOf (f q) r)
        rw [hl, hq, hr, stK_succ, List.set_append_right _ _ (by simp [stK_length]), stK_length, Nat.sub_self, List.append_assoc]
        congr 1
        rw [show 200 - k = (200 - (k + 1)) + 1 by omega, List.replicate_succ]; rfl
      rw [← hl]
      have hat := bCells_at l k (by omega)
      have hset := bCells_set l k (byteOf (f q) r)
      have hc := (HA.out (.cells (bCells l) 5)).cell q (by omega)
      have hnb := HWS.out
      clear hl hq hr
      go_wp2
      go_roundw
      case rel => exact ⟨k + 1, by go_num, hlt, by rw [HL.out]⟩
      case measure => simp [intOf]; omega
    · have hlt' : ¬ (k : Int) < 200 := by omega
      obtain rfl : k = 200 := by omega
      have hcv := text_of_row (owns_cells W (stK f 200) (by simp [stK_length]))
      rw [stK_length, ← HWS.out] at hcv
      have he : stK f 200 ++ List.replicate (200 - 200) 0 = stK f 200 := by simp
      rw [he]
      clear he
      have HE : Hid (stK f 200 = textL f 25) := stK_all f
      go_wp2
      go_ret
      exact ⟨by unfold textT; rw [← HE.out]; rfl, HBL.out.trans ((Below.refl _ _).alloc HBL.out.size _)⟩

end Go.Proofs.YtkmelamfohfdkabDoor
