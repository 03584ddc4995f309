/-
  The walk of impl.PartsOf.
-/
import Derived.Test.YtpienefbgpgdkalDoorPartsS
import Derived.Test.YtpienefbgpgdkalDoorShelfF
namespace Go.Proofs.YtpienefbgpgdkalDoor
open Go.RowKit Go.Lib

def allPl (s : ByteArray) : Bool := s.data.toList.all plB
theorem allPl_eq (s : ByteArray) : allPl s = s.data.toList.all plB := rfl

set_option maxHeartbeats 800000 in
set_option maxRecDepth 100000 in
theorem plain_any (s : ByteArray) (hs : s.size ≤ 1048576) (w : World) :
    Calls Tryd.prog 18 #[.string s] w fun e w' => e = .returned (.bool (allPl s)) ∧ w = w' := by
  go_enter Tryd.func18, Tryd.ntmps18
  go_wp2
  go_loop [3] (fun i => ∃ k : Nat, i = .int .i64 (k : Int) ∧ k ≤ s.size ∧ Hid ((s.data.toList.take k).all plB = true)) (fun i => s.size - (RowKit.intOf i).toNat)
  case atStart => exact ⟨0, rfl, Nat.zero_le _, (show (s.data.toList.take 0).all plB = true by simp)⟩
  case round =>
    obtain ⟨k, rfl, hk, hpl⟩ := hrel
    by_cases hlt : k < s.size
    · have hby : (s[k].toNat : Int) ≤ 255 := by have := s[k].toNat_lt; omega
      have bad : plB s[k] ≠ true → s.data.toList.all plB = false := fun hb => by
        rw [Bool.eq_false_iff]
        intro hall
        exact hb (List.all_eq_true.1 hall s[k] (by rw [← List.take_append_drop (k + 1) s.data.toList, take_snoc s k hlt]; simp))
      have BAD : Hid (plB s[k] ≠ true → s.data.toList.all plB = false) := bad
      clear bad
      by_cases p1 : 32 ≤ s[k].toNat
      · have p1a : ¬ (s[k].toNat : Int) < 32 := by omega
        by_cases p2 : s[k].toNat ≤ 126
        · have p2a : ¬ (126 : Int) < (s[k].toNat : Int) := by omega
          have hn := plain_next hpl.out hlt (by simp [plB, p1, p2])
          have HN : Hid ((s.data.toList.take (k + 1)).all plB = true) := hn
          clear hn
          go_wp2
          go_round
          case rel => exact ⟨k + 1, by go_num, hlt, HN⟩
          case measure => simp [RowKit.intOf]; omega
        · have p2a : (126 : Int) < (s[k].toNat : Int) := by omega
          go_wp2
          go_ret
          exact ⟨by rw [allPl_eq, BAD.out (by simp [plB]; omega)]; rfl, rfl⟩
      · have p1a : (s[k].toNat : Int) < 32 := by omega
        go_wp2
        go_ret
        exact ⟨by rw [allPl_eq, BAD.out (by simp [plB]; omega)]; rfl, rfl⟩
    · go_wp2
      go_ret
      exact ⟨by rw [allPl_eq, ← take_all s k hlt, hpl.out]; rfl, rfl⟩

set_option maxRecDepth 100000 in
theorem clone_any (s : ByteArray) (hs : s.size ≤ 281474976710656) (w : World) :
    Calls Tryd.prog 20 #[.string s] w fun e w' => e = .returned (.string s) ∧ Below w.heap.size w w' := by
  go_enter Tryd.func20, Tryd.ntmps20
  go_wp2_with (go_at_call 25; refine (Tryd.stringslite_Clone s _ hs).mono ?_; rintro e w1 ⟨rfl, hb⟩)
  go_ret
  exact ⟨rfl, hb⟩

theorem fieldsGo_short : ∀ (l cur : List UInt8), ∀ t ∈ fieldsGo cur l, t.length ≤ cur.length + l.length
  | [], cur, t, h => by
    unfold fieldsGo at h
    by_cases hc : cur.isEmpty = true
    · rw [if_pos hc] at h; simp at h
    · rw [if_neg hc] at h
      simp at h
      subst h
      omega
  | b :: l, cur, t, h => by
    unfold fieldsGo at h
    simp only [List.length_cons]
    by_cases hb : isSp b = true
    · rw [if_pos hb] at h
      by_cases hc : cur.isEmpty = true
      · rw [if_pos hc] at h
        have := fieldsGo_short l [] t h
        simp at this
        omega
      · rw [if_neg hc] at h
        rcases List.mem_cons.1 h with e | e
        · subst e; omega
        · have := fieldsGo_short l [] t e
          simp at this
          omega
    · rw [if_neg hb] at h
      have := fieldsGo_short l (cur ++ [b]) t h
      simp at this
      omega

theorem fields_short {l : List UInt8} {t : List UInt8} (h : t ∈ fields l) : t.length ≤ l.length := by
  have := fieldsGo_short l [] t h
  simpa using this

set_option maxHeartbeats 1600000 in
set_option maxRecDepth 100000 in
theorem iParts_any (s : ByteArray) (hs : s.size ≤ 1048576) (w : World) (htab : Lib.TabIs Tryd.prog w "strings.asciiSpace" .u8 Lib.asciiSpaceTab) :
    Calls Tryd.prog 11 #[.string s] w fun e w' => PEnd s w.heap.size e w' ∧ Below w.heap.size w w' := by
  have HLS : Hid (s.data.toList.length = s.size) := (show s.data.toList.length = s.size by simp)
  have HT : Hid (Lib.TabIs Tryd.prog w "strings.asciiSpace" .u8 Lib.asciiSpaceTab) := htab
  clear htab
  by_cases h6 : s.size ≤ 600
  · have h6' : ¬ (600 : Int) < (s.size : Int) := by omega
    have hP := plain_any s hs
    rw [allPl_eq] at hP
    rcases hall : s.data.toList.all plB with _ | _
    · rw [hall] at hP
      have HP : Hid (∀ w : World, Calls Tryd.prog 18 #[.string s] w fun e w' => e = .returned (.bool false) ∧ w = w') := hP
      have HALL : Hid (s.data.toList.all plB ≠ true) := (show s.data.toList.all plB ≠ true by rw [hall]; simp)
      clear hP hall
      go_enter Tryd.func11, Tryd.ntmps11
      go_wp2_with (go_at_call 18; refine (HP.out _).mono ?_; rintro e w1 ⟨rfl, rfl⟩)
      go_ret2
      exact ⟨PEnd.none (partsR_bad HALL.out) _ rfl (World.ownsRow_nil _ _ _ _), Below.refl _ _⟩
    · rw [hall] at hP
      have HP : Hid (∀ w : World, Calls Tryd.prog 18 #[.string s] w fun e w' => e = .returned (.bool true) ∧ w = w') := hP
      have HALL : Hid (s.data.toList.all plB = true) := hall
      have hascii : ∀ (j : Nat) b, s.data.toList[j]? = some b → b.toNat < 128 := fun j b hb => by
        have hp : plB b = true := List.all_eq_true.1 hall b (List.mem_of_getElem? hb)
        have := of_decide_eq_true hp
        omega
      have hF := Tryd.strings_Fields s w (by omega) hascii HT.out
      obtain ⟨l, hl⟩ : ∃ l, l = fields s.data.toList := ⟨_, rfl⟩
      rw [← hl] at hF
      have HF : Hid (Calls Tryd.prog 19 #[.string s] w fun e w' => e = .returned (.slice (some ⟨w.heap.size, 0, none⟩) l.length l.length) ∧ w' = w.alloc (.cells (strsV l).toArray 9)) := hF
      have HL : Hid (l = fields s.data.toList) := hl
      have hll : l.length ≤ 1048576 := by
        have h1 := fieldsGo_length s.data.toList []
        have h2 : ∀ (b : Bool) (t : List UInt8), cntF b t ≤ t.length := by
          intro b t
          induction t generalizing b with
          | nil => simp [cntF]
          | cons x r ih =>
            simp only [cntF, List.length_cons]
            have := ih (isSp x)
            split <;> omega
        have h3 := h2 true s.data.toList
        rw [hl, fields_length]
        have := HLS.out
        omega
      clear hP hall hascii hF hl
      by_cases h10 : l.length ≤ 10
      · have h10' : ¬ (10 : Int) < (l.length : Int) := by omega
        have hR : partsR s.data.toList = some l := by rw [HL.out]; exact partsR_yes (by rw [HLS.out]; exact h6) HALL.out (by rw [← HL.out]; exact h10)
        have HR : Hid (partsR s.data.toList = some l) := hR
        clear hR
        go_enter Tryd.func11, Tryd.ntmps11
        go_wp2_with (go_at_call 18; refine (HP.out _).mono ?_; rintro e w1 ⟨rfl, rfl⟩)
        refine HF.out.mono ?_
        rintro e w1 ⟨rfl, hw1⟩
        have hown0 : w1.ownsRow w.heap.size 9 1 (.slice (some ⟨w.heap.size, 0, none⟩) l.length l.length) l.length (strsV l) := by
          rw [hw1]
          have := World.ownsRow_lit (base := w.heap.size) (e := 9) (size := 1) w (strsV l).toArray l.length (Nat.le_refl _) (by unfold maxLen; omega) (by simp [strsV_length])
          simpa using this
        have hb0 : Below w.heap.size w w1 := by rw [hw1]; exact (Below.refl _ _).alloc (Nat.le_refl _) _
        clear hw1
        go_wp2
        go_loopw [22] (fun i wr => ∃ j : Nat, i = .int .i64 (j : Int) ∧ j ≤ l.length ∧ wr.ownsRow w.heap.size 9 1 (.slice (some ⟨w.heap.size, 0, none⟩) l.length l.length) l.length (strsV l) ∧ Below w.heap.size w wr) (fun i _ => l.length - (RowKit.intOf i).toNat)
        case atStart => exact ⟨0, rfl, Nat.zero_le _, hown0, hb0⟩
        case round =>
          obtain ⟨j, rfl, hj, hown, hbel⟩ := hrel
          have hsz := hbel.size
          by_cases hlt : j < l.length
          · have hk0 : (0 : Int) ≤ (j : Int) := by omega
            have hk1 : (j : Int) < (l.length : Int) := by omega
            obtain ⟨t, ht⟩ : ∃ t, t = l[j] := ⟨_, rfl⟩
            have hc : wr.cell? ⟨w.heap.size, j, none⟩ = some (.string ⟨t.toArray⟩) := by
              rw [hown.cellAt j (by omega), strsV_at hlt, ht]
            have hts : (⟨t.toArray⟩ : ByteArray).size ≤ 281474976710656 := by
              have : t.length ≤ s.data.toList.length := fields_short (by rw [← HL.out, ht]; exact List.getElem_mem _)
              rw [HLS.out] at this
              simp [ByteArray.size]
              omega
            have HSET : Hid ((strsV l).set j (.string ⟨t.toArray⟩) = strsV l) := by
              show (strsV l).set j (.string ⟨t.toArray⟩) = strsV l
              rw [strsV_set, ht, List.set_getElem_self]
            clear ht
            go_wp2_with fail
            refine (clone_any _ hts _).mono ?_
            rintro e w2 ⟨rfl, hb2⟩
            have hown2 := own_below hown hb2
            have hlt2 : w.heap.size < wr.heap.size := by have := (hown.lt w.heap.size rfl).2; omega
            have hc2 : w2.cell? ⟨w.heap.size, j, none⟩ = some (.string ⟨t.toArray⟩) := (hb2.cell (p := ⟨w.heap.size, j, none⟩) hlt2).trans hc
            have hf := hown2.frozenAt j
            have hst := (hown2.stored j (.string ⟨t.toArray⟩)).1
            rw [HSET.out] at hst
            have HST : Hid ((w2.setCell ⟨w.heap.size, j, none⟩ (.string ⟨t.toArray⟩)).ownsRow w.heap.size 9 1 (.slice (some ⟨w.heap.size, 0, none⟩) l.length l.length) l.length (strsV l)) := hst
            have HBS : Hid (Below w.heap.size w (w2.setCell ⟨w.heap.size, j, none⟩ (.string ⟨t.toArray⟩))) := (hbel.trans (hb2.mono (by omega))).setCell (Nat.le_refl _) _
            clear hown2 hst hown hc
            go_wp2
            go_roundw
            case rel => exact ⟨j + 1, by go_num, hlt, HST.out, HBS.out⟩
            case measure => simp [RowKit.intOf]; omega
          · go_wp2
            go_ret2
            exact ⟨PEnd.some HR.out _ rfl hown, hbel⟩
      · have h10' : (10 : Int) < (l.length : Int) := by omega
        go_enter Tryd.func11, Tryd.ntmps11
        go_wp2_with (go_at_call 18; refine (HP.out _).mono ?_; rintro e w1 ⟨rfl, rfl⟩)
        refine HF.out.mono ?_
        rintro e w1 ⟨rfl, hw1⟩
        have hb0 : Below w.heap.size w w1 := by rw [hw1]; exact (Below.refl _ _).alloc (Nat.le_refl _) _
        clear hw1
        go_wp2
        go_ret2
        exact ⟨PEnd.none (partsR_many (by rw [← HL.out]; exact h10)) _ rfl (World.ownsRow_nil _ _ _ _), hb0⟩
  · have h6' : (600 : Int) < (s.size : Int) := by omega
    go_enter Tryd.func11, Tryd.ntmps11
    go_wp2
    go_ret2
    exact ⟨PEnd.none (partsR_long (by rw [HLS.out]; exact h6)) _ rfl (World.ownsRow_nil _ _ _ _), Below.refl _ _⟩

end Go.Proofs.YtpienefbgpgdkalDoor
