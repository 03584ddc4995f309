/-
  The walk of impl.figureValues.
-/
import Derived.Test.YtpienefbgpgdkalDoorFigPure
import Derived.Test.YtpienefbgpgdkalDoorProg
import Derived.WalkLawsBesides
import Derived.WalkSpells
namespace Go.Proofs.YtpienefbgpgdkalDoor
open Go.RowKit

theorem info3 : (Tryd.prog.info? 3).map (fun i => (i.zero, i.size, i.bytes)) = some (some (.int .i64 0), 1, 8) := by kernel_rfl
theorem info5 : (Tryd.prog.info? 5).map (fun i => (i.zero, i.size, i.bytes)) = some (some (.int .u8 0), 1, 1) := by kernel_rfl

/-- What 'figureValues' answers. -/
def FigEnd (base : Nat) (s : ByteArray) (B : Nat) (e : Ending) (w' : World) : Prop :=
  (allV base s.data.toList = none ∧ e = .returned (.tuple #[.slice none 0 0, .bool false])) ∨
  (∃ v vs, allV base s.data.toList = some vs ∧ e = .returned (.tuple #[v, .bool true]) ∧ w'.ownsRow B 3 1 v vs.length (intsV vs))

set_option maxHeartbeats 1600000 in
set_option maxRecDepth 100000 in
theorem fig_any (s : ByteArray) (base : Nat) (hs : s.size ≤ 1048576) (w : World) :
    Calls Tryd.prog 17 #[.string s, .int .i64 (base : Int)] w fun e w' => FigEnd base s w.heap.size e w' ∧ Below w.heap.size w w' := by
  obtain ⟨i0, hi, hz0, hz1, hz2⟩ := info_parts info3
  obtain ⟨M, hM⟩ : ∃ M, M = madeCells (Value.int .i64 0).cells ((s.size : Int).toNat * i0.size) := ⟨_, rfl⟩
  have hMs : M.size = s.size * 1 := by rw [hM, size_madeCells, hz1]; simp
  have hmk : ∀ W : World, (Instr.makeSlice 34 (.int .i64 0) (.int .i64 (s.size : Int))).run Tryd.prog W = .ok (.slice (some ⟨W.heap.size, 0, none⟩) 0 s.size) (W.alloc (.cells M 3)) := fun W => by
    have h := run_make (P := Tryd.prog) W 34 3 i0 (.int .i64 0) Tryd.underlying34 hi hz0 .i64 .i64 0 (s.size : Int) (by omega) (by omega) (by rw [hz2]; omega) (by omega)
    rw [← hM] at h
    simpa using h
  clear hM
  go_enter Tryd.func17, Tryd.ntmps17
  go_wp2
  go_step3
  go_wp2
  go_step3
  go_wp2
  go_loopw [6, 7] (fun v i wr => ∃ (k : Nat) (vs : List Nat), i = .int .i64 (k : Int) ∧ Vals base s k vs ∧ wr.ownsRow w.heap.size 3 1 v vs.length (intsV vs) ∧ Below w.heap.size w wr) (fun _ i _ => s.size - (intOf i).toNat)
  case atStart => exact ⟨0, [], rfl, Vals.start _ _, World.ownsRow_made w M s.size (Nat.le_refl _) (by unfold maxLen; omega) hMs, (Below.refl _ _).alloc (Nat.le_refl _) _⟩
  case round =>
    obtain ⟨k, vs, rfl, hvals, hown, hbel⟩ := hrel
    have hl := hvals.len
    have hk := hvals.1
    have hsz := hbel.size
    clear hmk
    obtain ⟨ra, rc, hv⟩ := row_form hown
    subst hv
    by_cases hlt : k < s.size
    · have hby : (s[k].toNat : Int) ≤ 255 := by have := s[k].toNat_lt; omega
      by_cases d1 : 48 ≤ s[k].toNat ∧ s[k].toNat ≤ 57
      · have d1a : (48 : Int) ≤ (s[k].toNat : Int) := by omega
        have d1b : (s[k].toNat : Int) ≤ 57 := by omega
        have hvb := valB_dig (base := base) d1.1 d1.2
        by_cases hlb : s[k].toNat - 48 < base
        · rw [if_pos hlb] at hvb
          have HV : Hid (valB base s[k] = some (s[k].toNat - 48)) := hvb
          have hlb' : ¬ (base : Int) ≤ (s[k].toNat : Int) - 48 := by omega
          have hm63 : vs.length + 1 ≤ maxLen := by unfold maxLen; omega
          have hm47 : (vs.length + 1) * 8 ≤ 140737488355328 := by omega
          clear hvb hl
          go_wp2_with (at_builtin; refine wpList_append_own _ rfl _ _ 34 rfl w.heap.size 3 i0 (.int .i64 0) 1 8 Tryd.underlying34 hi hz0 hz1 hz2 rfl (by decide) _ _ _ rfl (hown.alloc _) ⟨wr.heap.size, 0, none⟩ 1 1 [.int .i64 ((s[k].toNat : Int) - 48)] rfl rfl (cell_one_new _ _ _) (one_cell _ _) hm63 hm47 (room_for hsz _) ?_)
          intro v' w1 hown' hgrow _
          have ez : ((s[k].toNat : Int) - 48) = ((s[k].toNat - 48 : Nat) : Int) := by omega
          rw [ez] at hown'
          have R := push_int (k := s[k].toNat - 48) hsz hbel hown hown' hgrow
          clear hown' hgrow hown ez
          go_wp2
          go_roundw
          case rel => exact ⟨k + 1, _, by go_num, hvals.next hlt HV.out, R.1, R.2⟩
          case measure => simp [intOf]; omega
        · rw [if_neg hlb] at hvb
          have HV : Hid (valB base s[k] = none) := hvb
          have hlb' : (base : Int) ≤ (s[k].toNat : Int) - 48 := by omega
          have hll : (vs.length : Int) < (s.size : Int) := by omega
          clear hvb hl
          go_wp2
          try rw [Exit.noGoto_ret]
          go_ret2
          exact ⟨.inl ⟨hvals.bad hlt HV.out, rfl⟩, hbel⟩
      · by_cases d2 : 97 ≤ s[k].toNat ∧ s[k].toNat ≤ 102
        · have d1a : (48 : Int) ≤ (s[k].toNat : Int) := by omega
          have d1b : ¬ (s[k].toNat : Int) ≤ 57 := by omega
          have d2a : (97 : Int) ≤ (s[k].toNat : Int) := by omega
          have d2b : (s[k].toNat : Int) ≤ 102 := by omega
          have hvb := valB_let (base := base) d2.1 d2.2
          by_cases hlb : s[k].toNat - 87 < base
          · rw [if_pos hlb] at hvb
            have HV : Hid (valB base s[k] = some (s[k].toNat - 87)) := hvb
            have hlb' : ¬ (base : Int) ≤ (s[k].toNat : Int) - 87 := by omega
            have hm63 : vs.length + 1 ≤ maxLen := by unfold maxLen; omega
            have hm47 : (vs.length + 1) * 8 ≤ 140737488355328 := by omega
            clear hvb hl
            go_wp2_with (at_builtin; refine wpList_append_own _ rfl _ _ 34 rfl w.heap.size 3 i0 (.int .i64 0) 1 8 Tryd.underlying34 hi hz0 hz1 hz2 rfl (by decide) _ _ _ rfl (hown.alloc _) ⟨wr.heap.size, 0, none⟩ 1 1 [.int .i64 ((s[k].toNat : Int) - 97 + 10)] rfl rfl (cell_one_new _ _ _) (one_cell _ _) hm63 hm47 (room_for hsz _) ?_)
            intro v' w1 hown' hgrow _
            have ez : ((s[k].toNat : Int) - 97 + 10) = ((s[k].toNat - 87 : Nat) : Int) := by omega
            rw [ez] at hown'
            have R := push_int (k := s[k].toNat - 87) hsz hbel hown hown' hgrow
            clear hown' hgrow hown ez
            go_wp2
            go_roundw
            case rel => exact ⟨k + 1, _, by go_num, hvals.next hlt HV.out, R.1, R.2⟩
            case measure => simp [intOf]; omega
          · rw [if_neg hlb] at hvb
            have HV : Hid (valB base s[k] = none) := hvb
            have hlb' : (base : Int) ≤ (s[k].toNat : Int) - 87 := by omega
            have hll : (vs.length : Int) < (s.size : Int) := by omega
            clear hvb hl
            go_wp2
            try rw [Exit.noGoto_ret]
            go_ret2
            exact ⟨.inl ⟨hvals.bad hlt HV.out, rfl⟩, hbel⟩
        · have hvb := valB_not (base := base) d1 d2
          have HV : Hid (valB base s[k] = none) := hvb
          have hll : (vs.length : Int) < (s.size : Int) := by omega
          clear hvb hl
          by_cases e1 : 48 ≤ s[k].toNat
          · have e1a : (48 : Int) ≤ (s[k].toNat : Int) := by omega
            have e1b : ¬ (s[k].toNat : Int) ≤ 57 := by omega
            by_cases e2 : 97 ≤ s[k].toNat
            · have e2a : (97 : Int) ≤ (s[k].toNat : Int) := by omega
              have e2b : ¬ (s[k].toNat : Int) ≤ 102 := by omega
              go_wp2
              try rw [Exit.noGoto_ret]
              go_ret2
              exact ⟨.inl ⟨hvals.bad hlt HV.out, rfl⟩, hbel⟩
            · have e2a : ¬ (97 : Int) ≤ (s[k].toNat : Int) := by omega
              go_wp2
              try rw [Exit.noGoto_ret]
              go_ret2
              exact ⟨.inl ⟨hvals.bad hlt HV.out, rfl⟩, hbel⟩
          · have e1a : ¬ (48 : Int) ≤ (s[k].toNat : Int) := by omega
            have e2a : ¬ (97 : Int) ≤ (s[k].toNat : Int) := by omega
            go_wp2
            try rw [Exit.noGoto_ret]
            go_ret2
            exact ⟨.inl ⟨hvals.bad hlt HV.out, rfl⟩, hbel⟩
    · have hll : ¬ (vs.length : Int) < (s.size : Int) := by omega
      clear hl
      go_wp2
      try rw [Exit.noGoto_ret]
      go_ret2
      exact ⟨.inr ⟨_, vs, hvals.all hlt, rfl, hown⟩, hbel⟩

end Go.Proofs.YtpienefbgpgdkalDoor
