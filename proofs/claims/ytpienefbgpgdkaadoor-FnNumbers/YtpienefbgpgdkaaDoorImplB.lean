/-
  Contracts of chapter 1, carried from the seats of its exact laws: ImplB.
-/
import Derived.Test.YtpienefbgpgdkaaDoorImplA
namespace Go.Proofs.YtpienefbgpgdkaaDoor
open Go.RowKit Go.Lib

theorem info3 : (Tryd.prog.info? 3).map (fun i => (i.zero, i.size, i.bytes)) = some (some (.int .i64 0), 1, 8) := by kernel_rfl
/-- What 'figureValues' answers. -/
def FigEnd (base : Nat) (s : ByteArray) (B : Nat) (e : Ending) (w' : World) : Prop :=
  (allV base s.data.toList = none ∧ e = .returned (.tuple #[.slice none 0 0, .bool false])) ∨
  (∃ v vs, allV base s.data.toList = some vs ∧ e = .returned (.tuple #[v, .bool true]) ∧ w'.ownsRow B 3 1 v vs.length (intsV vs))

set_option maxHeartbeats 1600000 in
set_option maxRecDepth 100000 in
theorem fig_any (s : ByteArray) (base : Nat) (hs : s.size ≤ 1048576) (w : World) :
    Calls Tryd.prog 17 #[.string s, .int .i64 (base : Int)] w fun e w' => FigEnd base s w.heap.size e w' ∧ Below w.heap.size w w' := by
  obtain ⟨i0, hi, hz0, hz1, hz2⟩ := info_parts info3
  obtain ⟨M, hM⟩ : ∃ M, M = madeCells (Value.int .i64 0).cells ((s.size : Int).toNat * i0.size) := ⟨_, rfl⟩
  have hMs : M.size = s.size * 1 := by rw [hM, size_madeCells, hz1]; simp
  have hmk : ∀ W : World, (Instr.makeSlice 39 (.int .i64 0) (.int .i64 (s.size : Int))).run Tryd.prog W = .ok (.slice (some ⟨W.heap.size, 0, none⟩) 0 s.size) (W.alloc (.cells M 3)) := fun W => by
    have h := run_make (P := Tryd.prog) W 39 3 i0 (.int .i64 0) Tryd.underlying39 hi hz0 .i64 .i64 0 (s.size : Int) (by omega) (by omega) (by rw [hz2]; omega) (by omega)
    rw [← hM] at h
    simpa using h
  clear hM
  go_enter Tryd.func17, Tryd.ntmps17
  go_wp2
  go_step3
  go_wp2
  go_step3
  go_wp2
  go_loopw [6, 7] (fun v i wr => ∃ (k : Nat) (vs : List Nat), i = .int .i64 (k : Int) ∧ Vals base s k vs ∧ wr.ownsRow w.heap.size 3 1 v vs.length (intsV vs) ∧ Below w.heap.size w wr) (fun _ i _ => s.size - (RowKit.intOf i).toNat)
  case atStart => exact ⟨0, [], rfl, Vals.start _ _, World.ownsRow_made w M s.size (Nat.le_refl _) (by unfold maxLen; omega) hMs, (Below.refl _ _).alloc (Nat.le_refl _) _⟩
  case round =>
    obtain ⟨k, vs, rfl, hvals, hown, hbel⟩ := hrel
    have hl := hvals.len
    have hk := hvals.1
    have hsz := hbel.size
    clear hmk
    obtain ⟨ra, rc, hv⟩ := row_form hown
    subst hv
    by_cases hlt : k < s.size
    · have hby : (s[k].toNat : Int) ≤ 255 := by have := s[k].toNat_lt; omega
      by_cases d1 : 48 ≤ s[k].toNat ∧ s[k].toNat ≤ 57
      · have d1a : (48 : Int) ≤ (s[k].toNat : Int) := by omega
        have d1b : (s[k].toNat : Int) ≤ 57 := by omega
        have hvb := valB_dig (base := base) d1.1 d1.2
        by_cases hlb : s[k].toNat - 48 < base
        · rw [if_pos hlb] at hvb
          have HV : Hid (valB base s[k] = some (s[k].toNat - 48)) := hvb
          have hlb' : ¬ (base : Int) ≤ (s[k].toNat : Int) - 48 := by omega
          have hm63 : vs.length + 1 ≤ maxLen := by unfold maxLen; omega
          have hm47 : (vs.length + 1) * 8 ≤ 140737488355328 := by omega
          clear hvb hl
          go_wp2_with (at_builtin; refine wpList_append_own _ rfl _ _ 39 rfl w.heap.size 3 i0 (.int .i64 0) 1 8 Tryd.underlying39 hi hz0 hz1 hz2 rfl (by decide) _ _ _ rfl (hown.alloc _) ⟨wr.heap.size, 0, none⟩ 1 1 [.int .i64 ((s[k].toNat : Int) - 48)] rfl rfl (cell_one_new _ _ _) (one_cell _ _) hm63 hm47 (room_for hsz _) ?_)
          intro v' w1 hown' hgrow _
          have ez : ((s[k].toNat : Int) - 48) = ((s[k].toNat - 48 : Nat) : Int) := by omega
          rw [ez] at hown'
          have R := push_int (k := s[k].toNat - 48) hsz hbel hown hown' hgrow
          clear hown' hgrow hown ez
          go_wp2
          go_roundw
          case rel => exact ⟨k + 1, _, by go_num, hvals.next hlt HV.out, R.1, R.2⟩
          case measure => simp [RowKit.intOf]; omega
        · rw [if_neg hlb] at hvb
          have HV : Hid (valB base s[k] = none) := hvb
          have hlb' : (base : Int) ≤ (s[k].toNat : Int) - 48 := by omega
          have hll : (vs.length : Int) < (s.size : Int) := by omega
          clear hvb hl
          go_wp2
          try rw [Exit.noGoto_ret]
          go_ret2
          exact ⟨.inl ⟨hvals.bad hlt HV.out, rfl⟩, hbel⟩
      · by_cases d2 : 97 ≤ s[k].toNat ∧ s[k].toNat ≤ 102
        · have d1a : (48 : Int) ≤ (s[k].toNat : Int) := by omega
          have d1b : ¬ (s[k].toNat : Int) ≤ 57 := by omega
          have d2a : (97 : Int) ≤ (s[k].toNat : Int) := by omega
          have d2b : (s[k].toNat : Int) ≤ 102 := by omega
          have hvb := valB_let (base := base) d2.1 d2.2
          by_cases hlb : s[k].toNat - 87 < base
          · rw [if_pos hlb] at hvb
            have HV : Hid (valB base s[k] = some (s[k].toNat - 87)) := hvb
            have hlb' : ¬ (base : Int) ≤ (s[k].toNat : Int) - 87 := by omega
            have hm63 : vs.length + 1 ≤ maxLen := by unfold maxLen; omega
            have hm47 : (vs.length + 1) * 8 ≤ 140737488355328 := by omega
            clear hvb hl
            go_wp2_with (at_builtin; refine wpList_append_own _ rfl _ _ 39 rfl w.heap.size 3 i0 (.int .i64 0) 1 8 Tryd.underlying39 hi hz0 hz1 hz2 rfl (by decide) _ _ _ rfl (hown.alloc _) ⟨wr.heap.size, 0, none⟩ 1 1 [.int .i64 ((s[k].toNat : Int) - 97 + 10)] rfl rfl (cell_one_new _ _ _) (one_cell _ _) hm63 hm47 (room_for hsz _) ?_)
            intro v' w1 hown' hgrow _
            have ez : ((s[k].toNat : Int) - 97 + 10) = ((s[k].toNat - 87 : Nat) : Int) := by omega
            rw [ez] at hown'
            have R := push_int (k := s[k].toNat - 87) hsz hbel hown hown' hgrow
            clear hown' hgrow hown ez
            go_wp2
            go_roundw
            case rel => exact ⟨k + 1, _, by go_num, hvals.next hlt HV.out, R.1, R.2⟩
            case measure => simp [RowKit.intOf]; omega
          · rw [if_neg hlb] at hvb
            have HV : Hid (valB base s[k] = none) := hvb
            have hlb' : (base : Int) ≤ (s[k].toNat : Int) - 87 := by omega
            have hll : (vs.length : Int) < (s.size : Int) := by omega
            clear hvb hl
            go_wp2
            try rw [Exit.noGoto_ret]
            go_ret2
            exact ⟨.inl ⟨hvals.bad hlt HV.out, rfl⟩, hbel⟩
        · have hvb := valB_not (base := base) d1 d2
          have HV : Hid (valB base s[k] = none) := hvb
          have hll : (vs.length : Int) < (s.size : Int) := by omega
          clear hvb hl
          by_cases e1 : 48 ≤ s[k].toNat
          · have e1a : (48 : Int) ≤ (s[k].toNat : Int) := by omega
            have e1b : ¬ (s[k].toNat : Int) ≤ 57 := by omega
            by_cases e2 : 97 ≤ s[k].toNat
            · have e2a : (97 : Int) ≤ (s[k].toNat : Int) := by omega
              have e2b : ¬ (s[k].toNat : Int) ≤ 102 := by omega
              go_wp2
              try rw [Exit.noGoto_ret]
              go_ret2
              exact ⟨.inl ⟨hvals.bad hlt HV.out, rfl⟩, hbel⟩
            · have e2a : ¬ (97 : Int) ≤ (s[k].toNat : Int) := by omega
              go_wp2
              try rw [Exit.noGoto_ret]
              go_ret2
              exact ⟨.inl ⟨hvals.bad hlt HV.out, rfl⟩, hbel⟩
          · have e1a : ¬ (48 : Int) ≤ (s[k].toNat : Int) := by omega
            have e2a : ¬ (97 : Int) ≤ (s[k].toNat : Int) := by omega
            go_wp2
            try rw [Exit.noGoto_ret]
            go_ret2
            exact ⟨.inl ⟨hvals.bad hlt HV.out, rfl⟩, hbel⟩
    · have hll : ¬ (vs.length : Int) < (s.size : Int) := by omega
      clear hl
      go_wp2
      try rw [Exit.noGoto_ret]
      go_ret2
      exact ⟨.inr ⟨_, vs, hvals.all hlt, rfl, hown⟩, hbel⟩

def ret2 : Option (List UInt8) → Value
  | none => .tuple #[.string ⟨#[]⟩, .bool false]
  | some l => .tuple #[.string ⟨l.toArray⟩, .bool true]

/-- The append of a byte, at its place in a statement that draws its order. -/
theorem step_push1 {ops : Array Oper} {o : Oper} {a : Act} {K : Act → World → Prop} {Q : Exit → Act → World → Prop} {E : Prop} (hgd : o.guard = none) (s x : Operand)
    (ho : o.op = .call { callee := .builtin .append, args := #[s, x], argTypes := #[22, 22] }) (base : Nat) (wr : World) (v : Value) (l : List UInt8) (z : Int) (hs : a.eval s = v)
    (hown : wr.ownsRow base 5 1 v l.length (bytesV l)) (hx : a.eval x = .slice (some ⟨wr.heap.size, 0, none⟩) 1 1) (hl : l.length ≤ 1000000) (hB : base ≤ wr.heap.size)
    (h : ∀ g cap w', w'.ownsRow base 5 1 (.slice (some ⟨g, 0, none⟩) (l.length + 1) cap) (l.length + 1) (bytesV l ++ [.int .u8 z]) →
      ((wr.alloc (.cells #[.int .u8 z] 5)).drew).grownBy w' v.ownBlock → Below base wr w' → K (a.put o.dst (.slice (some ⟨g, 0, none⟩) (l.length + 1) cap)) w') :
    if Region.wanted o (yielded ops a.tmps) = true then Oper.wp Tryd.prog o a ((wr.alloc (.cells #[.int .u8 z] 5)).drew) K Q else E := by
  obtain ⟨i0, hi, hz0, hz1, hz2⟩ := info_parts info5
  refine step_append_lies _ hgd s x 22 ho base 5 i0 (.int .u8 0) 1 1 Tryd.underlying22 hi hz0 hz1 hz2 rfl Nat.zero_lt_one v l.length (bytesV l) hs ((hown.alloc _).drew) ⟨wr.heap.size, 0, none⟩ 1 1 [.int .u8 z] hx rfl
    (World.news_of_block (cs := #[.int .u8 z]) (t := 5) (fr := (0, 0)) (heap_alloc_new wr _)) (one_cell _ _) Nat.zero_lt_one (by unfold maxLen; omega) (by omega) (by simp; omega) (wr.heap.size + 1) (by simp) ?_
  intro g cap w1 h1 h2 _ _
  exact h g cap w1 h1 h2 ((((Below.refl base wr).alloc hB _).drew).grown h2 (by simp; omega) (fun k hk => (hown.lt k hk).1))

theorem fig_16 (s : ByteArray) (hs : s.size ≤ 1048576) (w : World) :
    Calls Tryd.prog 17 #[.string s, .int .i64 16] w fun e w' => FigEnd 16 s w.heap.size e w' ∧ Below w.heap.size w w' := fig_any s 16 hs w

theorem wraps16 (x y : Nat) (hx : x < 16) (hy : y < 16) : IntKind.i64.wrap ((x : Int) * 16) = (x : Int) * 16 ∧ IntKind.i64.wrap ((x : Int) * 16 + (y : Int)) = (x : Int) * 16 + (y : Int) ∧ IntKind.u8.wrap ((x : Int) * 16 + (y : Int)) = (x : Int) * 16 + (y : Int) :=
  ⟨IntWalk.i64_in _ (by omega), IntWalk.i64_in _ (by omega), IntWalk.u8_in _ (by omega)⟩

set_option maxHeartbeats 1600000 in
set_option maxRecDepth 100000 in
theorem iUnhex_ok (s : ByteArray) (hs : s.size ≤ 40000) (he : s.size % 2 = 0) (w : World) :
    Calls Tryd.prog 14 #[.string s] w fun e w' => e = .returned (ret2 (unS s.data.toList)) ∧ Below w.heap.size w w' := by
  obtain ⟨i0, hi, hz0, hz1, hz2⟩ := info_parts info5
  have h1 : ¬ (40000 : Int) < (s.size : Int) := by omega
  have h2 : ((s.size : Int) % 2 == 0) = true := by simp; omega
  have hun := unS_eq s.data.toList (by simpa using he)
  have HUN : Hid (unS s.data.toList = (allV 16 s.data.toList).map pairB) := hun
  clear hun
  go_enter Tryd.func14, Tryd.ntmps14
  go_wp2_with fail
  refine (fig_16 s (by omega) _).mono ?_
  rintro e w1 ⟨hend, hb1⟩
  rcases hend with ⟨hN, rfl⟩ | ⟨v, vs, hS, rfl, hownv⟩
  · have HN : Hid (allV 16 s.data.toList = none) := hN
    clear hN
    go_wp2
    go_ret2
    exact ⟨by rw [HUN.out, HN.out]; rfl, hb1⟩
  · have hlen : vs.length = s.size := by rw [allV_len hS]; simp
    have hlt16 := allV_lt hS
    have HS : Hid (allV 16 s.data.toList = some vs) := hS
    have HLEN : Hid (vs.length = s.size) := hlen
    have hvl : vs.length ≤ 40000 := by omega
    clear hS hlen
    have HLT : Hid (∀ v ∈ vs, v < 16 ∧ v < 16) := hlt16
    clear hlt16
    obtain ⟨ra, rc, hv⟩ := row_form hownv
    subst hv
    obtain ⟨M, hM⟩ : ∃ M, M = madeCells (Value.int .u8 0).cells (((vs.length : Int) / 2).toNat * i0.size) := ⟨_, rfl⟩
    have hMs : M.size = vs.length / 2 * 1 := by rw [hM, size_madeCells, hz1]; simp; omega
    have hmk : ∀ W : World, (Instr.makeSlice 22 (.int .i64 0) (.int .i64 ((vs.length : Int) / 2))).run Tryd.prog W = .ok (.slice (some ⟨W.heap.size, 0, none⟩) 0 (vs.length / 2)) (W.alloc (.cells M 5)) := fun W => by
      have h := run_make (P := Tryd.prog) W 22 5 i0 (.int .u8 0) Tryd.underlying22 hi hz0 .i64 .i64 0 ((vs.length : Int) / 2) (by omega) (by omega) (by rw [hz2]; omega) (by omega)
      rw [← hM] at h
      have e : ((vs.length : Int) / 2).toNat = vs.length / 2 := by omega
      rw [e] at h
      simpa using h
    clear hM
    go_wp2
    go_loopw [6, 7] (fun v i wr => ∃ k j : Nat, i = .int .i64 (j : Int) ∧ Hid (j = 2 * k) ∧ j ≤ vs.length ∧ wr.ownsRow w1.heap.size 5 1 v (pairB (vs.take j)).length (bytesV (pairB (vs.take j))) ∧ Below w1.heap.size w1 wr) (fun _ i _ => vs.length - (RowKit.intOf i).toNat)
    case atStart => exact ⟨0, 0, rfl, (show 0 = 2 * 0 from rfl), Nat.zero_le _, World.ownsRow_made w1 M (vs.length / 2) (Nat.le_refl _) (by unfold maxLen; omega) hMs, (Below.refl _ _).alloc (Nat.le_refl _) _⟩
    case round =>
      obtain ⟨k, j, rfl, hj, hle, hown, hbel⟩ := hrel
      clear hmk
      have hsz := hbel.size
      by_cases hlt : j + 1 < vs.length
      · rcases hownv.2 with ⟨_, h0⟩ | ⟨g, cap, cur, hveq, hg, _⟩
        · omega
        · have hra : ra = some ⟨g, 0, none⟩ := by injection hveq
          subst hra
          have hgl : g < w1.heap.size := (hownv.lt g rfl).2
          obtain ⟨x, hx⟩ : ∃ x, x = vs[j] := ⟨_, rfl⟩
          obtain ⟨y, hy⟩ : ∃ y, y = vs[j + 1] := ⟨_, rfl⟩
          have hx16 : x < 16 := by rw [hx]; exact (HLT.out _ (List.getElem_mem _)).1
          have hy16 : y < 16 := by rw [hy]; exact (HLT.out _ (List.getElem_mem _)).1
          have hcx : wr.cell? ⟨g, j, none⟩ = some (.int .i64 (x : Int)) := by
            rw [hbel.cell (p := ⟨g, j, none⟩) hgl, hownv.cellAt j (by omega), hx]; exact intsV_at (by omega)
          have hcy : wr.cell? ⟨g, j + 1, none⟩ = some (.int .i64 (y : Int)) := by
            rw [hbel.cell (p := ⟨g, j + 1, none⟩) hgl, hownv.cellAt (j + 1) (by omega), hy]; exact intsV_at hlt
          have HN : Hid (pairB (vs.take (j + 2)) = pairB (vs.take j) ++ [UInt8.ofNat (x * 16 + y)]) := by
            have e := hj.out
            subst e
            have := pairB_next (vs := vs) (k := k) hlt
            rw [hx, hy, Nat.mul_comm vs[2 * k] 16]
            exact this
          clear hx hy
          have hk0 : (0 : Int) ≤ (j : Int) := by omega
          have hk1 : (j : Int) < (vs.length : Int) := by omega
          have hk2 : (j : Int) + 1 < (vs.length : Int) := by omega
          have hk3 : (0 : Int) ≤ (j : Int) + 1 := by omega
          have hwj : IntKind.i64.wrap ((j : Int) + 1) = (j : Int) + 1 := IntWalk.i64_in _ (by omega)
          obtain ⟨hw1, hw2, hw3⟩ := wraps16 x y hx16 hy16
          have hpl : (pairB (vs.take j)).length ≤ 1000000 := by rw [pairB_len]; simp; omega
          go_wp2_with fail
          go_region_held3 (fun w' => w'.cell? ⟨g, j, none⟩ = some (.int .i64 (x : Int)) ∧ w'.cell? ⟨g, j + 1, none⟩ = some (.int .i64 (y : Int))) (first | go_keep | exact ⟨(hfar.cell (p := ⟨g, j, none⟩) hgl).trans hcx, (hfar.cell (p := ⟨g, j + 1, none⟩) hgl).trans hcy⟩)
            ((refine step_push1 ?_ (.tmp 35) (.tmp 48) ?_ w1.heap.size wr _ _ _ ?_ hown ?_ hpl hsz ?_; rfl; rfl; rfl; rfl; intro gg cap w2 hown1 hgrow hfar))
          all_goals
            have R := push_byte (w := w1) (k := x * 16 + y) (by omega) (by simp) (by simp; omega) ((hbel.alloc hsz _).drew) hown hown1 hgrow
            have hle2 : j + 2 ≤ vs.length := by omega
            rw [← HN.out] at R
            clear hown1 hgrow hown hfar
            go_wp2
            go_roundw
            case rel => exact ⟨k + 1, j + 2, by go_num, (show j + 2 = 2 * (k + 1) by have := hj.out; omega), hle2, R.1, R.2⟩
            case measure => simp [RowKit.intOf]; omega
      · have hlt' : ¬ (j : Int) + 1 < (vs.length : Int) := by omega
        have hcv := text_of_row hown
        have hev : j = vs.length := by have := hj.out; have := HLEN.out; omega
        have HEV : Hid (j = vs.length) := hev
        clear hev
        go_wp2
        go_ret2
        refine ⟨?_, hb1.trans (hbel.mono hb1.size)⟩
        rw [HUN.out, HS.out, HEV.out]
        simp [ret2]


end Go.Proofs.YtpienefbgpgdkaaDoor
