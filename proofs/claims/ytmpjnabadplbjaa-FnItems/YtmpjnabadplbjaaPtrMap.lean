/-
  A set of pairs of pointers to items, held in a map: what it tells, and one more.
  (-DROP-: what the seat lacks is left out.)
-/
import Derived.Test.YtmpjnabadplbjaaJoined3
import Derived.LaidEqlPtr
import Derived.Laws.StructEq
import Derived.WideKeyRuns
namespace Go.Proofs.Ytmpjnabadplbjaa
open Go.RowKit

/-- Block b holds cells that may be pointed to. -/
def Plain (w : World) (b : Nat) : Prop := ∃ cs t, w.heap[b]? = some (.cells cs t (0, 0))
/-- A key. -/
def keyV (k : Addr × Addr) : Value := .agg #[.pointer (some k.1), .pointer (some k.2)]
/-- What a key points to are cells. -/
def PlainK (w : World) (k : Addr × Addr) : Prop := Plain w k.1.block ∧ Plain w k.2.block

theorem ptr_info : (Try.prog.info? 26).map (·.size) = some 3 := by kernel_rfl
theorem ptr_eq (d : Nat) (w : World) (p q : Addr) (hp : Plain w p.block) (hq : Plain w q.block) : (Op.equalIn (d + 1) 75 (.pointer (some p)) (.pointer (some q))).run Try.prog w = .ok (decide (p = q)) w := by
  obtain ⟨i, hi, hs⟩ : ∃ i, Try.prog.info? 26 = some i ∧ i.size = 3 := by
    have h := ptr_info
    cases h2 : Try.prog.info? 26 with
    | none => rw [h2] at h; cases h
    | some i => rw [h2] at h; injection h with h; exact ⟨i, rfl, h⟩
  obtain ⟨c1, t1, h1⟩ := hp
  obtain ⟨c2, t2, h2⟩ := hq
  by_cases h : p = q
  · subst h
    simp [Op.equalIn, run_underlying Try.underlying75, sizeOf, typeInfo, hi, run_sameAddr_same]
  · simp [Op.equalIn, run_underlying Try.underlying75, sizeOf, typeInfo, hi, hs, run_sameAddr_other w h h1 h2, h]
theorem pair_held : Try.prog.stoodInHeld 77 = false := by kernel_rfl
theorem part_ptr (w : World) (x y : Value) : (part 75 #[x, y] 0).run Try.prog w = .ok x w ∧ (part 75 #[x, y] 1).run Try.prog w = .ok y w := by
  constructor <;> kernel_rfl
theorem pair_eq (w : World) (k l : Addr × Addr) (hk : PlainK w k) (hl : PlainK w l) : (Op.equal 77 (keyV k) (keyV l)).run Try.prog w = .ok (decide (k = l)) w := by
  unfold Op.equal Op.maxDepth keyV
  rw [run_equalIn_struct w 9999 77 _ _ (by kernel_rfl) pair_held]
  simp only [Program.fieldsOf, Try.underlying77, Op.eqFields, Sem.run_bind, Sem.run_ite]
  rw [if_pos (by decide)]
  rw [(part_ptr w _ _).1, Result.andThen_ok, (part_ptr w _ _).1, Result.andThen_ok, ptr_eq 9998 w _ _ hk.1 hl.1, Result.andThen_ok]
  by_cases h1 : k.1 = l.1
  · simp only [h1, decide_true, Bool.not_true, Bool.false_eq_true, if_false]
    rw [if_pos (by decide)]
    rw [(part_ptr w _ _).2, Result.andThen_ok, (part_ptr w _ _).2, Result.andThen_ok, ptr_eq 9998 w _ _ hk.2 hl.2, Result.andThen_ok]
    by_cases h2 : k.2 = l.2
    · have h3 : k = l := Prod.ext h1 h2
      simp [h3]
    · have h3 : k ≠ l := fun h => h2 (by rw [h])
      simp [h2, h3]
  · have h3 : k ≠ l := fun h => h1 (by rw [h])
    simp [h1, h3]
theorem pair_check (w : World) (em : Bool) (n : Nat) (k : Addr × Addr) : (Instr.checkKey em (n + 2) 77 (keyV k)).run Try.prog w = .ok () w := by
  unfold keyV
  simp [Instr.checkKey, run_underlying Try.underlying77, run_underlying Try.underlying75, (part_ptr w _ _).1, (part_ptr w _ _).2]

/-- An entry of a set. -/
def ent (k : Addr × Addr) (b : Nat) : MapEntry := { key := keyV k, val := .agg #[], born := b }
theorem find_in (w : World) (k : Addr × Addr) (hk : PlainK w k) : ∀ (es : List ((Addr × Addr) × Nat)) (i : Nat), (∀ e, e ∈ es → PlainK w e.1) → ∃ o, (Instr.findAsking 77 (keyV k) (es.map fun e => ent e.1 e.2) i).run Try.prog w = .ok o w ∧ (match o with
    | none => ¬ k ∈ es.map (·.1)
    | some (_, v) => v = .agg #[] ∧ k ∈ es.map (·.1))
  | [], i, _ => ⟨none, by simp [Instr.findAsking], by simp⟩
  | e :: es, i, h => by
    obtain ⟨o, h1, h2⟩ := find_in w k hk es (i + 1) fun e he => h e (List.mem_cons_of_mem _ he)
    have h3 := pair_eq w k e.1 hk (h e List.mem_cons_self)
    by_cases hq : k = e.1
    · refine ⟨some (i, .agg #[]), ?_, rfl, by rw [hq]; exact List.mem_cons_self⟩
      rw [List.map_cons, Instr.findAsking]
      show ((Op.equal _ (keyV k) (keyV e.1)) >>= _ : Sem _).run _ w = _
      rw [Sem.run_bind, h3, Result.andThen_ok]
      simp [hq, ent]
    · refine ⟨o, ?_, ?_⟩
      · rw [List.map_cons, Instr.findAsking]
        show ((Op.equal _ (keyV k) (keyV e.1)) >>= _ : Sem _).run _ w = _
        rw [Sem.run_bind, h3, Result.andThen_ok]
        simp only [hq, decide_false, Bool.false_eq_true, if_false]
        exact h1
      · cases o with
        | none => simp only [List.map_cons, List.mem_cons]; exact fun h => h.elim hq h2
        | some p => exact ⟨h2.1, by simp only [List.map_cons, List.mem_cons]; exact .inr h2.2⟩

/-- Block g is such a set. -/
def SetAt (w : World) (g : Nat) (es : List ((Addr × Addr) × Nat)) : Prop := ∃ clock, w.heap[g]? = some (.map (es.map fun e => ent e.1 e.2).toArray clock)

theorem find_set {w : World} {es : List ((Addr × Addr) × Nat)} (k : Addr × Addr) (hk : PlainK w k) (hp : ∀ e, e ∈ es → PlainK w e.1) : ∃ o, (Instr.findKey 77 (keyV k) (es.map fun e => ent e.1 e.2)).run Try.prog w = .ok o w ∧ (match o with
    | none => ¬ k ∈ es.map (·.1)
    | some (_, v) => v = .agg #[] ∧ k ∈ es.map (·.1)) := by
  obtain ⟨o, h1, h2⟩ := find_in w k hk es 0 hp
  exact ⟨o, (run_findKey_eq (P := Try.prog) (w := w) (by rw [Try.underlying77]) _ _).trans h1, h2⟩
/-- Whether a pair is there. -/
theorem set_lookup {w : World} {g : Nat} {es : List ((Addr × Addr) × Nat)} (h : SetAt w g es) (k : Addr × Addr) (hk : PlainK w k) (hp : ∀ e, e ∈ es → PlainK w e.1) :
    (Instr.lookup 79 (.map (some g)) (keyV k) true).run Try.prog w = .ok (.tuple #[.agg #[], .bool (decide (k ∈ es.map (·.1)))]) w := by
  obtain ⟨clock, hb⟩ := h
  obtain ⟨o, h1, h2⟩ := find_set k hk hp
  have hc := fun em => pair_check w em 9998 k
  cases o with
  | none => simp [Instr.lookup, run_underlying Try.underlying79, MapKept.run_getObj_map hb, hc, h1, Result.andThen, h2]
  | some p =>
    obtain ⟨i, v⟩ := p
    obtain ⟨rfl, h3⟩ := h2
    simp [Instr.lookup, run_underlying Try.underlying79, MapKept.run_getObj_map hb, hc, h1, Result.andThen, h3]
/-- One pair more. -/
theorem set_insert {w : World} {g : Nat} {es : List ((Addr × Addr) × Nat)} (h : SetAt w g es) (k : Addr × Addr) (hk : PlainK w k) (hp : ∀ e, e ∈ es → PlainK w e.1) (hn : ¬ k ∈ es.map (·.1)) :
    ∃ w' c, (Instr.mapUpdate 79 (.map (some g)) (keyV k) (.agg #[])).run Try.prog w = .ok () w' ∧ SetAt w' g (es ++ [(k, c)]) ∧ (∀ b, b ≠ g → w'.heap[b]? = w.heap[b]?) ∧ w'.heap.size = w.heap.size ∧ w'.os = w.os ∧ w'.tape = w.tape ∧ w'.output = w.output := by
  obtain ⟨clock, hb⟩ := h
  obtain ⟨o, h1, h2⟩ := find_set k hk hp
  have hc := pair_check w false 9998 k
  cases o with
  | some p => exact absurd h2.2 hn
  | none =>
    refine ⟨{ w with heap := w.heap.setIfInBounds g (.map ((es.map fun e => ent e.1 e.2).toArray.push (ent k clock)) (clock + 1)) }, clock, ?_, ⟨clock + 1, ?_⟩, fun b hbg => ?_, ?_, rfl, rfl, rfl⟩
    · simp [Instr.mapUpdate, run_underlying Try.underlying79, MapKept.run_getObj_map hb, hc, h1, MapKept.run_setObj_map _ hb, Result.andThen]
      rfl
    · have hlt := (Array.getElem?_eq_some_iff.1 hb).1
      simp [hlt]
    · simp [Array.getElem?_setIfInBounds_ne (Ne.symm hbg)]
    · simp

end Go.Proofs.Ytmpjnabadplbjaa
