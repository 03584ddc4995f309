/-
  Texts of one's own, joined.
-/
import Derived.Below
import Derived.ProofKit
import Derived.Test.YthnahalboomkoaaGreatProg
import Derived.WalkKit
import Derived.StillTail
import Derived.StillTailTactics
import Derived.Deep.QuietTactic
import Derived.Deep.WholeRow
import Derived.WalkLawsBesides
import Derived.WalkSpells
import Derived.BigRegion
import Derived.ChangeKeysEq
import Derived.Laws.CopyOwn
import Derived.Deep.RegionHeld3
import Derived.Laws.AppendOwn

/-
  Lists of ints that lie below a block.
-/
namespace Go.Proofs.YthnahalboomkoaaGreat
open Go.RowKit

theorem mixesSc : Tryz.prog.follows .mixedOrders = true := by kernel_rfl

/-- What a list of ints holds; it lies below block c. -/
def IntsAt (w : World) (a : Option Addr) (len c : Nat) (f : Nat → Int) : Prop :=
  ∀ j, j < len → ∃ b off, a = some ⟨b, off, none⟩ ∧ b < c ∧ w.cell? ⟨b, off + j, none⟩ = some (.int .i64 (f j))

theorem IntsAt.on {w w1 : World} {a : Option Addr} {len c : Nat} {f : Nat → Int} (h : IntsAt w a len c f) (hb : Below c w w1) : IntsAt w1 a len c f := fun j hj => by
  obtain ⟨b, off, h1, h2, h3⟩ := h j hj
  exact ⟨b, off, h1, h2, (hb.cell (p := ⟨b, off + j, none⟩) h2).trans h3⟩

theorem IntsAt.wide {w : World} {a : Option Addr} {len c d : Nat} {f : Nat → Int} (h : IntsAt w a len c f) (hd : c ≤ d) : IntsAt w a len d f := fun j hj => by
  obtain ⟨b, off, h1, h2, h3⟩ := h j hj
  exact ⟨b, off, h1, by omega, h3⟩

end Go.Proofs.YthnahalboomkoaaGreat

/-
  Rows of ints: blocks, copies, whether two are the same.
  (-DROP-: what the seat lacks is left out.)
-/
namespace Go.Proofs.YthnahalboomkoaaGreat
open Go.RowKit

/-- The cells of a row of ints. -/
def ic (f : Nat → Int) (n : Nat) : Array Value := ((List.range n).map fun j => Value.int .i64 (f j)).toArray

theorem ic_size (f : Nat → Int) (n : Nat) : (ic f n).size = n := by simp [ic]

theorem ic_at (f : Nat → Int) {n j : Nat} (h : j < n) : (ic f n)[j]? = some (.int .i64 (f j)) := by simp [ic, h]

theorem ic_set (f : Nat → Int) (n j : Nat) (x : Int) : (ic f n).setIfInBounds j (.int .i64 x) = ic (fun i => if i = j then x else f i) n := by
  have e : (ic f n).setIfInBounds j (.int .i64 x) = (((List.range n).map fun j => Value.int .i64 (f j)).set j (.int .i64 x)).toArray := by simp [ic]
  rw [e]
  unfold ic
  congr 1
  apply List.ext_getElem
  · simp
  · intro i h1 h2
    by_cases h : j = i
    · subst h; simp
    · have h' : ¬ i = j := fun e => h e.symm
      rw [List.getElem_set_ne h]
      simp [h']

/-- Block g is a row of ints. -/
def RowI (w : World) (g n : Nat) (f : Nat → Int) : Prop := w.heap[g]? = some (.cells (ic f n) 3 (0, 0))

theorem RowI.cell {w : World} {g n : Nat} {f : Nat → Int} (h : RowI w g n f) {j : Nat} (hj : j < n) : w.cell? ⟨g, j, none⟩ = some (.int .i64 (f j)) := by
  rw [cell_of_row w g j _ 3 (0, 0) h, ic_at f hj]

theorem RowI.free {w : World} {g n : Nat} {f : Nat → Int} (h : RowI w g n f) (j : Nat) : w.frozen? ⟨g, j, none⟩ = false := frozen_of_row w g j _ 3 h

theorem RowI.lt {w : World} {g n : Nat} {f : Nat → Int} (h : RowI w g n f) : g < w.heap.size := by
  rcases Nat.lt_or_ge g w.heap.size with h1 | h1
  · exact h1
  · unfold RowI at h
    rw [Array.getElem?_eq_none h1] at h
    cases h

theorem RowI.set {w : World} {g n : Nat} {f : Nat → Int} (h : RowI w g n f) (j : Nat) (x : Int) : RowI (w.setCell ⟨g, j, none⟩ (.int .i64 x)) g n (fun i => if i = j then x else f i) := by
  have := heap_setCell_same w g j _ 3 (.int .i64 x) h
  rw [ic_set] at this
  exact this

theorem RowI.on {w w1 : World} {g n c : Nat} {f : Nat → Int} (h : RowI w g n f) (hb : Below c w w1) (hc : g < c) : RowI w1 g n f := (hb.block g hc).trans h

theorem RowI.ints {w : World} {g n c : Nat} {f : Nat → Int} (h : RowI w g n f) (hc : g < c) : IntsAt w (some ⟨g, 0, none⟩) n c f := fun j hj => ⟨g, 0, rfl, hc, by rw [Nat.zero_add]; exact h.cell hj⟩

theorem RowI.congr {w : World} {g n : Nat} {f f' : Nat → Int} (h : RowI w g n f) (hf : ∀ j, j < n → f j = f' j) : RowI w g n f' := by
  have e : ic f n = ic f' n := by
    unfold ic
    congr 1
    apply List.map_congr_left
    intro j hj
    rw [hf j (List.mem_range.1 hj)]
  unfold RowI
  rw [← e]
  exact h

theorem rowI_new (w : World) (f : Nat → Int) (n : Nat) : RowI (w.alloc (.cells (ic f n) 3)) w.heap.size n f := heap_alloc_new w _

theorem info3I : (Tryz.prog.info? 3).map (fun i => (i.zero, i.size, i.bytes)) = some (some (.int .i64 0), 1, 8) := by kernel_rfl

/-- make([]int, n, m). -/
theorem make_ints (n m : Nat) (h1 : n ≤ m) (h2 : m ≤ 1073741824) (W : World) :
    (Instr.makeSlice 27 (.int .i64 (n : Int)) (.int .i64 (m : Int))).run Tryz.prog W = .ok (.slice (some ⟨W.heap.size, 0, none⟩) n m) (W.alloc (.cells (ic (fun _ => 0) m) 3)) := by
  obtain ⟨i0, hi, hz0, hz1, hz2⟩ := info_parts info3I
  have hM : madeCells (Value.int .i64 0).cells ((m : Int).toNat * i0.size) = ic (fun _ => 0) m := by
    rw [hz1]
    have h3 := toList_madeCells_one (.int .i64 0) m
    apply Array.toList_inj.1
    have e : (ic (fun _ => 0) m).toList = List.replicate m (Value.int .i64 0) := by
      simp [ic, List.map_const', List.length_range]
    rw [e]
    simpa [Value.cells] using h3
  have h := run_make (P := Tryz.prog) W 27 3 i0 (.int .i64 0) Tryz.underlying27 hi hz0 .i64 .i64 (n : Int) (m : Int) (by omega) (by omega) (by rw [hz2]; omega) (by omega)
  rw [hM] at h
  simpa using h

/-- The first k of f, then 0. -/
def upTo (f : Nat → Int) (k : Nat) : Nat → Int := fun j => if j < k then f j else 0

theorem upTo_next (f : Nat → Int) (k : Nat) : (fun i => if i = k then f k else upTo f k i) = upTo f (k + 1) := by
  funext i
  unfold upTo
  by_cases h : i = k
  · subst h
    rw [if_pos rfl, if_pos (by omega)]
  · rw [if_neg h]
    by_cases h2 : i < k
    · rw [if_pos h2, if_pos (by omega)]
    · rw [if_neg h2, if_neg (by omega)]

theorem upTo_in (f : Nat → Int) {k j : Nat} (h : j < k) : upTo f k j = f j := if_pos h

set_option maxHeartbeats 800000 in
set_option maxRecDepth 100000 in
theorem toIntS_any (a : Option Addr) (n cap : Nat) (hn : n ≤ 1048576) (f : Nat → Int) (w : World) (hA : IntsAt w a n w.heap.size f) :
    Calls Tryz.prog 202 #[.slice a n cap] w fun e w' => e = .returned (.slice (some ⟨w.heap.size, 0, none⟩) n n) ∧ RowI w' w.heap.size n f ∧ Below w.heap.size w w' := by
  have HA : Hid (IntsAt w a n w.heap.size f) := hA
  clear hA
  have hmk : ∀ W : World, (Instr.makeSlice 27 (.int .i64 (n : Int)) (.int .i64 (n : Int))).run Tryz.prog W = .ok (.slice (some ⟨W.heap.size, 0, none⟩) n n) (W.alloc (.cells (ic (fun _ => 0) n) 3)) := fun W => make_ints n n (Nat.le_refl _) (by omega) W
  have H0 : Hid (RowI (w.alloc (.cells (ic (fun _ => 0) n) 3)) w.heap.size n (upTo f 0)) := (rowI_new w (fun _ => 0) n).congr fun j _ => by unfold upTo; rw [if_neg (by omega)]
  generalize ic (fun _ => 0) n = M at hmk H0
  go_enter Tryz.func202, Tryz.ntmps202
  go_wp2
  go_loopw [4] (fun i wr => ∃ k : Nat, i = .int .i64 (k : Int) ∧ k ≤ n ∧ Hid (RowI wr w.heap.size n (upTo f k)) ∧ Hid (Below w.heap.size w wr)) (fun i _ => n - (intOf i).toNat)
  case atStart => exact ⟨0, rfl, Nat.zero_le _, H0, (Below.refl _ _).alloc (Nat.le_refl _) _⟩
  case round =>
    obtain ⟨k, rfl, hk, HR, HW⟩ := hrel
    clear hmk H0
    by_cases hlt : k < n
    · have hlt' : (k : Int) < (n : Int) := by omega
      have hk0 : (0 : Int) ≤ (k : Int) := by omega
      obtain ⟨b, off, rfl, hb, hz⟩ := (HA.out.on HW.out) k hlt
      have hc := HR.out.cell hlt
      have hf := HR.out.free k
      have HR2 : Hid (RowI (wr.setCell ⟨w.heap.size, k, none⟩ (.int .i64 (f k))) w.heap.size n (upTo f (k + 1))) := by
        have := HR.out.set k (f k)
        rw [upTo_next] at this
        exact this
      have HW2 : Hid (Below w.heap.size w (wr.setCell ⟨w.heap.size, k, none⟩ (.int .i64 (f k)))) := HW.out.setCell (Nat.le_refl _) _
      generalize f k = x at hz HR2 HW2
      generalize upTo f k k = y at hc
      clear HA HR HW hb
      go_wp2
      go_roundw
      case rel => exact ⟨k + 1, by go_num, hlt, HR2, HW2⟩
      case measure => simp [intOf]; omega
    · have hlt' : ¬ (k : Int) < (n : Int) := by omega
      have HE : Hid (RowI wr w.heap.size n f) := HR.out.congr fun j hj => upTo_in f (by omega)
      go_wp2
      go_ret
      exact ⟨rfl, HE.out, HW.out⟩

set_option maxHeartbeats 800000 in
set_option maxRecDepth 100000 in
theorem eqIntS_any (a b : Option Addr) (n c1 c2 : Nat) (hn : n ≤ 1048576) (f : Nat → Int) (w : World) (hA : IntsAt w a n w.heap.size f) (hB : IntsAt w b n w.heap.size f) :
    Calls Tryz.prog 203 #[.slice a n c1, .slice b n c2] w fun e w' => e = .returned (.bool true) ∧ Below w.heap.size w w' := by
  have HA : Hid (IntsAt w a n w.heap.size f) := hA
  have HB : Hid (IntsAt w b n w.heap.size f) := hB
  clear hA hB
  go_enter Tryz.func203, Tryz.ntmps203
  go_wp2
  go_loopw [5] (fun i wr => ∃ k : Nat, i = .int .i64 (k : Int) ∧ k ≤ n ∧ Hid (Below w.heap.size w wr)) (fun i _ => n - (intOf i).toNat)
  case atStart => exact ⟨0, rfl, Nat.zero_le _, Below.refl _ _⟩
  case round =>
    obtain ⟨k, rfl, hk, HW⟩ := hrel
    by_cases hlt : k < n
    · have hlt' : (k : Int) < (n : Int) := by omega
      have hk0 : (0 : Int) ≤ (k : Int) := by omega
      obtain ⟨b, off, rfl, hb, hz⟩ := (HA.out.on HW.out) k hlt
      obtain ⟨b', off', rfl, hb', hz'⟩ := (HB.out.on HW.out) k hlt
      generalize f k = x at hz hz'
      clear hb hb' HA HB
      go_wp2
      refine wp_region_still_tail 8 mixesSc (by kernel_rfl) ?_
      simp only [List.take_succ_cons, List.take_zero, List.drop_succ_cons, List.drop_zero]
      repeat still_step
      refine wpStill_nil ?_
      go_wp2
      go_roundw
      case rel => exact ⟨k + 1, by go_num, hlt, HW.out.drew⟩
      case measure => simp [intOf]; omega
    · have hlt' : ¬ (k : Int) < (n : Int) := by omega
      go_wp2
      go_ret
      exact ⟨rfl, HW.out⟩

end Go.Proofs.YthnahalboomkoaaGreat

/-
  A region that draws its order: one walk in the order of the text serves every order, where all operations but the last ones give one value
  in every world of a class and leave a world of that class. (By the set of operations that have come up: the frame is that of the set, whatever the order was.)
-/
namespace Go.Proofs.YthnahalboomkoaaGreat

section
variable {P : Program} {ops : Array Oper} {C : World → Prop}

/-- Where an operation puts its value. -/
def dsOf (ops : Array Oper) (i : Nat) : Option Tmp := (ops[i]?).bind (·.dst)

/-- The frame behind the operations of the set S below n, each with its value. -/
def putSt (ops : Array Oper) (v : Nat → Value) (a : Act) (S : Nat → Bool) : Nat → Act
  | 0 => a
  | k + 1 => if S k then (putSt ops v a S k).put (dsOf ops k) (v k) else putSt ops v a S k

theorem putSt_congr {v : Nat → Value} {a : Act} {S T : Nat → Bool} : ∀ (n : Nat), (∀ j, j < n → S j = T j) → putSt ops v a S n = putSt ops v a T n
  | 0, _ => rfl
  | k + 1, h => by
    simp only [putSt, h k (by omega), putSt_congr k (fun j hj => h j (by omega))]

/-- One more in the set. -/
def more (S : Nat → Bool) (j : Nat) : Nat → Bool := fun k => S k || k == j

theorem putSt_more {v : Nat → Value} {a : Act} {S : Nat → Bool} {j n : Nat} (hd : ∀ k, k < n → k ≠ j → ∀ d, dsOf ops j = some d → dsOf ops k ≠ some d) (hj : S j = false) :
    ∀ m, j < m → m ≤ n → putSt ops v a (more S j) m = (putSt ops v a S m).put (dsOf ops j) (v j)
  | 0, h, _ => by omega
  | k + 1, h, hn => by
    by_cases e : k = j
    · subst e
      have h1 : putSt ops v a (more S k) k = putSt ops v a S k := putSt_congr k fun i hi => by
        have : (i == k) = false := by simp; omega
        simp [more, this]
      simp only [putSt, h1, hj, more, beq_self_eq_true, Bool.or_true, Bool.false_eq_true, if_false, if_true]
    · have h1 := putSt_more (v := v) (a := a) hd hj k (by omega) (by omega)
      have h2 : more S j k = S k := by
        have : (k == j) = false := by simp [e]
        simp [more, this]
      simp only [putSt, h1, h2]
      split
      · exact Act.put_comm _ _ _ (hd k (by omega) e)
      · rfl

/-- What an operation looks at is the same in the frames of two sets, one in the other, where what lies between is nothing that it looks at. -/
theorem putSt_same {v : Nat → Value} {a : Act} {n : Nat} {o : Oper} (hs : ∀ cs b, o.op ≠ .select cs b) (hd : ∀ j k, j < n → k < n → k ≠ j → ∀ d, dsOf ops j = some d → dsOf ops k ≠ some d)
    {S T : Nat → Bool} (hST : ∀ j, S j = true → T j = true) (hl : ∀ j, j < n → T j = true → S j = false → ∀ d, dsOf ops j = some d → d ∉ o.looksAt ops) :
    execOp (putSt ops v a T n).eval o = execOp (putSt ops v a S n).eval o ∧ Region.wanted o (yielded ops (putSt ops v a T n).tmps) = Region.wanted o (yielded ops (putSt ops v a S n).tmps) := by
  have step : ∀ k, k ≤ n → execOp (putSt ops v a (fun j => S j || (T j && decide (j < k))) n).eval o = execOp (putSt ops v a S n).eval o ∧
      Region.wanted o (yielded ops (putSt ops v a (fun j => S j || (T j && decide (j < k))) n).tmps) = Region.wanted o (yielded ops (putSt ops v a S n).tmps) := by
    intro k
    induction k with
    | zero =>
      intro _
      rw [putSt_congr (S := fun j => S j || (T j && decide (j < 0))) (T := S) n (fun j _ => by simp)]
      exact ⟨rfl, rfl⟩
    | succ k ih =>
      intro hk
      have ih := ih (by omega)
      by_cases hc : T k = true ∧ S k = false
      · have e : putSt ops v a (fun j => S j || (T j && decide (j < k + 1))) n = putSt ops v a (more (fun j => S j || (T j && decide (j < k))) k) n := putSt_congr n fun j _ => by
          by_cases ej : j = k
          · subst ej; simp [more, hc.1]
          · have h1 : decide (j < k + 1) = decide (j < k) := by simp; omega
            have h2 : (j == k) = false := by simp [ej]
            simp [more, h1, h2]
        rw [e, putSt_more (n := n) (fun i hi hne => hd k i (by omega) hi hne) (by simp [hc.2]) n (by omega) (Nat.le_refl _),
          execOp_put o hs _ _ _ (hl k (by omega) hc.1 hc.2), wanted_put o _ _ _ (hl k (by omega) hc.1 hc.2)]
        exact ih
      · have e : putSt ops v a (fun j => S j || (T j && decide (j < k + 1))) n = putSt ops v a (fun j => S j || (T j && decide (j < k))) n := putSt_congr n fun j _ => by
          by_cases ej : j = k
          · subst ej
            cases hS : S j
            · cases hT : T j
              · simp
              · exact absurd ⟨hT, hS⟩ hc
            · simp
          · have h1 : decide (j < k + 1) = decide (j < k) := by simp; omega
            simp [h1]
        rw [e]
        exact ih
  have := step n (Nat.le_refl _)
  rw [putSt_congr (S := fun j => S j || (T j && decide (j < n))) (T := T) n (fun j hj => by
    cases hS : S j
    · simp [hj]
    · simp [hST j hS])] at this
  exact this

/-- The walk in the order of the text, as values of the operations, each in the frame of those ahead of it. -/
theorem values_of_walk {R : Act → Prop} {a : Act} (n : Nat) : ∀ (l : List Oper) (k : Nat) (v : Nat → Value), k + l.length = n → (∀ j, j < l.length → l[j]? = ops[k + j]?) →
    wpQuiet P ops C R l (putSt ops v a (fun _ => true) k) →
    ∃ v', (∀ j, j < k → v' j = v j) ∧ (∀ i o, k ≤ i → i < n → ops[i]? = some o → YieldsIn P ops C o (v' i) (putSt ops v' a (fun _ => true) i)) ∧ R (putSt ops v' a (fun _ => true) n)
  | [], k, v, hk, _, h => by
    have : k = n := by simpa using hk
    subst this
    exact ⟨v, fun _ _ => rfl, fun i o h1 h2 => by omega, h⟩
  | o :: l, k, v, hk, hl, h => by
    have h0 : ops[k]? = some o := by simpa using (hl 0 (by simp)).symm
    have hq : qOp P ops C k (wpQuiet P ops C R l) (putSt ops v a (fun _ => true) k) := by unfold qOp; simp only [h0]; exact h
    obtain ⟨u, hy, hK⟩ := yieldsIn_of_qOp h0 hq
    have hpre : ∀ (v1 v2 : Nat → Value) (m : Nat), (∀ j, j < m → v1 j = v2 j) → putSt ops v1 a (fun _ => true) m = putSt ops v2 a (fun _ => true) m := by
      intro v1 v2 m
      induction m with
      | zero => intro _; rfl
      | succ m ih => intro hv; simp only [putSt, if_true, ih (fun j hj => hv j (by omega)), hv m (by omega)]
    have hds : dsOf ops k = o.dst := by simp [dsOf, h0]
    have e1 : putSt ops (fun j => if j = k then u else v j) a (fun _ => true) (k + 1) = (putSt ops v a (fun _ => true) k).put o.dst u := by
      simp only [putSt, if_true, hds]
      rw [hpre _ v k (fun j hj => if_neg (by omega))]
    obtain ⟨v', h1, h2, h3⟩ := values_of_walk (a := a) n l (k + 1) (fun j => if j = k then u else v j) (by simp only [List.length_cons] at hk; omega)
      (fun j hj => by have := hl (j + 1) (by simp; omega); simpa [Nat.add_assoc, Nat.add_comm 1 j] using this) (by rw [e1]; exact hK)
    have hvk : v' k = u := by rw [h1 k (by omega)]; simp
    have hvj : ∀ j, j < k → v' j = v j := fun j hj => by rw [h1 j (by omega)]; exact if_neg (by omega)
    refine ⟨v', hvj, fun i oi hi hin hoi => ?_, h3⟩
    by_cases e : i = k
    · subst e
      obtain rfl : oi = o := Option.some.inj (hoi.symm.trans h0)
      rw [hvk, hpre v' v i hvj]
      exact hy
    · exact h2 i oi (by omega) hin hoi

/-- What the head's operations must be: places of their own; none looks at what comes behind it, nor at what it does not wait for; each waits for what stands ahead of it alone. -/
def Region.headB (ops : Array Oper) (n : Nat) : Bool :=
  (List.range n).all fun i => (List.range n).all fun j => j == i ||
    ((match dsOf ops j with | some d => dsOf ops i != some d | none => true) &&
     ((decide (j < i) && Region.waitsFor .any ops i j) || match dsOf ops j, ops[i]? with | some d, some o => !(o.looksAt ops).contains d | _, _ => true))
def Region.edgesB (ops : Array Oper) (n : Nat) : Bool :=
  (List.range n).all fun i => match ops[i]? with | some o => o.after.all fun e => !Region.binds .any e || decide (e.on < i) | none => true
/-- Those below n have come up, the others not. -/
def headDone (ops : Array Oper) (n : Nat) : Array Bool := Array.ofFn fun i : Fin ops.size => decide (i.val < n)
def Region.clsB (ops : Array Oper) (n : Nat) : Bool :=
  Region.noSelect ops && decide (n < ops.size) && Region.sinkB .any ops n && Region.chainB .any ops n && Region.headB ops n && Region.edgesB ops n && Region.seqB .any ops (ops.size - n) n (headDone ops n)

theorem headB_dst {n : Nat} (h : Region.headB ops n = true) (j k : Nat) (hj : j < n) (hk : k < n) (hne : k ≠ j) (d : Tmp) (hd : dsOf ops j = some d) : dsOf ops k ≠ some d := by
  have h1 := List.all_eq_true.1 (List.all_eq_true.1 h k (List.mem_range.2 hk)) j (List.mem_range.2 hj)
  have e : (j == k) = false := by simp; omega
  simp only [e, Bool.false_or, Bool.and_eq_true, hd, bne_iff_ne, ne_eq] at h1
  exact h1.1

theorem headB_look {n : Nat} (h : Region.headB ops n = true) (i j : Nat) (o : Oper) (hi : i < n) (hj : j < n) (hne : j ≠ i) (ho : ops[i]? = some o) (hw : ¬ (j < i ∧ Region.waitsFor .any ops i j = true)) (d : Tmp) (hd : dsOf ops j = some d) : d ∉ o.looksAt ops := by
  have h1 := List.all_eq_true.1 (List.all_eq_true.1 h i (List.mem_range.2 hi)) j (List.mem_range.2 hj)
  have e : (j == i) = false := by simp [hne]
  simp only [e, Bool.false_or, Bool.and_eq_true, hd, ho, Bool.or_eq_true, decide_eq_true_eq] at h1
  rcases h1.2 with h2 | h2
  · exact absurd h2 hw
  · simpa using h2

/-- How many of the head are left. -/
def leftOf (listed : Array Bool) (n : Nat) : Nat := (List.range n).countP fun i => !listed.getD i false

theorem leftOf_zero {listed : Array Bool} {n : Nat} (h : leftOf listed n = 0) (i : Nat) (hi : i < n) : listed.getD i false = true := by
  unfold leftOf at h
  rw [List.countP_eq_zero] at h
  have := h i (List.mem_range.2 hi)
  simpa using this

theorem leftOf_set {listed : Array Bool} {i : Nat} (hsz : i < listed.size) (hun : listed.getD i false = false) : ∀ n, i < n → leftOf listed n = leftOf (listed.setIfInBounds i true) n + 1 := by
  intro n
  induction n with
  | zero => intro h; omega
  | succ n ih =>
    intro h
    have key : ∀ (L : Array Bool), leftOf L (n + 1) = leftOf L n + (if L.getD n false then 0 else 1) := by
      intro L
      unfold leftOf
      rw [List.range_succ, List.countP_append, List.countP_singleton]
      cases L.getD n false <;> simp
    rw [key, key]
    by_cases e : i = n
    · subst e
      have hsame : leftOf (listed.setIfInBounds i true) i = leftOf listed i := by
        unfold leftOf
        refine List.countP_congr fun j hj => ?_
        have hj' := List.mem_range.1 hj
        rw [getD_set_ne false (by omega)]
      have ht : (listed.setIfInBounds i true).getD i false = true := by simp [hsz]
      rw [hsame, ht, hun]
      simp
    · rw [ih (by omega), getD_set_ne false e]
      omega

theorem exists_left {listed : Array Bool} {n : Nat} (h : leftOf listed n ≠ 0) : ∃ i, i < n ∧ listed.getD i false = false ∧ ∀ j, j < i → listed.getD j false = true := by
  have hex : ∀ m, m ≤ n → (∀ j, j < m → listed.getD j false = true) ∨ ∃ i, i < m ∧ listed.getD i false = false ∧ ∀ j, j < i → listed.getD j false = true := by
    intro m
    induction m with
    | zero => intro _; exact .inl fun j hj => by omega
    | succ m ih =>
      intro hm
      rcases ih (by omega) with h1 | ⟨i, h1, h2, h3⟩
      · cases hl : listed.getD m false with
        | true =>
          refine .inl fun j hj => ?_
          by_cases e : j = m
          · rw [e]; exact hl
          · exact h1 j (by omega)
        | false => exact .inr ⟨m, by omega, hl, h1⟩
      · exact .inr ⟨i, by omega, h2, h3⟩
  rcases hex n (Nat.le_refl _) with h1 | h1
  · exfalso
    apply h
    unfold leftOf
    rw [List.countP_eq_zero]
    intro i hi
    simp [h1 i (List.mem_range.1 hi)]
  · exact h1

/-- The head in whatever order, then the tail. -/
theorem any_of_values {n : Nat} {Q : Exit → Act → World → Prop} {a : Act} {v : Nat → Value} (hB : Region.clsB ops n = true)
    (hv : ∀ i o, i < n → ops[i]? = some o → YieldsIn P ops C o (v i) (putSt ops v a (fun _ => true) i))
    (hT : ∀ w, C w → wpAny P .any ops Q (ops.size - n) (headDone ops n) (putSt ops v a (fun _ => true) n) w) :
    ∀ (m : Nat) (listed : Array Bool) (w : World), leftOf listed n = m → HeadInv .any ops n listed → C w →
      wpAny P .any ops Q (m + (ops.size - n)) listed (putSt ops v a (fun j => listed.getD j false) n) w := by
  simp only [Region.clsB, Bool.and_eq_true, decide_eq_true_eq] at hB
  obtain ⟨⟨⟨⟨⟨⟨hsel, hn⟩, hs⟩, hc⟩, hh⟩, he⟩, hq⟩ := hB
  intro m
  induction m with
  | zero =>
    intro listed w hl inv hw
    have hall := leftOf_zero hl
    have e : listed = headDone ops n := by
      apply Array.ext
      · simp [headDone, inv.size]
      · intro i h1 h2
        have h3 : i < ops.size := by rw [← inv.size]; exact h1
        simp only [headDone, Array.getElem_ofFn]
        by_cases hi : i < n
        · have := hall i hi
          simp [h1] at this
          simp [hi, this]
        · have := inv.tail i (by omega) h3
          simp [h1] at this
          simp [hi, this]
    rw [Nat.zero_add, putSt_congr (S := fun j => listed.getD j false) (T := fun _ => true) n (fun j hj => hall j hj), e]
    exact hT w hw
  | succ m ih =>
    intro listed w hl inv hw
    obtain ⟨i0, hi0, hun0, hbelow⟩ := exists_left (listed := listed) (n := n) (by omega)
    rw [show m + 1 + (ops.size - n) = (m + (ops.size - n)) + 1 by omega]
    have hun0' : listed.getD i0 true = false := getD_in (by rw [inv.size]; omega) hun0
    have hready : i0 ∈ Region.ready .any ops listed := by
      obtain ⟨o0, ho0⟩ : ∃ o, ops[i0]? = some o := ⟨ops[i0]'(by omega), Array.getElem?_eq_getElem (by omega)⟩
      refine mem_ready.2 ⟨hun0', o0, ho0, fun e hea hb => ?_⟩
      have h1 := List.all_eq_true.1 he i0 (List.mem_range.2 hi0)
      simp only [ho0, Array.all_eq_true_iff_forall_mem] at h1
      have h2 := h1 e hea
      simp only [hb, Bool.not_true, Bool.false_or, decide_eq_true_eq] at h2
      exact hbelow _ h2
    refine ⟨fun h => (by rw [h] at hready; cases hready), fun i hi => ?_⟩
    have hin : i < n := by
      rcases Nat.lt_or_ge i n with h | h
      · exact h
      · exact absurd hi (tail_waits hs hc hn inv _ i0 rfl hi0 hun0' i h)
    obtain ⟨huni, oi, hoi, hall⟩ := mem_ready.1 hi
    have huni' := getD_both huni
    have hisz : i < listed.size := by rw [inv.size]; omega
    have hsi := Region.noSelect_spec hsel
    have hd := headB_dst hh
    -- the frame of those ahead of i, as a set
    have hpre : putSt ops v a (fun _ => true) i = putSt ops v a (fun j => decide (j < i)) n := by
      have : ∀ k, i ≤ k → putSt ops v a (fun j => decide (j < i)) k = putSt ops v a (fun _ => true) i := by
        intro k hk
        induction k with
        | zero => have : i = 0 := by omega
                  subst this; rfl
        | succ k ihk =>
          by_cases e : i = k + 1
          · subst e; exact putSt_congr _ fun j hj => by simp [hj]
          · have h1 : decide (k < i) = false := by simp; omega
            simp only [putSt, h1, Bool.false_eq_true, if_false]
            exact ihk (by omega)
      exact (this n (by omega)).symm
    have hy0 := hv i oi hin hoi
    rw [hpre] at hy0
    have hsS := putSt_same (v := v) (a := a) (hsi i oi · · hoi) hd (S := fun j => decide (j < i)) (T := fun j => decide (j < i) || listed.getD j false) (fun j hj => by simp [show decide (j < i) = true from hj]) (fun j hj hTj hSj d hdj => by
      have h1 : ¬ j < i := by simpa using hSj
      have h2 : listed.getD j false = true := by simpa [h1] using hTj
      have hne : j ≠ i := fun e => by subst e; rw [huni'] at h2; cases h2
      exact headB_look hh i j oi hin hj hne hoi (fun hx => h1 hx.1) d hdj)
    have hsT := putSt_same (v := v) (a := a) (hsi i oi · · hoi) hd (S := fun j => listed.getD j false) (T := fun j => decide (j < i) || listed.getD j false) (fun j hj => by simp [show listed.getD j false = true from hj]) (fun j hj hTj hSj d hdj => by
      have h2 : listed.getD j false = false := hSj
      have hne : j ≠ i := fun e => by
        subst e
        simp [h2] at hTj
      refine headB_look hh i j oi hin hj hne hoi (fun hx => ?_) d hdj
      obtain ⟨o', ho', e, hea, hb, hon⟩ := Region.waitsFor_spec hx.2
      obtain rfl : o' = oi := Option.some.inj (ho'.symm.trans hoi)
      have h3 := hall e hea hb
      rw [hon, h2] at h3
      cases h3)
    have hy : YieldsIn P ops C oi (v i) (putSt ops v a (fun j => listed.getD j false) n) := hy0.of_same (hsT.1.symm.trans hsS.1) (hsT.2.symm.trans hsS.2)
    refine wpOp_of_qOp (K := fun a' => a' = (putSt ops v a (fun j => listed.getD j false) n).put oi.dst (v i)) hw (fun a' w' hw' ha' => ?_) (hy.qOp hoi rfl)
    have hmore : (putSt ops v a (fun j => listed.getD j false) n).put oi.dst (v i) = putSt ops v a (fun j => (listed.setIfInBounds i true).getD j false) n := by
      have h1 := putSt_more (ops := ops) (v := v) (a := a) (S := fun j => listed.getD j false) (j := i) (n := n) (fun k hk hne => hd i k hin hk hne) huni' n hin (Nat.le_refl _)
      rw [show dsOf ops i = oi.dst by simp [dsOf, hoi]] at h1
      rw [← h1]
      refine putSt_congr n fun j hj => ?_
      by_cases e : j = i
      · subst e; simp [more, hisz]
      · have h2 : (j == i) = false := by simp [e]
        rw [getD_set_ne false (fun x => e x.symm)]
        simp [more, h2]
    rw [ha', hmore]
    exact ih _ w' (by have := leftOf_set hisz huni' n hin; omega) (inv.set hi hin) hw'

/-- The walk, shut, so that nobody lays it open. -/
structure WQ (P : Program) (ops : Array Oper) (C : World → Prop) (R : Act → Prop) (l : List Oper) (a : Act) : Prop where
  out : wpQuiet P ops C R l a

theorem wq_nil {R : Act → Prop} {a : Act} (h : R a) : WQ P ops C R [] a := ⟨wpQuiet_nil h⟩

/-- **The law.** All but the tail in the order of the text, each operation in every world of the class; then the tail, in every world of the class. -/
theorem wp_region_class {id : Nat} {Q : Exit → Act → World → Prop} {a : Act} {w : World} {l : List Oper} (n : Nat) (C : World → Prop) (hm : P.follows .mixedOrders = true) (hB : Region.clsB l.toArray n = true) (hC : C w.drew)
    (hq0 : WQ P l.toArray C (fun a' => ∀ w', C w' → wpList P l.toArray Q (l.drop n) a' w') (l.take n) a) : (Code.region id l.toArray true).wp P Q a w := by
  have h := hq0.out
  have hB' := hB
  simp only [Region.clsB, Bool.and_eq_true, decide_eq_true_eq] at hB'
  obtain ⟨⟨⟨⟨⟨⟨hsel, hn⟩, hs⟩, hc⟩, hh⟩, he⟩, hq⟩ := hB'
  have hn' : n < l.length := by simpa using hn
  have htl : (l.take n).length = n := by simp; omega
  have hdl : (l.drop n).length = l.toArray.size - n := by simp
  obtain ⟨v, _, hv, hR⟩ := values_of_walk (P := P) (ops := l.toArray) (C := C) (a := a) n (l.take n) 0 (fun _ => undef) (by simpa using htl) (fun j hj => by
    have hj' : j < n := by rw [htl] at hj; exact hj
    simp [hj']) h
  have inv0 : HeadInv .any l.toArray n (Array.replicate l.toArray.size false) :=
    ⟨by simp, fun j oj _ hl => (by rw [getD_replicate_false] at hl; cases hl), fun t _ ht => getD_in (by simpa using ht) (getD_replicate_false _ _)⟩
  have hl0 : leftOf (Array.replicate l.toArray.size false) n = n := by
    unfold leftOf
    rw [List.countP_eq_length.2 (fun i _ => by rw [getD_replicate_false]; rfl), List.length_range]
  have H := any_of_values (P := P) (C := C) (Q := Q) (a := a) hB (fun i o hi ho => hv i o (Nat.zero_le _) hi ho) (fun w' hw' => by
    have := wpAny_of_seq (md := .any) (Q' := Q) (l.drop n) n (headDone l.toArray n) _ w' (fun j => by simp [List.getElem?_drop]) (by rw [hdl]; exact hq) (hR w' hw')
    rwa [hdl] at this) n (Array.replicate l.toArray.size false) w.drew hl0 inv0 hC
  rw [show n + (l.toArray.size - n) = l.toArray.size by omega, putSt_congr (S := fun j => (Array.replicate l.toArray.size false).getD j false) (T := fun _ => false) n (fun j _ => getD_replicate_false _ _)] at H
  have hnone : ∀ k, putSt l.toArray v a (fun _ => false) k = a := by
    intro k
    induction k with
    | zero => rfl
    | succ k ih => simp only [putSt, Bool.false_eq_true, if_false]; exact ih
  rw [hnone] at H
  exact wp_region_any hm H

/-- An operation that leaves the world as it is, whatever world of the class. -/
theorem cls_step {R : Act → Prop} {a : Act} {o : Oper} {rest : List Oper} (hg : o.guard = none)
    (h : ∀ K : Act → Prop, (∀ a, WQ P ops C R rest a → K a) → ∃ v, (∀ w, C w → (execOp a.eval o).run P w = .ok (.value v) w) ∧ K (a.put o.dst v)) : WQ P ops C R (o :: rest) a := by
  refine ⟨wpQuiet_step fun K hK => ?_⟩
  rw [if_pos (by unfold Region.wanted; rw [hg])]
  obtain ⟨v, h1, h2⟩ := h K fun a ha => hK a ha.out
  exact ⟨v, fun w hw => by unfold Oper.quietAt; rw [h1 w hw]; exact ⟨rfl, rfl⟩, h2⟩

/-- A call. -/
theorem cls_call {R : Act → Prop} {a : Act} {o : Oper} {rest : List Oper} (hg : o.guard = none)
    (h : ∀ K : Act → Prop, (∀ a, WQ P ops C R rest a → K a) → ∃ f args v, (∀ w, (execOp a.eval o).run P w = .ok (.enter f args) w) ∧ (∀ w, C w → Calls P f args w fun e w' => e = .returned v ∧ C w') ∧ K (a.put o.dst v)) : WQ P ops C R (o :: rest) a := by
  refine ⟨wpQuiet_step fun K hK => ?_⟩
  rw [if_pos (by unfold Region.wanted; rw [hg])]
  obtain ⟨f, args, v, h1, h2, h3⟩ := h K fun a ha => hK a ha.out
  exact ⟨v, fun w hw => by unfold Oper.quietAt; rw [h1 w]; exact ⟨rfl, h2 w hw⟩, h3⟩

end
end Go.Proofs.YthnahalboomkoaaGreat

/-
  The same law where the last operation ahead of the tail makes a block: it may come up at any time.
-/
namespace Go.Proofs.YthnahalboomkoaaGreat
open Go.RowKit

/-- Block g holds these cells. -/
def Blk (w : World) (g : Nat) (t : TypeId) (cs : Array Value) : Prop := w.heap[g]? = some (.cells cs t (0, 0))

section
variable {P : Program} {ops : Array Oper}

/-- A class of worlds that lie behind W, kept by whatever makes blocks of its own alone. -/
def Stable (W : World) (D : World → Prop) : Prop := (∀ w, D w → Below W.heap.size W w) ∧ ∀ w w', D w → Below w.heap.size w w' → D w'

/-- The walk in the order of the text: operations that leave the world alone, calls that make blocks of their own alone. -/
def wpBel (P : Program) (W : World) (R : Act → Prop) : List Oper → Act → Prop
  | [], a => R a
  | o :: rest, a => o.guard = none ∧ ∃ v, ((∀ w, Below W.heap.size W w → (execOp a.eval o).run P w = .ok (.value v) w) ∨
      ∃ f args, (∀ w, (execOp a.eval o).run P w = .ok (.enter f args) w) ∧ ∀ w, Below W.heap.size W w → Calls P f args w fun e w' => e = .returned v ∧ Below w.heap.size w w') ∧ wpBel P W R rest (a.put o.dst v)

theorem bel_nil {W : World} {R : Act → Prop} {a : Act} (h : R a) : wpBel P W R [] a := h
theorem bel_step {W : World} {R : Act → Prop} {a : Act} {o : Oper} {rest : List Oper} (hg : o.guard = none)
    (h : ∀ K : Act → Prop, (∀ a, wpBel P W R rest a → K a) → ∃ v, (∀ w, Below W.heap.size W w → (execOp a.eval o).run P w = .ok (.value v) w) ∧ K (a.put o.dst v)) : wpBel P W R (o :: rest) a := by
  obtain ⟨v, h1, h2⟩ := h _ (fun _ h => h)
  exact ⟨hg, v, .inl h1, h2⟩
theorem bel_call {W : World} {R : Act → Prop} {a : Act} {o : Oper} {rest : List Oper} (hg : o.guard = none)
    (h : ∀ K : Act → Prop, (∀ a, wpBel P W R rest a → K a) → ∃ f args v, (∀ w, (execOp a.eval o).run P w = .ok (.enter f args) w) ∧ (∀ w, Below W.heap.size W w → Calls P f args w fun e w' => e = .returned v ∧ Below w.heap.size w w') ∧ K (a.put o.dst v)) : wpBel P W R (o :: rest) a := by
  obtain ⟨f, args, v, h1, h2, h3⟩ := h _ (fun _ h => h)
  exact ⟨hg, v, .inr ⟨f, args, h1, h2⟩, h3⟩

/-- The frame, to be written out. -/
theorem frame_out {Q : Exit → Act → World → Prop} {l : List Oper} {a : Act} {w : World} (h : ∀ K : Act → Prop, (∀ a, wpList P ops Q l a w → K a) → K a) : wpList P ops Q l a w := h _ (fun _ h => h)

theorem putSt_vals {v1 v2 : Nat → Value} {a : Act} {S : Nat → Bool} : ∀ (m : Nat), (∀ j, j < m → S j = true → v1 j = v2 j) → putSt ops v1 a S m = putSt ops v2 a S m
  | 0, _ => rfl
  | m + 1, h => by
    simp only [putSt, putSt_vals m (fun j hj => h j (by omega))]
    split
    · rw [h m (by omega) (by assumption)]
    · rfl

theorem values_of_bel {W : World} {R : Act → Prop} {a : Act} (n : Nat) : ∀ (l : List Oper) (k : Nat) (v : Nat → Value), k + l.length = n → (∀ j, j < l.length → l[j]? = ops[k + j]?) →
    wpBel P W R l (putSt ops v a (fun _ => true) k) →
    ∃ v', (∀ j, j < k → v' j = v j) ∧ (∀ i o, k ≤ i → i < n → ops[i]? = some o → ∀ D, Stable W D → YieldsIn P ops D o (v' i) (putSt ops v' a (fun _ => true) i)) ∧ R (putSt ops v' a (fun _ => true) n)
  | [], k, v, hk, _, h => by
    have : k = n := by simpa using hk
    subst this
    exact ⟨v, fun _ _ => rfl, fun i o h1 h2 => by omega, h⟩
  | o :: l, k, v, hk, hl, h => by
    have h0 : ops[k]? = some o := by simpa using (hl 0 (by simp)).symm
    obtain ⟨hg, u, hy, hK⟩ := h
    have hds : dsOf ops k = o.dst := by simp [dsOf, h0]
    have e1 : putSt ops (fun j => if j = k then u else v j) a (fun _ => true) (k + 1) = (putSt ops v a (fun _ => true) k).put o.dst u := by
      simp only [putSt, if_true, hds]
      rw [putSt_vals (v2 := v) k (fun j hj _ => if_neg (by omega))]
    obtain ⟨v', h1, h2, h3⟩ := values_of_bel (a := a) n l (k + 1) (fun j => if j = k then u else v j) (by simp only [List.length_cons] at hk; omega)
      (fun j hj => by have := hl (j + 1) (by simp; omega); simpa [Nat.add_assoc, Nat.add_comm 1 j] using this) (by rw [e1]; exact hK)
    have hvk : v' k = u := by rw [h1 k (by omega)]; simp
    have hvj : ∀ j, j < k → v' j = v j := fun j hj => by rw [h1 j (by omega)]; exact if_neg (by omega)
    refine ⟨v', hvj, fun i oi hi hin hoi D hD => ?_, h3⟩
    by_cases e : i = k
    · subst e
      obtain rfl : oi = o := Option.some.inj (hoi.symm.trans h0)
      rw [hvk, putSt_vals (v2 := v) i (fun j hj _ => hvj j hj)]
      refine .inl ⟨by unfold Region.wanted; rw [hg], fun w hw => ?_⟩
      unfold Oper.quietAt
      rcases hy with hy | ⟨f, args, hy, hc⟩
      · rw [hy w (hD.1 w hw)]; exact ⟨rfl, rfl⟩
      · rw [hy w]; exact ⟨rfl, (hc w (hD.1 w hw)).mono fun e w' ⟨h1, h2⟩ => ⟨h1, hD.2 w w' hw h2⟩⟩
    · exact h2 i oi (by omega) hin hoi D hD

/-- The worlds behind W; once the block is made, those in which it lies there. -/
def Made (W : World) (t : TypeId) (cs : Array Value) (b : Bool) (g : Nat) (w : World) : Prop := Below W.heap.size W w ∧ (b = true → W.heap.size ≤ g ∧ Blk w g t cs)

theorem made_stable (W : World) (t : TypeId) (cs : Array Value) (b : Bool) (g : Nat) : Stable W (Made W t cs b g) :=
  ⟨fun _ h => h.1, fun _ _ h hb => ⟨h.1.trans (hb.mono h.1.size), fun e => ⟨(h.2 e).1, (hb.block g (Array.getElem?_eq_some_iff.1 (h.2 e).2).1).trans (h.2 e).2⟩⟩⟩

theorem any_of_alloc {W : World} {m : Nat} {t : TypeId} {cs : Array Value} {om : Oper} {Q : Exit → Act → World → Prop} {a : Act} {v : Nat → Value} (hB : Region.clsB ops (m + 1) = true) (hom : ops[m]? = some om) (hgm : om.guard = none)
    (hrun : ∀ (a : Act) (w : World), (execOp a.eval om).run P w = .ok (.value (.pointer (some ⟨w.heap.size, 0, none⟩))) (w.alloc (.cells cs t)))
    (hv : ∀ i o, i < m → ops[i]? = some o → ∀ D, Stable W D → YieldsIn P ops D o (v i) (putSt ops v a (fun _ => true) i))
    (hT : ∀ g w, Made W t cs true g w → wpAny P .any ops Q (ops.size - (m + 1)) (headDone ops (m + 1)) ((putSt ops v a (fun _ => true) m).put om.dst (.pointer (some ⟨g, 0, none⟩))) w) :
    ∀ (k : Nat) (listed : Array Bool) (g : Nat) (w : World), leftOf listed (m + 1) = k → HeadInv .any ops (m + 1) listed → Made W t cs (listed.getD m false) g w →
      wpAny P .any ops Q (k + (ops.size - (m + 1))) listed (putSt ops (fun i => if i = m then .pointer (some ⟨g, 0, none⟩) else v i) a (fun j => listed.getD j false) (m + 1)) w := by
  simp only [Region.clsB, Bool.and_eq_true, decide_eq_true_eq] at hB
  obtain ⟨⟨⟨⟨⟨⟨hsel, hn⟩, hs⟩, hc⟩, hh⟩, he⟩, hq⟩ := hB
  have hdm : dsOf ops m = om.dst := by simp [dsOf, hom]
  intro k
  induction k with
  | zero =>
    intro listed g w hl inv hw
    have hall := leftOf_zero hl
    have e : listed = headDone ops (m + 1) := by
      apply Array.ext
      · simp [headDone, inv.size]
      · intro i h1 h2
        have h3 : i < ops.size := by rw [← inv.size]; exact h1
        simp only [headDone, Array.getElem_ofFn]
        by_cases hi : i < m + 1
        · have := hall i hi
          simp [h1] at this
          simp [hi, this]
        · have := inv.tail i (by omega) h3
          simp [h1] at this
          simp [hi, this]
    have hmt := hall m (by omega)
    rw [hmt] at hw
    have e2 : putSt ops (fun i => if i = m then .pointer (some ⟨g, 0, none⟩) else v i) a (fun j => listed.getD j false) (m + 1) = (putSt ops v a (fun _ => true) m).put om.dst (.pointer (some ⟨g, 0, none⟩)) := by
      rw [putSt_congr (S := fun j => listed.getD j false) (T := fun _ => true) (m + 1) (fun j hj => hall j hj)]
      simp only [putSt, if_true, hdm]
      rw [putSt_vals (v2 := v) m (fun j hj _ => if_neg (by omega))]
    rw [Nat.zero_add, e2, e]
    exact hT g w hw
  | succ k ih =>
    intro listed g w hl inv hw
    obtain ⟨i0, hi0, hun0, hbelow⟩ := exists_left (listed := listed) (n := m + 1) (by omega)
    rw [show k + 1 + (ops.size - (m + 1)) = (k + (ops.size - (m + 1))) + 1 by omega]
    have hun0' : listed.getD i0 true = false := getD_in (by rw [inv.size]; omega) hun0
    have hready : i0 ∈ Region.ready .any ops listed := by
      obtain ⟨o0, ho0⟩ : ∃ o, ops[i0]? = some o := ⟨ops[i0]'(by omega), Array.getElem?_eq_getElem (by omega)⟩
      refine mem_ready.2 ⟨hun0', o0, ho0, fun e hea hb => ?_⟩
      have h1 := List.all_eq_true.1 he i0 (List.mem_range.2 hi0)
      simp only [ho0, Array.all_eq_true_iff_forall_mem] at h1
      have h2 := h1 e hea
      simp only [hb, Bool.not_true, Bool.false_or, decide_eq_true_eq] at h2
      exact hbelow _ h2
    refine ⟨fun h => (by rw [h] at hready; cases hready), fun i hi => ?_⟩
    have hin : i < m + 1 := by
      rcases Nat.lt_or_ge i (m + 1) with h | h
      · exact h
      · exact absurd hi (tail_waits hs hc hn inv _ i0 rfl hi0 hun0' i h)
    obtain ⟨huni, oi, hoi, hall⟩ := mem_ready.1 hi
    have huni' := getD_both huni
    have hisz : i < listed.size := by rw [inv.size]; omega
    have hsi := Region.noSelect_spec hsel
    have hd := headB_dst hh
    have hleft : leftOf (listed.setIfInBounds i true) (m + 1) = k := by have := leftOf_set hisz huni' (m + 1) hin; omega
    have hset : ∀ (u : Nat → Value), (putSt ops u a (fun j => listed.getD j false) (m + 1)).put (dsOf ops i) (u i) = putSt ops u a (fun j => (listed.setIfInBounds i true).getD j false) (m + 1) := by
      intro u
      have h1 := putSt_more (ops := ops) (v := u) (a := a) (S := fun j => listed.getD j false) (j := i) (n := m + 1) (fun k hk hne => hd i k hin hk hne) huni' (m + 1) hin (Nat.le_refl _)
      rw [← h1]
      refine putSt_congr (m + 1) fun j hj => ?_
      by_cases e : j = i
      · subst e; simp [more, hisz]
      · have h2 : (j == i) = false := by simp [e]
        rw [getD_set_ne false (fun x => e x.symm)]
        simp [more, h2]
    by_cases eim : i = m
    · subst eim
      obtain rfl : oi = om := Option.some.inj (hoi.symm.trans hom)
      unfold wpOp
      simp only [hom]
      rw [if_pos (by unfold Region.wanted; rw [hgm])]
      refine .inl ?_
      unfold Oper.wp
      rw [hrun]
      simp only [Oper.upon]
      have hf : putSt ops (fun j => if j = i then .pointer (some ⟨g, 0, none⟩) else v j) a (fun j => listed.getD j false) (i + 1) = putSt ops (fun j => if j = i then .pointer (some ⟨w.heap.size, 0, none⟩) else v j) a (fun j => listed.getD j false) (i + 1) :=
        putSt_vals (i + 1) fun j hj hS => by
          have hne : j ≠ i := fun e => by subst e; rw [show listed.getD j false = false from huni'] at hS; cases hS
          simp [hne]
      have hset' := hset (fun j => if j = i then .pointer (some ⟨w.heap.size, 0, none⟩) else v j)
      simp only [if_true, hdm] at hset'
      rw [hf, hset']
      refine ih _ w.heap.size _ hleft (inv.set hi hin) ?_
      have h1 : (listed.setIfInBounds i true).getD i false = true := by simp [hisz]
      rw [h1]
      exact ⟨hw.1.alloc hw.1.size _, fun _ => ⟨hw.1.size, heap_alloc_last w _⟩⟩
    · have him : i < m := by omega
      have hpre : putSt ops v a (fun _ => true) i = putSt ops (fun j => if j = m then .pointer (some ⟨g, 0, none⟩) else v j) a (fun j => decide (j < i)) (m + 1) := by
        have h1 : ∀ k, i ≤ k → putSt ops (fun j => if j = m then .pointer (some ⟨g, 0, none⟩) else v j) a (fun j => decide (j < i)) k = putSt ops v a (fun _ => true) i := by
          intro k hk
          induction k with
          | zero => have : i = 0 := by omega
                    subst this; rfl
          | succ k ihk =>
            by_cases e : i = k + 1
            · subst e
              rw [putSt_congr (T := fun _ => true) _ (fun j hj => by simp [hj])]
              exact putSt_vals _ fun j hj _ => if_neg (by omega)
            · have h1 : decide (k < i) = false := by simp; omega
              simp only [putSt, h1, Bool.false_eq_true, if_false]
              exact ihk (by omega)
        exact (h1 (m + 1) (by omega)).symm
      have hy0 := hv i oi him hoi (Made W t cs (listed.getD m false) g) (made_stable W t cs _ g)
      rw [hpre] at hy0
      generalize hvv : (fun j => if j = m then Value.pointer (some ⟨g, 0, none⟩) else v j) = vg at hy0 hset ⊢
      have hvi : vg i = v i := by rw [← hvv]; exact if_neg eim
      have hsS := putSt_same (v := vg) (a := a) (hsi i oi · · hoi) hd (S := fun j => decide (j < i)) (T := fun j => decide (j < i) || listed.getD j false) (fun j hj => by simp [show decide (j < i) = true from hj]) (fun j hj hTj hSj d hdj => by
        have h1 : ¬ j < i := by simpa using hSj
        have h2 : listed.getD j false = true := by simpa [h1] using hTj
        have hne : j ≠ i := fun e => by subst e; rw [huni'] at h2; cases h2
        exact headB_look hh i j oi hin hj hne hoi (fun hx => h1 hx.1) d hdj)
      have hsT := putSt_same (v := vg) (a := a) (hsi i oi · · hoi) hd (S := fun j => listed.getD j false) (T := fun j => decide (j < i) || listed.getD j false) (fun j hj => by simp [show listed.getD j false = true from hj]) (fun j hj hTj hSj d hdj => by
        have h2 : listed.getD j false = false := hSj
        have hne : j ≠ i := fun e => by
          subst e
          simp [h2] at hTj
        refine headB_look hh i j oi hin hj hne hoi (fun hx => ?_) d hdj
        obtain ⟨o', ho', e, hea, hb, hon⟩ := Region.waitsFor_spec hx.2
        obtain rfl : o' = oi := Option.some.inj (ho'.symm.trans hoi)
        have h3 := hall e hea hb
        rw [hon, h2] at h3
        cases h3)
      have hy : YieldsIn P ops (Made W t cs (listed.getD m false) g) oi (v i) (putSt ops vg a (fun j => listed.getD j false) (m + 1)) := hy0.of_same (hsT.1.symm.trans hsS.1) (hsT.2.symm.trans hsS.2)
      refine wpOp_of_qOp (K := fun a' => a' = (putSt ops vg a (fun j => listed.getD j false) (m + 1)).put oi.dst (v i)) hw (fun a' w' hw' ha' => ?_) (hy.qOp hoi rfl)
      have hset' := hset vg
      rw [show dsOf ops i = oi.dst by simp [dsOf, hoi], hvi] at hset'
      rw [ha', hset', ← hvv]
      refine ih _ g w' hleft (inv.set hi hin) ?_
      rw [getD_set_ne false eim]
      exact hw'

/-- **The law with a block.** -/
theorem wp_region_made {id : Nat} {Q : Exit → Act → World → Prop} {a : Act} {w : World} {l : List Oper} (m : Nat) {t : TypeId} {cs : Array Value} {om : Oper} (hm : P.follows .mixedOrders = true) (hB : Region.clsB l.toArray (m + 1) = true) (hom : l[m]? = some om) (hgm : om.guard = none)
    (hrun : ∀ (a : Act) (w : World), (execOp a.eval om).run P w = .ok (.value (.pointer (some ⟨w.heap.size, 0, none⟩))) (w.alloc (.cells cs t)))
    (h : wpBel P w (fun a' => ∀ g w', Below w.heap.size w w' → w.heap.size ≤ g → Blk w' g t cs → wpList P l.toArray Q (l.drop (m + 1)) (a'.put om.dst (.pointer (some ⟨g, 0, none⟩))) w') (l.take m) a) : (Code.region id l.toArray true).wp P Q a w := by
  have hB' := hB
  simp only [Region.clsB, Bool.and_eq_true, decide_eq_true_eq] at hB'
  obtain ⟨⟨⟨⟨⟨⟨hsel, hn⟩, hs⟩, hc⟩, hh⟩, he⟩, hq⟩ := hB'
  have hn' : m + 1 < l.length := by simpa using hn
  have htl : (l.take m).length = m := by simp; omega
  have hdl : (l.drop (m + 1)).length = l.toArray.size - (m + 1) := by simp
  obtain ⟨v, _, hv, hR⟩ := values_of_bel (P := P) (ops := l.toArray) (a := a) m (l.take m) 0 (fun _ => undef) (by simpa using htl) (fun j hj => by
    have hj' : j < m := by rw [htl] at hj; exact hj
    simp [hj']) h
  have inv0 : HeadInv .any l.toArray (m + 1) (Array.replicate l.toArray.size false) :=
    ⟨by simp, fun j oj _ hl => (by rw [getD_replicate_false] at hl; cases hl), fun t _ ht => getD_in (by simpa using ht) (getD_replicate_false _ _)⟩
  have hl0 : leftOf (Array.replicate l.toArray.size false) (m + 1) = m + 1 := by
    unfold leftOf
    rw [List.countP_eq_length.2 (fun i _ => by rw [getD_replicate_false]; rfl), List.length_range]
  have H := any_of_alloc (P := P) (W := w) (Q := Q) (a := a) (v := v) hB (by simpa using hom) hgm hrun (fun i o hi ho => hv i o (Nat.zero_le _) hi ho) (fun g w' hw' => by
    have := wpAny_of_seq (md := .any) (Q' := Q) (l.drop (m + 1)) (m + 1) (headDone l.toArray (m + 1)) _ w' (fun j => by simp [List.getElem?_drop]) (by rw [hdl]; exact hq) (hR g w' hw'.1 (hw'.2 rfl).1 (hw'.2 rfl).2)
    rwa [hdl] at this) (m + 1) (Array.replicate l.toArray.size false) 0 w.drew hl0 inv0 ⟨(Below.refl _ _).drew, fun e => by rw [getD_replicate_false] at e; cases e⟩
  rw [show (m + 1) + (l.toArray.size - (m + 1)) = l.toArray.size by omega, putSt_congr (S := fun j => (Array.replicate l.toArray.size false).getD j false) (T := fun _ => false) (m + 1) (fun j _ => getD_replicate_false _ _)] at H
  have hnone : ∀ (u : Nat → Value) k, putSt l.toArray u a (fun _ => false) k = a := by
    intro u k
    induction k with
    | zero => rfl
    | succ k ih => simp only [putSt, Bool.false_eq_true, if_false]; exact ih
  rw [hnone] at H
  exact wp_region_any hm H

end
end Go.Proofs.YthnahalboomkoaaGreat

/-
  Blocks that hold a struct, and how they are carried from world to world.
-/
namespace Go.Proofs.YthnahalboomkoaaGreat
open Go.RowKit

theorem mixes : Tryz.prog.follows .mixedOrders = true := by kernel_rfl

theorem Blk.lt {w : World} {g : Nat} {t : TypeId} {cs : Array Value} (h : Blk w g t cs) : g < w.heap.size := (Array.getElem?_eq_some_iff.1 h).1
theorem Blk.cell {w : World} {g : Nat} {t : TypeId} {cs : Array Value} (h : Blk w g t cs) (i : Nat) : w.cell? ⟨g, i, none⟩ = cs[i]? := cell_of_row _ _ i _ _ _ h
theorem Blk.free {w : World} {g : Nat} {t : TypeId} {cs : Array Value} (h : Blk w g t cs) (i : Nat) : w.frozen? ⟨g, i, none⟩ = false := by
  unfold World.frozen?
  rw [h]
  simp
theorem Blk.new (w : World) (t : TypeId) (cs : Array Value) : Blk (w.alloc (.cells cs t)) w.heap.size t cs := heap_alloc_last w _
theorem Blk.newAt {w : World} {t : TypeId} {g : Nat} {cs : Array Value} (hg : g = w.heap.size) : Blk (w.alloc (.cells cs t)) g t cs := by
  subst hg; exact Blk.new w t cs
theorem Blk.alloc {w : World} {g : Nat} {t : TypeId} {cs : Array Value} (h : Blk w g t cs) (o : Obj) : Blk (w.alloc o) g t cs := by
  have := h.lt
  show (w.heap.push o)[g]? = _
  rw [Array.getElem?_push, if_neg (by omega)]
  exact h
theorem Blk.drew {w : World} {g : Nat} {t : TypeId} {cs : Array Value} (h : Blk w g t cs) : Blk w.drew g t cs := h
theorem Blk.on {w w1 : World} {c g : Nat} {t : TypeId} {cs : Array Value} (h : Blk w g t cs) (hb : Below c w w1) (hc : g < c) : Blk w1 g t cs := (hb.block g hc).trans h
theorem Blk.set {w : World} {g : Nat} {t : TypeId} {cs : Array Value} (h : Blk w g t cs) (i : Nat) (v : Value) : Blk (w.setCell ⟨g, i, none⟩ v) g t (cs.setIfInBounds i v) := by
  have := h
  unfold Blk at this ⊢
  simp only [World.setCell]
  rw [Array.getElem?_modify, if_pos rfl, this]
  rfl
theorem Blk.other {w : World} {g g' i : Nat} {t : TypeId} {cs : Array Value} (h : Blk w g t cs) (hne : g' ≠ g) (v : Value) : Blk (w.setCell ⟨g', i, none⟩ v) g t cs := by
  unfold Blk at h ⊢
  simp only [World.setCell]
  rw [Array.getElem?_modify, if_neg hne, h]

/-- What a callee leaves that makes blocks of its own alone. -/
theorem calls_below {P : Program} {f : FuncId} {args : Array Value} {w0 w : World} {v : Value} (hw : Below w0.heap.size w0 w) (h : Calls P f args w fun e w' => e = .returned v ∧ Below w.heap.size w w') :
    Calls P f args w fun e w' => e = .returned v ∧ Below w0.heap.size w0 w' := h.mono fun _ _ ⟨h1, h2⟩ => ⟨h1, hw.trans (h2.mono hw.size)⟩
theorem calls_same {P : Program} {f : FuncId} {args : Array Value} {w0 w : World} {v : Value} (hw : Below w0.heap.size w0 w) (h : Calls P f args w fun e w' => e = .returned v ∧ w = w') :
    Calls P f args w fun e w' => e = .returned v ∧ Below w0.heap.size w0 w' := h.mono fun _ _ ⟨h1, h2⟩ => ⟨h1, h2 ▸ hw⟩

/-- A whole struct out of its block. -/
theorem Blk.load {P : Program} {w : World} {g : Nat} {t ty : TypeId} {cs : Array Value} {fs : Array Field} (h : Blk w g t cs) (hu : P.underlying ty = some (.struct fs)) (hi : (P.info? ty).map (·.size) = some cs.size) :
    (loadVar ty ⟨g, 0, none⟩).run P w = .ok (.agg cs) w := by
  have hc := run_loadCells_list (P := P) w ⟨g, 0, none⟩ cs.toList (fun j v hv => by
    have hadd : (⟨g, 0, none⟩ : Addr).add j = ⟨g, j, none⟩ := by unfold Addr.add; split <;> simp_all
    rw [hadd, h.cell j]
    simpa using hv)
  cases hq : P.info? ty with
  | none => simp [hq] at hi
  | some i =>
    have hs : i.size = cs.size := by simp [hq] at hi; omega
    have hc' : (loadCells ⟨g, 0, none⟩ cs.size).run P w = .ok cs w := by simpa using hc
    simp [loadVar, isAgg, underlying, hu, sizeOf, typeInfo, hq, hs, hc', Result.andThen]

/-- A whole struct into its block. -/
theorem Blk.store {P : Program} {w : World} {g : Nat} {t ty : TypeId} {cs cs' : Array Value} (h : Blk w g t cs) (hi : (P.info? ty).map (·.size) = some cs'.size) (ho : cs.size = cs'.size) (h1 : cs'.all (·.oneCell') = true) :
    (storeVar ty ⟨g, 0, none⟩ (.agg cs')).run P w = .ok () (w.setRow g cs') := run_storeVar_row w g t ty cs cs' h hi ho h1

theorem Blk.row {w : World} {g : Nat} {t : TypeId} {cs : Array Value} (h : Blk w g t cs) (cs' : Array Value) : Blk (w.setRow g cs') g t cs' := by
  unfold Blk at h ⊢
  simp only [World.setRow]
  rw [Array.getElem?_modify, if_pos rfl, h]
  rfl
theorem Blk.rowOther {w : World} {g g' : Nat} {t : TypeId} {cs : Array Value} (h : Blk w g t cs) (hne : g' ≠ g) (cs' : Array Value) : Blk (w.setRow g' cs') g t cs := by
  unfold Blk at h ⊢
  simp only [World.setRow]
  rw [Array.getElem?_modify, if_neg hne, h]

/-- A result that lives in a block. -/
theorem result_blk {P : Program} {fn : Func} {p : Tmp} {ty t : TypeId} {fs : Array Field} (h : fn.results = #[.cell p ty]) {tmps : Array Value} {w : World} {g : Nat} {cs : Array Value} (hp : tmps.getD p undef = .pointer (some ⟨g, 0, none⟩))
    (hA : Blk w g t cs) (hu : P.underlying ty = some (.struct fs)) (hi : (P.info? ty).map (·.size) = some cs.size) : (results fn tmps).run P w = .ok (.agg cs) w := by
  have hl := hA.load hu hi
  have hp' : tmps[p]?.getD undef = .pointer (some ⟨g, 0, none⟩) := by simpa using hp
  simp [results, h, hp', asAddr, hl]

/-- A whole struct out of its block. -/
theorem load_blk {P : Program} {w : World} {ops : Array Oper} {rest : List Oper} {o : Oper} {a : Act} {Q : Exit → Act → World → Prop} (hg : o.guard = none) {t : TypeId} {p : Operand} (hop : o.op = Op.load t p)
    {g : Nat} {t' : TypeId} {cs : Array Value} {fs : Array Field} (hp : a.eval p = .pointer (some ⟨g, 0, none⟩)) (h : Blk w g t' cs) (hu : P.underlying t = some (.struct fs)) (hi : (P.info? t).map (·.size) = some cs.size)
    (K : wpList P ops Q rest (a.put o.dst (.agg cs)) w) : wpList P ops Q (o :: rest) a w := by
  refine wpList_plain hg fun K' hK' => ?_
  have hrun : (Instr.loadAt t (.pointer (some ⟨g, 0, none⟩))).run P w = .ok (.agg cs) w := by
    simp only [Instr.loadAt, Instr.sureAddr, Sem.run_bind, Sem.run_pure, Result.andThen]
    exact h.load hu hi
  unfold Oper.wp
  simp [execOp, hop, hp, hrun, Result.andThen]
  exact hK' _ _ K
/-- A whole struct into its block, the world behind it under a new name. -/
theorem store_blk {P : Program} {w : World} {ops : Array Oper} {rest : List Oper} {o : Oper} {a : Act} {Q : Exit → Act → World → Prop} (hg : o.guard = none) (hd : o.dst = none) {t : TypeId} {p v : Operand} (hop : o.op = Op.store t p v)
    {g : Nat} {t' : TypeId} {cs cs' : Array Value} (hp : a.eval p = .pointer (some ⟨g, 0, none⟩)) (hv : a.eval v = .agg cs') (h : Blk w g t' cs) (hi : (P.info? t).map (·.size) = some cs'.size) (ho : cs.size = cs'.size) (h1 : cs'.all (·.oneCell') = true)
    (K : ∀ w', Blk w' g t' cs' → (∀ g' t'' cs'', g ≠ g' → Blk w g' t'' cs'' → Blk w' g' t'' cs'') → (∀ B w0, B ≤ g → Below B w0 w → Below B w0 w') → wpList P ops Q rest a w') : wpList P ops Q (o :: rest) a w := by
  refine wpList_plain hg fun K' hK' => ?_
  have hrun : (Instr.storeAt t (.pointer (some ⟨g, 0, none⟩)) (.agg cs')).run P w = .ok () (w.setRow g cs') := by
    simp only [Instr.storeAt, Instr.sureAddr, Sem.run_bind, Sem.run_pure, Result.andThen]
    exact h.store hi ho h1
  unfold Oper.wp
  simp [execOp, hop, hp, hv, hrun, Result.andThen]
  refine hK' _ _ ?_
  rw [show a.put o.dst undef = a by rw [hd]; rfl]
  exact (K _ (h.row cs') (fun g' t'' cs'' hne h' => h'.rowOther hne _) (fun _ _ hB hb => below_setRow hb hB _))

/-- What a call leaves, behind another. -/
theorem below_then {w0 w w' : World} (h : Below w0.heap.size w0 w) (h' : Below w.heap.size w w') : Below w0.heap.size w0 w' := h.trans (h'.mono h.size)
/-- A new block. -/
theorem box1 (w : World) (t : TypeId) (c : Array Value) : ∃ W, w.alloc (.cells c t) = W ∧ Below w.heap.size w W ∧ Blk W w.heap.size t c :=
  ⟨_, rfl, (Below.refl _ _).alloc (Nat.le_refl _) _, Blk.new w t c⟩

/-- One parameter in a block of its own, and the result's. -/
theorem boxes1r (w : World) (t1 tr : TypeId) (c1 cr : Array Value) : ∃ W, (w.alloc (.cells c1 t1)).alloc (.cells cr tr) = W ∧ Below w.heap.size w W ∧ Blk W w.heap.size t1 c1 ∧ Blk W (w.heap.size + 1) tr cr :=
  ⟨_, rfl, ((Below.refl _ _).alloc (Nat.le_refl _) _).alloc (by simp) _, (Blk.new w t1 c1).alloc _, Blk.newAt (by simp)⟩
/-- Two parameters in blocks of their own, and the result's. -/
theorem boxes2r (w : World) (t1 t2 tr : TypeId) (c1 c2 cr : Array Value) : ∃ W, ((w.alloc (.cells c1 t1)).alloc (.cells c2 t2)).alloc (.cells cr tr) = W ∧ Below w.heap.size w W ∧ Blk W w.heap.size t1 c1 ∧ Blk W (w.heap.size + 1) t2 c2 ∧ Blk W (w.heap.size + 1 + 1) tr cr :=
  ⟨_, rfl, (((Below.refl _ _).alloc (Nat.le_refl _) _).alloc (by simp) _).alloc (by simp; omega) _, ((Blk.new w t1 c1).alloc _).alloc _, (Blk.newAt (by simp)).alloc _, Blk.newAt (by simp)⟩

end Go.Proofs.YthnahalboomkoaaGreat

/-
  Rows that are owned, carried from world to world.
-/
namespace Go.Proofs.YthnahalboomkoaaGreat
open Go.RowKit

theorem owns_on {w w' : World} {B e sz n : Nat} {v : Value} {xs : List Value} (h : w.ownsRow B e sz v n xs) (hb : Below w.heap.size w w') : w'.ownsRow B e sz v n xs := by
  refine ⟨h.1, ?_⟩
  rcases h.2 with h0 | ⟨g, cap, cur, hv, hB, hg, rest⟩
  · exact .inl h0
  · exact .inr ⟨g, cap, cur, hv, hB, (hb.block g (Array.getElem?_eq_some_iff.1 hg).1).trans hg, rest⟩

theorem owns_other {w w' : World} {B e sz n g : Nat} {v : Value} {xs : List Value} (h : w.ownsRow B e sz v n xs) (hoth : ∀ g' t cs, g ≠ g' → Blk w g' t cs → Blk w' g' t cs) (hg : g < B) : w'.ownsRow B e sz v n xs := by
  refine ⟨h.1, ?_⟩
  rcases h.2 with h0 | ⟨g1, cap, cur, hv, hB, hb, rest⟩
  · exact .inl h0
  · exact .inr ⟨g1, cap, cur, hv, hB, hoth g1 e cur (by omega) hb, rest⟩

end Go.Proofs.YthnahalboomkoaaGreat

/-
  Rows of numbers that are owned.
  (-DROP-: what the seat lacks is left out.)
-/
namespace Go.Proofs.YthnahalboomkoaaGreat
open Go.RowKit

/-- A row of numbers that is owned. -/
def zsV (l : List Int) : List Value := l.map (Value.int .i64)
def RowZs (B : Nat) (w : World) (v : Value) (l : List Int) : Prop := w.ownsRow B 3 1 v l.length (zsV l)
theorem zsV_append (a b : List Int) : zsV (a ++ b) = zsV a ++ zsV b := by simp [zsV]

theorem RowZs.ints {B : Nat} {w : World} {v : Value} {l : List Int} (h : RowZs B w v l) : ∃ a cp, v = .slice a l.length cp ∧ IntsAt w a l.length w.heap.size (fun j => l.getD j 0) := by
  rcases h.2 with ⟨rfl, h0⟩ | ⟨g, cp, cur, rfl, hg, hh, hrest⟩
  · exact ⟨none, 0, by rw [h0], fun j hj => by omega⟩
  · refine ⟨_, cp, rfl, fun j hj => ⟨g, 0, rfl, (Array.getElem?_eq_some_iff.1 hh).1, ?_⟩⟩
    have hc := h.cellAt j (by omega)
    rw [Nat.zero_add, hc]
    simp [zsV, hj]

/-- The first n of a row. -/
def zls (f : Nat → Int) (n : Nat) : List Int := (List.range n).map f
theorem zls_length (f : Nat → Int) (n : Nat) : (zls f n).length = n := by simp [zls]
theorem zls_at (f : Nat → Int) {n j : Nat} (h : j < n) : (zls f n).getD j 0 = f j := by simp [zls, h]
theorem zls_next (f : Nat → Int) (n : Nat) : zls f (n + 1) = zls f n ++ [f n] := by
  unfold zls
  rw [List.range_succ, List.map_append]
  rfl
theorem zls_getD (l : List Int) : zls (fun j => l.getD j 0) l.length = l := by
  apply List.ext_getElem
  · simp [zls]
  · intro i h1 h2
    simp [zls, h2]

theorem RowI.rowZ {w : World} {g n B : Nat} {f : Nat → Int} (h : RowI w g n f) (hB : B ≤ g) (hn : n ≤ 1048576) : RowZs B w (.slice (some ⟨g, 0, none⟩) n n) (zls f n) := by
  unfold RowZs
  rw [zls_length]
  refine ⟨by simp [zls, zsV], .inr ⟨g, n, ic f n, rfl, hB, h, Nat.le_refl _, by unfold maxLen; omega, by rw [ic_size, Nat.mul_one], ?_⟩⟩
  rw [Nat.mul_one, List.take_of_length_le (by simp [ic])]
  simp [ic, zls, zsV]

end Go.Proofs.YthnahalboomkoaaGreat
