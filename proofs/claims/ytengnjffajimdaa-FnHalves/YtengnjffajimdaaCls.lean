/-
  A region that draws its order: one walk in the order of the text serves every order, where all operations but the last ones give one value
  in every world of a class and leave a world of that class. (By the set of operations that have come up: the frame is that of the set, whatever the order was.)
-/
import Derived.StillTail
import Derived.StillTailTactics
import Derived.Deep.QuietTactic
namespace Go.Proofs.Ytengnjffajimdaa

section
variable {P : Program} {ops : Array Oper} {C : World → Prop}

/-- Where an operation puts its value. -/
def dsOf (ops : Array Oper) (i : Nat) : Option Tmp := (ops[i]?).bind (·.dst)

/-- The frame behind the operations of the set S below n, each with its value. -/
def putSt (ops : Array Oper) (v : Nat → Value) (a : Act) (S : Nat → Bool) : Nat → Act
  | 0 => a
  | k + 1 => if S k then (putSt ops v a S k).put (dsOf ops k) (v k) else putSt ops v a S k

theorem putSt_congr {v : Nat → Value} {a : Act} {S T : Nat → Bool} : ∀ (n : Nat), (∀ j, j < n → S j = T j) → putSt ops v a S n = putSt ops v a T n
  | 0, _ => rfl
  | k + 1, h => by
    simp only [putSt, h k (by omega), putSt_congr k (fun j hj => h j (by omega))]

/-- One more in the set. -/
def more (S : Nat → Bool) (j : Nat) : Nat → Bool := fun k => S k || k == j

theorem putSt_more {v : Nat → Value} {a : Act} {S : Nat → Bool} {j n : Nat} (hd : ∀ k, k < n → k ≠ j → ∀ d, dsOf ops j = some d → dsOf ops k ≠ some d) (hj : S j = false) :
    ∀ m, j < m → m ≤ n → putSt ops v a (more S j) m = (putSt ops v a S m).put (dsOf ops j) (v j)
  | 0, h, _ => by omega
  | k + 1, h, hn => by
    by_cases e : k = j
    · subst e
      have h1 : putSt ops v a (more S k) k = putSt ops v a S k := putSt_congr k fun i hi => by
        have : (i == k) = false := by simp; omega
        simp [more, this]
      simp only [putSt, h1, hj, more, beq_self_eq_true, Bool.or_true, Bool.false_eq_true, if_false, if_true]
    · have h1 := putSt_more (v := v) (a := a) hd hj k (by omega) (by omega)
      have h2 : more S j k = S k := by
        have : (k == j) = false := by simp [e]
        simp [more, this]
      simp only [putSt, h1, h2]
      split
      · exact Act.put_comm _ _ _ (hd k (by omega) e)
      · rfl

/-- What an operation looks at is the same in the frames of two sets, one in the other, where what lies between is nothing that it looks at. -/
theorem putSt_same {v : Nat → Value} {a : Act} {n : Nat} {o : Oper} (hs : ∀ cs b, o.op ≠ .select cs b) (hd : ∀ j k, j < n → k < n → k ≠ j → ∀ d, dsOf ops j = some d → dsOf ops k ≠ some d)
    {S T : Nat → Bool} (hST : ∀ j, S j = true → T j = true) (hl : ∀ j, j < n → T j = true → S j = false → ∀ d, dsOf ops j = some d → d ∉ o.looksAt ops) :
    execOp (putSt ops v a T n).eval o = execOp (putSt ops v a S n).eval o ∧ Region.wanted o (yielded ops (putSt ops v a T n).tmps) = Region.wanted o (yielded ops (putSt ops v a S n).tmps) := by
  have step : ∀ k, k ≤ n → execOp (putSt ops v a (fun j => S j || (T j && decide (j < k))) n).eval o = execOp (putSt ops v a S n).eval o ∧
      Region.wanted o (yielded ops (putSt ops v a (fun j => S j || (T j && decide (j < k))) n).tmps) = Region.wanted o (yielded ops (putSt ops v a S n).tmps) := by
    intro k
    induction k with
    | zero =>
      intro _
      rw [putSt_congr (S := fun j => S j || (T j && decide (j < 0))) (T := S) n (fun j _ => by simp)]
      exact ⟨rfl, rfl⟩
    | succ k ih =>
      intro hk
      have ih := ih (by omega)
      by_cases hc : T k = true ∧ S k = false
      · have e : putSt ops v a (fun j => S j || (T j && decide (j < k + 1))) n = putSt ops v a (more (fun j => S j || (T j && decide (j < k))) k) n := putSt_congr n fun j _ => by
          by_cases ej : j = k
          · subst ej; simp [more, hc.1]
          · have h1 : decide (j < k + 1) = decide (j < k) := by simp; omega
            have h2 : (j == k) = false := by simp [ej]
            simp [more, h1, h2]
        rw [e, putSt_more (n := n) (fun i hi hne => hd k i (by omega) hi hne) (by simp [hc.2]) n (by omega) (Nat.le_refl _),
          execOp_put o hs _ _ _ (hl k (by omega) hc.1 hc.2), wanted_put o _ _ _ (hl k (by omega) hc.1 hc.2)]
        exact ih
      · have e : putSt ops v a (fun j => S j || (T j && decide (j < k + 1))) n = putSt ops v a (fun j => S j || (T j && decide (j < k))) n := putSt_congr n fun j _ => by
          by_cases ej : j = k
          · subst ej
            cases hS : S j
            · cases hT : T j
              · simp
              · exact absurd ⟨hT, hS⟩ hc
            · simp
          · have h1 : decide (j < k + 1) = decide (j < k) := by simp; omega
            simp [h1]
        rw [e]
        exact ih
  have := step n (Nat.le_refl _)
  rw [putSt_congr (S := fun j => S j || (T j && decide (j < n))) (T := T) n (fun j hj => by
    cases hS : S j
    · simp [hj]
    · simp [hST j hS])] at this
  exact this

/-- The walk in the order of the text, as values of the operations, each in the frame of those ahead of it. -/
theorem values_of_walk {R : Act → Prop} {a : Act} (n : Nat) : ∀ (l : List Oper) (k : Nat) (v : Nat → Value), k + l.length = n → (∀ j, j < l.length → l[j]? = ops[k + j]?) →
    wpQuiet P ops C R l (putSt ops v a (fun _ => true) k) →
    ∃ v', (∀ j, j < k → v' j = v j) ∧ (∀ i o, k ≤ i → i < n → ops[i]? = some o → YieldsIn P ops C o (v' i) (putSt ops v' a (fun _ => true) i)) ∧ R (putSt ops v' a (fun _ => true) n)
  | [], k, v, hk, _, h => by
    have : k = n := by simpa using hk
    subst this
    exact ⟨v, fun _ _ => rfl, fun i o h1 h2 => by omega, h⟩
  | o :: l, k, v, hk, hl, h => by
    have h0 : ops[k]? = some o := by simpa using (hl 0 (by simp)).symm
    have hq : qOp P ops C k (wpQuiet P ops C R l) (putSt ops v a (fun _ => true) k) := by unfold qOp; simp only [h0]; exact h
    obtain ⟨u, hy, hK⟩ := yieldsIn_of_qOp h0 hq
    have hpre : ∀ (v1 v2 : Nat → Value) (m : Nat), (∀ j, j < m → v1 j = v2 j) → putSt ops v1 a (fun _ => true) m = putSt ops v2 a (fun _ => true) m := by
      intro v1 v2 m
      induction m with
      | zero => intro _; rfl
      | succ m ih => intro hv; simp only [putSt, if_true, ih (fun j hj => hv j (by omega)), hv m (by omega)]
    have hds : dsOf ops k = o.dst := by simp [dsOf, h0]
    have e1 : putSt ops (fun j => if j = k then u else v j) a (fun _ => true) (k + 1) = (putSt ops v a (fun _ => true) k).put o.dst u := by
      simp only [putSt, if_true, hds]
      rw [hpre _ v k (fun j hj => if_neg (by omega))]
    obtain ⟨v', h1, h2, h3⟩ := values_of_walk (a := a) n l (k + 1) (fun j => if j = k then u else v j) (by simp only [List.length_cons] at hk; omega)
      (fun j hj => by have := hl (j + 1) (by simp; omega); simpa [Nat.add_assoc, Nat.add_comm 1 j] using this) (by rw [e1]; exact hK)
    have hvk : v' k = u := by rw [h1 k (by omega)]; simp
    have hvj : ∀ j, j < k → v' j = v j := fun j hj => by rw [h1 j (by omega)]; exact if_neg (by omega)
    refine ⟨v', hvj, fun i oi hi hin hoi => ?_, h3⟩
    by_cases e : i = k
    · subst e
      obtain rfl : oi = o := Option.some.inj (hoi.symm.trans h0)
      rw [hvk, hpre v' v i hvj]
      exact hy
    · exact h2 i oi (by omega) hin hoi

/-- What the head's operations must be: places of their own; none looks at what comes behind it, nor at what it does not wait for; each waits for what stands ahead of it alone. -/
def Region.headB (ops : Array Oper) (n : Nat) : Bool :=
  (List.range n).all fun i => (List.range n).all fun j => j == i ||
    ((match dsOf ops j with | some d => dsOf ops i != some d | none => true) &&
     ((decide (j < i) && Region.waitsFor .any ops i j) || match dsOf ops j, ops[i]? with | some d, some o => !(o.looksAt ops).contains d | _, _ => true))
def Region.edgesB (ops : Array Oper) (n : Nat) : Bool :=
  (List.range n).all fun i => match ops[i]? with | some o => o.after.all fun e => !Region.binds .any e || decide (e.on < i) | none => true
/-- Those below n have come up, the others not. -/
def headDone (ops : Array Oper) (n : Nat) : Array Bool := Array.ofFn fun i : Fin ops.size => decide (i.val < n)
def Region.clsB (ops : Array Oper) (n : Nat) : Bool :=
  Region.noSelect ops && decide (n < ops.size) && Region.sinkB .any ops n && Region.chainB .any ops n && Region.headB ops n && Region.edgesB ops n && Region.seqB .any ops (ops.size - n) n (headDone ops n)

theorem headB_dst {n : Nat} (h : Region.headB ops n = true) (j k : Nat) (hj : j < n) (hk : k < n) (hne : k ≠ j) (d : Tmp) (hd : dsOf ops j = some d) : dsOf ops k ≠ some d := by
  have h1 := List.all_eq_true.1 (List.all_eq_true.1 h k (List.mem_range.2 hk)) j (List.mem_range.2 hj)
  have e : (j == k) = false := by simp; omega
  simp only [e, Bool.false_or, Bool.and_eq_true, hd, bne_iff_ne, ne_eq] at h1
  exact h1.1

theorem headB_look {n : Nat} (h : Region.headB ops n = true) (i j : Nat) (o : Oper) (hi : i < n) (hj : j < n) (hne : j ≠ i) (ho : ops[i]? = some o) (hw : ¬ (j < i ∧ Region.waitsFor .any ops i j = true)) (d : Tmp) (hd : dsOf ops j = some d) : d ∉ o.looksAt ops := by
  have h1 := List.all_eq_true.1 (List.all_eq_true.1 h i (List.mem_range.2 hi)) j (List.mem_range.2 hj)
  have e : (j == i) = false := by simp [hne]
  simp only [e, Bool.false_or, Bool.and_eq_true, hd, ho, Bool.or_eq_true, decide_eq_true_eq] at h1
  rcases h1.2 with h2 | h2
  · exact absurd h2 hw
  · simpa using h2

/-- How many of the head are left. -/
def leftOf (listed : Array Bool) (n : Nat) : Nat := (List.range n).countP fun i => !listed.getD i false

theorem leftOf_zero {listed : Array Bool} {n : Nat} (h : leftOf listed n = 0) (i : Nat) (hi : i < n) : listed.getD i false = true := by
  unfold leftOf at h
  rw [List.countP_eq_zero] at h
  have := h i (List.mem_range.2 hi)
  simpa using this

theorem leftOf_set {listed : Array Bool} {i : Nat} (hsz : i < listed.size) (hun : listed.getD i false = false) : ∀ n, i < n → leftOf listed n = leftOf (listed.setIfInBounds i true) n + 1 := by
  intro n
  induction n with
  | zero => intro h; omega
  | succ n ih =>
    intro h
    have key : ∀ (L : Array Bool), leftOf L (n + 1) = leftOf L n + (if L.getD n false then 0 else 1) := by
      intro L
      unfold leftOf
      rw [List.range_succ, List.countP_append, List.countP_singleton]
      cases L.getD n false <;> simp
    rw [key, key]
    by_cases e : i = n
    · subst e
      have hsame : leftOf (listed.setIfInBounds i true) i = leftOf listed i := by
        unfold leftOf
        refine List.countP_congr fun j hj => ?_
        have hj' := List.mem_range.1 hj
        rw [getD_set_ne false (by omega)]
      have ht : (listed.setIfInBounds i true).getD i false = true := by simp [hsz]
      rw [hsame, ht, hun]
      simp
    · rw [ih (by omega), getD_set_ne false e]
      omega

theorem exists_left {listed : Array Bool} {n : Nat} (h : leftOf listed n ≠ 0) : ∃ i, i < n ∧ listed.getD i false = false ∧ ∀ j, j < i → listed.getD j false = true := by
  have hex : ∀ m, m ≤ n → (∀ j, j < m → listed.getD j false = true) ∨ ∃ i, i < m ∧ listed.getD i false = false ∧ ∀ j, j < i → listed.getD j false = true := by
    intro m
    induction m with
    | zero => intro _; exact .inl fun j hj => by omega
    | succ m ih =>
      intro hm
      rcases ih (by omega) with h1 | ⟨i, h1, h2, h3⟩
      · cases hl : listed.getD m false with
        | true =>
          refine .inl fun j hj => ?_
          by_cases e : j = m
          · rw [e]; exact hl
          · exact h1 j (by omega)
        | false => exact .inr ⟨m, by omega, hl, h1⟩
      · exact .inr ⟨i, by omega, h2, h3⟩
  rcases hex n (Nat.le_refl _) with h1 | h1
  · exfalso
    apply h
    unfold leftOf
    rw [List.countP_eq_zero]
    intro i hi
    simp [h1 i (List.mem_range.1 hi)]
  · exact h1

/-- The head in whatever order, then the tail. -/
theorem any_of_values {n : Nat} {Q : Exit → Act → World → Prop} {a : Act} {v : Nat → Value} (hB : Region.clsB ops n = true)
    (hv : ∀ i o, i < n → ops[i]? = some o → YieldsIn P ops C o (v i) (putSt ops v a (fun _ => true) i))
    (hT : ∀ w, C w → wpAny P .any ops Q (ops.size - n) (headDone ops n) (putSt ops v a (fun _ => true) n) w) :
    ∀ (m : Nat) (listed : Array Bool) (w : World), leftOf listed n = m → HeadInv .any ops n listed → C w →
      wpAny P .any ops Q (m + (ops.size - n)) listed (putSt ops v a (fun j => listed.getD j false) n) w := by
  simp only [Region.clsB, Bool.and_eq_true, decide_eq_true_eq] at hB
  obtain ⟨⟨⟨⟨⟨⟨hsel, hn⟩, hs⟩, hc⟩, hh⟩, he⟩, hq⟩ := hB
  intro m
  induction m with
  | zero =>
    intro listed w hl inv hw
    have hall := leftOf_zero hl
    have e : listed = headDone ops n := by
      apply Array.ext
      · simp [headDone, inv.size]
      · intro i h1 h2
        have h3 : i < ops.size := by rw [← inv.size]; exact h1
        simp only [headDone, Array.getElem_ofFn]
        by_cases hi : i < n
        · have := hall i hi
          simp [h1] at this
          simp [hi, this]
        · have := inv.tail i (by omega) h3
          simp [h1] at this
          simp [hi, this]
    rw [Nat.zero_add, putSt_congr (S := fun j => listed.getD j false) (T := fun _ => true) n (fun j hj => hall j hj), e]
    exact hT w hw
  | succ m ih =>
    intro listed w hl inv hw
    obtain ⟨i0, hi0, hun0, hbelow⟩ := exists_left (listed := listed) (n := n) (by omega)
    rw [show m + 1 + (ops.size - n) = (m + (ops.size - n)) + 1 by omega]
    have hun0' : listed.getD i0 true = false := getD_in (by rw [inv.size]; omega) hun0
    have hready : i0 ∈ Region.ready .any ops listed := by
      obtain ⟨o0, ho0⟩ : ∃ o, ops[i0]? = some o := ⟨ops[i0]'(by omega), Array.getElem?_eq_getElem (by omega)⟩
      refine mem_ready.2 ⟨hun0', o0, ho0, fun e hea hb => ?_⟩
      have h1 := List.all_eq_true.1 he i0 (List.mem_range.2 hi0)
      simp only [ho0, Array.all_eq_true_iff_forall_mem] at h1
      have h2 := h1 e hea
      simp only [hb, Bool.not_true, Bool.false_or, decide_eq_true_eq] at h2
      exact hbelow _ h2
    refine ⟨fun h => (by rw [h] at hready; cases hready), fun i hi => ?_⟩
    have hin : i < n := by
      rcases Nat.lt_or_ge i n with h | h
      · exact h
      · exact absurd hi (tail_waits hs hc hn inv _ i0 rfl hi0 hun0' i h)
    obtain ⟨huni, oi, hoi, hall⟩ := mem_ready.1 hi
    have huni' := getD_both huni
    have hisz : i < listed.size := by rw [inv.size]; omega
    have hsi := Region.noSelect_spec hsel
    have hd := headB_dst hh
    -- the frame of those ahead of i, as a set
    have hpre : putSt ops v a (fun _ => true) i = putSt ops v a (fun j => decide (j < i)) n := by
      have : ∀ k, i ≤ k → putSt ops v a (fun j => decide (j < i)) k = putSt ops v a (fun _ => true) i := by
        intro k hk
        induction k with
        | zero => have : i = 0 := by omega
                  subst this; rfl
        | succ k ihk =>
          by_cases e : i = k + 1
          · subst e; exact putSt_congr _ fun j hj => by simp [hj]
          · have h1 : decide (k < i) = false := by simp; omega
            simp only [putSt, h1, Bool.false_eq_true, if_false]
            exact ihk (by omega)
      exact (this n (by omega)).symm
    have hy0 := hv i oi hin hoi
    rw [hpre] at hy0
    have hsS := putSt_same (v := v) (a := a) (hsi i oi · · hoi) hd (S := fun j => decide (j < i)) (T := fun j => decide (j < i) || listed.getD j false) (fun j hj => by simp [show decide (j < i) = true from hj]) (fun j hj hTj hSj d hdj => by
      have h1 : ¬ j < i := by simpa using hSj
      have h2 : listed.getD j false = true := by simpa [h1] using hTj
      have hne : j ≠ i := fun e => by subst e; rw [huni'] at h2; cases h2
      exact headB_look hh i j oi hin hj hne hoi (fun hx => h1 hx.1) d hdj)
    have hsT := putSt_same (v := v) (a := a) (hsi i oi · · hoi) hd (S := fun j => listed.getD j false) (T := fun j => decide (j < i) || listed.getD j false) (fun j hj => by simp [show listed.getD j false = true from hj]) (fun j hj hTj hSj d hdj => by
      have h2 : listed.getD j false = false := hSj
      have hne : j ≠ i := fun e => by
        subst e
        simp [h2] at hTj
      refine headB_look hh i j oi hin hj hne hoi (fun hx => ?_) d hdj
      obtain ⟨o', ho', e, hea, hb, hon⟩ := Region.waitsFor_spec hx.2
      obtain rfl : o' = oi := Option.some.inj (ho'.symm.trans hoi)
      have h3 := hall e hea hb
      rw [hon, h2] at h3
      cases h3)
    have hy : YieldsIn P ops C oi (v i) (putSt ops v a (fun j => listed.getD j false) n) := hy0.of_same (hsT.1.symm.trans hsS.1) (hsT.2.symm.trans hsS.2)
    refine wpOp_of_qOp (K := fun a' => a' = (putSt ops v a (fun j => listed.getD j false) n).put oi.dst (v i)) hw (fun a' w' hw' ha' => ?_) (hy.qOp hoi rfl)
    have hmore : (putSt ops v a (fun j => listed.getD j false) n).put oi.dst (v i) = putSt ops v a (fun j => (listed.setIfInBounds i true).getD j false) n := by
      have h1 := putSt_more (ops := ops) (v := v) (a := a) (S := fun j => listed.getD j false) (j := i) (n := n) (fun k hk hne => hd i k hin hk hne) huni' n hin (Nat.le_refl _)
      rw [show dsOf ops i = oi.dst by simp [dsOf, hoi]] at h1
      rw [← h1]
      refine putSt_congr n fun j hj => ?_
      by_cases e : j = i
      · subst e; simp [more, hisz]
      · have h2 : (j == i) = false := by simp [e]
        rw [getD_set_ne false (fun x => e x.symm)]
        simp [more, h2]
    rw [ha', hmore]
    exact ih _ w' (by have := leftOf_set hisz huni' n hin; omega) (inv.set hi hin) hw'

/-- The walk, shut, so that nobody lays it open. -/
structure WQ (P : Program) (ops : Array Oper) (C : World → Prop) (R : Act → Prop) (l : List Oper) (a : Act) : Prop where
  out : wpQuiet P ops C R l a

theorem wq_nil {R : Act → Prop} {a : Act} (h : R a) : WQ P ops C R [] a := ⟨wpQuiet_nil h⟩

/-- **The law.** All but the tail in the order of the text, each operation in every world of the class; then the tail, in every world of the class. -/
theorem wp_region_class {id : Nat} {Q : Exit → Act → World → Prop} {a : Act} {w : World} {l : List Oper} (n : Nat) (C : World → Prop) (hm : P.follows .mixedOrders = true) (hB : Region.clsB l.toArray n = true) (hC : C w.drew)
    (hq0 : WQ P l.toArray C (fun a' => ∀ w', C w' → wpList P l.toArray Q (l.drop n) a' w') (l.take n) a) : (Code.region id l.toArray true).wp P Q a w := by
  have h := hq0.out
  have hB' := hB
  simp only [Region.clsB, Bool.and_eq_true, decide_eq_true_eq] at hB'
  obtain ⟨⟨⟨⟨⟨⟨hsel, hn⟩, hs⟩, hc⟩, hh⟩, he⟩, hq⟩ := hB'
  have hn' : n < l.length := by simpa using hn
  have htl : (l.take n).length = n := by simp; omega
  have hdl : (l.drop n).length = l.toArray.size - n := by simp
  obtain ⟨v, _, hv, hR⟩ := values_of_walk (P := P) (ops := l.toArray) (C := C) (a := a) n (l.take n) 0 (fun _ => undef) (by simpa using htl) (fun j hj => by
    have hj' : j < n := by rw [htl] at hj; exact hj
    simp [hj']) h
  have inv0 : HeadInv .any l.toArray n (Array.replicate l.toArray.size false) :=
    ⟨by simp, fun j oj _ hl => (by rw [getD_replicate_false] at hl; cases hl), fun t _ ht => getD_in (by simpa using ht) (getD_replicate_false _ _)⟩
  have hl0 : leftOf (Array.replicate l.toArray.size false) n = n := by
    unfold leftOf
    rw [List.countP_eq_length.2 (fun i _ => by rw [getD_replicate_false]; rfl), List.length_range]
  have H := any_of_values (P := P) (C := C) (Q := Q) (a := a) hB (fun i o hi ho => hv i o (Nat.zero_le _) hi ho) (fun w' hw' => by
    have := wpAny_of_seq (md := .any) (Q' := Q) (l.drop n) n (headDone l.toArray n) _ w' (fun j => by simp [List.getElem?_drop]) (by rw [hdl]; exact hq) (hR w' hw')
    rwa [hdl] at this) n (Array.replicate l.toArray.size false) w.drew hl0 inv0 hC
  rw [show n + (l.toArray.size - n) = l.toArray.size by omega, putSt_congr (S := fun j => (Array.replicate l.toArray.size false).getD j false) (T := fun _ => false) n (fun j _ => getD_replicate_false _ _)] at H
  have hnone : ∀ k, putSt l.toArray v a (fun _ => false) k = a := by
    intro k
    induction k with
    | zero => rfl
    | succ k ih => simp only [putSt, Bool.false_eq_true, if_false]; exact ih
  rw [hnone] at H
  exact wp_region_any hm H

/-- An operation that leaves the world as it is, whatever world of the class. -/
theorem cls_step {R : Act → Prop} {a : Act} {o : Oper} {rest : List Oper} (hg : o.guard = none)
    (h : ∀ K : Act → Prop, (∀ a, WQ P ops C R rest a → K a) → ∃ v, (∀ w, C w → (execOp a.eval o).run P w = .ok (.value v) w) ∧ K (a.put o.dst v)) : WQ P ops C R (o :: rest) a := by
  refine ⟨wpQuiet_step fun K hK => ?_⟩
  rw [if_pos (by unfold Region.wanted; rw [hg])]
  obtain ⟨v, h1, h2⟩ := h K fun a ha => hK a ha.out
  exact ⟨v, fun w hw => by unfold Oper.quietAt; rw [h1 w hw]; exact ⟨rfl, rfl⟩, h2⟩

/-- A call. -/
theorem cls_call {R : Act → Prop} {a : Act} {o : Oper} {rest : List Oper} (hg : o.guard = none)
    (h : ∀ K : Act → Prop, (∀ a, WQ P ops C R rest a → K a) → ∃ f args v, (∀ w, (execOp a.eval o).run P w = .ok (.enter f args) w) ∧ (∀ w, C w → Calls P f args w fun e w' => e = .returned v ∧ C w') ∧ K (a.put o.dst v)) : WQ P ops C R (o :: rest) a := by
  refine ⟨wpQuiet_step fun K hK => ?_⟩
  rw [if_pos (by unfold Region.wanted; rw [hg])]
  obtain ⟨f, args, v, h1, h2, h3⟩ := h K fun a ha => hK a ha.out
  exact ⟨v, fun w hw => by unfold Oper.quietAt; rw [h1 w]; exact ⟨rfl, h2 w hw⟩, h3⟩

end
end Go.Proofs.Ytengnjffajimdaa
