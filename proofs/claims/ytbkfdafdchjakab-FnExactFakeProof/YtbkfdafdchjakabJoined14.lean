/-
  Texts of one's own, joined.
-/
import Derived.Test.YtbkfdafdchjakabRwSys
import Derived.Test.YtbkfdafdchjakabJoined11
import Derived.Test.YtbkfdafdchjakabJoined13
import Derived.Test.YtbkfdafdchjakabJoined3
import Derived.Test.YtbkfdafdchjakabJoined12
import Derived.Test.YtbkfdafdchjakabOrd
import Derived.Maps.AppendAt
import Derived.StillTail
import Derived.StillTailTactics

/-
  Numbers of keys: no program in here.
-/
namespace Go.Proofs.Ytbkfdafdchjakab

/-- What a wire is at Tau, all together. -/
def wireA (al be u v x : Int) : Int := scAdd (scAdd (scMul be u) (scMul al v)) x
def scalB (x : Int) : Bool := decide (1 ≤ x ∧ x ≤ 1008)
/-- Whether the numbers of keys are right for a system. -/
def toxB (wi pu : Int) (n : Nat) (ls : List (List Int)) (ta al be ga de : Int) : Bool := (((((sysOk wi pu n ls && scalB ta) && scalB al) && scalB be) && scalB ga) && scalB de) && decide ((n : Int) < ta)

end Go.Proofs.Ytbkfdafdchjakab

/-
  The walks of the specification's word on the numbers of keys.
  (-DROP-: what the seat lacks is left out.)
-/
namespace Go.Proofs.Ytbkfdafdchjakab
open Go.RowKit

theorem sScal_any (x : Int) (w : World) : Calls Try.prog 44 #[.int .i64 x] w fun e w' => e = .returned (.bool (scalB x)) ∧ w = w' := by
  have HI : Hid (∀ w, Calls Try.prog 70 #[.int .i64 x, .int .i64 1, .int .i64 1008] w fun e w' => e = .returned (.bool (scalB x)) ∧ w = w') := fun w => sBetween_any x 1 1008 w
  go_enter Try.func44, Try.ntmps44
  go_wp2_with (go_at_call 70; refine (HI.out _).mono ?_; rintro e w1 ⟨rfl, rfl⟩)
  go_ret
  exact ⟨rfl, rfl⟩

theorem infoTx : (Try.prog.info? 56).map (·.size) = some 5 := by kernel_rfl

set_option maxHeartbeats 3200000 in
set_option maxRecDepth 100000 in
theorem sToxic_any (wi pu : Int) (hwf : (Lit.int .i64 wi).wf = true) (a : Option Addr) (n c : Nat) (hn : n ≤ 9223372036854775807) (ls : List (List Int)) (hz : ∀ j, (ls.getD j []).length ≤ 9223372036854775807) (ta al be ga de : Int) (w : World) (hA : NAt 3 w w.heap.size (.slice a n c) n ls) :
    Calls Try.prog 43 #[.agg #[.int .i64 wi, .int .i64 pu, .slice a n c], .agg #[.int .i64 ta, .int .i64 al, .int .i64 be, .int .i64 ga, .int .i64 de]] w fun e w' => e = .returned (.bool (toxB wi pu n ls ta al be ga de)) ∧ Below w.heap.size w w' := by
  obtain ⟨W, hW, hb, hs, hr⟩ := boxes1r w 54 56 #[.int .i64 wi, .int .i64 pu, .slice a n c] #[.int .i64 ta, .int .i64 al, .int .i64 be, .int .i64 ga, .int .i64 de]
  have CS : Hid (∀ V, Below w.heap.size w V → Calls Try.prog 88 #[.agg #[.int .i64 wi, .int .i64 pu, .slice a n c]] V fun e w' => e = .returned (.bool (sysOk wi pu n ls)) ∧ Below V.heap.size V w') := fun V hV => sSysOk_any wi pu hwf a n c hn ls hz V ((hA.on hV).wide hV.size)
  have HT : Hid (toxB wi pu n ls ta al be ga de = ((((((sysOk wi pu n ls && scalB ta) && scalB al) && scalB be) && scalB ga) && scalB de) && decide ((n : Int) < ta))) := rfl
  have HB : Hid (Below w.heap.size w W) := hb
  have Cta : Hid (∀ w, Calls Try.prog 44 #[.int .i64 ta] w fun e w' => e = .returned (.bool (scalB ta)) ∧ w = w') := sScal_any ta
  have Cal : Hid (∀ w, Calls Try.prog 44 #[.int .i64 al] w fun e w' => e = .returned (.bool (scalB al)) ∧ w = w') := sScal_any al
  have Cbe : Hid (∀ w, Calls Try.prog 44 #[.int .i64 be] w fun e w' => e = .returned (.bool (scalB be)) ∧ w = w') := sScal_any be
  have Cga : Hid (∀ w, Calls Try.prog 44 #[.int .i64 ga] w fun e w' => e = .returned (.bool (scalB ga)) ∧ w = w') := sScal_any ga
  have Cde : Hid (∀ w, Calls Try.prog 44 #[.int .i64 de] w fun e w' => e = .returned (.bool (scalB de)) ∧ w = w') := sScal_any de
  clear hA hz hwf
  go_enter Try.func43, Try.ntmps43
  go_wp2_with (refine load_blk rfl rfl rfl hs Try.underlying54 infoSy ?_)
  clear hW
  refine (CS.out _ HB.out).mono ?_
  rintro e w1 ⟨rfl, hb1⟩
  have hs1 := hs.on hb1 hs.lt
  have hr1 := hr.on hb1 hr.lt
  have HB1 : Hid (Below w.heap.size w w1) := HB.out.trans (hb1.mono HB.out.size)
  have q0 : w1.cell? ⟨w.heap.size + 1, 0, none⟩ = some (.int .i64 ta) := hr1.cell 0
  have q1 : w1.cell? ⟨w.heap.size + 1, 1, none⟩ = some (.int .i64 al) := hr1.cell 1
  have q2 : w1.cell? ⟨w.heap.size + 1, 2, none⟩ = some (.int .i64 be) := hr1.cell 2
  have q3 : w1.cell? ⟨w.heap.size + 1, 3, none⟩ = some (.int .i64 ga) := hr1.cell 3
  have q4 : w1.cell? ⟨w.heap.size + 1, 4, none⟩ = some (.int .i64 de) := hr1.cell 4
  have qs : w1.cell? ⟨w.heap.size, 2, none⟩ = some (.slice a n c) := hs1.cell 2
  clear hb1 hs hr hs1 hr1 CS HB
  cases h0 : sysOk wi pu n ls
  · have HE : Hid (toxB wi pu n ls ta al be ga de = false) := by show _ = _; rw [HT.out, h0]; simp
    go_wp2
    go_ret
    exact ⟨by rw [HE.out]; rfl, HB1.out⟩
  · skip
    go_wp2_with fail
    go_at_call 44
    refine (Cta.out _).mono ?_
    rintro e wz0 ⟨rfl, rfl⟩
    cases h1 : scalB ta
    · have HE : Hid (toxB wi pu n ls ta al be ga de = false) := by show _ = _; rw [HT.out, h0, h1]; simp
      go_wp2
      go_ret
      exact ⟨by rw [HE.out]; rfl, HB1.out⟩
    · skip
      go_wp2_with fail
      go_at_call 44
      refine (Cal.out _).mono ?_
      rintro e wz1 ⟨rfl, rfl⟩
      cases h2 : scalB al
      · have HE : Hid (toxB wi pu n ls ta al be ga de = false) := by show _ = _; rw [HT.out, h0, h1, h2]; simp
        go_wp2
        go_ret
        exact ⟨by rw [HE.out]; rfl, HB1.out⟩
      · skip
        go_wp2_with fail
        go_at_call 44
        refine (Cbe.out _).mono ?_
        rintro e wz2 ⟨rfl, rfl⟩
        cases h3 : scalB be
        · have HE : Hid (toxB wi pu n ls ta al be ga de = false) := by show _ = _; rw [HT.out, h0, h1, h2, h3]; simp
          go_wp2
          go_ret
          exact ⟨by rw [HE.out]; rfl, HB1.out⟩
        · skip
          go_wp2_with fail
          go_at_call 44
          refine (Cga.out _).mono ?_
          rintro e wz3 ⟨rfl, rfl⟩
          cases h4 : scalB ga
          · have HE : Hid (toxB wi pu n ls ta al be ga de = false) := by show _ = _; rw [HT.out, h0, h1, h2, h3, h4]; simp
            go_wp2
            go_ret
            exact ⟨by rw [HE.out]; rfl, HB1.out⟩
          · skip
            go_wp2_with fail
            go_at_call 44
            refine (Cde.out _).mono ?_
            rintro e wz4 ⟨rfl, rfl⟩
            cases h5 : scalB de
            · have HE : Hid (toxB wi pu n ls ta al be ga de = false) := by show _ = _; rw [HT.out, h0, h1, h2, h3, h4, h5]; simp
              go_wp2
              go_ret
              exact ⟨by rw [HE.out]; rfl, HB1.out⟩
            · skip
              have HE : Hid (toxB wi pu n ls ta al be ga de = decide ((n : Int) < ta)) := by show _ = _; rw [HT.out, h0, h1, h2, h3, h4, h5]; simp
              go_wp2
              go_ret
              exact ⟨by rw [HE.out]; rfl, HB1.out⟩

end Go.Proofs.Ytbkfdafdchjakab

/-
  Polynomials as the document tells of them: no program in here.
-/
namespace Go.Proofs.Ytbkfdafdchjakab

/-- Without 0 at its end. -/
def trimZ (l : List Int) : List Int := (l.reverse.dropWhile fun x => x == 0).reverse
theorem trimZ_nil : trimZ [] = [] := rfl
theorem trimZ_zero (l : List Int) : trimZ (l ++ [0]) = trimZ l := by
  unfold trimZ
  rw [List.reverse_append]
  rfl
theorem trimZ_some (l : List Int) {x : Int} (h : x ≠ 0) : trimZ (l ++ [x]) = l ++ [x] := by
  unfold trimZ
  rw [List.reverse_append]
  have e : (x == 0) = false := by rw [beq_eq_false_iff_ne]; exact h
  show (List.dropWhile (fun x => x == 0) (x :: l.reverse)).reverse = _
  rw [List.dropWhile_cons, e]
  simp
theorem trimZ_len (l : List Int) : (trimZ l).length ≤ l.length := by
  unfold trimZ
  have := (List.dropWhile_sublist (l := l.reverse) (fun x => x == 0)).length_le
  simpa using this
/-- Each as a scalar, without 0 at its end. -/
def pTrim (l : List Int) : List Int := trimZ (l.map sca)
theorem pTrim_len (l : List Int) : (pTrim l).length ≤ l.length := by
  have := trimZ_len (l.map sca)
  unfold pTrim
  simpa using this
/-- What it is at a place. -/
def pAt : List Int → Int → Int
  | [], _ => 0
  | a :: t, x => scAdd (scMul (pAt t x) x) a

/-- Place by place. -/
def padF (a b : List Int) (j : Nat) : Int := if j < b.length then scAdd (if j < a.length then scAdd 0 (a.getD j 0) else 0) (b.getD j 0) else if j < a.length then scAdd 0 (a.getD j 0) else 0
def qAdd (a b : List Int) : List Int := pTrim ((List.range (max a.length b.length)).map (padF a b))
theorem qAdd_len (a b : List Int) : (qAdd a b).length ≤ max a.length b.length := by
  have := pTrim_len ((List.range (max a.length b.length)).map (padF a b))
  unfold qAdd
  simpa using this

end Go.Proofs.Ytbkfdafdchjakab

/-
  What the exact laws need of lists of numbers: copies, whether two are the same, marks; in terms of what is read and what is owned.
  (-DROP-: what the seat lacks is left out.)
-/
namespace Go.Proofs.Ytbkfdafdchjakab
open Go.RowKit

theorem toZ_any (v : Value) (l : List Int) (hl : l.length ≤ 1048576) (w : World) (h : ZAt w w.heap.size v l) :
    Calls Try.prog 10 #[v] w fun e w' => ∃ g, e = .returned (.slice (some ⟨g, 0, none⟩) l.length l.length) ∧ ZOwn w.heap.size w'.heap.size w' (.slice (some ⟨g, 0, none⟩) l.length l.length) l ∧ Below w.heap.size w w' := by
  obtain ⟨a, cp, rfl, hA⟩ := h
  refine (toIntS_any a l.length cp hl _ w hA).mono ?_
  rintro e w' ⟨rfl, hR, hb⟩
  refine ⟨_, rfl, ⟨?_, fun k hk => ?_⟩, hb⟩
  · have h1 := hR.rowZ (Nat.le_refl _) hl
    rw [zls_getD] at h1
    exact h1
  · have e1 : some w.heap.size = some k := hk
    injection e1 with e1
    have := hR.lt
    omega

theorem eqZ_any (v u : Value) (l : List Int) (hl : l.length ≤ 1048576) (w : World) (h : ZAt w w.heap.size v l) (h2 : ZAt w w.heap.size u l) :
    Calls Try.prog 14 #[v, u] w fun e w' => e = .returned (.bool true) ∧ Below w.heap.size w w' := by
  obtain ⟨a, cp, rfl, hA⟩ := h
  obtain ⟨b, cq, rfl, hB⟩ := h2
  exact eqIntS_any a b l.length cp cq hl _ w hA hB

end Go.Proofs.Ytbkfdafdchjakab

/-
  A region that draws its order and ends with a store for which all others wait: what holds of the world ahead of that store need not hold behind it.
-/
namespace Go.Proofs.Ytbkfdafdchjakab
open Go.RowKit

section
variable {P : Program} {ops : Array Oper} {Q : Exit → Act → World → Prop} {S : World → Prop} {R : Act → World → Prop} {s : Nat}

/-- As wpAnyH, but behind operation s nothing is asked of the world. -/
def wpAnyL (P : Program) (ops : Array Oper) (Q : Exit → Act → World → Prop) (s : Nat) (S : World → Prop) : Nat → Array Bool → Act → World → Prop
  | 0, listed, a, w => Region.ready .any ops listed = [] ∧ Q .normal a w
  | fuel + 1, listed, a, w =>
    (Region.ready .any ops listed = [] → Q .normal a w) ∧
    ∀ i ∈ Region.ready .any ops listed, wpOp P ops Q i (fun a' w' => (i ≠ s → S w') ∧ wpAnyL P ops Q s S fuel (listed.setIfInBounds i true) a' w') a w

theorem any_of_last : ∀ (fuel : Nat) (listed : Array Bool) (a : Act) (w : World), wpAnyL P ops Q s S fuel listed a w → wpAny P .any ops Q fuel listed a w
  | 0, _, _, _, h => h
  | fuel + 1, _, _, _, h => ⟨h.1, fun i hi => wpOp_mono (fun a' w' h' => any_of_last fuel _ a' w' h'.2) (h.2 i hi)⟩

theorem last_first {i : Nat} {oi os : Oper} {v : Value} (hi : ops[i]? = some oi) (his : i ≠ s) (hos : ops[s]? = some os) (hwait : ∃ e ∈ os.after, Region.binds .any e = true ∧ e.on = i)
    (hsel : ∀ (j : Nat) (o : Oper) cs b, ops[j]? = some o → o.op ≠ .select cs b)
    (hQ : ∀ c a w, Q (.panic c) (a.put oi.dst v) w → Q (.panic c) a w) :
    ∀ (fuel : Nat) (listed : Array Bool) (a : Act) (w : World),
      (∀ j oj, ops[j]? = some oj → j ≠ i → listed.getD j true = false → (∀ e ∈ oj.after, Region.binds .any e = true → e.on ≠ i) → oi.apart ops oj = true) →
      i ∈ Region.ready .any ops listed → YieldsIf P ops S oi v a → S w →
      wpAnyL P ops Q s S fuel (listed.setIfInBounds i true) (a.put oi.dst v) w → wpAnyL P ops Q s S (fuel + 1) listed a w := by
  intro fuel
  induction fuel with
  | zero =>
    intro listed a w _ hr hy hS H
    refine ⟨fun h => (by rw [h] at hr; cases hr), fun j hj => ?_⟩
    by_cases hji : j = i
    · subst hji; exact hy.wpOp hi hS ⟨fun _ => hS, H⟩
    · have := ready_mono hj hji
      rw [H.1] at this
      cases this
  | succ fuel ih =>
    intro listed a w hfree hr hy hS H
    refine ⟨fun h => (by rw [h] at hr; cases hr), fun j hj => ?_⟩
    by_cases hji : j = i
    · subst hji; exact hy.wpOp hi hS ⟨fun _ => hS, H⟩
    · have h1 := H.2 j (ready_mono hj hji)
      obtain ⟨hjun, oj, hoj, hall⟩ := mem_ready.1 hj
      have hnot : ∀ e ∈ oj.after, Region.binds .any e = true → e.on ≠ i := fun e he hb heq => by
        have h1 := hall e he hb
        have h0 := (mem_ready.1 hr).1
        rw [heq] at h1
        rcases Nat.lt_or_ge i listed.size with h' | h'
        · simp [h'] at h0 h1; rw [h0] at h1; cases h1
        · simp [Array.getElem?_eq_none h'] at h1
      have hjs : j ≠ s := fun e => by
        subst e
        obtain ⟨e, he, hb, ho⟩ := hwait
        rw [hos] at hoj
        cases hoj
        exact hnot e he hb ho
      have h2 := wpOp_putIf hoj (hfree j oj hoj hji hjun hnot) (fun cs b => hsel i oi cs b hi) (fun cs b => hsel j oj cs b hoj) hQ hy h1
      have hfree' : ∀ k ok, ops[k]? = some ok → k ≠ i → (listed.setIfInBounds j true).getD k true = false →
          (∀ e ∈ ok.after, Region.binds .any e = true → e.on ≠ i) → oi.apart ops ok = true := fun k ok hk hki hun hno => by
        refine hfree k ok hk hki ?_ hno
        by_cases hjk : j = k
        · subst hjk; exact hjun
        · rw [getD_set_ne true hjk] at hun; exact hun
      refine wpOp_mono (fun a' w' h3 => ⟨fun _ => h3.2.1 hjs, ih (listed.setIfInBounds j true) a' w' hfree' (ready_mono hr (Ne.symm hji)) h3.1 (h3.2.1 hjs) ?_⟩) h2
      rw [Array.setIfInBounds_comm _ _ hji]
      exact h3.2.2

/-- May the region be walked so, and s at its end? -/
def ordL (ops : Array Oper) (s : Nat) : List (Nat × Bool) → Array Bool → Bool
  | [], listed => decide (Region.ready .any ops listed = [s]) && (Region.ready .any ops (listed.setIfInBounds s true)).isEmpty
  | (k, true) :: r, listed => decide (Region.ready .any ops listed = [k]) && decide (k ≠ s) && ordL ops s r (listed.setIfInBounds k true)
  | (k, false) :: r, listed => (Region.ready .any ops listed).contains k && Region.free .any ops listed k && decide (k ≠ s) && (match ops[s]? with | some o => o.after.any (fun e => Region.binds .any e && decide (e.on = k)) | none => false) && ordL ops s r (listed.setIfInBounds k true)

theorem anyL_of_ord (hs : Region.noSelect ops = true) : ∀ (order : List (Nat × Bool)) (listed : Array Bool) (a : Act) (w : World), ordL ops s order listed = true → S w → wpOrd P ops Q S (fun a w => wpOp P ops (NoPanic Q) s (Q .normal) a w) order a w →
    wpAnyL P ops (NoPanic Q) s S (order.length + 1) listed a w
  | [], listed, a, w, hB, _, h => by
    simp only [ordL, Bool.and_eq_true, decide_eq_true_eq, List.isEmpty_iff] at hB
    refine ⟨fun h0 => (by rw [hB.1] at h0; cases h0), fun i hi => ?_⟩
    rw [hB.1, List.mem_singleton] at hi
    subst hi
    exact wpOp_mono (fun a' w' hq => ⟨fun hne => absurd rfl hne, hB.2, NoPanic.normal hq⟩) h
  | (k, true) :: r, listed, a, w, hB, hS, h => by
    simp only [ordL, Bool.and_eq_true, decide_eq_true_eq] at hB
    refine ⟨fun h0 => (by rw [hB.1.1] at h0; cases h0), fun i hi => ?_⟩
    rw [hB.1.1, List.mem_singleton] at hi
    subst hi
    exact wpOp_mono (fun a' w' ⟨h1, h2⟩ => ⟨fun _ => h1, anyL_of_ord hs r _ a' w' hB.2 h1 h2⟩) h
  | (k, false) :: r, listed, a, w, hB, hS, h => by
    simp only [ordL, Bool.and_eq_true, decide_eq_true_eq] at hB
    obtain ⟨o, v, ho, hy, hr⟩ := h
    obtain ⟨⟨⟨⟨h1, h2⟩, h3⟩, h4⟩, h5⟩ := hB
    cases hos : ops[s]? with
    | none => rw [hos] at h4; cases h4
    | some os =>
      rw [hos] at h4
      simp only [Array.any_eq_true] at h4
      obtain ⟨j, hj, hb⟩ := h4
      rw [Bool.and_eq_true, decide_eq_true_eq] at hb
      exact last_first ho h3 hos ⟨os.after[j], Array.getElem_mem hj, hb.1, hb.2⟩ (Region.noSelect_spec hs) (fun c a w h => h) _ listed a w (Region.free_spec ho h2) (by simpa using h1) hy hS (anyL_of_ord hs r _ _ w h5 hS hr)

/-- A region that draws, along an order that one names, and its last store. -/
theorem wp_region_last {id : Nat} {a : Act} {w : World} {l : List Oper} (order : List (Nat × Bool)) (s : Nat) (S : World → Prop) (hm : P.follows .mixedOrders = true)
    (hB : (Region.noSelect l.toArray && decide (order.length + 1 = l.length) && ordL l.toArray s order (Array.replicate l.length false)) = true) (hS : S w.drew)
    (h : wpOrd P l.toArray Q S (fun a w => wpOp P l.toArray (NoPanic Q) s (Q .normal) a w) order a w.drew) : (Code.region id l.toArray true).wp P Q a w := by
  simp only [Bool.and_eq_true, decide_eq_true_eq] at hB
  obtain ⟨⟨hs, hl⟩, hB⟩ := hB
  refine wp_region_noPanic (wp_region_any hm (any_of_last (s := s) (S := S) _ _ _ _ ?_))
  have := anyL_of_ord hs order (Array.replicate l.length false) a w.drew hB hS h
  rw [hl] at this
  simpa using this

/-- An operation that is run. -/
theorem last_op {K : Act → World → Prop} {a : Act} {w : World} {o : Oper} (ho : ops[s]? = some o) (hw : Region.wanted o (yielded ops a.tmps) = true)
    (h : ∀ J : Act → World → Prop, (∀ a w, K a w → J a w) → ∃ v w', (execOp a.eval o).run P w = .ok (.value v) w' ∧ J (a.put o.dst v) w') : wpOp P ops (NoPanic Q) s K a w := by
  obtain ⟨v, w', h1, h3⟩ := h _ (fun _ _ h => h)
  unfold wpOp
  simp only [ho]
  rw [if_pos hw]
  refine .inl ?_
  unfold Oper.wp
  rw [h1]
  exact h3

/-- A store. -/
theorem last_store {K : Act → World → Prop} {a : Act} {w : World} {o : Oper} (ho : ops[s]? = some o) (hw : Region.wanted o (yielded ops a.tmps) = true) (hd : o.dst = none)
    (w' : World) (hr : (execOp a.eval o).run P w = .ok .skip w') (h : K a w') : wpOp P ops (NoPanic Q) s K a w := by
  unfold wpOp
  simp only [ho]
  rw [if_pos hw]
  refine .inl ?_
  unfold Oper.wp
  rw [hr]
  simp only [Oper.upon]
  rw [show a.put o.dst undef = a by rw [hd]; rfl]
  exact h

end
end Go.Proofs.Ytbkfdafdchjakab

/-
  The walks of the specification's polynomials.
  (-DROP-: what the seat lacks is left out.)
-/
namespace Go.Proofs.Ytbkfdafdchjakab
open Go.RowKit

/-- A list without its last number. -/
theorem RowZs.init {B : Nat} {w : World} {g n c : Nat} {l : List Int} {x : Int} (h : RowZs B w (.slice (some ⟨g, 0, none⟩) (n + 1) c) (l ++ [x])) (hn : l.length = n) : RowZs B w (.slice (some ⟨g, 0, none⟩) n c) l := by
  rcases h.2 with ⟨h0, _⟩ | ⟨g', c', cur, hv, hg, hh, h1, h2, h3, h4⟩
  · cases h0
  · injection hv with e1 e2 e3
    injection e1 with e1
    injection e1 with e1
    subst e1
    subst e3
    unfold RowZs
    rw [hn]
    refine ⟨by simp [zsV, hn], .inr ⟨g, c, cur, rfl, hg, hh, by omega, h2, h3, ?_⟩⟩
    have h5 := congrArg (List.take n) h4
    have hz : (zsV l).length = n := by simp [zsV, hn]
    have e : min n ((l ++ [x]).length * 1) = n := by rw [List.length_append]; simp; omega
    rw [List.take_take, e, zsV_append, List.take_left' hz] at h5
    rw [Nat.mul_one]
    exact h5
theorem list_init {l : List Int} (h : 0 < l.length) : ∃ t x, l = t ++ [x] := ⟨l.dropLast, l.getLast (by intro e; rw [e] at h; simp at h), (List.dropLast_concat_getLast _).symm⟩

set_option maxHeartbeats 1600000 in
set_option maxRecDepth 100000 in
theorem sTrim_any (v : Value) (l : List Int) (hl : l.length ≤ 1048576) (w : World) (h : ZAt w w.heap.size v l) :
    Calls Try.prog 143 #[v] w fun e w' => ∃ u, e = .returned u ∧ ZOwn w.heap.size w'.heap.size w' u (pTrim l) ∧ Below w.heap.size w w' := by
  obtain ⟨i0, hi, hz0, hz1, hz2⟩ := info_parts info3I
  obtain ⟨a, cp, rfl, hA⟩ := h
  have HA : Hid (IntsAt w a l.length w.heap.size (fun j => l.getD j 0)) := hA
  have HT : Hid (pTrim l = trimZ (l.map sca)) := rfl
  obtain ⟨n, hn⟩ : ∃ n, n = l.length := ⟨_, rfl⟩
  have HN : Hid (n = l.length) := hn
  rw [← hn] at HA hl ⊢
  clear hn hA
  go_enter Try.func143, Try.ntmps143
  go_wp2
  go_loopw [3, 4] (fun u i wr => ∃ (k : Nat) (m : List Int), i = .int .i64 (k : Int) ∧ k ≤ n ∧ Hid (m = (l.take k).map sca) ∧ m.length = k ∧ wr.ownsRow w.heap.size 3 1 u k (zsV m) ∧ Hid (Below w.heap.size w wr)) (fun _ i _ => n - (intOf i).toNat)
  case atStart => exact ⟨0, [], rfl, by omega, rfl, rfl, World.ownsRow_lit _ _ _ (Nat.le_refl _) (by simp [maxLen]) (by simp), (Below.refl _ _).alloc (Nat.le_refl _) _⟩
  case round =>
    obtain ⟨k, m, rfl, hk, HM, hml, hown, HB⟩ := hrel
    have hsz : w.heap.size ≤ wr.heap.size := HB.out.size
    by_cases hlt : k < n
    · have hlt' : (k : Int) < (n : Int) := by omega
      have hk0 : (0 : Int) ≤ (k : Int) := by omega
      have hm63 : k + 1 ≤ maxLen := by unfold maxLen; omega
      have hm47 : (k + 1) * 8 ≤ 140737488355328 := by omega
      obtain ⟨b, off, rfl, hb, hz⟩ := (HA.out.on HB.out) k hlt
      replace hz : wr.cell? ⟨b, off + k, none⟩ = some (.int .i64 (l.getD k 0)) := hz
      have HS : Hid (∀ w, Calls Try.prog 91 #[.int .i64 (l.getD k 0)] w fun e w' => e = .returned (.int .i64 (sca (l.getD k 0))) ∧ w = w') := sScOf_any _
      have HM2 : Hid (m ++ [sca (l.getD k 0)] = (l.take (k + 1)).map sca) := by
        show _ = _
        have hkl : k < l.length := by have := HN.out; omega
        rw [HM.out, List.take_succ_eq_append_getElem hkl, List.map_append]
        simp [hkl]
      generalize sca (l.getD k 0) = y at HS HM2
      generalize l.getD k 0 = x at hz HS
      clear hb HA HM
      go_wp2_with (first
        | (go_at_call 91; refine (HS.out _).mono ?_; rintro e wz ⟨rfl, rfl⟩)
        | (at_builtin; refine wpList_append_own _ rfl _ _ 27 rfl w.heap.size 3 i0 (.int .i64 0) 1 8 Try.underlying27 hi hz0 hz1 hz2 rfl (by decide) _ _ _ rfl (hown.alloc _) ⟨wr.heap.size, 0, none⟩ 1 1 [.int .i64 y] rfl rfl (cell_one_new _ _ _) (one_cell _ _) hm63 hm47 (room_for hsz _) ?_))
      intro v' w4 hown' hgrow _
      have R : w4.ownsRow w.heap.size 3 1 v' (k + 1) (zsV (m ++ [y])) := by rw [zsV_append]; exact hown'
      have HB2 : Hid (Below w.heap.size w w4) := (HB.out.alloc hsz _).grown hgrow (by simp; omega) (fun k hk => (hown.lt k hk).1)
      have hml2 : (m ++ [y]).length = k + 1 := by simp [hml]
      clear hown' hgrow hown
      go_wp2
      go_roundw
      case rel => exact ⟨k + 1, _, by go_num, hlt, HM2, hml2, R, HB2⟩
      case measure => simp [intOf]; omega
    · have hlt' : ¬ (k : Int) < (n : Int) := by omega
      obtain rfl : n = k := by omega
      have HM2 : Hid (trimZ m = pTrim l) := by
        show _ = _
        rw [HT.out, HM.out, HN.out, List.take_length]
      obtain ⟨ra0, rc0, hv0⟩ := row_form hown
      subst hv0
      have HR : Hid (RowZs w.heap.size wr (.slice ra0 n rc0) m) := by
        show wr.ownsRow w.heap.size 3 1 _ m.length (zsV m)
        rw [hml]
        exact hown
      generalize wr = w0 at *
      clear HM hown
      go_wp2
      go_loopw [3] (fun u wr => ∃ t : List Int, Hid (trimZ t = pTrim l) ∧ t.length ≤ 1048576 ∧ Hid (RowZs w.heap.size w0 u t) ∧ w0 = wr) (fun u _ => slLen u)
      case atStart => exact ⟨m, HM2, by omega, HR, rfl⟩
      case round =>
        obtain ⟨t, HTT, htl, HRT, rfl⟩ := hrel
        clear HM2 HR
        obtain ⟨ra, rc, hv⟩ := row_form HRT.out
        subst hv
        by_cases h0 : 0 < t.length
        · have h0' : (0 : Int) < (t.length : Int) := by omega
          obtain ⟨s, x, hsx⟩ := list_init h0
          rcases HRT.out.2 with ⟨_, hz⟩ | ⟨g, c', cur, hve, _⟩
          · omega
          · have hra : ra = some ⟨g, 0, none⟩ := by injection hve
            subst hra
            have hlen : t.length = s.length + 1 := by rw [hsx]; simp
            have hcell : w0.cell? ⟨g, s.length, none⟩ = some (.int .i64 x) := by
              have hq : w0.ownsRow w.heap.size 3 1 (.slice (some ⟨g, 0, none⟩) t.length rc) t.length (zsV t) := HRT.out
              rw [World.ownsRow.cellAt hq s.length (by omega), hsx]
              simp [zsV]
            have hi1 : (t.length : Int) - 1 = (s.length : Int) := by omega
            have hi2 : (0 : Int) ≤ (s.length : Int) := by omega
            have hi3 : (s.length : Int) < (t.length : Int) := by omega
            by_cases hx : x = 0
            · subst hx
              have HR2 : Hid (RowZs w.heap.size w0 (.slice (some ⟨g, 0, none⟩) s.length rc) s) := by
                have hq := HRT.out
                rw [hlen, hsx] at hq
                exact hq.init rfl
              have HT2 : Hid (trimZ s = pTrim l) := by
                show _ = _
                rw [← HTT.out, hsx, trimZ_zero]
              have hrc : (s.length : Int) ≤ (rc : Int) := by
                rcases HRT.out.2 with ⟨_, hz⟩ | ⟨_, _, _, hve2, _, _, hc2, _⟩
                · omega
                · injection hve2 with _ _ e3; omega
              clear HRT HTT hsx
              go_wp2
              go_roundw
              case rel => exact ⟨s, HT2, by omega, HR2, by trivial⟩
              case measure => simp [slLen]; omega
            · have hx' : (x == 0) = false := by rw [beq_eq_false_iff_ne]; exact hx
              have HE : Hid (pTrim l = t) := by
                show _ = _
                rw [← HTT.out, hsx, trimZ_some s hx]
              clear hsx
              go_wp2
              go_ret
              exact ⟨_, rfl, by rw [HE.out]; exact ZOwn.of HRT.out, HB.out⟩
        · have h0' : ¬ (0 : Int) < (t.length : Int) := by omega
          have HE : Hid (pTrim l = t) := by
            show _ = _
            have e : t = [] := List.length_eq_zero_iff.1 (by omega)
            rw [← HTT.out, e]
            rfl
          go_wp2
          go_ret
          exact ⟨_, rfl, by rw [HE.out]; exact ZOwn.of HRT.out, HB.out⟩

theorem drop_at {l : List Int} {k : Nat} (h : k < l.length) : l.drop k = l.getD k 0 :: l.drop (k + 1) := by
  rw [List.drop_eq_getElem_cons h]
  simp [h]

set_option maxHeartbeats 1600000 in
set_option maxRecDepth 100000 in
theorem sAt_any (v : Value) (l : List Int) (x : Int) (hl : l.length ≤ 1048576) (w : World) (h : ZAt w w.heap.size v l) :
    Calls Try.prog 90 #[v, .int .i64 x] w fun e w' => e = .returned (.int .i64 (pAt l x)) ∧ Below w.heap.size w w' := by
  obtain ⟨a, cp, rfl, hA⟩ := h
  have HA : Hid (IntsAt w a l.length w.heap.size (fun j => l.getD j 0)) := hA
  clear hA
  obtain ⟨n, hn⟩ : ∃ n, n = l.length := ⟨_, rfl⟩
  have HN : Hid (n = l.length) := hn
  rw [← hn] at HA hl ⊢
  clear hn
  go_enter Try.func90, Try.ntmps90
  go_wp2
  go_loopw [5, 6] (fun y i wr => ∃ (k : Nat), i = .int .i64 ((k : Int) - 1) ∧ k ≤ n ∧ y = .int .i64 (pAt (l.drop k) x) ∧ Hid (Below w.heap.size w wr)) (fun _ i _ => (intOf i + 1).toNat)
  case atStart => exact ⟨n, rfl, Nat.le_refl _, by rw [HN.out, List.drop_length]; rfl, Below.refl _ _⟩
  case round =>
    obtain ⟨k, rfl, hk, rfl, HB⟩ := hrel
    by_cases h0 : 0 < k
    · obtain ⟨j, rfl⟩ : ∃ j, k = j + 1 := ⟨k - 1, by omega⟩
      have hi1 : ((j + 1 : Nat) : Int) - 1 = (j : Int) := by omega
      have hi2 : (0 : Int) ≤ (j : Int) := by omega
      have hi3 : (j : Int) < (n : Int) := by omega
      obtain ⟨b, off, rfl, hb, hz⟩ := (HA.out.on HB.out) j (by omega)
      replace hz : wr.cell? ⟨b, off + j, none⟩ = some (.int .i64 (l.getD j 0)) := hz
      have HP : Hid (pAt (l.drop j) x = scAdd (scMul (pAt (l.drop (j + 1)) x) x) (l.getD j 0)) := by
        show _ = _
        rw [drop_at (l := l) (k := j) (by have := HN.out; omega)]
        rfl
      have HC : Hid (∀ w, Calls Try.prog 48 #[.int .i64 (pAt (l.drop (j + 1)) x), .int .i64 x] w fun e w' => e = .returned (.int .i64 (scMul (pAt (l.drop (j + 1)) x) x)) ∧ w' = w) := fun w => (sScMul_any _ _ w).mono fun e w' h => ⟨h.1, h.2.symm⟩
      have HD : Hid (∀ w, Calls Try.prog 47 #[.int .i64 (scMul (pAt (l.drop (j + 1)) x) x), .int .i64 (l.getD j 0)] w fun e w' => e = .returned (.int .i64 (pAt (l.drop j) x)) ∧ w' = w) := fun w => by
        rw [HP.out]
        exact (sScAdd_any _ _ w).mono fun e w' h => ⟨h.1, h.2.symm⟩
      obtain ⟨r, hr⟩ : ∃ r, r = pAt (l.drop j) x := ⟨_, rfl⟩
      have HR : Hid (r = pAt (l.drop j) x) := hr
      rw [← hr] at HD
      clear hr HP
      generalize scMul (pAt (l.drop (j + 1)) x) x = p at HC HD
      generalize pAt (l.drop (j + 1)) x = q at HC
      generalize l.getD j 0 = z at HD hz
      clear hb HA
      go_wp2
      refine wp_region_still_tail 8 mixesSc (by kernel_rfl) ?_
      simp only [List.take_succ_cons, List.take_zero, List.drop_succ_cons, List.drop_zero]
      repeat still_step
      still_call (HC.out _)
      repeat still_step
      still_call (HD.out _)
      repeat still_step
      refine wpStill_nil ?_
      go_wp2
      go_roundw
      case rel => exact ⟨j, by go_num, by omega, by rw [HR.out], HB.out.drew⟩
      case measure => simp [intOf]
    · obtain rfl : k = 0 := by omega
      go_wp2
      go_ret
      exact ⟨by simp, HB.out⟩

theorem padF_case (a b : List Int) (k : Nat) : padF a b k = if k < b.length then scAdd (if k < a.length then scAdd 0 (a.getD k 0) else 0) (b.getD k 0) else if k < a.length then scAdd 0 (a.getD k 0) else 0 := rfl

/-- out[i] = ScAdd(out[i], x): what the world is behind it. -/
theorem row_step {w wr : World} {n k : Nat} {F : Nat → Int} (x : Int) (h : RowI wr w.heap.size n F) (hb : Below w.heap.size w wr) : RowI (wr.setCell ⟨w.heap.size, k, none⟩ (.int .i64 x)) w.heap.size n (fun i => if i = k then x else F i) ∧ Below w.heap.size w (wr.setCell ⟨w.heap.size, k, none⟩ (.int .i64 x)) := ⟨h.set k x, hb.setCell (Nat.le_refl _) _⟩

end Go.Proofs.Ytbkfdafdchjakab
