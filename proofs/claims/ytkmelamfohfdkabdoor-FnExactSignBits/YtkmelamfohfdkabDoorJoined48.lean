/-
  Texts of one's own, joined.
-/
import Derived.Test.YtkmelamfohfdkabDoorJoined47
import Derived.Test.YtkmelamfohfdkabDoorJoined40
import Derived.Test.YtkmelamfohfdkabDoorPtC6

/-
  A region that draws its order and ends with a store for which all others wait: what holds of the world ahead of that store need not hold behind it.
-/
namespace Go.Proofs.YtkmelamfohfdkabDoor
open Go.RowKit

section
variable {P : Program} {ops : Array Oper} {Q : Exit → Act → World → Prop} {S : World → Prop} {R : Act → World → Prop} {s : Nat}

/-- As wpAnyH, but behind operation s nothing is asked of the world. -/
def wpAnyL (P : Program) (ops : Array Oper) (Q : Exit → Act → World → Prop) (s : Nat) (S : World → Prop) : Nat → Array Bool → Act → World → Prop
  | 0, listed, a, w => Region.ready .any ops listed = [] ∧ Q .normal a w
  | fuel + 1, listed, a, w =>
    (Region.ready .any ops listed = [] → Q .normal a w) ∧
    ∀ i ∈ Region.ready .any ops listed, wpOp P ops Q i (fun a' w' => (i ≠ s → S w') ∧ wpAnyL P ops Q s S fuel (listed.setIfInBounds i true) a' w') a w

theorem any_of_last : ∀ (fuel : Nat) (listed : Array Bool) (a : Act) (w : World), wpAnyL P ops Q s S fuel listed a w → wpAny P .any ops Q fuel listed a w
  | 0, _, _, _, h => h
  | fuel + 1, _, _, _, h => ⟨h.1, fun i hi => wpOp_mono (fun a' w' h' => any_of_last fuel _ a' w' h'.2) (h.2 i hi)⟩

theorem last_first {i : Nat} {oi os : Oper} {v : Value} (hi : ops[i]? = some oi) (his : i ≠ s) (hos : ops[s]? = some os) (hwait : ∃ e ∈ os.after, Region.binds .any e = true ∧ e.on = i)
    (hsel : ∀ (j : Nat) (o : Oper) cs b, ops[j]? = some o → o.op ≠ .select cs b)
    (hQ : ∀ c a w, Q (.panic c) (a.put oi.dst v) w → Q (.panic c) a w) :
    ∀ (fuel : Nat) (listed : Array Bool) (a : Act) (w : World),
      (∀ j oj, ops[j]? = some oj → j ≠ i → listed.getD j true = false → (∀ e ∈ oj.after, Region.binds .any e = true → e.on ≠ i) → oi.apart ops oj = true) →
      i ∈ Region.ready .any ops listed → YieldsIf P ops S oi v a → S w →
      wpAnyL P ops Q s S fuel (listed.setIfInBounds i true) (a.put oi.dst v) w → wpAnyL P ops Q s S (fuel + 1) listed a w := by
  intro fuel
  induction fuel with
  | zero =>
    intro listed a w _ hr hy hS H
    refine ⟨fun h => (by rw [h] at hr; cases hr), fun j hj => ?_⟩
    by_cases hji : j = i
    · subst hji; exact hy.wpOp hi hS ⟨fun _ => hS, H⟩
    · have := ready_mono hj hji
      rw [H.1] at this
      cases this
  | succ fuel ih =>
    intro listed a w hfree hr hy hS H
    refine ⟨fun h => (by rw [h] at hr; cases hr), fun j hj => ?_⟩
    by_cases hji : j = i
    · subst hji; exact hy.wpOp hi hS ⟨fun _ => hS, H⟩
    · have h1 := H.2 j (ready_mono hj hji)
      obtain ⟨hjun, oj, hoj, hall⟩ := mem_ready.1 hj
      have hnot : ∀ e ∈ oj.after, Region.binds .any e = true → e.on ≠ i := fun e he hb heq => by
        have h1 := hall e he hb
        have h0 := (mem_ready.1 hr).1
        rw [heq] at h1
        rcases Nat.lt_or_ge i listed.size with h' | h'
        · simp [h'] at h0 h1; rw [h0] at h1; cases h1
        · simp [Array.getElem?_eq_none h'] at h1
      have hjs : j ≠ s := fun e => by
        subst e
        obtain ⟨e, he, hb, ho⟩ := hwait
        rw [hos] at hoj
        cases hoj
        exact hnot e he hb ho
      have h2 := wpOp_putIf hoj (hfree j oj hoj hji hjun hnot) (fun cs b => hsel i oi cs b hi) (fun cs b => hsel j oj cs b hoj) hQ hy h1
      have hfree' : ∀ k ok, ops[k]? = some ok → k ≠ i → (listed.setIfInBounds j true).getD k true = false →
          (∀ e ∈ ok.after, Region.binds .any e = true → e.on ≠ i) → oi.apart ops ok = true := fun k ok hk hki hun hno => by
        refine hfree k ok hk hki ?_ hno
        by_cases hjk : j = k
        · subst hjk; exact hjun
        · rw [getD_set_ne true hjk] at hun; exact hun
      refine wpOp_mono (fun a' w' h3 => ⟨fun _ => h3.2.1 hjs, ih (listed.setIfInBounds j true) a' w' hfree' (ready_mono hr (Ne.symm hji)) h3.1 (h3.2.1 hjs) ?_⟩) h2
      rw [Array.setIfInBounds_comm _ _ hji]
      exact h3.2.2

/-- May the region be walked so, and s at its end? -/
def ordL (ops : Array Oper) (s : Nat) : List (Nat × Bool) → Array Bool → Bool
  | [], listed => decide (Region.ready .any ops listed = [s]) && (Region.ready .any ops (listed.setIfInBounds s true)).isEmpty
  | (k, true) :: r, listed => decide (Region.ready .any ops listed = [k]) && decide (k ≠ s) && ordL ops s r (listed.setIfInBounds k true)
  | (k, false) :: r, listed => (Region.ready .any ops listed).contains k && Region.free .any ops listed k && decide (k ≠ s) && (match ops[s]? with | some o => o.after.any (fun e => Region.binds .any e && decide (e.on = k)) | none => false) && ordL ops s r (listed.setIfInBounds k true)

theorem anyL_of_ord (hs : Region.noSelect ops = true) : ∀ (order : List (Nat × Bool)) (listed : Array Bool) (a : Act) (w : World), ordL ops s order listed = true → S w → wpOrd P ops Q S (fun a w => wpOp P ops (NoPanic Q) s (Q .normal) a w) order a w →
    wpAnyL P ops (NoPanic Q) s S (order.length + 1) listed a w
  | [], listed, a, w, hB, _, h => by
    simp only [ordL, Bool.and_eq_true, decide_eq_true_eq, List.isEmpty_iff] at hB
    refine ⟨fun h0 => (by rw [hB.1] at h0; cases h0), fun i hi => ?_⟩
    rw [hB.1, List.mem_singleton] at hi
    subst hi
    exact wpOp_mono (fun a' w' hq => ⟨fun hne => absurd rfl hne, hB.2, NoPanic.normal hq⟩) h
  | (k, true) :: r, listed, a, w, hB, hS, h => by
    simp only [ordL, Bool.and_eq_true, decide_eq_true_eq] at hB
    refine ⟨fun h0 => (by rw [hB.1.1] at h0; cases h0), fun i hi => ?_⟩
    rw [hB.1.1, List.mem_singleton] at hi
    subst hi
    exact wpOp_mono (fun a' w' ⟨h1, h2⟩ => ⟨fun _ => h1, anyL_of_ord hs r _ a' w' hB.2 h1 h2⟩) h
  | (k, false) :: r, listed, a, w, hB, hS, h => by
    simp only [ordL, Bool.and_eq_true, decide_eq_true_eq] at hB
    obtain ⟨o, v, ho, hy, hr⟩ := h
    obtain ⟨⟨⟨⟨h1, h2⟩, h3⟩, h4⟩, h5⟩ := hB
    cases hos : ops[s]? with
    | none => rw [hos] at h4; cases h4
    | some os =>
      rw [hos] at h4
      simp only [Array.any_eq_true] at h4
      obtain ⟨j, hj, hb⟩ := h4
      rw [Bool.and_eq_true, decide_eq_true_eq] at hb
      exact last_first ho h3 hos ⟨os.after[j], Array.getElem_mem hj, hb.1, hb.2⟩ (Region.noSelect_spec hs) (fun c a w h => h) _ listed a w (Region.free_spec ho h2) (by simpa using h1) hy hS (anyL_of_ord hs r _ _ w h5 hS hr)

/-- A region that draws, along an order that one names, and its last store. -/
theorem wp_region_last {id : Nat} {a : Act} {w : World} {l : List Oper} (order : List (Nat × Bool)) (s : Nat) (S : World → Prop) (hm : P.follows .mixedOrders = true)
    (hB : (Region.noSelect l.toArray && decide (order.length + 1 = l.length) && ordL l.toArray s order (Array.replicate l.length false)) = true) (hS : S w.drew)
    (h : wpOrd P l.toArray Q S (fun a w => wpOp P l.toArray (NoPanic Q) s (Q .normal) a w) order a w.drew) : (Code.region id l.toArray true).wp P Q a w := by
  simp only [Bool.and_eq_true, decide_eq_true_eq] at hB
  obtain ⟨⟨hs, hl⟩, hB⟩ := hB
  refine wp_region_noPanic (wp_region_any hm (any_of_last (s := s) (S := S) _ _ _ _ ?_))
  have := anyL_of_ord hs order (Array.replicate l.length false) a w.drew hB hS h
  rw [hl] at this
  simpa using this

/-- An operation that is run. -/
theorem last_op {K : Act → World → Prop} {a : Act} {w : World} {o : Oper} (ho : ops[s]? = some o) (hw : Region.wanted o (yielded ops a.tmps) = true)
    (h : ∀ J : Act → World → Prop, (∀ a w, K a w → J a w) → ∃ v w', (execOp a.eval o).run P w = .ok (.value v) w' ∧ J (a.put o.dst v) w') : wpOp P ops (NoPanic Q) s K a w := by
  obtain ⟨v, w', h1, h3⟩ := h _ (fun _ _ h => h)
  unfold wpOp
  simp only [ho]
  rw [if_pos hw]
  refine .inl ?_
  unfold Oper.wp
  rw [h1]
  exact h3

/-- A store. -/
theorem last_store {K : Act → World → Prop} {a : Act} {w : World} {o : Oper} (ho : ops[s]? = some o) (hw : Region.wanted o (yielded ops a.tmps) = true) (hd : o.dst = none)
    (w' : World) (hr : (execOp a.eval o).run P w = .ok .skip w') (h : K a w') : wpOp P ops (NoPanic Q) s K a w := by
  unfold wpOp
  simp only [ho]
  rw [if_pos hw]
  refine .inl ?_
  unfold Oper.wp
  rw [hr]
  simp only [Oper.upon]
  rw [show a.put o.dst undef = a by rw [hd]; rfl]
  exact h

end
end Go.Proofs.YtkmelamfohfdkabDoor

/-
  The walk of the specification's committee of a seed.
  (-DROP-: what the seat lacks is left out.)
-/
namespace Go.Proofs.YtkmelamfohfdkabDoor
open Go.RowKit

/-- The keys of a seed's secrets, so many of them. -/
def keysT (n : Int) (k : Nat) : List Pt := (List.range k).map fun i => keyP (sec n i)
theorem keysT_next (n : Int) (k : Nat) : keysT n (k + 1) = keysT n k ++ [keyP (sec n k)] := by
  unfold keysT
  rw [List.range_succ, List.map_append]
  rfl
theorem keysT_len (n : Int) (k : Nat) : (keysT n k).length = k := by simp [keysT]

theorem ones1 (a : Option Addr) (n c : Nat) : (#[Value.slice a n c]).all (·.oneCell') = true := by simp [Value.oneCell']
theorem owns_nil (B e sz : Nat) (w : World) : w.ownsRow B e sz (.slice none 0 0) 0 [] := ⟨by simp, .inl ⟨rfl, rfl⟩⟩

end Go.Proofs.YtkmelamfohfdkabDoor

/-
  The walk of the program's SumPoints.
  (-DROP-: what the seat lacks is left out.)
-/
namespace Go.Proofs.YtkmelamfohfdkabDoor
open Go.RowKit

set_option maxHeartbeats 1600000 in
set_option maxRecDepth 100000 in
theorem iSumP_any (a : Option Addr) (n cp : Nat) (hn : n ≤ 9223372036854775807) (f : Nat → Pt) (w : World) (hA : PtsAt w a n w.heap.size f) :
    Calls Tryd.prog 16 #[.slice a n cp] w fun e w' => e = .returned (pv (sumN f n)) ∧ Below w.heap.size w w' := by
  have HA : Hid (PtsAt w a n w.heap.size f) := hA
  clear hA
  go_enter Tryd.func16, Tryd.ntmps16
  go_wp2
  obtain ⟨W2, hW2, hb2, hr2, h3⟩ := boxes1r w 23 23 #[.int .i64 0, .int .i64 0, .bool false] #[.int .i64 0, .int .i64 0, .bool true]
  rw [hW2]
  have HW2 : Hid (Blk W2 (w.heap.size + 1) 23 (pc (sumN f 0)) ∧ Blk W2 w.heap.size 23 #[.int .i64 0, .int .i64 0, .bool false] ∧ Below w.heap.size w W2) := ⟨h3, hr2, hb2⟩
  clear hb2 hW2 h3 hr2
  go_loopw [9] (fun i wr => ∃ k : Nat, i = .int .i64 (k : Int) ∧ k ≤ n ∧ Hid (Blk wr (w.heap.size + 1) 23 (pc (sumN f k)) ∧ Blk wr w.heap.size 23 #[.int .i64 0, .int .i64 0, .bool false] ∧ Below w.heap.size w wr)) (fun i _ => n - (intOf i).toNat)
  case atStart => exact ⟨0, rfl, Nat.zero_le _, HW2⟩
  case round =>
    obtain ⟨k, rfl, hk, HW⟩ := hrel
    clear HW2
    by_cases hlt : k < n
    · have hlt' : (k : Int) < (n : Int) := by omega
      have hk0 : (0 : Int) ≤ (k : Int) := by omega
      have hA1 := HA.out.on HW.out.2.2
      obtain ⟨b, off, rfl, hb, z0, z1, z2⟩ := hA1 k hlt
      have hs3 := HW.out.1
      have hr3 := HW.out.2.1
      have hB3 := HW.out.2.2
      have HS : Hid (∀ w, Calls Tryd.prog 23 #[pv (sumN f k), pv (f k)] w fun e w' => e = .returned (pv (sumN f (k + 1))) ∧ Below w.heap.size w w') := iPAdd_any (sumN f k) (f k)
      generalize sumN f k = S at HS hs3
      obtain ⟨S2, hS2⟩ : ∃ S2, S2 = sumN f (k + 1) := ⟨_, rfl⟩
      rw [← hS2] at HS
      have HE : Hid (S2 = sumN f (k + 1)) := hS2
      clear hS2
      generalize f k = F at HS z0 z1 z2
      unfold pv at HS
      unfold pc at hs3
      have hl3 := hs3.lt
      clear HA HW hA1 hb
      go_wp2_with (first | (refine load_blk rfl rfl rfl (hs3.alloc _) Tryd.underlying23 infoP ?_) | (refine load_blk rfl rfl rfl (Blk.new _ _ _) Tryd.underlying23 infoP ?_))
      obtain ⟨W5, hW5, hb5, h5⟩ := box1 wr 23 #[.int .i64 F.1, .int .i64 F.2.1, .bool F.2.2]
      rw [hW5]
      have hs5 := hs3.on hb5 hs3.lt
      have hr5 := hr3.on hb5 hr3.lt
      have hB5 := below_then hB3 hb5
      clear hs3 hr3 hB3 hb5 hW5 z0 z1 z2 h5
      refine (HS.out _).mono ?_
      rintro e w6 ⟨rfl, hb6⟩
      have hs6 := hs5.on hb6 hs5.lt
      have hr6 := hr5.on hb6 hr5.lt
      have hB6 := below_then hB5 hb6
      clear hs5 hr5 hB5 hb6
      go_wp2_with (refine store_blk (cs' := pc S2) rfl rfl rfl rfl rfl hs6 infoP rfl (ones3 _ _ _) ?_; intro V hs7 hoth hbel; have hr7 := hoth _ _ _ (by omega) hr6; have hB7 := hbel _ _ (by omega) hB6; clear hoth hbel hs6 hr6 hB6)
      go_roundw
      case rel => exact ⟨k + 1, by go_num, hlt, ⟨by rw [← HE.out]; exact hs7, hr7, hB7⟩⟩
      case measure => simp [intOf]; omega
    · have hlt' : ¬ (k : Int) < (n : Int) := by omega
      have HK : Hid (k = n) := (show k = n by omega)
      have hs3 := HW.out.1
      have hr3 := HW.out.2.1
      have hB3 := HW.out.2.2
      clear HW
      go_wp2_with (first | (refine load_blk rfl rfl rfl hs3 Tryd.underlying23 infoP ?_) | (refine store_blk (cs' := pc (sumN f k)) rfl rfl rfl rfl rfl hr3 infoP rfl (ones3 _ _ _) ?_; intro V h5 hoth hbel; have hbV := hbel _ _ (by omega) hB3; clear hoth hbel))
      refine bodyPost_ret_by (result_blk rfl rfl h5 Tryd.underlying23 infoP) rfl ⟨by rw [← HK.out]; rfl, hbV⟩

end Go.Proofs.YtkmelamfohfdkabDoor
