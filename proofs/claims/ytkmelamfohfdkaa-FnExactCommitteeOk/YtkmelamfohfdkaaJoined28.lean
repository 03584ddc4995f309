/-
  Texts of one's own, joined.
-/
import Derived.Test.YtkmelamfohfdkaaJoined27
import Derived.Test.YtkmelamfohfdkaaJoined18
import Derived.OrdersHeld
import Derived.Deep.RegionHeld3

/-
  The walk of the program's SumPoints.
  (-DROP-: what the seat lacks is left out.)
-/
namespace Go.Proofs.Ytkmelamfohfdkaa
open Go.RowKit

set_option maxHeartbeats 1600000 in
set_option maxRecDepth 100000 in
theorem iSumP_any (a : Option Addr) (n cp : Nat) (hn : n ≤ 9223372036854775807) (f : Nat → Pt) (w : World) (hA : PtsAt w a n w.heap.size f) :
    Calls Try.prog 26 #[.slice a n cp] w fun e w' => e = .returned (pv (sumN f n)) ∧ Below w.heap.size w w' := by
  have HA : Hid (PtsAt w a n w.heap.size f) := hA
  clear hA
  go_enter Try.func26, Try.ntmps26
  go_wp2
  obtain ⟨W2, hW2, hb2, hr2, h3⟩ := boxes1r w 42 42 #[.int .i64 0, .int .i64 0, .bool false] #[.int .i64 0, .int .i64 0, .bool true]
  rw [hW2]
  have HW2 : Hid (Blk W2 (w.heap.size + 1) 42 (pc (sumN f 0)) ∧ Blk W2 w.heap.size 42 #[.int .i64 0, .int .i64 0, .bool false] ∧ Below w.heap.size w W2) := ⟨h3, hr2, hb2⟩
  clear hb2 hW2 h3 hr2
  go_loopw [9] (fun i wr => ∃ k : Nat, i = .int .i64 (k : Int) ∧ k ≤ n ∧ Hid (Blk wr (w.heap.size + 1) 42 (pc (sumN f k)) ∧ Blk wr w.heap.size 42 #[.int .i64 0, .int .i64 0, .bool false] ∧ Below w.heap.size w wr)) (fun i _ => n - (intOf i).toNat)
  case atStart => exact ⟨0, rfl, Nat.zero_le _, HW2⟩
  case round =>
    obtain ⟨k, rfl, hk, HW⟩ := hrel
    clear HW2
    by_cases hlt : k < n
    · have hlt' : (k : Int) < (n : Int) := by omega
      have hk0 : (0 : Int) ≤ (k : Int) := by omega
      have hA1 := HA.out.on HW.out.2.2
      obtain ⟨b, off, rfl, hb, z0, z1, z2⟩ := hA1 k hlt
      have hs3 := HW.out.1
      have hr3 := HW.out.2.1
      have hB3 := HW.out.2.2
      have HS : Hid (∀ w, Calls Try.prog 42 #[pv (sumN f k), pv (f k)] w fun e w' => e = .returned (pv (sumN f (k + 1))) ∧ Below w.heap.size w w') := iPAdd_any (sumN f k) (f k)
      generalize sumN f k = S at HS hs3
      obtain ⟨S2, hS2⟩ : ∃ S2, S2 = sumN f (k + 1) := ⟨_, rfl⟩
      rw [← hS2] at HS
      have HE : Hid (S2 = sumN f (k + 1)) := hS2
      clear hS2
      generalize f k = F at HS z0 z1 z2
      unfold pv at HS
      unfold pc at hs3
      have hl3 := hs3.lt
      clear HA HW hA1 hb
      go_wp2_with (first | (refine load_blk rfl rfl rfl (hs3.alloc _) Try.underlying42 infoP ?_) | (refine load_blk rfl rfl rfl (Blk.new _ _ _) Try.underlying42 infoP ?_))
      obtain ⟨W5, hW5, hb5, h5⟩ := box1 wr 42 #[.int .i64 F.1, .int .i64 F.2.1, .bool F.2.2]
      rw [hW5]
      have hs5 := hs3.on hb5 hs3.lt
      have hr5 := hr3.on hb5 hr3.lt
      have hB5 := below_then hB3 hb5
      clear hs3 hr3 hB3 hb5 hW5 z0 z1 z2 h5
      refine (HS.out _).mono ?_
      rintro e w6 ⟨rfl, hb6⟩
      have hs6 := hs5.on hb6 hs5.lt
      have hr6 := hr5.on hb6 hr5.lt
      have hB6 := below_then hB5 hb6
      clear hs5 hr5 hB5 hb6
      go_wp2_with (refine store_blk (cs' := pc S2) rfl rfl rfl rfl rfl hs6 infoP rfl (ones3 _ _ _) ?_; intro V hs7 hoth hbel; have hr7 := hoth _ _ _ (by omega) hr6; have hB7 := hbel _ _ (by omega) hB6; clear hoth hbel hs6 hr6 hB6)
      go_roundw
      case rel => exact ⟨k + 1, by go_num, hlt, ⟨by rw [← HE.out]; exact hs7, hr7, hB7⟩⟩
      case measure => simp [intOf]; omega
    · have hlt' : ¬ (k : Int) < (n : Int) := by omega
      have HK : Hid (k = n) := (show k = n by omega)
      have hs3 := HW.out.1
      have hr3 := HW.out.2.1
      have hB3 := HW.out.2.2
      clear HW
      go_wp2_with (first | (refine load_blk rfl rfl rfl hs3 Try.underlying42 infoP ?_) | (refine store_blk (cs' := pc (sumN f k)) rfl rfl rfl rfl rfl hr3 infoP rfl (ones3 _ _ _) ?_; intro V h5 hoth hbel; have hbV := hbel _ _ (by omega) hB3; clear hoth hbel))
      refine bodyPost_ret_by (result_blk rfl rfl h5 Try.underlying42 infoP) rfl ⟨by rw [← HK.out]; rfl, hbV⟩

end Go.Proofs.Ytkmelamfohfdkaa

/-
  A region that draws its order, walked along an order that one names: operations that give one value in every world of S are taken first, the others come up alone.
-/
namespace Go.Proofs.Ytkmelamfohfdkaa
open Go.RowKit

section
variable {P : Program} {ops : Array Oper} {S : World → Prop} {Q : Exit → Act → World → Prop} {R : Act → World → Prop}

/-- May the region be walked so? (Each with the word whether it comes up alone.) -/
def ordB (ops : Array Oper) : List (Nat × Bool) → Array Bool → Bool
  | [], listed => (Region.ready .any ops listed).isEmpty
  | (k, true) :: r, listed => decide (Region.ready .any ops listed = [k]) && ordB ops r (listed.setIfInBounds k true)
  | (k, false) :: r, listed => (Region.ready .any ops listed).contains k && Region.free .any ops listed k && ordB ops r (listed.setIfInBounds k true)

/-- What has come up behind the order, if the region may be walked so. -/
def ordTo (ops : Array Oper) : List (Nat × Bool) → Array Bool → Option (Array Bool)
  | [], listed => some listed
  | (k, true) :: r, listed => if Region.ready .any ops listed = [k] then ordTo ops r (listed.setIfInBounds k true) else none
  | (k, false) :: r, listed => if ((Region.ready .any ops listed).contains k && Region.free .any ops listed k) = true then ordTo ops r (listed.setIfInBounds k true) else none

/-- The walk, to R. -/
def wpOrd (P : Program) (ops : Array Oper) (Q : Exit → Act → World → Prop) (S : World → Prop) (R : Act → World → Prop) : List (Nat × Bool) → Act → World → Prop
  | [], a, w => R a w
  | (k, true) :: r, a, w => wpOp P ops (NoPanic Q) k (fun a' w' => S w' ∧ wpOrd P ops Q S R r a' w') a w
  | (k, false) :: r, a, w => ∃ o v, ops[k]? = some o ∧ YieldsIf P ops S o v a ∧ wpOrd P ops Q S R r (a.put o.dst v) w

theorem anyH_of_ord (hs : Region.noSelect ops = true) : ∀ (order : List (Nat × Bool)) (listed : Array Bool) (a : Act) (w : World), ordB ops order listed = true → S w → wpOrd P ops Q S (Q .normal) order a w →
    wpAnyH P .any ops (NoPanic Q) S order.length listed a w
  | [], listed, a, w, hB, _, h => by
    have h0 : Region.ready .any ops listed = [] := by simpa [ordB] using hB
    exact wpAnyH_done h0 (NoPanic.normal h) 0
  | (k, true) :: r, listed, a, w, hB, hS, h => by
    simp only [ordB, Bool.and_eq_true, decide_eq_true_eq] at hB
    refine wpAnyH_all hB.1 (by simp) fun i hi => ?_
    have hik : i = k := by simpa using hi
    subst hik
    exact wpOp_mono (fun a' w' ⟨h1, h2⟩ => ⟨h1, anyH_of_ord hs r _ a' w' hB.2 h1 h2⟩) h
  | (k, false) :: r, listed, a, w, hB, hS, h => by
    simp only [ordB, Bool.and_eq_true] at hB
    obtain ⟨o, v, ho, hy, hr⟩ := h
    exact wpAnyH_take ho hs hB.1.2 hB.1.1 (fun c a w h => h) hy hS (anyH_of_ord hs r _ _ w hB.2 hS hr)

theorem wp_region_ord {id : Nat} {a : Act} {w : World} {l : List Oper} (order : List (Nat × Bool)) (S : World → Prop) (hm : P.follows .mixedOrders = true)
    (hB : (Region.noSelect l.toArray && decide (order.length = l.length) && ordB l.toArray order (Array.replicate l.length false)) = true) (hS : S w.drew) (h : wpOrd P l.toArray Q S (Q .normal) order a w.drew) : (Code.region id l.toArray true).wp P Q a w := by
  simp only [Bool.and_eq_true, decide_eq_true_eq] at hB
  obtain ⟨⟨hs, hl⟩, hB⟩ := hB
  refine wp_region_noPanic (wp_region_held (S := S) hm ?_)
  have := anyH_of_ord hs order (Array.replicate l.length false) a w.drew hB hS h
  rw [hl] at this
  simpa using this

/-- Along an order, then on. -/
theorem anyH_of_to (hs : Region.noSelect ops = true) : ∀ (order : List (Nat × Bool)) (n : Nat) (listed listed' : Array Bool) (a : Act) (w : World), ordTo ops order listed = some listed' → S w → wpOrd P ops Q S (fun a w => wpAnyH P .any ops (NoPanic Q) S n listed' a w) order a w →
    wpAnyH P .any ops (NoPanic Q) S (n + order.length) listed a w
  | [], n, listed, listed', a, w, hB, _, h => by
    simp only [ordTo, Option.some.injEq] at hB
    subst hB
    exact h
  | (k, true) :: r, n, listed, listed', a, w, hB, hS, h => by
    simp only [ordTo] at hB
    split at hB
    · rename_i h0
      refine wpAnyH_all h0 (by simp) fun i hi => ?_
      have hik : i = k := by simpa using hi
      subst hik
      exact wpOp_mono (fun a' w' ⟨h1, h2⟩ => ⟨h1, anyH_of_to hs r n _ _ a' w' hB h1 h2⟩) h
    · cases hB
  | (k, false) :: r, n, listed, listed', a, w, hB, hS, h => by
    simp only [ordTo] at hB
    split at hB
    · rename_i h0
      rw [Bool.and_eq_true] at h0
      obtain ⟨o, v, ho, hy, hr⟩ := h
      exact wpAnyH_take ho hs h0.2 h0.1 (fun c a w h => h) hy hS (anyH_of_to hs r n _ _ _ w hB hS hr)
    · cases hB

/-- The beginning of a region along an order; then one walks on from there. -/
theorem wp_region_to {id : Nat} {a : Act} {w : World} {l : List Oper} (order : List (Nat × Bool)) (n : Nat) (listed' : Array Bool) (S : World → Prop) (hm : P.follows .mixedOrders = true)
    (hB : (Region.noSelect l.toArray && decide (n + order.length = l.length) && decide (ordTo l.toArray order (Array.replicate l.length false) = some listed')) = true) (hS : S w.drew)
    (h : wpOrd P l.toArray Q S (fun a w => wpAnyH P .any l.toArray (NoPanic Q) S n listed' a w) order a w.drew) : (Code.region id l.toArray true).wp P Q a w := by
  simp only [Bool.and_eq_true, decide_eq_true_eq] at hB
  obtain ⟨⟨hs, hl⟩, hB⟩ := hB
  refine wp_region_noPanic (wp_region_held (S := S) hm ?_)
  have := anyH_of_to hs order n (Array.replicate l.length false) listed' a w.drew hB hS h
  rw [hl] at this
  simpa using this

/-- On along an order, to the end. -/
theorem anyH_ord {n : Nat} {listed : Array Bool} {a : Act} {w : World} (order : List (Nat × Bool)) (hB : (Region.noSelect ops && decide (order.length = n) && ordB ops order listed) = true) (hS : S w) (h : wpOrd P ops Q S (Q .normal) order a w) : wpAnyH P .any ops (NoPanic Q) S n listed a w := by
  simp only [Bool.and_eq_true, decide_eq_true_eq] at hB
  obtain ⟨⟨hs, hl⟩, hB⟩ := hB
  subst hl
  exact anyH_of_ord hs order listed a w hB hS h

/-- On along an order, to a place. -/
theorem anyH_to {n : Nat} {listed : Array Bool} {a : Act} {w : World} (order : List (Nat × Bool)) (m : Nat) (listed' : Array Bool) (hB : (Region.noSelect ops && decide (m + order.length = n) && decide (ordTo ops order listed = some listed')) = true) (hS : S w)
    (h : wpOrd P ops Q S (fun a w => wpAnyH P .any ops (NoPanic Q) S m listed' a w) order a w) : wpAnyH P .any ops (NoPanic Q) S n listed a w := by
  simp only [Bool.and_eq_true, decide_eq_true_eq] at hB
  obtain ⟨⟨hs, hl⟩, hB⟩ := hB
  subst hl
  exact anyH_of_to hs order m listed listed' a w hB hS h

/-- Two may come up: each way. -/
theorem anyH_two {n i j : Nat} {listed : Array Bool} {a : Act} {w : World} (li lj : Array Bool) (hB : (decide (Region.ready .any ops listed = [i, j]) && decide (listed.setIfInBounds i true = li) && decide (listed.setIfInBounds j true = lj)) = true)
    (hi : wpOrd P ops Q S (fun a w => wpAnyH P .any ops (NoPanic Q) S n li a w) [(i, true)] a w)
    (hj : wpOrd P ops Q S (fun a w => wpAnyH P .any ops (NoPanic Q) S n lj a w) [(j, true)] a w) : wpAnyH P .any ops (NoPanic Q) S (n + 1) listed a w := by
  simp only [Bool.and_eq_true, decide_eq_true_eq] at hB
  obtain ⟨⟨h0, h1⟩, h2⟩ := hB
  refine wpAnyH_all h0 (by simp) fun k hk => ?_
  simp only [List.mem_cons, List.not_mem_nil, or_false] at hk
  rcases hk with rfl | rfl
  · rw [h1]; exact hi
  · rw [h2]; exact hj

theorem ord_nil {a : Act} {w : World} (h : R a w) : wpOrd P ops Q S R [] a w := h
/-- One that is passed over. -/
theorem ord_skip {k : Nat} {r : List (Nat × Bool)} {a : Act} {w : World} {o : Oper} (ho : ops[k]? = some o) (hw : Region.wanted o (yielded ops a.tmps) = false)
    (h : ∀ K : Act → Prop, (∀ a, wpOrd P ops Q S R r a w → K a) → K (a.put o.dst undef)) : wpOrd P ops Q S R ((k, false) :: r) a w := by
  exact ⟨o, undef, ho, .inr ⟨hw, rfl⟩, h _ (fun _ h => h)⟩
theorem ord_float {k : Nat} {r : List (Nat × Bool)} {a : Act} {w : World} {o : Oper} (ho : ops[k]? = some o) (hw : Region.wanted o (yielded ops a.tmps) = true)
    (h : ∀ K : Act → Prop, (∀ a, wpOrd P ops Q S R r a w → K a) → ∃ v, (∀ w, S w → (execOp a.eval o).run P w = .ok (.value v) w) ∧ K (a.put o.dst v)) : wpOrd P ops Q S R ((k, false) :: r) a w := by
  obtain ⟨v, h1, h2⟩ := h _ (fun _ h => h)
  exact ⟨o, v, ho, .inl ⟨hw, h1⟩, h2⟩
theorem ord_call {k : Nat} {r : List (Nat × Bool)} {a : Act} {w : World} {o : Oper} (ho : ops[k]? = some o) (hw : Region.wanted o (yielded ops a.tmps) = true)
    (h : ∀ K : Act → World → Prop, (∀ a w, wpOrd P ops Q S R r a w → K a w) → ∃ f args, (execOp a.eval o).run P w = .ok (.enter f args) w ∧ Calls P f args w fun e w' => ∃ v, e = .returned v ∧ S w' ∧ K (a.put o.dst v) w') : wpOrd P ops Q S R ((k, true) :: r) a w := by
  obtain ⟨f, args, h1, h2⟩ := h _ (fun _ _ h => h)
  show wpOp P ops (NoPanic Q) k _ a w
  unfold wpOp
  simp only [ho]
  rw [if_pos hw]
  refine .inl ?_
  unfold Oper.wp
  rw [h1]
  simp only [Oper.upon]
  exact h2.mono fun e w' ⟨v, he, hS, hK⟩ => by subst he; exact ⟨hS, hK⟩
/-- An operation that comes up alone and changes the world. -/
theorem ord_op {k : Nat} {r : List (Nat × Bool)} {a : Act} {w : World} {o : Oper} (ho : ops[k]? = some o) (hw : Region.wanted o (yielded ops a.tmps) = true)
    (h : ∀ K : Act → World → Prop, (∀ a w, wpOrd P ops Q S R r a w → K a w) → ∃ v w', (execOp a.eval o).run P w = .ok (.value v) w' ∧ S w' ∧ K (a.put o.dst v) w') : wpOrd P ops Q S R ((k, true) :: r) a w := by
  obtain ⟨v, w', h1, h2, h3⟩ := h _ (fun _ _ h => h)
  show wpOp P ops (NoPanic Q) k _ a w
  unfold wpOp
  simp only [ho]
  rw [if_pos hw]
  refine .inl ?_
  unfold Oper.wp
  rw [h1]
  exact ⟨h2, h3⟩
/-- A whole struct into its block. -/
theorem ord_store {k : Nat} {r : List (Nat × Bool)} {a : Act} {w : World} {o : Oper} (ho : ops[k]? = some o) (hw : Region.wanted o (yielded ops a.tmps) = true) (hd : o.dst = none) {t : TypeId} {p v : Operand} (hop : o.op = Op.store t p v)
    {g : Nat} {t' : TypeId} {cs cs' : Array Value} (hp : a.eval p = .pointer (some ⟨g, 0, none⟩)) (hv : a.eval v = .agg cs') (h : Blk w g t' cs) (hi : (P.info? t).map (·.size) = some cs'.size) (hz : cs.size = cs'.size) (h1 : cs'.all (·.oneCell') = true)
    (K : ∀ w', Blk w' g t' cs' → (∀ g' t'' cs'', g ≠ g' → Blk w g' t'' cs'' → Blk w' g' t'' cs'') → (∀ B w0, B ≤ g → Below B w0 w → Below B w0 w') → S w' ∧ wpOrd P ops Q S R r a w') : wpOrd P ops Q S R ((k, true) :: r) a w := by
  show wpOp P ops (NoPanic Q) k _ a w
  unfold wpOp
  simp only [ho]
  rw [if_pos hw]
  refine .inl ?_
  have hrun : (Instr.storeAt t (.pointer (some ⟨g, 0, none⟩)) (.agg cs')).run P w = .ok () (w.setRow g cs') := by
    simp only [Instr.storeAt, Instr.sureAddr, Sem.run_bind, Sem.run_pure, Result.andThen]
    exact h.store hi hz h1
  unfold Oper.wp
  simp [execOp, hop, hp, hv, hrun, Result.andThen]
  simp only [Oper.upon]
  rw [show a.put o.dst undef = a by rw [hd]; rfl]
  exact K _ (h.row cs') (fun g' t'' cs'' hne h' => h'.rowOther hne _) (fun _ _ hB hb => below_setRow hb hB _)

end
end Go.Proofs.Ytkmelamfohfdkaa
