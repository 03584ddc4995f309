/-
  Texts of one's own, joined.
-/
import Derived.Test.YtldkdgbcnbgmiaaGreatDoorJoined28
import Derived.OrdersHeld
import Derived.Deep.RegionHeld3
import Derived.Test.YtldkdgbcnbgmiaaGreatDoorJoined38

/-
  A region that draws its order, walked along an order that one names: operations that give one value in every world of S are taken first, the others come up alone.
-/
namespace Go.Proofs.YtldkdgbcnbgmiaaGreatDoor
open Go.RowKit

section
variable {P : Program} {ops : Array Oper} {S : World → Prop} {Q : Exit → Act → World → Prop} {R : Act → World → Prop}

/-- May the region be walked so? (Each with the word whether it comes up alone.) -/
def ordB (ops : Array Oper) : List (Nat × Bool) → Array Bool → Bool
  | [], listed => (Region.ready .any ops listed).isEmpty
  | (k, true) :: r, listed => decide (Region.ready .any ops listed = [k]) && ordB ops r (listed.setIfInBounds k true)
  | (k, false) :: r, listed => (Region.ready .any ops listed).contains k && Region.free .any ops listed k && ordB ops r (listed.setIfInBounds k true)

/-- What has come up behind the order, if the region may be walked so. -/
def ordTo (ops : Array Oper) : List (Nat × Bool) → Array Bool → Option (Array Bool)
  | [], listed => some listed
  | (k, true) :: r, listed => if Region.ready .any ops listed = [k] then ordTo ops r (listed.setIfInBounds k true) else none
  | (k, false) :: r, listed => if ((Region.ready .any ops listed).contains k && Region.free .any ops listed k) = true then ordTo ops r (listed.setIfInBounds k true) else none

/-- The walk, to R. -/
def wpOrd (P : Program) (ops : Array Oper) (Q : Exit → Act → World → Prop) (S : World → Prop) (R : Act → World → Prop) : List (Nat × Bool) → Act → World → Prop
  | [], a, w => R a w
  | (k, true) :: r, a, w => wpOp P ops (NoPanic Q) k (fun a' w' => S w' ∧ wpOrd P ops Q S R r a' w') a w
  | (k, false) :: r, a, w => ∃ o v, ops[k]? = some o ∧ YieldsIf P ops S o v a ∧ wpOrd P ops Q S R r (a.put o.dst v) w

theorem anyH_of_ord (hs : Region.noSelect ops = true) : ∀ (order : List (Nat × Bool)) (listed : Array Bool) (a : Act) (w : World), ordB ops order listed = true → S w → wpOrd P ops Q S (Q .normal) order a w →
    wpAnyH P .any ops (NoPanic Q) S order.length listed a w
  | [], listed, a, w, hB, _, h => by
    have h0 : Region.ready .any ops listed = [] := by simpa [ordB] using hB
    exact wpAnyH_done h0 (NoPanic.normal h) 0
  | (k, true) :: r, listed, a, w, hB, hS, h => by
    simp only [ordB, Bool.and_eq_true, decide_eq_true_eq] at hB
    refine wpAnyH_all hB.1 (by simp) fun i hi => ?_
    have hik : i = k := by simpa using hi
    subst hik
    exact wpOp_mono (fun a' w' ⟨h1, h2⟩ => ⟨h1, anyH_of_ord hs r _ a' w' hB.2 h1 h2⟩) h
  | (k, false) :: r, listed, a, w, hB, hS, h => by
    simp only [ordB, Bool.and_eq_true] at hB
    obtain ⟨o, v, ho, hy, hr⟩ := h
    exact wpAnyH_take ho hs hB.1.2 hB.1.1 (fun c a w h => h) hy hS (anyH_of_ord hs r _ _ w hB.2 hS hr)

theorem wp_region_ord {id : Nat} {a : Act} {w : World} {l : List Oper} (order : List (Nat × Bool)) (S : World → Prop) (hm : P.follows .mixedOrders = true)
    (hB : (Region.noSelect l.toArray && decide (order.length = l.length) && ordB l.toArray order (Array.replicate l.length false)) = true) (hS : S w.drew) (h : wpOrd P l.toArray Q S (Q .normal) order a w.drew) : (Code.region id l.toArray true).wp P Q a w := by
  simp only [Bool.and_eq_true, decide_eq_true_eq] at hB
  obtain ⟨⟨hs, hl⟩, hB⟩ := hB
  refine wp_region_noPanic (wp_region_held (S := S) hm ?_)
  have := anyH_of_ord hs order (Array.replicate l.length false) a w.drew hB hS h
  rw [hl] at this
  simpa using this

/-- Along an order, then on. -/
theorem anyH_of_to (hs : Region.noSelect ops = true) : ∀ (order : List (Nat × Bool)) (n : Nat) (listed listed' : Array Bool) (a : Act) (w : World), ordTo ops order listed = some listed' → S w → wpOrd P ops Q S (fun a w => wpAnyH P .any ops (NoPanic Q) S n listed' a w) order a w →
    wpAnyH P .any ops (NoPanic Q) S (n + order.length) listed a w
  | [], n, listed, listed', a, w, hB, _, h => by
    simp only [ordTo, Option.some.injEq] at hB
    subst hB
    exact h
  | (k, true) :: r, n, listed, listed', a, w, hB, hS, h => by
    simp only [ordTo] at hB
    split at hB
    · rename_i h0
      refine wpAnyH_all h0 (by simp) fun i hi => ?_
      have hik : i = k := by simpa using hi
      subst hik
      exact wpOp_mono (fun a' w' ⟨h1, h2⟩ => ⟨h1, anyH_of_to hs r n _ _ a' w' hB h1 h2⟩) h
    · cases hB
  | (k, false) :: r, n, listed, listed', a, w, hB, hS, h => by
    simp only [ordTo] at hB
    split at hB
    · rename_i h0
      rw [Bool.and_eq_true] at h0
      obtain ⟨o, v, ho, hy, hr⟩ := h
      exact wpAnyH_take ho hs h0.2 h0.1 (fun c a w h => h) hy hS (anyH_of_to hs r n _ _ _ w hB hS hr)
    · cases hB

/-- The beginning of a region along an order; then one walks on from there. -/
theorem wp_region_to {id : Nat} {a : Act} {w : World} {l : List Oper} (order : List (Nat × Bool)) (n : Nat) (listed' : Array Bool) (S : World → Prop) (hm : P.follows .mixedOrders = true)
    (hB : (Region.noSelect l.toArray && decide (n + order.length = l.length) && decide (ordTo l.toArray order (Array.replicate l.length false) = some listed')) = true) (hS : S w.drew)
    (h : wpOrd P l.toArray Q S (fun a w => wpAnyH P .any l.toArray (NoPanic Q) S n listed' a w) order a w.drew) : (Code.region id l.toArray true).wp P Q a w := by
  simp only [Bool.and_eq_true, decide_eq_true_eq] at hB
  obtain ⟨⟨hs, hl⟩, hB⟩ := hB
  refine wp_region_noPanic (wp_region_held (S := S) hm ?_)
  have := anyH_of_to hs order n (Array.replicate l.length false) listed' a w.drew hB hS h
  rw [hl] at this
  simpa using this

/-- On along an order, to the end. -/
theorem anyH_ord {n : Nat} {listed : Array Bool} {a : Act} {w : World} (order : List (Nat × Bool)) (hB : (Region.noSelect ops && decide (order.length = n) && ordB ops order listed) = true) (hS : S w) (h : wpOrd P ops Q S (Q .normal) order a w) : wpAnyH P .any ops (NoPanic Q) S n listed a w := by
  simp only [Bool.and_eq_true, decide_eq_true_eq] at hB
  obtain ⟨⟨hs, hl⟩, hB⟩ := hB
  subst hl
  exact anyH_of_ord hs order listed a w hB hS h

/-- On along an order, to a place. -/
theorem anyH_to {n : Nat} {listed : Array Bool} {a : Act} {w : World} (order : List (Nat × Bool)) (m : Nat) (listed' : Array Bool) (hB : (Region.noSelect ops && decide (m + order.length = n) && decide (ordTo ops order listed = some listed')) = true) (hS : S w)
    (h : wpOrd P ops Q S (fun a w => wpAnyH P .any ops (NoPanic Q) S m listed' a w) order a w) : wpAnyH P .any ops (NoPanic Q) S n listed a w := by
  simp only [Bool.and_eq_true, decide_eq_true_eq] at hB
  obtain ⟨⟨hs, hl⟩, hB⟩ := hB
  subst hl
  exact anyH_of_to hs order m listed listed' a w hB hS h

/-- Two may come up: each way. -/
theorem anyH_two {n i j : Nat} {listed : Array Bool} {a : Act} {w : World} (li lj : Array Bool) (hB : (decide (Region.ready .any ops listed = [i, j]) && decide (listed.setIfInBounds i true = li) && decide (listed.setIfInBounds j true = lj)) = true)
    (hi : wpOrd P ops Q S (fun a w => wpAnyH P .any ops (NoPanic Q) S n li a w) [(i, true)] a w)
    (hj : wpOrd P ops Q S (fun a w => wpAnyH P .any ops (NoPanic Q) S n lj a w) [(j, true)] a w) : wpAnyH P .any ops (NoPanic Q) S (n + 1) listed a w := by
  simp only [Bool.and_eq_true, decide_eq_true_eq] at hB
  obtain ⟨⟨h0, h1⟩, h2⟩ := hB
  refine wpAnyH_all h0 (by simp) fun k hk => ?_
  simp only [List.mem_cons, List.not_mem_nil, or_false] at hk
  rcases hk with rfl | rfl
  · rw [h1]; exact hi
  · rw [h2]; exact hj

theorem ord_nil {a : Act} {w : World} (h : R a w) : wpOrd P ops Q S R [] a w := h
/-- One that is passed over. -/
theorem ord_skip {k : Nat} {r : List (Nat × Bool)} {a : Act} {w : World} {o : Oper} (ho : ops[k]? = some o) (hw : Region.wanted o (yielded ops a.tmps) = false)
    (h : ∀ K : Act → Prop, (∀ a, wpOrd P ops Q S R r a w → K a) → K (a.put o.dst undef)) : wpOrd P ops Q S R ((k, false) :: r) a w := by
  exact ⟨o, undef, ho, .inr ⟨hw, rfl⟩, h _ (fun _ h => h)⟩
theorem ord_float {k : Nat} {r : List (Nat × Bool)} {a : Act} {w : World} {o : Oper} (ho : ops[k]? = some o) (hw : Region.wanted o (yielded ops a.tmps) = true)
    (h : ∀ K : Act → Prop, (∀ a, wpOrd P ops Q S R r a w → K a) → ∃ v, (∀ w, S w → (execOp a.eval o).run P w = .ok (.value v) w) ∧ K (a.put o.dst v)) : wpOrd P ops Q S R ((k, false) :: r) a w := by
  obtain ⟨v, h1, h2⟩ := h _ (fun _ h => h)
  exact ⟨o, v, ho, .inl ⟨hw, h1⟩, h2⟩
theorem ord_call {k : Nat} {r : List (Nat × Bool)} {a : Act} {w : World} {o : Oper} (ho : ops[k]? = some o) (hw : Region.wanted o (yielded ops a.tmps) = true)
    (h : ∀ K : Act → World → Prop, (∀ a w, wpOrd P ops Q S R r a w → K a w) → ∃ f args, (execOp a.eval o).run P w = .ok (.enter f args) w ∧ Calls P f args w fun e w' => ∃ v, e = .returned v ∧ S w' ∧ K (a.put o.dst v) w') : wpOrd P ops Q S R ((k, true) :: r) a w := by
  obtain ⟨f, args, h1, h2⟩ := h _ (fun _ _ h => h)
  show wpOp P ops (NoPanic Q) k _ a w
  unfold wpOp
  simp only [ho]
  rw [if_pos hw]
  refine .inl ?_
  unfold Oper.wp
  rw [h1]
  simp only [Oper.upon]
  exact h2.mono fun e w' ⟨v, he, hS, hK⟩ => by subst he; exact ⟨hS, hK⟩
/-- An operation that comes up alone and changes the world. -/
theorem ord_op {k : Nat} {r : List (Nat × Bool)} {a : Act} {w : World} {o : Oper} (ho : ops[k]? = some o) (hw : Region.wanted o (yielded ops a.tmps) = true)
    (h : ∀ K : Act → World → Prop, (∀ a w, wpOrd P ops Q S R r a w → K a w) → ∃ v w', (execOp a.eval o).run P w = .ok (.value v) w' ∧ S w' ∧ K (a.put o.dst v) w') : wpOrd P ops Q S R ((k, true) :: r) a w := by
  obtain ⟨v, w', h1, h2, h3⟩ := h _ (fun _ _ h => h)
  show wpOp P ops (NoPanic Q) k _ a w
  unfold wpOp
  simp only [ho]
  rw [if_pos hw]
  refine .inl ?_
  unfold Oper.wp
  rw [h1]
  exact ⟨h2, h3⟩
/-- A whole struct into its block. -/
theorem ord_store {k : Nat} {r : List (Nat × Bool)} {a : Act} {w : World} {o : Oper} (ho : ops[k]? = some o) (hw : Region.wanted o (yielded ops a.tmps) = true) (hd : o.dst = none) {t : TypeId} {p v : Operand} (hop : o.op = Op.store t p v)
    {g : Nat} {t' : TypeId} {cs cs' : Array Value} (hp : a.eval p = .pointer (some ⟨g, 0, none⟩)) (hv : a.eval v = .agg cs') (h : Blk w g t' cs) (hi : (P.info? t).map (·.size) = some cs'.size) (hz : cs.size = cs'.size) (h1 : cs'.all (·.oneCell') = true)
    (K : ∀ w', Blk w' g t' cs' → (∀ g' t'' cs'', g ≠ g' → Blk w g' t'' cs'' → Blk w' g' t'' cs'') → (∀ B w0, B ≤ g → Below B w0 w → Below B w0 w') → S w' ∧ wpOrd P ops Q S R r a w') : wpOrd P ops Q S R ((k, true) :: r) a w := by
  show wpOp P ops (NoPanic Q) k _ a w
  unfold wpOp
  simp only [ho]
  rw [if_pos hw]
  refine .inl ?_
  have hrun : (Instr.storeAt t (.pointer (some ⟨g, 0, none⟩)) (.agg cs')).run P w = .ok () (w.setRow g cs') := by
    simp only [Instr.storeAt, Instr.sureAddr, Sem.run_bind, Sem.run_pure, Result.andThen]
    exact h.store hi hz h1
  unfold Oper.wp
  simp [execOp, hop, hp, hv, hrun, Result.andThen]
  simp only [Oper.upon]
  rw [show a.put o.dst undef = a by rw [hd]; rfl]
  exact K _ (h.row cs') (fun g' t'' cs'' hne h' => h'.rowOther hne _) (fun _ _ hB hb => below_setRow hb hB _)

end
end Go.Proofs.YtldkdgbcnbgmiaaGreatDoor

/-
  The draws of points.
  (-DROP-: what the seat lacks is left out.)
-/
namespace Go.Proofs.YtldkdgbcnbgmiaaGreatDoor
open Go.RowKit

/-- A point of the curve that is not Zero. -/
def OnC (P : Pt) : Prop := POk P ∧ P.2.2 = false

theorem onC_root {z : Int} (hz : 0 ≤ z ∧ z < 12107) (hb : rootB (rhs z) = true) : OnC (z, rootV (rhs z), false) :=
  ⟨.inr ⟨rfl, hz, rootV_in, wc_rhs.2 (root_right' (rhs_in z).1 (rhs_in z).2 hb)⟩, rfl⟩

theorem onC_base : OnC pB := ⟨pb_ok, rfl⟩

set_option maxHeartbeats 1600000 in
set_option maxRecDepth 100000 in
theorem curve_any (c len cap : Nat) (a : Option Addr) (hm : len ≤ 1048576) (w : World) (hC : CurAt w c a len cap) (hA : ArgAt w a len c) :
    Calls Tryz.prog 53 #[.pointer (some ⟨c, 0, none⟩)] w fun e w' => ∃ P : Pt, e = .returned (pv P) ∧ OnC P ∧ CurEnd w w' c a len cap := by
  have hcl := hC.lt
  have H0 : Hid (CurEnd w (w.alloc (.cells #[.int .i64 0, .int .i64 0, .bool false] 27)) c a len cap) := (CurEnd.refl hC hA).alloc _
  have HB : Hid (Blk (w.alloc (.cells #[.int .i64 0, .int .i64 0, .bool false] 27)) w.heap.size 27 #[.int .i64 0, .int .i64 0, .bool false]) := Blk.new _ _ _
  clear hC hA
  go_enter Tryz.func53, Tryz.ntmps53
  go_wp2_with fail
  refine (below_any c len cap a hm 250 (by omega) (by omega) _ H0.out.cur H0.out.arg).mono ?_
  rintro e w1 ⟨x, rfl, x0, x1, hE⟩
  have H1 : Hid (CurEnd w w1 c a len cap) := H0.out.trans hE
  have HB1 : Hid (Blk w1 w.heap.size 27 #[.int .i64 0, .int .i64 0, .bool false]) := HB.out.grown hE.grown (by omega)
  clear hE H0 HB
  go_wp2
  go_loopw [4] (fun i wr => ∃ k : Nat, i = .int .i64 (k : Int) ∧ k ≤ 60 ∧ w1 = wr) (fun i _ => 60 - (intOf i).toNat)
  case atStart => exact ⟨0, rfl, by omega, rfl⟩
  case round =>
    obtain ⟨k, rfl, hk, rfl⟩ := hrel
    by_cases hlt : k < 60
    · have hlt' : (k : Int) < 60 := by omega
      obtain ⟨z, hz⟩ : ∃ z : Int, z = x + (k : Int) := ⟨_, rfl⟩
      have hz' := hz.symm
      have hzb : 0 ≤ z ∧ z < 12107 := by omega
      clear hz
      have HRH : Hid (∀ w, Calls Tryz.prog 41 #[.int .i64 z] w fun e w' => e = .returned (.int .i64 (rhs z)) ∧ w = w') := sRight_any z
      have HRT : Hid (∀ w, Calls Tryz.prog 40 #[.int .i64 (rhs z)] w fun e w' => e = .returned (.tuple #[.int .i64 (rootV (rhs z)), .bool (rootB (rhs z))]) ∧ w = w') := sRoot_any (rhs z)
      have HO : Hid (rootB (rhs z) = true → OnC (z, rootV (rhs z), false)) := fun h => onC_root hzb h
      generalize rootV (rhs z) = v at HRT HO
      generalize rootB (rhs z) = q at HRT HO
      generalize rhs z = rr at HRH HRT
      cases q
      · go_wp2_with (first | (go_at_call 41; refine (HRH.out _).mono ?_; rintro e w2 ⟨rfl, rfl⟩) | (go_at_call 40; refine (HRT.out _).mono ?_; rintro e w2 ⟨rfl, rfl⟩))
        go_roundw
        case rel => exact ⟨k + 1, by go_num, by omega, by trivial⟩
        case measure => simp [intOf]; omega
      · have hB1 := HB1.out
        go_wp2_with (first | (go_at_call 41; refine (HRH.out _).mono ?_; rintro e w2 ⟨rfl, rfl⟩) | (go_at_call 40; refine (HRT.out _).mono ?_; rintro e w2 ⟨rfl, rfl⟩) | (refine store_blk (cs' := #[.int .i64 z, .int .i64 v, .bool false]) rfl rfl rfl rfl rfl hB1 infoP rfl (ones3 _ _ _) ?_; intro V h5 hoth hbel; have hE2 : Hid (CurEnd w V c a len cap) := H1.out.store (Nat.le_refl _) hcl hoth hbel; clear hoth hbel))
        refine bodyPost_ret_by (result_blk rfl rfl h5 Tryz.underlying27 infoP) rfl ⟨(z, v, false), rfl, HO.out (by trivial), hE2.out⟩
    · have hlt' : ¬ (k : Int) < 60 := by omega
      have HBA : Hid (∀ w, Calls Tryz.prog 43 #[] w fun e w' => e = .returned (.agg #[.int .i64 8445, .int .i64 859, .bool false]) ∧ Below w.heap.size w w') := sBase_any
      go_wp2_with fail
      refine (HBA.out _).mono ?_
      rintro e w2 ⟨rfl, hb2⟩
      have H2 : Hid (CurEnd w w2 c a len cap) := H1.out.below hb2
      have hB2 := HB1.out.on hb2 HB1.out.lt
      clear hb2 HB1 H1
      go_wp2_with (refine store_blk (cs' := #[.int .i64 8445, .int .i64 859, .bool false]) rfl rfl rfl rfl rfl hB2 infoP rfl (ones3 _ _ _) ?_; intro V h5 hoth hbel; have hE2 : Hid (CurEnd w V c a len cap) := H2.out.store (Nat.le_refl _) hcl hoth hbel; clear hoth hbel)
      refine bodyPost_ret_by (result_blk rfl rfl h5 Tryz.underlying27 infoP) rfl ⟨pB, rfl, onC_base, hE2.out⟩

/-- Of a multiple of the base. -/
def InGp (P : Pt) : Prop := ∃ k, k < 1009 ∧ P = pMul pB k
theorem InGp.ok {P : Pt} (h : InGp P) : POk P := by
  obtain ⟨k, _, rfl⟩ := h
  exact pmul_ok pb_ok k

/-- What is picked for a multiple of the base. -/
def Sm9 (z : Int) : Prop := 0 ≤ z ∧ z ≤ 1008

set_option maxHeartbeats 1600000 in
set_option maxRecDepth 100000 in
theorem group_any (c len cap : Nat) (a : Option Addr) (hm : len ≤ 1048576) (w : World) (hC : CurAt w c a len cap) (hA : ArgAt w a len c) :
    Calls Tryz.prog 55 #[.pointer (some ⟨c, 0, none⟩)] w fun e w' => ∃ P : Pt, e = .returned (pv P) ∧ InGp P ∧ CurEnd w w' c a len cap := by
  have hcl := hC.lt
  have H0 : Hid (CurEnd w (w.alloc (.cells #[.int .i64 0, .int .i64 0, .bool false] 27)) c a len cap) := (CurEnd.refl hC hA).alloc _
  have HB0 : Hid (Blk (w.alloc (.cells #[.int .i64 0, .int .i64 0, .bool false] 27)) w.heap.size 27 #[.int .i64 0, .int .i64 0, .bool false]) := Blk.new _ _ _
  clear hC hA
  go_enter Tryz.func55, Tryz.ntmps55
  go_wp2_with fail
  refine (below_any c len cap a hm 256 (by omega) (by omega) _ H0.out.cur H0.out.arg).mono ?_
  rintro e w1 ⟨y, rfl, y0, y1, hE⟩
  have H1 : Hid (CurEnd w w1 c a len cap) := H0.out.trans hE
  have HB1 : Hid (Blk w1 w.heap.size 27 #[.int .i64 0, .int .i64 0, .bool false]) := HB0.out.grown hE.grown (by omega)
  clear hE H0 HB0
  go_wp2_with fail
  have HW := H1.out.alloc (.cells #[.int .i64 1, .int .i64 2, .int .i64 3, .int .i64 0, .int .i64 500, .int .i64 1008, .int .i64 y] 3)
  have hHB := HB1.out.alloc (.cells #[.int .i64 1, .int .i64 2, .int .i64 3, .int .i64 0, .int .i64 500, .int .i64 1008, .int .i64 y] 3)
  have hcl1 := H1.out.cur.lt
  refine (pick_any c len cap a hm w1.heap.size 7 7 (by omega) (by omega) _ HW.cur HW.arg (by omega) Sm9 (ints_new w1 [1, 2, 3, 0, 500, 1008, y] _ rfl Sm9 (by unfold Sm9; intro z hz; simp at hz; omega))).mono ?_
  rintro e w2 ⟨z, rfl, hz, hE⟩
  have H2 : Hid (CurEnd w w2 c a len cap) := HW.trans hE
  have HB2 : Hid (Blk w2 w.heap.size 27 #[.int .i64 0, .int .i64 0, .bool false]) := hHB.grown hE.grown (by omega)
  obtain ⟨k, rfl⟩ : ∃ k : Nat, z = k := ⟨z.toNat, by have := hz.1; omega⟩
  have hk : k < 1009 := by have := hz.2; omega
  clear hE H1 HB1 HW hHB hz
  have HBA : Hid (∀ w, Calls Tryz.prog 43 #[] w fun e w' => e = .returned (pv pB) ∧ Below w.heap.size w w') := sBase_any
  have HTI : Hid (∀ w, Calls Tryz.prog 42 #[.int .i64 (k : Int), pv pB] w fun e w' => e = .returned (pv (pMul pB k)) ∧ Below w.heap.size w w') := by
    have h := sTimes_any (k : Int) pB
    rw [ptimes_small pb_ok (by omega)] at h
    exact h
  have HG : Hid (InGp (pMul pB k)) := ⟨k, hk, rfl⟩
  generalize pMul pB k = P at HTI HG
  generalize pB = B at HBA HTI
  go_wp2_with fail
  refine (HBA.out _).mono ?_
  rintro e w3 ⟨rfl, hb3⟩
  have H3 : Hid (CurEnd w w3 c a len cap) := H2.out.below hb3
  have HB3 : Hid (Blk w3 w.heap.size 27 #[.int .i64 0, .int .i64 0, .bool false]) := HB2.out.on hb3 HB2.out.lt
  clear hb3 H2 HB2
  go_wp2_with fail
  refine (HTI.out _).mono ?_
  rintro e w4 ⟨rfl, hb4⟩
  have H4 : Hid (CurEnd w w4 c a len cap) := H3.out.below hb4
  have hB4 := HB3.out.on hb4 HB3.out.lt
  clear hb4 H3 HB3
  go_wp2_with (refine store_blk (cs' := pc P) rfl rfl rfl rfl rfl hB4 infoP rfl (ones3 _ _ _) ?_; intro V h5 hoth hbel; have hE9 : Hid (CurEnd w V c a len cap) := H4.out.store (Nat.le_refl _) hcl hoth hbel; clear hoth hbel)
  refine bodyPost_ret_by (result_blk rfl rfl h5 Tryz.underlying27 infoP) rfl ⟨P, rfl, HG.out, hE9.out⟩

set_option maxHeartbeats 1600000 in
set_option maxRecDepth 100000 in
theorem anyP_any (c len cap : Nat) (a : Option Addr) (hm : len ≤ 1048576) (w : World) (hC : CurAt w c a len cap) (hA : ArgAt w a len c) :
    Calls Tryz.prog 33 #[.pointer (some ⟨c, 0, none⟩)] w fun e w' => ∃ P : Pt, e = .returned (pv P) ∧ CurEnd w w' c a len cap := by
  have hcl := hC.lt
  have H0 : Hid (CurEnd w (w.alloc (.cells #[.int .i64 0, .int .i64 0, .bool false] 27)) c a len cap) := (CurEnd.refl hC hA).alloc _
  have HB0 : Hid (Blk (w.alloc (.cells #[.int .i64 0, .int .i64 0, .bool false] 27)) w.heap.size 27 #[.int .i64 0, .int .i64 0, .bool false]) := Blk.new _ _ _
  clear hC hA
  go_enter Tryz.func33, Tryz.ntmps33
  go_wp2_with fail
  refine (below_any c len cap a hm 10 (by omega) (by omega) _ H0.out.cur H0.out.arg).mono ?_
  rintro e w1 ⟨x, rfl, x0, x1, hE⟩
  have H1 : Hid (CurEnd w w1 c a len cap) := H0.out.trans hE
  have HB1 : Hid (Blk w1 w.heap.size 27 #[.int .i64 0, .int .i64 0, .bool false]) := HB0.out.grown hE.grown (by omega)
  clear hE H0 HB0
  rcases (show x = 0 ∨ x = 1 ∨ x = 2 ∨ x = 3 ∨ x = 4 ∨ x = 5 ∨ 6 ≤ x by omega) with rfl | rfl | rfl | rfl | rfl | rfl | h6
  · go_wp2_with fail
    refine (curve_any c len cap a hm _ H1.out.cur H1.out.arg).mono ?_
    rintro e w2 ⟨P, rfl, _, hE⟩
    have H2 : Hid (CurEnd w w2 c a len cap) := H1.out.trans hE
    have HB2 : Hid (Blk w2 w.heap.size 27 #[.int .i64 0, .int .i64 0, .bool false]) := HB1.out.grown hE.grown (by omega)
    clear hE H1 HB1
    have hB2 := HB2.out
    go_wp2_with (refine store_blk (cs' := pc P) rfl rfl rfl rfl rfl hB2 infoP rfl (ones3 _ _ _) ?_; intro V h5 hoth hbel; have hE9 : Hid (CurEnd w V c a len cap) := H2.out.store (Nat.le_refl _) hcl hoth hbel; clear hoth hbel)
    refine bodyPost_ret_by (result_blk rfl rfl h5 Tryz.underlying27 infoP) rfl ⟨P, rfl, hE9.out⟩
  · go_wp2_with fail
    refine (curve_any c len cap a hm _ H1.out.cur H1.out.arg).mono ?_
    rintro e w2 ⟨P, rfl, _, hE⟩
    have H2 : Hid (CurEnd w w2 c a len cap) := H1.out.trans hE
    have HB2 : Hid (Blk w2 w.heap.size 27 #[.int .i64 0, .int .i64 0, .bool false]) := HB1.out.grown hE.grown (by omega)
    clear hE H1 HB1
    have hB2 := HB2.out
    go_wp2_with (refine store_blk (cs' := pc P) rfl rfl rfl rfl rfl hB2 infoP rfl (ones3 _ _ _) ?_; intro V h5 hoth hbel; have hE9 : Hid (CurEnd w V c a len cap) := H2.out.store (Nat.le_refl _) hcl hoth hbel; clear hoth hbel)
    refine bodyPost_ret_by (result_blk rfl rfl h5 Tryz.underlying27 infoP) rfl ⟨P, rfl, hE9.out⟩
  · go_wp2_with fail
    refine (curve_any c len cap a hm _ H1.out.cur H1.out.arg).mono ?_
    rintro e w2 ⟨P, rfl, _, hE⟩
    have H2 : Hid (CurEnd w w2 c a len cap) := H1.out.trans hE
    have HB2 : Hid (Blk w2 w.heap.size 27 #[.int .i64 0, .int .i64 0, .bool false]) := HB1.out.grown hE.grown (by omega)
    clear hE H1 HB1
    have hB2 := HB2.out
    go_wp2_with (refine store_blk (cs' := pc P) rfl rfl rfl rfl rfl hB2 infoP rfl (ones3 _ _ _) ?_; intro V h5 hoth hbel; have hE9 : Hid (CurEnd w V c a len cap) := H2.out.store (Nat.le_refl _) hcl hoth hbel; clear hoth hbel)
    refine bodyPost_ret_by (result_blk rfl rfl h5 Tryz.underlying27 infoP) rfl ⟨P, rfl, hE9.out⟩
  · go_wp2_with fail
    refine (num_any c len cap a hm _ H1.out.cur H1.out.arg).mono ?_
    rintro e w2 ⟨u, rfl, _, hE⟩
    have H2 : Hid (CurEnd w w2 c a len cap) := H1.out.trans hE
    have HB2 : Hid (Blk w2 w.heap.size 27 #[.int .i64 0, .int .i64 0, .bool false]) := HB1.out.grown hE.grown (by omega)
    clear hE H1 HB1
    go_wp2_with fail
    refine (num_any c len cap a hm _ H2.out.cur H2.out.arg).mono ?_
    rintro e w3 ⟨v, rfl, _, hE⟩
    have H3 : Hid (CurEnd w w3 c a len cap) := H2.out.trans hE
    have HB3 : Hid (Blk w3 w.heap.size 27 #[.int .i64 0, .int .i64 0, .bool false]) := HB2.out.grown hE.grown (by omega)
    clear hE H2 HB2
    have hB3 := HB3.out
    go_wp2_with (refine store_blk (cs' := #[.int .i64 u, .int .i64 v, .bool false]) rfl rfl rfl rfl rfl hB3 infoP rfl (ones3 _ _ _) ?_; intro V h5 hoth hbel; have hE9 : Hid (CurEnd w V c a len cap) := H3.out.store (Nat.le_refl _) hcl hoth hbel; clear hoth hbel)
    refine bodyPost_ret_by (result_blk rfl rfl h5 Tryz.underlying27 infoP) rfl ⟨(u, v, false), rfl, hE9.out⟩
  · go_wp2_with fail
    refine (below_any c len cap a hm 3 (by omega) (by omega) _ H1.out.cur H1.out.arg).mono ?_
    rintro e w2 ⟨u, rfl, _, _, hE⟩
    have H2 : Hid (CurEnd w w2 c a len cap) := H1.out.trans hE
    have HB2 : Hid (Blk w2 w.heap.size 27 #[.int .i64 0, .int .i64 0, .bool false]) := HB1.out.grown hE.grown (by omega)
    clear hE H1 HB1
    have hB2 := HB2.out
    go_wp2_with (refine store_blk (cs' := #[.int .i64 u, .int .i64 0, .bool true]) rfl rfl rfl rfl rfl hB2 infoP rfl (ones3 _ _ _) ?_; intro V h5 hoth hbel; have hE9 : Hid (CurEnd w V c a len cap) := H2.out.store (Nat.le_refl _) hcl hoth hbel; clear hoth hbel)
    refine bodyPost_ret_by (result_blk rfl rfl h5 Tryz.underlying27 infoP) rfl ⟨(u, 0, true), rfl, hE9.out⟩
  · have hB1 := HB1.out
    go_wp2_with (refine store_blk (cs' := #[.int .i64 0, .int .i64 0, .bool false]) rfl rfl rfl rfl rfl hB1 infoP rfl (ones3 _ _ _) ?_; intro V h5 hoth hbel; have hE9 : Hid (CurEnd w V c a len cap) := H1.out.store (Nat.le_refl _) hcl hoth hbel; clear hoth hbel)
    refine bodyPost_ret_by (result_blk rfl rfl h5 Tryz.underlying27 infoP) rfl ⟨(0, 0, false), rfl, hE9.out⟩
  · have n0 : (x == 0) = false := by rw [beq_eq_false_iff_ne]; omega
    have n1 : (x == 1) = false := by rw [beq_eq_false_iff_ne]; omega
    have n2 : (x == 2) = false := by rw [beq_eq_false_iff_ne]; omega
    have n3 : (x == 3) = false := by rw [beq_eq_false_iff_ne]; omega
    have n4 : (x == 4) = false := by rw [beq_eq_false_iff_ne]; omega
    have n5 : (x == 5) = false := by rw [beq_eq_false_iff_ne]; omega
    go_wp2_with fail
    refine (group_any c len cap a hm _ H1.out.cur H1.out.arg).mono ?_
    rintro e w2 ⟨P, rfl, _, hE⟩
    have H2 : Hid (CurEnd w w2 c a len cap) := H1.out.trans hE
    have HB2 : Hid (Blk w2 w.heap.size 27 #[.int .i64 0, .int .i64 0, .bool false]) := HB1.out.grown hE.grown (by omega)
    clear hE H1 HB1
    have hB2 := HB2.out
    go_wp2_with (refine store_blk (cs' := pc P) rfl rfl rfl rfl rfl hB2 infoP rfl (ones3 _ _ _) ?_; intro V h5 hoth hbel; have hE9 : Hid (CurEnd w V c a len cap) := H2.out.store (Nat.le_refl _) hcl hoth hbel; clear hoth hbel)
    refine bodyPost_ret_by (result_blk rfl rfl h5 Tryz.underlying27 infoP) rfl ⟨P, rfl, hE9.out⟩

end Go.Proofs.YtldkdgbcnbgmiaaGreatDoor

/-
  The draws of points: two and three of them.
  (-DROP-: what the seat lacks is left out.)
-/
namespace Go.Proofs.YtldkdgbcnbgmiaaGreatDoor
open Go.RowKit

theorem ArgAt.up {w W : World} {a : Option Addr} {len : Nat} (h : ArgAt w a len w.heap.size) (hb : Below w.heap.size w W) : ArgAt W a len W.heap.size := fun j hj => by
  obtain ⟨b, off, z, h1, h2, h3⟩ := (h.on hb) j hj
  exact ⟨b, off, z, h1, by have := hb.size; omega, h3⟩

/-- Three blocks. -/
theorem boxes3 (w : World) (t1 t2 t3 : TypeId) (c1 c2 c3 : Array Value) : ∃ W, ((w.alloc (.cells c1 t1)).alloc (.cells c2 t2)).alloc (.cells c3 t3) = W ∧ Below w.heap.size w W ∧ Blk W w.heap.size t1 c1 ∧ Blk W (w.heap.size + 1) t2 c2 ∧ Blk W (w.heap.size + 1 + 1) t3 c3 := boxes2r w t1 t2 t3 c1 c2 c3

end Go.Proofs.YtldkdgbcnbgmiaaGreatDoor
