/-
  Texts of one's own, joined.
-/
import Derived.Test.YtbkfdafdchjakabQapI3
import Derived.Test.YtbkfdafdchjakabJoined23
import Derived.Test.YtbkfdafdchjakabJoined17
import Derived.Test.YtbkfdafdchjakabJoined13
import Derived.Test.YtbkfdafdchjakabJoined4
import Derived.Test.YtbkfdafdchjakabOrd

/-
  A polynomial of each wire, in one form.
  (-DROP-: what the seat lacks is left out.)
-/
namespace Go.Proofs.Ytbkfdafdchjakab
open Go.RowKit

theorem Blk.c30 {w : World} {g t : Nat} {a b c : Value} (h : Blk w g t #[a, b, c]) : w.cell? ⟨g, 0, none⟩ = some a := h.cell 0
theorem Blk.c31 {w : World} {g t : Nat} {a b c : Value} (h : Blk w g t #[a, b, c]) : w.cell? ⟨g, 1, none⟩ = some b := h.cell 1
theorem Blk.c32 {w : World} {g t : Nat} {a b c : Value} (h : Blk w g t #[a, b, c]) : w.cell? ⟨g, 2, none⟩ = some c := h.cell 2
/-- How many there are of each. -/
def qapC (wi pu : Int) (n : Nat) (ls : List (List Int)) : Nat := if sysOk wi pu n ls then wi.toNat else 0
theorem qapC_le (wi pu : Int) (n : Nat) (ls : List (List Int)) : qapC wi pu n ls ≤ 20 := by
  unfold qapC
  split
  · next h =>
    unfold sysOk at h
    simp only [Bool.and_eq_true, decide_eq_true_eq] at h
    omega
  · exact Nat.zero_le _
theorem qap_end {w : World} {wi pu : Int} {n : Nat} {ls : List (List Int)} {e : Ending} {w' : World} (h : QapEnd w wi pu n ls e w') : ∃ vuR vvR vxR usR vsR xsR, e = .returned (.tuple #[.agg #[vuR, vvR, vxR], .bool (sysOk wi pu n ls)]) ∧ Tri 27 w.heap.size w'.heap.size w' vuR (qapC wi pu n ls) usR (qapN ls n 0 (qapC wi pu n ls)) vvR (qapC wi pu n ls) vsR (qapN ls n 1 (qapC wi pu n ls)) vxR (qapC wi pu n ls) xsR (qapN ls n 2 (qapC wi pu n ls)) ∧ Below w.heap.size w w' := by
  rcases h with ⟨h0, rfl, hb⟩ | ⟨h1, U, V, X, us, vs, xs, rfl, hT, hb⟩
  · have e0 : qapC wi pu n ls = 0 := by unfold qapC; rw [h0]; rfl
    rw [e0, h0]
    exact ⟨_, _, _, [], [], [], rfl, ⟨nown_nil _ _ _ _ _, nown_nil _ _ _ _ _, nown_nil _ _ _ _ _, fun k h => by rcases h with h | ⟨i, hi, _⟩; cases h; omega, fun k h => by rcases h with h | ⟨i, hi, _⟩; cases h; omega, fun k h => by rcases h with h | ⟨i, hi, _⟩; cases h; omega⟩, hb⟩
  · have e1 : qapC wi pu n ls = wi.toNat := by unfold qapC; rw [h1]; rfl
    rw [e1, h1]
    exact ⟨U, V, X, us, vs, xs, rfl, hT, hb⟩
theorem qapN_small (ls : List (List Int)) (n t k j : Nat) : ((qapN ls n t k).getD j []).length ≤ 1048576 := by
  by_cases hj : j < k
  · rw [qapN_at ls n t k j hj]
    exact pThr_len _
  · rw [List.getD_eq_getElem?_getD, List.getElem?_eq_none (by rw [qapN_len]; omega)]
    exact Nat.zero_le _
theorem tot_le : ∀ (L : List (List Int)) (b : Nat), (∀ l, l ∈ L → l.length ≤ b) → tot L ≤ L.length * b
  | [], b, _ => by show 0 ≤ _; omega
  | l :: t, b, h => by
    have h1 := h l List.mem_cons_self
    have h2 := tot_le t b fun x hx => h x (List.mem_cons_of_mem _ hx)
    show l.length + tot t ≤ (t.length + 1) * b
    rw [Nat.add_mul]
    omega
theorem qapN_tot (ls : List (List Int)) (n t k : Nat) (hk : k ≤ 20) : tot (qapN ls n t k) ≤ 20971520 := by
  have h := tot_le (qapN ls n t k) 1048576 fun l hl => by
    obtain ⟨j, hj, rfl⟩ := List.getElem_of_mem hl
    have := qapN_small ls n t k j
    rwa [List.getD_eq_getElem?_getD, List.getElem?_eq_getElem hj] at this
  rw [qapN_len] at h
  omega

theorem iQapV (wi pu : Int) (hwf : (Lit.int .i64 wi).wf = true) (a : Option Addr) (n c : Nat) (hn : n ≤ 9223372036854775807) (ls : List (List Int)) (hz : ∀ j, (ls.getD j []).length ≤ 9223372036854775807) (w : World) (hA : NAt 3 w w.heap.size (.slice a n c) n ls) :
    Calls Try.prog 95 #[sysV wi pu (.slice a n c)] w fun e w' => ∃ vuR vvR vxR usR vsR xsR, e = .returned (.tuple #[.agg #[vuR, vvR, vxR], .bool (sysOk wi pu n ls)]) ∧ Tri 27 w.heap.size w'.heap.size w' vuR (qapC wi pu n ls) usR (qapN ls n 0 (qapC wi pu n ls)) vvR (qapC wi pu n ls) vsR (qapN ls n 1 (qapC wi pu n ls)) vxR (qapC wi pu n ls) xsR (qapN ls n 2 (qapC wi pu n ls)) ∧ Below w.heap.size w w' :=
  (iQapOf_any wi pu hwf a n c hn ls hz w hA).mono fun _ _ h => qap_end h

theorem sQapV (wi pu : Int) (hwf : (Lit.int .i64 wi).wf = true) (a : Option Addr) (n c : Nat) (hn : n ≤ 9223372036854775807) (ls : List (List Int)) (hz : ∀ j, (ls.getD j []).length ≤ 9223372036854775807) (w : World) (hA : NAt 3 w w.heap.size (.slice a n c) n ls) :
    Calls Try.prog 45 #[sysV wi pu (.slice a n c)] w fun e w' => ∃ vuR vvR vxR usR vsR xsR, e = .returned (.tuple #[.agg #[vuR, vvR, vxR], .bool (sysOk wi pu n ls)]) ∧ Tri 27 w.heap.size w'.heap.size w' vuR (qapC wi pu n ls) usR (qapN ls n 0 (qapC wi pu n ls)) vvR (qapC wi pu n ls) vsR (qapN ls n 1 (qapC wi pu n ls)) vxR (qapC wi pu n ls) xsR (qapN ls n 2 (qapC wi pu n ls)) ∧ Below w.heap.size w w' :=
  (sQapOf_any wi pu hwf a n c hn ls hz w hA).mono fun _ _ h => qap_end h


end Go.Proofs.Ytbkfdafdchjakab

/-
  The walk of the specification's KeyOf.
  (-DROP-: what the seat lacks is left out.)
-/
namespace Go.Proofs.Ytbkfdafdchjakab
open Go.RowKit

set_option maxHeartbeats 800000 in
set_option maxRecDepth 100000 in
theorem sKey_any (k : Int) (w : World) :
    Calls Try.prog 50 #[.int .i64 k] w fun e w' => e = .returned (pv (keyP k)) ∧ Below w.heap.size w w' := by
  have HO : Hid (∀ w, Calls Try.prog 91 #[.int .i64 k] w fun e w' => e = .returned (.int .i64 (sca k)) ∧ w = w') := sScOf_any k
  have HT : Hid (∀ w, Calls Try.prog 69 #[.int .i64 (sca k), pv pB] w fun e w' => e = .returned (pv (keyP k)) ∧ Below w.heap.size w w') := sTimes_any (sca k) pB
  have HB : Hid (∀ w, Calls Try.prog 92 #[] w fun e w' => e = .returned (pv pB) ∧ Below w.heap.size w w') := sBase_any
  generalize keyP k = K at HT ⊢
  generalize sca k = s at HO HT
  generalize pB = B at HT HB
  go_enter Try.func50, Try.ntmps50
  go_wp2_with fail
  obtain ⟨W, hW, hb, hr⟩ := box1 w 32 #[.int .i64 0, .int .i64 0, .bool false]
  rw [hW]
  clear hW
  refine (HO.out _).mono ?_
  rintro e w1 ⟨rfl, rfl⟩
  go_wp2_with fail
  refine (HB.out _).mono ?_
  rintro e w2 ⟨rfl, hb2⟩
  go_wp2_with fail
  refine (HT.out _).mono ?_
  rintro e w3 ⟨rfl, hb3⟩
  have hr3 := (hr.on hb2 hr.lt).on hb3 (by have := hb2.size; have := hr.lt; omega)
  have hB3 := below_then (below_then hb hb2) hb3
  clear hb hb2 hb3 hr
  go_wp2_with (refine store_blk (cs' := pc K) rfl rfl rfl rfl rfl hr3 infoP rfl (ones3 _ _ _) ?_; intro V h5 hoth hbel; have hbV := hbel _ _ (by omega) hB3; clear hoth hbel)
  refine bodyPost_ret_by (result_blk rfl rfl h5 Try.underlying32 infoP) rfl ⟨rfl, hbV⟩

end Go.Proofs.Ytbkfdafdchjakab

/-
  A region that draws its order, where two operations are ready at once: each way, to one end.
-/
namespace Go.Proofs.Ytbkfdafdchjakab
open Go.RowKit

section
variable {P : Program} {ops : Array Oper} {S : World → Prop} {Q : Exit → Act → World → Prop} {R : Act → World → Prop}

/-- An operation with a value that is told. -/
theorem ord_told {k : Nat} {r : List (Nat × Bool)} {a : Act} {w : World} {o : Oper} (v : Value) (ho : ops[k]? = some o) (hy : YieldsIf P ops S o v a)
    (h : ∀ K : Act → Prop, (∀ a, wpOrd P ops Q S R r a w → K a) → K (a.put o.dst v)) : wpOrd P ops Q S R ((k, false) :: r) a w :=
  ⟨o, v, ho, hy, h _ (fun _ h => h)⟩

/-- Two chains, i then i', and j: in whatever order, to one end. -/
theorem anyH_fork3 {n i i' j : Nat} {L0 : Array Bool} {a : Act} {w : World} {F : Nat → Nat → Act} (G : Nat → Nat → World → Prop) (L3 : Array Bool)
    (hB : (Region.noSelect ops && decide (Region.ready .any ops L0 = [i, j]) && decide (Region.ready .any ops (L0.setIfInBounds i true) = [i', j]) && decide (ordTo ops [(j, true)] ((L0.setIfInBounds i true).setIfInBounds i' true) = some L3) && decide (ordTo ops [(i', true)] ((L0.setIfInBounds i true).setIfInBounds j true) = some L3) && decide (ordTo ops [(i, true), (i', true)] (L0.setIfInBounds j true) = some L3)) = true)
    (h1 : wpOrd P ops Q S (fun a' w' => S w' ∧ wpOrd P ops Q S (fun a' w' => ∃ g1 g2, a' = F g1 g2 ∧ G g1 g2 w') [(i', true), (j, true)] a' w' ∧ wpOrd P ops Q S (fun a' w' => ∃ g1 g2, a' = F g1 g2 ∧ G g1 g2 w') [(j, true), (i', true)] a' w') [(i, true)] a w)
    (h2 : wpOrd P ops Q S (fun a' w' => ∃ g1 g2, a' = F g1 g2 ∧ G g1 g2 w') [(j, true), (i, true), (i', true)] a w)
    (hK : ∀ g1 g2 w', G g1 g2 w' → wpAnyH P .any ops (NoPanic Q) S n L3 (F g1 g2) w') : wpAnyH P .any ops (NoPanic Q) S (n + 3) L0 a w := by
  simp only [Bool.and_eq_true, decide_eq_true_eq] at hB
  obtain ⟨⟨⟨⟨⟨hs, h0⟩, hi⟩, hij⟩, hji⟩, hj⟩ := hB
  have up : ∀ (order : List (Nat × Bool)) (a : Act) (w : World), wpOrd P ops Q S (fun a' w' => ∃ g1 g2, a' = F g1 g2 ∧ G g1 g2 w') order a w → wpOrd P ops Q S (fun a w => wpAnyH P .any ops (NoPanic Q) S n L3 a w) order a w := by
    intro order
    induction order with
    | nil =>
      rintro a w ⟨g1, g2, rfl, hG⟩
      exact hK g1 g2 w hG
    | cons x r ih =>
      obtain ⟨k, b⟩ := x
      cases b
      · rintro a w ⟨o, v, ho, hy, hr⟩
        exact ⟨o, v, ho, hy, ih _ _ hr⟩
      · intro a w h
        exact wpOp_mono (fun a' w' ⟨h1, h2⟩ => ⟨h1, ih _ _ h2⟩) h
  refine wpAnyH_all h0 (by simp) fun k hk => ?_
  simp only [List.mem_cons, List.not_mem_nil, or_false] at hk
  rcases hk with rfl | rfl
  · refine wpOp_mono (fun a' w' ⟨hS, _, ha, hb⟩ => ⟨hS, ?_⟩) h1
    refine wpAnyH_all hi (by simp) fun k' hk' => ?_
    simp only [List.mem_cons, List.not_mem_nil, or_false] at hk'
    rcases hk' with rfl | rfl
    · exact wpOp_mono (fun a2 w2 ⟨hS2, h⟩ => ⟨hS2, anyH_of_to hs [(_, true)] n _ _ a2 w2 hij hS2 (up _ _ _ h)⟩) ha
    · exact wpOp_mono (fun a2 w2 ⟨hS2, h⟩ => ⟨hS2, anyH_of_to hs [(_, true)] n _ _ a2 w2 hji hS2 (up _ _ _ h)⟩) hb
  · exact wpOp_mono (fun a2 w2 ⟨hS2, h⟩ => ⟨hS2, anyH_of_to hs [(_, true), (_, true)] n _ _ a2 w2 hj hS2 (up _ _ _ h)⟩) h2

end
end Go.Proofs.Ytbkfdafdchjakab

/-
  A store into a struct's block in a region that draws its order: all other blocks are told. Two chains beside one another, with three values at their end.
-/
namespace Go.Proofs.Ytbkfdafdchjakab
open Go.RowKit

section
variable {P : Program} {ops : Array Oper} {S : World → Prop} {Q : Exit → Act → World → Prop} {R : Act → World → Prop}

theorem ord_storeS {k : Nat} {r : List (Nat × Bool)} {a : Act} {w : World} {o : Oper} (ho : ops[k]? = some o) (hw : Region.wanted o (yielded ops a.tmps) = true) (hd : o.dst = none) {t : TypeId} {p v : Operand} (hop : o.op = Op.store t p v)
    {g : Nat} {t' : TypeId} {cs cs' : Array Value} (hp : a.eval p = .pointer (some ⟨g, 0, none⟩)) (hv : a.eval v = .agg cs') (h : Blk w g t' cs) (hi : (P.info? t).map (·.size) = some cs'.size) (hz : cs.size = cs'.size) (h1 : cs'.all (·.oneCell') = true)
    (K : ∀ w', Blk w' g t' cs' → (∀ k, k ≠ g → w'.heap[k]? = w.heap[k]?) → (∀ g' t'' cs'', g ≠ g' → Blk w g' t'' cs'' → Blk w' g' t'' cs'') → (∀ B w0, B ≤ g → Below B w0 w → Below B w0 w') → S w' ∧ wpOrd P ops Q S R r a w') : wpOrd P ops Q S R ((k, true) :: r) a w := by
  show wpOp P ops (NoPanic Q) k _ a w
  unfold wpOp
  simp only [ho]
  rw [if_pos hw]
  refine .inl ?_
  have hrun : (Instr.storeAt t (.pointer (some ⟨g, 0, none⟩)) (.agg cs')).run P w = .ok () (w.setRow g cs') := by
    simp only [Instr.storeAt, Instr.sureAddr, Sem.run_bind, Sem.run_pure, Result.andThen]
    exact h.store hi hz h1
  unfold Oper.wp
  simp [execOp, hop, hp, hv, hrun, Result.andThen]
  simp only [Oper.upon]
  rw [show a.put o.dst undef = a by rw [hd]; rfl]
  exact K _ (h.row cs') (fun k hk => by simp only [World.setRow]; rw [Array.getElem?_modify, if_neg (fun e => hk e.symm)]) (fun g' t'' cs'' hne h' => h'.rowOther hne _) (fun _ _ hB hb => below_setRow hb hB _)

/-- Two chains, i then i', and j (which is listed ahead of both): in whatever order, to one end. -/
theorem anyH_fork3v {n i i' j : Nat} {L0 : Array Bool} {a : Act} {w : World} {F : Value → Value → Value → Act} (G : Value → Value → Value → World → Prop) (L3 : Array Bool)
    (hB : (Region.noSelect ops && decide (Region.ready .any ops L0 = [j, i]) && decide (Region.ready .any ops (L0.setIfInBounds i true) = [j, i']) && decide (ordTo ops [(j, true)] ((L0.setIfInBounds i true).setIfInBounds i' true) = some L3) && decide (ordTo ops [(i', true)] ((L0.setIfInBounds i true).setIfInBounds j true) = some L3) && decide (ordTo ops [(i, true), (i', true)] (L0.setIfInBounds j true) = some L3)) = true)
    (h1 : wpOrd P ops Q S (fun a' w' => S w' ∧ wpOrd P ops Q S (fun a' w' => ∃ x y z, a' = F x y z ∧ G x y z w') [(i', true), (j, true)] a' w' ∧ wpOrd P ops Q S (fun a' w' => ∃ x y z, a' = F x y z ∧ G x y z w') [(j, true), (i', true)] a' w') [(i, true)] a w)
    (h2 : wpOrd P ops Q S (fun a' w' => ∃ x y z, a' = F x y z ∧ G x y z w') [(j, true), (i, true), (i', true)] a w)
    (hK : ∀ x y z w', G x y z w' → wpAnyH P .any ops (NoPanic Q) S n L3 (F x y z) w') : wpAnyH P .any ops (NoPanic Q) S (n + 3) L0 a w := by
  simp only [Bool.and_eq_true, decide_eq_true_eq] at hB
  obtain ⟨⟨⟨⟨⟨hs, h0⟩, hi⟩, hij⟩, hji⟩, hj⟩ := hB
  have up : ∀ (order : List (Nat × Bool)) (a : Act) (w : World), wpOrd P ops Q S (fun a' w' => ∃ x y z, a' = F x y z ∧ G x y z w') order a w → wpOrd P ops Q S (fun a w => wpAnyH P .any ops (NoPanic Q) S n L3 a w) order a w := by
    intro order
    induction order with
    | nil =>
      rintro a w ⟨x, y, z, rfl, hG⟩
      exact hK x y z w hG
    | cons x r ih =>
      obtain ⟨k, b⟩ := x
      cases b
      · rintro a w ⟨o, v, ho, hy, hr⟩
        exact ⟨o, v, ho, hy, ih _ _ hr⟩
      · intro a w h
        exact wpOp_mono (fun a' w' ⟨h1, h2⟩ => ⟨h1, ih _ _ h2⟩) h
  refine wpAnyH_all h0 (by simp) fun k hk => ?_
  simp only [List.mem_cons, List.not_mem_nil, or_false] at hk
  rcases hk with rfl | rfl
  · exact wpOp_mono (fun a2 w2 ⟨hS2, h⟩ => ⟨hS2, anyH_of_to hs [(_, true), (_, true)] n _ _ a2 w2 hj hS2 (up _ _ _ h)⟩) h2
  · refine wpOp_mono (fun a' w' ⟨hS, _, ha, hb⟩ => ⟨hS, ?_⟩) h1
    refine wpAnyH_all hi (by simp) fun k' hk' => ?_
    simp only [List.mem_cons, List.not_mem_nil, or_false] at hk'
    rcases hk' with rfl | rfl
    · exact wpOp_mono (fun a2 w2 ⟨hS2, h⟩ => ⟨hS2, anyH_of_to hs [(_, true)] n _ _ a2 w2 hji hS2 (up _ _ _ h)⟩) hb
    · exact wpOp_mono (fun a2 w2 ⟨hS2, h⟩ => ⟨hS2, anyH_of_to hs [(_, true)] n _ _ a2 w2 hij hS2 (up _ _ _ h)⟩) ha

end
end Go.Proofs.Ytbkfdafdchjakab
