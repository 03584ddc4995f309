/-
  Texts of one's own, joined.
-/
import Derived.Test.YtbkfdafdchjakaaJoined9
import Derived.Test.YtbkfdafdchjakaaJoined6
import Derived.Test.YtbkfdafdchjakaaJoined17
import Derived.Test.YtbkfdafdchjakaaJoined18
import Derived.Test.YtbkfdafdchjakaaJoined8
import Derived.Test.YtbkfdafdchjakaaJoined15
import Derived.Maps.AppendAt
import Derived.Test.YtbkfdafdchjakaaPrfMath2

/-
  A region that draws its order and ends with a store into a struct's block.
-/
namespace Go.Proofs.Ytbkfdafdchjakaa
open Go.RowKit

section
variable {P : Program} {ops : Array Oper} {Q : Exit → Act → World → Prop} {s : Nat}

theorem last_storeB {K : Act → World → Prop} {a : Act} {w : World} {o : Oper} (ho : ops[s]? = some o) (hw : Region.wanted o (yielded ops a.tmps) = true) (hd : o.dst = none) {t : TypeId} {p v : Operand} (hop : o.op = Op.store t p v)
    {g : Nat} {t' : TypeId} {cs cs' : Array Value} (hp : a.eval p = .pointer (some ⟨g, 0, none⟩)) (hv : a.eval v = .agg cs') (h : Blk w g t' cs) (hi : (P.info? t).map (·.size) = some cs'.size) (hz : cs.size = cs'.size) (h1 : cs'.all (·.oneCell') = true)
    (hK : ∀ w', Blk w' g t' cs' → (∀ k, k ≠ g → w'.heap[k]? = w.heap[k]?) → (∀ g' t'' cs'', g ≠ g' → Blk w g' t'' cs'' → Blk w' g' t'' cs'') → (∀ B w0, B ≤ g → Below B w0 w → Below B w0 w') → K a w') : wpOp P ops (NoPanic Q) s K a w := by
  have hrun : (Instr.storeAt t (.pointer (some ⟨g, 0, none⟩)) (.agg cs')).run P w = .ok () (w.setRow g cs') := by
    simp only [Instr.storeAt, Instr.sureAddr, Sem.run_bind, Sem.run_pure, Result.andThen]
    exact h.store hi hz h1
  refine last_store ho hw hd (w.setRow g cs') (by simp [execOp, hop, hp, hv, hrun, Result.andThen]) ?_
  exact hK _ (h.row cs') (fun k hk => by simp only [World.setRow]; rw [Array.getElem?_modify, if_neg (fun e => hk e.symm)]) (fun g' t'' cs'' hne h' => h'.rowOther hne _) (fun _ _ hB hb => below_setRow hb hB _)

end
end Go.Proofs.Ytbkfdafdchjakaa

/-
  Rows of points that are owned.
-/
namespace Go.Proofs.Ytbkfdafdchjakaa
open Go.RowKit

/-- The cells of a list of points. -/
def ptsV (l : List Pt) : List Value := l.flatMap fun P => [.int .i64 P.1, .int .i64 P.2.1, .bool P.2.2]

theorem ptsV_append (a b : List Pt) : ptsV (a ++ b) = ptsV a ++ ptsV b := by simp [ptsV]

theorem ptsV_at : ∀ (l : List Pt) (j i : Nat), j < l.length → i < 3 → (ptsV l)[j * 3 + i]? = (pc (l.getD j pZ))[i]?
  | P :: l, 0, i, _, hi => by
    show ([.int .i64 P.1, .int .i64 P.2.1, .bool P.2.2] ++ ptsV l)[0 * 3 + i]? = _
    rw [List.getElem?_append_left (by simp; omega)]
    match i, hi with
    | 0, _ => rfl
    | 1, _ => rfl
    | 2, _ => rfl
  | P :: l, j + 1, i, hj, hi => by
    show ([.int .i64 P.1, .int .i64 P.2.1, .bool P.2.2] ++ ptsV l)[(j + 1) * 3 + i]? = _
    rw [List.getElem?_append_right (by simp; omega)]
    have := ptsV_at l j i (by simpa using hj) hi
    rw [show (j + 1) * 3 + i - [Value.int .i64 P.1, .int .i64 P.2.1, .bool P.2.2].length = j * 3 + i by simp; omega, this]
    simp

/-- A value is a list of these points, owned from B on. -/
def RowP (B : Nat) (w : World) (v : Value) (l : List Pt) : Prop := w.ownsRow B 35 3 v l.length (ptsV l)

theorem RowP.pts {B : Nat} {w : World} {v : Value} {l : List Pt} (h : RowP B w v l) : ∃ a cp, v = .slice a l.length cp ∧ PtsAt w a l.length w.heap.size (fun j => l.getD j pZ) := by
  rcases h.2 with ⟨rfl, h0⟩ | ⟨g, cp, cur, rfl, hg, hh, hrest⟩
  · exact ⟨none, 0, by rw [h0], fun j hj => by omega⟩
  · refine ⟨_, cp, rfl, fun j hj => ⟨g, 0, rfl, ?_, ?_, ?_, ?_⟩⟩
    · have hc := h.cellAt (j * 3 + 0) (by omega)
      rw [ptsV_at l j 0 hj (by omega)] at hc
      exact World.block_lt_of_cell? w _ hc
    · have hc := h.cellAt (j * 3 + 0) (by omega)
      rw [ptsV_at l j 0 hj (by omega)] at hc
      rw [Nat.zero_add]
      exact hc
    · have hc := h.cellAt (j * 3 + 1) (by omega)
      rw [ptsV_at l j 1 hj (by omega)] at hc
      rw [Nat.zero_add]
      exact hc
    · have hc := h.cellAt (j * 3 + 2) (by omega)
      rw [ptsV_at l j 2 hj (by omega)] at hc
      rw [Nat.zero_add]
      exact hc

theorem infoPz : (Try.prog.info? 35).map (fun i => (i.zero, i.size, i.bytes)) = some (some (.agg #[.int .i64 0, .int .i64 0, .bool false]), 3, 24) := by kernel_rfl

theorem cell_three_new (w : World) (x y z : Value) (t : TypeId) : ∀ j u, [x, y, z][j]? = some u → (w.alloc (.cells #[x, y, z] t)).cell? ((⟨w.heap.size, 0, none⟩ : Addr).add j) = some u := by
  intro j u hj
  rw [Addr.add_lit, Nat.zero_add, cell_of_row _ w.heap.size j #[x, y, z] t (0, 0) (heap_alloc_new w _)]
  simpa using hj

theorem three_cell (a b : Int) (c : Bool) : ∀ u ∈ [Value.int .i64 a, Value.int .i64 b, Value.bool c], u.oneCell' = true := by
  intro u hu
  simp at hu
  rcases hu with rfl | rfl | rfl <;> rfl

end Go.Proofs.Ytbkfdafdchjakaa

/-
  The walks of the program's sums: a point and others so often each; numbers, each so often the base.
  (-DROP-: what the seat lacks is left out.)
-/
namespace Go.Proofs.Ytbkfdafdchjakaa
open Go.RowKit

set_option maxHeartbeats 1600000 in
set_option maxRecDepth 100000 in
theorem iWith_any (S0 : Pt) (am : Option Addr) (ml cm : Nat) (t : Nat → Int) (a : Option Addr) (n cp : Nat) (hmn : ml ≤ n) (hn : n ≤ 1048576) (f : Nat → Pt) (w : World) (hB : IntsAt w am ml w.heap.size t) (hA : PtsAt w a n w.heap.size f) :
    Calls Try.prog 65 #[pv S0, .slice am ml cm, .slice a n cp] w fun e w' => e = .returned (pv (wEach S0 t f ml)) ∧ Below w.heap.size w w' := by
  obtain ⟨W, hW, hb, hs, hr⟩ := boxes1r w 35 35 (pc S0) #[.int .i64 0, .int .i64 0, .bool false]
  have HA : Hid (PtsAt w a n w.heap.size f) := hA
  have HB : Hid (IntsAt w am ml w.heap.size t) := hB
  have HW0 : Hid (Blk W w.heap.size 35 (pc (wEach S0 t f 0)) ∧ Blk W (w.heap.size + 1) 35 #[.int .i64 0, .int .i64 0, .bool false] ∧ Below w.heap.size w W) := ⟨hs, hr, hb⟩
  have hl1 : w.heap.size + 1 < W.heap.size := hr.lt
  clear hA hB hs hr hb
  unfold pc at hW
  unfold pv
  go_enter Try.func65, Try.ntmps65
  go_wp2
  clear hW
  go_loopw [11] (fun i wr => ∃ k : Nat, i = .int .i64 (k : Int) ∧ k ≤ ml ∧ Hid (Blk wr w.heap.size 35 (pc (wEach S0 t f k)) ∧ Blk wr (w.heap.size + 1) 35 #[.int .i64 0, .int .i64 0, .bool false] ∧ Below w.heap.size w wr)) (fun i _ => ml - (intOf i).toNat)
  case atStart => exact ⟨0, rfl, Nat.zero_le _, HW0⟩
  case round =>
    obtain ⟨k, rfl, hkm, HW⟩ := hrel
    clear HW0
    by_cases hlm : k < ml
    · have hlm' : (k : Int) < (ml : Int) := by omega
      have hk0 : (0 : Int) ≤ (k : Int) := by omega
      have hlt : k < n := by omega
      have hlt' : (k : Int) < (n : Int) := by omega
      have hA1 := HA.out.on HW.out.2.2
      obtain ⟨b, off, rfl, hb, z0, z1, z2⟩ := hA1 k hlt
      obtain ⟨b2, o2, rfl, hb2, c2⟩ := (HB.out.on HW.out.2.2) k hlm
      have hs3 := HW.out.1
      have hr3 := HW.out.2.1
      have hB3 := HW.out.2.2
      have hbl : b < w.heap.size := hb
      have CT : Hid (∀ w, Calls Try.prog 24 #[.int .i64 (t k), pv (f k)] w fun e w' => e = .returned (pv (pTimes (t k) (f k))) ∧ Below w.heap.size w w') := iTimes_any (t k) (f k)
      have HS : Hid (∀ w, Calls Try.prog 92 #[pv (wEach S0 t f k), pv (pTimes (t k) (f k))] w fun e w' => e = .returned (pv (wEach S0 t f (k + 1))) ∧ Below w.heap.size w w') := iPAdd_any _ _
      generalize wEach S0 t f k = S at HS hs3
      obtain ⟨S2, hS2⟩ : ∃ S2, S2 = wEach S0 t f (k + 1) := ⟨_, rfl⟩
      rw [← hS2] at HS
      have HE : Hid (S2 = wEach S0 t f (k + 1)) := hS2
      clear hS2
      generalize pTimes (t k) (f k) = PT at HS CT
      generalize f k = F at CT z0 z1 z2
      generalize t k = y at CT c2
      unfold pv at HS CT
      unfold pc at hs3
      have Z : Hid (∀ w', Below wr.heap.size wr w' → w'.cell? ⟨b, off + k * 3, none⟩ = some (.int .i64 F.1) ∧ w'.cell? ⟨b, off + k * 3 + 1, none⟩ = some (.int .i64 F.2.1) ∧ w'.cell? ⟨b, off + k * 3 + 2, none⟩ = some (.bool F.2.2)) := fun w' hw => ⟨(hw.cell (p := ⟨b, off + k * 3, none⟩) (by show b < _; have := hB3.size; omega)).trans z0, (hw.cell (p := ⟨b, off + k * 3 + 1, none⟩) (by show b < _; have := hB3.size; omega)).trans z1, (hw.cell (p := ⟨b, off + k * 3 + 2, none⟩) (by show b < _; have := hB3.size; omega)).trans z2⟩
      have T0 : Below wr.heap.size wr wr.drew := (Below.refl _ _).drew
      clear HW hA1 hb z0 z1 z2
      go_wp2_with fail
      refine wp_region_last [(0, false), (1, false), (2, false), (3, false), (4, false), (5, false), (6, true), (7, true)] 8 (fun wz => Below wr.heap.size wr wz) mixes (by kernel_rfl) T0 ?_
      repeat (refine ord_float rfl rfl (fun K hK => ⟨_, (fun w' hw => by have q0 := (hs3.on hw hs3.lt).cell 0; have q1 :=  (hs3.on hw hs3.lt).cell 1; have q2 :=  (hs3.on hw hs3.lt).cell 2; have q3 :=  (Z.out _ hw).1; have q4 :=  (Z.out _ hw).2.1; have q5 :=  (Z.out _ hw).2.2; go_simp; exact rfl), ?_⟩); go_simp; refine hK _ ?_; clear hK K)
      refine ord_call rfl rfl (fun K hK => ⟨_, _, (by go_simp <;> first | exact rfl | exact ⟨rfl, rfl⟩), ?_⟩)
      refine (CT.out _).mono ?_
      rintro e u1 ⟨rfl, hu1⟩
      have T1 := below_then T0 hu1
      refine ⟨_, rfl, T1, ?_⟩
      go_simp
      refine hK _ _ ?_
      clear hK K
      refine ord_call rfl rfl (fun K hK => ⟨_, _, (by go_simp <;> first | exact rfl | exact ⟨rfl, rfl⟩), ?_⟩)
      refine (HS.out _).mono ?_
      rintro e u2 ⟨rfl, hu2⟩
      have T2 := below_then T1 hu2
      refine ⟨_, rfl, T2, ?_⟩
      go_simp
      refine hK _ _ ?_
      clear hK K
      refine ord_nil ?_
      have hs4 := hs3.on T2 hs3.lt
      have hr4 := hr3.on T2 hr3.lt
      have hB4 := below_then hB3 T2
      refine last_storeB (cs' := #[.int .i64 S2.1, .int .i64 S2.2.1, .bool S2.2.2]) rfl rfl rfl rfl rfl rfl hs4 infoP rfl (ones3 _ _ _) ?_
      intro V hs5 _ hoth hbel
      have hr5 := hoth _ _ _ (by omega) hr4
      have hB5 := hbel _ _ (by omega) hB4
      clear hoth hbel hs4 hr4 hB4 hs3 hr3 hB3 T0 T1 T2 hu1 hu2 Z CT HS
      go_wp2
      go_roundw
      case rel => exact ⟨k + 1, by go_num, hlm, ⟨by rw [← HE.out]; exact hs5, hr5, hB5⟩⟩
      case measure => simp [intOf]; omega
    · have hlm' : ¬ (k : Int) < (ml : Int) := by omega
      have HK : Hid (k = ml) := (show k = ml by omega)
      have hs3 := HW.out.1
      have hr3 := HW.out.2.1
      have hB3 := HW.out.2.2
      clear HW
      go_wp2_with (first | (refine load_blk rfl rfl rfl hs3 Try.underlying35 infoP ?_) | (refine store_blk (cs' := pc (wEach S0 t f k)) rfl rfl rfl rfl rfl hr3 infoP rfl (ones3 _ _ _) ?_; intro V h5 hoth hbel; have hbV := hbel _ _ (by omega) hB3; clear hoth hbel))
      refine bodyPost_ret_by (result_blk rfl rfl h5 Try.underlying35 infoP) rfl ⟨by rw [← HK.out]; rfl, hbV⟩

/-- Numbers, each so often the base. -/
def gxL (l : List Int) : List Pt := l.map gx
theorem gxL_len (l : List Int) : (gxL l).length = l.length := by simp [gxL]
theorem gxL_at (l : List Int) {j : Nat} (h : j < l.length) : (gxL l).getD j pZ = gx (l.getD j 0) := by simp [gxL, h]
theorem gxL_next (l : List Int) {k : Nat} (h : k < l.length) : gxL (l.take (k + 1)) = gxL (l.take k) ++ [gx (l.getD k 0)] := by
  have e : l.getD k 0 = l[k] := by simp [h]
  unfold gxL
  rw [List.take_succ_eq_append_getElem h, List.map_append, e]
  rfl

set_option maxHeartbeats 1600000 in
set_option maxRecDepth 100000 in
theorem iEachB_any (am : Option Addr) (cm : Nat) (m : List Int) (hm : m.length ≤ 1000) (w : World) (hB : IntsAt w am m.length w.heap.size (fun j => m.getD j 0)) :
    Calls Try.prog 26 #[.slice am m.length cm] w fun e w' => ∃ v, e = .returned v ∧ RowP w.heap.size w' v (gxL m) ∧ Below w.heap.size w w' := by
  obtain ⟨i0, hi, hz0, hz1, hz2⟩ := info_parts infoPz
  have HB : Hid (IntsAt w am m.length w.heap.size (fun j => m.getD j 0)) := hB
  have HBa : Hid (∀ w, Calls Try.prog 25 #[] w fun e w' => e = .returned (.agg #[.int .i64 8445, .int .i64 859, .bool false]) ∧ Below w.heap.size w w') := iBase_any
  obtain ⟨ml, hml⟩ : ∃ ml, ml = m.length := ⟨_, rfl⟩
  have HM : Hid (m.length = ml) := hml.symm
  rw [← hml] at HB hm ⊢
  clear hB hml
  obtain ⟨W, hW, hb, _⟩ := box1 w 35 #[]
  have H0 : Hid (RowP w.heap.size W (.slice (some ⟨w.heap.size, 0, none⟩) 0 0) [] ∧ Below w.heap.size w W) := by
    refine ⟨?_, hb⟩
    have h := World.ownsRow_lit (base := w.heap.size) (e := 35) (size := 3) w #[] 0 (by simp) (by simp [maxLen]) (by simp)
    rw [hW] at h
    have h' : W.ownsRow w.heap.size 35 3 (.slice (some ⟨w.heap.size, 0, none⟩) 0 0) 0 [] := by simpa using h
    exact h'
  clear hb
  go_enter Try.func26, Try.ntmps26
  go_wp2
  clear hW
  go_loopw [3, 9] (fun v i wr => ∃ (u : Value) (k : Nat), u = v ∧ i = .int .i64 (k : Int) ∧ k ≤ ml ∧ wr.ownsRow w.heap.size 35 3 u (gxL (m.take k)).length (ptsV (gxL (m.take k))) ∧ Hid (Below w.heap.size w wr)) (fun _ i _ => ml - (intOf i).toNat)
  case atStart => exact ⟨_, 0, rfl, rfl, Nat.zero_le _, H0.out.1, H0.out.2⟩
  case round =>
    obtain ⟨v, k, rfl, rfl, hk, hown, HW⟩ := hrel
    clear H0
    have hlk : (gxL (m.take k)).length = k := by rw [gxL_len, List.length_take, HM.out]; omega
    by_cases hlt : k < ml
    · have hlt' : (k : Int) < (ml : Int) := by omega
      have hk0 : (0 : Int) ≤ (k : Int) := by omega
      have hm63 : (gxL (m.take k)).length + 1 ≤ maxLen := by rw [hlk]; unfold maxLen; omega
      have hm47 : ((gxL (m.take k)).length + 1) * 24 ≤ 140737488355328 := by rw [hlk]; omega
      obtain ⟨b2, o2, rfl, hb2, c2⟩ := (HB.out.on HW.out) k hlt
      replace c2 : wr.cell? ⟨b2, o2 + k, none⟩ = some (.int .i64 (m.getD k 0)) := c2
      have CT : Hid (∀ w, Calls Try.prog 24 #[.int .i64 (m.getD k 0), .agg #[.int .i64 8445, .int .i64 859, .bool false]] w fun e w' => e = .returned (pv (gx (m.getD k 0))) ∧ Below w.heap.size w w') := fun w => by
        have h := iTimes_any (m.getD k 0) pB w
        rw [key_times] at h
        exact h
      have HKN : Hid (gxL (m.take (k + 1)) = gxL (m.take k) ++ [gx (m.getD k 0)]) := gxL_next m (by rw [HM.out]; exact hlt)
      generalize gx (m.getD k 0) = P at CT HKN
      generalize m.getD k 0 = y at CT c2
      unfold pv at CT
      have hB0 := HW.out
      clear hlk HW
      go_wp2_with fail
      clear c2
      refine (HBa.out _).mono ?_
      rintro e w4 ⟨rfl, hb4⟩
      go_wp2_with fail
      refine (CT.out _).mono ?_
      rintro e w5 ⟨rfl, hb5⟩
      have hb45 := below_then hb4 hb5
      have hown5 := owns_on hown hb45
      have hB5 := hB0.trans (hb45.mono hB0.size)
      have hsz : w.heap.size ≤ w5.heap.size := hB5.size
      clear hown hb4 hb5 hb45 hB0 CT
      go_wp2_with (at_builtin; refine wpList_append_own_at _ rfl _ _ 36 rfl w.heap.size 35 i0 (.agg #[.int .i64 0, .int .i64 0, .bool false]) 3 24 Try.underlying36 hi hz0 hz1 hz2 rfl (by decide) _ _ _ rfl (hown5.alloc _) ⟨w5.heap.size, 0, none⟩ 1 1 [.int .i64 P.1, .int .i64 P.2.1, .bool P.2.2] rfl rfl (cell_three_new _ _ _ _ _) (three_cell _ _ _) hm63 hm47 (room_for hsz _) ?_)
      intro v' w7 hown' hgrow _ hat
      have R7 : w7.ownsRow w.heap.size 35 3 v' (gxL (m.take (k + 1))).length (ptsV (gxL (m.take (k + 1)))) := by
        rw [HKN.out, ptsV_append, List.length_append]; exact hown'
      have hB7 : Hid (Below w.heap.size w w7) := (hB5.alloc hB5.size _).grown hgrow (by simp; omega) (fun k hk => (hown5.lt k hk).1)
      clear hown' hgrow hat hown5 hB5 hm63 hm47 HKN
      go_wp2
      go_roundw
      case rel => exact ⟨v', k + 1, by trivial, by go_num, hlt, R7, hB7⟩
      case measure => simp [intOf]; omega
    · have hlt' : ¬ (k : Int) < (ml : Int) := by omega
      have HF : Hid (RowP w.heap.size wr v (gxL m)) := by
        show RowP _ _ _ _
        have e : m.take k = m := by rw [show k = ml by omega, ← HM.out, List.take_length]
        rw [e] at hown
        exact hown
      clear hown hlk
      go_wp2
      go_ret
      exact ⟨_, rfl, HF.out, HW.out⟩

end Go.Proofs.Ytbkfdafdchjakaa

/-
  The walk of points, each so often, put together by the specification.
  (-DROP-: what the seat lacks is left out.)
-/
namespace Go.Proofs.Ytbkfdafdchjakaa
open Go.RowKit

end Go.Proofs.Ytbkfdafdchjakaa

/-
  A region that draws its order, where two operations are ready at once: each way, to one end.
-/
namespace Go.Proofs.Ytbkfdafdchjakaa
open Go.RowKit

section
variable {P : Program} {ops : Array Oper} {S : World → Prop} {Q : Exit → Act → World → Prop} {R : Act → World → Prop}

/-- An operation with a value that is told. -/
theorem ord_told {k : Nat} {r : List (Nat × Bool)} {a : Act} {w : World} {o : Oper} (v : Value) (ho : ops[k]? = some o) (hy : YieldsIf P ops S o v a)
    (h : ∀ K : Act → Prop, (∀ a, wpOrd P ops Q S R r a w → K a) → K (a.put o.dst v)) : wpOrd P ops Q S R ((k, false) :: r) a w :=
  ⟨o, v, ho, hy, h _ (fun _ h => h)⟩

/-- Two chains, i then i', and j: in whatever order, to one end. -/
theorem anyH_fork3 {n i i' j : Nat} {L0 : Array Bool} {a : Act} {w : World} {F : Nat → Nat → Act} (G : Nat → Nat → World → Prop) (L3 : Array Bool)
    (hB : (Region.noSelect ops && decide (Region.ready .any ops L0 = [i, j]) && decide (Region.ready .any ops (L0.setIfInBounds i true) = [i', j]) && decide (ordTo ops [(j, true)] ((L0.setIfInBounds i true).setIfInBounds i' true) = some L3) && decide (ordTo ops [(i', true)] ((L0.setIfInBounds i true).setIfInBounds j true) = some L3) && decide (ordTo ops [(i, true), (i', true)] (L0.setIfInBounds j true) = some L3)) = true)
    (h1 : wpOrd P ops Q S (fun a' w' => S w' ∧ wpOrd P ops Q S (fun a' w' => ∃ g1 g2, a' = F g1 g2 ∧ G g1 g2 w') [(i', true), (j, true)] a' w' ∧ wpOrd P ops Q S (fun a' w' => ∃ g1 g2, a' = F g1 g2 ∧ G g1 g2 w') [(j, true), (i', true)] a' w') [(i, true)] a w)
    (h2 : wpOrd P ops Q S (fun a' w' => ∃ g1 g2, a' = F g1 g2 ∧ G g1 g2 w') [(j, true), (i, true), (i', true)] a w)
    (hK : ∀ g1 g2 w', G g1 g2 w' → wpAnyH P .any ops (NoPanic Q) S n L3 (F g1 g2) w') : wpAnyH P .any ops (NoPanic Q) S (n + 3) L0 a w := by
  simp only [Bool.and_eq_true, decide_eq_true_eq] at hB
  obtain ⟨⟨⟨⟨⟨hs, h0⟩, hi⟩, hij⟩, hji⟩, hj⟩ := hB
  have up : ∀ (order : List (Nat × Bool)) (a : Act) (w : World), wpOrd P ops Q S (fun a' w' => ∃ g1 g2, a' = F g1 g2 ∧ G g1 g2 w') order a w → wpOrd P ops Q S (fun a w => wpAnyH P .any ops (NoPanic Q) S n L3 a w) order a w := by
    intro order
    induction order with
    | nil =>
      rintro a w ⟨g1, g2, rfl, hG⟩
      exact hK g1 g2 w hG
    | cons x r ih =>
      obtain ⟨k, b⟩ := x
      cases b
      · rintro a w ⟨o, v, ho, hy, hr⟩
        exact ⟨o, v, ho, hy, ih _ _ hr⟩
      · intro a w h
        exact wpOp_mono (fun a' w' ⟨h1, h2⟩ => ⟨h1, ih _ _ h2⟩) h
  refine wpAnyH_all h0 (by simp) fun k hk => ?_
  simp only [List.mem_cons, List.not_mem_nil, or_false] at hk
  rcases hk with rfl | rfl
  · refine wpOp_mono (fun a' w' ⟨hS, _, ha, hb⟩ => ⟨hS, ?_⟩) h1
    refine wpAnyH_all hi (by simp) fun k' hk' => ?_
    simp only [List.mem_cons, List.not_mem_nil, or_false] at hk'
    rcases hk' with rfl | rfl
    · exact wpOp_mono (fun a2 w2 ⟨hS2, h⟩ => ⟨hS2, anyH_of_to hs [(_, true)] n _ _ a2 w2 hij hS2 (up _ _ _ h)⟩) ha
    · exact wpOp_mono (fun a2 w2 ⟨hS2, h⟩ => ⟨hS2, anyH_of_to hs [(_, true)] n _ _ a2 w2 hji hS2 (up _ _ _ h)⟩) hb
  · exact wpOp_mono (fun a2 w2 ⟨hS2, h⟩ => ⟨hS2, anyH_of_to hs [(_, true), (_, true)] n _ _ a2 w2 hj hS2 (up _ _ _ h)⟩) h2

end
end Go.Proofs.Ytbkfdafdchjakaa
