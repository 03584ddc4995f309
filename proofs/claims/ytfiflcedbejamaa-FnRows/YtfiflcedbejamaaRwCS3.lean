/-
  The walk of the system of bits, the program's.
  (-DROP-: what the seat lacks is left out.)
-/
import Derived.Test.YtfiflcedbejamaaRwCS2
import Derived.Test.YtfiflcedbejamaaJoined23
import Derived.Test.YtfiflcedbejamaaOrdApp
import Derived.Test.YtfiflcedbejamaaOrdL
namespace Go.Proofs.Ytfiflcedbejamaa
open Go.RowKit

def hotL (k : Nat) : List Int := zls (hotF k) 11
def powL (b : Int) : List Int := zls (powF b 8) 11
/-- The lists of a row. -/
def rowLs (k : Nat) : List (List Int) := if k < 8 then [hotL (3 + k), hotL (3 + k), hotL (3 + k)] else if k = 8 then [hotL 0, powL 2, hotL 1] else [hotL 0, powL 1, hotL 2]
/-- The lists of so many rows. -/
def csN : Nat → List (List Int)
  | 0 => []
  | k + 1 => csN k ++ rowLs k
theorem rowLs_len (k : Nat) : (rowLs k).length = 3 := by
  unfold rowLs
  split
  · rfl
  · split <;> rfl
theorem csN_len : ∀ k, (csN k).length = k * 3
  | 0 => rfl
  | k + 1 => by rw [csN, List.length_append, csN_len k, rowLs_len]; omega
/-- The wire of a row, and the rule that makes it. -/
def wK (k : Nat) : Nat := if k < 8 then 3 + k else if k = 8 then 1 else 2
def fK (k : Nat) : Nat := if k < 8 then 69 else if k = 8 then 70 else 71
theorem rules_at {k : Nat} (hk : k < 10) : allRules[k * 2]? = some (.int .i64 (wK k : Int)) ∧ allRules[k * 2 + 1]? = some (.func (Fn.func (fK k)) #[] #[]) := by
  have h : k = 0 ∨ k = 1 ∨ k = 2 ∨ k = 3 ∨ k = 4 ∨ k = 5 ∨ k = 6 ∨ k = 7 ∨ k = 8 ∨ k = 9 := by omega
  rcases h with rfl | rfl | rfl | rfl | rfl | rfl | rfl | rfl | rfl | rfl <;> exact ⟨rfl, rfl⟩

theorem call_rule (k : Nat) (x : Int) (V : World) : Sem.run Try.prog (callFunc (fK k) #[.int .i64 x]) V = Result.ok (Next.enter (fK k) #[.int .i64 x]) V := by
  unfold fK
  split
  · go_simp
  · split <;> go_simp

/-- A row of three lists in blocks of their own. -/
def RowOf (w0 w : World) (g0 g1 g2 : Nat) (ls : List (List Int)) : Prop := ∃ f0 f1 f2, ls = [zls f0 11, zls f1 11, zls f2 11] ∧ Three w0 w g0 g1 g2 f0 f1 f2
theorem ruleRow_any (k : Nat) (hk : k < 10) (w : World) :
    Calls Try.prog (fK k) #[.int .i64 (wK k : Int)] w fun e w' => ∃ g0 g1 g2, e = .returned (row11 g0 g1 g2) ∧ RowOf w w' g0 g1 g2 (rowLs k) ∧ Below w.heap.size w w' := by
  by_cases h8 : k < 8
  · have e1 : fK k = 69 := if_pos h8
    have e2 : wK k = 3 + k := if_pos h8
    have e3 : rowLs k = [hotL (3 + k), hotL (3 + k), hotL (3 + k)] := if_pos h8
    rw [e1, e2, e3]
    refine (bitRow_any (3 + k) (by omega) w).mono ?_
    rintro e w' ⟨g0, g1, g2, h1, h2, h3⟩
    exact ⟨g0, g1, g2, h1, ⟨_, _, _, rfl, h2⟩, h3⟩
  · by_cases h9 : k = 8
    · subst h9
      refine (packedRow_any 1 (by decide) w).mono ?_
      rintro e w' ⟨g0, g1, g2, h1, h2, h3⟩
      exact ⟨g0, g1, g2, h1, ⟨_, _, _, rfl, h2⟩, h3⟩
    · have h10 : k = 9 := by omega
      subst h10
      refine (countRow_any 2 (by decide) w).mono ?_
      rintro e w' ⟨g0, g1, g2, h1, h2, h3⟩
      exact ⟨g0, g1, g2, h1, ⟨_, _, _, rfl, h2⟩, h3⟩

theorem nown_nil (sz e lo hi : Nat) (w : World) : NOwnV sz e lo hi w (.slice none 0 0) 0 [] [] := ⟨World.ownsRow_nil _ _ _ _, by simp, fun k hk => (by cases hk), fun j hj => (by omega), fun i j k h1 => (by omega), fun j k h1 => (by omega)⟩
theorem RowOf.alloc {w0 w : World} {g0 g1 g2 : Nat} {ls : List (List Int)} (h : RowOf w0 w g0 g1 g2 ls) (o : Obj) : RowOf w0 (w.alloc o) g0 g1 g2 ls := by
  obtain ⟨f0, f1, f2, e, p0, p1, p2, q0, q1, q2, r0, r1, r2⟩ := h
  exact ⟨f0, f1, f2, e, p0, p1, p2, q0, q1, q2, Blk.alloc r0 o, Blk.alloc r1 o, Blk.alloc r2 o⟩

theorem infoCr : (Try.prog.info? 54).map (·.size) = some 2 := by kernel_rfl
theorem onesCr (k : Int) (f : Nat) : (#[Value.int .i64 k, .func (Fn.func f) #[] #[]]).all (·.oneCell') = true := by simp [Value.oneCell']

/-- The three cells of a row. -/
def us3 (g0 g1 g2 : Nat) : List Value := [.slice (some ⟨g0, 0, none⟩) 11 11, .slice (some ⟨g1, 0, none⟩) 11 11, .slice (some ⟨g2, 0, none⟩) 11 11]
theorem us3_one (g0 g1 g2 : Nat) : ∀ u ∈ us3 g0 g1 g2, u.oneCell' = true := by
  intro u hu
  simp only [us3, List.mem_cons, List.not_mem_nil, or_false] at hu
  rcases hu with rfl | rfl | rfl <;> rfl
theorem zown11 {w : World} {g lo hi : Nat} {f : Nat → Int} (h : RowI w g 11 f) (hlo : lo ≤ g) (hhi : g < hi) : ZOwn lo hi w (.slice (some ⟨g, 0, none⟩) 11 11) (zls f 11) := by
  refine ⟨h.rowZ hlo (by omega), fun k hk => ?_⟩
  have e1 : some g = some k := hk
  injection e1 with e1
  omega
/-- A row is put behind. -/
theorem NOwnV.app3 {e lo hi n : Nat} {w0 w w' : World} {v v' : Value} {vs : List Value} {ls ns : List (List Int)} {g0 g1 g2 : Nat} (h : NOwnV 3 e lo hi w v n vs ls) (hr : w'.ownsRow lo e 3 v' (n + 1) (vs ++ us3 g0 g1 g2)) (hg : w.grownBy w' v.ownBlock) (hv : v'.ownBlock = v.ownBlock ∨ v'.ownBlock = some w.heap.size) (hq : RowOf w0 w g0 g1 g2 ns) (h0 : hi ≤ w0.heap.size) (hw : w0.heap.size ≤ w.heap.size) (hlo : lo ≤ hi) :
    NOwnV 3 e lo w'.heap.size w' v' (n + 1) (vs ++ us3 g0 g1 g2) (ls ++ ns) := by
  obtain ⟨f0, f1, f2, rfl, p0, p1, p2, q0, q1, q2, r0, r1, r2⟩ := hq
  refine h.app hr hg hv rfl (fun j hj => ?_) (fun i j k hi hj hij h1 h2 => ?_) (by omega) hlo hg.size (fun k hk => (hr.lt k hk).2)
  · have hj3 : j = 0 ∨ j = 1 ∨ j = 2 := by omega
    rcases hj3 with rfl | rfl | rfl
    · exact zown11 r0 (by omega) r0.lt
    · exact zown11 r1 (by omega) r1.lt
    · exact zown11 r2 (by omega) r2.lt
  · have hi3 : i = 0 ∨ i = 1 ∨ i = 2 := by omega
    have hj3 : j = 0 ∨ j = 1 ∨ j = 2 := by omega
    rcases hi3 with rfl | rfl | rfl <;> rcases hj3 with rfl | rfl | rfl <;> first | exact absurd rfl hij | (have e1 := Option.some.inj (show some _ = some _ from h1); have e2 := Option.some.inj (show some _ = some _ from h2); dsimp only at e1 e2; omega)

set_option maxHeartbeats 3200000 in
set_option maxRecDepth 100000 in
theorem iCS_any (w : World) :
    Calls Try.prog 11 #[] w fun e w' => ∃ v vs, e = .returned (sysV 11 2 v) ∧ NOwnV 3 56 w.heap.size w'.heap.size w' v 10 vs (csN 10) ∧ Below w.heap.size w w' := by
  obtain ⟨i0, hi, hz0, hz1, hz2⟩ := info_parts infoRwM
  obtain ⟨W, hW, hb, hr, hs⟩ := boxes1r w 28 28 #[.int .i64 0, .int .i64 0, .slice none 0 0] #[.int .i64 0, .int .i64 0, .slice none 0 0]
  go_enter Try.func11, Try.ntmps11
  go_wp2_with (refine store_blk (cs' := #[.int .i64 11, .int .i64 2, .slice none 0 0]) rfl rfl rfl rfl rfl hs infoSy rfl (onesSy _ _ _ _ _) ?_; intro V hsV hoth hbel; have hbV := hbel _ _ (by omega) hb; have hrV := hoth _ _ _ (by omega) hr; clear hoth hbel)
  clear hW hb hs hr
  refine (rules_any V).mono ?_
  rintro e w1 ⟨v1, rfl, hrl, hb1⟩
  have hws : w.heap.size + 1 < w1.heap.size := Nat.lt_of_lt_of_le hsV.lt hb1.size
  obtain ⟨gr, cr, hgr, hgn, hv1⟩ : ∃ gr cr, gr < w1.heap.size ∧ gr ≠ w.heap.size + 1 ∧ v1 = .slice (some ⟨gr, 0, none⟩) 10 cr := by
    rcases hrl.2 with ⟨_, h0⟩ | ⟨g, c, cur, hv, hg, hh, _⟩
    · omega
    · exact ⟨g, c, (Array.getElem?_eq_some_iff.1 hh).1, (by have := hsV.lt; omega), hv⟩
  subst hv1
  have HC : Hid (∀ k, k < 10 → w1.cell? ⟨gr, k * 2, none⟩ = some (.int .i64 (wK k : Int)) ∧ w1.cell? ⟨gr, k * 2 + 1, none⟩ = some (.func (Fn.func (fK k)) #[] #[])) := fun k hk => by
    rw [World.ownsRow.cellAt hrl (k * 2) (by omega), World.ownsRow.cellAt hrl (k * 2 + 1) (by omega)]
    exact rules_at hk
  have HD0 : Hid (Below w.heap.size w w1 ∧ Blk w1 w.heap.size 28 #[.int .i64 0, .int .i64 0, .slice none 0 0] ∧ Blk w1 (w.heap.size + 1) 28 #[.int .i64 11, .int .i64 2, .slice none 0 0]) := ⟨below_then hbV hb1, hrV.on hb1 hrV.lt, hsV.on hb1 hsV.lt⟩
  clear hbV hrV hsV hb1 hrl
  go_wp2
  go_loopw [7] (fun i wr => ∃ (k : Nat) (v : Value) (vs : List Value), i = .int .i64 (k : Int) ∧ k ≤ 10 ∧ NOwnV 3 56 w1.heap.size wr.heap.size wr v k vs (csN k) ∧ Hid ((Below w.heap.size w wr ∧ Blk wr w.heap.size 28 #[.int .i64 0, .int .i64 0, .slice none 0 0] ∧ Blk wr (w.heap.size + 1) 28 #[.int .i64 11, .int .i64 2, v]) ∧ w1.heap.size ≤ wr.heap.size ∧ ∀ g, g < w1.heap.size → g ≠ w.heap.size + 1 → wr.heap[g]? = w1.heap[g]?)) (fun i _ => 10 - (intOf i).toNat)
  case atStart => exact ⟨0, .slice none 0 0, [], rfl, by omega, nown_nil _ _ _ _ _, ⟨HD0.out, Nat.le_refl _, fun _ _ _ => rfl⟩⟩
  case round =>
    obtain ⟨k, v, vs, rfl, hk, hown, HD⟩ := hrel
    clear HD0
    by_cases hlt : k < 10
    · have hlt' : (k : Int) < 10 := by omega
      have hk0 : (0 : Int) ≤ (k : Int) := by omega
      have hw1 : w1.heap.size ≤ wr.heap.size := HD.out.2.1
      obtain ⟨z0, z1⟩ := HC.out k hlt
      have y0 : wr.cell? ⟨gr, k * 2, none⟩ = some (.int .i64 (wK k : Int)) := (World.cell?_of_block (a := ⟨gr, k * 2, none⟩) (HD.out.2.2 gr hgr hgn)).trans z0
      have y1 : wr.cell? ⟨gr, k * 2 + 1, none⟩ = some (.func (Fn.func (fK k)) #[] #[]) := (World.cell?_of_block (a := ⟨gr, k * 2 + 1, none⟩) (HD.out.2.2 gr hgr hgn)).trans z1
      have HR : Hid (∀ w, Calls Try.prog (fK k) #[.int .i64 (wK k : Int)] w fun e w' => ∃ g0 g1 g2, e = .returned (.agg #[.slice (some ⟨g0, 0, none⟩) 11 11, .slice (some ⟨g1, 0, none⟩) 11 11, .slice (some ⟨g2, 0, none⟩) 11 11]) ∧ RowOf w w' g0 g1 g2 (rowLs k) ∧ Below w.heap.size w w') := ruleRow_any k hlt
      have HNX : Hid (csN k ++ rowLs k = csN (k + 1)) := rfl
      have HCF : Hid (∀ V : World, Sem.run Try.prog (callFunc (fK k) #[.int .i64 (wK k : Int)]) V = Result.ok (Next.enter (fK k) #[.int .i64 (wK k : Int)]) V) := fun V => call_rule k _ V
      generalize fK k = fk at y1 HR HCF
      generalize (wK k : Int) = wk at y0 HR HCF
      generalize rowLs k = nl at HR HNX
      generalize csN k = cl at hown HNX
      obtain ⟨ra, rc, hv⟩ := row_form hown.row
      subst hv
      have hm63 : k + 1 ≤ maxLen := by unfold maxLen; omega
      have hm47 : (k + 1) * 72 ≤ 140737488355328 := by omega
      have hrow := hown.row.lt
      have HOW : Hid (NOwnV 3 56 w1.heap.size wr.heap.size wr (.slice ra k rc) k vs cl) := hown
      have HRW : Hid (∀ g, (Value.slice ra k rc).ownBlock = some g → w1.heap.size ≤ g ∧ g < wr.heap.size) := hrow
      clear z0 z1 hown hrow
      obtain ⟨V0, hV0, hbV0, hrV0⟩ := box1 wr 54 #[.int .i64 0, .nilFunc]
      go_wp2_with (refine store_blk (cs' := #[.int .i64 wk, .func (Fn.func fk) #[] #[]]) rfl rfl rfl rfl rfl hrV0 infoCr rfl (onesCr _ _) ?_; intro V hrV hoth hbel; have hbV := hbel _ _ (Nat.le_refl _) hbV0; clear hoth hbel)
      clear hV0 hrV0 hbV0
      have hsV := HD.out.1.2.2.on hbV HD.out.1.2.2.lt
      have hr0 := HD.out.1.2.1.on hbV HD.out.1.2.1.lt
      have hVs : wr.heap.size ≤ V.heap.size := hbV.size
      have hownV := HOW.out.same (Same.of_below hbV (Nat.le_refl _))
      have hBV : Below w.heap.size w V.drew := (HD.out.1.1.trans (hbV.mono HD.out.1.1.size)).drew
      have hFV : ∀ g, g < w1.heap.size → V.heap[g]? = wr.heap[g]? := fun g hg => hbV.block g (by omega)
      refine wp_region_last [(0, false), (1, false), (2, false), (3, false), (4, false), (5, false), (6, true), (7, true), (8, true), (9, false)] 10 (fun wz => Blk wz (w.heap.size + 1) 28 #[.int .i64 11, .int .i64 2, .slice ra k rc] ∧ Blk wz wr.heap.size 54 #[.int .i64 wk, .func (Fn.func fk) #[] #[]]) mixes (by kernel_rfl) ⟨hsV.drew, hrV.drew⟩ ?_
      repeat (refine ord_float rfl rfl (fun K hK => ⟨_, (fun w' hw => by have q0 := hw.1.cell 2; have q1 :=  hw.2.cell 0; have q2 :=  hw.2.cell 1; go_simp; exact rfl), ?_⟩); go_simp; refine hK _ ?_; clear hK K)
      refine ord_call rfl rfl (fun K hK => ⟨fk, #[.int .i64 wk], (by go_simp; exact HCF.out _), ?_⟩)
      refine (HR.out _).mono ?_
      rintro e w5 ⟨g0, g1, g2, rfl, hq, hw5⟩
      have hs5 := hsV.drew.on hw5 hsV.lt
      have hr5 := hrV.drew.on hw5 hrV.lt
      have hr05 := hr0.drew.on hw5 hr0.lt
      have hown5 := hownV.same (w' := w5) (fun k _ h2 => hw5.block k (Nat.lt_of_lt_of_le h2 hVs))
      have hB5 := hBV.trans (hw5.mono hBV.size)
      have hs5s : V.heap.size ≤ w5.heap.size := hw5.size
      have hF5 : ∀ g, g < w1.heap.size → w5.heap[g]? = wr.heap[g]? := fun g hg => (hw5.block g (Nat.lt_of_lt_of_le hg (Nat.le_trans hw1 hVs))).trans (hFV g hg)
      clear hw5 hownV hBV hFV hsV hrV hr0
      refine ⟨_, rfl, ⟨hs5, hr5⟩, ?_⟩
      go_simp
      refine hK _ _ ?_
      clear hK K
      refine ord_op rfl rfl (fun K hK => ⟨.slice (some ⟨w5.heap.size, 0, none⟩) 1 1, w5.alloc (.cells #[.slice (some ⟨g0, 0, none⟩) 11 11, .slice (some ⟨g1, 0, none⟩) 11 11, .slice (some ⟨g2, 0, none⟩) 11 11] 56), (by go_simp <;> rfl), ⟨hs5.alloc _, hr5.alloc _⟩, ?_⟩)
      go_simp
      refine hK _ _ ?_
      clear hK K
      have hq6 := hq.alloc (.cells #[.slice (some ⟨g0, 0, none⟩) 11 11, .slice (some ⟨g1, 0, none⟩) 11 11, .slice (some ⟨g2, 0, none⟩) 11 11] 56)
      have hown6 := hown5.same (w' := w5.alloc (.cells #[.slice (some ⟨g0, 0, none⟩) 11 11, .slice (some ⟨g1, 0, none⟩) 11 11, .slice (some ⟨g2, 0, none⟩) 11 11] 56)) (Same.of_below ((Below.refl w5.heap.size w5).alloc (Nat.le_refl _) _) (Nat.le_trans hVs hs5s))
      refine ord_append rfl rfl _ _ 26 rfl w1.heap.size 56 i0 (.agg #[.slice none 0 0, .slice none 0 0, .slice none 0 0]) 3 72 Try.underlying26 hi hz0 hz1 hz2 rfl (by decide) _ _ _ rfl hown6.row ⟨w5.heap.size, 0, none⟩ 1 1 (us3 g0 g1 g2) rfl rfl (cells_two _ _ _ _ rfl) (us3_one _ _ _) hm63 hm47 (by simp; omega) ?_
      intro v' w7 hown' hgrow hat
      have hown7 := hown6.app3 hown' hgrow hat hq6 hVs (by show V.heap.size ≤ _; simp; omega) hw1
      rw [HNX.out] at hown7
      have hne1 : some (w.heap.size + 1) ≠ (Value.slice ra k rc).ownBlock := fun e => by have := HRW.out _ e.symm; omega
      have hne0 : some w.heap.size ≠ (Value.slice ra k rc).ownBlock := fun e => by have := HRW.out _ e.symm; omega
      have hne2 : some wr.heap.size ≠ (Value.slice ra k rc).ownBlock := fun e => by have := HRW.out _ e.symm; omega
      have hs7 : Blk w7 (w.heap.size + 1) 28 #[.int .i64 11, .int .i64 2, .slice ra k rc] := (hgrow.block _ (hs5.alloc _).lt hne1).trans (hs5.alloc _)
      have hr07 : Blk w7 w.heap.size 28 #[.int .i64 0, .int .i64 0, .slice none 0 0] := (hgrow.block _ (hr05.alloc _).lt hne0).trans (hr05.alloc _)
      have hr7 : Blk w7 wr.heap.size 54 #[.int .i64 wk, .func (Fn.func fk) #[] #[]] := (hgrow.block _ (hr5.alloc _).lt hne2).trans (hr5.alloc _)
      have hB7 : Below w.heap.size w w7 := (hB5.alloc (by omega) _).grown hgrow (by simp; omega) (fun g hg => by have := HRW.out _ hg; omega)
      have hF7 : ∀ g, g < w1.heap.size → w7.heap[g]? = wr.heap[g]? := fun g hg => (hgrow.block g (by simp; omega) (fun e => by have := HRW.out _ e.symm; omega)).trans ((Below.heap_alloc w5 _ g (by omega)).trans (hF5 g hg))
      have hs7s : w5.heap.size ≤ w7.heap.size := by have := hgrow.size; simp at this; omega
      clear hown' hgrow hat hown6 hown5 hq hq6 hs5 hr5 hr05 hB5 hF5
      obtain ⟨a7, c7, hv7⟩ := row_form hown7.row
      subst hv7
      refine ⟨⟨hs7, hr7⟩, fun K hK => ?_⟩
      go_simp
      refine hK _ ?_
      clear hK K
      repeat (refine ord_float rfl rfl (fun K hK => ⟨_, (fun w' hw => by have q0 := hw.1.cell 2; go_simp; exact rfl), ?_⟩); go_simp; refine hK _ ?_; clear hK K)
      refine ord_nil ?_
      have q0 := hs7.cell 2
      have q1 := hs7.free 2
      refine last_store rfl rfl rfl (w7.setCell ⟨w.heap.size + 1, 2, none⟩ (.slice a7 (k + 1) c7)) (by go_simp <;> rfl) ?_
      have hown8 := hown7.same (Same.set w7 ⟨w.heap.size + 1, 2, none⟩ (.slice a7 (k + 1) c7) (.inl hws))
      have hsz8 : (w7.setCell ⟨w.heap.size + 1, 2, none⟩ (.slice a7 (k + 1) c7)).heap.size = w7.heap.size := by simp [World.setCell]
      have HD8 : Hid ((Below w.heap.size w (w7.setCell ⟨w.heap.size + 1, 2, none⟩ (.slice a7 (k + 1) c7)) ∧ Blk (w7.setCell ⟨w.heap.size + 1, 2, none⟩ (.slice a7 (k + 1) c7)) w.heap.size 28 #[.int .i64 0, .int .i64 0, .slice none 0 0] ∧ Blk (w7.setCell ⟨w.heap.size + 1, 2, none⟩ (.slice a7 (k + 1) c7)) (w.heap.size + 1) 28 #[.int .i64 11, .int .i64 2, .slice a7 (k + 1) c7]) ∧ w1.heap.size ≤ (w7.setCell ⟨w.heap.size + 1, 2, none⟩ (.slice a7 (k + 1) c7)).heap.size ∧ ∀ g, g < w1.heap.size → g ≠ w.heap.size + 1 → (w7.setCell ⟨w.heap.size + 1, 2, none⟩ (.slice a7 (k + 1) c7)).heap[g]? = w1.heap[g]?) :=
        ⟨⟨hB7.setCell (p := ⟨w.heap.size + 1, 2, none⟩) (by show w.heap.size ≤ w.heap.size + 1; omega) _, hr07.other (by omega) _, hs7.set 2 _⟩, by rw [hsz8]; omega, fun g h1 h2 => (Below.heap_setCell _ _ _ _ h2).trans ((hF7 g h1).trans (HD.out.2.2 g h1 h2))⟩
      have hown9 : NOwnV 3 56 w1.heap.size (w7.setCell ⟨w.heap.size + 1, 2, none⟩ (.slice a7 (k + 1) c7)).heap.size (w7.setCell ⟨w.heap.size + 1, 2, none⟩ (.slice a7 (k + 1) c7)) (.slice a7 (k + 1) c7) (k + 1) (vs ++ us3 g0 g1 g2) (csN (k + 1)) := by rw [hsz8]; exact hown8
      generalize w7.setCell ⟨w.heap.size + 1, 2, none⟩ (.slice a7 (k + 1) c7) = w8 at HD8 hown9 ⊢
      clear hown8 hown7 hs7 hr7 hr07 hB7 hF7 q0 q1 hsz8 HOW HRW y0 y1 HR HD hbV
      go_wp2
      go_roundw
      case rel => exact ⟨k + 1, _, _, by go_num, hlt, hown9, HD8⟩
      case measure => simp [intOf]; omega
    · have hlt' : ¬ (k : Int) < 10 := by omega
      obtain rfl : k = 10 := by omega
      obtain ⟨a7, c7, hv7⟩ := row_form hown.row
      subst hv7
      have HO : Hid (NOwnV 3 56 w1.heap.size wr.heap.size wr (.slice a7 10 c7) 10 vs (csN 10)) := hown
      have hx := HD.out.1.2.2
      have hr := HD.out.1.2.1
      have hB := HD.out.1.1
      clear hown
      go_wp2_with (first | (refine load_blk rfl rfl rfl hx Try.underlying28 infoSy ?_) | (refine store_blk (cs' := #[.int .i64 11, .int .i64 2, .slice a7 10 c7]) rfl rfl rfl rfl rfl hr infoSy rfl (onesSy _ _ _ _ _) ?_; intro V h5 hoth hbel; have hbV := hbel _ _ (Nat.le_refl _) hB; have hbV0 := hbel 0 _ (Nat.zero_le _) (Below.refl 0 _); have hOV := HO.out.oth hoth (by omega); clear hoth hbel))
      refine bodyPost_ret_by (result_blk rfl rfl h5 Try.underlying28 infoSy) rfl ⟨_, rfl, ⟨vs, (hOV.wide hbV0.size).low (by omega)⟩, hbV⟩

end Go.Proofs.Ytfiflcedbejamaa
