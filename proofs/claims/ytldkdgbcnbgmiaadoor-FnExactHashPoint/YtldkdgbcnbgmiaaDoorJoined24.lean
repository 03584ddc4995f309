/-
  Texts of one's own, joined.
-/
import Derived.Test.YtldkdgbcnbgmiaaDoorJoined20
import Derived.Test.YtldkdgbcnbgmiaaDoorJoined21

/-
  The walks of the places of words.
-/
namespace Go.Proofs.YtldkdgbcnbgmiaaDoor
open Go.RowKit

/-- A place as cells. -/
def pl (x y : Nat) : Array Value := #[.int .i64 (x : Int), .int .i64 (y : Int)]

set_option maxRecDepth 100000 in
theorem index_any (x y : Nat) (hx : x < 5) (hy : y < 5) (w : World) :
    Calls Tryd.prog 97 #[.agg (pl x y)] w fun e w' => e = .returned (.int .i64 ((x + 5 * y : Nat) : Int)) ∧ w' = w.alloc (.cells (pl x y) 111) := by
  have HE : Hid ((x : Int) + 5 * (y : Int) = ((x + 5 * y : Nat) : Int)) := (show (x : Int) + 5 * (y : Int) = ((x + 5 * y : Nat) : Int) by omega)
  unfold pl
  go_enter Tryd.func97, Tryd.ntmps97
  go_wp2
  go_ret
  exact ⟨by rw [← HE.out]; rfl, rfl⟩

theorem index_of (x y i : Nat) (hx : x < 5) (hy : y < 5) (hi : x + 5 * y = i) (w : World) :
    Calls Tryd.prog 97 #[.agg #[.int .i64 (x : Int), .int .i64 (y : Int)]] w fun e w' => e = .returned (.int .i64 (i : Int)) ∧ w' = w.alloc (.cells #[.int .i64 (x : Int), .int .i64 (y : Int)] 111) := by
  subst hi; exact index_any x y hx hy w
theorem infoPl : (Tryd.prog.info? 111).map (·.size) = some 2 := by kernel_rfl

theorem result_cells {P : Program} {fn : Func} {p : Tmp} {ty t : TypeId} {d : TypeDesc} (h : fn.results = #[.cell p ty]) {tmps : Array Value} {w : World} {g : Nat} {cs : Array Value} (hp : tmps.getD p undef = .pointer (some ⟨g, 0, none⟩))
    (hA : w.heap[g]? = some (.cells cs t (0, 0))) (hu : P.underlying ty = some d) (hd : (match d with | .struct _ | .array _ _ => true | _ => false) = true) (hi : (P.info? ty).map (·.size) = some cs.size) : (results fn tmps).run P w = .ok (.agg cs) w := by
  have hl := run_loadVar_row w g t ty cs (0, 0) _ hA hu hd hi
  have hp' : tmps[p]?.getD undef = .pointer (some ⟨g, 0, none⟩) := by simpa using hp
  simp [results, h, hp', asAddr, hl]

set_option maxRecDepth 100000 in
theorem moved_any (x y : Nat) (hx : x < 5) (hy : y < 5) (w : World) :
    Calls Tryd.prog 96 #[.agg (pl x y)] w fun e w' => e = .returned (.agg (pl y ((2 * x + 3 * y) % 5))) ∧ w' = (w.alloc (.cells (pl x y) 111)).alloc (.cells (pl y ((2 * x + 3 * y) % 5)) 111) := by
  obtain ⟨z, hz⟩ : ∃ z, z = (2 * x + 3 * y) % 5 := ⟨_, rfl⟩
  have h1 : (2 * (x : Int) + 3 * (y : Int)) % 5 = (z : Int) := by omega
  have h2 : Int.tmod (2 * (x : Int) + 3 * (y : Int)) 5 = (z : Int) := by rw [Int.tmod_eq_emod_of_nonneg (by omega)]; exact h1
  rw [← hz]
  clear hz
  unfold pl
  go_enter Tryd.func96, Tryd.ntmps96
  go_wp2
  have hA : ((w.alloc (.cells #[.int .i64 (x : Int), .int .i64 (y : Int)] 111)).alloc (.cells #[.int .i64 (y : Int), .int .i64 (z : Int)] 111)).heap[w.heap.size + 1]? = some (.cells #[.int .i64 (y : Int), .int .i64 (z : Int)] 111 (0, 0)) := by
    have := heap_alloc_last (w.alloc (.cells #[.int .i64 (x : Int), .int .i64 (y : Int)] 111)) (.cells #[.int .i64 (y : Int), .int .i64 (z : Int)] 111)
    rwa [size_alloc] at this
  refine bodyPost_ret_by (result_cells rfl rfl hA Tryd.underlying111 rfl infoPl) rfl ⟨rfl, rfl⟩

end Go.Proofs.YtldkdgbcnbgmiaaDoor

/-
  Places of words in blocks.
-/
namespace Go.Proofs.YtldkdgbcnbgmiaaDoor
open Go.RowKit

/-- Block g holds this place. -/
def PlaceAt (w : World) (g x y : Nat) : Prop := w.heap[g]? = some (.cells (pl x y) 111 (0, 0))

theorem PlaceAt.lt {w : World} {g x y : Nat} (h : PlaceAt w g x y) : g < w.heap.size := (Array.getElem?_eq_some_iff.1 h).1
theorem PlaceAt.c0 {w : World} {g x y : Nat} (h : PlaceAt w g x y) : w.cell? ⟨g, 0, none⟩ = some (.int .i64 (x : Int)) := by
  rw [cell_of_row _ _ 0 _ _ _ h]; rfl
theorem PlaceAt.c1 {w : World} {g x y : Nat} (h : PlaceAt w g x y) : w.cell? ⟨g, 1, none⟩ = some (.int .i64 (y : Int)) := by
  rw [cell_of_row _ _ 1 _ _ _ h]; rfl
theorem PlaceAt.alloc {w : World} {g x y : Nat} (h : PlaceAt w g x y) (o : Obj) : PlaceAt (w.alloc o) g x y := by
  have := h.lt
  show (w.heap.push o)[g]? = _
  rw [Array.getElem?_push, if_neg (by omega)]
  exact h
theorem PlaceAt.other {w : World} {g g' i x y : Nat} (h : PlaceAt w g x y) (hne : g' ≠ g) (v : Value) : PlaceAt (w.setCell ⟨g', i, none⟩ v) g x y := by
  unfold PlaceAt at h ⊢
  simp only [World.setCell]
  rw [Array.getElem?_modify, if_neg hne, h]
theorem PlaceAt.new {w : World} {g x y : Nat} (hg : g = w.heap.size) : PlaceAt (w.alloc (.cells (pl x y) 111)) g x y := by
  subst hg; exact heap_alloc_last w _

theorem pl_one (x y : Nat) : (pl x y).all (·.oneCell') = true := by
  rw [Array.all_eq_true_iff_forall_mem]
  intro v hv
  simp [pl] at hv
  rcases hv with rfl | rfl <;> rfl
/-- A place out of its block. -/
theorem load_place {w : World} {ops : Array Oper} {rest : List Oper} {o : Oper} {a : Act} {Q : Exit → Act → World → Prop} (hg : o.guard = none) {p : Operand} (hop : o.op = Op.load 111 p)
    {g x y : Nat} (hp : a.eval p = .pointer (some ⟨g, 0, none⟩)) (h : PlaceAt w g x y)
    (K : wpList Tryd.prog ops Q rest (a.put o.dst (.agg (pl x y))) w) : wpList Tryd.prog ops Q (o :: rest) a w := by
  refine wpList_plain hg fun K' hK' => ?_
  have hrun : (Instr.loadAt 111 (.pointer (some ⟨g, 0, none⟩))).run Tryd.prog w = .ok (.agg (pl x y)) w := by
    simp only [Instr.loadAt, Instr.sureAddr, Sem.run_bind, Sem.run_pure, Result.andThen]
    exact run_loadVar_row w g 111 111 (pl x y) (0, 0) _ h Tryd.underlying111 rfl infoPl
  unfold Oper.wp
  simp [execOp, hop, hp, hrun, Result.andThen]
  exact hK' _ _ K
/-- A place into its block. -/
theorem store_place {w : World} {ops : Array Oper} {rest : List Oper} {o : Oper} {a : Act} {Q : Exit → Act → World → Prop} (hg : o.guard = none) {p v : Operand} (hop : o.op = Op.store 111 p v)
    {g x y x' y' : Nat} (hp : a.eval p = .pointer (some ⟨g, 0, none⟩)) (hv : a.eval v = .agg (pl x' y')) (h : PlaceAt w g x y)
    (K : ∀ w', PlaceAt w' g x' y' → (∀ g', g ≠ g' → w'.heap[g']? = w.heap[g']?) → (∀ B w0, B ≤ g → Below B w0 w → Below B w0 w') → wpList Tryd.prog ops Q rest (a.put o.dst undef) w') : wpList Tryd.prog ops Q (o :: rest) a w := by
  refine wpList_plain hg fun K' hK' => ?_
  have hrun : (Instr.storeAt 111 (.pointer (some ⟨g, 0, none⟩)) (.agg (pl x' y'))).run Tryd.prog w = .ok () (w.setRow g (pl x' y')) := by
    simp only [Instr.storeAt, Instr.sureAddr, Sem.run_bind, Sem.run_pure, Result.andThen]
    exact run_storeVar_row w g 111 111 (pl x y) (pl x' y') h infoPl rfl (pl_one _ _)
  unfold Oper.wp
  simp [execOp, hop, hp, hv, hrun, Result.andThen]
  refine hK' _ _ (K _ ?_ (fun g' hne => by simp only [World.setRow]; rw [Array.getElem?_modify, if_neg hne]) (fun _ _ hB hb => below_setRow hb hB _))
  unfold PlaceAt at h ⊢
  simp only [World.setRow]
  rw [Array.getElem?_modify, if_pos rfl, h]
  rfl

theorem same_place (x y : Nat) (w : World) : (Op.equalIn 10000 111 (.agg (pl x y)) (.agg (pl 1 0))).run Tryd.prog w = .ok (((x : Int) == 1) && ((y : Int) == 0)) w := by
  unfold pl
  go_simp
  by_cases h1 : (x : Int) = 1
  · by_cases h2 : y = 0
    · simp [h1, h2]
    · have h2' : ¬ (y : Int) = 0 := by omega
      rw [if_pos h1, if_neg h2]; simp [h1, h2]
  · rw [if_neg h1]; simp [h1]

end Go.Proofs.YtldkdgbcnbgmiaaDoor

/-
  The walk of rho and pi.
-/
namespace Go.Proofs.YtldkdgbcnbgmiaaDoor
open Go.RowKit

set_option maxHeartbeats 3200000 in
set_option maxRecDepth 100000 in
theorem rhoPi_any (f : Nat → BitVec 64) (w : World) :
    Calls Tryd.prog 91 #[.agg (sc f 25)] w fun e w' => e = .returned (.agg (sc (rhoPi f) 25)) ∧ Below w.heap.size w w' := by
  obtain ⟨b1, HB1⟩ : ∃ b, Hid (b = w.heap.size) := ⟨_, rfl⟩
  obtain ⟨b2, HB2⟩ : ∃ b, Hid (b = w.heap.size + 1) := ⟨_, rfl⟩
  obtain ⟨b3, HB3⟩ : ∃ b, Hid (b = w.heap.size + 1 + 1) := ⟨_, rfl⟩
  obtain ⟨b4, HB4⟩ : ∃ b, Hid (b = w.heap.size + 1 + 1 + 1) := ⟨_, rfl⟩
  obtain ⟨b5, HB5⟩ : ∃ b, Hid (b = w.heap.size + 1 + 1 + 1 + 1) := ⟨_, rfl⟩
  have hX1 : At ((w.alloc (.cells (sc f 25) 89)).alloc (.cells (sc zf 25) 89)) w.heap.size 89 25 f := (At.new _ _ _ _).alloc _
  have hX3 : At (((w.alloc (.cells (sc f 25) 89)).alloc (.cells (sc zf 25) 89)).alloc (.cells (sc zf 25) 89)) (w.heap.size + 1 + 1) 89 25 zf := At.new' (by rw [size_alloc, size_alloc]) rfl
  have hX2 : At (((w.alloc (.cells (sc f 25) 89)).alloc (.cells (sc zf 25) 89)).alloc (.cells (sc zf 25) 89)) (w.heap.size + 1) 89 25 zf := At.alloc (At.new' (by rw [size_alloc]) rfl) _
  have HX1 : Hid (At (((w.alloc (.cells (sc f 25) 89)).alloc (.cells (sc zf 25) 89)).alloc (.cells (sc zf 25) 89)) w.heap.size 89 25 f) := hX1.alloc _
  have HX2 : Hid (At (((w.alloc (.cells (sc f 25) 89)).alloc (.cells (sc zf 25) 89)).alloc (.cells (sc zf 25) 89)) (w.heap.size + 1) 89 25 zf) := hX2
  have HBL : Hid (Below w.heap.size w (((w.alloc (.cells (sc f 25) 89)).alloc (.cells (sc zf 25) 89)).alloc (.cells (sc zf 25) 89))) := by
    show Below _ _ _
    refine Below.alloc (Below.alloc (Below.alloc (Below.refl _ _) (Nat.le_refl _) _) ?_ _) ?_ _ <;> (simp only [size_alloc]; omega)
  clear hX2
  go_enter Tryd.func91, Tryd.ntmps91
  go_wp2_with (first | (refine load_at rfl rfl rfl hX1 Tryd.underlying89 infoS ?_) | (refine store_to rfl rfl rfl rfl hX3 infoS ?_; intro w3 hA3 hk3 hs3 hl3))
  clear hX1 hX3
  have hs3' : w3.heap.size = w.heap.size + 1 + 1 + 1 := by rw [hs3]; simp only [size_alloc]
  have hA1 : At w3 w.heap.size 89 25 f := (hk3 _ (by omega)).trans HX1.out
  have hA2 : At w3 (w.heap.size + 1) 89 25 zf := (hk3 _ (by omega)).trans HX2.out
  have hbel : Below w.heap.size w w3 := hl3 _ _ (by omega) HBL.out
  rw [← HB5.out, ← HB4.out, ← HB3.out, ← HB2.out, ← HB1.out]
  go_loopw [6, 7] (fun tn st wr => ∃ k : Nat, st = .int .i64 ((k : Int) + 1) ∧ k ≤ 23 ∧ tn = .int .i64 (tri k : Int) ∧ At wr b1 89 25 f ∧ At wr b2 89 25 zf ∧ At wr b3 89 25 (rpK f k) ∧ PlaceAt wr b4 1 0 ∧ PlaceAt wr b5 (placeN k).1 (placeN k).2 ∧ Below b1 w wr) (fun _ st _ => 24 - (intOf st).toNat)
  case atStart =>
    have e1 := HB1.out
    have e2 := HB2.out
    have e3 := HB3.out
    have e4 := HB4.out
    have e5 := HB5.out
    refine ⟨0, rfl, by omega, rfl, ?_, ?_, ?_, ?_, ?_, ?_⟩
    · rw [e1]; exact (hA1.alloc _).alloc _
    · rw [e2]; exact (hA2.alloc _).alloc _
    · rw [e3]; exact (hA3.alloc _).alloc _
    · exact PlaceAt.alloc (PlaceAt.new (by rw [hs3', e4])) _
    · exact PlaceAt.new (by rw [size_alloc, hs3', e5])
    · rw [e1]; exact (hbel.alloc hbel.size _).alloc (by rw [size_alloc]; have := hbel.size; omega) _
  case round =>
    clear hA1 hA2 hA3 hk3 hs3 hl3 hs3' hbel HX1 HX2 HBL
    obtain ⟨k, rfl, hk, rfl, hA1, hA2, hA3, hP4, hP5, hbel⟩ := hrel
    have htr := tri_le k (by omega)
    have hp := placeN_lt k
    have HM : Hid (∀ w, Calls Tryd.prog 96 #[.agg (pl (placeN k).1 (placeN k).2)] w fun e w' => e = .returned (.agg (pl (placeN (k + 1)).1 (placeN (k + 1)).2)) ∧ w' = (w.alloc (.cells (pl (placeN k).1 (placeN k).2) 111)).alloc (.cells (pl (placeN (k + 1)).1 (placeN (k + 1)).2) 111)) := fun w => moved_any _ _ hp.1 hp.2 w
    have hp' := placeN_lt (k + 1)
    have HXI : Hid ((placeN k).1 + 5 * (placeN k).2 = idxN k) := rfl
    have HXI' : Hid ((placeN (k + 1)).1 + 5 * (placeN (k + 1)).2 = idxN (k + 1)) := rfl
    have HE : Hid (placeN (k + 1) = (1, 0) ↔ k = 23) := placeN_end k (by omega)
    have HT : Hid ((tri k : Int) + ((k : Int) + 1) = (tri (k + 1) : Int)) := by
      show (tri k : Int) + ((k : Int) + 1) = (tri (k + 1) : Int)
      rw [tri]; omega
    have htr1 := tri_le (k + 1) (by omega)
    have HK : Hid (rpK f (k + 1) = upd (rpK f k) (idxN (k + 1)) (rotl (f (idxN k)) (tri (k + 1) % 64))) := rfl
    have hi := idxN_lt k
    have hi' := idxN_lt (k + 1)
    have HEN : Hid (k ≠ 23 → (placeN (k + 1)).1 = 1 → (placeN (k + 1)).2 = 0 → False) := fun h h1 h2 => h (HE.out.1 (Prod.ext h1 h2))
    have HEY : Hid (k = 23 → (placeN (k + 1)).1 = 1 ∧ (placeN (k + 1)).2 = 0) := fun h => by rw [HE.out.2 h]; exact ⟨rfl, rfl⟩
    have HP' : Hid (∀ W g, PlaceAt W g (placeN (k + 1)).1 (placeN (k + 1)).2 → PlaceAt W g (placeN (k + 1)).1 (placeN (k + 1)).2) := fun _ _ h => h
    have HTT : Hid (∀ n, tri (k + 1) = n → tri (k + 1) = n) := fun _ h => h
    have HR : Hid (∀ W g, At W g 89 25 (upd (rpK f k) (idxN (k + 1)) (rotl (f (idxN k)) (tri (k + 1) % 64))) → At W g 89 25 (rpK f (k + 1))) := fun _ _ h => h
    clear HE HK
    generalize (placeN k).1 = x at *
    generalize (placeN k).2 = y at *
    generalize hgx : (placeN (k + 1)).1 = x' at *
    generalize hgy : (placeN (k + 1)).2 = y' at *
    generalize idxN k = i at *
    generalize idxN (k + 1) = i' at *
    generalize tri k = T at *
    generalize hgt : tri (k + 1) = T' at *
    have HGX : Hid ((placeN (k + 1)).1 = x') := hgx
    have HGY : Hid ((placeN (k + 1)).2 = y') := hgy
    have HGT : Hid (tri (k + 1) = T') := hgt
    clear hgx hgy hgt
    simp only [pl] at HM
    have HX5 := hp.1
    have HY5 := hp.2
    have HX5' := hp'.1
    have HY5' := hp'.2
    have hxi := HXI.out
    have hxi' := HXI'.out
    have hTT := HT.out
    have hc50 := hP5.c0
    have hc51 := hP5.c1
    have HS : Hid (b1 < wr.heap.size ∧ b2 < wr.heap.size ∧ b3 < wr.heap.size ∧ b4 < wr.heap.size ∧ b5 < wr.heap.size) := ⟨hA1.lt, hA2.lt, hA3.lt, hP4.lt, hP5.lt⟩
    go_wp2_with ((go_at_call 96; refine (HM.out _).mono ?_; rintro e w1 ⟨rfl, rfl⟩))
    obtain ⟨W, hW⟩ : ∃ W, W = ((wr.alloc (.cells #[.int .i64 (x : Int), .int .i64 (y : Int)] 111)).alloc (.cells #[.int .i64 (x' : Int), .int .i64 (y' : Int)] 111)).alloc (.cells #[.int .i64 (x' : Int), .int .i64 (y' : Int)] 111) := ⟨_, rfl⟩
    obtain ⟨b8, hb8⟩ : ∃ b, b = wr.heap.size + 1 + 1 := ⟨_, rfl⟩
    rw [← hW, ← hb8]
    have hB1 : At W b1 89 25 f := by rw [hW]; exact ((hA1.alloc _).alloc _).alloc _
    have hB2 : At W b2 89 25 zf := by rw [hW]; exact ((hA2.alloc _).alloc _).alloc _
    have hB3 : At W b3 89 25 (rpK f k) := by rw [hW]; exact ((hA3.alloc _).alloc _).alloc _
    have hQ4 : PlaceAt W b4 1 0 := by rw [hW]; exact ((hP4.alloc _).alloc _).alloc _
    have hQ5 : PlaceAt W b5 x y := by rw [hW]; exact ((hP5.alloc _).alloc _).alloc _
    have hne8 : b3 ≠ b8 := by have := HS.out; omega
    have hQ8 : PlaceAt W b8 x' y' := by rw [hW]; exact PlaceAt.new (by rw [hb8, size_alloc, size_alloc])
    have hbW : Below b1 w W := by
      rw [hW]
      have := HS.out.1
      refine Below.alloc (Below.alloc (Below.alloc hbel (by omega) _) ?_ _) ?_ _ <;> (simp only [size_alloc]; omega)
    clear hA1 hA2 hA3 hP4 hP5 hbel hW hb8 HS hc50 hc51
    have hc50 := hQ5.c0
    have hc51 := hQ5.c1
    have hc80 := hQ8.c0
    have hc81 := hQ8.c1
    have hl5 := hQ5.lt
    have hl8 := hQ8.lt
    have hl1 := hB1.lt
    have hl3 := hB3.lt
    have hc1 := hB1.cell i hi
    have hc3 := hB3.cell i' hi'
    have hf3 := hB3.free i'
    have hi0 : (i : Int) < 25 := by omega
    have hi0' : (i' : Int) < 25 := by omega
    have hl1' : b1 < W.heap.size + 1 := by omega
    have hl3' : b3 < W.heap.size + 1 := by omega
    obtain ⟨r, hr⟩ : ∃ r, r = T' % 64 := ⟨_, rfl⟩
    have hr1 : (T' : Int) % 64 = (r : Int) := by omega
    have hr2 : Int.tmod (T' : Int) 64 = (r : Int) := by rw [Int.tmod_eq_emod_of_nonneg (by omega)]; exact hr1
    have HRT : Hid (∀ x w, Calls Tryd.prog 95 #[.int .u64 (wv x), .int .i64 (r : Int)] w fun e w' => e = .returned (.int .u64 (wv (rotl x r))) ∧ w = w') := fun x w => turn_any x r (by omega) w
    rw [← hr] at HR
    have HW : Hid (At (((W.setCell ⟨b3, i', none⟩ (.int .u64 (wv (rotl (f i) r)))).alloc (.cells #[.int .i64 (x' : Int), .int .i64 (y' : Int)] 111)).alloc (.cells #[.int .i64 (x : Int), .int .i64 (y : Int)] 111)).drew b1 89 25 f ∧
        At (((W.setCell ⟨b3, i', none⟩ (.int .u64 (wv (rotl (f i) r)))).alloc (.cells #[.int .i64 (x' : Int), .int .i64 (y' : Int)] 111)).alloc (.cells #[.int .i64 (x : Int), .int .i64 (y : Int)] 111)).drew b2 89 25 zf ∧
        At (((W.setCell ⟨b3, i', none⟩ (.int .u64 (wv (rotl (f i) r)))).alloc (.cells #[.int .i64 (x' : Int), .int .i64 (y' : Int)] 111)).alloc (.cells #[.int .i64 (x : Int), .int .i64 (y : Int)] 111)).drew b3 89 25 (rpK f (k + 1)) ∧
        PlaceAt (((W.setCell ⟨b3, i', none⟩ (.int .u64 (wv (rotl (f i) r)))).alloc (.cells #[.int .i64 (x' : Int), .int .i64 (y' : Int)] 111)).alloc (.cells #[.int .i64 (x : Int), .int .i64 (y : Int)] 111)).drew b4 1 0 ∧
        PlaceAt (((W.setCell ⟨b3, i', none⟩ (.int .u64 (wv (rotl (f i) r)))).alloc (.cells #[.int .i64 (x' : Int), .int .i64 (y' : Int)] 111)).alloc (.cells #[.int .i64 (x : Int), .int .i64 (y : Int)] 111)).drew b5 x y ∧
        PlaceAt (((W.setCell ⟨b3, i', none⟩ (.int .u64 (wv (rotl (f i) r)))).alloc (.cells #[.int .i64 (x' : Int), .int .i64 (y' : Int)] 111)).alloc (.cells #[.int .i64 (x : Int), .int .i64 (y : Int)] 111)).drew b8 x' y' ∧
        Below b1 w (((W.setCell ⟨b3, i', none⟩ (.int .u64 (wv (rotl (f i) r)))).alloc (.cells #[.int .i64 (x' : Int), .int .i64 (y' : Int)] 111)).alloc (.cells #[.int .i64 (x : Int), .int .i64 (y : Int)] 111)).drew) := by
      have e1 := HB1.out
      have e2 := HB2.out
      have e3 := HB3.out
      have e4 := HB4.out
      have e5 := HB5.out
      have hsz : (W.setCell ⟨b3, i', none⟩ (.int .u64 (wv (rotl (f i) r)))).heap.size = W.heap.size := by simp
      refine ⟨((hB1.other (by omega) _).alloc _).alloc _, ((hB2.other (by omega) _).alloc _).alloc _, HR.out _ _ (((hB3.set i' _).alloc _).alloc _), ((hQ4.other (by omega) _).alloc _).alloc _, ((hQ5.other (by omega) _).alloc _).alloc _, ((hQ8.other hne8 _).alloc _).alloc _, ?_⟩
      refine Below.drew (Below.alloc (Below.alloc (hbW.setCell (by show b1 ≤ b3; omega) _) ?_ _) ?_ _)
      · rw [hsz]; omega
      · rw [size_alloc, hsz]; omega
    clear hr hB1 hB2 hB3 hQ4 hQ5 hQ8 hbW HR
    go_region_with (first | (go_at_call 97; refine (index_of _ _ _ (by assumption) (by assumption) (by assumption) _).mono ?_; rintro e w1 ⟨rfl, rfl⟩) | (go_at_call 95; refine (HRT.out _ _).mono ?_; rintro e w1 ⟨rfl, rfl⟩))
    all_goals
      generalize (((W.setCell ⟨b3, i', none⟩ (.int .u64 (wv (rotl (f i) r)))).alloc (.cells #[.int .i64 (x' : Int), .int .i64 (y' : Int)] 111)).alloc (.cells #[.int .i64 (x : Int), .int .i64 (y : Int)] 111)).drew = V at HW ⊢
      obtain ⟨hV1, hV2, hV3, hV4, hV5, hV8, hbV⟩ := HW.out
      clear HW hc50 hc51 hc80 hc81 hl5 hl8 hl1 hl3 hc1 hc3 hf3 hl1' hl3' hxi hxi' hTT
      have hsp := same_place x' y'
      by_cases hz : k = 23
      · have hxy := HEY.out hz
        have hbo : (((x' : Int) == 1) && ((y' : Int) == 0)) = true := by rw [hxy.1, hxy.2]; rfl
        rw [hbo] at hsp
        have HE : Hid (rpK f (k + 1) = rhoPi f) := by show rpK f (k + 1) = rhoPi f; rw [hz]; rfl
        have HB12 : Hid (b1 ≤ b2) := (show b1 ≤ b2 by have := HB1.out; have := HB2.out; omega)
        clear hxy hbo hz
        go_wp2_with (first | (refine load_place rfl rfl rfl hV8 ?_) | (refine load_place rfl rfl rfl hV4 ?_) | (refine load_at rfl rfl rfl hV3 Tryd.underlying89 infoS ?_) | (refine store_at rfl rfl rfl rfl hV2 infoS ?_))
        (try simp only [Exit.inBlock, Exit.then])
        refine bodyPost_ret_by (result_at rfl rfl (hV2.row _) Tryd.underlying89 infoS) rfl ⟨by rw [HE.out], ?_⟩
        rw [← HB1.out]
        exact below_row hbV HB12.out _
      · have hbo : (((x' : Int) == 1) && ((y' : Int) == 0)) = false := by
          rw [Bool.eq_false_iff]
          intro h
          rw [Bool.and_eq_true, beq_iff_eq, beq_iff_eq] at h
          exact HEN.out hz (by omega) (by omega)
        rw [hbo] at hsp
        have HK23 : Hid (k + 1 ≤ 23) := (show k + 1 ≤ 23 by omega)
        have HNE : Hid (b5 ≠ b1 ∧ b5 ≠ b2 ∧ b5 ≠ b3 ∧ b5 ≠ b4 ∧ b1 ≤ b5) := (show b5 ≠ b1 ∧ b5 ≠ b2 ∧ b5 ≠ b3 ∧ b5 ≠ b4 ∧ b1 ≤ b5 by have := HB1.out; have := HB2.out; have := HB3.out; have := HB4.out; have := HB5.out; omega)
        clear hbo hz
        go_wp2_with (first | (refine load_place rfl rfl rfl hV8 ?_) | (refine load_place rfl rfl rfl hV4 ?_) | (refine store_place rfl rfl rfl rfl hV5 ?_; intro w9 hP9 hk9 hl9))
        go_roundw
        case rel =>
          refine ⟨k + 1, by go_num, HK23.out, by rw [HGT.out], (hk9 _ HNE.out.1).trans hV1, (hk9 _ HNE.out.2.1).trans hV2, (hk9 _ HNE.out.2.2.1).trans hV3, (hk9 _ HNE.out.2.2.2.1).trans hV4, by rw [HGX.out, HGY.out]; exact hP9, hl9 _ _ HNE.out.2.2.2.2 hbV⟩
        case measure => have := HK23.out; simp [intOf]; omega

end Go.Proofs.YtldkdgbcnbgmiaaDoor
