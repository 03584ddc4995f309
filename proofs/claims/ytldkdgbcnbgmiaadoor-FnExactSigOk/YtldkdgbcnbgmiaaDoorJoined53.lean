/-
  Texts of one's own, joined.
-/
import Derived.Test.YtldkdgbcnbgmiaaDoorJoined40
import Derived.Test.YtldkdgbcnbgmiaaDoorJoined52
import Derived.OpenShut
import Derived.Test.YtldkdgbcnbgmiaaDoorRows
import Derived.Test.YtldkdgbcnbgmiaaDoorJoined25
import Derived.Lib.LaidTab
import Derived.LaidSub
import Derived.MakeChecks
import Derived.Carry
import Derived.ChangeVars
import Derived.ChangeStays
import Derived.WideKeyArgs
import Derived.ChangeOld

/-
  The walks of the laws on the functions of signatures.
  (-DROP-: what the seat lacks is left out.)
-/
namespace Go.Proofs.YtldkdgbcnbgmiaaDoor
open Go.RowKit Go.ChangeShapes Go.WideShapes

set_option maxHeartbeats 800000 in
set_option maxRecDepth 100000 in
theorem lawHash (t : ByteArray) (_ht : t.size ≤ maxLen) (w : World) (hT : Tab w) :
    Calls Tryd.prog 3 #[.string t] w fun e w' => e = .returned (.bool true) ∧ Below w.heap.size w w' := by
  by_cases hb : 1048576 < t.size
  · have hb' : (1048576 : Int) < (t.size : Int) := by omega
    clear hT
    go_enter Tryd.func3, Tryd.ntmps3
    go_wp2
    go_ret
    exact ⟨rfl, Below.refl _ _⟩
  have hb' : ¬ (1048576 : Int) < (t.size : Int) := by omega
  have HT : Hid (Tab w) := hT
  have HS : Hid (∀ w, Calls Tryd.prog 6 #[.string t] w fun e w' => e = .returned (pv (hashPt t)) ∧ Below w.heap.size w w') := sHash_any t (by omega)
  have HI : Hid (∀ w, Tab w → Calls Tryd.prog 7 #[.string t] w fun e w' => e = .returned (pv (hashPt t)) ∧ Below w.heap.size w w') := fun w h => iHash_any t (by omega) w h
  clear hT
  generalize hashPt t = v at HS HI
  go_enter Tryd.func3, Tryd.ntmps3
  go_wp2_with fail
  refine (HS.out _).mono ?_
  rintro e w2 ⟨rfl, hB2⟩
  go_wp2_with fail
  obtain ⟨V, hV, hbV, h3⟩ := box1 w2 23 #[.int .i64 v.1, .int .i64 v.2.1, .bool v.2.2]
  rw [hV]
  clear hV
  have hB3 := below_then hB2 hbV
  refine (HI.out _ (HT.out.on hB3 HT.out.1)).mono ?_
  rintro e w4 ⟨rfl, hb4⟩
  have h34 := h3.on hb4 h3.lt
  have hB4 := below_then hB3 hb4
  clear hb4 h3 hbV hB2 hB3
  have hB5 := below_then hB4 ((Below.refl _ w4).alloc (Nat.le_refl _) (.cells #[.int .i64 v.1, .int .i64 v.2.1, .bool v.2.2] 23))
  have h45 := Blk.new w4 23 #[.int .i64 v.1, .int .i64 v.2.1, .bool v.2.2]
  have h35 := h34.alloc (.cells #[.int .i64 v.1, .int .i64 v.2.1, .bool v.2.2] 23)
  clear h34 hB4
  go_wp2_with (first | (refine load_blk rfl rfl rfl h45 Tryd.underlying23 infoP ?_) | (refine load_blk rfl rfl rfl h35 Tryd.underlying23 infoP ?_))
  refine (eqPoint_same v _).mono ?_
  rintro e w5 ⟨rfl, hb5⟩
  have hbb := below_then hB5 hb5
  clear h45 h35 hB5 hb5
  go_wp2
  go_ret
  exact ⟨rfl, hbb⟩

set_option maxHeartbeats 800000 in
set_option maxRecDepth 100000 in
theorem lawSign (k : Int) (t : ByteArray) (_hk : (Lit.int .i64 k).wf = true) (_ht : t.size ≤ maxLen) (w : World) (hT : Tab w) :
    Calls Tryd.prog 4 #[.int .i64 k, .string t] w fun e w' => e = .returned (.bool true) ∧ Below w.heap.size w w' := by
  by_cases hb : 1048576 < t.size
  · have hb' : (1048576 : Int) < (t.size : Int) := by omega
    clear hT
    go_enter Tryd.func4, Tryd.ntmps4
    go_wp2
    go_ret
    exact ⟨rfl, Below.refl _ _⟩
  have hb' : ¬ (1048576 : Int) < (t.size : Int) := by omega
  have HT : Hid (Tab w) := hT
  have HS : Hid (∀ w, Calls Tryd.prog 9 #[.int .i64 k, .string t] w fun e w' => e = .returned (pv (signP k (hashPt t))) ∧ Below w.heap.size w w') := sSign_any k t (by omega)
  have HI : Hid (∀ w, Tab w → Calls Tryd.prog 10 #[.int .i64 k, .string t] w fun e w' => e = .returned (pv (signP k (hashPt t))) ∧ Below w.heap.size w w') := fun w h => iSign_any k t (by omega) w h
  clear hT
  generalize signP k (hashPt t) = v at HS HI
  go_enter Tryd.func4, Tryd.ntmps4
  go_wp2_with fail
  refine (HS.out _).mono ?_
  rintro e w2 ⟨rfl, hB2⟩
  go_wp2_with fail
  obtain ⟨V, hV, hbV, h3⟩ := box1 w2 23 #[.int .i64 v.1, .int .i64 v.2.1, .bool v.2.2]
  rw [hV]
  clear hV
  have hB3 := below_then hB2 hbV
  refine (HI.out _ (HT.out.on hB3 HT.out.1)).mono ?_
  rintro e w4 ⟨rfl, hb4⟩
  have h34 := h3.on hb4 h3.lt
  have hB4 := below_then hB3 hb4
  clear hb4 h3 hbV hB2 hB3
  have hB5 := below_then hB4 ((Below.refl _ w4).alloc (Nat.le_refl _) (.cells #[.int .i64 v.1, .int .i64 v.2.1, .bool v.2.2] 23))
  have h45 := Blk.new w4 23 #[.int .i64 v.1, .int .i64 v.2.1, .bool v.2.2]
  have h35 := h34.alloc (.cells #[.int .i64 v.1, .int .i64 v.2.1, .bool v.2.2] 23)
  clear h34 hB4
  go_wp2_with (first | (refine load_blk rfl rfl rfl h45 Tryd.underlying23 infoP ?_) | (refine load_blk rfl rfl rfl h35 Tryd.underlying23 infoP ?_))
  refine (eqPoint_same v _).mono ?_
  rintro e w5 ⟨rfl, hb5⟩
  have hbb := below_then hB5 hb5
  clear h45 h35 hB5 hb5
  go_wp2
  go_ret
  exact ⟨rfl, hbb⟩

set_option maxHeartbeats 1600000 in
set_option maxRecDepth 100000 in
theorem lawSigOk (K : Pt) (t : ByteArray) (S : Pt) (_ht : t.size ≤ maxLen) (w : World) (hT : Tab w) :
    Calls Tryd.prog 5 #[pv K, .string t, pv S] w fun e w' => e = .returned (.bool true) ∧ Below w.heap.size w w' := by
  by_cases hb : 1048576 < t.size
  · have hb' : (1048576 : Int) < (t.size : Int) := by omega
    clear hT
    go_enter Tryd.func5, Tryd.ntmps5
    go_wp2
    go_ret
    exact ⟨rfl, ((Below.refl _ _).alloc (Nat.le_refl _) _).alloc (by simp) _⟩
  have hb' : ¬ (1048576 : Int) < (t.size : Int) := by omega
  have HS : Hid (∀ w, Calls Tryd.prog 11 #[pv K, .string t, pv S] w fun e w' => e = .returned (.bool (sigB K S (hashPt t))) ∧ Below w.heap.size w w') := sSigOk_any K S t (by omega)
  have HI : Hid (∀ w, Tab w → Calls Tryd.prog 13 #[pv K, .string t, pv S] w fun e w' => e = .returned (.bool (sigB K S (hashPt t))) ∧ Below w.heap.size w w') := fun w h => iSigOk_any K S t (by omega) w h
  generalize sigB K S (hashPt t) = b at HS HI
  have HTK : Hid (∀ w, Calls Tryd.prog 12 #[pv K] w fun e w' => e = .returned (pv K) ∧ Below w.heap.size w w') := toPoint_any K
  have HTS : Hid (∀ w, Calls Tryd.prog 12 #[pv S] w fun e w' => e = .returned (pv S) ∧ Below w.heap.size w w') := toPoint_any S
  go_enter Tryd.func5, Tryd.ntmps5
  go_wp2_with fail
  obtain ⟨W, hW, hbW, hx, hy⟩ := boxes1r w 29 29 #[.int .i64 K.1, .int .i64 K.2.1, .bool K.2.2] #[.int .i64 S.1, .int .i64 S.2.1, .bool S.2.2]
  rw [hW]
  clear hW
  have HT : Hid (Tab W) := hT.on hbW hT.1
  clear hT
  refine wp_region_class 6 (fun wz => Below W.heap.size W wz) mixes (by kernel_rfl) (Below.refl _ _).drew ?_
  simp only [List.take_succ_cons, List.take_zero, List.drop_succ_cons, List.drop_zero]
  repeat (refine cls_step rfl (fun K hK => ⟨_, (fun w' hw => by have q0 := (hx.on hw hx.lt).cell 0; have q1 := (hx.on hw hx.lt).cell 1; have q2 := (hx.on hw hx.lt).cell 2; have q3 := (hy.on hw hy.lt).cell 0; have q4 := (hy.on hw hy.lt).cell 1; have q5 := (hy.on hw hy.lt).cell 2; go_simp; exact rfl), ?_⟩); go_simp; refine hK _ ?_; clear hK K)
  refine cls_call rfl (fun K hK => ⟨_, _, _, (fun w' => by go_simp <;> first | exact rfl | exact ⟨rfl, rfl⟩), (fun w' hw => calls_below hw (HTK.out _)), ?_⟩); go_simp; refine hK _ ?_; clear hK K
  repeat (refine cls_step rfl (fun K hK => ⟨_, (fun w' hw => by have q0 := (hx.on hw hx.lt).cell 0; have q1 := (hx.on hw hx.lt).cell 1; have q2 := (hx.on hw hx.lt).cell 2; have q3 := (hy.on hw hy.lt).cell 0; have q4 := (hy.on hw hy.lt).cell 1; have q5 := (hy.on hw hy.lt).cell 2; go_simp; exact rfl), ?_⟩); go_simp; refine hK _ ?_; clear hK K)
  refine cls_call rfl (fun K hK => ⟨_, _, _, (fun w' => by go_simp <;> first | exact rfl | exact ⟨rfl, rfl⟩), (fun w' hw => calls_below hw (HTS.out _)), ?_⟩); go_simp; refine hK _ ?_; clear hK K
  refine cls_call rfl (fun K hK => ⟨_, _, _, (fun w' => by go_simp <;> first | exact rfl | exact ⟨rfl, rfl⟩), (fun w' hw => calls_below hw (HS.out _)), ?_⟩); go_simp; refine hK _ ?_; clear hK K
  refine wq_nil ?_
  intro w' hw
  have hx1 := hx.on hw hx.lt
  have hy1 := hy.on hw hy.lt
  have HT1 : Hid (Tab w') := HT.out.on hw HT.out.1
  have hB1 := below_then hbW hw
  clear hx hy hw HT hbW
  go_wp2_with fail
  refine wp_region_class 6 (fun wz => Below w'.heap.size w' wz) mixes (by kernel_rfl) (Below.refl _ _).drew ?_
  simp only [List.take_succ_cons, List.take_zero, List.drop_succ_cons, List.drop_zero]
  repeat (refine cls_step rfl (fun K hK => ⟨_, (fun w' hw => by have q0 := (hx1.on hw hx1.lt).cell 0; have q1 := (hx1.on hw hx1.lt).cell 1; have q2 := (hx1.on hw hx1.lt).cell 2; have q3 := (hy1.on hw hy1.lt).cell 0; have q4 := (hy1.on hw hy1.lt).cell 1; have q5 := (hy1.on hw hy1.lt).cell 2; go_simp; exact rfl), ?_⟩); go_simp; refine hK _ ?_; clear hK K)
  refine cls_call rfl (fun K hK => ⟨_, _, _, (fun w' => by go_simp <;> first | exact rfl | exact ⟨rfl, rfl⟩), (fun w' hw => calls_below hw (HTK.out _)), ?_⟩); go_simp; refine hK _ ?_; clear hK K
  repeat (refine cls_step rfl (fun K hK => ⟨_, (fun w' hw => by have q0 := (hx1.on hw hx1.lt).cell 0; have q1 := (hx1.on hw hx1.lt).cell 1; have q2 := (hx1.on hw hx1.lt).cell 2; have q3 := (hy1.on hw hy1.lt).cell 0; have q4 := (hy1.on hw hy1.lt).cell 1; have q5 := (hy1.on hw hy1.lt).cell 2; go_simp; exact rfl), ?_⟩); go_simp; refine hK _ ?_; clear hK K)
  refine cls_call rfl (fun K hK => ⟨_, _, _, (fun w' => by go_simp <;> first | exact rfl | exact ⟨rfl, rfl⟩), (fun w' hw => calls_below hw (HTS.out _)), ?_⟩); go_simp; refine hK _ ?_; clear hK K
  refine cls_call rfl (fun K hK => ⟨_, _, _, (fun w' => by go_simp <;> first | exact rfl | exact ⟨rfl, rfl⟩), (fun w' hw => calls_below hw (HI.out _ (HT1.out.on hw HT1.out.1))), ?_⟩); go_simp; refine hK _ ?_; clear hK K
  refine wq_nil ?_
  intro w' hw
  have hB2 := below_then hB1 hw
  clear hx1 hy1 hw HT1 hB1
  go_wp2
  go_ret
  exact ⟨rfl, hB2⟩

end Go.Proofs.YtldkdgbcnbgmiaaDoor

/-
  What the rows list of the table of the rounds.
-/
namespace Go.Proofs.YtldkdgbcnbgmiaaDoor
open Go.RowKit

theorem gTab : Tryd.prog.globalNamed "loop.example/g00321/impl.roundWords" = some 0 := by kernel_rfl
theorem gTabType : (Tryd.prog.globals[0]?).map (·.type) = some 74 := by kernel_rfl
theorem cellsT : Tryd.prog.cellsOf 74 = 24 := by kernel_rfl
theorem cellsW : Tryd.prog.cellsOf 47 = 1 := by kernel_rfl
theorem rcL_val : ∀ i, i < 24 → wv (rcW i) = ((rcL.getD i 0 : Nat) : Int) := by decide

theorem fnExactHashPoint_tab {W : World} (h : laidMetH Tryd.prog Rows.fnExactHashPointRow.laid W) : Tab W := by
  rw [MakeChecks.laidMetH_plain _ _ _ (by kernel_rfl)] at h
  have e : Rows.fnExactHashPointRow.laid = [("loop.example/g00321/impl.roundWords", Lib.tabData .u64 (rcL.map Int.ofNat))] := by kernel_rfl
  rw [e] at h
  have t := Lib.tabIs_of_head (rest := []) gTab gTabType Tryd.underlying74 Tryd.underlying47 cellsW cellsT h
  have c : ∀ i, i < 24 → W.cell? ⟨0, i, none⟩ = some (.int .u64 (wv (rcW i))) := fun i hi => by
    have := t.cell gTab i (by simpa [rcL] using hi)
    rw [this, rcL_val i hi]
    have hl : i < rcL.length := by simpa [rcL] using hi
    simp only [List.getD_eq_getElem?_getD, List.getElem?_map, List.getElem?_eq_getElem hl, Option.map_some, Option.getD_some]
    rfl
  exact ⟨Nat.lt_of_le_of_lt (Nat.zero_le _) (World.block_lt_of_cell? W _ (c 0 (by omega))), c⟩

theorem fnExactSignWith_tab {W : World} (h : laidMetH Tryd.prog Rows.fnExactSignWithRow.laid W) : Tab W := by
  rw [MakeChecks.laidMetH_plain _ _ _ (by kernel_rfl)] at h
  have e : Rows.fnExactSignWithRow.laid = [("loop.example/g00321/impl.roundWords", Lib.tabData .u64 (rcL.map Int.ofNat))] := by kernel_rfl
  rw [e] at h
  have t := Lib.tabIs_of_head (rest := []) gTab gTabType Tryd.underlying74 Tryd.underlying47 cellsW cellsT h
  have c : ∀ i, i < 24 → W.cell? ⟨0, i, none⟩ = some (.int .u64 (wv (rcW i))) := fun i hi => by
    have := t.cell gTab i (by simpa [rcL] using hi)
    rw [this, rcL_val i hi]
    have hl : i < rcL.length := by simpa [rcL] using hi
    simp only [List.getD_eq_getElem?_getD, List.getElem?_map, List.getElem?_eq_getElem hl, Option.map_some, Option.getD_some]
    rfl
  exact ⟨Nat.lt_of_le_of_lt (Nat.zero_le _) (World.block_lt_of_cell? W _ (c 0 (by omega))), c⟩

theorem fnExactSigOk_tab {W : World} (h : laidMetH Tryd.prog Rows.fnExactSigOkRow.laid W) : Tab W := by
  rw [MakeChecks.laidMetH_plain _ _ _ (by kernel_rfl)] at h
  have e : Rows.fnExactSigOkRow.laid = [("loop.example/g00321/impl.roundWords", Lib.tabData .u64 (rcL.map Int.ofNat))] := by kernel_rfl
  rw [e] at h
  have t := Lib.tabIs_of_head (rest := []) gTab gTabType Tryd.underlying74 Tryd.underlying47 cellsW cellsT h
  have c : ∀ i, i < 24 → W.cell? ⟨0, i, none⟩ = some (.int .u64 (wv (rcW i))) := fun i hi => by
    have := t.cell gTab i (by simpa [rcL] using hi)
    rw [this, rcL_val i hi]
    have hl : i < rcL.length := by simpa [rcL] using hi
    simp only [List.getD_eq_getElem?_getD, List.getElem?_map, List.getElem?_eq_getElem hl, Option.map_some, Option.getD_some]
    rfl
  exact ⟨Nat.lt_of_le_of_lt (Nat.zero_le _) (World.block_lt_of_cell? W _ (c 0 (by omega))), c⟩

end Go.Proofs.YtldkdgbcnbgmiaaDoor

/-
  Listed variables read behind a call as they read before, where nothing below the old memory's end has changed.
-/
namespace Go.Proofs.YtldkdgbcnbgmiaaDoor
open Go.RowKit Go.ChangeShapes

/-- Each named variable is of a type that can be read. -/
def varsOk (P : Program) (ns : List String) : Bool := ns.all fun n => match (P.globalNamed n).bind fun g => (P.globals[g]?).map (·.type) with
  | some t => P.readableRec t && decide (t < P.types.size)
  | none => true

theorem trodVars_step {H : Type} {enc : TypeId × Value → H} {P : Program} {w : World} {spare : Nat → Bool} {n : String} {ns : List String} {gs : List (DataW H)} {ps : List MemPlace} (h : DataW.TrodVars enc P w spare (n :: ns) gs ps) :
    ∃ d ds q, gs = d :: ds ∧ DataW.TrodVars enc P w spare ns ds q := by
  cases gs with
  | nil => simp [DataW.TrodVars] at h
  | cons d ds =>
    obtain ⟨g, t, cs, fuel, p, q, _, _, _, _, hs, _⟩ := h
    exact ⟨d, ds, q, rfl, hs⟩

theorem var_below {P : Program} {W W' : World} (hb : Below W.heap.size W W') {n : String} {cs : Array Value} (h : W.var? P n = some cs) : W'.var? P n = some cs := by
  unfold World.var? at h ⊢
  cases hg : P.globalNamed n with
  | none => rw [hg] at h; cases h
  | some g =>
    rw [hg] at h
    simp only [Option.bind_some] at h ⊢
    have hlt : g < W.heap.size := by
      rcases Nat.lt_or_ge g W.heap.size with x | x
      · exact x
      · rw [Array.getElem?_eq_none x] at h; cases h
    rw [hb.block g hlt]
    exact h

theorem vars_below {H : Type} {enc : TypeId × Value → H} {P : Program} (hl : laidOutB P = true) {W W' : World} (hb : Below W.heap.size W W') : ∀ {ns : List String} {gs : List (DataW H)} {ps : List MemPlace},
    varsOk P ns = true → DataW.TrodVars enc P W (fun _ => true) ns gs ps → DataW.TrodVars enc P W' (fun b => decide (b < W.heap.size)) ns gs ps
  | [], [], _, _, h => h
  | [], _ :: _, _, _, h => h.elim
  | _ :: _, [], _, _, h => h.elim
  | n :: ns, d :: ds, ps, ho, h => by
    have hlt := DataW.TrodVars.lt h
    obtain ⟨g, t, cs, fuel, p, q, h1, h2, h3, h4, hs, rfl⟩ := h
    unfold varsOk at ho
    rw [List.all_cons, Bool.and_eq_true] at ho
    obtain ⟨ho1, ho2⟩ := ho
    rw [h1, Option.bind_some, h2] at ho1
    simp only [Bool.and_eq_true, decide_eq_true_eq] at ho1
    refine ⟨g, t, cs, fuel, p, q, h1, h2, var_below hb h3, ?_, vars_below hl hb ho2 hs, rfl⟩
    have hp : ∀ x ∈ p, x.block < W.heap.size := fun x hx => hlt x (by simp [hx])
    exact DataW.trod_stays (Go.kids_book hl ho1.1) (Go.book_sized ho1.1) (fun h => by cases h) ⟨ho1.2, Go.book_self t⟩ h4 (fun x hx => hb.same (hp x hx)) (fun x hx => by simpa using hp x hx)

end Go.Proofs.YtldkdgbcnbgmiaaDoor
