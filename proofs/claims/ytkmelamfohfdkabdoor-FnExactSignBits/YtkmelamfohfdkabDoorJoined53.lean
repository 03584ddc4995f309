/-
  Texts of one's own, joined.
-/
import Derived.Test.YtkmelamfohfdkabDoorJoined52
import Derived.Test.YtkmelamfohfdkabDoorRows
import Derived.Test.YtkmelamfohfdkabDoorRoundW
import Derived.Lib.LaidTab
import Derived.LaidSub
import Derived.MakeChecks
import Derived.OpenShut
import Derived.Carry
import Derived.ChangeVars
import Derived.ChangeStays
import Derived.WideKeyArgs
import Derived.ChangeOld

/-
  The walk of the exact law of who signs by bits.
  (-DROP-: what the seat lacks is left out.)
-/
namespace Go.Proofs.YtkmelamfohfdkabDoor
open Go.RowKit

set_option maxHeartbeats 1600000 in
set_option maxRecDepth 100000 in
theorem lawSignBits (s b : Int) (t : ByteArray) (_hs : (Lit.int .i64 s).wf = true) (_hb : (Lit.int .i64 b).wf = true) (_ht : t.size ≤ maxLen) (w : World) (hT : Tab w) :
    Calls Tryd.prog 3 #[.int .i64 s, .int .i64 b, .string t] w fun e w' => e = .returned (.bool true) ∧ Below w.heap.size w w' := by
  by_cases hb : 1048576 < t.size
  · have hb' : (1048576 : Int) < (t.size : Int) := by omega
    go_enter Tryd.func3, Tryd.ntmps3
    go_wp2
    go_ret
    exact ⟨rfl, Below.refl _ _⟩
  have hb' : ¬ (1048576 : Int) < (t.size : Int) := by omega
  have HT : Hid (Tab w) := hT
  clear hT
  obtain ⟨P, hq1, hq2⟩ : ∃ P : Pt, (∀ w, Tab w → Calls Tryd.prog 5 #[.int .i64 s, .int .i64 b, .string t] w fun e w' => e = .returned (pv P) ∧ Below w.heap.size w w') ∧ (∀ w, Calls Tryd.prog 4 #[.int .i64 s, .int .i64 b, .string t] w fun e w' => e = .returned (pv P) ∧ Below w.heap.size w w') := ⟨_, fun w h => iSignBits_any s b t (by omega) w h, fun w => sSignBits_any s b t (by omega) w⟩
  have HQ1 : Hid _ := hq1
  have HQ2 : Hid _ := hq2
  have HE : Hid (∀ w, Calls Tryd.prog 6 #[pv P, pv P] w fun e w' => e = .returned (.bool true) ∧ Below w.heap.size w w') := eqPoint_same P
  clear hq1 hq2
  go_enter Tryd.func3, Tryd.ntmps3
  go_wp2_with fail
  refine (HQ2.out _).mono ?_
  rintro e w1 ⟨rfl, hb1⟩
  obtain ⟨W1, hE1, hbW1, hx1⟩ := box1 w1 23 #[.int .i64 P.1, .int .i64 P.2.1, .bool P.2.2]
  have hB1 := below_then hb1 hbW1
  unfold pv at HQ1 HE
  go_wp2_with fail
  clear hE1 hb1 hbW1 HQ2
  refine (HQ1.out _ (HT.out.on hB1 HT.out.1)).mono ?_
  rintro e w2 ⟨rfl, hb2⟩
  obtain ⟨W2, hE2, hbW2, hx2⟩ := box1 w2 23 #[.int .i64 P.1, .int .i64 P.2.1, .bool P.2.2]
  have hB2 := below_then (below_then hB1 hb2) hbW2
  have hx1' := (hx1.on hb2 hx1.lt).on hbW2 (hx1.on hb2 hx1.lt).lt
  clear hx1 hB1 HQ1 hb2 hbW2
  go_wp2_with (first | (refine load_blk rfl rfl rfl hx1' Tryd.underlying23 infoP ?_) | (refine load_blk rfl rfl rfl hx2 Tryd.underlying23 infoP ?_))
  clear hE2
  refine (HE.out _).mono ?_
  rintro e w3 ⟨rfl, hb3⟩
  have hB3 := below_then hB2 hb3
  clear hb3 hB2 hx1' hx2
  go_wp2
  go_ret
  exact ⟨rfl, hB3⟩

end Go.Proofs.YtkmelamfohfdkabDoor

/-
  What the rows list of the table of the rounds.
-/
namespace Go.Proofs.YtkmelamfohfdkabDoor
open Go.RowKit

theorem gTab : Tryd.prog.globalNamed "loop.example/g00321/impl.roundWords" = some 0 := by kernel_rfl
theorem gTabType : (Tryd.prog.globals[0]?).map (·.type) = some 71 := by kernel_rfl
theorem cellsT : Tryd.prog.cellsOf 71 = 24 := by kernel_rfl
theorem cellsW : Tryd.prog.cellsOf 55 = 1 := by kernel_rfl
theorem rcL_val : ∀ i, i < 24 → wv (rcW i) = ((rcL.getD i 0 : Nat) : Int) := by decide

theorem fnExactSignBits_tab {W : World} (h : laidMetH Tryd.prog Rows.fnExactSignBitsRow.laid W) : Tab W := by
  rw [MakeChecks.laidMetH_plain _ _ _ (by kernel_rfl)] at h
  have e : Rows.fnExactSignBitsRow.laid = [("loop.example/g00321/impl.roundWords", Lib.tabData .u64 (rcL.map Int.ofNat))] := by kernel_rfl
  rw [e] at h
  have t := Lib.tabIs_of_head (rest := []) gTab gTabType Tryd.underlying71 Tryd.underlying55 cellsW cellsT h
  have c : ∀ i, i < 24 → W.cell? ⟨0, i, none⟩ = some (.int .u64 (wv (rcW i))) := fun i hi => by
    have := t.cell gTab i (by simpa [rcL] using hi)
    rw [this, rcL_val i hi]
    have hl : i < rcL.length := by simpa [rcL] using hi
    simp only [List.getD_eq_getElem?_getD, List.getElem?_map, List.getElem?_eq_getElem hl, Option.map_some, Option.getD_some]
    rfl
  exact ⟨World.block_lt_of_cell? W _ (c 0 (by omega)), c⟩

end Go.Proofs.YtkmelamfohfdkabDoor

/-
  Listed variables read behind a call as they read before, where nothing below the old memory's end has changed.
-/
namespace Go.Proofs.YtkmelamfohfdkabDoor
open Go.RowKit Go.ChangeShapes

/-- Each named variable is of a type that can be read. -/
def varsOk (P : Program) (ns : List String) : Bool := ns.all fun n => match (P.globalNamed n).bind fun g => (P.globals[g]?).map (·.type) with
  | some t => P.readableRec t && decide (t < P.types.size)
  | none => true

theorem trodVars_step {H : Type} {enc : TypeId × Value → H} {P : Program} {w : World} {spare : Nat → Bool} {n : String} {ns : List String} {gs : List (DataW H)} {ps : List MemPlace} (h : DataW.TrodVars enc P w spare (n :: ns) gs ps) :
    ∃ d ds q, gs = d :: ds ∧ DataW.TrodVars enc P w spare ns ds q := by
  cases gs with
  | nil => simp [DataW.TrodVars] at h
  | cons d ds =>
    obtain ⟨g, t, cs, fuel, p, q, _, _, _, _, hs, _⟩ := h
    exact ⟨d, ds, q, rfl, hs⟩

theorem var_below {P : Program} {W W' : World} (hb : Below W.heap.size W W') {n : String} {cs : Array Value} (h : W.var? P n = some cs) : W'.var? P n = some cs := by
  unfold World.var? at h ⊢
  cases hg : P.globalNamed n with
  | none => rw [hg] at h; cases h
  | some g =>
    rw [hg] at h
    simp only [Option.bind_some] at h ⊢
    have hlt : g < W.heap.size := by
      rcases Nat.lt_or_ge g W.heap.size with x | x
      · exact x
      · rw [Array.getElem?_eq_none x] at h; cases h
    rw [hb.block g hlt]
    exact h

theorem vars_below {H : Type} {enc : TypeId × Value → H} {P : Program} (hl : laidOutB P = true) {W W' : World} (hb : Below W.heap.size W W') : ∀ {ns : List String} {gs : List (DataW H)} {ps : List MemPlace},
    varsOk P ns = true → DataW.TrodVars enc P W (fun _ => true) ns gs ps → DataW.TrodVars enc P W' (fun b => decide (b < W.heap.size)) ns gs ps
  | [], [], _, _, h => h
  | [], _ :: _, _, _, h => h.elim
  | _ :: _, [], _, _, h => h.elim
  | n :: ns, d :: ds, ps, ho, h => by
    have hlt := DataW.TrodVars.lt h
    obtain ⟨g, t, cs, fuel, p, q, h1, h2, h3, h4, hs, rfl⟩ := h
    unfold varsOk at ho
    rw [List.all_cons, Bool.and_eq_true] at ho
    obtain ⟨ho1, ho2⟩ := ho
    rw [h1, Option.bind_some, h2] at ho1
    simp only [Bool.and_eq_true, decide_eq_true_eq] at ho1
    refine ⟨g, t, cs, fuel, p, q, h1, h2, var_below hb h3, ?_, vars_below hl hb ho2 hs, rfl⟩
    have hp : ∀ x ∈ p, x.block < W.heap.size := fun x hx => hlt x (by simp [hx])
    exact DataW.trod_stays (Go.kids_book hl ho1.1) (Go.book_sized ho1.1) (fun h => by cases h) ⟨ho1.2, Go.book_self t⟩ h4 (fun x hx => hb.same (hp x hx)) (fun x hx => by simpa using hp x hx)

end Go.Proofs.YtkmelamfohfdkabDoor
