/-
  Texts of one's own, joined.
-/
import Derived.Test.YtldkdgbcnbgmiabDoorJoined51
import Derived.Test.YtldkdgbcnbgmiabDoorPtRow
import Derived.Test.YtldkdgbcnbgmiabDoorJoined44
import Derived.Test.YtldkdgbcnbgmiabDoorRows
import Derived.Test.YtldkdgbcnbgmiabDoorJoined24
import Derived.Lib.LaidTab
import Derived.LaidSub
import Derived.MakeChecks
import Derived.OpenShut
import Derived.Carry
import Derived.ChangeVars
import Derived.ChangeStays
import Derived.WideKeyArgs
import Derived.ChangeOld
import Derived.Test.YtldkdgbcnbgmiabDoorJoined34
import Derived.Lib.SmallJoins
import Derived.Deep.Slices

/-
  The walk of the exact law on AllSigOk.
-/
namespace Go.Proofs.YtldkdgbcnbgmiabDoor
open Go.RowKit Go.ChangeShapes Go.WideShapes

set_option maxHeartbeats 3200000 in
set_option maxRecDepth 100000 in
theorem lawAllSig (a : Option Addr) (n c : Nat) (t : ByteArray) (S : Pt) (hn : n ≤ 9223372036854775807) (_ht : t.size ≤ maxLen) (f : Nat → Pt) (w : World) (hA : PtsAt w a n w.heap.size f) (hT : Tab w) :
    Calls Tryd.prog 3 #[.slice a n c, .string t, pv S] w fun e w' => e = .returned (.bool true) ∧ Below w.heap.size w w' := by
  have HA : Hid (PtsAt w a n w.heap.size f) := hA
  have HTB : Hid (Tab w) := hT
  clear hA hT
  by_cases hb : 1048576 < t.size
  · have hb' : (1048576 : Int) < (t.size : Int) := by omega
    go_enter Tryd.func3, Tryd.ntmps3
    go_wp2
    go_ret
    exact ⟨rfl, (Below.refl _ _).alloc (Nat.le_refl _) _⟩
  have hb' : ¬ (1048576 : Int) < (t.size : Int) := by omega
  have HZ : Hid (∀ w, Calls Tryd.prog 4 #[.slice a n c, .int .i64 1048576] w fun e w' => e = .returned (.int .i64 (if 1048576 < n then -1 else 1048576 - (n : Int))) ∧ w = w') := szPointS_any a n c hn
  by_cases h1 : 1048576 < n
  · rw [if_pos h1] at HZ
    go_enter Tryd.func3, Tryd.ntmps3
    go_wp2_with (go_at_call 4; refine (HZ.out _).mono ?_; rintro e w0 ⟨rfl, rfl⟩)
    go_ret
    exact ⟨rfl, (Below.refl _ _).alloc (Nat.le_refl _) _⟩
  rw [if_neg h1] at HZ
  have hn1 : n ≤ 1048576 := by omega
  have h1' : ¬ 1048576 - (n : Int) < 0 := by omega
  obtain ⟨b, hq1, hq2⟩ : ∃ b : Bool, (∀ a' cp w, PtsAt w a' n w.heap.size f → Tab w → Calls Tryd.prog 8 #[.slice a' n cp, .string t, pv S] w fun e w' => e = .returned (.bool b) ∧ Below w.heap.size w w') ∧ (∀ a' cp w, PtsAt w a' n w.heap.size f → Calls Tryd.prog 5 #[.slice a' n cp, .string t, pv S] w fun e w' => e = .returned (.bool b) ∧ Below w.heap.size w w') := ⟨_, fun a' cp w h1 h2 => iAllSig_any a' n cp hn f t (by omega) S w h1 h2, fun a' cp w h1 => sAllSig_any a' n cp hn f t (by omega) S w h1⟩
  have HQ1 : Hid _ := hq1
  have HQ2 : Hid _ := hq2
  have HTS : Hid (∀ w, Calls Tryd.prog 7 #[pv S] w fun e w' => e = .returned (pv S) ∧ Below w.heap.size w w') := toPoint_any S
  clear hq1 hq2
  go_enter Tryd.func3, Tryd.ntmps3
  go_wp2_with (go_at_call 4; refine (HZ.out _).mono ?_; rintro e w0 ⟨rfl, rfl⟩)
  obtain ⟨W, hW, hbW, hx⟩ := box1 w 24 #[.int .i64 S.1, .int .i64 S.2.1, .bool S.2.2]
  rw [hW]
  clear hW
  have HA1 : Hid (PtsAt W a n W.heap.size f) := (HA.out.on hbW).wide hbW.size
  have HT1 : Hid (Tab W) := HTB.out.on hbW HTB.out.1
  have hD : Below W.heap.size W W.drew := (Below.refl _ _).drew
  have y1 := (HA1.out.on hD).wide hD.size
  clear HZ h1 h1' HA HTB
  refine wp_region_ord [(0, false), (2, false), (3, false), (1, true), (4, true), (5, true), (6, true)] (fun wz => Below W.heap.size W wz) mixes (by kernel_rfl) hD ?_
  repeat (refine ord_float rfl rfl (fun K hK => ⟨_, (fun w' hw => by have q0 := (hx.on hw hx.lt).cell 0; have q1 :=  (hx.on hw hx.lt).cell 1; have q2 :=  (hx.on hw hx.lt).cell 2; go_simp; exact rfl), ?_⟩); go_simp; refine hK _ ?_; clear hK K)
  refine ord_call rfl rfl (fun K hK => ⟨_, _, (by go_simp <;> first | exact rfl | exact ⟨rfl, rfl⟩), ?_⟩)
  refine (toPointS_any a n c hn1 f _ y1).mono ?_
  rintro e w1 ⟨rfl, hR1, hb1⟩
  have hQ1 := hR1.pts hR1.lt
  have hB1 := below_then hD hb1
  clear hR1 hb1 y1 hD
  refine ⟨_, rfl, hB1, ?_⟩
  go_simp
  refine hK _ _ ?_
  clear hK K
  refine ord_call rfl rfl (fun K hK => ⟨_, _, (by go_simp <;> first | exact rfl | exact ⟨rfl, rfl⟩), ?_⟩)
  refine (HTS.out _).mono ?_
  rintro e w2 ⟨rfl, hb2⟩
  have hQ2 := (hQ1.on hb2).wide hb2.size
  have hB2 := below_then hB1 hb2
  clear hb2 hB1 hQ1
  refine ⟨_, rfl, hB2, ?_⟩
  go_simp
  refine hK _ _ ?_
  clear hK K
  refine ord_call rfl rfl (fun K hK => ⟨_, _, (by go_simp <;> first | exact rfl | exact ⟨rfl, rfl⟩), ?_⟩)
  refine (HQ2.out _ _ _ hQ2).mono ?_
  rintro e w3 ⟨rfl, hb3⟩
  have hB3 := below_then hB2 hb3
  clear hb3 hB2 hQ2 HQ2
  refine ⟨_, rfl, hB3, ?_⟩
  go_simp
  refine hK _ _ ?_
  clear hK K
  refine ord_op rfl rfl (fun K hK => ⟨_, _, (by go_simp <;> first | exact ⟨rfl, rfl⟩ | exact rfl), hB3, ?_⟩)
  go_simp
  refine hK _ _ ?_
  clear hK K
  refine ord_nil ?_
  have hx3 := hx.on hB3 hx.lt
  have HB3 : Hid (Below w.heap.size w w3) := below_then hbW hB3
  have HA3 : Hid (PtsAt w3 a n w3.heap.size f) := (HA1.out.on hB3).wide hB3.size
  have HT3 : Hid (Tab w3) := HT1.out.on hB3 HT1.out.1
  clear hx hB3 hbW HA1 HT1
  go_wp2_with fail
  refine (toPointS_any a n c hn1 f _ HA3.out).mono ?_
  rintro e w4 ⟨rfl, hR4, hb4⟩
  have HQ4 : Hid (PtsAt w4 (some ⟨w3.heap.size, 0, none⟩) n w4.heap.size f) := hR4.pts hR4.lt
  have hx4 := hx3.on hb4 hx3.lt
  have HB4 : Hid (Below w.heap.size w w4) := below_then HB3.out hb4
  have HA4 : Hid (PtsAt w4 a n w4.heap.size f) := (HA3.out.on hb4).wide hb4.size
  have HT4 : Hid (Tab w4) := HT3.out.on hb4 HT3.out.1
  clear hR4 hb4 hx3 HB3 HA3 HT3
  go_wp2_with (refine load_blk rfl rfl rfl hx4 Tryd.underlying24 infoLP ?_)
  refine (HTS.out _).mono ?_
  rintro e w5 ⟨rfl, hb5⟩
  have HQ5 : Hid (PtsAt w5 (some ⟨w3.heap.size, 0, none⟩) n w5.heap.size f) := (HQ4.out.on hb5).wide hb5.size
  have HB5 : Hid (Below w.heap.size w w5) := below_then HB4.out hb5
  have HA5 : Hid (PtsAt w5 a n w5.heap.size f) := (HA4.out.on hb5).wide hb5.size
  have HT5 : Hid (Tab w5) := HT4.out.on hb5 HT4.out.1
  clear hb5 HQ4 HB4 HA4 HT4 hx4
  go_wp2_with fail
  refine (HQ1.out _ _ _ HQ5.out HT5.out).mono ?_
  rintro e w6 ⟨rfl, hb6⟩
  have HQ6 : Hid (PtsAt w6 (some ⟨w3.heap.size, 0, none⟩) n w6.heap.size f) := (HQ5.out.on hb6).wide hb6.size
  have HB6 : Hid (Below w.heap.size w w6) := below_then HB5.out hb6
  have HA6 : Hid (PtsAt w6 a n w6.heap.size f) := (HA5.out.on hb6).wide hb6.size
  clear hb6 HQ5 HB5 HA5 HT5 HQ1
  go_wp2_with fail
  refine (toPointS_any a n c hn1 f _ HA6.out).mono ?_
  rintro e w7 ⟨rfl, hR7, hb7⟩
  have HQ7 : Hid (PtsAt w7 (some ⟨w3.heap.size, 0, none⟩) n w7.heap.size f) := (HQ6.out.on hb7).wide hb7.size
  have HS7 : Hid (PtsAt w7 (some ⟨w6.heap.size, 0, none⟩) n w7.heap.size f) := hR7.pts hR7.lt
  have HB7 : Hid (Below w.heap.size w w7) := below_then HB6.out hb7
  clear hR7 hb7 HQ6 HB6 HA6
  go_wp2_with fail
  refine (eqPointS_any _ _ n n n hn1 f _ HQ7.out HS7.out).mono ?_
  rintro e w8 ⟨rfl, hb8⟩
  have HB8 : Hid (Below w.heap.size w w8) := below_then HB7.out hb8
  clear hb8 HQ7 HS7 HB7
  go_wp2
  go_ret
  exact ⟨rfl, HB8.out⟩

end Go.Proofs.YtldkdgbcnbgmiabDoor

/-
  What the rows list of the table of the rounds.
-/
namespace Go.Proofs.YtldkdgbcnbgmiabDoor
open Go.RowKit

theorem gTab : Tryd.prog.globalNamed "loop.example/g00321/impl.roundWords" = some 0 := by kernel_rfl
theorem gTabType : (Tryd.prog.globals[0]?).map (·.type) = some 88 := by kernel_rfl
theorem cellsT : Tryd.prog.cellsOf 88 = 24 := by kernel_rfl
theorem cellsW : Tryd.prog.cellsOf 68 = 1 := by kernel_rfl
theorem rcL_val : ∀ i, i < 24 → wv (rcW i) = ((rcL.getD i 0 : Nat) : Int) := by decide

theorem fnExactAllSigOk_tab {W : World} (h : laidMetH Tryd.prog Rows.fnExactAllSigOkRow.laid W) : Tab W := by
  rw [MakeChecks.laidMetH_plain _ _ _ (by kernel_rfl)] at h
  have e : Rows.fnExactAllSigOkRow.laid = [("loop.example/g00321/impl.roundWords", Lib.tabData .u64 (rcL.map Int.ofNat))] := by kernel_rfl
  rw [e] at h
  have t := Lib.tabIs_of_head (rest := []) gTab gTabType Tryd.underlying88 Tryd.underlying68 cellsW cellsT h
  have c : ∀ i, i < 24 → W.cell? ⟨0, i, none⟩ = some (.int .u64 (wv (rcW i))) := fun i hi => by
    have := t.cell gTab i (by simpa [rcL] using hi)
    rw [this, rcL_val i hi]
    have hl : i < rcL.length := by simpa [rcL] using hi
    simp only [List.getD_eq_getElem?_getD, List.getElem?_map, List.getElem?_eq_getElem hl, Option.map_some, Option.getD_some]
    rfl
  exact ⟨Nat.lt_of_le_of_lt (Nat.zero_le _) (World.block_lt_of_cell? W _ (c 0 (by omega))), c⟩

end Go.Proofs.YtldkdgbcnbgmiabDoor

/-
  Listed variables read behind a call as they read before, where nothing below the old memory's end has changed.
-/
namespace Go.Proofs.YtldkdgbcnbgmiabDoor
open Go.RowKit Go.ChangeShapes

/-- Each named variable is of a type that can be read. -/
def varsOk (P : Program) (ns : List String) : Bool := ns.all fun n => match (P.globalNamed n).bind fun g => (P.globals[g]?).map (·.type) with
  | some t => P.readableRec t && decide (t < P.types.size)
  | none => true

theorem trodVars_step {H : Type} {enc : TypeId × Value → H} {P : Program} {w : World} {spare : Nat → Bool} {n : String} {ns : List String} {gs : List (DataW H)} {ps : List MemPlace} (h : DataW.TrodVars enc P w spare (n :: ns) gs ps) :
    ∃ d ds q, gs = d :: ds ∧ DataW.TrodVars enc P w spare ns ds q := by
  cases gs with
  | nil => simp [DataW.TrodVars] at h
  | cons d ds =>
    obtain ⟨g, t, cs, fuel, p, q, _, _, _, _, hs, _⟩ := h
    exact ⟨d, ds, q, rfl, hs⟩

theorem var_below {P : Program} {W W' : World} (hb : Below W.heap.size W W') {n : String} {cs : Array Value} (h : W.var? P n = some cs) : W'.var? P n = some cs := by
  unfold World.var? at h ⊢
  cases hg : P.globalNamed n with
  | none => rw [hg] at h; cases h
  | some g =>
    rw [hg] at h
    simp only [Option.bind_some] at h ⊢
    have hlt : g < W.heap.size := by
      rcases Nat.lt_or_ge g W.heap.size with x | x
      · exact x
      · rw [Array.getElem?_eq_none x] at h; cases h
    rw [hb.block g hlt]
    exact h

theorem vars_below {H : Type} {enc : TypeId × Value → H} {P : Program} (hl : laidOutB P = true) {W W' : World} (hb : Below W.heap.size W W') : ∀ {ns : List String} {gs : List (DataW H)} {ps : List MemPlace},
    varsOk P ns = true → DataW.TrodVars enc P W (fun _ => true) ns gs ps → DataW.TrodVars enc P W' (fun b => decide (b < W.heap.size)) ns gs ps
  | [], [], _, _, h => h
  | [], _ :: _, _, _, h => h.elim
  | _ :: _, [], _, _, h => h.elim
  | n :: ns, d :: ds, ps, ho, h => by
    have hlt := DataW.TrodVars.lt h
    obtain ⟨g, t, cs, fuel, p, q, h1, h2, h3, h4, hs, rfl⟩ := h
    unfold varsOk at ho
    rw [List.all_cons, Bool.and_eq_true] at ho
    obtain ⟨ho1, ho2⟩ := ho
    rw [h1, Option.bind_some, h2] at ho1
    simp only [Bool.and_eq_true, decide_eq_true_eq] at ho1
    refine ⟨g, t, cs, fuel, p, q, h1, h2, var_below hb h3, ?_, vars_below hl hb ho2 hs, rfl⟩
    have hp : ∀ x ∈ p, x.block < W.heap.size := fun x hx => hlt x (by simp [hx])
    exact DataW.trod_stays (Go.kids_book hl ho1.1) (Go.book_sized ho1.1) (fun h => by cases h) ⟨ho1.2, Go.book_self t⟩ h4 (fun x hx => hb.same (hp x hx)) (fun x hx => by simpa using hp x hx)

end Go.Proofs.YtldkdgbcnbgmiabDoor

/-
  What an argument of points is to the walk.
-/
namespace Go.Proofs.YtldkdgbcnbgmiabDoor
open Go.RowKit Go.ChangeShapes Go.WideShapes Go.Joins Go.Deep

theorem cellsLP : Tryd.prog.cellsOf 24 = 3 := by kernel_rfl
theorem cells3P : Tryd.prog.cellsOf 3 = 1 := by kernel_rfl
theorem cells4P : Tryd.prog.cellsOf 4 = 1 := by kernel_rfl

set_option maxRecDepth 100000 in
theorem ptsAt_of {H : Type} {enc : TypeId × Value → H} {W : World} {sp : Nat → Bool} {fuel : Nat} {a : Option Addr} {len cap : Nat} {x : DataW H × List MemPlace} (h : DataW.trod enc Tryd.prog W 0 sp true fuel 22 [.slice a len cap] = some x) :
    ∃ f, PtsAt W a len W.heap.size f ∧ len ≤ 9223372036854775807 := by
  rcases open_slice Tryd.underlying22 h with ⟨hcs, _⟩ | ⟨x, l, c, m, n, D, Pl, hcs, hb, hl, hm, hmm, _, hx⟩
  · simp at hcs
    obtain ⟨rfl, rfl, rfl⟩ := hcs
    exact ⟨fun _ => (0, 0, false), fun j hj => by omega, by omega⟩
  · simp at hcs
    obtain ⟨rfl, rfl, rfl⟩ := hcs
    have hlm : len ≤ m := by rw [hmm]; split <;> omega
    have each : ∀ i, i < m → ∃ q : Pt, W.cell? (x.add (i * 3)) = some (.int .i64 q.1) ∧ W.cell? (x.add (i * 3 + 1)) = some (.int .i64 q.2.1) ∧ W.cell? (x.add (i * 3 + 2)) = some (.bool q.2.2) := by
      intro i hi
      obtain ⟨cs', h1, h2⟩ := hx i hi
      rw [cellsLP] at h1
      obtain ⟨_, hlen, hcell⟩ := World.cells?_some h1
      obtain ⟨y0, y1, y2, k, hxy, _, u0, u1, u2⟩ := trod_struct3 Tryd.underlying24 h2
      match cs', hlen with
      | [v0, v1, v2], _ =>
        simp only [cells3P, cells4P, List.drop, List.take] at u0 u1 u2
        obtain ⟨s, e0, d0, _⟩ := DataW.trod_int Tryd.underlying3 u0
        obtain ⟨q, e1, d1, _⟩ := DataW.trod_int Tryd.underlying3 u1
        obtain ⟨p, e2, d2⟩ := DataW.trod_bool Tryd.underlying4 u2
        simp only [List.cons.injEq, and_true] at e0 e1 e2
        subst e0; subst e1; subst e2
        have c0 := hcell 0 (by omega)
        have c1 := hcell 1 (by omega)
        have c2 := hcell 2 (by omega)
        rw [add_add] at c0 c1 c2
        exact ⟨(s, q, p), by simpa using c0, by simpa using c1, by simpa using c2⟩
    obtain ⟨q, hq⟩ := choose_lt each
    refine ⟨q, fun j hj => ?_, by unfold maxLen at hm; omega⟩
    obtain ⟨c0, c1, c2⟩ := hq j (by omega)
    obtain ⟨b, off, spot⟩ := x
    have hspot : spot = none := by simpa [Addr.add] using World.cell?_spot (hq 0 (by omega)).1
    subst hspot
    rw [Addr.add_lit] at c0 c1 c2
    exact ⟨b, off, rfl, World.block_lt_of_cell? W _ c0, c0, c1, c2⟩

end Go.Proofs.YtldkdgbcnbgmiabDoor
