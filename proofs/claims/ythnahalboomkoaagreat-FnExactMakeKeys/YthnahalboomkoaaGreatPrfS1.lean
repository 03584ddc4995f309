/-
  The walks of the specification's word on the numbers of keys.
  (-DROP-: what the seat lacks is left out.)
-/
import Derived.Test.YthnahalboomkoaaGreatRwSys
import Derived.Test.YthnahalboomkoaaGreatJoined9
import Derived.Test.YthnahalboomkoaaGreatJoined10
import Derived.Test.YthnahalboomkoaaGreatJoined6

namespace Go.Proofs.YthnahalboomkoaaGreat
open Go.RowKit

theorem sScal_any (x : Int) (w : World) : Calls Tryz.prog 97 #[.int .i64 x] w fun e w' => e = .returned (.bool (scalB x)) ∧ w = w' := by
  have HI : Hid (∀ w, Calls Tryz.prog 87 #[.int .i64 x, .int .i64 1, .int .i64 1008] w fun e w' => e = .returned (.bool (scalB x)) ∧ w = w') := fun w => sBetween_any x 1 1008 w
  go_enter Tryz.func97, Tryz.ntmps97
  go_wp2_with (go_at_call 87; refine (HI.out _).mono ?_; rintro e w1 ⟨rfl, rfl⟩)
  go_ret
  exact ⟨rfl, rfl⟩

set_option maxHeartbeats 3200000 in
set_option maxRecDepth 100000 in
theorem sToxic_any (wi pu : Int) (hwf : (Lit.int .i64 wi).wf = true) (a : Option Addr) (n c : Nat) (hn : n ≤ 9223372036854775807) (ls : List (List Int)) (hz : ∀ j, (ls.getD j []).length ≤ 9223372036854775807) (ta al be ga de : Int) (w : World) (hA : NAt 3 w w.heap.size (.slice a n c) n ls) :
    Calls Tryz.prog 77 #[.agg #[.int .i64 wi, .int .i64 pu, .slice a n c], .agg #[.int .i64 ta, .int .i64 al, .int .i64 be, .int .i64 ga, .int .i64 de]] w fun e w' => e = .returned (.bool (toxB wi pu n ls ta al be ga de)) ∧ Below w.heap.size w w' := by
  obtain ⟨W, hW, hb, hs, hr⟩ := boxes1r w 26 31 #[.int .i64 wi, .int .i64 pu, .slice a n c] #[.int .i64 ta, .int .i64 al, .int .i64 be, .int .i64 ga, .int .i64 de]
  have CS : Hid (∀ V, Below w.heap.size w V → Calls Tryz.prog 150 #[.agg #[.int .i64 wi, .int .i64 pu, .slice a n c]] V fun e w' => e = .returned (.bool (sysOk wi pu n ls)) ∧ Below V.heap.size V w') := fun V hV => sSysOk_any wi pu hwf a n c hn ls hz V ((hA.on hV).wide hV.size)
  have HT : Hid (toxB wi pu n ls ta al be ga de = ((((((sysOk wi pu n ls && scalB ta) && scalB al) && scalB be) && scalB ga) && scalB de) && decide ((n : Int) < ta))) := rfl
  have HB : Hid (Below w.heap.size w W) := hb
  have Cta : Hid (∀ w, Calls Tryz.prog 97 #[.int .i64 ta] w fun e w' => e = .returned (.bool (scalB ta)) ∧ w = w') := sScal_any ta
  have Cal : Hid (∀ w, Calls Tryz.prog 97 #[.int .i64 al] w fun e w' => e = .returned (.bool (scalB al)) ∧ w = w') := sScal_any al
  have Cbe : Hid (∀ w, Calls Tryz.prog 97 #[.int .i64 be] w fun e w' => e = .returned (.bool (scalB be)) ∧ w = w') := sScal_any be
  have Cga : Hid (∀ w, Calls Tryz.prog 97 #[.int .i64 ga] w fun e w' => e = .returned (.bool (scalB ga)) ∧ w = w') := sScal_any ga
  have Cde : Hid (∀ w, Calls Tryz.prog 97 #[.int .i64 de] w fun e w' => e = .returned (.bool (scalB de)) ∧ w = w') := sScal_any de
  clear hA hz hwf
  go_enter Tryz.func77, Tryz.ntmps77
  go_wp2_with (refine load_blk rfl rfl rfl hs Tryz.underlying26 infoSy ?_)
  clear hW
  refine (CS.out _ HB.out).mono ?_
  rintro e w1 ⟨rfl, hb1⟩
  have hs1 := hs.on hb1 hs.lt
  have hr1 := hr.on hb1 hr.lt
  have HB1 : Hid (Below w.heap.size w w1) := HB.out.trans (hb1.mono HB.out.size)
  have q0 : w1.cell? ⟨w.heap.size + 1, 0, none⟩ = some (.int .i64 ta) := hr1.cell 0
  have q1 : w1.cell? ⟨w.heap.size + 1, 1, none⟩ = some (.int .i64 al) := hr1.cell 1
  have q2 : w1.cell? ⟨w.heap.size + 1, 2, none⟩ = some (.int .i64 be) := hr1.cell 2
  have q3 : w1.cell? ⟨w.heap.size + 1, 3, none⟩ = some (.int .i64 ga) := hr1.cell 3
  have q4 : w1.cell? ⟨w.heap.size + 1, 4, none⟩ = some (.int .i64 de) := hr1.cell 4
  have qs : w1.cell? ⟨w.heap.size, 2, none⟩ = some (.slice a n c) := hs1.cell 2
  clear hb1 hs hr hs1 hr1 CS HB
  cases h0 : sysOk wi pu n ls
  · have HE : Hid (toxB wi pu n ls ta al be ga de = false) := by show _ = _; rw [HT.out, h0]; simp
    go_wp2
    go_ret
    exact ⟨by rw [HE.out]; rfl, HB1.out⟩
  · skip
    go_wp2_with fail
    go_at_call 97
    refine (Cta.out _).mono ?_
    rintro e wz0 ⟨rfl, rfl⟩
    cases h1 : scalB ta
    · have HE : Hid (toxB wi pu n ls ta al be ga de = false) := by show _ = _; rw [HT.out, h0, h1]; simp
      go_wp2
      go_ret
      exact ⟨by rw [HE.out]; rfl, HB1.out⟩
    · skip
      go_wp2_with fail
      go_at_call 97
      refine (Cal.out _).mono ?_
      rintro e wz1 ⟨rfl, rfl⟩
      cases h2 : scalB al
      · have HE : Hid (toxB wi pu n ls ta al be ga de = false) := by show _ = _; rw [HT.out, h0, h1, h2]; simp
        go_wp2
        go_ret
        exact ⟨by rw [HE.out]; rfl, HB1.out⟩
      · skip
        go_wp2_with fail
        go_at_call 97
        refine (Cbe.out _).mono ?_
        rintro e wz2 ⟨rfl, rfl⟩
        cases h3 : scalB be
        · have HE : Hid (toxB wi pu n ls ta al be ga de = false) := by show _ = _; rw [HT.out, h0, h1, h2, h3]; simp
          go_wp2
          go_ret
          exact ⟨by rw [HE.out]; rfl, HB1.out⟩
        · skip
          go_wp2_with fail
          go_at_call 97
          refine (Cga.out _).mono ?_
          rintro e wz3 ⟨rfl, rfl⟩
          cases h4 : scalB ga
          · have HE : Hid (toxB wi pu n ls ta al be ga de = false) := by show _ = _; rw [HT.out, h0, h1, h2, h3, h4]; simp
            go_wp2
            go_ret
            exact ⟨by rw [HE.out]; rfl, HB1.out⟩
          · skip
            go_wp2_with fail
            go_at_call 97
            refine (Cde.out _).mono ?_
            rintro e wz4 ⟨rfl, rfl⟩
            cases h5 : scalB de
            · have HE : Hid (toxB wi pu n ls ta al be ga de = false) := by show _ = _; rw [HT.out, h0, h1, h2, h3, h4, h5]; simp
              go_wp2
              go_ret
              exact ⟨by rw [HE.out]; rfl, HB1.out⟩
            · skip
              have HE : Hid (toxB wi pu n ls ta al be ga de = decide ((n : Int) < ta)) := by show _ = _; rw [HT.out, h0, h1, h2, h3, h4, h5]; simp
              go_wp2
              go_ret
              exact ⟨by rw [HE.out]; rfl, HB1.out⟩

end Go.Proofs.YthnahalboomkoaaGreat
