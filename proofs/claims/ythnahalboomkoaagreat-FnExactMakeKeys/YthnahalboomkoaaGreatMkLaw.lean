/-
  The walk of the exact law of MakeKeys.
  (-DROP-: what the seat lacks is left out.)
-/
import Derived.Test.YthnahalboomkoaaGreatMkLaw0
import Derived.Test.YthnahalboomkoaaGreatPrfMkS
import Derived.Test.YthnahalboomkoaaGreatPrfI3
import Derived.Test.YthnahalboomkoaaGreatJoined25

namespace Go.Proofs.YthnahalboomkoaaGreat
open Go.RowKit

set_option maxHeartbeats 25600000 in
set_option maxRecDepth 100000 in
theorem lawMakeKeys (wi pu : Int) (a : Option Addr) (n c : Nat) (ta al be ga de : Int) (hw0 : (Lit.int .i64 wi).wf = true) (hn : n ≤ 9223372036854775807) (ls : List (List Int)) (hz : ∀ j, (ls.getD j []).length ≤ 9223372036854775807) (w : World) (hA : NAt 3 w w.heap.size (.slice a n c) n ls) :
    Calls Tryz.prog 6 #[sysV wi pu (.slice a n c), .agg #[.int .i64 ta, .int .i64 al, .int .i64 be, .int .i64 ga, .int .i64 de]] w fun e w' => e = .returned (.bool true) ∧ Below w.heap.size w w' := by
  unfold sysV
  have HA : Hid (NAt 3 w w.heap.size (.slice a n c) n ls) := hA
  obtain ⟨W, hW, hbW, hs, hr⟩ := boxes1r w 69 70 #[.int .i64 wi, .int .i64 pu, .slice a n c] #[.int .i64 ta, .int .i64 al, .int .i64 be, .int .i64 ga, .int .i64 de]
  have HZ : Hid (szF 1048576 (n + tot ls) = -1 ∨ (¬ szF 1048576 (n + tot ls) < 0 ∧ n + tot ls ≤ 1048576)) := by show _ ∨ _; unfold szF; by_cases h : n + tot ls ≤ 1048576 <;> simp [h] <;> omega
  have HSZ : Hid (Calls Tryz.prog 34 #[.agg #[.int .i64 wi, .int .i64 pu, .slice a n c], .int .i64 1048576] W fun e w' => e = .returned (.int .i64 (szF 1048576 (n + tot ls))) ∧ Below W.heap.size W w') := szSystem_any wi pu a n c hn ls hz W ((hA.on hbW).wide hbW.size)
  generalize szF 1048576 (n + tot ls) = left at HZ HSZ
  have HBW : Hid (Below w.heap.size w W) := hbW
  clear hbW hA
  rcases HZ.out with rfl | ⟨hleft, htot⟩
  · skip
    go_enter Tryz.func6, Tryz.ntmps6
    go_wp2_with (refine load_blk rfl rfl rfl hs Tryz.underlying69 infoSl ?_)
    clear hW
    refine HSZ.out.mono ?_
    rintro e wz ⟨rfl, hbz⟩
    have hBz := below_then HBW.out hbz
    clear hbz HSZ
    go_wp2
    go_ret
    exact ⟨rfl, hBz⟩
  have hn1 : n ≤ 1048576 := by omega
  have hz1 : ∀ j, (ls.getD j []).length ≤ 1048576 := fun j => by
    rcases Nat.lt_or_ge j ls.length with h | h
    · have := tot_at_le ls h; omega
    · have e : ls.getD j [] = [] := by simp [h]
      rw [e]; exact Nat.zero_le _
  obtain ⟨A, B, G, D, q, nI, nU, nV, nL, nZ, l, hP, hq1, hq2⟩ : ∃ (A B G D : Pt) (q : Bool) (nI nU nV nL nZ : Nat) (l : Nat → List Pt), MkP nI nU nV nL nZ l ∧ (∀ g V, NAt 3 V V.heap.size (.slice (some ⟨g, 0, none⟩) n n) n ls → Calls Tryz.prog 11 #[.agg #[.int .i64 wi, .int .i64 pu, .slice (some ⟨g, 0, none⟩) n n], .agg #[.int .i64 ta, .int .i64 al, .int .i64 be, .int .i64 ga, .int .i64 de]] V fun e w' => MkG A B G D q nI nU nV nL nZ l V e w') ∧ (∀ g V, NAt 3 V V.heap.size (.slice (some ⟨g, 0, none⟩) n n) n ls → Calls Tryz.prog 23 #[.agg #[.int .i64 wi, .int .i64 pu, .slice (some ⟨g, 0, none⟩) n n], .agg #[.int .i64 ta, .int .i64 al, .int .i64 be, .int .i64 ga, .int .i64 de]] V fun e w' => MkG A B G D q nI nU nV nL nZ l V e w') := by
    have hi : ∀ g V, NAt 3 V V.heap.size (.slice (some ⟨g, 0, none⟩) n n) n ls → Calls Tryz.prog 11 #[.agg #[.int .i64 wi, .int .i64 pu, .slice (some ⟨g, 0, none⟩) n n], .agg #[.int .i64 ta, .int .i64 al, .int .i64 be, .int .i64 ga, .int .i64 de]] V fun e w' => MkEnd V wi pu n ls ta al be ga de e w' := fun g V hN => iMake_of (fun wi pu hwf a n c hn ls hz ta al be ga de w hA => iMult_any wi pu hwf a n c hn ls hz ta al be ga de w hA) wi pu hw0 _ n n (by omega) ls (fun j => Nat.le_trans (hz1 j) (by decide)) ta al be ga de V hN
    have hs : ∀ g V, NAt 3 V V.heap.size (.slice (some ⟨g, 0, none⟩) n n) n ls → Calls Tryz.prog 23 #[.agg #[.int .i64 wi, .int .i64 pu, .slice (some ⟨g, 0, none⟩) n n], .agg #[.int .i64 ta, .int .i64 al, .int .i64 be, .int .i64 ga, .int .i64 de]] V fun e w' => MkEnd V wi pu n ls ta al be ga de e w' := fun g V hN => sMake_any wi pu hw0 _ n n (by omega) ls (fun j => Nat.le_trans (hz1 j) (by decide)) ta al be ga de V hN
    cases hb : toxB wi pu n ls ta al be ga de
    · exact ⟨_, _, _, _, _, _, _, _, _, _, _, mkP_false, fun g V h => (hi g V h).mono fun e w' => mkG_false hb, fun g V h => (hs g V h).mono fun e w' => mkG_false hb⟩
    · exact ⟨_, _, _, _, _, _, _, _, _, _, _, mkP_true hb, fun g V h => (hi g V h).mono fun e w' => mkG_true hb, fun g V h => (hs g V h).mono fun e w' => mkG_true hb⟩
  have CI : Hid _ := hq1
  have CS : Hid _ := hq2
  clear hq1 hq2 hw0
  have HP : Hid (MkP nI nU nV nL nZ l) := hP
  have hcI := hP.bI
  have hcU := hP.bU
  have hcV := hP.bV
  have hcL := hP.bL
  have hcZ := hP.bZ
  clear hP
  have CT : Hid (∀ V, Calls Tryz.prog 36 #[.agg #[.int .i64 ta, .int .i64 al, .int .i64 be, .int .i64 ga, .int .i64 de]] V fun e w' => e = .returned (.agg #[.int .i64 ta, .int .i64 al, .int .i64 be, .int .i64 ga, .int .i64 de]) ∧ Below V.heap.size V w') := toToxic_any ta al be ga de
  have CO : Hid (∀ V, Below w.heap.size w V → Calls Tryz.prog 35 #[.agg #[.int .i64 wi, .int .i64 pu, .slice a n c]] V fun e w' => ∃ g vs, e = .returned (.agg #[.int .i64 wi, .int .i64 pu, .slice (some ⟨g, 0, none⟩) n n]) ∧ NOwnV 3 146 V.heap.size w'.heap.size w' (.slice (some ⟨g, 0, none⟩) n n) n vs ls ∧ Below V.heap.size V w') := fun V hV => toSystem_any wi pu a n c hn1 ls hz1 V ((HA.out.on hV).wide hV.size)
  have CE : Hid (∀ g1 g2 V, NAt 3 V V.heap.size (.slice (some ⟨g1, 0, none⟩) n n) n ls → NAt 3 V V.heap.size (.slice (some ⟨g2, 0, none⟩) n n) n ls → Calls Tryz.prog 38 #[.agg #[.int .i64 wi, .int .i64 pu, .slice (some ⟨g1, 0, none⟩) n n], .agg #[.int .i64 wi, .int .i64 pu, .slice (some ⟨g2, 0, none⟩) n n]] V fun e w' => e = .returned (.bool true) ∧ Below V.heap.size V w') := fun g1 g2 V h1 h2 => eqSystem_any wi pu _ _ n n n hn1 ls hz1 V h1 h2
  go_enter Tryz.func6, Tryz.ntmps6
  go_wp2_with (refine load_blk rfl rfl rfl hs Tryz.underlying69 infoSl ?_)
  clear hW
  refine HSZ.out.mono ?_
  rintro e w1 ⟨rfl, hb1⟩
  have hs1 := hs.on hb1 hs.lt
  have hr1 := hr.on hb1 hr.lt
  have HB : Hid (Below w.heap.size w w1) := below_then HBW.out hb1
  clear hb1 hs hr HBW HSZ
  -- the specification
  go_wp2_with fail
  have T0 : Below w1.heap.size w1 w1.drew := (Below.refl _ _).drew
  refine wp_region_to [(0, false), (2, false)] 9 #[true, false, true, false, false, false, false, false, false, false, false] (fun wz => Below w1.heap.size w1 wz) mixes (by kernel_rfl) T0 ?_
  repeat (refine ord_float rfl rfl (fun K hK => ⟨_, (fun w' hw => by have q0 := (hs1.on hw hs1.lt).cell 0; have q1 :=  (hs1.on hw hs1.lt).cell 1; have q2 :=  (hs1.on hw hs1.lt).cell 2; have q3 :=  (hr1.on hw hr1.lt).cell 0; have q4 :=  (hr1.on hw hr1.lt).cell 1; have q5 :=  (hr1.on hw hr1.lt).cell 2; have q6 :=  (hr1.on hw hr1.lt).cell 3; have q7 :=  (hr1.on hw hr1.lt).cell 4; go_simp; exact rfl), ?_⟩); go_simp; refine hK _ ?_; clear hK K)
  refine ord_nil ?_
  refine anyH_chn (H := [1, 3, 4, 5, 6, 7, 8, 9, 10]) (LS := [#[true, false, true, false, false, false, false, false, false, false, false], #[true, true, true, false, false, false, false, false, false, false, false], #[true, false, true, false, false, false, false, false, true, false, false], #[true, true, true, true, false, false, false, false, false, false, false], #[true, true, true, false, false, false, false, false, true, false, false], #[true, true, true, true, true, false, false, false, false, false, false], #[true, true, true, true, false, false, false, false, true, false, false], #[true, true, true, true, true, true, false, false, false, false, false], #[true, true, true, true, true, false, false, false, true, false, false], #[true, true, true, true, true, true, true, false, false, false, false], #[true, true, true, true, true, true, false, true, false, false, false], #[true, true, true, true, true, true, false, false, true, false, false], #[true, true, true, true, true, true, true, true, false, false, false], #[true, true, true, true, true, true, true, false, true, false, false], #[true, true, true, true, true, true, false, true, true, false, false], #[true, true, true, true, true, true, true, true, true, false, false], #[true, true, true, true, true, true, true, false, true, true, false], #[true, true, true, true, true, true, true, true, true, true, false], #[true, true, true, true, true, true, true, true, true, true, true]]) (Le := #[true, true, true, true, true, true, true, true, true, true, true]) w1 (fun i x y => mkVr (.agg #[.int .i64 ta, .int .i64 al, .int .i64 be, .int .i64 ga, .int .i64 de]) A B G D q nI nU nV nL nZ (kputMk5 i) x y) (fun i x w => mkMr wi pu n ls (kputMk5 i) x w) (MkA w1.heap.size A B G D q nI nU nV nL nZ l) MkN 4 8 9 40 #[.int .i64 0, .int .i64 0, .bool false, .int .i64 0, .int .i64 0, .bool false, .int .i64 0, .int .i64 0, .bool false, .int .i64 0, .int .i64 0, .bool false, .slice none 0 0, .slice none 0 0, .slice none 0 0, .slice none 0 0, .slice none 0 0] partM (fun _ _ _ _ h hb => mkMr_on h hb) (fun _ _ _ h hb => mkA_on h hb) (fun _ _ h => mkA_new h) (fun _ _ _ _ h hN => mkA_put h hN) (by kernel_rfl) (by kernel_rfl) (by kernel_rfl) rfl rfl (by kernel_rfl) (fun i hi => by have h0 := first_noneM (k := kputMk5) (by kernel_rfl) i hi; exact ⟨fun y => by show mkVr _ _ _ _ _ _ _ _ _ _ _ (kputMk5 i) _ _; rw [h0]; exact trivial, by show mkMr _ _ _ _ (kputMk5 i) _ _; rw [h0]; exact trivial⟩) (fun _ _ => trivial) (fun _ _ => trivial) (fun _ _ => trivial) ?_ ?_ ?_ T0 ?_
  · intro L i o v wz hiH hna hns ho hJ hS hun hall
    rw [putMk5 v _ rfl rfl rfl rfl rfl rfl rfl rfl rfl rfl]
    simp only [List.mem_cons, List.not_mem_nil, or_false] at hiH
    rcases hiH with rfl | rfl | rfl | rfl | rfl | rfl | rfl | rfl | rfl <;> obtain rfl := Option.some.inj ho
    · refine .inr ⟨_, _, (by go_simp <;> first | exact rfl | exact ⟨rfl, rfl⟩), ?_⟩
      refine (CO.out wz (HB.out.trans (hS.mono HB.out.size))).mono ?_
      rintro e w3 ⟨g, vs, rfl, hO, hb⟩
      exact ⟨_, rfl, fun _ _ => trivial, fun _ => ⟨g, rfl, hO.at⟩, fun h => absurd h (by decide), hb⟩
    · refine .inr ⟨_, _, (by go_simp <;> first | exact rfl | exact ⟨rfl, rfl⟩), ?_⟩
      refine (CT.out wz).mono ?_
      rintro e w3 ⟨rfl, hb⟩
      exact ⟨_, rfl, fun _ _ => rfl, fun _ => trivial, fun h => absurd h (by decide), hb⟩
    · obtain ⟨g1, e1, hN1⟩ : ∃ g, v 1 = .agg #[.int .i64 wi, .int .i64 pu, .slice (some ⟨g, 0, none⟩) n n] ∧ NAt 3 wz wz.heap.size (.slice (some ⟨g, 0, none⟩) n n) n ls := hJ.mem (un_lt hun).2 1 (hall { on := 1, ground := .data } (by simp) rfl)
      have e3 : v 3 = .agg #[.int .i64 ta, .int .i64 al, .int .i64 be, .int .i64 ga, .int .i64 de] := hJ.val 3 (hall { on := 3, ground := .data } (by simp) rfl) undef (fun h => by rw [(un_lt hun).2] at h; cases h)
      rw [e1, e3]
      refine .inr ⟨_, _, (by go_simp <;> first | exact rfl | exact ⟨rfl, rfl⟩), ?_⟩
      refine (CS.out g1 wz hN1).mono ?_
      intro e w3 h
      obtain ⟨y, rfl, hy1, hy2, hy3, hb⟩ := mkG_A h hS.size
      exact ⟨y, rfl, fun z hz => ⟨(hz rfl).symm, hy1⟩, fun h => absurd rfl h, fun _ => ⟨hy2, hy3⟩, hb⟩
    · have h4 := hall { on := 4, ground := .data } (by simp) rfl
      exact .inl ⟨v 4, (by go_simp <;> rfl), fun y hy => hJ.val 4 h4 y hy, trivial, by decide⟩
    · have h5 := hall { on := 5, ground := .data } (by simp) rfl
      obtain ⟨_, aIy, cIy, aUy, cUy, aVy, cVy, aLy, cLy, aZy, cZy, hy5⟩ : v 5 = v 4 ∧ IsMk A B G D q nI nU nV nL nZ (v 5) := hJ.val 5 h5 _ (fun _ => rfl)
      rw [hy5]
      exact .inl ⟨.agg #[.int .i64 A.1, .int .i64 A.2.1, .bool A.2.2, .int .i64 B.1, .int .i64 B.2.1, .bool B.2.2, .int .i64 G.1, .int .i64 G.2.1, .bool G.2.2, .int .i64 D.1, .int .i64 D.2.1, .bool D.2.2, .slice aIy nI cIy, .slice aUy nU cUy, .slice aVy nV cVy, .slice aLy nL cLy, .slice aZy nZ cZy], (by go_simp <;> rfl), fun y hy => by
        have e : v 5 = y := (show v 5 = y ∧ IsMk A B G D q nI nU nV nL nZ (v 5) from hJ.val 5 h5 y hy).1
        show (_ : Value) = Value.agg (partM y)
        rw [← e, hy5]
        rfl, trivial, by decide⟩
    · have h5 := hall { on := 5, ground := .data } (by simp) rfl
      obtain ⟨_, aIy, cIy, aUy, cUy, aVy, cVy, aLy, cLy, aZy, cZy, hy5⟩ : v 5 = v 4 ∧ IsMk A B G D q nI nU nV nL nZ (v 5) := hJ.val 5 h5 _ (fun _ => rfl)
      rw [hy5]
      exact .inl ⟨.bool q, (by go_simp <;> rfl), fun _ _ => rfl, trivial, by decide⟩
    · exact absurd rfl hna
    · exact absurd rfl hns
    · have e7 : v 7 = .bool q := hJ.val 7 (hall { on := 7, ground := .data } (by simp) rfl) _ (fun _ => rfl)
      rw [e7]
      exact .inl ⟨.bool q, (by go_simp <;> rfl), fun _ _ => rfl, trivial, by decide⟩
  · intro v wz
    rw [putMk5 v _ rfl rfl rfl rfl rfl rfl rfl rfl rfl rfl]
    go_simp <;> rfl
  · intro L v wz g hJ hall hc hg hblk
    have e5 : v 6 = .agg (partM (v 4)) := hJ.val 6 (hall { on := 6, ground := .data } (by simp) rfl) _ (fun _ => rfl)
    obtain ⟨aIx, cIx, aUx, cUx, aVx, cVx, aLx, cLx, aZx, cZx, lo, hi, hy, _, _, _⟩ := hJ.ans hc
    have hp : partM (v 4) = #[.int .i64 A.1, .int .i64 A.2.1, .bool A.2.2, .int .i64 B.1, .int .i64 B.2.1, .bool B.2.2, .int .i64 G.1, .int .i64 G.2.1, .bool G.2.2, .int .i64 D.1, .int .i64 D.2.1, .bool D.2.2, .slice aIx nI cIx, .slice aUx nU cUx, .slice aVx nV cVx, .slice aLx nL cLx, .slice aZx nZ cZx] := by rw [hy]; rfl
    rw [hp] at e5 ⊢
    rw [putMk5 v _ rfl rfl rfl rfl rfl rfl rfl rfl rfl rfl]
    exact exec_storeR (t := 40) (p := .tmp 6) (u := .tmp 27) rfl (by go_simp <;> exact hg) (by go_simp <;> exact e5) hblk infoMk rfl (by simp [Value.oneCell'])
  · intro v w5 g5 hV hA hN hg hgW hblk hB_
    obtain ⟨aI5, cI5, aU5, cU5, aV5, cV5, aL5, cL5, aZ5, cZ5, lo5, hi5, hy5, hlo5, hhi5, hO5⟩ := hA
    have e3 : v 3 = .agg #[.int .i64 ta, .int .i64 al, .int .i64 be, .int .i64 ga, .int .i64 de] := hV 3 rfl
    have e4 : v 4 = .tuple #[.agg #[.int .i64 A.1, .int .i64 A.2.1, .bool A.2.2, .int .i64 B.1, .int .i64 B.2.1, .bool B.2.2, .int .i64 G.1, .int .i64 G.2.1, .bool G.2.2, .int .i64 D.1, .int .i64 D.2.1, .bool D.2.2, .slice aI5 nI cI5, .slice aU5 nU cU5, .slice aV5 nV cV5, .slice aL5 nL cL5, .slice aZ5 nZ cZ5], .bool q] := hy5
    have e5 : v 5 = .tuple #[.agg #[.int .i64 A.1, .int .i64 A.2.1, .bool A.2.2, .int .i64 B.1, .int .i64 B.2.1, .bool B.2.2, .int .i64 G.1, .int .i64 G.2.1, .bool G.2.2, .int .i64 D.1, .int .i64 D.2.1, .bool D.2.2, .slice aI5 nI cI5, .slice aU5 nU cU5, .slice aV5 nV cV5, .slice aL5 nL cL5, .slice aZ5 nZ cZ5], .bool q] := (show v 5 = v 4 ∧ IsMk A B G D q nI nU nV nL nZ (v 5) from hV 5 rfl).1.trans hy5
    have e6 : v 6 = .agg #[.int .i64 A.1, .int .i64 A.2.1, .bool A.2.2, .int .i64 B.1, .int .i64 B.2.1, .bool B.2.2, .int .i64 G.1, .int .i64 G.2.1, .bool G.2.2, .int .i64 D.1, .int .i64 D.2.1, .bool D.2.2, .slice aI5 nI cI5, .slice aU5 nU cU5, .slice aV5 nV cV5, .slice aL5 nL cL5, .slice aZ5 nZ cZ5] := by have h : v 6 = .agg (partM (v 4)) := hV 6 rfl; rw [hy5] at h; exact h
    have e7 : v 7 = .bool q := hV 7 rfl
    have e10 : v 10 = .bool q := hV 10 rfl
    have hblk_ : Blk w5 g5 40 #[.int .i64 A.1, .int .i64 A.2.1, .bool A.2.2, .int .i64 B.1, .int .i64 B.2.1, .bool B.2.2, .int .i64 G.1, .int .i64 G.2.1, .bool G.2.2, .int .i64 D.1, .int .i64 D.2.1, .bool D.2.2, .slice aI5 nI cI5, .slice aU5 nU cU5, .slice aV5 nV cV5, .slice aL5 nL cL5, .slice aZ5 nZ cZ5] := by rw [hy5] at hblk; exact hblk
    have hN_ : MkN (.tuple #[.agg #[.int .i64 A.1, .int .i64 A.2.1, .bool A.2.2, .int .i64 B.1, .int .i64 B.2.1, .bool B.2.2, .int .i64 G.1, .int .i64 G.2.1, .bool G.2.2, .int .i64 D.1, .int .i64 D.2.1, .bool D.2.2, .slice aI5 nI cI5, .slice aU5 nU cU5, .slice aV5 nV cV5, .slice aL5 nL cL5, .slice aZ5 nZ cZ5], .bool q]) g5 := by rw [hy5] at hN; exact hN
    rw [putMk5 v _ rfl rfl rfl rfl rfl rfl rfl rfl rfl rfl]
    rw [hg, e3, e4, e5, e6, e7, e10]
    clear hV hg hy5 hblk hN e3 e4 e5 e6 e7 e10
    generalize v 1 = j1
    generalize v 9 = j9
    clear v
    go_simp
    have H5 : Hid (Below w.heap.size w w5 ∧ Blk w5 w.heap.size 69 #[.int .i64 wi, .int .i64 pu, .slice a n c] ∧ Blk w5 (w.heap.size + 1) 70 #[.int .i64 ta, .int .i64 al, .int .i64 be, .int .i64 ga, .int .i64 de] ∧ Blk w5 g5 40 #[.int .i64 A.1, .int .i64 A.2.1, .bool A.2.2, .int .i64 B.1, .int .i64 B.2.1, .bool B.2.2, .int .i64 G.1, .int .i64 G.2.1, .bool G.2.2, .int .i64 D.1, .int .i64 D.2.1, .bool D.2.2, .slice aI5 nI cI5, .slice aU5 nU cU5, .slice aV5 nV cV5, .slice aL5 nL cL5, .slice aZ5 nZ cZ5] ∧ MkO lo5 hi5 w5 (vec5 (.slice aU5 nU cU5) (.slice aV5 nV cV5) (.slice aI5 nI cI5) (.slice aL5 nL cL5) (.slice aZ5 nZ cZ5)) l) := ⟨HB.out.trans (hB_.mono HB.out.size), hs1.on hB_ hs1.lt, hr1.on hB_ hr1.lt, hblk_, hO5⟩
    have hg5 : g5 < w5.heap.size := hblk_.lt
    have hws5 : w.heap.size + 1 < w5.heap.size := (hr1.on hB_ hr1.lt).lt
    clear HB hs1 hr1 hblk_ hN_ hO5 hB_ T0 CS hgW hlo5
    -- the program
    have hs5 := H5.out.2.1
    go_wp2_with (refine load_blk rfl rfl rfl hs5 Tryz.underlying69 infoSl ?_)
    clear hs5
    refine (CO.out _ H5.out.1).mono ?_
    rintro e w6 ⟨g6, vs6, rfl, hO6, hb6⟩
    obtain ⟨V0, hV0, hbv0, hsv0⟩ := box1 w6 26 #[.int .i64 wi, .int .i64 pu, .slice (some ⟨g6, 0, none⟩) n n]
    have hb56 : Below w5.heap.size w5 V0 := hb6.trans (hbv0.mono hb6.size)
    have hs56 : w5.heap.size ≤ w6.heap.size := hb6.size
    have hs6V : w6.heap.size ≤ V0.heap.size := hbv0.size
    have H6 : Hid (Below w.heap.size w V0 ∧ Blk V0 w.heap.size 69 #[.int .i64 wi, .int .i64 pu, .slice a n c] ∧ Blk V0 (w.heap.size + 1) 70 #[.int .i64 ta, .int .i64 al, .int .i64 be, .int .i64 ga, .int .i64 de] ∧ Blk V0 g5 40 #[.int .i64 A.1, .int .i64 A.2.1, .bool A.2.2, .int .i64 B.1, .int .i64 B.2.1, .bool B.2.2, .int .i64 G.1, .int .i64 G.2.1, .bool G.2.2, .int .i64 D.1, .int .i64 D.2.1, .bool D.2.2, .slice aI5 nI cI5, .slice aU5 nU cU5, .slice aV5 nV cV5, .slice aL5 nL cL5, .slice aZ5 nZ cZ5] ∧ MkO lo5 hi5 V0 (vec5 (.slice aU5 nU cU5) (.slice aV5 nV cV5) (.slice aI5 nI cI5) (.slice aL5 nL cL5) (.slice aZ5 nZ cZ5)) l) := ⟨H5.out.1.trans (hb56.mono H5.out.1.size), H5.out.2.1.on hb56 H5.out.2.1.lt, H5.out.2.2.1.on hb56 H5.out.2.2.1.lt, H5.out.2.2.2.1.on hb56 H5.out.2.2.2.1.lt, H5.out.2.2.2.2.same (Same.of_below hb56 (by omega))⟩
    have HO6 : Hid (NOwnV 3 146 w5.heap.size w6.heap.size V0 (.slice (some ⟨g6, 0, none⟩) n n) n vs6 ls ∧ Blk V0 w6.heap.size 26 #[.int .i64 wi, .int .i64 pu, .slice (some ⟨g6, 0, none⟩) n n]) := ⟨hO6.same (Same.of_below hbv0 (Nat.le_refl _)), hsv0⟩
    clear hb6 hbv0 hsv0 hO6 H5 hb56
    go_wp2_with fail
    clear hV0
    have hx6 := HO6.out.2
    have hr6 := H6.out.2.2.1
    have T0 : Below V0.heap.size V0 V0.drew := (Below.refl _ _).drew
    refine wp_region_to [(0, false), (1, false)] 8 #[true, true, false, false, false, false, false, false, false, false] (fun wz => Below V0.heap.size V0 wz) mixes (by kernel_rfl) T0 ?_
    repeat (refine ord_float rfl rfl (fun K hK => ⟨_, (fun w' hw => by have q0 := (hx6.on hw hx6.lt).cell 0; have q1 :=  (hx6.on hw hx6.lt).cell 1; have q2 :=  (hx6.on hw hx6.lt).cell 2; have q3 :=  (hr6.on hw hr6.lt).cell 0; have q4 :=  (hr6.on hw hr6.lt).cell 1; have q5 :=  (hr6.on hw hr6.lt).cell 2; have q6 :=  (hr6.on hw hr6.lt).cell 3; have q7 :=  (hr6.on hw hr6.lt).cell 4; go_simp; exact rfl), ?_⟩); go_simp; refine hK _ ?_; clear hK K)
    refine ord_nil ?_
    refine anyH_chn (H := [2, 3, 4, 5, 6, 7, 8, 9]) (LS := [#[true, true, false, false, false, false, false, false, false, false], #[true, true, true, false, false, false, false, false, false, false], #[true, true, false, false, false, false, false, true, false, false], #[true, true, true, true, false, false, false, false, false, false], #[true, true, true, false, false, false, false, true, false, false], #[true, true, true, true, true, false, false, false, false, false], #[true, true, true, true, false, false, false, true, false, false], #[true, true, true, true, true, true, false, false, false, false], #[true, true, true, true, true, false, true, false, false, false], #[true, true, true, true, true, false, false, true, false, false], #[true, true, true, true, true, true, true, false, false, false], #[true, true, true, true, true, true, false, true, false, false], #[true, true, true, true, true, false, true, true, false, false], #[true, true, true, true, true, true, true, true, false, false], #[true, true, true, true, true, true, false, true, true, false], #[true, true, true, true, true, true, true, true, true, false], #[true, true, true, true, true, true, true, true, true, true]]) (Le := #[true, true, true, true, true, true, true, true, true, true]) V0 (fun i x y => mkVr (.agg #[.int .i64 ta, .int .i64 al, .int .i64 be, .int .i64 ga, .int .i64 de]) A B G D q nI nU nV nL nZ (kputMk7 i) x y) (fun i x w => mkMr wi pu n ls (kputMk7 i) x w) (MkA V0.heap.size A B G D q nI nU nV nL nZ l) MkN 3 7 8 40 #[.int .i64 0, .int .i64 0, .bool false, .int .i64 0, .int .i64 0, .bool false, .int .i64 0, .int .i64 0, .bool false, .int .i64 0, .int .i64 0, .bool false, .slice none 0 0, .slice none 0 0, .slice none 0 0, .slice none 0 0, .slice none 0 0] partM (fun _ _ _ _ h hb => mkMr_on h hb) (fun _ _ _ h hb => mkA_on h hb) (fun _ _ h => mkA_new h) (fun _ _ _ _ h hN => mkA_put h hN) (by kernel_rfl) (by kernel_rfl) (by kernel_rfl) rfl rfl (by kernel_rfl) (fun i hi => by have h0 := first_noneM (k := kputMk7) (by kernel_rfl) i hi; exact ⟨fun y => by show mkVr _ _ _ _ _ _ _ _ _ _ _ (kputMk7 i) _ _; rw [h0]; exact trivial, by show mkMr _ _ _ _ (kputMk7 i) _ _; rw [h0]; exact trivial⟩) (fun _ _ => trivial) (fun _ _ => trivial) (fun _ _ => trivial) ?_ ?_ ?_ T0 ?_
    · intro L i o v wz hiH hna hns ho hJ hS hun hall
      rw [putMk7 v _ rfl rfl rfl rfl rfl rfl rfl rfl rfl]
      simp only [List.mem_cons, List.not_mem_nil, or_false] at hiH
      rcases hiH with rfl | rfl | rfl | rfl | rfl | rfl | rfl | rfl <;> obtain rfl := Option.some.inj ho
      · refine .inr ⟨_, _, (by go_simp <;> first | exact rfl | exact ⟨rfl, rfl⟩), ?_⟩
        refine (CT.out wz).mono ?_
        rintro e w3 ⟨rfl, hb⟩
        exact ⟨_, rfl, fun _ _ => rfl, fun _ => trivial, fun h => absurd h (by decide), hb⟩
      · have e2 : v 2 = .agg #[.int .i64 ta, .int .i64 al, .int .i64 be, .int .i64 ga, .int .i64 de] := hJ.val 2 (hall { on := 2, ground := .data } (by simp) rfl) undef (fun h => by rw [(un_lt hun).2] at h; cases h)
        rw [e2]
        refine .inr ⟨_, _, (by go_simp <;> first | exact rfl | exact ⟨rfl, rfl⟩), ?_⟩
        refine (CI.out g6 wz (((HO6.out.1.same (Same.of_below hS hs6V)).at).wide (by have := hS.size; omega))).mono ?_
        intro e w3 h
        obtain ⟨y, rfl, hy1, hy2, hy3, hb⟩ := mkG_A h hS.size
        exact ⟨y, rfl, fun z hz => ⟨(hz rfl).symm, hy1⟩, fun h => absurd rfl h, fun _ => ⟨hy2, hy3⟩, hb⟩
      · have h4 := hall { on := 3, ground := .data } (by simp) rfl
        exact .inl ⟨v 3, (by go_simp <;> rfl), fun y hy => hJ.val 3 h4 y hy, trivial, by decide⟩
      · have h5 := hall { on := 4, ground := .data } (by simp) rfl
        obtain ⟨_, aIy, cIy, aUy, cUy, aVy, cVy, aLy, cLy, aZy, cZy, hy5⟩ : v 4 = v 3 ∧ IsMk A B G D q nI nU nV nL nZ (v 4) := hJ.val 4 h5 _ (fun _ => rfl)
        rw [hy5]
        exact .inl ⟨.agg #[.int .i64 A.1, .int .i64 A.2.1, .bool A.2.2, .int .i64 B.1, .int .i64 B.2.1, .bool B.2.2, .int .i64 G.1, .int .i64 G.2.1, .bool G.2.2, .int .i64 D.1, .int .i64 D.2.1, .bool D.2.2, .slice aIy nI cIy, .slice aUy nU cUy, .slice aVy nV cVy, .slice aLy nL cLy, .slice aZy nZ cZy], (by go_simp <;> rfl), fun y hy => by
          have e : v 4 = y := (show v 4 = y ∧ IsMk A B G D q nI nU nV nL nZ (v 4) from hJ.val 4 h5 y hy).1
          show (_ : Value) = Value.agg (partM y)
          rw [← e, hy5]
          rfl, trivial, by decide⟩
      · have h5 := hall { on := 4, ground := .data } (by simp) rfl
        obtain ⟨_, aIy, cIy, aUy, cUy, aVy, cVy, aLy, cLy, aZy, cZy, hy5⟩ : v 4 = v 3 ∧ IsMk A B G D q nI nU nV nL nZ (v 4) := hJ.val 4 h5 _ (fun _ => rfl)
        rw [hy5]
        exact .inl ⟨.bool q, (by go_simp <;> rfl), fun _ _ => rfl, trivial, by decide⟩
      · exact absurd rfl hna
      · exact absurd rfl hns
      · have e6 : v 6 = .bool q := hJ.val 6 (hall { on := 6, ground := .data } (by simp) rfl) _ (fun _ => rfl)
        rw [e6]
        exact .inl ⟨.bool q, (by go_simp <;> rfl), fun _ _ => rfl, trivial, by decide⟩
    · intro v wz
      rw [putMk7 v _ rfl rfl rfl rfl rfl rfl rfl rfl rfl]
      go_simp <;> rfl
    · intro L v wz g hJ hall hc hg hblk
      have e5 : v 5 = .agg (partM (v 3)) := hJ.val 5 (hall { on := 5, ground := .data } (by simp) rfl) _ (fun _ => rfl)
      obtain ⟨aIx, cIx, aUx, cUx, aVx, cVx, aLx, cLx, aZx, cZx, lo, hi, hy, _, _, _⟩ := hJ.ans hc
      have hp : partM (v 3) = #[.int .i64 A.1, .int .i64 A.2.1, .bool A.2.2, .int .i64 B.1, .int .i64 B.2.1, .bool B.2.2, .int .i64 G.1, .int .i64 G.2.1, .bool G.2.2, .int .i64 D.1, .int .i64 D.2.1, .bool D.2.2, .slice aIx nI cIx, .slice aUx nU cUx, .slice aVx nV cVx, .slice aLx nL cLx, .slice aZx nZ cZx] := by rw [hy]; rfl
      rw [hp] at e5 ⊢
      rw [putMk7 v _ rfl rfl rfl rfl rfl rfl rfl rfl rfl]
      exact exec_storeR (t := 40) (p := .tmp 9) (u := .tmp 36) rfl (by go_simp <;> exact hg) (by go_simp <;> exact e5) hblk infoMk rfl (by simp [Value.oneCell'])
    · intro v w7 g7 hV hA hN hg hgW hblk hB_
      obtain ⟨aI7, cI7, aU7, cU7, aV7, cV7, aL7, cL7, aZ7, cZ7, lo7, hi7, hy7, hlo7, hhi7, hO7⟩ := hA
      have e2 : v 2 = .agg #[.int .i64 ta, .int .i64 al, .int .i64 be, .int .i64 ga, .int .i64 de] := hV 2 rfl
      have e3 : v 3 = .tuple #[.agg #[.int .i64 A.1, .int .i64 A.2.1, .bool A.2.2, .int .i64 B.1, .int .i64 B.2.1, .bool B.2.2, .int .i64 G.1, .int .i64 G.2.1, .bool G.2.2, .int .i64 D.1, .int .i64 D.2.1, .bool D.2.2, .slice aI7 nI cI7, .slice aU7 nU cU7, .slice aV7 nV cV7, .slice aL7 nL cL7, .slice aZ7 nZ cZ7], .bool q] := hy7
      have e4 : v 4 = .tuple #[.agg #[.int .i64 A.1, .int .i64 A.2.1, .bool A.2.2, .int .i64 B.1, .int .i64 B.2.1, .bool B.2.2, .int .i64 G.1, .int .i64 G.2.1, .bool G.2.2, .int .i64 D.1, .int .i64 D.2.1, .bool D.2.2, .slice aI7 nI cI7, .slice aU7 nU cU7, .slice aV7 nV cV7, .slice aL7 nL cL7, .slice aZ7 nZ cZ7], .bool q] := (show v 4 = v 3 ∧ IsMk A B G D q nI nU nV nL nZ (v 4) from hV 4 rfl).1.trans hy7
      have e5 : v 5 = .agg #[.int .i64 A.1, .int .i64 A.2.1, .bool A.2.2, .int .i64 B.1, .int .i64 B.2.1, .bool B.2.2, .int .i64 G.1, .int .i64 G.2.1, .bool G.2.2, .int .i64 D.1, .int .i64 D.2.1, .bool D.2.2, .slice aI7 nI cI7, .slice aU7 nU cU7, .slice aV7 nV cV7, .slice aL7 nL cL7, .slice aZ7 nZ cZ7] := by have h : v 5 = .agg (partM (v 3)) := hV 5 rfl; rw [hy7] at h; exact h
      have e6 : v 6 = .bool q := hV 6 rfl
      have e9 : v 9 = .bool q := hV 9 rfl
      have hblk_ : Blk w7 g7 40 #[.int .i64 A.1, .int .i64 A.2.1, .bool A.2.2, .int .i64 B.1, .int .i64 B.2.1, .bool B.2.2, .int .i64 G.1, .int .i64 G.2.1, .bool G.2.2, .int .i64 D.1, .int .i64 D.2.1, .bool D.2.2, .slice aI7 nI cI7, .slice aU7 nU cU7, .slice aV7 nV cV7, .slice aL7 nL cL7, .slice aZ7 nZ cZ7] := by rw [hy7] at hblk; exact hblk
      have hN_ : MkN (.tuple #[.agg #[.int .i64 A.1, .int .i64 A.2.1, .bool A.2.2, .int .i64 B.1, .int .i64 B.2.1, .bool B.2.2, .int .i64 G.1, .int .i64 G.2.1, .bool G.2.2, .int .i64 D.1, .int .i64 D.2.1, .bool D.2.2, .slice aI7 nI cI7, .slice aU7 nU cU7, .slice aV7 nV cV7, .slice aL7 nL cL7, .slice aZ7 nZ cZ7], .bool q]) g7 := by rw [hy7] at hN; exact hN
      rw [putMk7 v _ rfl rfl rfl rfl rfl rfl rfl rfl rfl]
      rw [hg, e2, e3, e4, e5, e6, e9]
      clear hV hg hy7 hblk hN e2 e3 e4 e5 e6 e9
      generalize v 8 = j8
      clear v
      go_simp
      obtain ⟨lo, hi, hlo, hhi, hgx, hO⟩ := mkA_apart (base := V0.heap.size) hlo7 hhi7 hO7 hN_ hblk_.lt hgW
      have h67 : w6.heap.size ≤ w7.heap.size := by have := hB_.size; omega
      have hlov : V0.heap.size ≤ lo := hlo
      have H7 : Hid (Below w.heap.size w w7 ∧ Blk w7 w.heap.size 69 #[.int .i64 wi, .int .i64 pu, .slice a n c] ∧ Blk w7 (w.heap.size + 1) 70 #[.int .i64 ta, .int .i64 al, .int .i64 be, .int .i64 ga, .int .i64 de] ∧ Blk w7 g5 40 #[.int .i64 A.1, .int .i64 A.2.1, .bool A.2.2, .int .i64 B.1, .int .i64 B.2.1, .bool B.2.2, .int .i64 G.1, .int .i64 G.2.1, .bool G.2.2, .int .i64 D.1, .int .i64 D.2.1, .bool D.2.2, .slice aI5 nI cI5, .slice aU5 nU cU5, .slice aV5 nV cV5, .slice aL5 nL cL5, .slice aZ5 nZ cZ5] ∧ MkO lo5 hi5 w7 (vec5 (.slice aU5 nU cU5) (.slice aV5 nV cV5) (.slice aI5 nI cI5) (.slice aL5 nL cL5) (.slice aZ5 nZ cZ5)) l ∧ Blk w7 g7 40 #[.int .i64 A.1, .int .i64 A.2.1, .bool A.2.2, .int .i64 B.1, .int .i64 B.2.1, .bool B.2.2, .int .i64 G.1, .int .i64 G.2.1, .bool G.2.2, .int .i64 D.1, .int .i64 D.2.1, .bool D.2.2, .slice aI7 nI cI7, .slice aU7 nU cU7, .slice aV7 nV cV7, .slice aL7 nL cL7, .slice aZ7 nZ cZ7]) := ⟨H6.out.1.trans (hB_.mono H6.out.1.size), H6.out.2.1.on hB_ H6.out.2.1.lt, H6.out.2.2.1.on hB_ H6.out.2.2.1.lt, H6.out.2.2.2.1.on hB_ H6.out.2.2.2.1.lt, H6.out.2.2.2.2.same (Same.of_below hB_ (by omega)), hblk_⟩
      have hxl : w6.heap.size < V0.heap.size := HO6.out.2.lt
      have HX7 : Hid (NOwnV 3 146 w5.heap.size w6.heap.size w7 (.slice (some ⟨g6, 0, none⟩) n n) n vs6 ls ∧ Blk w7 w6.heap.size 26 #[.int .i64 wi, .int .i64 pu, .slice (some ⟨g6, 0, none⟩) n n]) := ⟨HO6.out.1.same (Same.of_below hB_ (by omega)), HO6.out.2.on hB_ HO6.out.2.lt⟩
      have HO7 : Hid (MkO lo hi w7 (vec5 (.slice aU7 nU cU7) (.slice aV7 nV cV7) (.slice aI7 nI cI7) (.slice aL7 nL cL7) (.slice aZ7 nZ cZ7)) l) := hO
      have hg7 : g7 < w7.heap.size := hblk_.lt
      have hV7 : V0.heap.size ≤ w7.heap.size := hB_.size
      clear H6 HO6 hx6 hr6 hO hO7 hN_ hblk_ hB_ T0 hlo7 hhi7 hlo
      -- both are alike
      have hm7 := H7.out.2.2.2.2.2
      have hm5 := H7.out.2.2.2.1
      go_wp2_with (first | (refine load_blk rfl rfl rfl hm7 Tryz.underlying40 infoMk ?_) | (refine load_blk rfl rfl rfl hm5 Tryz.underlying40 infoMk ?_))
      clear hm7 hm5
      refine (eqMk_any A B G D aI7 aI5 nI cI7 cI5 aU7 aU5 nU cU7 cU5 aV7 aV5 nV cV7 cV5 aL7 aL5 nL cL7 cL5 aZ7 aZ5 nZ cZ7 cZ5 l HP.out.small lo hi lo5 hi5 w7 (by omega) (by omega) HO7.out H7.out.2.2.2.2.1).mono ?_
      rintro e w8 ⟨rfl, hb8⟩
      have hs78 : w7.heap.size ≤ w8.heap.size := hb8.size
      have H8 : Hid (Below w.heap.size w w8 ∧ Blk w8 w.heap.size 69 #[.int .i64 wi, .int .i64 pu, .slice a n c] ∧ Blk w8 (w.heap.size + 1) 70 #[.int .i64 ta, .int .i64 al, .int .i64 be, .int .i64 ga, .int .i64 de] ∧ Blk w8 g5 40 #[.int .i64 A.1, .int .i64 A.2.1, .bool A.2.2, .int .i64 B.1, .int .i64 B.2.1, .bool B.2.2, .int .i64 G.1, .int .i64 G.2.1, .bool G.2.2, .int .i64 D.1, .int .i64 D.2.1, .bool D.2.2, .slice aI5 nI cI5, .slice aU5 nU cU5, .slice aV5 nV cV5, .slice aL5 nL cL5, .slice aZ5 nZ cZ5] ∧ MkO lo5 hi5 w8 (vec5 (.slice aU5 nU cU5) (.slice aV5 nV cV5) (.slice aI5 nI cI5) (.slice aL5 nL cL5) (.slice aZ5 nZ cZ5)) l ∧ Blk w8 g7 40 #[.int .i64 A.1, .int .i64 A.2.1, .bool A.2.2, .int .i64 B.1, .int .i64 B.2.1, .bool B.2.2, .int .i64 G.1, .int .i64 G.2.1, .bool G.2.2, .int .i64 D.1, .int .i64 D.2.1, .bool D.2.2, .slice aI7 nI cI7, .slice aU7 nU cU7, .slice aV7 nV cV7, .slice aL7 nL cL7, .slice aZ7 nZ cZ7]) := ⟨H7.out.1.trans (hb8.mono H7.out.1.size), H7.out.2.1.on hb8 H7.out.2.1.lt, H7.out.2.2.1.on hb8 H7.out.2.2.1.lt, H7.out.2.2.2.1.on hb8 H7.out.2.2.2.1.lt, H7.out.2.2.2.2.1.same (Same.of_below hb8 (by omega)), H7.out.2.2.2.2.2.on hb8 H7.out.2.2.2.2.2.lt⟩
      have HX8 : Hid (NOwnV 3 146 w5.heap.size w6.heap.size w8 (.slice (some ⟨g6, 0, none⟩) n n) n vs6 ls ∧ Blk w8 w6.heap.size 26 #[.int .i64 wi, .int .i64 pu, .slice (some ⟨g6, 0, none⟩) n n]) := ⟨HX7.out.1.same (Same.of_below hb8 (by omega)), HX7.out.2.on hb8 HX7.out.2.lt⟩
      have HO8 : Hid (MkO lo hi w8 (vec5 (.slice aU7 nU cU7) (.slice aV7 nV cV7) (.slice aI7 nI cI7) (.slice aL7 nL cL7) (.slice aZ7 nZ cZ7)) l) := HO7.out.same (Same.of_below hb8 (by omega))
      clear H7 HX7 HO7 hb8
      -- the argument is as it was
      go_wp2_with fail
      have hx8 := HX8.out.2
      have hs8 := H8.out.2.1
      have T0 : Below w8.heap.size w8 w8.drew := (Below.refl _ _).drew
      refine wp_region_ord [(0, false), (1, false), (2, true), (3, true), (4, true)] (fun wz => Below w8.heap.size w8 wz) mixes (by kernel_rfl) T0 ?_
      repeat (refine ord_float rfl rfl (fun K hK => ⟨_, (fun w' hw => by have q0 := (hx8.on hw hx8.lt).cell 0; have q1 :=  (hx8.on hw hx8.lt).cell 1; have q2 :=  (hx8.on hw hx8.lt).cell 2; have q3 :=  (hs8.on hw hs8.lt).cell 0; have q4 :=  (hs8.on hw hs8.lt).cell 1; have q5 :=  (hs8.on hw hs8.lt).cell 2; go_simp; exact rfl), ?_⟩); go_simp; refine hK _ ?_; clear hK K)
      refine ord_call rfl rfl (fun K hK => ⟨_, _, (by go_simp <;> first | exact rfl | exact ⟨rfl, rfl⟩), ?_⟩)
      refine (CO.out _ H8.out.1.drew).mono ?_
      rintro e v1 ⟨g9, vs9, rfl, hO9, hv1⟩
      have T1 := below_then T0 hv1
      have hP1 := ((HX8.out.1.same (Same.of_below T1 (by omega))).at.wide (c := _) (d := v1.heap.size) (by have := T1.size; omega))
      have hP2 := hO9.at
      refine ⟨_, rfl, T1, ?_⟩
      go_simp
      refine hK _ _ ?_
      clear hK K
      refine ord_call rfl rfl (fun K hK => ⟨_, _, (by go_simp <;> first | exact rfl | exact ⟨rfl, rfl⟩), ?_⟩)
      refine (CE.out _ _ _ hP1 hP2).mono ?_
      rintro e v2 ⟨rfl, hv2⟩
      have T2 := below_then T1 hv2
      refine ⟨_, rfl, T2, ?_⟩
      go_simp
      refine hK _ _ ?_
      clear hK K
      refine ord_op rfl rfl (fun K hK => ⟨_, _, (by go_simp <;> first | exact ⟨rfl, rfl⟩ | exact rfl), T2, ?_⟩)
      go_simp
      refine hK _ _ ?_
      clear hK K
      refine ord_nil ?_
      have hs89 : w8.heap.size ≤ v2.heap.size := T2.size
      have H9 : Hid (Below w.heap.size w v2 ∧ Blk v2 w.heap.size 69 #[.int .i64 wi, .int .i64 pu, .slice a n c] ∧ Blk v2 (w.heap.size + 1) 70 #[.int .i64 ta, .int .i64 al, .int .i64 be, .int .i64 ga, .int .i64 de] ∧ Blk v2 g5 40 #[.int .i64 A.1, .int .i64 A.2.1, .bool A.2.2, .int .i64 B.1, .int .i64 B.2.1, .bool B.2.2, .int .i64 G.1, .int .i64 G.2.1, .bool G.2.2, .int .i64 D.1, .int .i64 D.2.1, .bool D.2.2, .slice aI5 nI cI5, .slice aU5 nU cU5, .slice aV5 nV cV5, .slice aL5 nL cL5, .slice aZ5 nZ cZ5] ∧ MkO lo5 hi5 v2 (vec5 (.slice aU5 nU cU5) (.slice aV5 nV cV5) (.slice aI5 nI cI5) (.slice aL5 nL cL5) (.slice aZ5 nZ cZ5)) l ∧ Blk v2 g7 40 #[.int .i64 A.1, .int .i64 A.2.1, .bool A.2.2, .int .i64 B.1, .int .i64 B.2.1, .bool B.2.2, .int .i64 G.1, .int .i64 G.2.1, .bool G.2.2, .int .i64 D.1, .int .i64 D.2.1, .bool D.2.2, .slice aI7 nI cI7, .slice aU7 nU cU7, .slice aV7 nV cV7, .slice aL7 nL cL7, .slice aZ7 nZ cZ7]) := ⟨H8.out.1.trans (T2.mono H8.out.1.size), H8.out.2.1.on T2 H8.out.2.1.lt, H8.out.2.2.1.on T2 H8.out.2.2.1.lt, H8.out.2.2.2.1.on T2 H8.out.2.2.2.1.lt, H8.out.2.2.2.2.1.same (Same.of_below T2 (by omega)), H8.out.2.2.2.2.2.on T2 H8.out.2.2.2.2.2.lt⟩
      have HX9 : Hid (NOwnV 3 146 w5.heap.size w6.heap.size v2 (.slice (some ⟨g6, 0, none⟩) n n) n vs6 ls ∧ Blk v2 w6.heap.size 26 #[.int .i64 wi, .int .i64 pu, .slice (some ⟨g6, 0, none⟩) n n]) := ⟨HX8.out.1.same (Same.of_below T2 (by omega)), HX8.out.2.on T2 HX8.out.2.lt⟩
      have HO9 : Hid (MkO lo hi v2 (vec5 (.slice aU7 nU cU7) (.slice aV7 nV cV7) (.slice aI7 nI cI7) (.slice aL7 nL cL7) (.slice aZ7 nZ cZ7)) l) := HO8.out.same (Same.of_below T2 (by omega))
      clear H8 HX8 HO8 hx8 hs8 T0 T1 T2 hv1 hv2 hP1 hP2 hO9
      -- the argument is marked
      have hx9 := HX9.out.2
      go_wp2_with (refine load_blk rfl rfl rfl hx9 Tryz.underlying26 infoSy ?_)
      clear hx9
      refine (markSystem_any _ _ _ n _ _ ls (1) _ _ (by omega) hz1 hn1 _ HX9.out.1 (by omega)).mono ?_
      rintro e w10 ⟨rfl, _, hk10⟩
      have hsA : v2.heap.size ≤ w10.heap.size := hk10.size
      have H10 : Hid (Below w.heap.size w w10 ∧ Blk w10 w.heap.size 69 #[.int .i64 wi, .int .i64 pu, .slice a n c] ∧ Blk w10 (w.heap.size + 1) 70 #[.int .i64 ta, .int .i64 al, .int .i64 be, .int .i64 ga, .int .i64 de] ∧ Blk w10 g5 40 #[.int .i64 A.1, .int .i64 A.2.1, .bool A.2.2, .int .i64 B.1, .int .i64 B.2.1, .bool B.2.2, .int .i64 G.1, .int .i64 G.2.1, .bool G.2.2, .int .i64 D.1, .int .i64 D.2.1, .bool D.2.2, .slice aI5 nI cI5, .slice aU5 nU cU5, .slice aV5 nV cV5, .slice aL5 nL cL5, .slice aZ5 nZ cZ5] ∧ MkO lo5 hi5 w10 (vec5 (.slice aU5 nU cU5) (.slice aV5 nV cV5) (.slice aI5 nI cI5) (.slice aL5 nL cL5) (.slice aZ5 nZ cZ5)) l ∧ Blk w10 g7 40 #[.int .i64 A.1, .int .i64 A.2.1, .bool A.2.2, .int .i64 B.1, .int .i64 B.2.1, .bool B.2.2, .int .i64 G.1, .int .i64 G.2.1, .bool G.2.2, .int .i64 D.1, .int .i64 D.2.1, .bool D.2.2, .slice aI7 nI cI7, .slice aU7 nU cU7, .slice aV7 nV cV7, .slice aL7 nL cL7, .slice aZ7 nZ cZ7]) := ⟨hk10.bel H9.out.1 H9.out.1.size (fun k q => by have h3 := q.1; omega), hk10.blk H9.out.2.1 (fun q => by have h1 := q.1; omega), hk10.blk H9.out.2.2.1 (fun q => by have h1 := q.1; omega), hk10.blk H9.out.2.2.2.1 (fun q => by have h1 := q.1; omega), H9.out.2.2.2.2.1.same (Same.of_kps hk10 (by omega) (fun k h1 h2 q => by have h3 := q.1; omega)), hk10.blk H9.out.2.2.2.2.2 (fun q => by have h1 := q.2; omega)⟩
      have HO10 : Hid (MkO lo hi w10 (vec5 (.slice aU7 nU cU7) (.slice aV7 nV cV7) (.slice aI7 nI cI7) (.slice aL7 nL cL7) (.slice aZ7 nZ cZ7)) l) := HO9.out.same (Same.of_kps hk10 (by omega) (fun k h1 h2 q => by have h3 := q.2; omega))
      clear H9 HX9 HO9 hk10
      have hkp : ¬ ((1 + tot ls : Nat) : Int) < 0 := by omega
      have hm7 := H10.out.2.2.2.2.2
      have hm5 := H10.out.2.2.2.1
      go_wp2_with (first | (refine load_blkG rfl rfl rfl hm7 Tryz.underlying40 infoMk ?_) | (refine load_blkG rfl rfl rfl hm5 Tryz.underlying40 infoMk ?_))
      clear hm7 hm5
      refine (eqMk_any A B G D aI7 aI5 nI cI7 cI5 aU7 aU5 nU cU7 cU5 aV7 aV5 nV cV7 cV5 aL7 aL5 nL cL7 cL5 aZ7 aZ5 nZ cZ7 cZ5 l HP.out.small lo hi lo5 hi5 w10 (by omega) (by omega) HO10.out H10.out.2.2.2.2.1).mono ?_
      rintro e w11 ⟨rfl, hb11⟩
      have hsB : w10.heap.size ≤ w11.heap.size := hb11.size
      have H11 : Hid (Below w.heap.size w w11 ∧ Blk w11 w.heap.size 69 #[.int .i64 wi, .int .i64 pu, .slice a n c] ∧ Blk w11 (w.heap.size + 1) 70 #[.int .i64 ta, .int .i64 al, .int .i64 be, .int .i64 ga, .int .i64 de] ∧ Blk w11 g5 40 #[.int .i64 A.1, .int .i64 A.2.1, .bool A.2.2, .int .i64 B.1, .int .i64 B.2.1, .bool B.2.2, .int .i64 G.1, .int .i64 G.2.1, .bool G.2.2, .int .i64 D.1, .int .i64 D.2.1, .bool D.2.2, .slice aI5 nI cI5, .slice aU5 nU cU5, .slice aV5 nV cV5, .slice aL5 nL cL5, .slice aZ5 nZ cZ5] ∧ MkO lo5 hi5 w11 (vec5 (.slice aU5 nU cU5) (.slice aV5 nV cV5) (.slice aI5 nI cI5) (.slice aL5 nL cL5) (.slice aZ5 nZ cZ5)) l ∧ Blk w11 g7 40 #[.int .i64 A.1, .int .i64 A.2.1, .bool A.2.2, .int .i64 B.1, .int .i64 B.2.1, .bool B.2.2, .int .i64 G.1, .int .i64 G.2.1, .bool G.2.2, .int .i64 D.1, .int .i64 D.2.1, .bool D.2.2, .slice aI7 nI cI7, .slice aU7 nU cU7, .slice aV7 nV cV7, .slice aL7 nL cL7, .slice aZ7 nZ cZ7]) := ⟨H10.out.1.trans (hb11.mono H10.out.1.size), H10.out.2.1.on hb11 H10.out.2.1.lt, H10.out.2.2.1.on hb11 H10.out.2.2.1.lt, H10.out.2.2.2.1.on hb11 H10.out.2.2.2.1.lt, H10.out.2.2.2.2.1.same (Same.of_below hb11 (by omega)), H10.out.2.2.2.2.2.on hb11 H10.out.2.2.2.2.2.lt⟩
      have HO11 : Hid (MkO lo hi w11 (vec5 (.slice aU7 nU cU7) (.slice aV7 nV cV7) (.slice aI7 nI cI7) (.slice aL7 nL cL7) (.slice aZ7 nZ cZ7)) l) := HO10.out.same (Same.of_below hb11 (by omega))
      clear H10 HO10 hb11
      -- the answer is marked, and held
      have hm7 := H11.out.2.2.2.2.2
      go_wp2_with (refine load_blk rfl rfl rfl hm7 Tryz.underlying40 infoMk ?_)
      clear hm7
      refine (markMaker_any A B G D aI7 nI cI7 aU7 nU cU7 aV7 nV cV7 aL7 nL cL7 aZ7 nZ cZ7 1 lo hi l (by omega) hcU hcV hcI hcL hcZ HP.out.lU HP.out.lV HP.out.lI HP.out.lL HP.out.lZ w11 (by omega) HO11.out).mono ?_
      rintro e w12 ⟨rfl, hO12, hk12⟩
      have hsC : w11.heap.size ≤ w12.heap.size := hk12.size
      have H12 : Hid (Below w.heap.size w w12 ∧ Blk w12 w.heap.size 69 #[.int .i64 wi, .int .i64 pu, .slice a n c] ∧ Blk w12 (w.heap.size + 1) 70 #[.int .i64 ta, .int .i64 al, .int .i64 be, .int .i64 ga, .int .i64 de] ∧ Blk w12 g5 40 #[.int .i64 A.1, .int .i64 A.2.1, .bool A.2.2, .int .i64 B.1, .int .i64 B.2.1, .bool B.2.2, .int .i64 G.1, .int .i64 G.2.1, .bool G.2.2, .int .i64 D.1, .int .i64 D.2.1, .bool D.2.2, .slice aI5 nI cI5, .slice aU5 nU cU5, .slice aV5 nV cV5, .slice aL5 nL cL5, .slice aZ5 nZ cZ5] ∧ MkO lo5 hi5 w12 (vec5 (.slice aU5 nU cU5) (.slice aV5 nV cV5) (.slice aI5 nI cI5) (.slice aL5 nL cL5) (.slice aZ5 nZ cZ5)) l ∧ Blk w12 g7 40 #[.int .i64 A.1, .int .i64 A.2.1, .bool A.2.2, .int .i64 B.1, .int .i64 B.2.1, .bool B.2.2, .int .i64 G.1, .int .i64 G.2.1, .bool G.2.2, .int .i64 D.1, .int .i64 D.2.1, .bool D.2.2, .slice aI7 nI cI7, .slice aU7 nU cU7, .slice aV7 nV cV7, .slice aL7 nL cL7, .slice aZ7 nZ cZ7]) := ⟨hk12.bel H11.out.1 H11.out.1.size (fun k q => by have h3 := q.1; omega), hk12.blk H11.out.2.1 (fun q => by have h1 := q.1; omega), hk12.blk H11.out.2.2.1 (fun q => by have h1 := q.1; omega), hk12.blk H11.out.2.2.2.1 (fun q => by have h1 := q.1; omega), H11.out.2.2.2.2.1.same (Same.of_kps hk12 (by omega) (fun k h1 h2 q => by have h3 := q.1; omega)), hk12.blk H11.out.2.2.2.2.2 (fun q => hgx q)⟩
      have HO12 : Hid (MkO lo hi w12 (vec5 (.slice aU7 nU cU7) (.slice aV7 nV cV7) (.slice aI7 nI cI7) (.slice aL7 nL cL7) (.slice aZ7 nZ cZ7)) (mkM 1 nU nV nI nL nZ)) := hO12
      clear H11 HO11 hk12 hO12
      obtain ⟨cnt, hcnt⟩ : ∃ cnt, cnt = cntM 1 nU nV nI nL nZ := ⟨_, rfl⟩
      rw [← hcnt]
      have hcp : ¬ ((cnt : Nat) : Int) < 0 := by omega
      have CH : Hid (∀ V, MkO lo hi V (vec5 (.slice aU7 nU cU7) (.slice aV7 nV cV7) (.slice aI7 nI cI7) (.slice aL7 nL cL7) (.slice aZ7 nZ cZ7)) (mkM 1 nU nV nI nL nZ) → hi ≤ V.heap.size → Calls Tryz.prog 41 #[.agg #[.int .i64 A.1, .int .i64 A.2.1, .bool A.2.2, .int .i64 B.1, .int .i64 B.2.1, .bool B.2.2, .int .i64 G.1, .int .i64 G.2.1, .bool G.2.2, .int .i64 D.1, .int .i64 D.2.1, .bool D.2.2, .slice aI7 nI cI7, .slice aU7 nU cU7, .slice aV7 nV cV7, .slice aL7 nL cL7, .slice aZ7 nZ cZ7], .int .i64 1] V fun e w' => e = .returned (.int .i64 (cnt : Int)) ∧ Below V.heap.size V w') := fun V hV hh => by
        have h := heldMaker_any A B G D aI7 nI cI7 aU7 nU cU7 aV7 nV cV7 aL7 nL cL7 aZ7 nZ cZ7 1 lo hi (by omega) hcU hcV hcI hcL hcZ V hh hV
        rw [← hcnt] at h
        exact h
      clear hcnt
      have hm7 := H12.out.2.2.2.2.2
      go_wp2_with (refine load_blk rfl rfl rfl hm7 Tryz.underlying40 infoMk ?_)
      clear hm7
      refine (CH.out _ HO12.out (by omega)).mono ?_
      rintro e w13 ⟨rfl, hb13⟩
      have hsD : w12.heap.size ≤ w13.heap.size := hb13.size
      have H13 : Hid (Below w.heap.size w w13 ∧ Blk w13 w.heap.size 69 #[.int .i64 wi, .int .i64 pu, .slice a n c] ∧ Blk w13 (w.heap.size + 1) 70 #[.int .i64 ta, .int .i64 al, .int .i64 be, .int .i64 ga, .int .i64 de] ∧ Blk w13 g5 40 #[.int .i64 A.1, .int .i64 A.2.1, .bool A.2.2, .int .i64 B.1, .int .i64 B.2.1, .bool B.2.2, .int .i64 G.1, .int .i64 G.2.1, .bool G.2.2, .int .i64 D.1, .int .i64 D.2.1, .bool D.2.2, .slice aI5 nI cI5, .slice aU5 nU cU5, .slice aV5 nV cV5, .slice aL5 nL cL5, .slice aZ5 nZ cZ5] ∧ MkO lo5 hi5 w13 (vec5 (.slice aU5 nU cU5) (.slice aV5 nV cV5) (.slice aI5 nI cI5) (.slice aL5 nL cL5) (.slice aZ5 nZ cZ5)) l ∧ Blk w13 g7 40 #[.int .i64 A.1, .int .i64 A.2.1, .bool A.2.2, .int .i64 B.1, .int .i64 B.2.1, .bool B.2.2, .int .i64 G.1, .int .i64 G.2.1, .bool G.2.2, .int .i64 D.1, .int .i64 D.2.1, .bool D.2.2, .slice aI7 nI cI7, .slice aU7 nU cU7, .slice aV7 nV cV7, .slice aL7 nL cL7, .slice aZ7 nZ cZ7]) := ⟨H12.out.1.trans (hb13.mono H12.out.1.size), H12.out.2.1.on hb13 H12.out.2.1.lt, H12.out.2.2.1.on hb13 H12.out.2.2.1.lt, H12.out.2.2.2.1.on hb13 H12.out.2.2.2.1.lt, H12.out.2.2.2.2.1.same (Same.of_below hb13 (by omega)), H12.out.2.2.2.2.2.on hb13 H12.out.2.2.2.2.2.lt⟩
      have HO13 : Hid (MkO lo hi w13 (vec5 (.slice aU7 nU cU7) (.slice aV7 nV cV7) (.slice aI7 nI cI7) (.slice aL7 nL cL7) (.slice aZ7 nZ cZ7)) (mkM 1 nU nV nI nL nZ)) := HO12.out.same (Same.of_below hb13 (by omega))
      clear H12 HO12 hb13
      -- another call
      go_wp2_with fail
      have hs13 := H13.out.2.1
      have hr13 := H13.out.2.2.1
      have HB : Hid (Below w.heap.size w w13) := H13.out.1
      have T0 : Below w13.heap.size w13 w13.drew := (Below.refl _ _).drew
      refine wp_region_to [(0, false), (2, false)] 9 #[true, false, true, false, false, false, false, false, false, false, false] (fun wz => Below w13.heap.size w13 wz) mixes (by kernel_rfl) T0 ?_
      repeat (refine ord_float rfl rfl (fun K hK => ⟨_, (fun w' hw => by have q0 := (hs13.on hw hs13.lt).cell 0; have q1 :=  (hs13.on hw hs13.lt).cell 1; have q2 :=  (hs13.on hw hs13.lt).cell 2; have q3 :=  (hr13.on hw hr13.lt).cell 0; have q4 :=  (hr13.on hw hr13.lt).cell 1; have q5 :=  (hr13.on hw hr13.lt).cell 2; have q6 :=  (hr13.on hw hr13.lt).cell 3; have q7 :=  (hr13.on hw hr13.lt).cell 4; go_simp; exact rfl), ?_⟩); go_simp; refine hK _ ?_; clear hK K)
      refine ord_nil ?_
      refine anyH_chn (H := [1, 3, 4, 5, 6, 7, 8, 9, 10]) (LS := [#[true, false, true, false, false, false, false, false, false, false, false], #[true, true, true, false, false, false, false, false, false, false, false], #[true, false, true, false, false, false, false, false, true, false, false], #[true, true, true, true, false, false, false, false, false, false, false], #[true, true, true, false, false, false, false, false, true, false, false], #[true, true, true, true, true, false, false, false, false, false, false], #[true, true, true, true, false, false, false, false, true, false, false], #[true, true, true, true, true, true, false, false, false, false, false], #[true, true, true, true, true, false, false, false, true, false, false], #[true, true, true, true, true, true, true, false, false, false, false], #[true, true, true, true, true, true, false, true, false, false, false], #[true, true, true, true, true, true, false, false, true, false, false], #[true, true, true, true, true, true, true, true, false, false, false], #[true, true, true, true, true, true, true, false, true, false, false], #[true, true, true, true, true, true, false, true, true, false, false], #[true, true, true, true, true, true, true, true, true, false, false], #[true, true, true, true, true, true, true, false, true, true, false], #[true, true, true, true, true, true, true, true, true, true, false], #[true, true, true, true, true, true, true, true, true, true, true]]) (Le := #[true, true, true, true, true, true, true, true, true, true, true]) w13 (fun i x y => mkVr (.agg #[.int .i64 ta, .int .i64 al, .int .i64 be, .int .i64 ga, .int .i64 de]) A B G D q nI nU nV nL nZ (kputMk24 i) x y) (fun i x w => mkMr wi pu n ls (kputMk24 i) x w) (MkA w13.heap.size A B G D q nI nU nV nL nZ l) MkN 4 8 9 40 #[.int .i64 0, .int .i64 0, .bool false, .int .i64 0, .int .i64 0, .bool false, .int .i64 0, .int .i64 0, .bool false, .int .i64 0, .int .i64 0, .bool false, .slice none 0 0, .slice none 0 0, .slice none 0 0, .slice none 0 0, .slice none 0 0] partM (fun _ _ _ _ h hb => mkMr_on h hb) (fun _ _ _ h hb => mkA_on h hb) (fun _ _ h => mkA_new h) (fun _ _ _ _ h hN => mkA_put h hN) (by kernel_rfl) (by kernel_rfl) (by kernel_rfl) rfl rfl (by kernel_rfl) (fun i hi => by have h0 := first_noneM (k := kputMk24) (by kernel_rfl) i hi; exact ⟨fun y => by show mkVr _ _ _ _ _ _ _ _ _ _ _ (kputMk24 i) _ _; rw [h0]; exact trivial, by show mkMr _ _ _ _ (kputMk24 i) _ _; rw [h0]; exact trivial⟩) (fun _ _ => trivial) (fun _ _ => trivial) (fun _ _ => trivial) ?_ ?_ ?_ T0 ?_
      · intro L i o v wz hiH hna hns ho hJ hS hun hall
        rw [putMk24 v _ rfl rfl rfl rfl rfl rfl rfl rfl rfl rfl]
        simp only [List.mem_cons, List.not_mem_nil, or_false] at hiH
        rcases hiH with rfl | rfl | rfl | rfl | rfl | rfl | rfl | rfl | rfl <;> obtain rfl := Option.some.inj ho
        · refine .inr ⟨_, _, (by go_simp <;> first | exact rfl | exact ⟨rfl, rfl⟩), ?_⟩
          refine (CO.out wz (HB.out.trans (hS.mono HB.out.size))).mono ?_
          rintro e w3 ⟨g, vs, rfl, hO, hb⟩
          exact ⟨_, rfl, fun _ _ => trivial, fun _ => ⟨g, rfl, hO.at⟩, fun h => absurd h (by decide), hb⟩
        · refine .inr ⟨_, _, (by go_simp <;> first | exact rfl | exact ⟨rfl, rfl⟩), ?_⟩
          refine (CT.out wz).mono ?_
          rintro e w3 ⟨rfl, hb⟩
          exact ⟨_, rfl, fun _ _ => rfl, fun _ => trivial, fun h => absurd h (by decide), hb⟩
        · obtain ⟨g1, e1, hN1⟩ : ∃ g, v 1 = .agg #[.int .i64 wi, .int .i64 pu, .slice (some ⟨g, 0, none⟩) n n] ∧ NAt 3 wz wz.heap.size (.slice (some ⟨g, 0, none⟩) n n) n ls := hJ.mem (un_lt hun).2 1 (hall { on := 1, ground := .data } (by simp) rfl)
          have e3 : v 3 = .agg #[.int .i64 ta, .int .i64 al, .int .i64 be, .int .i64 ga, .int .i64 de] := hJ.val 3 (hall { on := 3, ground := .data } (by simp) rfl) undef (fun h => by rw [(un_lt hun).2] at h; cases h)
          rw [e1, e3]
          refine .inr ⟨_, _, (by go_simp <;> first | exact rfl | exact ⟨rfl, rfl⟩), ?_⟩
          refine (CI.out g1 wz hN1).mono ?_
          intro e w3 h
          obtain ⟨y, rfl, hy1, hy2, hy3, hb⟩ := mkG_A h hS.size
          exact ⟨y, rfl, fun z hz => ⟨(hz rfl).symm, hy1⟩, fun h => absurd rfl h, fun _ => ⟨hy2, hy3⟩, hb⟩
        · have h4 := hall { on := 4, ground := .data } (by simp) rfl
          exact .inl ⟨v 4, (by go_simp <;> rfl), fun y hy => hJ.val 4 h4 y hy, trivial, by decide⟩
        · have h5 := hall { on := 5, ground := .data } (by simp) rfl
          obtain ⟨_, aIy, cIy, aUy, cUy, aVy, cVy, aLy, cLy, aZy, cZy, hy5⟩ : v 5 = v 4 ∧ IsMk A B G D q nI nU nV nL nZ (v 5) := hJ.val 5 h5 _ (fun _ => rfl)
          rw [hy5]
          exact .inl ⟨.agg #[.int .i64 A.1, .int .i64 A.2.1, .bool A.2.2, .int .i64 B.1, .int .i64 B.2.1, .bool B.2.2, .int .i64 G.1, .int .i64 G.2.1, .bool G.2.2, .int .i64 D.1, .int .i64 D.2.1, .bool D.2.2, .slice aIy nI cIy, .slice aUy nU cUy, .slice aVy nV cVy, .slice aLy nL cLy, .slice aZy nZ cZy], (by go_simp <;> rfl), fun y hy => by
            have e : v 5 = y := (show v 5 = y ∧ IsMk A B G D q nI nU nV nL nZ (v 5) from hJ.val 5 h5 y hy).1
            show (_ : Value) = Value.agg (partM y)
            rw [← e, hy5]
            rfl, trivial, by decide⟩
        · have h5 := hall { on := 5, ground := .data } (by simp) rfl
          obtain ⟨_, aIy, cIy, aUy, cUy, aVy, cVy, aLy, cLy, aZy, cZy, hy5⟩ : v 5 = v 4 ∧ IsMk A B G D q nI nU nV nL nZ (v 5) := hJ.val 5 h5 _ (fun _ => rfl)
          rw [hy5]
          exact .inl ⟨.bool q, (by go_simp <;> rfl), fun _ _ => rfl, trivial, by decide⟩
        · exact absurd rfl hna
        · exact absurd rfl hns
        · have e7 : v 7 = .bool q := hJ.val 7 (hall { on := 7, ground := .data } (by simp) rfl) _ (fun _ => rfl)
          rw [e7]
          exact .inl ⟨.bool q, (by go_simp <;> rfl), fun _ _ => rfl, trivial, by decide⟩
      · intro v wz
        rw [putMk24 v _ rfl rfl rfl rfl rfl rfl rfl rfl rfl rfl]
        go_simp <;> rfl
      · intro L v wz g hJ hall hc hg hblk
        have e5 : v 6 = .agg (partM (v 4)) := hJ.val 6 (hall { on := 6, ground := .data } (by simp) rfl) _ (fun _ => rfl)
        obtain ⟨aIx, cIx, aUx, cUx, aVx, cVx, aLx, cLx, aZx, cZx, lo, hi, hy, _, _, _⟩ := hJ.ans hc
        have hp : partM (v 4) = #[.int .i64 A.1, .int .i64 A.2.1, .bool A.2.2, .int .i64 B.1, .int .i64 B.2.1, .bool B.2.2, .int .i64 G.1, .int .i64 G.2.1, .bool G.2.2, .int .i64 D.1, .int .i64 D.2.1, .bool D.2.2, .slice aIx nI cIx, .slice aUx nU cUx, .slice aVx nV cVx, .slice aLx nL cLx, .slice aZx nZ cZx] := by rw [hy]; rfl
        rw [hp] at e5 ⊢
        rw [putMk24 v _ rfl rfl rfl rfl rfl rfl rfl rfl rfl rfl]
        exact exec_storeR (t := 40) (p := .tmp 14) (u := .tmp 85) rfl (by go_simp <;> exact hg) (by go_simp <;> exact e5) hblk infoMk rfl (by simp [Value.oneCell'])
      · intro v w14 g14 hV hA hN hg hgW hblk hB_
        obtain ⟨aI14, cI14, aU14, cU14, aV14, cV14, aL14, cL14, aZ14, cZ14, lo14, hi14, hy14, hlo14, hhi14, hO14⟩ := hA
        have e3 : v 3 = .agg #[.int .i64 ta, .int .i64 al, .int .i64 be, .int .i64 ga, .int .i64 de] := hV 3 rfl
        have e4 : v 4 = .tuple #[.agg #[.int .i64 A.1, .int .i64 A.2.1, .bool A.2.2, .int .i64 B.1, .int .i64 B.2.1, .bool B.2.2, .int .i64 G.1, .int .i64 G.2.1, .bool G.2.2, .int .i64 D.1, .int .i64 D.2.1, .bool D.2.2, .slice aI14 nI cI14, .slice aU14 nU cU14, .slice aV14 nV cV14, .slice aL14 nL cL14, .slice aZ14 nZ cZ14], .bool q] := hy14
        have e5 : v 5 = .tuple #[.agg #[.int .i64 A.1, .int .i64 A.2.1, .bool A.2.2, .int .i64 B.1, .int .i64 B.2.1, .bool B.2.2, .int .i64 G.1, .int .i64 G.2.1, .bool G.2.2, .int .i64 D.1, .int .i64 D.2.1, .bool D.2.2, .slice aI14 nI cI14, .slice aU14 nU cU14, .slice aV14 nV cV14, .slice aL14 nL cL14, .slice aZ14 nZ cZ14], .bool q] := (show v 5 = v 4 ∧ IsMk A B G D q nI nU nV nL nZ (v 5) from hV 5 rfl).1.trans hy14
        have e6 : v 6 = .agg #[.int .i64 A.1, .int .i64 A.2.1, .bool A.2.2, .int .i64 B.1, .int .i64 B.2.1, .bool B.2.2, .int .i64 G.1, .int .i64 G.2.1, .bool G.2.2, .int .i64 D.1, .int .i64 D.2.1, .bool D.2.2, .slice aI14 nI cI14, .slice aU14 nU cU14, .slice aV14 nV cV14, .slice aL14 nL cL14, .slice aZ14 nZ cZ14] := by have h : v 6 = .agg (partM (v 4)) := hV 6 rfl; rw [hy14] at h; exact h
        have e7 : v 7 = .bool q := hV 7 rfl
        have e10 : v 10 = .bool q := hV 10 rfl
        have hblk_ : Blk w14 g14 40 #[.int .i64 A.1, .int .i64 A.2.1, .bool A.2.2, .int .i64 B.1, .int .i64 B.2.1, .bool B.2.2, .int .i64 G.1, .int .i64 G.2.1, .bool G.2.2, .int .i64 D.1, .int .i64 D.2.1, .bool D.2.2, .slice aI14 nI cI14, .slice aU14 nU cU14, .slice aV14 nV cV14, .slice aL14 nL cL14, .slice aZ14 nZ cZ14] := by rw [hy14] at hblk; exact hblk
        have hN_ : MkN (.tuple #[.agg #[.int .i64 A.1, .int .i64 A.2.1, .bool A.2.2, .int .i64 B.1, .int .i64 B.2.1, .bool B.2.2, .int .i64 G.1, .int .i64 G.2.1, .bool G.2.2, .int .i64 D.1, .int .i64 D.2.1, .bool D.2.2, .slice aI14 nI cI14, .slice aU14 nU cU14, .slice aV14 nV cV14, .slice aL14 nL cL14, .slice aZ14 nZ cZ14], .bool q]) g14 := by rw [hy14] at hN; exact hN
        rw [putMk24 v _ rfl rfl rfl rfl rfl rfl rfl rfl rfl rfl]
        rw [hg, e3, e4, e5, e6, e7, e10]
        clear hV hg hy14 hblk hN e3 e4 e5 e6 e7 e10
        generalize v 1 = j1
        generalize v 9 = j9
        clear v
        go_simp
        have hsE : w13.heap.size ≤ w14.heap.size := hB_.size
        have H14 : Hid (Below w.heap.size w w14 ∧ Blk w14 w.heap.size 69 #[.int .i64 wi, .int .i64 pu, .slice a n c] ∧ Blk w14 (w.heap.size + 1) 70 #[.int .i64 ta, .int .i64 al, .int .i64 be, .int .i64 ga, .int .i64 de] ∧ Blk w14 g5 40 #[.int .i64 A.1, .int .i64 A.2.1, .bool A.2.2, .int .i64 B.1, .int .i64 B.2.1, .bool B.2.2, .int .i64 G.1, .int .i64 G.2.1, .bool G.2.2, .int .i64 D.1, .int .i64 D.2.1, .bool D.2.2, .slice aI5 nI cI5, .slice aU5 nU cU5, .slice aV5 nV cV5, .slice aL5 nL cL5, .slice aZ5 nZ cZ5] ∧ MkO lo5 hi5 w14 (vec5 (.slice aU5 nU cU5) (.slice aV5 nV cV5) (.slice aI5 nI cI5) (.slice aL5 nL cL5) (.slice aZ5 nZ cZ5)) l ∧ Blk w14 g7 40 #[.int .i64 A.1, .int .i64 A.2.1, .bool A.2.2, .int .i64 B.1, .int .i64 B.2.1, .bool B.2.2, .int .i64 G.1, .int .i64 G.2.1, .bool G.2.2, .int .i64 D.1, .int .i64 D.2.1, .bool D.2.2, .slice aI7 nI cI7, .slice aU7 nU cU7, .slice aV7 nV cV7, .slice aL7 nL cL7, .slice aZ7 nZ cZ7]) := ⟨H13.out.1.trans (hB_.mono H13.out.1.size), H13.out.2.1.on hB_ H13.out.2.1.lt, H13.out.2.2.1.on hB_ H13.out.2.2.1.lt, H13.out.2.2.2.1.on hB_ H13.out.2.2.2.1.lt, H13.out.2.2.2.2.1.same (Same.of_below hB_ (by omega)), H13.out.2.2.2.2.2.on hB_ H13.out.2.2.2.2.2.lt⟩
        have HO14 : Hid (MkO lo hi w14 (vec5 (.slice aU7 nU cU7) (.slice aV7 nV cV7) (.slice aI7 nI cI7) (.slice aL7 nL cL7) (.slice aZ7 nZ cZ7)) (mkM 1 nU nV nI nL nZ)) := HO13.out.same (Same.of_below hB_ (by omega))
        have HQ14 : Hid (MkO lo14 hi14 w14 (vec5 (.slice aU14 nU cU14) (.slice aV14 nV cV14) (.slice aI14 nI cI14) (.slice aL14 nL cL14) (.slice aZ14 nZ cZ14)) l) := hO14
        clear H13 HO13 hs13 hr13 HB hN_ hB_ T0 hO14
        have hm5 := H14.out.2.2.2.1
        go_wp2_with (first | (refine load_blk rfl rfl rfl hblk_ Tryz.underlying40 infoMk ?_) | (refine load_blk rfl rfl rfl hm5 Tryz.underlying40 infoMk ?_))
        clear hm5 hblk_
        refine (eqMk_any A B G D aI14 aI5 nI cI14 cI5 aU14 aU5 nU cU14 cU5 aV14 aV5 nV cV14 cV5 aL14 aL5 nL cL14 cL5 aZ14 aZ5 nZ cZ14 cZ5 l HP.out.small lo14 hi14 lo5 hi5 w14 hhi14 (by omega) HQ14.out H14.out.2.2.2.2.1).mono ?_
        rintro e w15 ⟨rfl, hb15⟩
        have hsF : w14.heap.size ≤ w15.heap.size := hb15.size
        have H15 : Hid (Below w.heap.size w w15 ∧ Blk w15 w.heap.size 69 #[.int .i64 wi, .int .i64 pu, .slice a n c] ∧ Blk w15 (w.heap.size + 1) 70 #[.int .i64 ta, .int .i64 al, .int .i64 be, .int .i64 ga, .int .i64 de] ∧ Blk w15 g5 40 #[.int .i64 A.1, .int .i64 A.2.1, .bool A.2.2, .int .i64 B.1, .int .i64 B.2.1, .bool B.2.2, .int .i64 G.1, .int .i64 G.2.1, .bool G.2.2, .int .i64 D.1, .int .i64 D.2.1, .bool D.2.2, .slice aI5 nI cI5, .slice aU5 nU cU5, .slice aV5 nV cV5, .slice aL5 nL cL5, .slice aZ5 nZ cZ5] ∧ MkO lo5 hi5 w15 (vec5 (.slice aU5 nU cU5) (.slice aV5 nV cV5) (.slice aI5 nI cI5) (.slice aL5 nL cL5) (.slice aZ5 nZ cZ5)) l ∧ Blk w15 g7 40 #[.int .i64 A.1, .int .i64 A.2.1, .bool A.2.2, .int .i64 B.1, .int .i64 B.2.1, .bool B.2.2, .int .i64 G.1, .int .i64 G.2.1, .bool G.2.2, .int .i64 D.1, .int .i64 D.2.1, .bool D.2.2, .slice aI7 nI cI7, .slice aU7 nU cU7, .slice aV7 nV cV7, .slice aL7 nL cL7, .slice aZ7 nZ cZ7]) := ⟨H14.out.1.trans (hb15.mono H14.out.1.size), H14.out.2.1.on hb15 H14.out.2.1.lt, H14.out.2.2.1.on hb15 H14.out.2.2.1.lt, H14.out.2.2.2.1.on hb15 H14.out.2.2.2.1.lt, H14.out.2.2.2.2.1.same (Same.of_below hb15 (by omega)), H14.out.2.2.2.2.2.on hb15 H14.out.2.2.2.2.2.lt⟩
        have HO15 : Hid (MkO lo hi w15 (vec5 (.slice aU7 nU cU7) (.slice aV7 nV cV7) (.slice aI7 nI cI7) (.slice aL7 nL cL7) (.slice aZ7 nZ cZ7)) (mkM 1 nU nV nI nL nZ)) := HO14.out.same (Same.of_below hb15 (by omega))
        clear H14 HO14 HQ14 hb15
        have hm7 := H15.out.2.2.2.2.2
        go_wp2_with (refine load_blk rfl rfl rfl hm7 Tryz.underlying40 infoMk ?_)
        clear hm7
        refine (CH.out _ HO15.out (by omega)).mono ?_
        rintro e w16 ⟨rfl, hb16⟩
        have hBe : Below w.heap.size w w16 := H15.out.1.trans (hb16.mono H15.out.1.size)
        clear H15 HO15 hb16
        go_wp2
        go_ret
        exact ⟨rfl, hBe⟩

end Go.Proofs.YthnahalboomkoaaGreat
