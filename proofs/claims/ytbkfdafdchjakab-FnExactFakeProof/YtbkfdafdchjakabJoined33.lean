/-
  Texts of one's own, joined.
-/
import Derived.Test.YtbkfdafdchjakabPrfFkS
import Derived.Test.YtbkfdafdchjakabPrfFk
import Derived.Test.YtbkfdafdchjakabPrfI3
import Derived.Test.YtbkfdafdchjakabJoined32
import Derived.Test.YtbkfdafdchjakabJoined10
import Derived.Test.YtbkfdafdchjakabJoined14
import Derived.Test.YtbkfdafdchjakabJoined11
import Derived.OpenShut

/-
  The walk of the exact law of a proof without a witness.
  (-DROP-: what the seat lacks is left out.)
-/
namespace Go.Proofs.Ytbkfdafdchjakab
open Go.RowKit

theorem putFk7 {ops : Array Oper} (v : Nat → Value) (a : Act) (h : ops.size = 15) (h1 : dsOf ops 1 = some 28) (h3 : dsOf ops 3 = some 30) (h5 : dsOf ops 5 = some 32) (h8 : dsOf ops 8 = some 35) (h9 : dsOf ops 9 = some 26) (h10 : dsOf ops 10 = some 36) (h11 : dsOf ops 11 = some 37) (h12 : dsOf ops 12 = some 12) (h13 : dsOf ops 13 = none) (h14 : dsOf ops 14 = some 13) : putSt ops v a (fun i => [1, 3, 5, 8, 9, 10, 11, 12, 13, 14].contains i) ops.size = ((((((((((a.put (some 28) (v 1)).put (some 30) (v 3)).put (some 32) (v 5)).put (some 35) (v 8)).put (some 26) (v 9)).put (some 36) (v 10)).put (some 37) (v 11)).put (some 12) (v 12)).put (none) (v 13)).put (some 13) (v 14)) := by
  rw [h]
  show ((((((((((a.put (dsOf ops 1) (v 1)).put (dsOf ops 3) (v 3)).put (dsOf ops 5) (v 5)).put (dsOf ops 8) (v 8)).put (dsOf ops 9) (v 9)).put (dsOf ops 10) (v 10)).put (dsOf ops 11) (v 11)).put (dsOf ops 12) (v 12)).put (dsOf ops 13) (v 13)).put (dsOf ops 14) (v 14)) = _
  rw [h1, h3, h5, h8, h9, h10, h11, h12, h13, h14]

theorem putFk10 {ops : Array Oper} (v : Nat → Value) (a : Act) (h : ops.size = 13) (h2 : dsOf ops 2 = some 45) (h6 : dsOf ops 6 = some 49) (h7 : dsOf ops 7 = some 42) (h8 : dsOf ops 8 = some 50) (h9 : dsOf ops 9 = some 51) (h10 : dsOf ops 10 = some 16) (h11 : dsOf ops 11 = none) (h12 : dsOf ops 12 = some 17) : putSt ops v a (fun i => [2, 6, 7, 8, 9, 10, 11, 12].contains i) ops.size = ((((((((a.put (some 45) (v 2)).put (some 49) (v 6)).put (some 42) (v 7)).put (some 50) (v 8)).put (some 51) (v 9)).put (some 16) (v 10)).put (none) (v 11)).put (some 17) (v 12)) := by
  rw [h]
  show ((((((((a.put (dsOf ops 2) (v 2)).put (dsOf ops 6) (v 6)).put (dsOf ops 7) (v 7)).put (dsOf ops 8) (v 8)).put (dsOf ops 9) (v 9)).put (dsOf ops 10) (v 10)).put (dsOf ops 11) (v 11)).put (dsOf ops 12) (v 12)) = _
  rw [h2, h6, h7, h8, h9, h10, h11, h12]

def kputFk7 : Nat → Nat := (fun i => match i with | 1 => 1 | 3 => 2 | 5 => 3 | 8 => 4 | 9 => 4 | 10 => 5 | 11 => 6 | 14 => 6 | _ => 0)
def kputFk10 : Nat → Nat := (fun i => match i with | 2 => 2 | 6 => 4 | 7 => 4 | 8 => 5 | 9 => 6 | 12 => 6 | _ => 0)
/-- What the operations of a call of FakeProof answer, by their part in it. -/
def fkVr (X PA : Value) (q : Bool) (r : Nat) (x : Value) : Prop := match r with
  | 2 => x = X
  | 4 => x = .tuple #[PA, .bool q]
  | 5 => x = PA
  | 6 => x = .bool q
  | _ => True
def fkMr (wi pu : Int) (n : Nat) (ls : List (List Int)) (m : List Int) (r : Nat) (x : Value) (w : World) : Prop := match r with
  | 1 => ∃ g, x = .agg #[.int .i64 wi, .int .i64 pu, .slice (some ⟨g, 0, none⟩) n n] ∧ NAt 3 w w.heap.size (.slice (some ⟨g, 0, none⟩) n n) n ls
  | 3 => ∃ g, x = .slice (some ⟨g, 0, none⟩) m.length m.length ∧ ZAt w w.heap.size (.slice (some ⟨g, 0, none⟩) m.length m.length) m
  | _ => True
theorem fkMr_on {wi pu : Int} {n : Nat} {ls : List (List Int)} {m : List Int} {r : Nat} {x : Value} {w w' : World} (h : fkMr wi pu n ls m r x w) (hb : Below w.heap.size w w') : fkMr wi pu n ls m r x w' := by
  unfold fkMr at h ⊢
  split at h
  · obtain ⟨g, h1, h2⟩ := h
    exact ⟨g, h1, (h2.on hb).wide hb.size⟩
  · obtain ⟨g, h1, h2⟩ := h
    exact ⟨g, h1, (h2.on hb).wide hb.size⟩
  · trivial
/-- Those that came up first have no part. -/
theorem first_none {L : Array Bool} {k : Nat → Nat} (h : ((List.range L.size).all fun i => !(L.getD i false) || decide (k i = 0)) = true) (i : Nat) (hi : L.getD i false = true) : k i = 0 := by
  rcases Nat.lt_or_ge i L.size with h1 | h1
  · have h2 := List.all_eq_true.1 h i (List.mem_range.2 h1)
    rw [hi] at h2
    simpa using h2
  · simp [Array.getElem?_eq_none h1] at hi

set_option maxHeartbeats 25600000 in
set_option maxRecDepth 100000 in
theorem lawFakeProof (wi pu : Int) (a : Option Addr) (n c : Nat) (ta al be ga de : Int) (am : Option Addr) (nm cm : Nat) (x y : Int) (hw0 : (Lit.int .i64 wi).wf = true) (hn : n ≤ 9223372036854775807) (hnm : nm ≤ 9223372036854775807) (_hx : (Lit.int .i64 x).wf = true) (_hy : (Lit.int .i64 y).wf = true) (ls : List (List Int)) (hz : ∀ j, (ls.getD j []).length ≤ 9223372036854775807) (f : Nat → Int) (w : World) (hA : NAt 3 w w.heap.size (.slice a n c) n ls) (hBm : IntsAt w am nm w.heap.size f) :
    Calls Try.prog 4 #[sysV wi pu (.slice a n c), .agg #[.int .i64 ta, .int .i64 al, .int .i64 be, .int .i64 ga, .int .i64 de], .slice am nm cm, .int .i64 x, .int .i64 y] w fun e w' => e = .returned (.bool true) ∧ Below w.heap.size w w' := by
  unfold sysV
  obtain ⟨m, hm⟩ : ∃ m, m = zls f nm := ⟨_, rfl⟩
  have HML : Hid (m.length = nm) := by show _ = _; rw [hm]; exact zls_length _ _
  have HMA : Hid (ZAt w w.heap.size (.slice am nm cm) m) := by rw [hm]; exact ZAt.of hBm
  clear hm hBm
  have HA : Hid (NAt 3 w w.heap.size (.slice a n c) n ls) := hA
  obtain ⟨W, hW, hbW, hs, hr⟩ := boxes1r w 46 48 #[.int .i64 wi, .int .i64 pu, .slice a n c] #[.int .i64 ta, .int .i64 al, .int .i64 be, .int .i64 ga, .int .i64 de]
  by_cases hb : 1048576 < nm
  · have hb' : (1048576 : Int) < (nm : Int) := by omega
    go_enter Try.func4, Try.ntmps4
    go_wp2
    go_ret
    exact ⟨rfl, hbW⟩
  have hb' : ¬ (1048576 : Int) < (nm : Int) := by omega
  have hml : m.length ≤ 1048576 := by have := HML.out; omega
  have HZ : Hid (szF 1048576 (n + tot ls) = -1 ∨ (¬ szF 1048576 (n + tot ls) < 0 ∧ n + tot ls ≤ 1048576)) := by show _ ∨ _; unfold szF; by_cases h : n + tot ls ≤ 1048576 <;> simp [h] <;> omega
  have HSZ : Hid (Calls Try.prog 15 #[.agg #[.int .i64 wi, .int .i64 pu, .slice a n c], .int .i64 1048576] W fun e w' => e = .returned (.int .i64 (szF 1048576 (n + tot ls))) ∧ Below W.heap.size W w') := szSystem_any wi pu a n c hn ls hz W ((hA.on hbW).wide hbW.size)
  generalize szF 1048576 (n + tot ls) = left at HZ HSZ
  have HBW : Hid (Below w.heap.size w W) := hbW
  clear hbW hA
  rcases HZ.out with rfl | ⟨hleft, htot⟩
  · skip
    go_enter Try.func4, Try.ntmps4
    go_wp2_with (refine load_blk rfl rfl rfl hs Try.underlying46 infoSl ?_)
    clear hW
    refine HSZ.out.mono ?_
    rintro e wz ⟨rfl, hbz⟩
    have hBz := below_then HBW.out hbz
    clear hbz HSZ
    go_wp2
    go_ret
    exact ⟨rfl, hBz⟩
  have hn1 : n ≤ 1048576 := by omega
  have hz1 : ∀ j, (ls.getD j []).length ≤ 1048576 := fun j => by
    rcases Nat.lt_or_ge j ls.length with h | h
    · have := tot_at_le ls h; omega
    · have e : ls.getD j [] = [] := by simp [h]
      rw [e]; exact Nat.zero_le _
  obtain ⟨PX, PY, PZ, q, hq1, hq2⟩ : ∃ (PX PY PZ : Pt) (q : Bool), (∀ g u V, NAt 3 V V.heap.size (.slice (some ⟨g, 0, none⟩) n n) n ls → ZAt V V.heap.size (.slice (some ⟨u, 0, none⟩) m.length m.length) m → Calls Try.prog 19 #[.agg #[.int .i64 wi, .int .i64 pu, .slice (some ⟨g, 0, none⟩) n n], .agg #[.int .i64 ta, .int .i64 al, .int .i64 be, .int .i64 ga, .int .i64 de], .slice (some ⟨u, 0, none⟩) m.length m.length, .int .i64 x, .int .i64 y] V fun e w' => e = .returned (.tuple #[.agg (prfC PX PY PZ), .bool q]) ∧ Below V.heap.size V w') ∧ (∀ g u V, NAt 3 V V.heap.size (.slice (some ⟨g, 0, none⟩) n n) n ls → ZAt V V.heap.size (.slice (some ⟨u, 0, none⟩) m.length m.length) m → Calls Try.prog 16 #[.agg #[.int .i64 wi, .int .i64 pu, .slice (some ⟨g, 0, none⟩) n n], .agg #[.int .i64 ta, .int .i64 al, .int .i64 be, .int .i64 ga, .int .i64 de], .slice (some ⟨u, 0, none⟩) m.length m.length, .int .i64 x, .int .i64 y] V fun e w' => e = .returned (.tuple #[.agg (prfC PX PY PZ), .bool q]) ∧ Below V.heap.size V w') := by
    refine ⟨fkPt (fkB wi pu n ls ta al be ga de m.length x y) x, fkPt (fkB wi pu n ls ta al be ga de m.length x y) y, fkPt (fkB wi pu n ls ta al be ga de m.length x y) (fkV ls n ta al be de (fun j => m.getD j 0) pu.toNat x y), (fkB wi pu n ls ta al be ga de m.length x y), fun g u V hN hZ => ?_, fun g u V hN hZ => ?_⟩
    · obtain ⟨a', c', hv, hI⟩ := hZ
      rw [hv]
      exact iFake_of (fun wi pu hwf a n c hn ls hz ta al be ga de w hA => iMult_any wi pu hwf a n c hn ls hz ta al be ga de w hA) wi pu hw0 _ n n (by omega) ls (fun j => Nat.le_trans (hz1 j) (by decide)) ta al be ga de a' c' m (by omega) x y V hN hI
    · obtain ⟨a', c', hv, hI⟩ := hZ
      rw [hv]
      exact sFake_any wi pu hw0 _ n n (by omega) ls (fun j => Nat.le_trans (hz1 j) (by decide)) ta al be ga de a' c' m (by omega) x y V hN hI
  have CI : Hid _ := hq1
  have CS : Hid _ := hq2
  clear hq1 hq2
  have CT : Hid (∀ V, Calls Try.prog 18 #[.agg #[.int .i64 ta, .int .i64 al, .int .i64 be, .int .i64 ga, .int .i64 de]] V fun e w' => e = .returned (.agg #[.int .i64 ta, .int .i64 al, .int .i64 be, .int .i64 ga, .int .i64 de]) ∧ Below V.heap.size V w') := toToxic_any ta al be ga de
  have CO : Hid (∀ V, Below w.heap.size w V → Calls Try.prog 17 #[.agg #[.int .i64 wi, .int .i64 pu, .slice a n c]] V fun e w' => ∃ g vs, e = .returned (.agg #[.int .i64 wi, .int .i64 pu, .slice (some ⟨g, 0, none⟩) n n]) ∧ NOwnV 3 127 V.heap.size w'.heap.size w' (.slice (some ⟨g, 0, none⟩) n n) n vs ls ∧ Below V.heap.size V w') := fun V hV => toSystem_any wi pu a n c hn1 ls hz1 V ((HA.out.on hV).wide hV.size)
  have CZ : Hid (∀ V, Below w.heap.size w V → Calls Try.prog 10 #[.slice am nm cm] V fun e w' => ∃ g, e = .returned (.slice (some ⟨g, 0, none⟩) m.length m.length) ∧ ZOwn V.heap.size w'.heap.size w' (.slice (some ⟨g, 0, none⟩) m.length m.length) m ∧ Below V.heap.size V w') := fun V hV => toZ_any _ m hml V ((HMA.out.on hV).wide hV.size)
  have CE : Hid (∀ g1 g2 V, NAt 3 V V.heap.size (.slice (some ⟨g1, 0, none⟩) n n) n ls → NAt 3 V V.heap.size (.slice (some ⟨g2, 0, none⟩) n n) n ls → Calls Try.prog 21 #[.agg #[.int .i64 wi, .int .i64 pu, .slice (some ⟨g1, 0, none⟩) n n], .agg #[.int .i64 wi, .int .i64 pu, .slice (some ⟨g2, 0, none⟩) n n]] V fun e w' => e = .returned (.bool true) ∧ Below V.heap.size V w') := fun g1 g2 V h1 h2 => eqSystem_any wi pu _ _ n n n hn1 ls hz1 V h1 h2
  have CEZ : Hid (∀ g1 g2 V, ZAt V V.heap.size (.slice (some ⟨g1, 0, none⟩) m.length m.length) m → ZAt V V.heap.size (.slice (some ⟨g2, 0, none⟩) m.length m.length) m → Calls Try.prog 14 #[.slice (some ⟨g1, 0, none⟩) m.length m.length, .slice (some ⟨g2, 0, none⟩) m.length m.length] V fun e w' => e = .returned (.bool true) ∧ Below V.heap.size V w') := fun g1 g2 V h1 h2 => eqZ_any _ _ m hml V h1 h2
  have CEP : Hid (∀ V, Calls Try.prog 20 #[.agg (prfC PX PY PZ), .agg (prfC PX PY PZ)] V fun e w' => e = .returned (.bool true) ∧ Below V.heap.size V w') := eqProof_same PX PY PZ
  clear HZ hz hn hz1 htot
  go_enter Try.func4, Try.ntmps4
  go_wp2_with (refine load_blk rfl rfl rfl hs Try.underlying46 infoSl ?_)
  clear hW
  refine HSZ.out.mono ?_
  rintro e w1 ⟨rfl, hb1⟩
  have hs1 := hs.on hb1 hs.lt
  have hr1 := hr.on hb1 hr.lt
  have HB1 : Hid (Below w.heap.size w w1) := below_then HBW.out hb1
  clear hb1 hs hr HBW HSZ
  -- the specification
  go_wp2_with fail
  have T0 : Below w1.heap.size w1 w1.drew := (Below.refl _ _).drew
  refine wp_region_to [(0, false), (2, false), (4, false), (6, false), (7, false)] 10 #[true, false, true, false, true, false, true, true, false, false, false, false, false, false, false] (fun wz => Below w1.heap.size w1 wz) mixes (by kernel_rfl) T0 ?_
  repeat (refine ord_float rfl rfl (fun K hK => ⟨_, (fun w' hw => by have q0 := (hs1.on hw hs1.lt).cell 0; have q1 :=  (hs1.on hw hs1.lt).cell 1; have q2 :=  (hs1.on hw hs1.lt).cell 2; have q3 :=  (hr1.on hw hr1.lt).cell 0; have q4 :=  (hr1.on hw hr1.lt).cell 1; have q5 :=  (hr1.on hw hr1.lt).cell 2; have q6 :=  (hr1.on hw hr1.lt).cell 3; have q7 :=  (hr1.on hw hr1.lt).cell 4; go_simp; exact rfl), ?_⟩); go_simp; refine hK _ ?_; clear hK K)
  refine ord_nil ?_
  refine anyH_chn (H := [1, 3, 5, 8, 9, 10, 11, 12, 13, 14]) (LS := [#[true, false, true, false, true, false, true, true, false, false, false, false, false, false, false], #[true, true, true, false, true, false, true, true, false, false, false, false, false, false, false], #[true, false, true, false, true, false, true, true, false, false, false, false, true, false, false], #[true, true, true, true, true, false, true, true, false, false, false, false, false, false, false], #[true, true, true, false, true, false, true, true, false, false, false, false, true, false, false], #[true, true, true, true, true, true, true, true, false, false, false, false, false, false, false], #[true, true, true, true, true, false, true, true, false, false, false, false, true, false, false], #[true, true, true, true, true, true, true, true, true, false, false, false, false, false, false], #[true, true, true, true, true, true, true, true, false, false, false, false, true, false, false], #[true, true, true, true, true, true, true, true, true, true, false, false, false, false, false], #[true, true, true, true, true, true, true, true, true, false, false, false, true, false, false], #[true, true, true, true, true, true, true, true, true, true, true, false, false, false, false], #[true, true, true, true, true, true, true, true, true, true, false, true, false, false, false], #[true, true, true, true, true, true, true, true, true, true, false, false, true, false, false], #[true, true, true, true, true, true, true, true, true, true, true, true, false, false, false], #[true, true, true, true, true, true, true, true, true, true, true, false, true, false, false], #[true, true, true, true, true, true, true, true, true, true, false, true, true, false, false], #[true, true, true, true, true, true, true, true, true, true, true, true, true, false, false], #[true, true, true, true, true, true, true, true, true, true, true, false, true, true, false], #[true, true, true, true, true, true, true, true, true, true, true, true, true, true, false], #[true, true, true, true, true, true, true, true, true, true, true, true, true, true, true]]) (Le := #[true, true, true, true, true, true, true, true, true, true, true, true, true, true, true]) w1 (fun i x _ => fkVr (.agg #[.int .i64 ta, .int .i64 al, .int .i64 be, .int .i64 ga, .int .i64 de]) (.agg (prfC PX PY PZ)) q (kputFk7 i) x) (fun i x w => fkMr wi pu n ls m (kputFk7 i) x w) (fun _ _ => True) (fun _ _ => True) 8 12 13 39 #[.int .i64 0, .int .i64 0, .bool false, .int .i64 0, .int .i64 0, .bool false, .int .i64 0, .int .i64 0, .bool false] (fun _ => (prfC PX PY PZ)) (fun _ _ _ _ h hb => fkMr_on h hb) (fun _ _ _ _ _ => trivial) (fun _ _ _ => trivial) (fun _ _ _ _ _ _ => trivial) (by kernel_rfl) (by kernel_rfl) (by kernel_rfl) rfl rfl (by kernel_rfl) (fun i hi => by have h0 := first_none (k := kputFk7) (by kernel_rfl) i hi; exact ⟨fun y => by show fkVr _ _ _ (kputFk7 i) _; rw [h0]; exact trivial, by show fkMr _ _ _ _ _ (kputFk7 i) _ _; rw [h0]; exact trivial⟩) (fun _ _ => trivial) (fun _ _ => trivial) (fun _ _ => trivial) ?_ ?_ ?_ T0 ?_
  · intro L i o v w2 hiH hna hns ho hJ hS hun hall
    rw [putFk7 v _ rfl rfl rfl rfl rfl rfl rfl rfl rfl rfl rfl]
    simp only [List.mem_cons, List.not_mem_nil, or_false] at hiH
    rcases hiH with rfl | rfl | rfl | rfl | rfl | rfl | rfl | rfl | rfl | rfl <;> obtain rfl := Option.some.inj ho
    · refine .inr ⟨_, _, (by go_simp <;> first | exact rfl | exact ⟨rfl, rfl⟩), ?_⟩
      refine (CO.out w2 (HB1.out.trans (hS.mono HB1.out.size))).mono ?_
      rintro e w3 ⟨g, vs, rfl, hO, hb⟩
      exact ⟨_, rfl, fun _ _ => trivial, fun _ => ⟨g, rfl, hO.at⟩, fun h => absurd h (by decide), hb⟩
    · refine .inr ⟨_, _, (by go_simp <;> first | exact rfl | exact ⟨rfl, rfl⟩), ?_⟩
      refine (CT.out w2).mono ?_
      rintro e w3 ⟨rfl, hb⟩
      exact ⟨_, rfl, fun _ _ => rfl, fun _ => trivial, fun h => absurd h (by decide), hb⟩
    · refine .inr ⟨_, _, (by go_simp <;> first | exact rfl | exact ⟨rfl, rfl⟩), ?_⟩
      refine (CZ.out w2 (HB1.out.trans (hS.mono HB1.out.size))).mono ?_
      rintro e w3 ⟨g, rfl, hO, hb⟩
      exact ⟨_, rfl, fun _ _ => trivial, fun _ => ⟨g, rfl, hO.at⟩, fun h => absurd h (by decide), hb⟩
    · obtain ⟨g1, e1, hN1⟩ : ∃ g, v 1 = .agg #[.int .i64 wi, .int .i64 pu, .slice (some ⟨g, 0, none⟩) n n] ∧ NAt 3 w2 w2.heap.size (.slice (some ⟨g, 0, none⟩) n n) n ls := hJ.mem (un_lt hun).2 1 (hall { on := 1, ground := .data } (by simp) rfl)
      obtain ⟨g5, e5, hZ5⟩ : ∃ g, v 5 = .slice (some ⟨g, 0, none⟩) m.length m.length ∧ ZAt w2 w2.heap.size (.slice (some ⟨g, 0, none⟩) m.length m.length) m := hJ.mem (un_lt hun).2 5 (hall { on := 5, ground := .data } (by simp) rfl)
      have e3 : v 3 = .agg #[.int .i64 ta, .int .i64 al, .int .i64 be, .int .i64 ga, .int .i64 de] := hJ.val 3 (hall { on := 3, ground := .data } (by simp) rfl) undef (fun h => by rw [(un_lt hun).2] at h; cases h)
      rw [e1, e3, e5]
      refine .inr ⟨_, _, (by go_simp <;> first | exact rfl | exact ⟨rfl, rfl⟩), ?_⟩
      refine (CS.out g1 g5 w2 hN1 hZ5).mono ?_
      rintro e w3 ⟨rfl, hb⟩
      exact ⟨_, rfl, fun _ _ => rfl, fun h => absurd rfl h, fun _ => ⟨trivial, fun _ _ => trivial⟩, hb⟩
    · have e8 : v 8 = .tuple #[.agg (prfC PX PY PZ), .bool q] := hJ.val 8 (hall { on := 8, ground := .data } (by simp) rfl) _ (fun _ => rfl)
      rw [e8]
      exact .inl ⟨.tuple #[.agg (prfC PX PY PZ), .bool q], (by go_simp <;> rfl), fun _ _ => rfl, trivial, by decide⟩
    · have e9 : v 9 = .tuple #[.agg (prfC PX PY PZ), .bool q] := hJ.val 9 (hall { on := 9, ground := .data } (by simp) rfl) _ (fun _ => rfl)
      rw [e9]
      exact .inl ⟨.agg (prfC PX PY PZ), (by go_simp <;> rfl), fun _ _ => rfl, trivial, by decide⟩
    · have e9 : v 9 = .tuple #[.agg (prfC PX PY PZ), .bool q] := hJ.val 9 (hall { on := 9, ground := .data } (by simp) rfl) _ (fun _ => rfl)
      rw [e9]
      exact .inl ⟨.bool q, (by go_simp <;> rfl), fun _ _ => rfl, trivial, by decide⟩
    · exact absurd rfl hna
    · exact absurd rfl hns
    · have e11 : v 11 = .bool q := hJ.val 11 (hall { on := 11, ground := .data } (by simp) rfl) _ (fun _ => rfl)
      rw [e11]
      exact .inl ⟨.bool q, (by go_simp <;> rfl), fun _ _ => rfl, trivial, by decide⟩
  · intro v w2
    rw [putFk7 v _ rfl rfl rfl rfl rfl rfl rfl rfl rfl rfl rfl]
    go_simp <;> rfl
  · intro L v w2 g hJ hall hc hg hblk
    have e5 : v 10 = .agg (prfC PX PY PZ) := hJ.val 10 (hall { on := 10, ground := .data } (by simp) rfl) _ (fun _ => rfl)
    rw [putFk7 v _ rfl rfl rfl rfl rfl rfl rfl rfl rfl rfl rfl]
    exact exec_storeR (t := 39) (p := .tmp 12) (u := .tmp 36) rfl (by go_simp <;> exact hg) (by go_simp <;> exact e5) hblk infoPrF rfl (onesPrF _ _ _)
  · intro v w2 g hV _ _ hg hgW hblk hB2
    have e3 : v 3 = .agg #[.int .i64 ta, .int .i64 al, .int .i64 be, .int .i64 ga, .int .i64 de] := hV 3 rfl
    have e8 : v 8 = .tuple #[.agg (prfC PX PY PZ), .bool q] := hV 8 rfl
    have e9 : v 9 = .tuple #[.agg (prfC PX PY PZ), .bool q] := hV 9 rfl
    have e10 : v 10 = .agg (prfC PX PY PZ) := hV 10 rfl
    have e11 : v 11 = .bool q := hV 11 rfl
    have e14 : v 14 = .bool q := hV 14 rfl
    rw [putFk7 v _ rfl rfl rfl rfl rfl rfl rfl rfl rfl rfl rfl]
    rw [hg, e3, e8, e9, e10, e11, e14]
    clear hV hg e3 e8 e9 e10 e11 e14
    generalize v 1 = j1
    generalize v 5 = j5
    generalize v 13 = j13
    clear v
    go_simp
    have hs3 := hs1.on hB2 hs1.lt
    have hr3 := hr1.on hB2 hr1.lt
    have HB3 : Hid (Below w.heap.size w w2) := HB1.out.trans (hB2.mono HB1.out.size)
    have hgw : g ≠ w.heap.size ∧ g ≠ w.heap.size + 1 := by have := hr1.lt; omega
    clear hs1 hr1 HB1 T0 hB2 CS hgW
    -- the program
    go_wp2_with (refine load_blk rfl rfl rfl hs3 Try.underlying46 infoSl ?_)
    refine (CO.out _ HB3.out).mono ?_
    rintro e w4 ⟨g4, vs4, rfl, hO4, hb4⟩
    obtain ⟨W5, hW5, hb5, hx5⟩ := box1 w4 54 #[.int .i64 wi, .int .i64 pu, .slice (some ⟨g4, 0, none⟩) n n]
    have hc5 := below_then hb4 hb5
    have hs5 := hs3.on hc5 hs3.lt
    have hr5 := hr3.on hc5 hr3.lt
    have hk5 := hblk.on hc5 hblk.lt
    have hs45 : w4.heap.size ≤ W5.heap.size := hb5.size
    have HO5 : Hid (NOwnV 3 127 w2.heap.size w4.heap.size W5 (.slice (some ⟨g4, 0, none⟩) n n) n vs4 ls) := hO4.same (Same.of_below hb5 (Nat.le_refl _))
    have HB5 : Hid (Below w.heap.size w W5) := HB3.out.trans (hc5.mono HB3.out.size)
    clear hO4 hb4 hb5 hs3 hr3 hblk HB3 hc5
    go_wp2_with fail
    clear hW5
    refine (CZ.out _ HB5.out).mono ?_
    rintro e w6 ⟨g6, rfl, hO6, hb6⟩
    have hs6 := hs5.on hb6 hs5.lt
    have hr6 := hr5.on hb6 hr5.lt
    have hk6 := hk5.on hb6 hk5.lt
    have hx6 := hx5.on hb6 hx5.lt
    have HO6 : Hid (NOwnV 3 127 w2.heap.size w4.heap.size w6 (.slice (some ⟨g4, 0, none⟩) n n) n vs4 ls) := HO5.out.same (Same.of_below hb6 hs45)
    have hs46 : w4.heap.size ≤ w6.heap.size := Nat.le_trans hs45 hb6.size
    have HP6 : Hid (ZOwn W5.heap.size w6.heap.size w6 (.slice (some ⟨g6, 0, none⟩) m.length m.length) m) := hO6
    have HB6 : Hid (Below w.heap.size w w6) := HB5.out.trans (hb6.mono HB5.out.size)
    clear hO6 hb6 hs5 hr5 hk5 hx5 HO5 HB5 hs45
    go_wp2_with fail
    have T0 : Below w6.heap.size w6 w6.drew := (Below.refl _ _).drew
    refine wp_region_to [(0, false), (1, false), (3, false), (4, false), (5, false)] 8 #[true, true, false, true, true, true, false, false, false, false, false, false, false] (fun wz => Below w6.heap.size w6 wz) mixes (by kernel_rfl) T0 ?_
    repeat (refine ord_float rfl rfl (fun K hK => ⟨_, (fun w' hw => by have q0 := (hx6.on hw hx6.lt).cell 0; have q1 :=  (hx6.on hw hx6.lt).cell 1; have q2 :=  (hx6.on hw hx6.lt).cell 2; have q3 :=  (hr6.on hw hr6.lt).cell 0; have q4 :=  (hr6.on hw hr6.lt).cell 1; have q5 :=  (hr6.on hw hr6.lt).cell 2; have q6 :=  (hr6.on hw hr6.lt).cell 3; have q7 :=  (hr6.on hw hr6.lt).cell 4; go_simp; exact rfl), ?_⟩); go_simp; refine hK _ ?_; clear hK K)
    refine ord_nil ?_
    refine anyH_chn (H := [2, 6, 7, 8, 9, 10, 11, 12]) (LS := [#[true, true, false, true, true, true, false, false, false, false, false, false, false], #[true, true, true, true, true, true, false, false, false, false, false, false, false], #[true, true, false, true, true, true, false, false, false, false, true, false, false], #[true, true, true, true, true, true, true, false, false, false, false, false, false], #[true, true, true, true, true, true, false, false, false, false, true, false, false], #[true, true, true, true, true, true, true, true, false, false, false, false, false], #[true, true, true, true, true, true, true, false, false, false, true, false, false], #[true, true, true, true, true, true, true, true, true, false, false, false, false], #[true, true, true, true, true, true, true, true, false, true, false, false, false], #[true, true, true, true, true, true, true, true, false, false, true, false, false], #[true, true, true, true, true, true, true, true, true, true, false, false, false], #[true, true, true, true, true, true, true, true, true, false, true, false, false], #[true, true, true, true, true, true, true, true, false, true, true, false, false], #[true, true, true, true, true, true, true, true, true, true, true, false, false], #[true, true, true, true, true, true, true, true, true, false, true, true, false], #[true, true, true, true, true, true, true, true, true, true, true, true, false], #[true, true, true, true, true, true, true, true, true, true, true, true, true]]) (Le := #[true, true, true, true, true, true, true, true, true, true, true, true, true]) w6 (fun i x _ => fkVr (.agg #[.int .i64 ta, .int .i64 al, .int .i64 be, .int .i64 ga, .int .i64 de]) (.agg (prfC PX PY PZ)) q (kputFk10 i) x) (fun i x w => fkMr wi pu n ls m (kputFk10 i) x w) (fun _ _ => True) (fun _ _ => True) 6 10 11 39 #[.int .i64 0, .int .i64 0, .bool false, .int .i64 0, .int .i64 0, .bool false, .int .i64 0, .int .i64 0, .bool false] (fun _ => (prfC PX PY PZ)) (fun _ _ _ _ h hb => fkMr_on h hb) (fun _ _ _ _ _ => trivial) (fun _ _ _ => trivial) (fun _ _ _ _ _ _ => trivial) (by kernel_rfl) (by kernel_rfl) (by kernel_rfl) rfl rfl (by kernel_rfl) (fun i hi => by have h0 := first_none (k := kputFk10) (by kernel_rfl) i hi; exact ⟨fun y => by show fkVr _ _ _ (kputFk10 i) _; rw [h0]; exact trivial, by show fkMr _ _ _ _ _ (kputFk10 i) _ _; rw [h0]; exact trivial⟩) (fun _ _ => trivial) (fun _ _ => trivial) (fun _ _ => trivial) ?_ ?_ ?_ T0 ?_
    · intro L i o v w3 hiH hna hns ho hJ hS hun hall
      rw [putFk10 v _ rfl rfl rfl rfl rfl rfl rfl rfl rfl]
      simp only [List.mem_cons, List.not_mem_nil, or_false] at hiH
      rcases hiH with rfl | rfl | rfl | rfl | rfl | rfl | rfl | rfl <;> obtain rfl := Option.some.inj ho
      · refine .inr ⟨_, _, (by go_simp <;> first | exact rfl | exact ⟨rfl, rfl⟩), ?_⟩
        refine (CT.out w3).mono ?_
        rintro e w7 ⟨rfl, hb⟩
        exact ⟨_, rfl, fun _ _ => rfl, fun _ => trivial, fun h => absurd h (by decide), hb⟩
      · have e2 : v 2 = .agg #[.int .i64 ta, .int .i64 al, .int .i64 be, .int .i64 ga, .int .i64 de] := hJ.val 2 (hall { on := 2, ground := .data } (by simp) rfl) undef (fun h => by rw [(un_lt hun).2] at h; cases h)
        rw [e2]
        refine .inr ⟨_, _, (by go_simp <;> first | exact rfl | exact ⟨rfl, rfl⟩), ?_⟩
        refine (CI.out g4 g6 w3 (((HO6.out.same (Same.of_below hS hs46)).at).wide (by have := hS.size; omega)) ((HP6.out.same (Same.of_below hS (Nat.le_refl _))).at.wide hS.size)).mono ?_
        rintro e w7 ⟨rfl, hb⟩
        exact ⟨_, rfl, fun _ _ => rfl, fun h => absurd rfl h, fun _ => ⟨trivial, fun _ _ => trivial⟩, hb⟩
      · have e6 : v 6 = .tuple #[.agg (prfC PX PY PZ), .bool q] := hJ.val 6 (hall { on := 6, ground := .data } (by simp) rfl) _ (fun _ => rfl)
        rw [e6]
        exact .inl ⟨.tuple #[.agg (prfC PX PY PZ), .bool q], (by go_simp <;> rfl), fun _ _ => rfl, trivial, by decide⟩
      · have e7 : v 7 = .tuple #[.agg (prfC PX PY PZ), .bool q] := hJ.val 7 (hall { on := 7, ground := .data } (by simp) rfl) _ (fun _ => rfl)
        rw [e7]
        exact .inl ⟨.agg (prfC PX PY PZ), (by go_simp <;> rfl), fun _ _ => rfl, trivial, by decide⟩
      · have e7 : v 7 = .tuple #[.agg (prfC PX PY PZ), .bool q] := hJ.val 7 (hall { on := 7, ground := .data } (by simp) rfl) _ (fun _ => rfl)
        rw [e7]
        exact .inl ⟨.bool q, (by go_simp <;> rfl), fun _ _ => rfl, trivial, by decide⟩
      · exact absurd rfl hna
      · exact absurd rfl hns
      · have e9 : v 9 = .bool q := hJ.val 9 (hall { on := 9, ground := .data } (by simp) rfl) _ (fun _ => rfl)
        rw [e9]
        exact .inl ⟨.bool q, (by go_simp <;> rfl), fun _ _ => rfl, trivial, by decide⟩
    · intro v w3
      rw [putFk10 v _ rfl rfl rfl rfl rfl rfl rfl rfl rfl]
      go_simp <;> rfl
    · intro L v w3 g hJ hall hc hg hblk
      have e5 : v 8 = .agg (prfC PX PY PZ) := hJ.val 8 (hall { on := 8, ground := .data } (by simp) rfl) _ (fun _ => rfl)
      rw [putFk10 v _ rfl rfl rfl rfl rfl rfl rfl rfl rfl]
      exact exec_storeR (t := 39) (p := .tmp 16) (u := .tmp 50) rfl (by go_simp <;> exact hg) (by go_simp <;> exact e5) hblk infoPrF rfl (onesPrF _ _ _)
    · intro v w3 g7 hV _ _ hg hgW hblk hB3
      have e2 : v 2 = .agg #[.int .i64 ta, .int .i64 al, .int .i64 be, .int .i64 ga, .int .i64 de] := hV 2 rfl
      have e6 : v 6 = .tuple #[.agg (prfC PX PY PZ), .bool q] := hV 6 rfl
      have e7 : v 7 = .tuple #[.agg (prfC PX PY PZ), .bool q] := hV 7 rfl
      have e8 : v 8 = .agg (prfC PX PY PZ) := hV 8 rfl
      have e9 : v 9 = .bool q := hV 9 rfl
      have e12 : v 12 = .bool q := hV 12 rfl
      rw [putFk10 v _ rfl rfl rfl rfl rfl rfl rfl rfl rfl]
      rw [hg, e2, e6, e7, e8, e9, e12]
      clear hV hg e2 e6 e7 e8 e9 e12
      generalize v 11 = j11
      clear v
      go_simp
      have hs7 := hs6.on hB3 hs6.lt
      have hk7 := hk6.on hB3 hk6.lt
      have hx7 := hx6.on hB3 hx6.lt
      have HO7 : Hid (NOwnV 3 127 w2.heap.size w4.heap.size w3 (.slice (some ⟨g4, 0, none⟩) n n) n vs4 ls) := HO6.out.same (Same.of_below hB3 hs46)
      have HP7 : Hid (ZOwn W5.heap.size w6.heap.size w3 (.slice (some ⟨g6, 0, none⟩) m.length m.length) m) := HP6.out.same (Same.of_below hB3 (Nat.le_refl _))
      have hs47 : w4.heap.size ≤ w3.heap.size := Nat.le_trans hs46 hB3.size
      have hs67 : w6.heap.size ≤ w3.heap.size := hB3.size
      have HB7 : Hid (Below w.heap.size w w3) := HB6.out.trans (hB3.mono HB6.out.size)
      clear hs6 hr6 hk6 hx6 HO6 HP6 HB6 T0 hB3 CI CT hgW hs46
      -- both are alike
      go_wp2_with (first | (refine load_blk rfl rfl rfl hblk Try.underlying39 infoPrF ?_) | (refine load_blk rfl rfl rfl hk7 Try.underlying39 infoPrF ?_))
      refine (CEP.out _).mono ?_
      rintro e w8 ⟨rfl, hb8⟩
      have hs8 := hs7.on hb8 hs7.lt
      have hx8 := hx7.on hb8 hx7.lt
      have HO8 : Hid (NOwnV 3 127 w2.heap.size w4.heap.size w8 (.slice (some ⟨g4, 0, none⟩) n n) n vs4 ls) := HO7.out.same (Same.of_below hb8 hs47)
      have HP8 : Hid (ZOwn W5.heap.size w6.heap.size w8 (.slice (some ⟨g6, 0, none⟩) m.length m.length) m) := HP7.out.same (Same.of_below hb8 hs67)
      have hs48 : w4.heap.size ≤ w8.heap.size := Nat.le_trans hs47 hb8.size
      have hs68 : w6.heap.size ≤ w8.heap.size := Nat.le_trans hs67 hb8.size
      have HB8 : Hid (Below w.heap.size w w8) := HB7.out.trans (hb8.mono HB7.out.size)
      clear hs7 hx7 HO7 HP7 HB7 hb8 hk7 hblk CEP hs47 hs67
      -- the arguments are as they were
      go_wp2_with fail
      have T0 : Below w8.heap.size w8 w8.drew := (Below.refl _ _).drew
      refine wp_region_ord [(0, false), (1, false), (2, true), (3, true), (4, true)] (fun wz => Below w8.heap.size w8 wz) mixes (by kernel_rfl) T0 ?_
      repeat (refine ord_float rfl rfl (fun K hK => ⟨_, (fun w' hw => by have q0 := (hx8.on hw hx8.lt).cell 0; have q1 :=  (hx8.on hw hx8.lt).cell 1; have q2 :=  (hx8.on hw hx8.lt).cell 2; have q3 :=  (hs8.on hw hs8.lt).cell 0; have q4 :=  (hs8.on hw hs8.lt).cell 1; have q5 :=  (hs8.on hw hs8.lt).cell 2; go_simp; exact rfl), ?_⟩); go_simp; refine hK _ ?_; clear hK K)
      refine ord_call rfl rfl (fun K hK => ⟨_, _, (by go_simp <;> first | exact rfl | exact ⟨rfl, rfl⟩), ?_⟩)
      refine (CO.out _ HB8.out.drew).mono ?_
      rintro e v1 ⟨g9, vs9, rfl, hO9, hv1⟩
      have T1 := below_then T0 hv1
      have hP1 := ((HO8.out.same (Same.of_below T1 hs48)).at.wide (c := _) (d := v1.heap.size) (by have := T1.size; omega))
      have hP2 := hO9.at
      refine ⟨_, rfl, T1, ?_⟩
      go_simp
      refine hK _ _ ?_
      clear hK K
      refine ord_call rfl rfl (fun K hK => ⟨_, _, (by go_simp <;> first | exact rfl | exact ⟨rfl, rfl⟩), ?_⟩)
      refine (CE.out _ _ _ hP1 hP2).mono ?_
      rintro e v2 ⟨rfl, hv2⟩
      have T2 := below_then T1 hv2
      refine ⟨_, rfl, T2, ?_⟩
      go_simp
      refine hK _ _ ?_
      clear hK K
      refine ord_op rfl rfl (fun K hK => ⟨_, _, (by go_simp <;> first | exact ⟨rfl, rfl⟩ | exact rfl), T2, ?_⟩)
      go_simp
      refine hK _ _ ?_
      clear hK K
      refine ord_nil ?_
      have HB9 : Hid (Below w.heap.size w v2) := HB8.out.trans (T2.mono HB8.out.size)
      have HP9 : Hid (ZOwn W5.heap.size w6.heap.size v2 (.slice (some ⟨g6, 0, none⟩) m.length m.length) m) := HP8.out.same (Same.of_below T2 hs68)
      have hs69 : w6.heap.size ≤ v2.heap.size := Nat.le_trans hs68 T2.size
      clear hs8 hx8 HO8 HP8 HB8 T0 T1 T2 hv1 hv2 hP1 hP2 hO9 hs48 hs68
      go_wp2_with fail
      refine (CZ.out _ HB9.out).mono ?_
      rintro e v3 ⟨g10, rfl, hO10, hb10⟩
      have hQ1 : ZAt v3 v3.heap.size (.slice (some ⟨g6, 0, none⟩) m.length m.length) m := (HP9.out.same (Same.of_below hb10 hs69)).at.wide (Nat.le_trans hs69 hb10.size)
      have hQ2 := hO10.at
      have HB10 : Hid (Below w.heap.size w v3) := HB9.out.trans (hb10.mono HB9.out.size)
      clear HP9 HB9 hb10 hO10
      go_wp2_with fail
      refine (CEZ.out _ _ _ hQ1 hQ2).mono ?_
      rintro e v4 ⟨rfl, hb11⟩
      have hB11 := HB10.out.trans (hb11.mono HB10.out.size)
      clear hQ1 hQ2 HB10 hb11
      go_wp2
      go_ret
      exact ⟨rfl, hB11⟩

end Go.Proofs.Ytbkfdafdchjakab

/-
  What an argument of ints is to the walk.
-/
namespace Go.Proofs.Ytbkfdafdchjakab
open Go.RowKit Go.ChangeShapes Go.WideShapes

theorem intsAt_of {W : World} {x : Addr} {zs : List Int} {len cap : Nat} (hl : len ≤ cap) (hz : zs.length = cap) (hcell : ∀ i, i < zs.length → W.cell? (x.add i) = some (.int .i64 (zs.getD i 0))) : IntsAt W (some x) len W.heap.size (fun j => zs.getD j 0) := by
  intro j hj
  obtain ⟨b, off, spot⟩ := x
  have hspot : spot = none := by simpa [Addr.add] using World.cell?_spot (hcell 0 (by omega))
  subst hspot
  have hc0 : W.cell? ⟨b, off + j, none⟩ = some (.int .i64 (zs.getD j 0)) := by rw [← Addr.add_lit]; exact hcell j (by omega)
  exact ⟨b, off, rfl, World.block_lt_of_cell? W _ hc0, hc0⟩

end Go.Proofs.Ytbkfdafdchjakab
