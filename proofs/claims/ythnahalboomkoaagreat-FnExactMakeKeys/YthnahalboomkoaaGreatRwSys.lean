/-
  The walks of systems: whether they are right, and what satisfies them; the program's and the specification's.
  (-DROP-: what the seat lacks is left out.)
-/
import Derived.Test.YthnahalboomkoaaGreatJoined9

namespace Go.Proofs.YthnahalboomkoaaGreat
open Go.RowKit

/-- So many of its first numbers are scalars. -/
def scN (l : List Int) (k : Nat) : Bool := (l.take k).all fun x => decide (0 ≤ x ∧ x ≤ 1008)
theorem scN_next (l : List Int) {k : Nat} (h : k < l.length) : scN l (k + 1) = (scN l k && decide (0 ≤ l.getD k 0 ∧ l.getD k 0 ≤ 1008)) := by
  have e : l.getD k 0 = l[k] := by simp [h]
  rw [e]
  unfold scN
  rw [List.take_succ_eq_append_getElem h, List.all_append]
  simp
theorem scN_false (l : List Int) {k : Nat} (h : scN l k = false) : (l.all fun x => decide (0 ≤ x ∧ x ≤ 1008)) = false := by
  have e : (l.all fun x => decide (0 ≤ x ∧ x ≤ 1008)) = (scN l k && (l.drop k).all fun x => decide (0 ≤ x ∧ x ≤ 1008)) := by
    unfold scN
    rw [← List.all_append, List.take_append_drop]
  rw [e, h]
  rfl
theorem scN_all (l : List Int) : (l.all fun x => decide (0 ≤ x ∧ x ≤ 1008)) = scN l l.length := by unfold scN; rw [List.take_length]
theorem sca_id {x : Int} : x = sca x ↔ (0 ≤ x ∧ x ≤ 1008) := by
  have h0 := sca_nonneg x
  have h1 := sca_lt x
  constructor
  · intro h; omega
  · intro ⟨h2, h3⟩
    have : sca x = x := by
      have e := scn_small (n := x.toNat) (by omega)
      have c := scn_cast x
      rw [← c]
      have e2 : ((x.toNat : Nat) : Int) = x := by omega
      rw [e2] at e
      rw [e]
      exact e2
    exact this.symm

set_option maxHeartbeats 1600000 in
set_option maxRecDepth 100000 in
theorem sWide_any (a : Option Addr) (cap : Nat) (l : List Int) (m : Int) (hl : l.length ≤ 9223372036854775807) (w : World) (hA : IntsAt w a l.length w.heap.size (fun j => l.getD j 0)) :
    Calls Tryz.prog 102 #[.slice a l.length cap, .int .i64 m] w fun e w' => e = .returned (.bool (wide l m)) ∧ Below w.heap.size w w' := by
  have HA : Hid (IntsAt w a l.length w.heap.size (fun j => l.getD j 0)) := hA
  clear hA
  obtain ⟨n, hn⟩ : ∃ n, n = l.length := ⟨_, rfl⟩
  have HN : Hid (n = l.length) := hn
  rw [← hn] at HA hl ⊢
  clear hn
  go_enter Tryz.func102, Tryz.ntmps102
  go_wp2
  go_loopw [5] (fun i wr => ∃ k : Nat, i = .int .i64 (k : Int) ∧ k ≤ n ∧ Hid (scN l k = true) ∧ w = wr) (fun i _ => n - (intOf i).toNat)
  case atStart => exact ⟨0, rfl, Nat.zero_le _, rfl, rfl⟩
  case round =>
    obtain ⟨k, rfl, hk, HS, rfl⟩ := hrel
    by_cases hlt : k < n
    · have hlt' : (k : Int) < (n : Int) := by omega
      have hk0 : (0 : Int) ≤ (k : Int) := by omega
      obtain ⟨b, off, rfl, hb, hz⟩ := HA.out k hlt
      replace hz : w.cell? ⟨b, off + k, none⟩ = some (.int .i64 (l.getD k 0)) := hz
      have HX : Hid (scN l (k + 1) = decide (0 ≤ l.getD k 0 ∧ l.getD k 0 ≤ 1008)) := by
        show _ = _
        rw [scN_next l (by have := HN.out; omega), HS.out, Bool.true_and]
      have HI : Hid (∀ w, Calls Tryz.prog 87 #[.int .i64 (l.getD k 0), .int .i64 0, .int .i64 1008] w fun e w' => e = .returned (.bool (decide (0 ≤ l.getD k 0 ∧ l.getD k 0 ≤ 1008))) ∧ w = w') := sBetween_any _ 0 1008
      generalize l.getD k 0 = x at hz HI HX
      generalize decide (0 ≤ x ∧ x ≤ 1008) = q at HI HX
      clear hb HA
      cases q
      · have HF : Hid (wide l m = false) := by
          show _ = _
          unfold wide
          rw [scN_false l HX.out, Bool.and_false]
        go_wp2_with (go_at_call 87; refine (HI.out _).mono ?_; rintro e w1 ⟨rfl, rfl⟩)
        go_ret
        exact ⟨by rw [HF.out]; rfl, Below.refl _ _⟩
      · go_wp2_with (go_at_call 87; refine (HI.out _).mono ?_; rintro e w1 ⟨rfl, rfl⟩)
        go_roundw
        case rel => exact ⟨k + 1, by go_num, hlt, HX, by trivial⟩
        case measure => simp [intOf]; omega
    · have hlt' : ¬ (k : Int) < (n : Int) := by omega
      have HF : Hid (wide l m = decide ((n : Int) = m)) := by
        show _ = _
        have h1 := HS.out
        have h2 := HN.out
        unfold wide
        rw [scN_all, ← h2, show n = k by omega, h1, Bool.and_true]
      by_cases hnm : (n : Int) = m
      · subst hnm
        rw [decide_eq_true rfl] at HF
        go_wp2
        go_ret
        exact ⟨by rw [HF.out]; rfl, Below.refl _ _⟩
      · have hnm' : ((n : Int) == m) = false := by rw [beq_eq_false_iff_ne]; exact hnm
        rw [decide_eq_false hnm] at HF
        go_wp2
        go_ret
        exact ⟨by rw [HF.out]; rfl, Below.refl _ _⟩

set_option maxHeartbeats 1600000 in
set_option maxRecDepth 100000 in
theorem iWide_any (a : Option Addr) (cap : Nat) (l : List Int) (m : Int) (hl : l.length ≤ 9223372036854775807) (w : World) (hA : IntsAt w a l.length w.heap.size (fun j => l.getD j 0)) :
    Calls Tryz.prog 52 #[.slice a l.length cap, .int .i64 m] w fun e w' => e = .returned (.bool (wide l m)) ∧ Below w.heap.size w w' := by
  have HA : Hid (IntsAt w a l.length w.heap.size (fun j => l.getD j 0)) := hA
  clear hA
  obtain ⟨n, hn⟩ : ∃ n, n = l.length := ⟨_, rfl⟩
  have HN : Hid (n = l.length) := hn
  rw [← hn] at HA hl ⊢
  clear hn
  by_cases hnm : (n : Int) = m
  · have HD : Hid (wide l m = (l.all fun x => decide (0 ≤ x ∧ x ≤ 1008))) := by
      show _ = _
      unfold wide
      rw [← HN.out, decide_eq_true hnm, Bool.true_and]
    subst hnm
    go_enter Tryz.func52, Tryz.ntmps52
    go_wp2
    go_loopw [13] (fun i wr => ∃ k : Nat, i = .int .i64 (k : Int) ∧ k ≤ n ∧ Hid (scN l k = true) ∧ w = wr) (fun i _ => n - (intOf i).toNat)
    case atStart => exact ⟨0, rfl, Nat.zero_le _, rfl, rfl⟩
    case round =>
      obtain ⟨k, rfl, hk, HS, rfl⟩ := hrel
      by_cases hlt : k < n
      · have hlt' : (k : Int) < (n : Int) := by omega
        have hk0 : (0 : Int) ≤ (k : Int) := by omega
        obtain ⟨b, off, rfl, hb, hz⟩ := HA.out k hlt
        replace hz : w.cell? ⟨b, off + k, none⟩ = some (.int .i64 (l.getD k 0)) := hz
        have HX : Hid (scN l (k + 1) = decide (0 ≤ l.getD k 0 ∧ l.getD k 0 ≤ 1008)) := by
          show _ = _
          rw [scN_next l (by have := HN.out; omega), HS.out, Bool.true_and]
        have HI : Hid (∀ w, Calls Tryz.prog 128 #[.int .i64 (l.getD k 0)] w fun e w' => e = .returned (.int .i64 (sca (l.getD k 0))) ∧ w = w') := iScOf_any _
        have HQ : Hid (l.getD k 0 = sca (l.getD k 0) ↔ (0 ≤ l.getD k 0 ∧ l.getD k 0 ≤ 1008)) := sca_id
        generalize l.getD k 0 = x at hz HI HX HQ
        generalize sca x = y at HI HQ
        clear hb HA
        by_cases hxy : x = y
        · have HX2 : Hid (scN l (k + 1) = true) := by
            show _ = _
            rw [HX.out, decide_eq_true (HQ.out.1 hxy)]
          subst hxy
          go_wp2_with (go_at_call 128; refine (HI.out _).mono ?_; rintro e w1 ⟨rfl, rfl⟩)
          go_roundw
          case rel => exact ⟨k + 1, by go_num, hlt, HX2, by trivial⟩
          case measure => simp [intOf]; omega
        · have HF : Hid (wide l (n : Int) = false) := by
            show _ = _
            rw [HD.out]
            refine scN_false l (k := k + 1) ?_
            rw [HX.out, decide_eq_false fun h => hxy (HQ.out.2 h)]
          have hxy' : (x == y) = false := by rw [beq_eq_false_iff_ne]; exact hxy
          have hxy2 : (x != y) = true := by rw [bne_iff_ne]; exact hxy
          go_wp2_with (go_at_call 128; refine (HI.out _).mono ?_; rintro e w1 ⟨rfl, rfl⟩)
          go_ret
          exact ⟨by rw [HF.out]; rfl, Below.refl _ _⟩
      · have hlt' : ¬ (k : Int) < (n : Int) := by omega
        have HF : Hid (wide l (n : Int) = true) := by
          show _ = _
          have h1 := HS.out
          have h2 := HN.out
          rw [HD.out, scN_all, ← h2, show n = k by omega, h1]
        go_wp2
        go_ret
        exact ⟨by rw [HF.out]; rfl, Below.refl _ _⟩
  · have HF : Hid (wide l m = false) := by
      show _ = _
      unfold wide
      rw [← HN.out, decide_eq_false hnm, Bool.false_and]
    have hnm' : ((n : Int) == m) = false := by rw [beq_eq_false_iff_ne]; exact hnm
    have hnm2 : ((n : Int) != m) = true := by rw [bne_iff_ne]; exact hnm
    go_enter Tryz.func52, Tryz.ntmps52
    go_wp2
    go_ret
    exact ⟨by rw [HF.out]; rfl, Below.refl _ _⟩

/-- So many of the first rows are of as many scalars. -/
def wdN (ls : List (List Int)) (m : Int) (k : Nat) : Bool := (ls.take (k * 3)).all fun l => wide l m
theorem wdN_next (ls : List (List Int)) (m : Int) {k n : Nat} (hl : ls.length = n * 3) (h : k < n) : wdN ls m (k + 1) = (wdN ls m k && (wide (ls.getD (k * 3) []) m && (wide (ls.getD (k * 3 + 1) []) m && wide (ls.getD (k * 3 + 2) []) m))) := by
  have e0 : ls.getD (k * 3) [] = ls[k * 3] := by simp [show k * 3 < ls.length by omega]
  have e1 : ls.getD (k * 3 + 1) [] = ls[k * 3 + 1] := by simp [show k * 3 + 1 < ls.length by omega]
  have e2 : ls.getD (k * 3 + 2) [] = ls[k * 3 + 2] := by simp [show k * 3 + 2 < ls.length by omega]
  have t : ls.take ((k + 1) * 3) = ls.take (k * 3) ++ [ls.getD (k * 3) [], ls.getD (k * 3 + 1) [], ls.getD (k * 3 + 2) []] := by
    rw [e0, e1, e2]
    have t2 : ls.take (k * 3 + 3) = ls.take (k * 3 + 2) ++ [ls[k * 3 + 2]] := List.take_succ_eq_append_getElem (by omega)
    have t1 : ls.take (k * 3 + 2) = ls.take (k * 3 + 1) ++ [ls[k * 3 + 1]] := List.take_succ_eq_append_getElem (by omega)
    have t0 : ls.take (k * 3 + 1) = ls.take (k * 3) ++ [ls[k * 3]] := List.take_succ_eq_append_getElem (by omega)
    rw [show (k + 1) * 3 = k * 3 + 3 by omega, t2, t1, t0, List.append_assoc, List.append_assoc]
    rfl
  unfold wdN
  rw [t, List.all_append]
  simp
theorem wdN_false (ls : List (List Int)) (m : Int) {k : Nat} (h : wdN ls m k = false) : (ls.all fun l => wide l m) = false := by
  have e : (ls.all fun l => wide l m) = (wdN ls m k && (ls.drop (k * 3)).all fun l => wide l m) := by
    unfold wdN
    rw [← List.all_append, List.take_append_drop]
  rw [e, h]
  rfl
theorem wdN_all (ls : List (List Int)) (m : Int) {n : Nat} (hl : ls.length = n * 3) : (ls.all fun l => wide l m) = wdN ls m n := by unfold wdN; rw [← hl, List.take_length]

/-- Whether a system is right. -/
def sysOk (wi pu : Int) (n : Nat) (ls : List (List Int)) : Bool := decide (1 ≤ wi ∧ wi ≤ 20) && (decide (0 ≤ pu ∧ pu ≤ wi - 1) && (decide (1 ≤ (n : Int) ∧ (n : Int) ≤ 16) && ls.all fun l => wide l wi))

set_option maxHeartbeats 1600000 in
set_option maxRecDepth 100000 in
theorem sSysOk_any (wi pu : Int) (_hw : (Lit.int .i64 wi).wf = true) (a : Option Addr) (n c : Nat) (hn : n ≤ 9223372036854775807) (ls : List (List Int)) (hz : ∀ j, (ls.getD j []).length ≤ 9223372036854775807) (w : World) (hA : NAt 3 w w.heap.size (.slice a n c) n ls) :
    Calls Tryz.prog 150 #[sysV wi pu (.slice a n c)] w fun e w' => e = .returned (.bool (sysOk wi pu n ls)) ∧ Below w.heap.size w w' := by
  have HA : Hid (NAt 3 w w.heap.size (.slice a n c) n ls) := hA
  have hlen : Hid (ls.length = n * 3) := hA.1
  have HZ : Hid (∀ j, (ls.getD j []).length ≤ 9223372036854775807) := hz
  clear hA hz
  obtain ⟨W, hW, hb, hx⟩ := box1 w 26 #[.int .i64 wi, .int .i64 pu, .slice a n c]
  have q0 := hx.cell 0
  have q1 := hx.cell 1
  have q2 := hx.cell 2
  unfold sysV
  have C0 : Hid (∀ w, Calls Tryz.prog 87 #[.int .i64 wi, .int .i64 1, .int .i64 20] w fun e w' => e = .returned (.bool (decide (1 ≤ wi ∧ wi ≤ 20))) ∧ w = w') := sBetween_any wi 1 20
  have C1 : Hid (∀ w, Calls Tryz.prog 87 #[.int .i64 pu, .int .i64 0, .int .i64 (wi - 1)] w fun e w' => e = .returned (.bool (decide (0 ≤ pu ∧ pu ≤ wi - 1))) ∧ w = w') := sBetween_any pu 0 (wi - 1)
  have C2 : Hid (∀ w, Calls Tryz.prog 87 #[.int .i64 (n : Int), .int .i64 1, .int .i64 16] w fun e w' => e = .returned (.bool (decide (1 ≤ (n : Int) ∧ (n : Int) ≤ 16))) ∧ w = w') := sBetween_any n 1 16
  have HE : Hid (sysOk wi pu n ls = (decide (1 ≤ wi ∧ wi ≤ 20) && (decide (0 ≤ pu ∧ pu ≤ wi - 1) && (decide (1 ≤ (n : Int) ∧ (n : Int) ≤ 16) && ls.all fun l => wide l wi)))) := rfl
  by_cases g0 : 1 ≤ wi ∧ wi ≤ 20
  · rw [decide_eq_true g0] at C0 HE
    have gw : 1 ≤ wi := g0.1
    have gw2 : wi ≤ 20 := g0.2
    by_cases g1 : 0 ≤ pu ∧ pu ≤ wi - 1
    · rw [decide_eq_true g1] at C1 HE
      by_cases g2 : 1 ≤ (n : Int) ∧ (n : Int) ≤ 16
      · rw [decide_eq_true g2] at C2 HE
        have HE2 : Hid (sysOk wi pu n ls = ls.all fun l => wide l wi) := HE
        have H0 : Hid (wdN ls wi 0 = true ∧ Below w.heap.size w W ∧ Blk W w.heap.size 26 #[.int .i64 wi, .int .i64 pu, .slice a n c]) := ⟨by simp [wdN], hb, hx⟩
        clear g0 g1 g2
        go_enter Tryz.func150, Tryz.ntmps150
        go_wp2_with fail
        refine (C0.out _).mono ?_
        rintro e wz ⟨rfl, rfl⟩
        go_wp2_with fail
        refine (C1.out _).mono ?_
        rintro e wz ⟨rfl, rfl⟩
        go_wp2_with fail
        refine (C2.out _).mono ?_
        rintro e wz ⟨rfl, rfl⟩
        go_wp2
        clear hW hb hx q0 q1 q2 C0 C1 C2
        go_loopw [3] (fun i wr => ∃ k : Nat, i = .int .i64 (k : Int) ∧ k ≤ n ∧ Hid (wdN ls wi k = true ∧ Below w.heap.size w wr ∧ Blk wr w.heap.size 26 #[.int .i64 wi, .int .i64 pu, .slice a n c])) (fun i _ => n - (intOf i).toNat)
        case atStart => exact ⟨0, rfl, Nat.zero_le _, H0⟩
        case round =>
          obtain ⟨k, rfl, hk, HD⟩ := hrel
          clear H0
          have hx := HD.out.2.2
          have q2 := hx.cell 2
          by_cases hlt : k < n
          · have hlt' : (k : Int) < (n : Int) := by omega
            have hk0 : (0 : Int) ≤ (k : Int) := by omega
            have hB0 := HD.out.2.1
            have hws : w.heap.size ≤ wr.heap.size := hB0.size
            obtain ⟨b, off, a0, c0, a1, c1, a2, c2, rfl, hb, z0, z1, z2, i0, i1, i2⟩ := (HA.out.on hB0).row3 hlt
            have W0 : Hid (∀ w', Below wr.heap.size wr w' → Calls Tryz.prog 102 #[.slice a0 (ls.getD (k * 3) []).length c0, .int .i64 wi] w' fun e w'' => e = .returned (.bool (wide (ls.getD (k * 3) []) wi)) ∧ Below w'.heap.size w' w'') := fun w' hw => sWide_any a0 c0 _ wi (HZ.out _) w' (((i0.wide hws).on hw).wide hw.size)
            have W1 : Hid (∀ w', Below wr.heap.size wr w' → Calls Tryz.prog 102 #[.slice a1 (ls.getD (k * 3 + 1) []).length c1, .int .i64 wi] w' fun e w'' => e = .returned (.bool (wide (ls.getD (k * 3 + 1) []) wi)) ∧ Below w'.heap.size w' w'') := fun w' hw => sWide_any a1 c1 _ wi (HZ.out _) w' (((i1.wide hws).on hw).wide hw.size)
            have W2 : Hid (∀ w', Below wr.heap.size wr w' → Calls Tryz.prog 102 #[.slice a2 (ls.getD (k * 3 + 2) []).length c2, .int .i64 wi] w' fun e w'' => e = .returned (.bool (wide (ls.getD (k * 3 + 2) []) wi)) ∧ Below w'.heap.size w' w'') := fun w' hw => sWide_any a2 c2 _ wi (HZ.out _) w' (((i2.wide hws).on hw).wide hw.size)
            have HX : Hid (wdN ls wi (k + 1) = (wide (ls.getD (k * 3) []) wi && (wide (ls.getD (k * 3 + 1) []) wi && wide (ls.getD (k * 3 + 2) []) wi))) := by
              show _ = _
              rw [wdN_next ls wi hlen.out hlt, HD.out.1, Bool.true_and]
            generalize wide (ls.getD (k * 3) []) wi = p0 at W0 HX
            generalize wide (ls.getD (k * 3 + 1) []) wi = p1 at W1 HX
            generalize wide (ls.getD (k * 3 + 2) []) wi = p2 at W2 HX
            generalize (ls.getD (k * 3) []).length = m0 at W0 z0
            generalize (ls.getD (k * 3 + 1) []).length = m1 at W1 z1
            generalize (ls.getD (k * 3 + 2) []).length = m2 at W2 z2
            have Z0 : ∀ w', Below wr.heap.size wr w' → w'.cell? ⟨b, off + k * 3, none⟩ = some (.slice a0 m0 c0) := fun w' hw => (hw.cell (p := ⟨b, off + k * 3, none⟩) (by show b < _; omega)).trans z0
            have Z1 : ∀ w', Below wr.heap.size wr w' → w'.cell? ⟨b, off + k * 3 + 1, none⟩ = some (.slice a1 m1 c1) := fun w' hw => (hw.cell (p := ⟨b, off + k * 3 + 1, none⟩) (by show b < _; omega)).trans z1
            have Z2 : ∀ w', Below wr.heap.size wr w' → w'.cell? ⟨b, off + k * 3 + 2, none⟩ = some (.slice a2 m2 c2) := fun w' hw => (hw.cell (p := ⟨b, off + k * 3 + 2, none⟩) (by show b < _; omega)).trans z2
            clear HA hb z0 z1 z2 i0 i1 i2 HZ hlen HD
            cases p0
            · skip
              go_wp2
              refine wp_region_class 33 (fun wz => Below wr.heap.size wr wz) mixes (by kernel_rfl) (Below.refl _ _).drew ?_
              simp only [List.take_succ_cons, List.take_zero, List.drop_succ_cons, List.drop_zero]
              repeat (refine cls_stepG rfl (fun K hK => ⟨_, (fun w' hw => by have z0 := Z0 w' hw; have z1 := Z1 w' hw; have z2 := Z2 w' hw; have z3 := (hx.on hw hx.lt).cell 0; have z4 := (hx.on hw hx.lt).cell 2; go_simp; exact rfl), ?_⟩); go_simp; refine hK _ ?_; clear hK K)
              refine cls_callG rfl (fun K hK => ⟨_, _, _, (fun w' => by go_simp <;> first | exact rfl | exact ⟨rfl, rfl⟩), (fun w' hw => calls_below hw (W0.out _ hw)), ?_⟩); go_simp; refine hK _ ?_; clear hK K
              repeat (refine cls_stepG rfl (fun K hK => ⟨_, (fun w' hw => by have z0 := Z0 w' hw; have z1 := Z1 w' hw; have z2 := Z2 w' hw; have z3 := (hx.on hw hx.lt).cell 0; have z4 := (hx.on hw hx.lt).cell 2; go_simp; exact rfl), ?_⟩); go_simp; refine hK _ ?_; clear hK K)
              iterate 10 (refine cls_skip rfl (fun K hK => ?_); go_simp; refine hK _ ?_; clear hK K)
              repeat (refine cls_stepG rfl (fun K hK => ⟨_, (fun w' hw => by have z0 := Z0 w' hw; have z1 := Z1 w' hw; have z2 := Z2 w' hw; have z3 := (hx.on hw hx.lt).cell 0; have z4 := (hx.on hw hx.lt).cell 2; go_simp; exact rfl), ?_⟩); go_simp; refine hK _ ?_; clear hK K)
              iterate 10 (refine cls_skip rfl (fun K hK => ?_); go_simp; refine hK _ ?_; clear hK K)
              refine wq_nil ?_
              intro w' hw
              have HF : Hid (sysOk wi pu n ls = false) := by
                show _ = _
                rw [HE2.out]
                exact wdN_false ls wi HX.out
              have hB3 : Below w.heap.size w w' := hB0.trans (hw.mono hws)
              clear hw hx q2 Z0 Z1 Z2 W0 W1 W2 hB0
              go_wp2
              go_ret
              exact ⟨by rw [HF.out]; rfl, hB3⟩
            · cases p1
              · skip
                go_wp2
                refine wp_region_class 33 (fun wz => Below wr.heap.size wr wz) mixes (by kernel_rfl) (Below.refl _ _).drew ?_
                simp only [List.take_succ_cons, List.take_zero, List.drop_succ_cons, List.drop_zero]
                repeat (refine cls_stepG rfl (fun K hK => ⟨_, (fun w' hw => by have z0 := Z0 w' hw; have z1 := Z1 w' hw; have z2 := Z2 w' hw; have z3 := (hx.on hw hx.lt).cell 0; have z4 := (hx.on hw hx.lt).cell 2; go_simp; exact rfl), ?_⟩); go_simp; refine hK _ ?_; clear hK K)
                refine cls_callG rfl (fun K hK => ⟨_, _, _, (fun w' => by go_simp <;> first | exact rfl | exact ⟨rfl, rfl⟩), (fun w' hw => calls_below hw (W0.out _ hw)), ?_⟩); go_simp; refine hK _ ?_; clear hK K
                repeat (refine cls_stepG rfl (fun K hK => ⟨_, (fun w' hw => by have z0 := Z0 w' hw; have z1 := Z1 w' hw; have z2 := Z2 w' hw; have z3 := (hx.on hw hx.lt).cell 0; have z4 := (hx.on hw hx.lt).cell 2; go_simp; exact rfl), ?_⟩); go_simp; refine hK _ ?_; clear hK K)
                refine cls_callG rfl (fun K hK => ⟨_, _, _, (fun w' => by go_simp <;> first | exact rfl | exact ⟨rfl, rfl⟩), (fun w' hw => calls_below hw (W1.out _ hw)), ?_⟩); go_simp; refine hK _ ?_; clear hK K
                repeat (refine cls_stepG rfl (fun K hK => ⟨_, (fun w' hw => by have z0 := Z0 w' hw; have z1 := Z1 w' hw; have z2 := Z2 w' hw; have z3 := (hx.on hw hx.lt).cell 0; have z4 := (hx.on hw hx.lt).cell 2; go_simp; exact rfl), ?_⟩); go_simp; refine hK _ ?_; clear hK K)
                iterate 10 (refine cls_skip rfl (fun K hK => ?_); go_simp; refine hK _ ?_; clear hK K)
                refine wq_nil ?_
                intro w' hw
                have HF : Hid (sysOk wi pu n ls = false) := by
                  show _ = _
                  rw [HE2.out]
                  exact wdN_false ls wi HX.out
                have hB3 : Below w.heap.size w w' := hB0.trans (hw.mono hws)
                clear hw hx q2 Z0 Z1 Z2 W0 W1 W2 hB0
                go_wp2
                go_ret
                exact ⟨by rw [HF.out]; rfl, hB3⟩
              · cases p2
                · skip
                  go_wp2
                  refine wp_region_class 33 (fun wz => Below wr.heap.size wr wz) mixes (by kernel_rfl) (Below.refl _ _).drew ?_
                  simp only [List.take_succ_cons, List.take_zero, List.drop_succ_cons, List.drop_zero]
                  repeat (refine cls_stepG rfl (fun K hK => ⟨_, (fun w' hw => by have z0 := Z0 w' hw; have z1 := Z1 w' hw; have z2 := Z2 w' hw; have z3 := (hx.on hw hx.lt).cell 0; have z4 := (hx.on hw hx.lt).cell 2; go_simp; exact rfl), ?_⟩); go_simp; refine hK _ ?_; clear hK K)
                  refine cls_callG rfl (fun K hK => ⟨_, _, _, (fun w' => by go_simp <;> first | exact rfl | exact ⟨rfl, rfl⟩), (fun w' hw => calls_below hw (W0.out _ hw)), ?_⟩); go_simp; refine hK _ ?_; clear hK K
                  repeat (refine cls_stepG rfl (fun K hK => ⟨_, (fun w' hw => by have z0 := Z0 w' hw; have z1 := Z1 w' hw; have z2 := Z2 w' hw; have z3 := (hx.on hw hx.lt).cell 0; have z4 := (hx.on hw hx.lt).cell 2; go_simp; exact rfl), ?_⟩); go_simp; refine hK _ ?_; clear hK K)
                  refine cls_callG rfl (fun K hK => ⟨_, _, _, (fun w' => by go_simp <;> first | exact rfl | exact ⟨rfl, rfl⟩), (fun w' hw => calls_below hw (W1.out _ hw)), ?_⟩); go_simp; refine hK _ ?_; clear hK K
                  repeat (refine cls_stepG rfl (fun K hK => ⟨_, (fun w' hw => by have z0 := Z0 w' hw; have z1 := Z1 w' hw; have z2 := Z2 w' hw; have z3 := (hx.on hw hx.lt).cell 0; have z4 := (hx.on hw hx.lt).cell 2; go_simp; exact rfl), ?_⟩); go_simp; refine hK _ ?_; clear hK K)
                  refine cls_callG rfl (fun K hK => ⟨_, _, _, (fun w' => by go_simp <;> first | exact rfl | exact ⟨rfl, rfl⟩), (fun w' hw => calls_below hw (W2.out _ hw)), ?_⟩); go_simp; refine hK _ ?_; clear hK K
                  repeat (refine cls_stepG rfl (fun K hK => ⟨_, (fun w' hw => by have z0 := Z0 w' hw; have z1 := Z1 w' hw; have z2 := Z2 w' hw; have z3 := (hx.on hw hx.lt).cell 0; have z4 := (hx.on hw hx.lt).cell 2; go_simp; exact rfl), ?_⟩); go_simp; refine hK _ ?_; clear hK K)
                  refine wq_nil ?_
                  intro w' hw
                  have HF : Hid (sysOk wi pu n ls = false) := by
                    show _ = _
                    rw [HE2.out]
                    exact wdN_false ls wi HX.out
                  have hB3 : Below w.heap.size w w' := hB0.trans (hw.mono hws)
                  clear hw hx q2 Z0 Z1 Z2 W0 W1 W2 hB0
                  go_wp2
                  go_ret
                  exact ⟨by rw [HF.out]; rfl, hB3⟩
                · skip
                  go_wp2
                  refine wp_region_class 33 (fun wz => Below wr.heap.size wr wz) mixes (by kernel_rfl) (Below.refl _ _).drew ?_
                  simp only [List.take_succ_cons, List.take_zero, List.drop_succ_cons, List.drop_zero]
                  repeat (refine cls_stepG rfl (fun K hK => ⟨_, (fun w' hw => by have z0 := Z0 w' hw; have z1 := Z1 w' hw; have z2 := Z2 w' hw; have z3 := (hx.on hw hx.lt).cell 0; have z4 := (hx.on hw hx.lt).cell 2; go_simp; exact rfl), ?_⟩); go_simp; refine hK _ ?_; clear hK K)
                  refine cls_callG rfl (fun K hK => ⟨_, _, _, (fun w' => by go_simp <;> first | exact rfl | exact ⟨rfl, rfl⟩), (fun w' hw => calls_below hw (W0.out _ hw)), ?_⟩); go_simp; refine hK _ ?_; clear hK K
                  repeat (refine cls_stepG rfl (fun K hK => ⟨_, (fun w' hw => by have z0 := Z0 w' hw; have z1 := Z1 w' hw; have z2 := Z2 w' hw; have z3 := (hx.on hw hx.lt).cell 0; have z4 := (hx.on hw hx.lt).cell 2; go_simp; exact rfl), ?_⟩); go_simp; refine hK _ ?_; clear hK K)
                  refine cls_callG rfl (fun K hK => ⟨_, _, _, (fun w' => by go_simp <;> first | exact rfl | exact ⟨rfl, rfl⟩), (fun w' hw => calls_below hw (W1.out _ hw)), ?_⟩); go_simp; refine hK _ ?_; clear hK K
                  repeat (refine cls_stepG rfl (fun K hK => ⟨_, (fun w' hw => by have z0 := Z0 w' hw; have z1 := Z1 w' hw; have z2 := Z2 w' hw; have z3 := (hx.on hw hx.lt).cell 0; have z4 := (hx.on hw hx.lt).cell 2; go_simp; exact rfl), ?_⟩); go_simp; refine hK _ ?_; clear hK K)
                  refine cls_callG rfl (fun K hK => ⟨_, _, _, (fun w' => by go_simp <;> first | exact rfl | exact ⟨rfl, rfl⟩), (fun w' hw => calls_below hw (W2.out _ hw)), ?_⟩); go_simp; refine hK _ ?_; clear hK K
                  repeat (refine cls_stepG rfl (fun K hK => ⟨_, (fun w' hw => by have z0 := Z0 w' hw; have z1 := Z1 w' hw; have z2 := Z2 w' hw; have z3 := (hx.on hw hx.lt).cell 0; have z4 := (hx.on hw hx.lt).cell 2; go_simp; exact rfl), ?_⟩); go_simp; refine hK _ ?_; clear hK K)
                  refine wq_nil ?_
                  intro w' hw
                  have HD2 : Hid (wdN ls wi (k + 1) = true ∧ Below w.heap.size w w' ∧ Blk w' w.heap.size 26 #[.int .i64 wi, .int .i64 pu, .slice (some ⟨b, off, none⟩) n c]) := ⟨HX.out, hB0.trans (hw.mono hws), hx.on hw hx.lt⟩
                  clear hw hx q2 Z0 Z1 Z2 W0 W1 W2 hB0
                  go_wp2
                  go_roundw
                  case rel => exact ⟨k + 1, by go_num, hlt, HD2⟩
                  case measure => simp [intOf]; omega
          · have hlt' : ¬ (k : Int) < (n : Int) := by omega
            have HF : Hid (sysOk wi pu n ls = true) := by
              show _ = _
              rw [HE2.out, wdN_all ls wi hlen.out, show n = k by omega]
              exact HD.out.1
            go_wp2
            go_ret
            exact ⟨by rw [HF.out]; rfl, HD.out.2.1⟩
      · rw [decide_eq_false g2] at C2 HE
        have HE2 : Hid (sysOk wi pu n ls = false) := HE
        clear g0 g1 g2
        go_enter Tryz.func150, Tryz.ntmps150
        go_wp2_with fail
        refine (C0.out _).mono ?_
        rintro e wz ⟨rfl, rfl⟩
        go_wp2_with fail
        refine (C1.out _).mono ?_
        rintro e wz ⟨rfl, rfl⟩
        go_wp2_with fail
        refine (C2.out _).mono ?_
        rintro e wz ⟨rfl, rfl⟩
        go_wp2
        go_ret
        exact ⟨by rw [HE2.out]; rfl, hb⟩
    · rw [decide_eq_false g1] at C1 HE
      have HE2 : Hid (sysOk wi pu n ls = false) := HE
      clear g0 g1
      go_enter Tryz.func150, Tryz.ntmps150
      go_wp2_with fail
      refine (C0.out _).mono ?_
      rintro e wz ⟨rfl, rfl⟩
      go_wp2_with fail
      refine (C1.out _).mono ?_
      rintro e wz ⟨rfl, rfl⟩
      go_wp2
      go_ret
      exact ⟨by rw [HE2.out]; rfl, hb⟩
  · rw [decide_eq_false g0] at C0 HE
    have HE2 : Hid (sysOk wi pu n ls = false) := HE
    clear g0
    go_enter Tryz.func150, Tryz.ntmps150
    go_wp2_with (go_at_call 87; refine (C0.out _).mono ?_; rintro e wz ⟨rfl, rfl⟩)
    go_ret
    exact ⟨by rw [HE2.out]; rfl, hb⟩

end Go.Proofs.YthnahalboomkoaaGreat
