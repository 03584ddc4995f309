/-
  Texts of one's own, joined.
-/
import Derived.Test.YtbkfdafdchjakaaJoined8
import Derived.Test.YtbkfdafdchjakaaJoined6
import Derived.OrdersHeld
import Derived.Deep.RegionHeld3

/-
  The walks of systems: whether they are right, and what satisfies them; the program's and the specification's.
  (-DROP-: what the seat lacks is left out.)
-/
namespace Go.Proofs.Ytbkfdafdchjakaa
open Go.RowKit

/-- So many of its first numbers are scalars. -/
def scN (l : List Int) (k : Nat) : Bool := (l.take k).all fun x => decide (0 ≤ x ∧ x ≤ 1008)
theorem scN_next (l : List Int) {k : Nat} (h : k < l.length) : scN l (k + 1) = (scN l k && decide (0 ≤ l.getD k 0 ∧ l.getD k 0 ≤ 1008)) := by
  have e : l.getD k 0 = l[k] := by simp [h]
  rw [e]
  unfold scN
  rw [List.take_succ_eq_append_getElem h, List.all_append]
  simp
theorem scN_false (l : List Int) {k : Nat} (h : scN l k = false) : (l.all fun x => decide (0 ≤ x ∧ x ≤ 1008)) = false := by
  have e : (l.all fun x => decide (0 ≤ x ∧ x ≤ 1008)) = (scN l k && (l.drop k).all fun x => decide (0 ≤ x ∧ x ≤ 1008)) := by
    unfold scN
    rw [← List.all_append, List.take_append_drop]
  rw [e, h]
  rfl
theorem scN_all (l : List Int) : (l.all fun x => decide (0 ≤ x ∧ x ≤ 1008)) = scN l l.length := by unfold scN; rw [List.take_length]
theorem sca_id {x : Int} : x = sca x ↔ (0 ≤ x ∧ x ≤ 1008) := by
  have h0 := sca_nonneg x
  have h1 := sca_lt x
  constructor
  · intro h; omega
  · intro ⟨h2, h3⟩
    have : sca x = x := by
      have e := scn_small (n := x.toNat) (by omega)
      have c := scn_cast x
      rw [← c]
      have e2 : ((x.toNat : Nat) : Int) = x := by omega
      rw [e2] at e
      rw [e]
      exact e2
    exact this.symm

set_option maxHeartbeats 1600000 in
set_option maxRecDepth 100000 in
theorem sWide_any (a : Option Addr) (cap : Nat) (l : List Int) (m : Int) (hl : l.length ≤ 9223372036854775807) (w : World) (hA : IntsAt w a l.length w.heap.size (fun j => l.getD j 0)) :
    Calls Try.prog 68 #[.slice a l.length cap, .int .i64 m] w fun e w' => e = .returned (.bool (wide l m)) ∧ Below w.heap.size w w' := by
  have HA : Hid (IntsAt w a l.length w.heap.size (fun j => l.getD j 0)) := hA
  clear hA
  obtain ⟨n, hn⟩ : ∃ n, n = l.length := ⟨_, rfl⟩
  have HN : Hid (n = l.length) := hn
  rw [← hn] at HA hl ⊢
  clear hn
  go_enter Try.func68, Try.ntmps68
  go_wp2
  go_loopw [5] (fun i wr => ∃ k : Nat, i = .int .i64 (k : Int) ∧ k ≤ n ∧ Hid (scN l k = true) ∧ w = wr) (fun i _ => n - (intOf i).toNat)
  case atStart => exact ⟨0, rfl, Nat.zero_le _, rfl, rfl⟩
  case round =>
    obtain ⟨k, rfl, hk, HS, rfl⟩ := hrel
    by_cases hlt : k < n
    · have hlt' : (k : Int) < (n : Int) := by omega
      have hk0 : (0 : Int) ≤ (k : Int) := by omega
      obtain ⟨b, off, rfl, hb, hz⟩ := HA.out k hlt
      replace hz : w.cell? ⟨b, off + k, none⟩ = some (.int .i64 (l.getD k 0)) := hz
      have HX : Hid (scN l (k + 1) = decide (0 ≤ l.getD k 0 ∧ l.getD k 0 ≤ 1008)) := by
        show _ = _
        rw [scN_next l (by have := HN.out; omega), HS.out, Bool.true_and]
      have HI : Hid (∀ w, Calls Try.prog 67 #[.int .i64 (l.getD k 0), .int .i64 0, .int .i64 1008] w fun e w' => e = .returned (.bool (decide (0 ≤ l.getD k 0 ∧ l.getD k 0 ≤ 1008))) ∧ w = w') := sBetween_any _ 0 1008
      generalize l.getD k 0 = x at hz HI HX
      generalize decide (0 ≤ x ∧ x ≤ 1008) = q at HI HX
      clear hb HA
      cases q
      · have HF : Hid (wide l m = false) := by
          show _ = _
          unfold wide
          rw [scN_false l HX.out, Bool.and_false]
        go_wp2_with (go_at_call 67; refine (HI.out _).mono ?_; rintro e w1 ⟨rfl, rfl⟩)
        go_ret
        exact ⟨by rw [HF.out]; rfl, Below.refl _ _⟩
      · go_wp2_with (go_at_call 67; refine (HI.out _).mono ?_; rintro e w1 ⟨rfl, rfl⟩)
        go_roundw
        case rel => exact ⟨k + 1, by go_num, hlt, HX, by trivial⟩
        case measure => simp [intOf]; omega
    · have hlt' : ¬ (k : Int) < (n : Int) := by omega
      have HF : Hid (wide l m = decide ((n : Int) = m)) := by
        show _ = _
        have h1 := HS.out
        have h2 := HN.out
        unfold wide
        rw [scN_all, ← h2, show n = k by omega, h1, Bool.and_true]
      by_cases hnm : (n : Int) = m
      · subst hnm
        rw [decide_eq_true rfl] at HF
        go_wp2
        go_ret
        exact ⟨by rw [HF.out]; rfl, Below.refl _ _⟩
      · have hnm' : ((n : Int) == m) = false := by rw [beq_eq_false_iff_ne]; exact hnm
        rw [decide_eq_false hnm] at HF
        go_wp2
        go_ret
        exact ⟨by rw [HF.out]; rfl, Below.refl _ _⟩

set_option maxHeartbeats 1600000 in
set_option maxRecDepth 100000 in
theorem iWide_any (a : Option Addr) (cap : Nat) (l : List Int) (m : Int) (hl : l.length ≤ 9223372036854775807) (w : World) (hA : IntsAt w a l.length w.heap.size (fun j => l.getD j 0)) :
    Calls Try.prog 34 #[.slice a l.length cap, .int .i64 m] w fun e w' => e = .returned (.bool (wide l m)) ∧ Below w.heap.size w w' := by
  have HA : Hid (IntsAt w a l.length w.heap.size (fun j => l.getD j 0)) := hA
  clear hA
  obtain ⟨n, hn⟩ : ∃ n, n = l.length := ⟨_, rfl⟩
  have HN : Hid (n = l.length) := hn
  rw [← hn] at HA hl ⊢
  clear hn
  by_cases hnm : (n : Int) = m
  · have HD : Hid (wide l m = (l.all fun x => decide (0 ≤ x ∧ x ≤ 1008))) := by
      show _ = _
      unfold wide
      rw [← HN.out, decide_eq_true hnm, Bool.true_and]
    subst hnm
    go_enter Try.func34, Try.ntmps34
    go_wp2
    go_loopw [13] (fun i wr => ∃ k : Nat, i = .int .i64 (k : Int) ∧ k ≤ n ∧ Hid (scN l k = true) ∧ w = wr) (fun i _ => n - (intOf i).toNat)
    case atStart => exact ⟨0, rfl, Nat.zero_le _, rfl, rfl⟩
    case round =>
      obtain ⟨k, rfl, hk, HS, rfl⟩ := hrel
      by_cases hlt : k < n
      · have hlt' : (k : Int) < (n : Int) := by omega
        have hk0 : (0 : Int) ≤ (k : Int) := by omega
        obtain ⟨b, off, rfl, hb, hz⟩ := HA.out k hlt
        replace hz : w.cell? ⟨b, off + k, none⟩ = some (.int .i64 (l.getD k 0)) := hz
        have HX : Hid (scN l (k + 1) = decide (0 ≤ l.getD k 0 ∧ l.getD k 0 ≤ 1008)) := by
          show _ = _
          rw [scN_next l (by have := HN.out; omega), HS.out, Bool.true_and]
        have HI : Hid (∀ w, Calls Try.prog 58 #[.int .i64 (l.getD k 0)] w fun e w' => e = .returned (.int .i64 (sca (l.getD k 0))) ∧ w = w') := iScOf_any _
        have HQ : Hid (l.getD k 0 = sca (l.getD k 0) ↔ (0 ≤ l.getD k 0 ∧ l.getD k 0 ≤ 1008)) := sca_id
        generalize l.getD k 0 = x at hz HI HX HQ
        generalize sca x = y at HI HQ
        clear hb HA
        by_cases hxy : x = y
        · have HX2 : Hid (scN l (k + 1) = true) := by
            show _ = _
            rw [HX.out, decide_eq_true (HQ.out.1 hxy)]
          subst hxy
          go_wp2_with (go_at_call 58; refine (HI.out _).mono ?_; rintro e w1 ⟨rfl, rfl⟩)
          go_roundw
          case rel => exact ⟨k + 1, by go_num, hlt, HX2, by trivial⟩
          case measure => simp [intOf]; omega
        · have HF : Hid (wide l (n : Int) = false) := by
            show _ = _
            rw [HD.out]
            refine scN_false l (k := k + 1) ?_
            rw [HX.out, decide_eq_false fun h => hxy (HQ.out.2 h)]
          have hxy' : (x == y) = false := by rw [beq_eq_false_iff_ne]; exact hxy
          have hxy2 : (x != y) = true := by rw [bne_iff_ne]; exact hxy
          go_wp2_with (go_at_call 58; refine (HI.out _).mono ?_; rintro e w1 ⟨rfl, rfl⟩)
          go_ret
          exact ⟨by rw [HF.out]; rfl, Below.refl _ _⟩
      · have hlt' : ¬ (k : Int) < (n : Int) := by omega
        have HF : Hid (wide l (n : Int) = true) := by
          show _ = _
          have h1 := HS.out
          have h2 := HN.out
          rw [HD.out, scN_all, ← h2, show n = k by omega, h1]
        go_wp2
        go_ret
        exact ⟨by rw [HF.out]; rfl, Below.refl _ _⟩
  · have HF : Hid (wide l m = false) := by
      show _ = _
      unfold wide
      rw [← HN.out, decide_eq_false hnm, Bool.false_and]
    have hnm' : ((n : Int) == m) = false := by rw [beq_eq_false_iff_ne]; exact hnm
    have hnm2 : ((n : Int) != m) = true := by rw [bne_iff_ne]; exact hnm
    go_enter Try.func34, Try.ntmps34
    go_wp2
    go_ret
    exact ⟨by rw [HF.out]; rfl, Below.refl _ _⟩

/-- So many of the first rows are of as many scalars. -/
def wdN (ls : List (List Int)) (m : Int) (k : Nat) : Bool := (ls.take (k * 3)).all fun l => wide l m
theorem wdN_next (ls : List (List Int)) (m : Int) {k n : Nat} (hl : ls.length = n * 3) (h : k < n) : wdN ls m (k + 1) = (wdN ls m k && (wide (ls.getD (k * 3) []) m && (wide (ls.getD (k * 3 + 1) []) m && wide (ls.getD (k * 3 + 2) []) m))) := by
  have e0 : ls.getD (k * 3) [] = ls[k * 3] := by simp [show k * 3 < ls.length by omega]
  have e1 : ls.getD (k * 3 + 1) [] = ls[k * 3 + 1] := by simp [show k * 3 + 1 < ls.length by omega]
  have e2 : ls.getD (k * 3 + 2) [] = ls[k * 3 + 2] := by simp [show k * 3 + 2 < ls.length by omega]
  have t : ls.take ((k + 1) * 3) = ls.take (k * 3) ++ [ls.getD (k * 3) [], ls.getD (k * 3 + 1) [], ls.getD (k * 3 + 2) []] := by
    rw [e0, e1, e2]
    have t2 : ls.take (k * 3 + 3) = ls.take (k * 3 + 2) ++ [ls[k * 3 + 2]] := List.take_succ_eq_append_getElem (by omega)
    have t1 : ls.take (k * 3 + 2) = ls.take (k * 3 + 1) ++ [ls[k * 3 + 1]] := List.take_succ_eq_append_getElem (by omega)
    have t0 : ls.take (k * 3 + 1) = ls.take (k * 3) ++ [ls[k * 3]] := List.take_succ_eq_append_getElem (by omega)
    rw [show (k + 1) * 3 = k * 3 + 3 by omega, t2, t1, t0, List.append_assoc, List.append_assoc]
    rfl
  unfold wdN
  rw [t, List.all_append]
  simp
theorem wdN_false (ls : List (List Int)) (m : Int) {k : Nat} (h : wdN ls m k = false) : (ls.all fun l => wide l m) = false := by
  have e : (ls.all fun l => wide l m) = (wdN ls m k && (ls.drop (k * 3)).all fun l => wide l m) := by
    unfold wdN
    rw [← List.all_append, List.take_append_drop]
  rw [e, h]
  rfl
theorem wdN_all (ls : List (List Int)) (m : Int) {n : Nat} (hl : ls.length = n * 3) : (ls.all fun l => wide l m) = wdN ls m n := by unfold wdN; rw [← hl, List.take_length]

/-- Whether a system is right. -/
def sysOk (wi pu : Int) (n : Nat) (ls : List (List Int)) : Bool := decide (1 ≤ wi ∧ wi ≤ 20) && (decide (0 ≤ pu ∧ pu ≤ wi - 1) && (decide (1 ≤ (n : Int) ∧ (n : Int) ≤ 16) && ls.all fun l => wide l wi))

set_option maxHeartbeats 1600000 in
set_option maxRecDepth 100000 in
theorem sSysOk_any (wi pu : Int) (_hw : (Lit.int .i64 wi).wf = true) (a : Option Addr) (n c : Nat) (hn : n ≤ 9223372036854775807) (ls : List (List Int)) (hz : ∀ j, (ls.getD j []).length ≤ 9223372036854775807) (w : World) (hA : NAt 3 w w.heap.size (.slice a n c) n ls) :
    Calls Try.prog 39 #[sysV wi pu (.slice a n c)] w fun e w' => e = .returned (.bool (sysOk wi pu n ls)) ∧ Below w.heap.size w w' := by
  have HA : Hid (NAt 3 w w.heap.size (.slice a n c) n ls) := hA
  have hlen : Hid (ls.length = n * 3) := hA.1
  have HZ : Hid (∀ j, (ls.getD j []).length ≤ 9223372036854775807) := hz
  clear hA hz
  obtain ⟨W, hW, hb, hx⟩ := box1 w 26 #[.int .i64 wi, .int .i64 pu, .slice a n c]
  have q0 := hx.cell 0
  have q1 := hx.cell 1
  have q2 := hx.cell 2
  unfold sysV
  have C0 : Hid (∀ w, Calls Try.prog 67 #[.int .i64 wi, .int .i64 1, .int .i64 20] w fun e w' => e = .returned (.bool (decide (1 ≤ wi ∧ wi ≤ 20))) ∧ w = w') := sBetween_any wi 1 20
  have C1 : Hid (∀ w, Calls Try.prog 67 #[.int .i64 pu, .int .i64 0, .int .i64 (wi - 1)] w fun e w' => e = .returned (.bool (decide (0 ≤ pu ∧ pu ≤ wi - 1))) ∧ w = w') := sBetween_any pu 0 (wi - 1)
  have C2 : Hid (∀ w, Calls Try.prog 67 #[.int .i64 (n : Int), .int .i64 1, .int .i64 16] w fun e w' => e = .returned (.bool (decide (1 ≤ (n : Int) ∧ (n : Int) ≤ 16))) ∧ w = w') := sBetween_any n 1 16
  have HE : Hid (sysOk wi pu n ls = (decide (1 ≤ wi ∧ wi ≤ 20) && (decide (0 ≤ pu ∧ pu ≤ wi - 1) && (decide (1 ≤ (n : Int) ∧ (n : Int) ≤ 16) && ls.all fun l => wide l wi)))) := rfl
  by_cases g0 : 1 ≤ wi ∧ wi ≤ 20
  · rw [decide_eq_true g0] at C0 HE
    have gw : 1 ≤ wi := g0.1
    have gw2 : wi ≤ 20 := g0.2
    by_cases g1 : 0 ≤ pu ∧ pu ≤ wi - 1
    · rw [decide_eq_true g1] at C1 HE
      by_cases g2 : 1 ≤ (n : Int) ∧ (n : Int) ≤ 16
      · rw [decide_eq_true g2] at C2 HE
        have HE2 : Hid (sysOk wi pu n ls = ls.all fun l => wide l wi) := HE
        have H0 : Hid (wdN ls wi 0 = true ∧ Below w.heap.size w W ∧ Blk W w.heap.size 26 #[.int .i64 wi, .int .i64 pu, .slice a n c]) := ⟨by simp [wdN], hb, hx⟩
        clear g0 g1 g2
        go_enter Try.func39, Try.ntmps39
        go_wp2_with fail
        refine (C0.out _).mono ?_
        rintro e wz ⟨rfl, rfl⟩
        go_wp2_with fail
        refine (C1.out _).mono ?_
        rintro e wz ⟨rfl, rfl⟩
        go_wp2_with fail
        refine (C2.out _).mono ?_
        rintro e wz ⟨rfl, rfl⟩
        go_wp2
        clear hW hb hx q0 q1 q2 C0 C1 C2
        go_loopw [3] (fun i wr => ∃ k : Nat, i = .int .i64 (k : Int) ∧ k ≤ n ∧ Hid (wdN ls wi k = true ∧ Below w.heap.size w wr ∧ Blk wr w.heap.size 26 #[.int .i64 wi, .int .i64 pu, .slice a n c])) (fun i _ => n - (intOf i).toNat)
        case atStart => exact ⟨0, rfl, Nat.zero_le _, H0⟩
        case round =>
          obtain ⟨k, rfl, hk, HD⟩ := hrel
          clear H0
          have hx := HD.out.2.2
          have q2 := hx.cell 2
          by_cases hlt : k < n
          · have hlt' : (k : Int) < (n : Int) := by omega
            have hk0 : (0 : Int) ≤ (k : Int) := by omega
            have hB0 := HD.out.2.1
            have hws : w.heap.size ≤ wr.heap.size := hB0.size
            obtain ⟨b, off, a0, c0, a1, c1, a2, c2, rfl, hb, z0, z1, z2, i0, i1, i2⟩ := (HA.out.on hB0).row3 hlt
            have W0 : Hid (∀ w', Below wr.heap.size wr w' → Calls Try.prog 68 #[.slice a0 (ls.getD (k * 3) []).length c0, .int .i64 wi] w' fun e w'' => e = .returned (.bool (wide (ls.getD (k * 3) []) wi)) ∧ Below w'.heap.size w' w'') := fun w' hw => sWide_any a0 c0 _ wi (HZ.out _) w' (((i0.wide hws).on hw).wide hw.size)
            have W1 : Hid (∀ w', Below wr.heap.size wr w' → Calls Try.prog 68 #[.slice a1 (ls.getD (k * 3 + 1) []).length c1, .int .i64 wi] w' fun e w'' => e = .returned (.bool (wide (ls.getD (k * 3 + 1) []) wi)) ∧ Below w'.heap.size w' w'') := fun w' hw => sWide_any a1 c1 _ wi (HZ.out _) w' (((i1.wide hws).on hw).wide hw.size)
            have W2 : Hid (∀ w', Below wr.heap.size wr w' → Calls Try.prog 68 #[.slice a2 (ls.getD (k * 3 + 2) []).length c2, .int .i64 wi] w' fun e w'' => e = .returned (.bool (wide (ls.getD (k * 3 + 2) []) wi)) ∧ Below w'.heap.size w' w'') := fun w' hw => sWide_any a2 c2 _ wi (HZ.out _) w' (((i2.wide hws).on hw).wide hw.size)
            have HX : Hid (wdN ls wi (k + 1) = (wide (ls.getD (k * 3) []) wi && (wide (ls.getD (k * 3 + 1) []) wi && wide (ls.getD (k * 3 + 2) []) wi))) := by
              show _ = _
              rw [wdN_next ls wi hlen.out hlt, HD.out.1, Bool.true_and]
            generalize wide (ls.getD (k * 3) []) wi = p0 at W0 HX
            generalize wide (ls.getD (k * 3 + 1) []) wi = p1 at W1 HX
            generalize wide (ls.getD (k * 3 + 2) []) wi = p2 at W2 HX
            generalize (ls.getD (k * 3) []).length = m0 at W0 z0
            generalize (ls.getD (k * 3 + 1) []).length = m1 at W1 z1
            generalize (ls.getD (k * 3 + 2) []).length = m2 at W2 z2
            have Z0 : ∀ w', Below wr.heap.size wr w' → w'.cell? ⟨b, off + k * 3, none⟩ = some (.slice a0 m0 c0) := fun w' hw => (hw.cell (p := ⟨b, off + k * 3, none⟩) (by show b < _; omega)).trans z0
            have Z1 : ∀ w', Below wr.heap.size wr w' → w'.cell? ⟨b, off + k * 3 + 1, none⟩ = some (.slice a1 m1 c1) := fun w' hw => (hw.cell (p := ⟨b, off + k * 3 + 1, none⟩) (by show b < _; omega)).trans z1
            have Z2 : ∀ w', Below wr.heap.size wr w' → w'.cell? ⟨b, off + k * 3 + 2, none⟩ = some (.slice a2 m2 c2) := fun w' hw => (hw.cell (p := ⟨b, off + k * 3 + 2, none⟩) (by show b < _; omega)).trans z2
            clear HA hb z0 z1 z2 i0 i1 i2 HZ hlen HD
            cases p0
            · skip
              go_wp2
              refine wp_region_class 33 (fun wz => Below wr.heap.size wr wz) mixes (by kernel_rfl) (Below.refl _ _).drew ?_
              simp only [List.take_succ_cons, List.take_zero, List.drop_succ_cons, List.drop_zero]
              repeat (refine cls_stepG rfl (fun K hK => ⟨_, (fun w' hw => by have z0 := Z0 w' hw; have z1 := Z1 w' hw; have z2 := Z2 w' hw; have z3 := (hx.on hw hx.lt).cell 0; have z4 := (hx.on hw hx.lt).cell 2; go_simp; exact rfl), ?_⟩); go_simp; refine hK _ ?_; clear hK K)
              refine cls_callG rfl (fun K hK => ⟨_, _, _, (fun w' => by go_simp <;> first | exact rfl | exact ⟨rfl, rfl⟩), (fun w' hw => calls_below hw (W0.out _ hw)), ?_⟩); go_simp; refine hK _ ?_; clear hK K
              repeat (refine cls_stepG rfl (fun K hK => ⟨_, (fun w' hw => by have z0 := Z0 w' hw; have z1 := Z1 w' hw; have z2 := Z2 w' hw; have z3 := (hx.on hw hx.lt).cell 0; have z4 := (hx.on hw hx.lt).cell 2; go_simp; exact rfl), ?_⟩); go_simp; refine hK _ ?_; clear hK K)
              iterate 10 (refine cls_skip rfl (fun K hK => ?_); go_simp; refine hK _ ?_; clear hK K)
              repeat (refine cls_stepG rfl (fun K hK => ⟨_, (fun w' hw => by have z0 := Z0 w' hw; have z1 := Z1 w' hw; have z2 := Z2 w' hw; have z3 := (hx.on hw hx.lt).cell 0; have z4 := (hx.on hw hx.lt).cell 2; go_simp; exact rfl), ?_⟩); go_simp; refine hK _ ?_; clear hK K)
              iterate 10 (refine cls_skip rfl (fun K hK => ?_); go_simp; refine hK _ ?_; clear hK K)
              refine wq_nil ?_
              intro w' hw
              have HF : Hid (sysOk wi pu n ls = false) := by
                show _ = _
                rw [HE2.out]
                exact wdN_false ls wi HX.out
              have hB3 : Below w.heap.size w w' := hB0.trans (hw.mono hws)
              clear hw hx q2 Z0 Z1 Z2 W0 W1 W2 hB0
              go_wp2
              go_ret
              exact ⟨by rw [HF.out]; rfl, hB3⟩
            · cases p1
              · skip
                go_wp2
                refine wp_region_class 33 (fun wz => Below wr.heap.size wr wz) mixes (by kernel_rfl) (Below.refl _ _).drew ?_
                simp only [List.take_succ_cons, List.take_zero, List.drop_succ_cons, List.drop_zero]
                repeat (refine cls_stepG rfl (fun K hK => ⟨_, (fun w' hw => by have z0 := Z0 w' hw; have z1 := Z1 w' hw; have z2 := Z2 w' hw; have z3 := (hx.on hw hx.lt).cell 0; have z4 := (hx.on hw hx.lt).cell 2; go_simp; exact rfl), ?_⟩); go_simp; refine hK _ ?_; clear hK K)
                refine cls_callG rfl (fun K hK => ⟨_, _, _, (fun w' => by go_simp <;> first | exact rfl | exact ⟨rfl, rfl⟩), (fun w' hw => calls_below hw (W0.out _ hw)), ?_⟩); go_simp; refine hK _ ?_; clear hK K
                repeat (refine cls_stepG rfl (fun K hK => ⟨_, (fun w' hw => by have z0 := Z0 w' hw; have z1 := Z1 w' hw; have z2 := Z2 w' hw; have z3 := (hx.on hw hx.lt).cell 0; have z4 := (hx.on hw hx.lt).cell 2; go_simp; exact rfl), ?_⟩); go_simp; refine hK _ ?_; clear hK K)
                refine cls_callG rfl (fun K hK => ⟨_, _, _, (fun w' => by go_simp <;> first | exact rfl | exact ⟨rfl, rfl⟩), (fun w' hw => calls_below hw (W1.out _ hw)), ?_⟩); go_simp; refine hK _ ?_; clear hK K
                repeat (refine cls_stepG rfl (fun K hK => ⟨_, (fun w' hw => by have z0 := Z0 w' hw; have z1 := Z1 w' hw; have z2 := Z2 w' hw; have z3 := (hx.on hw hx.lt).cell 0; have z4 := (hx.on hw hx.lt).cell 2; go_simp; exact rfl), ?_⟩); go_simp; refine hK _ ?_; clear hK K)
                iterate 10 (refine cls_skip rfl (fun K hK => ?_); go_simp; refine hK _ ?_; clear hK K)
                refine wq_nil ?_
                intro w' hw
                have HF : Hid (sysOk wi pu n ls = false) := by
                  show _ = _
                  rw [HE2.out]
                  exact wdN_false ls wi HX.out
                have hB3 : Below w.heap.size w w' := hB0.trans (hw.mono hws)
                clear hw hx q2 Z0 Z1 Z2 W0 W1 W2 hB0
                go_wp2
                go_ret
                exact ⟨by rw [HF.out]; rfl, hB3⟩
              · cases p2
                · skip
                  go_wp2
                  refine wp_region_class 33 (fun wz => Below wr.heap.size wr wz) mixes (by kernel_rfl) (Below.refl _ _).drew ?_
                  simp only [List.take_succ_cons, List.take_zero, List.drop_succ_cons, List.drop_zero]
                  repeat (refine cls_stepG rfl (fun K hK => ⟨_, (fun w' hw => by have z0 := Z0 w' hw; have z1 := Z1 w' hw; have z2 := Z2 w' hw; have z3 := (hx.on hw hx.lt).cell 0; have z4 := (hx.on hw hx.lt).cell 2; go_simp; exact rfl), ?_⟩); go_simp; refine hK _ ?_; clear hK K)
                  refine cls_callG rfl (fun K hK => ⟨_, _, _, (fun w' => by go_simp <;> first | exact rfl | exact ⟨rfl, rfl⟩), (fun w' hw => calls_below hw (W0.out _ hw)), ?_⟩); go_simp; refine hK _ ?_; clear hK K
                  repeat (refine cls_stepG rfl (fun K hK => ⟨_, (fun w' hw => by have z0 := Z0 w' hw; have z1 := Z1 w' hw; have z2 := Z2 w' hw; have z3 := (hx.on hw hx.lt).cell 0; have z4 := (hx.on hw hx.lt).cell 2; go_simp; exact rfl), ?_⟩); go_simp; refine hK _ ?_; clear hK K)
                  refine cls_callG rfl (fun K hK => ⟨_, _, _, (fun w' => by go_simp <;> first | exact rfl | exact ⟨rfl, rfl⟩), (fun w' hw => calls_below hw (W1.out _ hw)), ?_⟩); go_simp; refine hK _ ?_; clear hK K
                  repeat (refine cls_stepG rfl (fun K hK => ⟨_, (fun w' hw => by have z0 := Z0 w' hw; have z1 := Z1 w' hw; have z2 := Z2 w' hw; have z3 := (hx.on hw hx.lt).cell 0; have z4 := (hx.on hw hx.lt).cell 2; go_simp; exact rfl), ?_⟩); go_simp; refine hK _ ?_; clear hK K)
                  refine cls_callG rfl (fun K hK => ⟨_, _, _, (fun w' => by go_simp <;> first | exact rfl | exact ⟨rfl, rfl⟩), (fun w' hw => calls_below hw (W2.out _ hw)), ?_⟩); go_simp; refine hK _ ?_; clear hK K
                  repeat (refine cls_stepG rfl (fun K hK => ⟨_, (fun w' hw => by have z0 := Z0 w' hw; have z1 := Z1 w' hw; have z2 := Z2 w' hw; have z3 := (hx.on hw hx.lt).cell 0; have z4 := (hx.on hw hx.lt).cell 2; go_simp; exact rfl), ?_⟩); go_simp; refine hK _ ?_; clear hK K)
                  refine wq_nil ?_
                  intro w' hw
                  have HF : Hid (sysOk wi pu n ls = false) := by
                    show _ = _
                    rw [HE2.out]
                    exact wdN_false ls wi HX.out
                  have hB3 : Below w.heap.size w w' := hB0.trans (hw.mono hws)
                  clear hw hx q2 Z0 Z1 Z2 W0 W1 W2 hB0
                  go_wp2
                  go_ret
                  exact ⟨by rw [HF.out]; rfl, hB3⟩
                · skip
                  go_wp2
                  refine wp_region_class 33 (fun wz => Below wr.heap.size wr wz) mixes (by kernel_rfl) (Below.refl _ _).drew ?_
                  simp only [List.take_succ_cons, List.take_zero, List.drop_succ_cons, List.drop_zero]
                  repeat (refine cls_stepG rfl (fun K hK => ⟨_, (fun w' hw => by have z0 := Z0 w' hw; have z1 := Z1 w' hw; have z2 := Z2 w' hw; have z3 := (hx.on hw hx.lt).cell 0; have z4 := (hx.on hw hx.lt).cell 2; go_simp; exact rfl), ?_⟩); go_simp; refine hK _ ?_; clear hK K)
                  refine cls_callG rfl (fun K hK => ⟨_, _, _, (fun w' => by go_simp <;> first | exact rfl | exact ⟨rfl, rfl⟩), (fun w' hw => calls_below hw (W0.out _ hw)), ?_⟩); go_simp; refine hK _ ?_; clear hK K
                  repeat (refine cls_stepG rfl (fun K hK => ⟨_, (fun w' hw => by have z0 := Z0 w' hw; have z1 := Z1 w' hw; have z2 := Z2 w' hw; have z3 := (hx.on hw hx.lt).cell 0; have z4 := (hx.on hw hx.lt).cell 2; go_simp; exact rfl), ?_⟩); go_simp; refine hK _ ?_; clear hK K)
                  refine cls_callG rfl (fun K hK => ⟨_, _, _, (fun w' => by go_simp <;> first | exact rfl | exact ⟨rfl, rfl⟩), (fun w' hw => calls_below hw (W1.out _ hw)), ?_⟩); go_simp; refine hK _ ?_; clear hK K
                  repeat (refine cls_stepG rfl (fun K hK => ⟨_, (fun w' hw => by have z0 := Z0 w' hw; have z1 := Z1 w' hw; have z2 := Z2 w' hw; have z3 := (hx.on hw hx.lt).cell 0; have z4 := (hx.on hw hx.lt).cell 2; go_simp; exact rfl), ?_⟩); go_simp; refine hK _ ?_; clear hK K)
                  refine cls_callG rfl (fun K hK => ⟨_, _, _, (fun w' => by go_simp <;> first | exact rfl | exact ⟨rfl, rfl⟩), (fun w' hw => calls_below hw (W2.out _ hw)), ?_⟩); go_simp; refine hK _ ?_; clear hK K
                  repeat (refine cls_stepG rfl (fun K hK => ⟨_, (fun w' hw => by have z0 := Z0 w' hw; have z1 := Z1 w' hw; have z2 := Z2 w' hw; have z3 := (hx.on hw hx.lt).cell 0; have z4 := (hx.on hw hx.lt).cell 2; go_simp; exact rfl), ?_⟩); go_simp; refine hK _ ?_; clear hK K)
                  refine wq_nil ?_
                  intro w' hw
                  have HD2 : Hid (wdN ls wi (k + 1) = true ∧ Below w.heap.size w w' ∧ Blk w' w.heap.size 26 #[.int .i64 wi, .int .i64 pu, .slice (some ⟨b, off, none⟩) n c]) := ⟨HX.out, hB0.trans (hw.mono hws), hx.on hw hx.lt⟩
                  clear hw hx q2 Z0 Z1 Z2 W0 W1 W2 hB0
                  go_wp2
                  go_roundw
                  case rel => exact ⟨k + 1, by go_num, hlt, HD2⟩
                  case measure => simp [intOf]; omega
          · have hlt' : ¬ (k : Int) < (n : Int) := by omega
            have HF : Hid (sysOk wi pu n ls = true) := by
              show _ = _
              rw [HE2.out, wdN_all ls wi hlen.out, show n = k by omega]
              exact HD.out.1
            go_wp2
            go_ret
            exact ⟨by rw [HF.out]; rfl, HD.out.2.1⟩
      · rw [decide_eq_false g2] at C2 HE
        have HE2 : Hid (sysOk wi pu n ls = false) := HE
        clear g0 g1 g2
        go_enter Try.func39, Try.ntmps39
        go_wp2_with fail
        refine (C0.out _).mono ?_
        rintro e wz ⟨rfl, rfl⟩
        go_wp2_with fail
        refine (C1.out _).mono ?_
        rintro e wz ⟨rfl, rfl⟩
        go_wp2_with fail
        refine (C2.out _).mono ?_
        rintro e wz ⟨rfl, rfl⟩
        go_wp2
        go_ret
        exact ⟨by rw [HE2.out]; rfl, hb⟩
    · rw [decide_eq_false g1] at C1 HE
      have HE2 : Hid (sysOk wi pu n ls = false) := HE
      clear g0 g1
      go_enter Try.func39, Try.ntmps39
      go_wp2_with fail
      refine (C0.out _).mono ?_
      rintro e wz ⟨rfl, rfl⟩
      go_wp2_with fail
      refine (C1.out _).mono ?_
      rintro e wz ⟨rfl, rfl⟩
      go_wp2
      go_ret
      exact ⟨by rw [HE2.out]; rfl, hb⟩
  · rw [decide_eq_false g0] at C0 HE
    have HE2 : Hid (sysOk wi pu n ls = false) := HE
    clear g0
    go_enter Try.func39, Try.ntmps39
    go_wp2_with (go_at_call 67; refine (C0.out _).mono ?_; rintro e wz ⟨rfl, rfl⟩)
    go_ret
    exact ⟨by rw [HE2.out]; rfl, hb⟩

end Go.Proofs.Ytbkfdafdchjakaa

/-
  Numbers of keys: no program in here.
-/
namespace Go.Proofs.Ytbkfdafdchjakaa

/-- What a wire is at Tau, all together. -/
def wireA (al be u v x : Int) : Int := scAdd (scAdd (scMul be u) (scMul al v)) x
def scalB (x : Int) : Bool := decide (1 ≤ x ∧ x ≤ 1008)
/-- Whether the numbers of keys are right for a system. -/
def toxB (wi pu : Int) (n : Nat) (ls : List (List Int)) (ta al be ga de : Int) : Bool := (((((sysOk wi pu n ls && scalB ta) && scalB al) && scalB be) && scalB ga) && scalB de) && decide ((n : Int) < ta)

end Go.Proofs.Ytbkfdafdchjakaa

/-
  What the exact laws need of lists of numbers: copies, whether two are the same, marks; in terms of what is read and what is owned.
  (-DROP-: what the seat lacks is left out.)
-/
namespace Go.Proofs.Ytbkfdafdchjakaa
open Go.RowKit

theorem toZ_any (v : Value) (l : List Int) (hl : l.length ≤ 1048576) (w : World) (h : ZAt w w.heap.size v l) :
    Calls Try.prog 94 #[v] w fun e w' => ∃ g, e = .returned (.slice (some ⟨g, 0, none⟩) l.length l.length) ∧ ZOwn w.heap.size w'.heap.size w' (.slice (some ⟨g, 0, none⟩) l.length l.length) l ∧ Below w.heap.size w w' := by
  obtain ⟨a, cp, rfl, hA⟩ := h
  refine (toIntS_any a l.length cp hl _ w hA).mono ?_
  rintro e w' ⟨rfl, hR, hb⟩
  refine ⟨_, rfl, ⟨?_, fun k hk => ?_⟩, hb⟩
  · have h1 := hR.rowZ (Nat.le_refl _) hl
    rw [zls_getD] at h1
    exact h1
  · have e1 : some w.heap.size = some k := hk
    injection e1 with e1
    have := hR.lt
    omega

theorem eqZ_any (v u : Value) (l : List Int) (hl : l.length ≤ 1048576) (w : World) (h : ZAt w w.heap.size v l) (h2 : ZAt w w.heap.size u l) :
    Calls Try.prog 95 #[v, u] w fun e w' => e = .returned (.bool true) ∧ Below w.heap.size w w' := by
  obtain ⟨a, cp, rfl, hA⟩ := h
  obtain ⟨b, cq, rfl, hB⟩ := h2
  exact eqIntS_any a b l.length cp cq hl _ w hA hB

end Go.Proofs.Ytbkfdafdchjakaa

/-
  A region that draws its order, walked along an order that one names: operations that give one value in every world of S are taken first, the others come up alone.
-/
namespace Go.Proofs.Ytbkfdafdchjakaa
open Go.RowKit

section
variable {P : Program} {ops : Array Oper} {S : World → Prop} {Q : Exit → Act → World → Prop} {R : Act → World → Prop}

/-- May the region be walked so? (Each with the word whether it comes up alone.) -/
def ordB (ops : Array Oper) : List (Nat × Bool) → Array Bool → Bool
  | [], listed => (Region.ready .any ops listed).isEmpty
  | (k, true) :: r, listed => decide (Region.ready .any ops listed = [k]) && ordB ops r (listed.setIfInBounds k true)
  | (k, false) :: r, listed => (Region.ready .any ops listed).contains k && Region.free .any ops listed k && ordB ops r (listed.setIfInBounds k true)

/-- What has come up behind the order, if the region may be walked so. -/
def ordTo (ops : Array Oper) : List (Nat × Bool) → Array Bool → Option (Array Bool)
  | [], listed => some listed
  | (k, true) :: r, listed => if Region.ready .any ops listed = [k] then ordTo ops r (listed.setIfInBounds k true) else none
  | (k, false) :: r, listed => if ((Region.ready .any ops listed).contains k && Region.free .any ops listed k) = true then ordTo ops r (listed.setIfInBounds k true) else none

/-- The walk, to R. -/
def wpOrd (P : Program) (ops : Array Oper) (Q : Exit → Act → World → Prop) (S : World → Prop) (R : Act → World → Prop) : List (Nat × Bool) → Act → World → Prop
  | [], a, w => R a w
  | (k, true) :: r, a, w => wpOp P ops (NoPanic Q) k (fun a' w' => S w' ∧ wpOrd P ops Q S R r a' w') a w
  | (k, false) :: r, a, w => ∃ o v, ops[k]? = some o ∧ YieldsIf P ops S o v a ∧ wpOrd P ops Q S R r (a.put o.dst v) w

theorem anyH_of_ord (hs : Region.noSelect ops = true) : ∀ (order : List (Nat × Bool)) (listed : Array Bool) (a : Act) (w : World), ordB ops order listed = true → S w → wpOrd P ops Q S (Q .normal) order a w →
    wpAnyH P .any ops (NoPanic Q) S order.length listed a w
  | [], listed, a, w, hB, _, h => by
    have h0 : Region.ready .any ops listed = [] := by simpa [ordB] using hB
    exact wpAnyH_done h0 (NoPanic.normal h) 0
  | (k, true) :: r, listed, a, w, hB, hS, h => by
    simp only [ordB, Bool.and_eq_true, decide_eq_true_eq] at hB
    refine wpAnyH_all hB.1 (by simp) fun i hi => ?_
    have hik : i = k := by simpa using hi
    subst hik
    exact wpOp_mono (fun a' w' ⟨h1, h2⟩ => ⟨h1, anyH_of_ord hs r _ a' w' hB.2 h1 h2⟩) h
  | (k, false) :: r, listed, a, w, hB, hS, h => by
    simp only [ordB, Bool.and_eq_true] at hB
    obtain ⟨o, v, ho, hy, hr⟩ := h
    exact wpAnyH_take ho hs hB.1.2 hB.1.1 (fun c a w h => h) hy hS (anyH_of_ord hs r _ _ w hB.2 hS hr)

theorem wp_region_ord {id : Nat} {a : Act} {w : World} {l : List Oper} (order : List (Nat × Bool)) (S : World → Prop) (hm : P.follows .mixedOrders = true)
    (hB : (Region.noSelect l.toArray && decide (order.length = l.length) && ordB l.toArray order (Array.replicate l.length false)) = true) (hS : S w.drew) (h : wpOrd P l.toArray Q S (Q .normal) order a w.drew) : (Code.region id l.toArray true).wp P Q a w := by
  simp only [Bool.and_eq_true, decide_eq_true_eq] at hB
  obtain ⟨⟨hs, hl⟩, hB⟩ := hB
  refine wp_region_noPanic (wp_region_held (S := S) hm ?_)
  have := anyH_of_ord hs order (Array.replicate l.length false) a w.drew hB hS h
  rw [hl] at this
  simpa using this

/-- Along an order, then on. -/
theorem anyH_of_to (hs : Region.noSelect ops = true) : ∀ (order : List (Nat × Bool)) (n : Nat) (listed listed' : Array Bool) (a : Act) (w : World), ordTo ops order listed = some listed' → S w → wpOrd P ops Q S (fun a w => wpAnyH P .any ops (NoPanic Q) S n listed' a w) order a w →
    wpAnyH P .any ops (NoPanic Q) S (n + order.length) listed a w
  | [], n, listed, listed', a, w, hB, _, h => by
    simp only [ordTo, Option.some.injEq] at hB
    subst hB
    exact h
  | (k, true) :: r, n, listed, listed', a, w, hB, hS, h => by
    simp only [ordTo] at hB
    split at hB
    · rename_i h0
      refine wpAnyH_all h0 (by simp) fun i hi => ?_
      have hik : i = k := by simpa using hi
      subst hik
      exact wpOp_mono (fun a' w' ⟨h1, h2⟩ => ⟨h1, anyH_of_to hs r n _ _ a' w' hB h1 h2⟩) h
    · cases hB
  | (k, false) :: r, n, listed, listed', a, w, hB, hS, h => by
    simp only [ordTo] at hB
    split at hB
    · rename_i h0
      rw [Bool.and_eq_true] at h0
      obtain ⟨o, v, ho, hy, hr⟩ := h
      exact wpAnyH_take ho hs h0.2 h0.1 (fun c a w h => h) hy hS (anyH_of_to hs r n _ _ _ w hB hS hr)
    · cases hB

/-- The beginning of a region along an order; then one walks on from there. -/
theorem wp_region_to {id : Nat} {a : Act} {w : World} {l : List Oper} (order : List (Nat × Bool)) (n : Nat) (listed' : Array Bool) (S : World → Prop) (hm : P.follows .mixedOrders = true)
    (hB : (Region.noSelect l.toArray && decide (n + order.length = l.length) && decide (ordTo l.toArray order (Array.replicate l.length false) = some listed')) = true) (hS : S w.drew)
    (h : wpOrd P l.toArray Q S (fun a w => wpAnyH P .any l.toArray (NoPanic Q) S n listed' a w) order a w.drew) : (Code.region id l.toArray true).wp P Q a w := by
  simp only [Bool.and_eq_true, decide_eq_true_eq] at hB
  obtain ⟨⟨hs, hl⟩, hB⟩ := hB
  refine wp_region_noPanic (wp_region_held (S := S) hm ?_)
  have := anyH_of_to hs order n (Array.replicate l.length false) listed' a w.drew hB hS h
  rw [hl] at this
  simpa using this

/-- On along an order, to the end. -/
theorem anyH_ord {n : Nat} {listed : Array Bool} {a : Act} {w : World} (order : List (Nat × Bool)) (hB : (Region.noSelect ops && decide (order.length = n) && ordB ops order listed) = true) (hS : S w) (h : wpOrd P ops Q S (Q .normal) order a w) : wpAnyH P .any ops (NoPanic Q) S n listed a w := by
  simp only [Bool.and_eq_true, decide_eq_true_eq] at hB
  obtain ⟨⟨hs, hl⟩, hB⟩ := hB
  subst hl
  exact anyH_of_ord hs order listed a w hB hS h

/-- On along an order, to a place. -/
theorem anyH_to {n : Nat} {listed : Array Bool} {a : Act} {w : World} (order : List (Nat × Bool)) (m : Nat) (listed' : Array Bool) (hB : (Region.noSelect ops && decide (m + order.length = n) && decide (ordTo ops order listed = some listed')) = true) (hS : S w)
    (h : wpOrd P ops Q S (fun a w => wpAnyH P .any ops (NoPanic Q) S m listed' a w) order a w) : wpAnyH P .any ops (NoPanic Q) S n listed a w := by
  simp only [Bool.and_eq_true, decide_eq_true_eq] at hB
  obtain ⟨⟨hs, hl⟩, hB⟩ := hB
  subst hl
  exact anyH_of_to hs order m listed listed' a w hB hS h

/-- Two may come up: each way. -/
theorem anyH_two {n i j : Nat} {listed : Array Bool} {a : Act} {w : World} (li lj : Array Bool) (hB : (decide (Region.ready .any ops listed = [i, j]) && decide (listed.setIfInBounds i true = li) && decide (listed.setIfInBounds j true = lj)) = true)
    (hi : wpOrd P ops Q S (fun a w => wpAnyH P .any ops (NoPanic Q) S n li a w) [(i, true)] a w)
    (hj : wpOrd P ops Q S (fun a w => wpAnyH P .any ops (NoPanic Q) S n lj a w) [(j, true)] a w) : wpAnyH P .any ops (NoPanic Q) S (n + 1) listed a w := by
  simp only [Bool.and_eq_true, decide_eq_true_eq] at hB
  obtain ⟨⟨h0, h1⟩, h2⟩ := hB
  refine wpAnyH_all h0 (by simp) fun k hk => ?_
  simp only [List.mem_cons, List.not_mem_nil, or_false] at hk
  rcases hk with rfl | rfl
  · rw [h1]; exact hi
  · rw [h2]; exact hj

theorem ord_nil {a : Act} {w : World} (h : R a w) : wpOrd P ops Q S R [] a w := h
/-- One that is passed over. -/
theorem ord_skip {k : Nat} {r : List (Nat × Bool)} {a : Act} {w : World} {o : Oper} (ho : ops[k]? = some o) (hw : Region.wanted o (yielded ops a.tmps) = false)
    (h : ∀ K : Act → Prop, (∀ a, wpOrd P ops Q S R r a w → K a) → K (a.put o.dst undef)) : wpOrd P ops Q S R ((k, false) :: r) a w := by
  exact ⟨o, undef, ho, .inr ⟨hw, rfl⟩, h _ (fun _ h => h)⟩
theorem ord_float {k : Nat} {r : List (Nat × Bool)} {a : Act} {w : World} {o : Oper} (ho : ops[k]? = some o) (hw : Region.wanted o (yielded ops a.tmps) = true)
    (h : ∀ K : Act → Prop, (∀ a, wpOrd P ops Q S R r a w → K a) → ∃ v, (∀ w, S w → (execOp a.eval o).run P w = .ok (.value v) w) ∧ K (a.put o.dst v)) : wpOrd P ops Q S R ((k, false) :: r) a w := by
  obtain ⟨v, h1, h2⟩ := h _ (fun _ h => h)
  exact ⟨o, v, ho, .inl ⟨hw, h1⟩, h2⟩
theorem ord_call {k : Nat} {r : List (Nat × Bool)} {a : Act} {w : World} {o : Oper} (ho : ops[k]? = some o) (hw : Region.wanted o (yielded ops a.tmps) = true)
    (h : ∀ K : Act → World → Prop, (∀ a w, wpOrd P ops Q S R r a w → K a w) → ∃ f args, (execOp a.eval o).run P w = .ok (.enter f args) w ∧ Calls P f args w fun e w' => ∃ v, e = .returned v ∧ S w' ∧ K (a.put o.dst v) w') : wpOrd P ops Q S R ((k, true) :: r) a w := by
  obtain ⟨f, args, h1, h2⟩ := h _ (fun _ _ h => h)
  show wpOp P ops (NoPanic Q) k _ a w
  unfold wpOp
  simp only [ho]
  rw [if_pos hw]
  refine .inl ?_
  unfold Oper.wp
  rw [h1]
  simp only [Oper.upon]
  exact h2.mono fun e w' ⟨v, he, hS, hK⟩ => by subst he; exact ⟨hS, hK⟩
/-- An operation that comes up alone and changes the world. -/
theorem ord_op {k : Nat} {r : List (Nat × Bool)} {a : Act} {w : World} {o : Oper} (ho : ops[k]? = some o) (hw : Region.wanted o (yielded ops a.tmps) = true)
    (h : ∀ K : Act → World → Prop, (∀ a w, wpOrd P ops Q S R r a w → K a w) → ∃ v w', (execOp a.eval o).run P w = .ok (.value v) w' ∧ S w' ∧ K (a.put o.dst v) w') : wpOrd P ops Q S R ((k, true) :: r) a w := by
  obtain ⟨v, w', h1, h2, h3⟩ := h _ (fun _ _ h => h)
  show wpOp P ops (NoPanic Q) k _ a w
  unfold wpOp
  simp only [ho]
  rw [if_pos hw]
  refine .inl ?_
  unfold Oper.wp
  rw [h1]
  exact ⟨h2, h3⟩
/-- A whole struct into its block. -/
theorem ord_store {k : Nat} {r : List (Nat × Bool)} {a : Act} {w : World} {o : Oper} (ho : ops[k]? = some o) (hw : Region.wanted o (yielded ops a.tmps) = true) (hd : o.dst = none) {t : TypeId} {p v : Operand} (hop : o.op = Op.store t p v)
    {g : Nat} {t' : TypeId} {cs cs' : Array Value} (hp : a.eval p = .pointer (some ⟨g, 0, none⟩)) (hv : a.eval v = .agg cs') (h : Blk w g t' cs) (hi : (P.info? t).map (·.size) = some cs'.size) (hz : cs.size = cs'.size) (h1 : cs'.all (·.oneCell') = true)
    (K : ∀ w', Blk w' g t' cs' → (∀ g' t'' cs'', g ≠ g' → Blk w g' t'' cs'' → Blk w' g' t'' cs'') → (∀ B w0, B ≤ g → Below B w0 w → Below B w0 w') → S w' ∧ wpOrd P ops Q S R r a w') : wpOrd P ops Q S R ((k, true) :: r) a w := by
  show wpOp P ops (NoPanic Q) k _ a w
  unfold wpOp
  simp only [ho]
  rw [if_pos hw]
  refine .inl ?_
  have hrun : (Instr.storeAt t (.pointer (some ⟨g, 0, none⟩)) (.agg cs')).run P w = .ok () (w.setRow g cs') := by
    simp only [Instr.storeAt, Instr.sureAddr, Sem.run_bind, Sem.run_pure, Result.andThen]
    exact h.store hi hz h1
  unfold Oper.wp
  simp [execOp, hop, hp, hv, hrun, Result.andThen]
  simp only [Oper.upon]
  rw [show a.put o.dst undef = a by rw [hd]; rfl]
  exact K _ (h.row cs') (fun g' t'' cs'' hne h' => h'.rowOther hne _) (fun _ _ hB hb => below_setRow hb hB _)

end
end Go.Proofs.Ytbkfdafdchjakaa

/-
  A region that draws its order and ends with a store for which all others wait: what holds of the world ahead of that store need not hold behind it.
-/
namespace Go.Proofs.Ytbkfdafdchjakaa
open Go.RowKit

section
variable {P : Program} {ops : Array Oper} {Q : Exit → Act → World → Prop} {S : World → Prop} {R : Act → World → Prop} {s : Nat}

/-- As wpAnyH, but behind operation s nothing is asked of the world. -/
def wpAnyL (P : Program) (ops : Array Oper) (Q : Exit → Act → World → Prop) (s : Nat) (S : World → Prop) : Nat → Array Bool → Act → World → Prop
  | 0, listed, a, w => Region.ready .any ops listed = [] ∧ Q .normal a w
  | fuel + 1, listed, a, w =>
    (Region.ready .any ops listed = [] → Q .normal a w) ∧
    ∀ i ∈ Region.ready .any ops listed, wpOp P ops Q i (fun a' w' => (i ≠ s → S w') ∧ wpAnyL P ops Q s S fuel (listed.setIfInBounds i true) a' w') a w

theorem any_of_last : ∀ (fuel : Nat) (listed : Array Bool) (a : Act) (w : World), wpAnyL P ops Q s S fuel listed a w → wpAny P .any ops Q fuel listed a w
  | 0, _, _, _, h => h
  | fuel + 1, _, _, _, h => ⟨h.1, fun i hi => wpOp_mono (fun a' w' h' => any_of_last fuel _ a' w' h'.2) (h.2 i hi)⟩

theorem last_first {i : Nat} {oi os : Oper} {v : Value} (hi : ops[i]? = some oi) (his : i ≠ s) (hos : ops[s]? = some os) (hwait : ∃ e ∈ os.after, Region.binds .any e = true ∧ e.on = i)
    (hsel : ∀ (j : Nat) (o : Oper) cs b, ops[j]? = some o → o.op ≠ .select cs b)
    (hQ : ∀ c a w, Q (.panic c) (a.put oi.dst v) w → Q (.panic c) a w) :
    ∀ (fuel : Nat) (listed : Array Bool) (a : Act) (w : World),
      (∀ j oj, ops[j]? = some oj → j ≠ i → listed.getD j true = false → (∀ e ∈ oj.after, Region.binds .any e = true → e.on ≠ i) → oi.apart ops oj = true) →
      i ∈ Region.ready .any ops listed → YieldsIf P ops S oi v a → S w →
      wpAnyL P ops Q s S fuel (listed.setIfInBounds i true) (a.put oi.dst v) w → wpAnyL P ops Q s S (fuel + 1) listed a w := by
  intro fuel
  induction fuel with
  | zero =>
    intro listed a w _ hr hy hS H
    refine ⟨fun h => (by rw [h] at hr; cases hr), fun j hj => ?_⟩
    by_cases hji : j = i
    · subst hji; exact hy.wpOp hi hS ⟨fun _ => hS, H⟩
    · have := ready_mono hj hji
      rw [H.1] at this
      cases this
  | succ fuel ih =>
    intro listed a w hfree hr hy hS H
    refine ⟨fun h => (by rw [h] at hr; cases hr), fun j hj => ?_⟩
    by_cases hji : j = i
    · subst hji; exact hy.wpOp hi hS ⟨fun _ => hS, H⟩
    · have h1 := H.2 j (ready_mono hj hji)
      obtain ⟨hjun, oj, hoj, hall⟩ := mem_ready.1 hj
      have hnot : ∀ e ∈ oj.after, Region.binds .any e = true → e.on ≠ i := fun e he hb heq => by
        have h1 := hall e he hb
        have h0 := (mem_ready.1 hr).1
        rw [heq] at h1
        rcases Nat.lt_or_ge i listed.size with h' | h'
        · simp [h'] at h0 h1; rw [h0] at h1; cases h1
        · simp [Array.getElem?_eq_none h'] at h1
      have hjs : j ≠ s := fun e => by
        subst e
        obtain ⟨e, he, hb, ho⟩ := hwait
        rw [hos] at hoj
        cases hoj
        exact hnot e he hb ho
      have h2 := wpOp_putIf hoj (hfree j oj hoj hji hjun hnot) (fun cs b => hsel i oi cs b hi) (fun cs b => hsel j oj cs b hoj) hQ hy h1
      have hfree' : ∀ k ok, ops[k]? = some ok → k ≠ i → (listed.setIfInBounds j true).getD k true = false →
          (∀ e ∈ ok.after, Region.binds .any e = true → e.on ≠ i) → oi.apart ops ok = true := fun k ok hk hki hun hno => by
        refine hfree k ok hk hki ?_ hno
        by_cases hjk : j = k
        · subst hjk; exact hjun
        · rw [getD_set_ne true hjk] at hun; exact hun
      refine wpOp_mono (fun a' w' h3 => ⟨fun _ => h3.2.1 hjs, ih (listed.setIfInBounds j true) a' w' hfree' (ready_mono hr (Ne.symm hji)) h3.1 (h3.2.1 hjs) ?_⟩) h2
      rw [Array.setIfInBounds_comm _ _ hji]
      exact h3.2.2

/-- May the region be walked so, and s at its end? -/
def ordL (ops : Array Oper) (s : Nat) : List (Nat × Bool) → Array Bool → Bool
  | [], listed => decide (Region.ready .any ops listed = [s]) && (Region.ready .any ops (listed.setIfInBounds s true)).isEmpty
  | (k, true) :: r, listed => decide (Region.ready .any ops listed = [k]) && decide (k ≠ s) && ordL ops s r (listed.setIfInBounds k true)
  | (k, false) :: r, listed => (Region.ready .any ops listed).contains k && Region.free .any ops listed k && decide (k ≠ s) && (match ops[s]? with | some o => o.after.any (fun e => Region.binds .any e && decide (e.on = k)) | none => false) && ordL ops s r (listed.setIfInBounds k true)

theorem anyL_of_ord (hs : Region.noSelect ops = true) : ∀ (order : List (Nat × Bool)) (listed : Array Bool) (a : Act) (w : World), ordL ops s order listed = true → S w → wpOrd P ops Q S (fun a w => wpOp P ops (NoPanic Q) s (Q .normal) a w) order a w →
    wpAnyL P ops (NoPanic Q) s S (order.length + 1) listed a w
  | [], listed, a, w, hB, _, h => by
    simp only [ordL, Bool.and_eq_true, decide_eq_true_eq, List.isEmpty_iff] at hB
    refine ⟨fun h0 => (by rw [hB.1] at h0; cases h0), fun i hi => ?_⟩
    rw [hB.1, List.mem_singleton] at hi
    subst hi
    exact wpOp_mono (fun a' w' hq => ⟨fun hne => absurd rfl hne, hB.2, NoPanic.normal hq⟩) h
  | (k, true) :: r, listed, a, w, hB, hS, h => by
    simp only [ordL, Bool.and_eq_true, decide_eq_true_eq] at hB
    refine ⟨fun h0 => (by rw [hB.1.1] at h0; cases h0), fun i hi => ?_⟩
    rw [hB.1.1, List.mem_singleton] at hi
    subst hi
    exact wpOp_mono (fun a' w' ⟨h1, h2⟩ => ⟨fun _ => h1, anyL_of_ord hs r _ a' w' hB.2 h1 h2⟩) h
  | (k, false) :: r, listed, a, w, hB, hS, h => by
    simp only [ordL, Bool.and_eq_true, decide_eq_true_eq] at hB
    obtain ⟨o, v, ho, hy, hr⟩ := h
    obtain ⟨⟨⟨⟨h1, h2⟩, h3⟩, h4⟩, h5⟩ := hB
    cases hos : ops[s]? with
    | none => rw [hos] at h4; cases h4
    | some os =>
      rw [hos] at h4
      simp only [Array.any_eq_true] at h4
      obtain ⟨j, hj, hb⟩ := h4
      rw [Bool.and_eq_true, decide_eq_true_eq] at hb
      exact last_first ho h3 hos ⟨os.after[j], Array.getElem_mem hj, hb.1, hb.2⟩ (Region.noSelect_spec hs) (fun c a w h => h) _ listed a w (Region.free_spec ho h2) (by simpa using h1) hy hS (anyL_of_ord hs r _ _ w h5 hS hr)

/-- A region that draws, along an order that one names, and its last store. -/
theorem wp_region_last {id : Nat} {a : Act} {w : World} {l : List Oper} (order : List (Nat × Bool)) (s : Nat) (S : World → Prop) (hm : P.follows .mixedOrders = true)
    (hB : (Region.noSelect l.toArray && decide (order.length + 1 = l.length) && ordL l.toArray s order (Array.replicate l.length false)) = true) (hS : S w.drew)
    (h : wpOrd P l.toArray Q S (fun a w => wpOp P l.toArray (NoPanic Q) s (Q .normal) a w) order a w.drew) : (Code.region id l.toArray true).wp P Q a w := by
  simp only [Bool.and_eq_true, decide_eq_true_eq] at hB
  obtain ⟨⟨hs, hl⟩, hB⟩ := hB
  refine wp_region_noPanic (wp_region_any hm (any_of_last (s := s) (S := S) _ _ _ _ ?_))
  have := anyL_of_ord hs order (Array.replicate l.length false) a w.drew hB hS h
  rw [hl] at this
  simpa using this

/-- An operation that is run. -/
theorem last_op {K : Act → World → Prop} {a : Act} {w : World} {o : Oper} (ho : ops[s]? = some o) (hw : Region.wanted o (yielded ops a.tmps) = true)
    (h : ∀ J : Act → World → Prop, (∀ a w, K a w → J a w) → ∃ v w', (execOp a.eval o).run P w = .ok (.value v) w' ∧ J (a.put o.dst v) w') : wpOp P ops (NoPanic Q) s K a w := by
  obtain ⟨v, w', h1, h3⟩ := h _ (fun _ _ h => h)
  unfold wpOp
  simp only [ho]
  rw [if_pos hw]
  refine .inl ?_
  unfold Oper.wp
  rw [h1]
  exact h3

/-- A store. -/
theorem last_store {K : Act → World → Prop} {a : Act} {w : World} {o : Oper} (ho : ops[s]? = some o) (hw : Region.wanted o (yielded ops a.tmps) = true) (hd : o.dst = none)
    (w' : World) (hr : (execOp a.eval o).run P w = .ok .skip w') (h : K a w') : wpOp P ops (NoPanic Q) s K a w := by
  unfold wpOp
  simp only [ho]
  rw [if_pos hw]
  refine .inl ?_
  unfold Oper.wp
  rw [hr]
  simp only [Oper.upon]
  rw [show a.put o.dst undef = a by rw [hd]; rfl]
  exact h

end
end Go.Proofs.Ytbkfdafdchjakaa
