/-
  The walk of the exact law on ReadItem.
  (-DROP-: what the seat lacks is left out.)
-/
import Derived.Test.YtmpjnabadplbjaaItemHd
import Derived.Test.YtmpjnabadplbjaaItemEq
import Derived.Test.YtmpjnabadplbjaaJoined4
import Derived.Test.YtmpjnabadplbjaaFormI6
namespace Go.Proofs.Ytmpjnabadplbjaa
open Go.RowKit

/-- So many items a right one may be, this many levels below it. -/
def cntB : Nat → Nat
  | 0 => 1
  | k + 1 => 1 + 17 * cntB k
theorem sum_le {α : Type} (c : α → Nat) (B : Nat) (l : List α) (h : ∀ x, x ∈ l → c x ≤ B) : (l.map c).sum ≤ l.length * B := by
  induction l with
  | nil => exact Nat.zero_le _
  | cons x l ih =>
    have h1 := h x (List.mem_cons_self)
    have h2 := ih fun y hy => h y (List.mem_cons_of_mem _ hy)
    rw [List.map_cons, List.sum_cons, List.length_cons, Nat.succ_mul]
    omega
theorem cntB_pos (k : Nat) : 1 ≤ cntB k := by
  cases k with
  | zero => exact Nat.le_refl _
  | succ k => rw [cntB]; omega
theorem cnt_ok : ∀ (d e : Nat) (x : It d), okD d e x = true → cntD d x ≤ cntB (4 - e)
  | 0, _, x, _ => x.elim
  | d + 1, e, x, h => by
    rw [okD] at h
    rw [cntD]
    by_cases hl : itL x = true
    · rw [if_pos hl] at h
      simp only [Bool.and_eq_true, decide_eq_true_eq] at h
      have h1 := sum_le (cntD d) (cntB (4 - (e + 1))) (itK x) fun y hy => cnt_ok d (e + 1) y (List.all_eq_true.1 h.2.2.2 y hy)
      rw [show 4 - e = (4 - (e + 1)) + 1 by omega, cntB]
      have h2 : (itK x).length * cntB (4 - (e + 1)) ≤ 17 * cntB (4 - (e + 1)) := Nat.mul_le_mul_right _ h.2.1
      omega
    · rw [if_neg hl] at h
      simp only [Bool.and_eq_true, decide_eq_true_eq] at h
      rw [List.eq_nil_of_length_eq_zero h.1]
      exact cntB_pos _

/-- No item. -/
def itZ9 : It (900 + 1) := (false, ⟨#[]⟩, [])
/-- What is read, or nothing. -/
def yF (t : ByteArray) : It (900 + 1) := (readF t).getD itZ9
def xI (t : ByteArray) : It (5 + 1) := (readI t).getD itZ
theorem read_one (t : ByteArray) : (readF t).isSome = (readI t).isSome ∧ sameD (5 + 1) (900 + 1) (xI t) (yF t) = true := by
  unfold yF xI
  rcases readF_so t with ⟨h1, h2⟩ | ⟨x, y, h1, h2, h3⟩
  · rw [h1, h2]
    refine ⟨rfl, ?_⟩
    show sameD (5 + 1) (900 + 1) itZ itZ9 = true
    exact sameD_of rfl rfl rfl fun p hp => by cases hp
  · rw [h1, h2]
    exact ⟨rfl, h3⟩
theorem yF_ok (t : ByteArray) : okD (900 + 1) 0 (yF t) = true := by
  unfold yF
  cases h : readF t with
  | none =>
    rw [Option.getD_none, okD, if_neg (by show ¬ false = true; decide)]
    rfl
  | some y =>
    rw [Option.getD_some]
    unfold readF at h
    split at h
    · cases hr : rdF 900 t with
      | none => rw [hr] at h; cases h
      | some p =>
        obtain ⟨z, r⟩ := p
        rw [hr] at h
        have h' : (if textI z = (t, true) then some z else none) = some y := h
        split at h'
        · rename_i h1
          injection h' with e
          subst e
          exact (textI_yes (x := z) (by rw [h1])).1
        · cases h'
    · cases h
theorem yF_cnt (t : ByteArray) : ((itK (yF t)).map (cntD 900)).sum ≤ 88741 := by
  have h := cnt_ok (900 + 1) 0 (yF t) (yF_ok t)
  rw [cntD] at h
  have h2 : cntB (4 - 0) = 88741 := by decide
  omega

theorem iRead_all (t : ByteArray) (w : World) : Calls Try.prog 12 #[.string t] w fun e w' => ∃ v, e = .returned (.tuple #[itV (itL (yF t)) (itT (yF t)) v, .bool (readF t).isSome]) ∧ TO 900 (fun b => w.heap.size ≤ b ∧ b < w'.heap.size) w' v (itK (yF t)) ∧ Below w.heap.size w w' := by
  refine (iReadItem_any t w).mono ?_
  rintro e w' ⟨hb, h⟩
  unfold yF
  cases hr : readF t with
  | none =>
    rw [hr] at h
    exact ⟨_, h, TO.nil0 _ _ _, hb⟩
  | some y =>
    rw [hr] at h
    obtain ⟨v, he, hto, _⟩ := h
    exact ⟨v, he, hto, hb⟩
theorem sRead_all (t : ByteArray) (w : World) : Calls Try.prog 15 #[.string t] w fun e w' => ∃ v, e = .returned (.tuple #[itV (itL (xI t)) (itT (xI t)) v, .bool (readI t).isSome]) ∧ KIn (fun b => w.heap.size ≤ b ∧ b < w'.heap.size) 5 w' v (itK (xI t)) ∧ Below w.heap.size w w' := by
  refine (sReadItem_any t w).mono ?_
  rintro e w' ⟨hb, h⟩
  unfold xI
  cases hr : readI t with
  | none =>
    rw [hr] at h
    exact ⟨_, h, KIn.none _ _ _ _ _, hb⟩
  | some y =>
    rw [hr] at h
    obtain ⟨v, he, hto, _⟩ := h
    exact ⟨v, he, hto, hb⟩

set_option maxHeartbeats 6400000 in
set_option maxRecDepth 100000 in
theorem lawReadItem (t : ByteArray) (ht : t.size ≤ maxLen) (w : World) :
    Calls Try.prog 7 #[.string t] w fun e w' => e = .returned (.bool true) ∧ Below w.heap.size w w' := by
  unfold maxLen at ht
  by_cases hb : t.size ≤ 1048576
  · have hb' : ¬ (1048576 : Int) < (t.size : Int) := by omega
    obtain ⟨x, y, o, hq1, hq2, hsm, hcn⟩ : ∃ (x : It (5 + 1)) (y : It (900 + 1)) (o : Bool),
        (∀ w : World, Calls Try.prog 12 #[.string t] w fun e w' => ∃ v, e = .returned (.tuple #[itV (itL y) (itT y) v, .bool o]) ∧ TO 900 (fun b => w.heap.size ≤ b ∧ b < w'.heap.size) w' v (itK y) ∧ Below w.heap.size w w') ∧
        (∀ w : World, Calls Try.prog 15 #[.string t] w fun e w' => ∃ v, e = .returned (.tuple #[itV (itL x) (itT x) v, .bool o]) ∧ KIn (fun b => w.heap.size ≤ b ∧ b < w'.heap.size) 5 w' v (itK x) ∧ Below w.heap.size w w') ∧
        sameD (900 + 1) (5 + 1) y x = true ∧ ((itK y).map (cntD 900)).sum ≤ 88741 :=
      ⟨xI t, yF t, (readF t).isSome, iRead_all t, by rw [(read_one t).1]; exact sRead_all t, same_turn _ _ _ _ (read_one t).2, yF_cnt t⟩
    have HQ1 : Hid _ := hq1
    have HQ2 : Hid _ := hq2
    have hkl : (itK y).length ≤ 1000000 := by have := sum_ge (cntD 900) (itK y) (cnt_pos 900); omega
    have HE : Hid (∀ (v u : Value) (w : World), KAt 900 w w.heap.size v (itK y) → KAt 5 w w.heap.size u (itK x) → Calls Try.prog 29 #[.agg #[.bool (itL y), .string (itT y), v], .agg #[.bool (itL x), .string (itT x), u]] w fun f w' => f = .returned (.bool true) ∧ Below w.heap.size w w') := fun v u w h1 h2 => by
      have h := eqItem_any 900 5 y x v u w h1 h2
      rw [hsm] at h
      exact h
    obtain ⟨m, hm⟩ : ∃ m, 1 + 2 * ((itK y).map (cntD 900)).sum = m := ⟨_, rfl⟩
    have HM : Hid (∀ (S : Nat → Prop) (v : Value) (w : World), (∀ b, S b → b < w.heap.size) → TO 900 S w v (itK y) → Calls Try.prog 30 #[.agg #[.bool (itL y), .string (itT y), v], .int .i64 1] w fun e w' => e = .returned (.int .i64 (m : Int)) ∧ TO 900 S w' v (mkL (mkD 900) (cntD 900) 1 (itK y)) ∧ Kps S w w') := fun S v w h1 h2 => by
      rw [← hm]
      exact markI_any 900 S (itL y) (itT y) v (itK y) 1 w (by omega) h1 h2
    have HH : Hid (∀ (v : Value) (w : World), KAt 900 w w.heap.size v (mkL (mkD 900) (cntD 900) 1 (itK y)) → Calls Try.prog 31 #[.agg #[.bool (itL y), .string (itT y), v], .int .i64 1] w fun e w' => e = .returned (.int .i64 (m : Int)) ∧ Below w.heap.size w w') := fun v w h1 => by
      rw [← hm]
      exact heldI_any 900 (itL y) (itT y) v (itK y) 1 w hkl (by omega) h1
    have hm0 : ¬ (m : Int) < 0 := by omega
    clear hq1 hq2 hsm hcn hkl hm
    go_enter Try.func7, Try.ntmps7
    go_wp2_with fail
    refine (HQ2.out _).mono ?_
    rintro e w1 ⟨vx, rfl, hx1, hb1⟩
    obtain ⟨ax, cx, rfl⟩ := hx1.slice
    obtain ⟨V1, hV1, hbV1, hbx1⟩ := box1 w1 26 #[.bool (itL x), .string (itT x), .slice ax (itK x).length cx]
    have HX : Hid (KIn (fun b => w.heap.size ≤ b ∧ b < w1.heap.size) 5 V1 (.slice ax (itK x).length cx) (itK x) ∧ w.heap.size ≤ w1.heap.size ∧ w1.heap.size < V1.heap.size) := ⟨hx1.kept fun b hb => hbV1.block b hb.2, hb1.size, hbx1.lt⟩
    have B1 : Below w.heap.size w V1 := below_then hb1 hbV1
    clear hx1 hb1 hbV1
    unfold itV
    go_wp2_with fail
    refine (HQ1.out _).mono ?_
    rintro e w2 ⟨vy, rfl, hto2, hb2⟩
    obtain ⟨ay, cy, rfl⟩ := hto2.slice
    obtain ⟨V2, hV2, hbV2, hby2⟩ := box1 w2 26 #[.bool (itL y), .string (itT y), .slice ay (itK y).length cy]
    have b12 := below_then hb2 hbV2
    have x2 := hbx1.on b12 hbx1.lt
    have HY : Hid (TO 900 (fun b => V1.heap.size ≤ b ∧ b < w2.heap.size) V2 (.slice ay (itK y).length cy) (itK y) ∧ V1.heap.size ≤ w2.heap.size ∧ w2.heap.size < V2.heap.size ∧ KIn (fun b => w.heap.size ≤ b ∧ b < w1.heap.size) 5 V2 (.slice ax (itK x).length cx) (itK x)) := ⟨hto2.kept fun b hb => hbV2.block b hb.2, hb2.size, hby2.lt, HX.out.1.kept fun b hb => b12.block b (by have h1 := hb.2; have h2 := HX.out.2.2; omega)⟩
    have B2 : Below w.heap.size w V2 := below_then B1 b12
    have q0 := hby2.cell 0
    have q1 := hby2.cell 1
    have q2 := hby2.cell 2
    have p0 := x2.cell 0
    have p1 := x2.cell 1
    have p2 := x2.cell 2
    clear hto2 hb2 hbV2 hV1 B1 b12 hbx1
    unfold itV
    go_wp2_with fail
    refine (HE.out _ _ _ (HY.out.1.in.at fun b hb => by have h1 := hb.2; have h2 := HY.out.2.2.1; omega) (HY.out.2.2.2.at fun b hb => by have h1 := hb.2; have h2 := HX.out.2.2; have h3 := HY.out.2.1; have h4 := HY.out.2.2.1; omega)).mono ?_
    rintro e w3 ⟨rfl, hb3⟩
    have x3 := x2.on hb3 x2.lt
    have y3 := hby2.on hb3 hby2.lt
    have B3 : Below w.heap.size w w3 := below_then B2 hb3
    have hs3 := hb3.size
    have HY3 : Hid (TO 900 (fun b => V1.heap.size ≤ b ∧ b < w2.heap.size) w3 (.slice ay (itK y).length cy) (itK y) ∧ KIn (fun b => w.heap.size ≤ b ∧ b < w1.heap.size) 5 w3 (.slice ax (itK x).length cx) (itK x)) := ⟨HY.out.1.kept fun b hb => hb3.block b (by have h1 := hb.2; have h2 := HY.out.2.2.1; omega), HY.out.2.2.2.kept fun b hb => hb3.block b (by have h1 := hb.2; have h2 := HX.out.2.2; have h3 := HY.out.2.1; have h4 := HY.out.2.2.1; omega)⟩
    clear q0 q1 q2 p0 p1 p2 x2 hby2 B2 hb3 hV2
    have q0 := y3.cell 0
    have q1 := y3.cell 1
    have q2 := y3.cell 2
    go_wp2_with fail
    refine (HM.out (fun b => V1.heap.size ≤ b ∧ b < w2.heap.size) _ _ (fun b hb => by have h1 := hb.2; have h2 := HY.out.2.2.1; omega) HY3.out.1).mono ?_
    rintro e w4 ⟨rfl, hto4, hk4⟩
    have x4 := hk4.blk x3 (fun h => by have h1 := h.1; have h2 := HX.out.2.2; omega)
    have y4 := hk4.blk y3 (fun h => by have h1 := h.2; omega)
    have B4 : Below w.heap.size w w4 := hk4.bel B3 B3.size (fun k h => by have h1 := h.1; have h2 := HX.out.2; omega)
    have hs4 := hk4.size
    have HY4 : Hid (KAt 900 w4 w4.heap.size (.slice ay (itK y).length cy) (mkL (mkD 900) (cntD 900) 1 (itK y)) ∧ KAt 5 w4 w4.heap.size (.slice ax (itK x).length cx) (itK x)) := ⟨hto4.in.at fun b hb => (by have h1 := hb.2; have h2 := HY.out.2.2.1; omega), (HY3.out.2.kept (w' := w4) fun b hb => hk4.block b (by have h1 := hb.2; have h2 := HX.out.2.2; have h3 := HY.out.2.1; have h4 := HY.out.2.2.1; omega) (fun h => by have h1 := hb.2; have h2 := h.1; have h3 := HX.out.2.2; omega)).at fun b hb => by have h1 := hb.2; have h2 := HX.out.2.2; have h3 := HY.out.2.1; have h4 := HY.out.2.2.1; omega⟩
    clear q0 q1 q2 x3 y3 B3 hto4 hk4 HY3 HY HX hs3 hs4
    have q0 := y4.cell 0
    have q1 := y4.cell 1
    have q2 := y4.cell 2
    go_wp2_with fail
    refine (HH.out _ _ HY4.out.1).mono ?_
    rintro e w5 ⟨rfl, hb5⟩
    have x5 := x4.on hb5 x4.lt
    have y5 := y4.on hb5 y4.lt
    have B5 : Below w.heap.size w w5 := below_then B4 hb5
    have HY5 : Hid (KAt 900 w5 w5.heap.size (.slice ay (itK y).length cy) (mkL (mkD 900) (cntD 900) 1 (itK y)) ∧ KAt 5 w5 w5.heap.size (.slice ax (itK x).length cx) (itK x)) := ⟨(HY4.out.1.on hb5).wide hb5.size, (HY4.out.2.on hb5).wide hb5.size⟩
    clear q0 q1 q2 x4 y4 B4 hb5 HY4
    go_wp2_with fail
    refine (HQ1.out _).mono ?_
    rintro e w6 ⟨vz, rfl, hto6, hb6⟩
    obtain ⟨az, cz, rfl⟩ := hto6.slice
    obtain ⟨V6, hV6, hbV6, hbz6⟩ := box1 w6 26 #[.bool (itL y), .string (itT y), .slice az (itK y).length cz]
    have b56 := below_then hb6 hbV6
    have x6 := x5.on b56 x5.lt
    have y6 := y5.on b56 y5.lt
    have B6 : Below w.heap.size w V6 := below_then B5 b56
    have HY6 : Hid (KAt 900 V6 V6.heap.size (.slice ay (itK y).length cy) (mkL (mkD 900) (cntD 900) 1 (itK y)) ∧ KAt 5 V6 V6.heap.size (.slice ax (itK x).length cx) (itK x) ∧ KAt 900 V6 V6.heap.size (.slice az (itK y).length cz) (itK y)) := ⟨(HY5.out.1.on b56).wide b56.size, (HY5.out.2.on b56).wide b56.size, ((hto6.in.at (c := w6.heap.size) fun b hb => hb.2).on hbV6).wide hbV6.size⟩
    have q0 := hbz6.cell 0
    have q1 := hbz6.cell 1
    have q2 := hbz6.cell 2
    have p0 := x6.cell 0
    have p1 := x6.cell 1
    have p2 := x6.cell 2
    clear hto6 hb6 hbV6 b56 x5 y5 B5 HY5 hbz6
    unfold itV
    go_wp2_with fail
    refine (HE.out _ _ _ HY6.out.2.2 HY6.out.2.1).mono ?_
    rintro e w7 ⟨rfl, hb7⟩
    have y7 := y6.on hb7 y6.lt
    have B7 : Below w.heap.size w w7 := below_then B6 hb7
    have HY7 : Hid (KAt 900 w7 w7.heap.size (.slice ay (itK y).length cy) (mkL (mkD 900) (cntD 900) 1 (itK y))) := (HY6.out.1.on hb7).wide hb7.size
    clear q0 q1 q2 p0 p1 p2 x6 y6 B6 hb7 HY6 hV6
    have q0 := y7.cell 0
    have q1 := y7.cell 1
    have q2 := y7.cell 2
    go_wp2_with fail
    refine (HH.out _ _ HY7.out).mono ?_
    rintro e w8 ⟨rfl, hb8⟩
    have B8 : Below w.heap.size w w8 := below_then B7 hb8
    clear q0 q1 q2 y7 B7 hb8 HY7
    go_wp2
    go_ret
    exact ⟨rfl, B8⟩
  · have hb' : (1048576 : Int) < (t.size : Int) := by omega
    go_enter Try.func7, Try.ntmps7
    go_wp2
    go_ret
    exact ⟨rfl, Below.refl _ _⟩

end Go.Proofs.Ytmpjnabadplbjaa
