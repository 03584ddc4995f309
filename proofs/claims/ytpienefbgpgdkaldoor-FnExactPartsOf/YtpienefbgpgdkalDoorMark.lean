/-
  The walks of the helpers of the exact laws on lists of texts: markText, markStringS, heldStringS, eqStringS.
-/
import Derived.Test.YtpienefbgpgdkalDoorFigPure
import Derived.Test.YtpienefbgpgdkalDoorDec
import Derived.Deep.RegionHeld3
namespace Go.Proofs.YtpienefbgpgdkalDoor
open Go.RowKit Go.Lib

def strsV (l : List (List UInt8)) : List Value := l.map fun t => .string ⟨t.toArray⟩
theorem strsV_length (l : List (List UInt8)) : (strsV l).length = l.length := by simp [strsV]
theorem strsV_at {l : List (List UInt8)} {j : Nat} (h : j < l.length) : (strsV l)[j]? = some (.string ⟨l[j].toArray⟩) := by simp [strsV, h]
theorem strsV_set (l : List (List UInt8)) (j : Nat) (t : List UInt8) : (strsV l).set j (.string ⟨t.toArray⟩) = strsV (l.set j t) := by simp [strsV, List.map_set]

theorem own_below {w w1 : World} {B e sz n : Nat} {v : Value} {xs : List Value} (h : w.ownsRow B e sz v n xs) (hb : Below w.heap.size w w1) : w1.ownsRow B e sz v n xs := by
  refine ⟨h.1, ?_⟩
  rcases h.2 with h0 | ⟨g, cap, cur, hv, hg, hh, r⟩
  · exact .inl h0
  · have hlt : g < w.heap.size := (h.lt g (by rw [hv]; rfl)).2
    exact .inr ⟨g, cap, cur, hv, hg, by rw [hb.block g hlt]; exact hh, r⟩

def markL (k : Nat) : List UInt8 := 109 :: decDigits k
def marks (k : Nat) : Nat → List (List UInt8)
  | 0 => []
  | n + 1 => marks k n ++ [markL (k + n)]
theorem marks_length (k n : Nat) : (marks k n).length = n := by
  induction n with
  | zero => rfl
  | succ n ih => simp [marks, ih]
theorem marks_at (k : Nat) : ∀ (n j : Nat) (h : j < (marks k n).length), (marks k n)[j] = markL (k + j)
  | 0, j, h => by simp [marks] at h
  | n + 1, j, h => by
    simp only [marks]
    by_cases hj : j < (marks k n).length
    · rw [List.getElem_append_left hj]; exact marks_at k n j hj
    · have hl := marks_length k n
      have hl2 := marks_length k (n + 1)
      have : j = n := by omega
      subst this
      rw [List.getElem_append_right (by omega)]
      simp

theorem dashm (t : List UInt8) (ht : t.length ≤ 20) (w : World) : (Op.stringOp .add ⟨#[109]⟩ ⟨t.toArray⟩).run Tryd.prog w = .ok (.string ⟨(109 :: t).toArray⟩) w := cats 109 t ht w

set_option maxHeartbeats 800000 in
set_option maxRecDepth 100000 in
theorem markText_any (n : Nat) (hn : n ≠ 0) (hm : n ≤ 1000000000000) (w : World) :
    Calls Tryd.prog 21 #[.int .i64 (n : Int)] w fun e w' => e = .returned (.string ⟨(markL n).toArray⟩) ∧ Below w.heap.size w w' := by
  have h0 : ¬ (n : Int) ≤ 0 := by omega
  go_enter Tryd.func21, Tryd.ntmps21
  go_wp2
  go_loopw [0, 3] (fun x v wr => ∃ (u : Nat) (t : List UInt8), x = .int .i64 (u : Int) ∧ v = .string ⟨t.toArray⟩ ∧ DecInv n u t ∧ Below w.heap.size w wr) (fun x _ _ => (RowKit.intOf x).toNat)
  case atStart => exact ⟨n, [], rfl, rfl, DecInv.start n, Below.refl _ _⟩
  case round =>
    obtain ⟨u, t, rfl, rfl, hinv, hbel⟩ := hrel
    have hun : u ≤ n := hinv.1
    have htl := hinv.len (by omega)
    have hsz := hbel.size
    by_cases hu : u = 0
    · subst hu
      have he := hinv.all hn
      have HE : Hid (t = decDigits n) := he
      have hda := dashm t htl
      clear he
      go_wp2
      go_ret
      exact ⟨by rw [markL, ← HE.out]; rfl, hbel⟩
    · have hu0 : (0 : Int) < (u : Int) := by omega
      obtain ⟨c, hc⟩ : ∃ c, c = UInt8.ofNat (48 + u % 10) := ⟨_, rfl⟩
      have hn := hinv.next hu
      have hfz : 48 + (u : Int) % 10 = (c.toNat : Int) := by rw [hc, toNat_of (by omega)]; omega
      rw [← hc] at hn
      clear hc
      have hone := fun W => one_text W c (48 + (u : Int) % 10) hfz
      have hcat := cats c t htl
      clear hfz
      go_wp2
      go_roundw
      case rel => exact ⟨u / 10, c :: t, by go_num, by simp, hn, (hbel.alloc hsz _)⟩
      case measure => simp [RowKit.intOf]; omega

theorem marked_step {l : List (List UInt8)} {k j : Nat} (h : j < l.length) : (marks k j ++ l.drop j).set j (markL (k + j)) = marks k (j + 1) ++ l.drop (j + 1) := by
  have hl := marks_length k j
  rw [List.drop_eq_getElem_cons h, marks, List.append_assoc]
  rw [List.set_append_right _ _ (by omega)]
  have : j - (marks k j).length = 0 := by omega
  rw [this]
  rfl

set_option maxHeartbeats 800000 in
set_option maxRecDepth 100000 in
theorem mark_any (v : Value) (l : List (List UInt8)) (k B : Nat) (hk : k ≠ 0) (hkb : k ≤ 1000000) (hl : l.length ≤ 1000000) (w : World) (h : w.ownsRow B 9 1 v l.length (strsV l)) (hB : B ≤ w.heap.size) :
    Calls Tryd.prog 13 #[v, .int .i64 (k : Int)] w fun e w' => e = .returned (.int .i64 ((k + l.length : Nat) : Int)) ∧ w'.ownsRow B 9 1 v l.length (strsV (marks k l.length)) ∧ Below B w w' := by
  obtain ⟨ra, rc, hv⟩ := row_form h
  subst hv
  go_enter Tryd.func13, Tryd.ntmps13
  go_wp2
  go_loopw [1, 5] (fun x i wr => ∃ (m j : Nat), x = .int .i64 (m : Int) ∧ i = .int .i64 (j : Int) ∧ Hid (m = k + j) ∧ j ≤ l.length ∧ wr.ownsRow B 9 1 (.slice ra l.length rc) l.length (strsV (marks k j ++ l.drop j)) ∧ Below B w wr) (fun _ i _ => l.length - (RowKit.intOf i).toNat)
  case atStart => exact ⟨k, 0, rfl, rfl, (show k = k + 0 from rfl), Nat.zero_le _, by simpa [marks] using h, Below.refl _ _⟩
  case round =>
    obtain ⟨m, j, rfl, rfl, hm, hj, hown, hbel⟩ := hrel
    have hsz := hbel.size
    have hmb : m ≤ 2000000 := by have := hm.out; omega
    have hm0 : m ≠ 0 := by have := hm.out; omega
    by_cases hlt : j < l.length
    · rcases hown.2 with ⟨_, hz0⟩ | ⟨g, cap, cur, hveq, hg, _⟩
      · omega
      · have hra : ra = some ⟨g, 0, none⟩ := by injection hveq
        subst hra
        have hk0 : (0 : Int) ≤ (j : Int) := by omega
        have hk1 : (j : Int) < (l.length : Int) := by omega
        have hll : (marks k j ++ l.drop j).length = l.length := by simp [marks_length]; omega
        go_wp2_with fail
        refine (markText_any m hm0 (by omega) _).mono ?_
        rintro e w1 ⟨rfl, hb1⟩
        have hown1 := own_below hown hb1
        obtain ⟨old, hc⟩ : ∃ old, w1.cell? ⟨g, j, none⟩ = some (.string old) := ⟨_, (hown1.cellAt j (by omega)).trans (strsV_at (by omega))⟩
        have hf := hown1.frozenAt j
        have hst := (hown1.stored j (.string ⟨(markL m).toArray⟩)).1
        have hms : (strsV (marks k j ++ l.drop j)).set j (.string ⟨(markL m).toArray⟩) = strsV (marks k (j + 1) ++ l.drop (j + 1)) := by
          rw [strsV_set, hm.out, marked_step hlt]
        rw [hms] at hst
        have hbs : Below B w (w1.setCell ⟨g, j, none⟩ (.string ⟨(markL m).toArray⟩)) := (hbel.trans (hb1.mono (by omega))).setCell hg _
        have HST : Hid ((w1.setCell ⟨g, j, none⟩ (.string ⟨(markL m).toArray⟩)).ownsRow B 9 1 (.slice (some ⟨g, 0, none⟩) l.length rc) l.length (strsV (marks k (j + 1) ++ l.drop (j + 1)))) := hst
        have HBS : Hid (Below B w (w1.setCell ⟨g, j, none⟩ (.string ⟨(markL m).toArray⟩))) := hbs
        clear hown1 hst hms hbs hown hll
        go_wp2
        go_roundw
        case rel => exact ⟨m + 1, j + 1, by go_num, by go_num, (show m + 1 = k + (j + 1) by have := hm.out; omega), hlt, HST.out, HBS.out⟩
        case measure => simp [RowKit.intOf]; omega
    · have hje : j = l.length := by omega
      subst hje
      have HO : Hid (wr.ownsRow B 9 1 (.slice ra l.length rc) l.length (strsV (marks k l.length))) := (show wr.ownsRow B 9 1 (.slice ra l.length rc) l.length (strsV (marks k l.length)) from by simpa using hown)
      clear hown
      go_wp2
      go_ret
      exact ⟨by rw [← hm.out]; rfl, HO.out, hbel⟩

set_option maxHeartbeats 800000 in
set_option maxRecDepth 100000 in
theorem held_any (v : Value) (n k B : Nat) (hk : k ≠ 0) (hkb : k ≤ 1000000) (hl : n ≤ 1000000) (w : World) (h : w.ownsRow B 9 1 v n (strsV (marks k n))) :
    Calls Tryd.prog 14 #[v, .int .i64 (k : Int)] w fun e w' => e = .returned (.int .i64 ((k + n : Nat) : Int)) ∧ Below w.heap.size w w' := by
  obtain ⟨ra, rc, hv⟩ := row_form h
  subst hv
  go_enter Tryd.func14, Tryd.ntmps14
  go_wp2
  go_loopw [1, 5] (fun x i wr => ∃ (m j : Nat), x = .int .i64 (m : Int) ∧ i = .int .i64 (j : Int) ∧ Hid (m = k + j) ∧ j ≤ n ∧ Below w.heap.size w wr) (fun _ i _ => n - (RowKit.intOf i).toNat)
  case atStart => exact ⟨k, 0, rfl, rfl, (show k = k + 0 from rfl), Nat.zero_le _, Below.refl _ _⟩
  case round =>
    obtain ⟨m, j, rfl, rfl, hm, hj, hbel⟩ := hrel
    have hsz := hbel.size
    have hmb : m ≤ 2000000 := by have := hm.out; omega
    have hm0 : m ≠ 0 := by have := hm.out; omega
    by_cases hlt : j < n
    · rcases h.2 with ⟨_, hz0⟩ | ⟨g, cap, cur, hveq, hg, _⟩
      · omega
      · have hra : ra = some ⟨g, 0, none⟩ := by injection hveq
        subst hra
        have hgl : g < w.heap.size := (h.lt g rfl).2
        have hk0 : (0 : Int) ≤ (j : Int) := by omega
        have hk1 : (j : Int) < (n : Int) := by omega
        have hc : wr.cell? ⟨g, j, none⟩ = some (.string ⟨(markL m).toArray⟩) := by
          have hl2 := marks_length k n
          rw [hbel.cell (p := ⟨g, j, none⟩) hgl, h.cellAt j (by omega), strsV_at (by omega), marks_at, hm.out]
        have hgr : g < wr.heap.size := by omega
        go_wp2_with fail
        go_region_held3 (fun w' => w'.cell? ⟨g, j, none⟩ = some (.string ⟨(markL m).toArray⟩)) (first | go_keep | exact (hb1.cell (p := ⟨g, j, none⟩) hgr).trans hc) ((go_at_call 21; refine (markText_any m hm0 (by omega) _).mono ?_; rintro e w1 ⟨rfl, hb1⟩))
        all_goals
          have hbn : Below w.heap.size w w1 := (hbel.drew).trans (hb1.mono (by simp; omega))
          go_wp2
          go_roundw
          case rel => exact ⟨m + 1, j + 1, by go_num, by go_num, (show m + 1 = k + (j + 1) by have := hm.out; omega), hlt, hbn⟩
          case measure => simp [RowKit.intOf]; omega
    · have hje : j = n := by omega
      subst hje
      go_wp2
      go_ret
      exact ⟨by rw [← hm.out]; rfl, hbel⟩

set_option maxHeartbeats 800000 in
set_option maxRecDepth 100000 in
theorem eq_same (va vb : Value) (l : List (List UInt8)) (B1 B2 : Nat) (hl : l.length ≤ 1000000) (w : World) (h1 : w.ownsRow B1 9 1 va l.length (strsV l)) (h2 : w.ownsRow B2 9 1 vb l.length (strsV l)) :
    Calls Tryd.prog 12 #[va, vb] w fun e w' => e = .returned (.bool true) ∧ Below w.heap.size w w' := by
  obtain ⟨ra, rc, hv⟩ := row_form h1
  subst hv
  obtain ⟨sa, sc, hv⟩ := row_form h2
  subst hv
  go_enter Tryd.func12, Tryd.ntmps12
  go_wp2
  go_loopw [5] (fun i wr => ∃ (j : Nat), i = .int .i64 (j : Int) ∧ j ≤ l.length ∧ Below w.heap.size w wr) (fun i _ => l.length - (RowKit.intOf i).toNat)
  case atStart => exact ⟨0, rfl, Nat.zero_le _, Below.refl _ _⟩
  case round =>
    obtain ⟨j, rfl, hj, hbel⟩ := hrel
    by_cases hlt : j < l.length
    · rcases h1.2 with ⟨_, hz0⟩ | ⟨g, cap, cur, hveq, hg, _⟩
      · omega
      · rcases h2.2 with ⟨_, hz0⟩ | ⟨g2, cap2, cur2, hveq2, hg2, _⟩
        · omega
        · have hra : ra = some ⟨g, 0, none⟩ := by injection hveq
          have hsa : sa = some ⟨g2, 0, none⟩ := by injection hveq2
          subst hra
          subst hsa
          have hgl : g < w.heap.size := (h1.lt g rfl).2
          have hgl2 : g2 < w.heap.size := (h2.lt g2 rfl).2
          have hk0 : (0 : Int) ≤ (j : Int) := by omega
          have hk1 : (j : Int) < (l.length : Int) := by omega
          obtain ⟨t, ht⟩ : ∃ t, t = l[j] := ⟨_, rfl⟩
          have hc : wr.cell? ⟨g, j, none⟩ = some (.string ⟨t.toArray⟩) := by
            rw [hbel.cell (p := ⟨g, j, none⟩) hgl, h1.cellAt j (by omega), strsV_at hlt, ht]
          have hc2 : wr.cell? ⟨g2, j, none⟩ = some (.string ⟨t.toArray⟩) := by
            rw [hbel.cell (p := ⟨g2, j, none⟩) hgl2, h2.cellAt j (by omega), strsV_at hlt, ht]
          clear ht
          go_wp2_with fail
          go_region_held3 (fun w' => w'.cell? ⟨g, j, none⟩ = some (.string ⟨t.toArray⟩) ∧ w'.cell? ⟨g2, j, none⟩ = some (.string ⟨t.toArray⟩)) (go_keep) (fail)
          all_goals
            go_wp2
            go_roundw
            case rel => exact ⟨j + 1, by go_num, hlt, hbel.drew⟩
            case measure => simp [RowKit.intOf]; omega
    · go_wp2
      go_ret
      exact ⟨rfl, hbel⟩

end Go.Proofs.YtpienefbgpgdkalDoor
