/-
  Texts of one's own, joined.
-/
import Derived.Test.YthnahalboomkoaaGreatJoined5
import Derived.Test.YthnahalboomkoaaGreatJoined8
import Derived.Test.YthnahalboomkoaaGreatJoined9
import Derived.Maps.AppendAt
import Derived.Test.YthnahalboomkoaaGreatJoined10
import Derived.StillTail
import Derived.StillTailTactics

/-
  The walks of the specification's polynomials.
  (-DROP-: what the seat lacks is left out.)
-/
namespace Go.Proofs.YthnahalboomkoaaGreat
open Go.RowKit

/-- A list without its last number. -/
theorem RowZs.init {B : Nat} {w : World} {g n c : Nat} {l : List Int} {x : Int} (h : RowZs B w (.slice (some ⟨g, 0, none⟩) (n + 1) c) (l ++ [x])) (hn : l.length = n) : RowZs B w (.slice (some ⟨g, 0, none⟩) n c) l := by
  rcases h.2 with ⟨h0, _⟩ | ⟨g', c', cur, hv, hg, hh, h1, h2, h3, h4⟩
  · cases h0
  · injection hv with e1 e2 e3
    injection e1 with e1
    injection e1 with e1
    subst e1
    subst e3
    unfold RowZs
    rw [hn]
    refine ⟨by simp [zsV, hn], .inr ⟨g, c, cur, rfl, hg, hh, by omega, h2, h3, ?_⟩⟩
    have h5 := congrArg (List.take n) h4
    have hz : (zsV l).length = n := by simp [zsV, hn]
    have e : min n ((l ++ [x]).length * 1) = n := by rw [List.length_append]; simp; omega
    rw [List.take_take, e, zsV_append, List.take_left' hz] at h5
    rw [Nat.mul_one]
    exact h5
theorem list_init {l : List Int} (h : 0 < l.length) : ∃ t x, l = t ++ [x] := ⟨l.dropLast, l.getLast (by intro e; rw [e] at h; simp at h), (List.dropLast_concat_getLast _).symm⟩

set_option maxHeartbeats 1600000 in
set_option maxRecDepth 100000 in
theorem sTrim_any (v : Value) (l : List Int) (hl : l.length ≤ 1048576) (w : World) (h : ZAt w w.heap.size v l) :
    Calls Tryz.prog 193 #[v] w fun e w' => ∃ u, e = .returned u ∧ ZOwn w.heap.size w'.heap.size w' u (pTrim l) ∧ Below w.heap.size w w' := by
  obtain ⟨i0, hi, hz0, hz1, hz2⟩ := info_parts info3I
  obtain ⟨a, cp, rfl, hA⟩ := h
  have HA : Hid (IntsAt w a l.length w.heap.size (fun j => l.getD j 0)) := hA
  have HT : Hid (pTrim l = trimZ (l.map sca)) := rfl
  obtain ⟨n, hn⟩ : ∃ n, n = l.length := ⟨_, rfl⟩
  have HN : Hid (n = l.length) := hn
  rw [← hn] at HA hl ⊢
  clear hn hA
  go_enter Tryz.func193, Tryz.ntmps193
  go_wp2
  go_loopw [3, 4] (fun u i wr => ∃ (k : Nat) (m : List Int), i = .int .i64 (k : Int) ∧ k ≤ n ∧ Hid (m = (l.take k).map sca) ∧ m.length = k ∧ wr.ownsRow w.heap.size 3 1 u k (zsV m) ∧ Hid (Below w.heap.size w wr)) (fun _ i _ => n - (intOf i).toNat)
  case atStart => exact ⟨0, [], rfl, by omega, rfl, rfl, World.ownsRow_lit _ _ _ (Nat.le_refl _) (by simp [maxLen]) (by simp), (Below.refl _ _).alloc (Nat.le_refl _) _⟩
  case round =>
    obtain ⟨k, m, rfl, hk, HM, hml, hown, HB⟩ := hrel
    have hsz : w.heap.size ≤ wr.heap.size := HB.out.size
    by_cases hlt : k < n
    · have hlt' : (k : Int) < (n : Int) := by omega
      have hk0 : (0 : Int) ≤ (k : Int) := by omega
      have hm63 : k + 1 ≤ maxLen := by unfold maxLen; omega
      have hm47 : (k + 1) * 8 ≤ 140737488355328 := by omega
      obtain ⟨b, off, rfl, hb, hz⟩ := (HA.out.on HB.out) k hlt
      replace hz : wr.cell? ⟨b, off + k, none⟩ = some (.int .i64 (l.getD k 0)) := hz
      have HS : Hid (∀ w, Calls Tryz.prog 67 #[.int .i64 (l.getD k 0)] w fun e w' => e = .returned (.int .i64 (sca (l.getD k 0))) ∧ w = w') := sScOf_any _
      have HM2 : Hid (m ++ [sca (l.getD k 0)] = (l.take (k + 1)).map sca) := by
        show _ = _
        have hkl : k < l.length := by have := HN.out; omega
        rw [HM.out, List.take_succ_eq_append_getElem hkl, List.map_append]
        simp [hkl]
      generalize sca (l.getD k 0) = y at HS HM2
      generalize l.getD k 0 = x at hz HS
      clear hb HA HM
      go_wp2_with (first
        | (go_at_call 67; refine (HS.out _).mono ?_; rintro e wz ⟨rfl, rfl⟩)
        | (at_builtin; refine wpList_append_own _ rfl _ _ 27 rfl w.heap.size 3 i0 (.int .i64 0) 1 8 Tryz.underlying27 hi hz0 hz1 hz2 rfl (by decide) _ _ _ rfl (hown.alloc _) ⟨wr.heap.size, 0, none⟩ 1 1 [.int .i64 y] rfl rfl (cell_one_new _ _ _) (one_cell _ _) hm63 hm47 (room_for hsz _) ?_))
      intro v' w4 hown' hgrow _
      have R : w4.ownsRow w.heap.size 3 1 v' (k + 1) (zsV (m ++ [y])) := by rw [zsV_append]; exact hown'
      have HB2 : Hid (Below w.heap.size w w4) := (HB.out.alloc hsz _).grown hgrow (by simp; omega) (fun k hk => (hown.lt k hk).1)
      have hml2 : (m ++ [y]).length = k + 1 := by simp [hml]
      clear hown' hgrow hown
      go_wp2
      go_roundw
      case rel => exact ⟨k + 1, _, by go_num, hlt, HM2, hml2, R, HB2⟩
      case measure => simp [intOf]; omega
    · have hlt' : ¬ (k : Int) < (n : Int) := by omega
      obtain rfl : n = k := by omega
      have HM2 : Hid (trimZ m = pTrim l) := by
        show _ = _
        rw [HT.out, HM.out, HN.out, List.take_length]
      obtain ⟨ra0, rc0, hv0⟩ := row_form hown
      subst hv0
      have HR : Hid (RowZs w.heap.size wr (.slice ra0 n rc0) m) := by
        show wr.ownsRow w.heap.size 3 1 _ m.length (zsV m)
        rw [hml]
        exact hown
      generalize wr = w0 at *
      clear HM hown
      go_wp2
      go_loopw [3] (fun u wr => ∃ t : List Int, Hid (trimZ t = pTrim l) ∧ t.length ≤ 1048576 ∧ Hid (RowZs w.heap.size w0 u t) ∧ w0 = wr) (fun u _ => slLen u)
      case atStart => exact ⟨m, HM2, by omega, HR, rfl⟩
      case round =>
        obtain ⟨t, HTT, htl, HRT, rfl⟩ := hrel
        clear HM2 HR
        obtain ⟨ra, rc, hv⟩ := row_form HRT.out
        subst hv
        by_cases h0 : 0 < t.length
        · have h0' : (0 : Int) < (t.length : Int) := by omega
          obtain ⟨s, x, hsx⟩ := list_init h0
          rcases HRT.out.2 with ⟨_, hz⟩ | ⟨g, c', cur, hve, _⟩
          · omega
          · have hra : ra = some ⟨g, 0, none⟩ := by injection hve
            subst hra
            have hlen : t.length = s.length + 1 := by rw [hsx]; simp
            have hcell : w0.cell? ⟨g, s.length, none⟩ = some (.int .i64 x) := by
              have hq : w0.ownsRow w.heap.size 3 1 (.slice (some ⟨g, 0, none⟩) t.length rc) t.length (zsV t) := HRT.out
              rw [World.ownsRow.cellAt hq s.length (by omega), hsx]
              simp [zsV]
            have hi1 : (t.length : Int) - 1 = (s.length : Int) := by omega
            have hi2 : (0 : Int) ≤ (s.length : Int) := by omega
            have hi3 : (s.length : Int) < (t.length : Int) := by omega
            by_cases hx : x = 0
            · subst hx
              have HR2 : Hid (RowZs w.heap.size w0 (.slice (some ⟨g, 0, none⟩) s.length rc) s) := by
                have hq := HRT.out
                rw [hlen, hsx] at hq
                exact hq.init rfl
              have HT2 : Hid (trimZ s = pTrim l) := by
                show _ = _
                rw [← HTT.out, hsx, trimZ_zero]
              have hrc : (s.length : Int) ≤ (rc : Int) := by
                rcases HRT.out.2 with ⟨_, hz⟩ | ⟨_, _, _, hve2, _, _, hc2, _⟩
                · omega
                · injection hve2 with _ _ e3; omega
              clear HRT HTT hsx
              go_wp2
              go_roundw
              case rel => exact ⟨s, HT2, by omega, HR2, by trivial⟩
              case measure => simp [slLen]; omega
            · have hx' : (x == 0) = false := by rw [beq_eq_false_iff_ne]; exact hx
              have HE : Hid (pTrim l = t) := by
                show _ = _
                rw [← HTT.out, hsx, trimZ_some s hx]
              clear hsx
              go_wp2
              go_ret
              exact ⟨_, rfl, by rw [HE.out]; exact ZOwn.of HRT.out, HB.out⟩
        · have h0' : ¬ (0 : Int) < (t.length : Int) := by omega
          have HE : Hid (pTrim l = t) := by
            show _ = _
            have e : t = [] := List.length_eq_zero_iff.1 (by omega)
            rw [← HTT.out, e]
            rfl
          go_wp2
          go_ret
          exact ⟨_, rfl, by rw [HE.out]; exact ZOwn.of HRT.out, HB.out⟩

theorem drop_at {l : List Int} {k : Nat} (h : k < l.length) : l.drop k = l.getD k 0 :: l.drop (k + 1) := by
  rw [List.drop_eq_getElem_cons h]
  simp [h]

set_option maxHeartbeats 1600000 in
set_option maxRecDepth 100000 in
theorem sAt_any (v : Value) (l : List Int) (x : Int) (hl : l.length ≤ 1048576) (w : World) (h : ZAt w w.heap.size v l) :
    Calls Tryz.prog 83 #[v, .int .i64 x] w fun e w' => e = .returned (.int .i64 (pAt l x)) ∧ Below w.heap.size w w' := by
  obtain ⟨a, cp, rfl, hA⟩ := h
  have HA : Hid (IntsAt w a l.length w.heap.size (fun j => l.getD j 0)) := hA
  clear hA
  obtain ⟨n, hn⟩ : ∃ n, n = l.length := ⟨_, rfl⟩
  have HN : Hid (n = l.length) := hn
  rw [← hn] at HA hl ⊢
  clear hn
  go_enter Tryz.func83, Tryz.ntmps83
  go_wp2
  go_loopw [5, 6] (fun y i wr => ∃ (k : Nat), i = .int .i64 ((k : Int) - 1) ∧ k ≤ n ∧ y = .int .i64 (pAt (l.drop k) x) ∧ Hid (Below w.heap.size w wr)) (fun _ i _ => (intOf i + 1).toNat)
  case atStart => exact ⟨n, rfl, Nat.le_refl _, by rw [HN.out, List.drop_length]; rfl, Below.refl _ _⟩
  case round =>
    obtain ⟨k, rfl, hk, rfl, HB⟩ := hrel
    by_cases h0 : 0 < k
    · obtain ⟨j, rfl⟩ : ∃ j, k = j + 1 := ⟨k - 1, by omega⟩
      have hi1 : ((j + 1 : Nat) : Int) - 1 = (j : Int) := by omega
      have hi2 : (0 : Int) ≤ (j : Int) := by omega
      have hi3 : (j : Int) < (n : Int) := by omega
      obtain ⟨b, off, rfl, hb, hz⟩ := (HA.out.on HB.out) j (by omega)
      replace hz : wr.cell? ⟨b, off + j, none⟩ = some (.int .i64 (l.getD j 0)) := hz
      have HP : Hid (pAt (l.drop j) x = scAdd (scMul (pAt (l.drop (j + 1)) x) x) (l.getD j 0)) := by
        show _ = _
        rw [drop_at (l := l) (k := j) (by have := HN.out; omega)]
        rfl
      have HC : Hid (∀ w, Calls Tryz.prog 81 #[.int .i64 (pAt (l.drop (j + 1)) x), .int .i64 x] w fun e w' => e = .returned (.int .i64 (scMul (pAt (l.drop (j + 1)) x) x)) ∧ w' = w) := fun w => (sScMul_any _ _ w).mono fun e w' h => ⟨h.1, h.2.symm⟩
      have HD : Hid (∀ w, Calls Tryz.prog 18 #[.int .i64 (scMul (pAt (l.drop (j + 1)) x) x), .int .i64 (l.getD j 0)] w fun e w' => e = .returned (.int .i64 (pAt (l.drop j) x)) ∧ w' = w) := fun w => by
        rw [HP.out]
        exact (sScAdd_any _ _ w).mono fun e w' h => ⟨h.1, h.2.symm⟩
      obtain ⟨r, hr⟩ : ∃ r, r = pAt (l.drop j) x := ⟨_, rfl⟩
      have HR : Hid (r = pAt (l.drop j) x) := hr
      rw [← hr] at HD
      clear hr HP
      generalize scMul (pAt (l.drop (j + 1)) x) x = p at HC HD
      generalize pAt (l.drop (j + 1)) x = q at HC
      generalize l.getD j 0 = z at HD hz
      clear hb HA
      go_wp2
      refine wp_region_still_tail 8 mixesSc (by kernel_rfl) ?_
      simp only [List.take_succ_cons, List.take_zero, List.drop_succ_cons, List.drop_zero]
      repeat still_step
      still_call (HC.out _)
      repeat still_step
      still_call (HD.out _)
      repeat still_step
      refine wpStill_nil ?_
      go_wp2
      go_roundw
      case rel => exact ⟨j, by go_num, by omega, by rw [HR.out], HB.out.drew⟩
      case measure => simp [intOf]
    · obtain rfl : k = 0 := by omega
      go_wp2
      go_ret
      exact ⟨by simp, HB.out⟩

theorem padF_case (a b : List Int) (k : Nat) : padF a b k = if k < b.length then scAdd (if k < a.length then scAdd 0 (a.getD k 0) else 0) (b.getD k 0) else if k < a.length then scAdd 0 (a.getD k 0) else 0 := rfl

/-- out[i] = ScAdd(out[i], x): what the world is behind it. -/
theorem row_step {w wr : World} {n k : Nat} {F : Nat → Int} (x : Int) (h : RowI wr w.heap.size n F) (hb : Below w.heap.size w wr) : RowI (wr.setCell ⟨w.heap.size, k, none⟩ (.int .i64 x)) w.heap.size n (fun i => if i = k then x else F i) ∧ Below w.heap.size w (wr.setCell ⟨w.heap.size, k, none⟩ (.int .i64 x)) := ⟨h.set k x, hb.setCell (Nat.le_refl _) _⟩

end Go.Proofs.YthnahalboomkoaaGreat

/-
  The walks of the program's lists of numbers: each, at, with, trimmed; PolyTrim, PolyAdd.
  (-DROP-: what the seat lacks is left out.)
-/
namespace Go.Proofs.YthnahalboomkoaaGreat
open Go.RowKit

/-- The first so many of a list. -/
theorem RowZs.take {B : Nat} {w : World} {a : Option Addr} {n c : Nat} {l : List Int} (h : RowZs B w (.slice a n c) l) (k : Nat) (hk : k ≤ l.length) : RowZs B w (.slice a k c) (l.take k) := by
  rcases h.2 with ⟨h0, h1⟩ | ⟨g, c', cur, hv, hg, hh, h1, h2, h3, h4⟩
  · injection h0 with e1 e2 e3
    subst e1
    subst e3
    have e : k = 0 := by omega
    subst e
    exact ⟨rfl, .inl ⟨rfl, rfl⟩⟩
  · injection hv with e1 e2 e3
    subst e1
    subst e3
    have hl : (l.take k).length = k := by simp [hk]
    unfold RowZs
    rw [hl]
    refine ⟨by simp [zsV, hk], .inr ⟨g, c, cur, rfl, hg, hh, by omega, h2, h3, ?_⟩⟩
    have h5 := congrArg (List.take k) h4
    rw [List.take_take, Nat.mul_one, Nat.min_eq_left hk] at h5
    rw [Nat.mul_one, h5]
    simp [zsV]
theorem RowZs.cap {B : Nat} {w : World} {a : Option Addr} {n c : Nat} {l : List Int} (h : RowZs B w (.slice a n c) l) : l.length ≤ c := by
  rcases h.2 with ⟨h0, h1⟩ | ⟨g, c', cur, hv, hg, hh, h1, h2, h3, h4⟩
  · omega
  · injection hv with e1 e2 e3; omega
theorem RowZs.len {B : Nat} {w : World} {a : Option Addr} {n c : Nat} {l : List Int} (h : RowZs B w (.slice a n c) l) : n = l.length := by
  rcases h.2 with ⟨h0, h1⟩ | ⟨g, c', cur, hv, hg, hh, h1, h2, h3, h4⟩
  · injection h0 with e1 e2 e3; omega
  · injection hv with e1 e2 e3
/-- The cells of a list. -/
theorem RowZs.cellZ {B : Nat} {w : World} {v : Value} {l : List Int} (h : RowZs B w v l) {j : Nat} (hj : j < l.length) : ∃ g c, v = .slice (some ⟨g, 0, none⟩) l.length c ∧ B ≤ g ∧ g < w.heap.size ∧ w.cell? ⟨g, j, none⟩ = some (.int .i64 (l.getD j 0)) ∧ w.frozen? ⟨g, j, none⟩ = false := by
  rcases h.2 with ⟨rfl, h0⟩ | ⟨g, cp, cur, rfl, hg, hh, hrest⟩
  · omega
  · refine ⟨g, cp, rfl, hg, (Array.getElem?_eq_some_iff.1 hh).1, ?_, frozen_of_row w g j _ 3 hh⟩
    have hc := h.cellAt j (by omega)
    rw [hc]
    simp [zsV, hj]
/-- A number is stored. -/
theorem RowZs.put {B : Nat} {w : World} {g n c : Nat} {l : List Int} (h : RowZs B w (.slice (some ⟨g, 0, none⟩) n c) l) (j : Nat) (x : Int) : RowZs B (w.setCell ⟨g, j, none⟩ (.int .i64 x)) (.slice (some ⟨g, 0, none⟩) n c) (l.set j x) := by
  have e := h.len
  subst e
  have h1 := (World.ownsRow.stored h j (.int .i64 x)).1
  unfold RowZs
  rw [List.length_set]
  have e2 : zsV (l.set j x) = (zsV l).set j (.int .i64 x) := by simp [zsV, List.map_set]
  rw [e2]
  exact h1

/-- make(numbers[int], n). -/
theorem make_nums (n m : Nat) (h1 : n ≤ m) (h2 : m ≤ 1073741824) (W : World) :
    (Instr.makeSlice 206 (.int .i64 (n : Int)) (.int .i64 (m : Int))).run Tryz.prog W = .ok (.slice (some ⟨W.heap.size, 0, none⟩) n m) (W.alloc (.cells (ic (fun _ => 0) m) 3)) := by
  obtain ⟨i0, hi, hz0, hz1, hz2⟩ := info_parts info3I
  have hM : madeCells (Value.int .i64 0).cells ((m : Int).toNat * i0.size) = ic (fun _ => 0) m := by
    rw [hz1]
    have h3 := toList_madeCells_one (.int .i64 0) m
    apply Array.toList_inj.1
    have e : (ic (fun _ => 0) m).toList = List.replicate m (Value.int .i64 0) := by
      simp [ic, List.map_const', List.length_range]
    rw [e]
    simpa [Value.cells] using h3
  have h := run_make (P := Tryz.prog) W 206 3 i0 (.int .i64 0) Tryz.underlying206 hi hz0 .i64 .i64 (n : Int) (m : Int) (by omega) (by omega) (by rw [hz2]; omega) (by omega)
  rw [hM] at h
  simpa using h

set_option maxHeartbeats 1600000 in
set_option maxRecDepth 100000 in
theorem trimmed_any (v : Value) (l : List Int) (hl : l.length ≤ 1048576) (B : Nat) (w : World) (h : RowZs B w v l) :
    Calls Tryz.prog 207 #[v] w fun e w' => ∃ a n c, v = .slice a n c ∧ e = .returned (.slice a (trimZ l).length c) ∧ RowZs B w (.slice a (trimZ l).length c) (trimZ l) ∧ w = w' := by
  obtain ⟨a, c, hv⟩ := row_form h
  subst hv
  have HR : Hid (RowZs B w (.slice a l.length c) l) := h
  obtain ⟨n, hn⟩ : ∃ n, n = l.length := ⟨_, rfl⟩
  have HN : Hid (n = l.length) := hn
  have hcap : n ≤ c := by have := h.cap; omega
  rw [← hn] at HR hl ⊢
  clear hn h
  go_enter Tryz.func207, Tryz.ntmps207
  go_wp2
  go_loopw [3] (fun i wr => ∃ k : Nat, i = .int .i64 (k : Int) ∧ k ≤ n ∧ Hid (trimZ (l.take k) = trimZ l) ∧ w = wr) (fun i _ => (intOf i).toNat)
  case atStart => exact ⟨n, rfl, Nat.le_refl _, by show _ = _; rw [HN.out, List.take_length], rfl⟩
  case round =>
    obtain ⟨k, rfl, hk, HT, rfl⟩ := hrel
    have hkl : k ≤ l.length := by have := HN.out; omega
    by_cases h0 : 0 < k
    · obtain ⟨j, rfl⟩ : ∃ j, k = j + 1 := ⟨k - 1, by omega⟩
      have hj : j < l.length := by omega
      have HTK : Hid (l.take (j + 1) = l.take j ++ [l.getD j 0]) := by
        show _ = _
        rw [List.take_succ_eq_append_getElem hj]
        simp [hj]
      obtain ⟨g, c', hv, hg, hgs, hz, hf⟩ := HR.out.cellZ hj
      have ha : a = some ⟨g, 0, none⟩ := by injection hv
      subst ha
      have hi1 : ((j + 1 : Nat) : Int) - 1 = (j : Int) := by omega
      have hi2 : (0 : Int) ≤ (j : Int) := by omega
      have hi3 : (j : Int) < (n : Int) := by omega
      have hi4 : ((j + 1 : Nat) : Int) > 0 := by omega
      clear hv hg hgs hf
      by_cases hx : l.getD j 0 = 0
      · rw [hx] at hz HTK
        have HT2 : Hid (trimZ (l.take j) = trimZ l) := by
          show _ = _
          rw [← HT.out, HTK.out, trimZ_zero]
        clear HT HTK hx
        go_wp2
        go_roundw
        case rel => exact ⟨j, by go_num, by omega, HT2, trivial⟩
        case measure => simp [intOf]
      · have HE : Hid (l.take (j + 1) = trimZ l) := by
          show _ = _
          rw [← HT.out, HTK.out, trimZ_some _ hx]
        have hx' : (l.getD j 0 == 0) = false := by rw [beq_eq_false_iff_ne]; exact hx
        have HL : Hid ((trimZ l).length = j + 1) := by
          show _ = _
          rw [← HE.out, List.length_take]
          omega
        have HR2 : Hid (RowZs B w (.slice (some ⟨g, 0, none⟩) (j + 1) c) (trimZ l)) := by
          have := HR.out.take (j + 1) (by omega)
          rwa [HE.out] at this
        generalize l.getD j 0 = z at *
        have hcc : ((j + 1 : Nat) : Int) ≤ (c : Int) := by omega
        clear HT HTK
        go_wp2
        go_ret
        exact ⟨_, _, _, rfl, by rw [HL.out]; rfl, by rw [HL.out]; exact HR2.out, rfl⟩
    · obtain rfl : k = 0 := by omega
      have HE : Hid (trimZ l = []) := by show _ = _; rw [← HT.out]; rfl
      have HR2 : Hid (RowZs B w (.slice a 0 c) []) := by
        have := HR.out.take 0 (by omega)
        exact this
      have hcc : (0 : Int) ≤ (c : Int) := by omega
      clear HT
      go_wp2
      go_ret
      exact ⟨_, _, _, rfl, by rw [HE.out]; rfl, by rw [HE.out]; exact HR2.out, rfl⟩

end Go.Proofs.YthnahalboomkoaaGreat
