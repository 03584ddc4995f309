/-
  The walks of the exact laws of heads: those without a table.
  (-DROP-: what the seat lacks is left out.)
-/
import Derived.Test.YtlaoikpbgbckjaaHeadI3
namespace Go.Proofs.Ytlaoikpbgbckjaa
open Go.RowKit

theorem infoLH : (Try.prog.info? 23).map (·.size) = some 4 := by kernel_rfl

/-- The parts of a head are no longer than texts can be. -/
def HLen (h : Hd) : Prop := h.2.1.size ≤ 9223372036854775807 ∧ h.2.2.1.size ≤ 9223372036854775807 ∧ h.2.2.2.size ≤ 9223372036854775807

set_option maxHeartbeats 800000 in
set_option maxRecDepth 100000 in
theorem szHead_any (h : Hd) (hl : HLen h) (w : World) :
    Calls Try.prog 6 #[hv h, .int .i64 1048576] w fun e w' => ∃ r : Int, e = .returned (.int .i64 r) ∧ Below w.heap.size w w' := by
  obtain ⟨s, p, t, b⟩ := h
  obtain ⟨h1, h2, h3⟩ := hl
  simp only at h1 h2 h3
  unfold hv hc
  simp only
  obtain ⟨np, hnp⟩ : ∃ n, p.size = n := ⟨_, rfl⟩
  obtain ⟨nt, hnt⟩ : ∃ n, t.size = n := ⟨_, rfl⟩
  obtain ⟨nb, hnb⟩ : ∃ n, b.size = n := ⟨_, rfl⟩
  rw [hnp] at h1
  rw [hnt] at h2
  rw [hnb] at h3
  have hw1 : IntKind.i64.wrap (1048576 - (np : Int)) = 1048576 - (np : Int) := IntWalk.i64_in _ (by omega)
  obtain ⟨W, hW, hb, hx⟩ := box1 w 23 #[.int .i64 s, .string p, .string t, .string b]
  have q1 := hx.cell 1
  have q2 := hx.cell 2
  have q3 := hx.cell 3
  by_cases g1 : (1048576 : Int) - (np : Int) < 0
  · go_enter Try.func6, Try.ntmps6
    go_wp2
    go_ret
    first | exact ⟨_, rfl, hb⟩ | exact hb | exact ⟨⟨_, rfl⟩, hb⟩
  · have hw2 : IntKind.i64.wrap (1048576 - (np : Int) - (nt : Int)) = 1048576 - (np : Int) - (nt : Int) := IntWalk.i64_in _ (by omega)
    by_cases g2 : (1048576 : Int) - (np : Int) - (nt : Int) < 0
    · go_enter Try.func6, Try.ntmps6
      go_wp2
      go_ret
      first | exact ⟨_, rfl, hb⟩ | exact hb | exact ⟨⟨_, rfl⟩, hb⟩
    · have hw3 : IntKind.i64.wrap (1048576 - (np : Int) - (nt : Int) - (nb : Int)) = 1048576 - (np : Int) - (nt : Int) - (nb : Int) := IntWalk.i64_in _ (by omega)
      by_cases g3 : (1048576 : Int) - (np : Int) - (nt : Int) - (nb : Int) < 0
      · go_enter Try.func6, Try.ntmps6
        go_wp2
        go_ret
        first | exact ⟨_, rfl, hb⟩ | exact hb | exact ⟨⟨_, rfl⟩, hb⟩
      · go_enter Try.func6, Try.ntmps6
        go_wp2
        go_ret
        first | exact ⟨_, rfl, hb⟩ | exact hb | exact ⟨⟨_, rfl⟩, hb⟩

set_option maxHeartbeats 800000 in
set_option maxRecDepth 100000 in
theorem toHead_any (h : Hd) (w : World) :
    Calls Try.prog 8 #[hv h] w fun e w' => e = .returned (hv h) ∧ Below w.heap.size w w' := by
  obtain ⟨s, p, t, b⟩ := h
  unfold hv hc
  simp only
  go_enter Try.func8, Try.ntmps8
  go_wp2
  refine bodyPost_ret_by (result_blk rfl rfl (Blk.alloc (Blk.newAt (by simp)) _) Try.underlying26 infoH) rfl ⟨rfl, (((Below.refl _ _).alloc (Nat.le_refl _) _).alloc (by simp) _).alloc (by simp; omega) _⟩

set_option maxHeartbeats 800000 in
set_option maxRecDepth 100000 in
theorem eqHead_same (h : Hd) (w : World) :
    Calls Try.prog 14 #[hv h, hv h] w fun e w' => e = .returned (.bool true) ∧ Below w.heap.size w w' := by
  obtain ⟨s, p, t, b⟩ := h
  unfold hv hc
  simp only
  go_enter Try.func14, Try.ntmps14
  go_wp2
  go_ret
  exact ⟨rfl, ((Below.refl _ _).alloc (Nat.le_refl _) _).alloc (by simp) _⟩

set_option maxHeartbeats 800000 in
set_option maxRecDepth 100000 in
theorem lawHeadOk (h : Hd) (hl : HLen h) (w : World) :
    Calls Try.prog 3 #[hv h] w fun e w' => e = .returned (.bool true) ∧ Below w.heap.size w w' := by
  have HZ : Hid (∀ w, Calls Try.prog 6 #[hv h, .int .i64 1048576] w fun e w' => ∃ r : Int, e = .returned (.int .i64 r) ∧ Below w.heap.size w w') := szHead_any h hl
  have HT : Hid (∀ w, Calls Try.prog 8 #[hv h] w fun e w' => e = .returned (hv h) ∧ Below w.heap.size w w') := toHead_any h
  have HS : Hid (∀ w, Calls Try.prog 7 #[hv h] w fun e w' => e = .returned (.bool (hOkB h)) ∧ Below w.heap.size w w') := sHeadOk_any h
  have HI : Hid (∀ w, Calls Try.prog 9 #[hv h] w fun e w' => e = .returned (.bool (hOkB h)) ∧ Below w.heap.size w w') := iHeadOk_any h
  generalize hOkB h = q at HS HI
  obtain ⟨s, p, t, b⟩ := h
  unfold hv hc at HZ HT HS HI ⊢
  simp only at HZ HT HS HI ⊢
  obtain ⟨W, hW, hb, hx⟩ := box1 w 23 #[.int .i64 s, .string p, .string t, .string b]
  go_enter Try.func3, Try.ntmps3
  go_wp2_with (refine load_blk rfl rfl rfl hx Try.underlying23 infoLH ?_)
  clear hW
  refine (HZ.out _).mono ?_
  rintro e w1 ⟨r, rfl, hb1⟩
  have hx1 := hx.on hb1 hx.lt
  have hB1 := below_then hb hb1
  clear hx hb hb1
  by_cases h0 : r < 0
  · go_wp2
    go_ret
    exact ⟨rfl, hB1⟩
  · go_wp2_with (refine load_blk rfl rfl rfl hx1 Try.underlying23 infoLH ?_)
    refine (HT.out _).mono ?_
    rintro e w2 ⟨rfl, hb2⟩
    have hx2 := hx1.on hb2 hx1.lt
    have hB2 := below_then hB1 hb2
    clear hx1 hB1 hb2
    go_wp2_with fail
    refine (HS.out _).mono ?_
    rintro e w3 ⟨rfl, hb3⟩
    have hx3 := hx2.on hb3 hx2.lt
    have hB3 := below_then hB2 hb3
    clear hx2 hB2 hb3
    go_wp2_with (refine load_blk rfl rfl rfl hx3 Try.underlying23 infoLH ?_)
    refine (HT.out _).mono ?_
    rintro e w4 ⟨rfl, hb4⟩
    have hB4 := below_then hB3 hb4
    clear hx3 hB3 hb4
    go_wp2_with fail
    refine (HI.out _).mono ?_
    rintro e w5 ⟨rfl, hb5⟩
    have hB5 := below_then hB4 hb5
    clear hB4 hb5
    cases q
    all_goals go_wp2
    all_goals go_ret
    all_goals exact ⟨rfl, hB5⟩

set_option maxHeartbeats 800000 in
set_option maxRecDepth 100000 in
theorem lawHeadText (h : Hd) (hl : HLen h) (w : World) :
    Calls Try.prog 4 #[hv h] w fun e w' => e = .returned (.bool true) ∧ Below w.heap.size w w' := by
  have HZ : Hid (∀ w, Calls Try.prog 6 #[hv h, .int .i64 1048576] w fun e w' => ∃ r : Int, e = .returned (.int .i64 r) ∧ Below w.heap.size w w') := szHead_any h hl
  have HT : Hid (∀ w, Calls Try.prog 8 #[hv h] w fun e w' => e = .returned (hv h) ∧ Below w.heap.size w w') := toHead_any h
  have HS : Hid (∀ w, Calls Try.prog 10 #[hv h] w fun e w' => e = .returned (.tuple #[.string (hTextV h).1, .bool (hTextV h).2]) ∧ Below w.heap.size w w') := sHeadText_any h
  have HI : Hid (∀ w, Calls Try.prog 11 #[hv h] w fun e w' => e = .returned (.tuple #[.string (hTextV h).1, .bool (hTextV h).2]) ∧ Below w.heap.size w w') := iHeadText_any h
  generalize (hTextV h).1 = x at HS HI
  generalize (hTextV h).2 = q at HS HI
  obtain ⟨s, p, t, b⟩ := h
  unfold hv hc at HZ HT HS HI ⊢
  simp only at HZ HT HS HI ⊢
  obtain ⟨W, hW, hb, hx⟩ := box1 w 23 #[.int .i64 s, .string p, .string t, .string b]
  go_enter Try.func4, Try.ntmps4
  go_wp2_with (refine load_blk rfl rfl rfl hx Try.underlying23 infoLH ?_)
  clear hW
  refine (HZ.out _).mono ?_
  rintro e w1 ⟨r, rfl, hb1⟩
  have hx1 := hx.on hb1 hx.lt
  have hB1 := below_then hb hb1
  clear hx hb hb1
  by_cases h0 : r < 0
  · go_wp2
    go_ret
    exact ⟨rfl, hB1⟩
  · go_wp2_with (refine load_blk rfl rfl rfl hx1 Try.underlying23 infoLH ?_)
    refine (HT.out _).mono ?_
    rintro e w2 ⟨rfl, hb2⟩
    have hx2 := hx1.on hb2 hx1.lt
    have hB2 := below_then hB1 hb2
    clear hx1 hB1 hb2
    go_wp2_with fail
    refine (HS.out _).mono ?_
    rintro e w3 ⟨rfl, hb3⟩
    have hx3 := hx2.on hb3 hx2.lt
    have hB3 := below_then hB2 hb3
    clear hx2 hB2 hb3
    go_wp2_with (refine load_blk rfl rfl rfl hx3 Try.underlying23 infoLH ?_)
    refine (HT.out _).mono ?_
    rintro e w4 ⟨rfl, hb4⟩
    have hB4 := below_then hB3 hb4
    clear hx3 hB3 hb4
    go_wp2_with fail
    refine (HI.out _).mono ?_
    rintro e w5 ⟨rfl, hb5⟩
    have hB5 := below_then hB4 hb5
    clear hB4 hb5
    cases q
    all_goals go_wp2
    all_goals go_ret
    all_goals exact ⟨rfl, hB5⟩

set_option maxHeartbeats 800000 in
set_option maxRecDepth 100000 in
theorem lawReadHead (t : ByteArray) (_ht : t.size ≤ maxLen) (w : World) :
    Calls Try.prog 5 #[.string t] w fun e w' => e = .returned (.bool true) ∧ Below w.heap.size w w' := by
  by_cases hb : 1048576 < t.size
  · have hb' : (1048576 : Int) < (t.size : Int) := by omega
    go_enter Try.func5, Try.ntmps5
    go_wp2
    go_ret
    exact ⟨rfl, Below.refl _ _⟩
  have hb' : ¬ (1048576 : Int) < (t.size : Int) := by omega
  have HS : Hid (∀ w, Calls Try.prog 12 #[.string t] w fun e w' => e = .returned (hrv (rdHead t)) ∧ Below w.heap.size w w') := sReadHead_any t (by omega)
  have HI : Hid (∀ w, Calls Try.prog 13 #[.string t] w fun e w' => e = .returned (hrv (rdHead t)) ∧ Below w.heap.size w w') := iReadHead_any t (by omega)
  have HE : Hid (∀ w, Calls Try.prog 14 #[hv (rdHead t).1, hv (rdHead t).1] w fun e w' => e = .returned (.bool true) ∧ Below w.heap.size w w') := eqHead_same _
  unfold hrv at HS HI
  generalize (rdHead t).2 = q at HS HI
  generalize (rdHead t).1 = h at HS HI HE
  obtain ⟨s, p, x, b⟩ := h
  unfold hv hc at HS HI HE
  simp only at HS HI HE
  go_enter Try.func5, Try.ntmps5
  go_wp2_with fail
  refine (HS.out _).mono ?_
  rintro e w1 ⟨rfl, hb1⟩
  obtain ⟨V, hV, hbV, h1⟩ := box1 w1 26 #[.int .i64 s, .string p, .string x, .string b]
  go_wp2_with fail
  have hB1 := below_then hb1 hbV
  clear hV hb1 hbV
  refine (HI.out _).mono ?_
  rintro e w2 ⟨rfl, hb2⟩
  have h12 := h1.on hb2 h1.lt
  have hB2 := below_then hB1 hb2
  clear h1 hB1 hb2
  obtain ⟨U, hU, hbU, h3⟩ := box1 w2 26 #[.int .i64 s, .string p, .string x, .string b]
  have h13 := h12.on hbU h12.lt
  have hB3 := below_then hB2 hbU
  clear h12 hB2 hbU
  go_wp2_with (first | (refine load_blk rfl rfl rfl h3 Try.underlying26 infoH ?_) | (refine load_blk rfl rfl rfl h13 Try.underlying26 infoH ?_))
  clear hU
  refine (HE.out _).mono ?_
  rintro e w4 ⟨rfl, hb4⟩
  have hB4 := below_then hB3 hb4
  clear hB3 hb4 h3 h13
  cases q
  all_goals go_wp2
  all_goals go_ret
  all_goals exact ⟨rfl, hB4⟩

end Go.Proofs.Ytlaoikpbgbckjaa
