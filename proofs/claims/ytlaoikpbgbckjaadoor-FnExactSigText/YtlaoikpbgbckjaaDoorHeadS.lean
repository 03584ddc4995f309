/-
  The walks of the specification's heads.
  (-DROP-: what the seat lacks is left out.)
-/
import Derived.Test.YtlaoikpbgbckjaaDoorJoined12
import Derived.Test.YtlaoikpbgbckjaaDoorRdVS
import Derived.Test.YtlaoikpbgbckjaaDoorJoined15
import Derived.Test.YtlaoikpbgbckjaaDoorJoined16
namespace Go.Proofs.YtlaoikpbgbckjaaDoor
open Go.RowKit

/-- A head, as a value and as cells. -/
abbrev hc (h : Hd) : Array Value := #[.int .i64 h.1, .string h.2.1, .string h.2.2.1, .string h.2.2.2]
abbrev hv (h : Hd) : Value := .agg (hc h)
theorem infoH : (Tryd.prog.info? 25).map (·.size) = some 4 := by kernel_rfl
theorem ones4 (h : Hd) : (hc h).all (·.oneCell') = true := by simp [Value.oneCell']

set_option maxHeartbeats 800000 in
set_option maxRecDepth 100000 in
theorem sHeadOk_any (h : Hd) (w : World) :
    Calls Tryd.prog 16 #[hv h] w fun e w' => e = .returned (.bool (hOkB h)) ∧ Below w.heap.size w w' := by
  obtain ⟨s, p, t, b⟩ := h
  have HB : Hid (∀ w, Calls Tryd.prog 37 #[.int .i64 s, .int .i64 0, .int .i64 10000] w fun e w' => e = .returned (.bool (decide (0 ≤ s ∧ s ≤ 10000))) ∧ w = w') := sBetween_any s 0 10000
  unfold hOkB
  simp only
  generalize decide (0 ≤ s ∧ s ≤ 10000) = q at HB ⊢
  obtain ⟨np, hnp⟩ : ∃ n, p.size = n := ⟨_, rfl⟩
  obtain ⟨nt, hnt⟩ : ∃ n, t.size = n := ⟨_, rfl⟩
  obtain ⟨nb, hnb⟩ : ∃ n, b.size = n := ⟨_, rfl⟩
  rw [hnp, hnt, hnb]
  cases q
  · simp only [Bool.false_and]
    go_enter Tryd.func16, Tryd.ntmps16
    go_wp2_with fail
    obtain ⟨W, hW, hb, hx⟩ := box1 w 25 #[.int .i64 s, .string p, .string t, .string b]
    rw [hW]
    refine (HB.out _).mono ?_
    rintro e w1 ⟨rfl, rfl⟩
    clear hW
    go_wp2
    go_ret
    exact ⟨rfl, hb⟩
  · by_cases h1 : np = 32
    · by_cases h2 : nt = 32
      · by_cases h3 : nb = 32
        · have e3 : (true && decide (np = 32) && decide (nt = 32) && decide (nb = 32)) = true := by simp [h1, h2, h3]
          rw [e3]
          subst h1 h2 h3
          go_enter Tryd.func16, Tryd.ntmps16
          go_wp2_with fail
          obtain ⟨W, hW, hb, hx⟩ := box1 w 25 #[.int .i64 s, .string p, .string t, .string b]
          rw [hW]
          refine (HB.out _).mono ?_
          rintro e w1 ⟨rfl, rfl⟩
          clear hW e3
          have q1 := hx.cell 1
          have q2 := hx.cell 2
          have q3 := hx.cell 3
          go_wp2
          go_ret
          exact ⟨rfl, hb⟩
        · have e3 : (true && decide (np = 32) && decide (nt = 32) && decide (nb = 32)) = false := by simp [h3]
          rw [e3]
          have h3' : ((nb : Int) == 32) = false := by simp; omega
          subst h1 h2
          go_enter Tryd.func16, Tryd.ntmps16
          go_wp2_with fail
          obtain ⟨W, hW, hb, hx⟩ := box1 w 25 #[.int .i64 s, .string p, .string t, .string b]
          rw [hW]
          refine (HB.out _).mono ?_
          rintro e w1 ⟨rfl, rfl⟩
          clear hW e3
          have q1 := hx.cell 1
          have q2 := hx.cell 2
          have q3 := hx.cell 3
          go_wp2
          go_ret
          exact ⟨rfl, hb⟩
      · have e3 : (true && decide (np = 32) && decide (nt = 32) && decide (nb = 32)) = false := by simp [h2]
        rw [e3]
        have h2' : ((nt : Int) == 32) = false := by simp; omega
        subst h1
        go_enter Tryd.func16, Tryd.ntmps16
        go_wp2_with fail
        obtain ⟨W, hW, hb, hx⟩ := box1 w 25 #[.int .i64 s, .string p, .string t, .string b]
        rw [hW]
        refine (HB.out _).mono ?_
        rintro e w1 ⟨rfl, rfl⟩
        clear hW e3
        have q1 := hx.cell 1
        have q2 := hx.cell 2
        have q3 := hx.cell 3
        go_wp2
        go_ret
        exact ⟨rfl, hb⟩
    · have e3 : (true && decide (np = 32) && decide (nt = 32) && decide (nb = 32)) = false := by simp [h1]
      rw [e3]
      have h1' : ((np : Int) == 32) = false := by simp; omega
      go_enter Tryd.func16, Tryd.ntmps16
      go_wp2_with fail
      obtain ⟨W, hW, hb, hx⟩ := box1 w 25 #[.int .i64 s, .string p, .string t, .string b]
      rw [hW]
      refine (HB.out _).mono ?_
      rintro e w1 ⟨rfl, rfl⟩
      clear hW e3
      have q1 := hx.cell 1
      have q2 := hx.cell 2
      have q3 := hx.cell 3
      go_wp2
      go_ret
      exact ⟨rfl, hb⟩

theorem vT_of (n : Nat) : vT (n : Int) = ⟨(varB n).toArray⟩ := by simp [vT]

set_option maxHeartbeats 800000 in
set_option maxRecDepth 100000 in
theorem sHeadText_any (h : Hd) (w : World) :
    Calls Tryd.prog 32 #[hv h] w fun e w' => e = .returned (.tuple #[.string (hTextV h).1, .bool (hTextV h).2]) ∧ Below w.heap.size w w' := by
  have HO : Hid (∀ w, Calls Tryd.prog 16 #[hv h] w fun e w' => e = .returned (.bool (hOkB h)) ∧ Below w.heap.size w w') := sHeadOk_any h
  unfold hTextV
  cases hk : hOkB h
  · rw [hk] at HO
    simp only [Bool.false_eq_true, if_false]
    obtain ⟨s, p, t, b⟩ := h
    clear hk
    unfold hv hc at HO ⊢
    simp only at HO ⊢
    obtain ⟨W, hW, hb, hx⟩ := box1 w 25 #[.int .i64 s, .string p, .string t, .string b]
    go_enter Tryd.func32, Tryd.ntmps32
    go_wp2_with (refine load_blk rfl rfl rfl hx Tryd.underlying25 infoH ?_)
    clear hW
    refine (HO.out _).mono ?_
    rintro e w1 ⟨rfl, hb1⟩
    have hB := below_then hb hb1
    clear hb hb1 hx
    go_wp2
    go_ret2
    exact ⟨rfl, hB⟩
  · rw [hk] at HO
    simp only [if_true]
    obtain ⟨⟨s0, s1⟩, hp, ht, hbb⟩ := hok_iff.1 hk
    obtain ⟨s, p, t, b⟩ := h
    simp only at s0 s1 hp ht hbb
    obtain ⟨n, rfl⟩ : ∃ n : Nat, s = (n : Int) := ⟨s.toNat, by omega⟩
    have HVR : Hid (∀ w, Calls Tryd.prog 42 #[.int .i64 (n : Int)] w fun e w' => e = .returned (.string (vT (n : Int))) ∧ Below w.heap.size w w') := by rw [vT_of]; exact var_any n (by omega)
    have hvs : (vT (n : Int)).size ≤ 5 := by rw [vT_size]; exact varB_five (by omega)
    have HT : Hid (hTxt ((n : Int), p, t, b) = vT (n : Int) ++ p ++ t ++ b) := rfl
    have hs1 : (vT (n : Int) ++ p).size ≤ 100 := by rw [ByteArray.size_append]; omega
    have hs2 : (vT (n : Int) ++ p ++ t).size ≤ 200 := by rw [ByteArray.size_append]; omega
    have hp' : p.size ≤ 32 := by omega
    have ht' : t.size ≤ 32 := by omega
    have hb' : b.size ≤ 32 := by omega
    clear hk hp ht hbb
    unfold hv hc at HO ⊢
    simp only at HO ⊢
    generalize vT (n : Int) = v at HVR HT hvs hs1 hs2
    have hn1 : ¬ 9223372036854775807 < v.size + p.size := by omega
    have hn2 : ¬ 9223372036854775807 < v.size + p.size + t.size := by omega
    have hn3 : ¬ 9223372036854775807 < v.size + p.size + t.size + b.size := by omega
    obtain ⟨W, hW, hb, hx⟩ := box1 w 25 #[.int .i64 (n : Int), .string p, .string t, .string b]
    go_enter Tryd.func32, Tryd.ntmps32
    go_wp2_with (refine load_blk rfl rfl rfl hx Tryd.underlying25 infoH ?_)
    clear hW
    refine (HO.out _).mono ?_
    rintro e w1 ⟨rfl, hb1⟩
    have hB := below_then hb hb1
    have hx1 := hx.on hb1 hx.lt
    clear hb hb1 hx
    go_wp2_with fail
    refine wp_region_class 12 (fun wz => Below w1.heap.size w1 wz) mixes (by kernel_rfl) (Below.refl _ _).drew ?_
    simp only [List.take_succ_cons, List.take_zero, List.drop_succ_cons, List.drop_zero]
    repeat (refine cls_step rfl (fun K hK => ⟨_, (fun w' hw => by have q0 := (hx1.on hw hx1.lt).cell 0; have q1 := (hx1.on hw hx1.lt).cell 1; have q2 := (hx1.on hw hx1.lt).cell 2; have q3 := (hx1.on hw hx1.lt).cell 3; go_simp; exact rfl), ?_⟩); go_simp; refine hK _ ?_; clear hK K)
    refine cls_call rfl (fun K hK => ⟨_, _, _, (fun w' => by go_simp <;> first | exact rfl | exact ⟨rfl, rfl⟩), (fun w' hw => calls_below hw (HVR.out _)), ?_⟩); go_simp; refine hK _ ?_; clear hK K
    repeat (refine cls_step rfl (fun K hK => ⟨_, (fun w' hw => by have q0 := (hx1.on hw hx1.lt).cell 0; have q1 := (hx1.on hw hx1.lt).cell 1; have q2 := (hx1.on hw hx1.lt).cell 2; have q3 := (hx1.on hw hx1.lt).cell 3; go_simp; exact rfl), ?_⟩); go_simp; refine hK _ ?_; clear hK K)
    refine wq_nil ?_
    intro w' hw
    have hB2 := below_then hB hw
    clear hB hw hx1
    go_wp2
    go_ret2
    exact ⟨by rw [HT.out]; rfl, hB2⟩

end Go.Proofs.YtlaoikpbgbckjaaDoor
