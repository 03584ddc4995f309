/-
  The walk of the specification's SameItem.
  (-DROP-: what the seat lacks is left out.)
-/
import Derived.Test.YtmpjnabadplbjaaJoined18
namespace Go.Proofs.Ytmpjnabadplbjaa
open Go.RowKit

set_option maxHeartbeats 1600000 in
set_option maxRecDepth 100000 in
theorem sSame_list (l l2 : Bool) (t t2 : ByteArray) (a a2 : Option Addr) (n n2 cp cp2 : Nat) (hn : n ≤ 9223372036854775807) (hn2 : n2 ≤ 9223372036854775807) (w : World) (r : Nat → Bool)
    (hK : n = n2 → ∀ j, j < n → ∃ l t u l2 t2 u2, Kid w w.heap.size a j l t u ∧ Kid w w.heap.size a2 j l2 t2 u2 ∧ ∀ w', Below w.heap.size w w' → Calls Try.prog 25 #[itV l t u, itV l2 t2 u2] w' fun f w'' => f = .returned (.bool (r j)) ∧ Below w'.heap.size w' w'') :
    Calls Try.prog 25 #[itV l t (.slice a n cp), itV l2 t2 (.slice a2 n2 cp2)] w fun f w' => f = .returned (.bool (decide (l = l2) && (decide (t = t2) && (decide (n = n2) && (List.range n).all r)))) ∧ Below w.heap.size w w' := by
  obtain ⟨W, hW, hb, hx, hy⟩ := boxes1r w 26 26 #[.bool l, .string t, .slice a n cp] #[.bool l2, .string t2, .slice a2 n2 cp2]
  have q0 := hx.cell 0
  have q1 := hx.cell 1
  have q2 := hx.cell 2
  have r0 := hy.cell 0
  have r1 := hy.cell 1
  have r2 := hy.cell 2
  unfold itV
  by_cases h1 : l = l2
  · subst h1
    by_cases h2 : t = t2
    · subst h2
      by_cases h3 : n = n2
      · subst h3
        have HK : Hid (∀ j, j < n → ∃ l t u l2 t2 u2, Kid w w.heap.size a j l t u ∧ Kid w w.heap.size a2 j l2 t2 u2 ∧ ∀ w', Below w.heap.size w w' → Calls Try.prog 25 #[itV l t u, itV l2 t2 u2] w' fun f w'' => f = .returned (.bool (r j)) ∧ Below w'.heap.size w' w'') := hK rfl
        have HE : Hid ((decide (l = l) && (decide (t = t) && (decide (n = n) && (List.range n).all r))) = (List.range n).all r) := by show _ = _; simp
        generalize (decide (l = l) && (decide (t = t) && (decide (n = n) && (List.range n).all r))) = R at HE ⊢
        have H0 : Hid ((List.range 0).all r = true ∧ Below w.heap.size w W ∧ Blk W w.heap.size 26 #[.bool l, .string t, .slice a n cp] ∧ Blk W (w.heap.size + 1) 26 #[.bool l, .string t, .slice a2 n cp2]) := ⟨by simp, hb, hx, hy⟩
        clear hb hx hy hK
        go_enter Try.func25, Try.ntmps25
        go_wp2
        clear hW q0 q1 q2 r0 r1 r2
        go_loopw [5] (fun i wr => ∃ k : Nat, i = .int .i64 (k : Int) ∧ k ≤ n ∧ Hid ((List.range k).all r = true ∧ Below w.heap.size w wr ∧ Blk wr w.heap.size 26 #[.bool l, .string t, .slice a n cp] ∧ Blk wr (w.heap.size + 1) 26 #[.bool l, .string t, .slice a2 n cp2])) (fun i _ => n - (intOf i).toNat)
        case atStart => exact ⟨0, rfl, Nat.zero_le _, H0⟩
        case round =>
          obtain ⟨k, rfl, hk, HD⟩ := hrel
          clear H0
          have hx := HD.out.2.2.1
          have hy := HD.out.2.2.2
          have hB0 := HD.out.2.1
          have q2 := hx.cell 2
          by_cases hlt : k < n
          · have hlt' : (k : Int) < (n : Int) := by omega
            have hk0 : (0 : Int) ≤ (k : Int) := by omega
            have hws : w.heap.size ≤ wr.heap.size := hB0.size
            obtain ⟨l1, t1, u1, l2, t2, u2, hK1, hK2, hCk⟩ := HK.out k hlt
            obtain ⟨b, off, rfl, hb, z0, z1, z2⟩ := hK1.on hB0
            obtain ⟨b2, off2, rfl, hb2, y0, y1, y2⟩ := hK2.on hB0
            have Z0 : ∀ w', Below wr.heap.size wr w' → w'.cell? ⟨b, off + k * 3, none⟩ = some (.bool l1) := fun w' hw => (hw.cell (p := ⟨b, off + k * 3, none⟩) (by show b < _; omega)).trans z0
            have Z1 : ∀ w', Below wr.heap.size wr w' → w'.cell? ⟨b, off + k * 3 + 1, none⟩ = some (.string t1) := fun w' hw => (hw.cell (p := ⟨b, off + k * 3 + 1, none⟩) (by show b < _; omega)).trans z1
            have Z2 : ∀ w', Below wr.heap.size wr w' → w'.cell? ⟨b, off + k * 3 + 2, none⟩ = some u1 := fun w' hw => (hw.cell (p := ⟨b, off + k * 3 + 2, none⟩) (by show b < _; omega)).trans z2
            have Y0 : ∀ w', Below wr.heap.size wr w' → w'.cell? ⟨b2, off2 + k * 3, none⟩ = some (.bool l2) := fun w' hw => (hw.cell (p := ⟨b2, off2 + k * 3, none⟩) (by show b2 < _; omega)).trans y0
            have Y1 : ∀ w', Below wr.heap.size wr w' → w'.cell? ⟨b2, off2 + k * 3 + 1, none⟩ = some (.string t2) := fun w' hw => (hw.cell (p := ⟨b2, off2 + k * 3 + 1, none⟩) (by show b2 < _; omega)).trans y1
            have Y2 : ∀ w', Below wr.heap.size wr w' → w'.cell? ⟨b2, off2 + k * 3 + 2, none⟩ = some u2 := fun w' hw => (hw.cell (p := ⟨b2, off2 + k * 3 + 2, none⟩) (by show b2 < _; omega)).trans y2
            have HC : Hid (∀ w', Below wr.heap.size wr w' → Calls Try.prog 25 #[.agg #[.bool l1, .string t1, u1], .agg #[.bool l2, .string t2, u2]] w' fun f w'' => f = .returned (.bool (r k)) ∧ Below w'.heap.size w' w'') := fun w' hw => hCk w' (hB0.trans (hw.mono hws))
            have HR : Hid ((List.range (k + 1)).all r = r k) := by
              show _ = _
              rw [List.range_succ, List.all_append, HD.out.1]
              simp
            have HRF : Hid (r k = false → (List.range n).all r = false) := fun hf => List.all_eq_false.2 ⟨k, List.mem_range.2 hlt, by simp [hf]⟩
            clear HK hK1 hK2 hCk z0 z1 z2 y0 y1 y2 hb hb2 HD
            generalize r k = rk at HC HR HRF
            cases rk
            · have HF : Hid ((List.range n).all r = false) := HRF.out rfl
              clear HRF HR
              go_wp2_with fail
              refine wp_region_class 11 (fun wz => Below wr.heap.size wr wz) mixes (by kernel_rfl) (Below.refl _ _).drew ?_
              simp only [List.take_succ_cons, List.take_zero, List.drop_succ_cons, List.drop_zero]
              repeat (refine cls_step rfl (fun K hK => ⟨_, (fun w' hw => by have q0 := (hx.on hw hx.lt).cell 0; have q1 := (hx.on hw hx.lt).cell 1; have q2 := (hx.on hw hx.lt).cell 2; have q3 := (hy.on hw hy.lt).cell 0; have q4 := (hy.on hw hy.lt).cell 1; have q5 := (hy.on hw hy.lt).cell 2; have z0 := Z0 w' hw; have z1 := Z1 w' hw; have z2 := Z2 w' hw; have z3 := Y0 w' hw; have z4 := Y1 w' hw; have z5 := Y2 w' hw; go_simp; exact rfl), ?_⟩); go_simp; refine hK _ ?_; clear hK K)
              refine cls_call rfl (fun K hK => ⟨_, _, _, (fun w' => by go_simp <;> first | exact rfl | exact ⟨rfl, rfl⟩), (fun w' hw => calls_below hw (HC.out _ hw)), ?_⟩); go_simp; refine hK _ ?_; clear hK K
              refine wq_nil ?_
              intro w' hw
              have hB2 := hB0.trans (hw.mono hws)
              clear hw hx hy q2 Z0 Z1 Z2 Y0 Y1 Y2 HC
              go_wp2
              go_ret
              exact ⟨by rw [HE.out, HF.out]; rfl, hB2⟩
            · clear HRF
              go_wp2_with fail
              refine wp_region_class 11 (fun wz => Below wr.heap.size wr wz) mixes (by kernel_rfl) (Below.refl _ _).drew ?_
              simp only [List.take_succ_cons, List.take_zero, List.drop_succ_cons, List.drop_zero]
              repeat (refine cls_step rfl (fun K hK => ⟨_, (fun w' hw => by have q0 := (hx.on hw hx.lt).cell 0; have q1 := (hx.on hw hx.lt).cell 1; have q2 := (hx.on hw hx.lt).cell 2; have q3 := (hy.on hw hy.lt).cell 0; have q4 := (hy.on hw hy.lt).cell 1; have q5 := (hy.on hw hy.lt).cell 2; have z0 := Z0 w' hw; have z1 := Z1 w' hw; have z2 := Z2 w' hw; have z3 := Y0 w' hw; have z4 := Y1 w' hw; have z5 := Y2 w' hw; go_simp; exact rfl), ?_⟩); go_simp; refine hK _ ?_; clear hK K)
              refine cls_call rfl (fun K hK => ⟨_, _, _, (fun w' => by go_simp <;> first | exact rfl | exact ⟨rfl, rfl⟩), (fun w' hw => calls_below hw (HC.out _ hw)), ?_⟩); go_simp; refine hK _ ?_; clear hK K
              refine wq_nil ?_
              intro w' hw
              have HD2 : Hid ((List.range (k + 1)).all r = true ∧ Below w.heap.size w w' ∧ Blk w' w.heap.size 26 #[.bool l, .string t, .slice (some ⟨b, off, none⟩) n cp] ∧ Blk w' (w.heap.size + 1) 26 #[.bool l, .string t, .slice (some ⟨b2, off2, none⟩) n cp2]) := ⟨HR.out, hB0.trans (hw.mono hws), hx.on hw hx.lt, hy.on hw hy.lt⟩
              clear hw hx hy q2 Z0 Z1 Z2 Y0 Y1 Y2 HC
              go_wp2
              exact ⟨⟨k + 1, by go_num, hlt, HD2⟩, by simp [intOf]; omega⟩
          · obtain rfl : k = n := by omega
            have HF := HD.out.1
            clear HD hx hy
            go_wp2
            go_ret
            exact ⟨by rw [HE.out, HF]; rfl, hB0⟩
      · have HE : Hid ((decide (l = l) && (decide (t = t) && (decide (n = n2) && (List.range n).all r))) = false) := by show _ = _; simp [h3]
        generalize (decide (l = l) && (decide (t = t) && (decide (n = n2) && (List.range n).all r))) = R at HE ⊢
        have h3' : ((n : Int) == (n2 : Int)) = false := by rw [beq_eq_false_iff_ne]; omega
        clear hK
        go_enter Try.func25, Try.ntmps25
        go_wp2
        go_ret
        exact ⟨by rw [HE.out]; rfl, hb⟩
    · have HE : Hid ((decide (l = l) && (decide (t = t2) && (decide (n = n2) && (List.range n).all r))) = false) := by show _ = _; simp [h2]
      generalize (decide (l = l) && (decide (t = t2) && (decide (n = n2) && (List.range n).all r))) = R at HE ⊢
      have h2' : (t.toList == t2.toList) = false := by rw [beq_eq_false_iff_ne]; exact fun h => h2 (same_bytes h)
      clear hK
      go_enter Try.func25, Try.ntmps25
      go_wp2
      go_ret
      exact ⟨by rw [HE.out]; rfl, hb⟩
  · have HE : Hid ((decide (l = l2) && (decide (t = t2) && (decide (n = n2) && (List.range n).all r))) = false) := by show _ = _; simp [h1]
    generalize (decide (l = l2) && (decide (t = t2) && (decide (n = n2) && (List.range n).all r))) = R at HE ⊢
    clear hK
    cases l <;> cases l2
    · exact absurd rfl h1
    · go_enter Try.func25, Try.ntmps25
      go_wp2
      go_ret
      exact ⟨by rw [HE.out]; rfl, hb⟩
    · go_enter Try.func25, Try.ntmps25
      go_wp2
      go_ret
      exact ⟨by rw [HE.out]; rfl, hb⟩
    · exact absurd rfl h1

theorem same_end {α β : Type} (p : α × β → Bool) (K : List α) (L : List β) (b c : Bool) : (b && (c && (decide (K.length = L.length) && (List.range K.length).all fun j => ((K.zip L)[j]?.map p).getD true))) = (b && (c && (decide (K.length = L.length) && (K.zip L).all p))) := by
  by_cases h : K.length = L.length
  · have h1 : K.length = (K.zip L).length := by rw [List.length_zip]; omega
    rw [decide_eq_true h, Bool.true_and, Bool.true_and]
    conv => lhs; rw [h1]
    rw [all_range]
  · rw [decide_eq_false h]
    simp

/-- Whether two items are the same. -/
theorem sSame_any : ∀ (d e : Nat) (x : It (d + 1)) (y : It (e + 1)) (v u : Value) (w : World), KAt d w w.heap.size v (itK x) → KAt e w w.heap.size u (itK y) →
    Calls Try.prog 25 #[itV (itL x) (itT x) v, itV (itL y) (itT y) u] w fun f w' => f = .returned (.bool (sameD (d + 1) (e + 1) x y)) ∧ Below w.heap.size w w'
  | 0, e, x, y, v, u, w, hK, hL => by
    have hL2 : ∃ a cp, u = .slice a (itK y).length cp ∧ (itK y).length ≤ 9223372036854775807 := by
      cases e with
      | zero => exact hL
      | succ e => obtain ⟨a, cp, h1, h2, _⟩ := hL; exact ⟨a, cp, h1, h2⟩
    obtain ⟨a, cp, rfl, hn⟩ := hK
    obtain ⟨a2, cp2, rfl, hn2⟩ := hL2
    have h1 := sSame_list (itL x) (itL y) (itT x) (itT y) a a2 (itK x).length (itK y).length cp cp2 hn hn2 w (fun j => (((itK x).zip (itK y))[j]?.map (fun p => sameD 0 e p.1 p.2)).getD true) (fun _ j hj => by
      have h0 := no_kids (itK x)
      rw [h0] at hj
      exact absurd hj (Nat.not_lt_zero _))
    rw [same_end] at h1
    rw [sameD]
    exact h1
  | d + 1, 0, x, y, v, u, w, hK, hL => by
    obtain ⟨a, cp, rfl, hn, hk⟩ := hK
    obtain ⟨a2, cp2, rfl, hn2⟩ := hL
    have h1 := sSame_list (itL x) (itL y) (itT x) (itT y) a a2 (itK x).length (itK y).length cp cp2 hn hn2 w (fun j => (((itK x).zip (itK y))[j]?.map (fun p => sameD (d + 1) 0 p.1 p.2)).getD true) (fun hq j hj => by
      have h0 := no_kids (itK y)
      rw [h0] at hq
      rw [hq] at hj
      exact absurd hj (Nat.not_lt_zero _))
    rw [same_end] at h1
    rw [sameD]
    exact h1
  | d + 1, e + 1, x, y, v, u, w, hK, hL => by
    obtain ⟨a, cp, rfl, hn, hk⟩ := hK
    obtain ⟨a2, cp2, rfl, hn2, hl⟩ := hL
    have h1 := sSame_list (itL x) (itL y) (itT x) (itT y) a a2 (itK x).length (itK y).length cp cp2 hn hn2 w (fun j => (((itK x).zip (itK y))[j]?.map (fun p => sameD (d + 1) (e + 1) p.1 p.2)).getD true) (fun hq j hj => by
      have hj2 : j < (itK y).length := hq ▸ hj
      obtain ⟨u1, h2, _, h4⟩ := hk j hj
      obtain ⟨u2, h5, _, h6⟩ := hl j hj2
      refine ⟨_, _, u1, _, _, u2, h2, h5, fun w' hb => ?_⟩
      have hz : ((itK x).zip (itK y))[j]? = some ((itK x)[j], (itK y)[j]) := by
        rw [List.getElem?_eq_getElem (by rw [List.length_zip]; omega), List.getElem_zip]
      rw [hz]
      exact sSame_any d e _ _ u1 u2 w' ((h4.on hb).wide hb.size) ((h6.on hb).wide hb.size))
    rw [same_end] at h1
    rw [sameD]
    exact h1

end Go.Proofs.Ytmpjnabadplbjaa
