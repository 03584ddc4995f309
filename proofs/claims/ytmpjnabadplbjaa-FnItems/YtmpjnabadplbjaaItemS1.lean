/-
  The walk of the specification's l17Deep.
  (-DROP-: what the seat lacks is left out.)
-/
import Derived.Test.YtmpjnabadplbjaaJoined3
namespace Go.Proofs.Ytmpjnabadplbjaa
open Go.RowKit

theorem no_bytes {t : ByteArray} (h : t.toList = []) : t = ⟨#[]⟩ := by
  rw [ByteArray.toList_eq] at h
  obtain ⟨d⟩ := t
  obtain ⟨l⟩ := d
  have e' : l = [] := h
  subst e'
  rfl

theorem all_range {α : Type} (p : α → Bool) : ∀ l : List α, ((List.range l.length).all fun j => (l[j]?.map p).getD true) = l.all p
  | [] => rfl
  | x :: t => by
    rw [List.length_cons, List.range_succ_eq_map, List.all_cons, List.all_map, List.all_cons, ← all_range p t]
    rfl

set_option maxHeartbeats 1600000 in
set_option maxRecDepth 100000 in
theorem sDeep_leaf (t : ByteArray) (a : Option Addr) (n cp : Nat) (hn : n ≤ 9223372036854775807) (ht : t.size ≤ 9223372036854775807) (e : Nat) (w : World) :
    Calls Try.prog 47 #[itV false t (.slice a n cp), .int .i64 (e : Int)] w fun f w' => f = .returned (.bool (decide (n = 0) && decide (t.size ≤ 600))) ∧ Below w.heap.size w w' := by
  obtain ⟨W, hW, hb, hx⟩ := box1 w 26 #[.bool false, .string t, .slice a n cp]
  have q0 := hx.cell 0
  have q1 := hx.cell 1
  have q2 := hx.cell 2
  have HB : Hid (Below w.heap.size w W) := hb
  unfold itV
  clear hb hx
  by_cases h0 : n = 0
  · subst h0
    have HE : Hid (decide ((t.size : Int) ≤ 600) = decide (t.size ≤ 600)) := decide_eq_decide.2 (by omega)
    go_enter Try.func47, Try.ntmps47
    go_wp2
    go_ret
    exact ⟨by rw [← HE.out]; rfl, HB.out⟩
  · have HE : Hid (decide (n = 0) = false) := decide_eq_false h0
    go_enter Try.func47, Try.ntmps47
    go_wp2
    go_ret
    exact ⟨by rw [HE.out]; rfl, HB.out⟩

set_option maxHeartbeats 1600000 in
set_option maxRecDepth 100000 in
theorem sDeep_list (t : ByteArray) (a : Option Addr) (n cp : Nat) (hn : n ≤ 9223372036854775807) (ht : t.size ≤ 9223372036854775807) (e : Nat) (he : e ≤ 4) (w : World) (r : Nat → Bool)
    (hK : ∀ j, j < n → ∃ l t u, Kid w w.heap.size a j l t u ∧ (e < 4 → ∀ w', Below w.heap.size w w' → Calls Try.prog 47 #[itV l t u, .int .i64 (((e + 1 : Nat) : Int))] w' fun f w'' => f = .returned (.bool (r j)) ∧ Below w'.heap.size w' w'')) :
    Calls Try.prog 47 #[itV true t (.slice a n cp), .int .i64 (e : Int)] w fun f w' => f = .returned (.bool (decide (t = ⟨#[]⟩) && (decide (n ≤ 17) && (decide (e < 4) && (List.range n).all r)))) ∧ Below w.heap.size w w' := by
  obtain ⟨W, hW, hb, hx⟩ := box1 w 26 #[.bool true, .string t, .slice a n cp]
  have q0 := hx.cell 0
  have q1 := hx.cell 1
  have q2 := hx.cell 2
  have HB : Hid (Below w.heap.size w W) := hb
  have HX : Hid (Blk W w.heap.size 26 #[.bool true, .string t, .slice a n cp]) := hx
  have HK : Hid (∀ j, j < n → ∃ l t u, Kid w w.heap.size a j l t u ∧ (e < 4 → ∀ w', Below w.heap.size w w' → Calls Try.prog 47 #[itV l t u, .int .i64 (((e + 1 : Nat) : Int))] w' fun f w'' => f = .returned (.bool (r j)) ∧ Below w'.heap.size w' w'')) := hK
  unfold itV
  clear hb hx hK
  by_cases h0 : t = ⟨#[]⟩
  · subst h0
    by_cases h1 : n ≤ 17
    · have h1' : ¬ 17 < n := by omega
      by_cases h2 : e < 4
      · have h2' : ¬ 4 ≤ e := by omega
        go_enter Try.func47, Try.ntmps47
        go_wp2
        have H1 : Hid (decide (n ≤ 17) = true) := decide_eq_true h1
        have H2 : Hid (decide (e < 4) = true) := decide_eq_true h2
        have H0 : Hid ((List.range 0).all r = true ∧ Below w.heap.size w W ∧ Blk W w.heap.size 26 #[.bool true, .string ⟨#[]⟩, .slice a n cp]) := ⟨by simp, HB.out, HX.out⟩
        have H4 : Hid (e < 4) := h2
        clear hW q0 q1 q2 HB HX ht
        go_loopw [5] (fun i wr => ∃ k : Nat, i = .int .i64 (k : Int) ∧ k ≤ n ∧ Hid ((List.range k).all r = true ∧ Below w.heap.size w wr ∧ Blk wr w.heap.size 26 #[.bool true, .string ⟨#[]⟩, .slice a n cp])) (fun i _ => n - (intOf i).toNat)
        case atStart => exact ⟨0, rfl, Nat.zero_le _, H0⟩
        case round =>
          obtain ⟨k, rfl, hk, HD⟩ := hrel
          clear H0
          have hx := HD.out.2.2
          have q2 := hx.cell 2
          by_cases hlt : k < n
          · have hlt' : (k : Int) < (n : Int) := by omega
            have hk0 : (0 : Int) ≤ (k : Int) := by omega
            have hB0 := HD.out.2.1
            obtain ⟨l, t, u, hKd, hCk⟩ := HK.out k hlt
            obtain ⟨b, off, rfl, hb, z0, z1, z2⟩ := hKd.on hB0
            have HCk := hCk H4.out wr hB0
            clear hKd hCk
            have HR : Hid ((List.range (k + 1)).all r = r k) := by
              show _ = _
              rw [List.range_succ, List.all_append, HD.out.1]
              simp
            have HRF : Hid (r k = false → (List.range n).all r = false) := fun hf => List.all_eq_false.2 ⟨k, List.mem_range.2 hlt, by simp [hf]⟩
            unfold itV at HCk
            have HCk' : Hid (Calls Try.prog 47 #[.agg #[.bool l, .string t, u], .int .i64 (((e + 1 : Nat) : Int))] wr fun f w'' => f = .returned (.bool (r k)) ∧ Below wr.heap.size wr w'') := HCk
            have he1 : (e : Int) + 1 = ((e + 1 : Nat) : Int) := by omega
            have hwe : wrap64 ((e : Int) + 1) = ((e + 1 : Nat) : Int) := by rw [IntWalk.wrap64_in _ (by omega)]; omega
            clear HCk
            generalize ((e + 1 : Nat) : Int) = e1 at HCk' he1 hwe
            generalize r k = rk at HCk' HR HRF
            cases rk
            · have HF : Hid ((List.range n).all r = false) := HRF.out rfl
              clear HRF HR
              go_wp2_with fail
              refine HCk'.out.mono ?_
              rintro f w2 ⟨rfl, hb2⟩
              have hB2 := below_then hB0 hb2
              clear hx q2 z0 z1 z2 HD
              go_wp2
              go_ret
              exact ⟨by rw [HF.out]; simp, hB2⟩
            · clear HRF
              go_wp2_with fail
              refine HCk'.out.mono ?_
              rintro f w2 ⟨rfl, hb2⟩
              have HD2 : Hid ((List.range (k + 1)).all r = true ∧ Below w.heap.size w w2 ∧ Blk w2 w.heap.size 26 #[.bool true, .string ⟨#[]⟩, .slice (some ⟨b, off, none⟩) n cp]) := ⟨HR.out, below_then hB0 hb2, hx.on hb2 hx.lt⟩
              clear hx q2 z0 z1 z2 HD
              go_wp2
              exact ⟨⟨k + 1, by go_num, hlt, HD2⟩, by simp [intOf]; omega⟩
          · obtain rfl : k = n := by omega
            have HF := HD.out.1
            have hB0 := HD.out.2.1
            clear HD hx
            go_wp2
            go_ret
            exact ⟨by rw [HF, H1.out, H2.out]; rfl, hB0⟩
      · have h2' : 4 ≤ e := by omega
        go_enter Try.func47, Try.ntmps47
        go_wp2
        go_ret
        exact ⟨by simp [h2], HB.out⟩
    · have h1' : 17 < n := by omega
      go_enter Try.func47, Try.ntmps47
      go_wp2
      go_ret
      exact ⟨by simp, HB.out⟩
  · have h0' : ¬ t.toList = [] := fun h => h0 (no_bytes h)
    go_enter Try.func47, Try.ntmps47
    go_wp2
    go_ret
    exact ⟨by simp [h0], HB.out⟩

/-- How deep an item is; more than four: it is not right. -/
theorem sDeep_any : ∀ (d e : Nat), e ≤ 4 → ∀ (x : It (d + 1)) (v : Value) (w : World), (itT x).size ≤ 9223372036854775807 → KAt d w w.heap.size v (itK x) →
    Calls Try.prog 47 #[itV (itL x) (itT x) v, .int .i64 (e : Int)] w fun f w' => f = .returned (.bool (okD (d + 1) e x)) ∧ Below w.heap.size w w'
  | 0, e, he, x, v, w, ht, hK => by
    obtain ⟨a, cp, rfl, hn⟩ := hK
    have h0 := no_kids (itK x)
    rw [okD]
    cases h : itL x
    · exact sDeep_leaf _ _ _ _ hn ht e w
    · have h1 := sDeep_list (itT x) a (itK x).length cp hn ht e he w (fun _ => true) (fun j hj => by rw [h0] at hj; cases hj)
      rw [h0] at h1 ⊢
      exact h1
  | d + 1, e, he, x, v, w, ht, hK => by
    obtain ⟨a, cp, rfl, hn, hk⟩ := hK
    rw [okD]
    cases h : itL x
    · exact sDeep_leaf _ _ _ _ hn ht e w
    · have h1 := sDeep_list (itT x) a (itK x).length cp hn ht e he w (fun j => ((itK x)[j]?.map (okD (d + 1) (e + 1))).getD true) (fun j hj => by
        obtain ⟨u, h2, h3, h4⟩ := hk j hj
        refine ⟨_, _, u, h2, fun h5 w' hb => ?_⟩
        rw [List.getElem?_eq_getElem hj]
        exact sDeep_any d (e + 1) h5 _ u w' h3 ((h4.on hb).wide hb.size))
      rw [all_range] at h1
      exact h1

end Go.Proofs.Ytmpjnabadplbjaa
