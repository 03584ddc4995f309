/-
  Texts of one's own, joined.
-/
import Derived.Test.YtmpjnabadplbjaaJoined40
import Derived.Test.YtmpjnabadplbjaaItemD3
import Derived.Test.YtmpjnabadplbjaaSameI3
import Derived.Test.YtmpjnabadplbjaaItemS5
import Derived.Test.YtmpjnabadplbjaaCur
import Derived.OpenShut
import Derived.Test.YtmpjnabadplbjaaJoined1

/-
  What the law on items wants to know.
  (-DROP-: what the seat lacks is left out.)
-/
namespace Go.Proofs.Ytmpjnabadplbjaa
open Go.RowKit

theorem numT_four {n : Nat} (hn : n ≤ 1000000000) : (numT n).size ≤ 4 := by
  obtain ⟨h1, h2⟩ := numT_val (n := n) (by omega)
  have hl : (numT n).size = (numT n).data.toList.length := by rw [Array.length_toList]; rfl
  rw [hl]
  match h : (numT n).data.toList with
  | [] => exact Nat.zero_le _
  | b :: u =>
    rw [h] at h1 h2
    have h3 := valL_cons_pos (t := u) (b := b) h1
    by_cases h4 : u.length ≤ 3
    · rw [List.length_cons]; omega
    · exfalso
      have h5 : 256 ^ 4 ≤ 256 ^ u.length := Nat.pow_le_pow_right (by omega) (by omega)
      omega
theorem num_back {n : Nat} (hn : n ≤ 1000000000) : rdN (numT n) = (n, true) := by
  have h := (numT_val (n := n) (by omega)).2
  have h2 := numT_four hn
  unfold rdN
  rw [if_pos h2, h, if_pos rfl, if_pos hn]
theorem num_text {v : ByteArray} (h : (rdN v).2 = true) : numT (rdN v).1 = v := by
  unfold rdN at h ⊢
  split at h
  · split at h
    · split at h
      · rename_i h1 h2 h3
        rw [if_pos h1, if_pos h2, if_pos h3]
        exact h2
      · cases h
    · cases h
  · cases h
/-- What is written of a right item is read again, as the same. -/
theorem item_back {d : Nat} {x : It (d + 1)} (h : (textI x).2 = true) : (readF (textI x).1).isSome = true ∧ sameD (d + 1) (900 + 1) x (yF (textI x).1) = true := by
  obtain ⟨y, h1, h2⟩ := readF_back (x := x) (t := (textI x).1) (by rw [← h])
  unfold yF
  rw [h1]
  exact ⟨rfl, h2⟩
theorem item_again {u : ByteArray} (h : (readF u).isSome = true) : (textI (yF u)).1 = u := by
  unfold yF
  cases hr : readF u with
  | none => rw [hr] at h; cases h
  | some y =>
    have h1 := readF_is hr
    show (textI y).1 = u
    rw [h1]

theorem okD_txt {d : Nat} (x : It (d + 1)) {e : Nat} (h : okD (d + 1) e x = true) : (itT x).size ≤ 600 := by
  rw [okD] at h
  by_cases hl : itL x = true
  · rw [if_pos hl] at h
    simp only [Bool.and_eq_true, decide_eq_true_eq] at h
    rw [h.1]
    exact Nat.zero_le _
  · rw [if_neg hl] at h
    simp only [Bool.and_eq_true, decide_eq_true_eq] at h
    exact h.2
theorem yF_txt (t : ByteArray) : (itT (yF t)).size ≤ 9223372036854775807 := by
  have := okD_txt (yF t) (yF_ok t)
  omega
theorem numL_len : ∀ (f n : Nat) (s : List UInt8), (numL f n s).length ≤ f + s.length
  | 0, _, s => by rw [numL]; omega
  | f + 1, n, s => by
    rw [numL]
    split
    · omega
    · have := numL_len f (n / 256) (UInt8.ofNat (n % 256) :: s)
      rw [List.length_cons] at this
      omega
theorem numT_sz (n : Nat) (_hn : n ≤ 9223372036854775807) : (numT n).size ≤ 9223372036854775807 := by
  have h1 : numT n = ⟨(numL 8 n []).toArray⟩ := numT_list n
  have h2 := numL_len 8 n []
  rw [h1]
  show (numL 8 n []).toArray.size ≤ _
  simp at h2 ⊢
  omega

end Go.Proofs.Ytmpjnabadplbjaa

/-
  What an argument of bytes is to the walk.
-/
namespace Go.Proofs.Ytmpjnabadplbjaa
open Go.RowKit Go.ChangeShapes Go.WideShapes

theorem argAt_of {W : World} {x : Addr} {zs : List Int} {len cap : Nat} (hl : len ≤ cap) (hz : zs.length = cap) (hcell : ∀ i, i < zs.length → W.cell? (x.add i) = some (.int .u8 (zs.getD i 0))) (hwz : ∀ n ∈ zs, (Lit.int .u8 n).wf = true) : ArgAt W (some x) len W.heap.size := by
  intro j hj
  obtain ⟨b, off, spot⟩ := x
  have hspot : spot = none := by simpa [Addr.add] using World.cell?_spot (hcell 0 (by omega))
  subst hspot
  have hc := hcell j (by omega)
  have hc0 : W.cell? ⟨b, off + j, none⟩ = some (.int .u8 (zs.getD j 0)) := by rw [← Addr.add_lit]; exact hc
  have hlt := World.block_lt_of_cell? W _ hc0
  have hb := bounds_u8 (hwz (zs.getD j 0) (by rw [List.getD_eq_getElem?_getD, List.getElem?_eq_getElem (by omega)]; simp))
  exact ⟨b, off, _, rfl, hlt, hc0, hb.1, hb.2⟩


end Go.Proofs.Ytmpjnabadplbjaa

/-
  The steps of the law of a class where operations are guarded.
-/
namespace Go.Proofs.Ytmpjnabadplbjaa

section
variable {P : Program} {ops : Array Oper} {C : World → Prop}

theorem cls_stepG {R : Act → Prop} {a : Act} {o : Oper} {rest : List Oper} (hg : Region.wanted o (yielded ops a.tmps) = true)
    (h : ∀ K : Act → Prop, (∀ a, WQ P ops C R rest a → K a) → ∃ v, (∀ w, C w → (execOp a.eval o).run P w = .ok (.value v) w) ∧ K (a.put o.dst v)) : WQ P ops C R (o :: rest) a := by
  refine ⟨wpQuiet_step fun K hK => ?_⟩
  rw [if_pos hg]
  obtain ⟨v, h1, h2⟩ := h K fun a ha => hK a ha.out
  exact ⟨v, fun w hw => by unfold Oper.quietAt; rw [h1 w hw]; exact ⟨rfl, rfl⟩, h2⟩

theorem cls_callG {R : Act → Prop} {a : Act} {o : Oper} {rest : List Oper} (hg : Region.wanted o (yielded ops a.tmps) = true)
    (h : ∀ K : Act → Prop, (∀ a, WQ P ops C R rest a → K a) → ∃ f args v, (∀ w, (execOp a.eval o).run P w = .ok (.enter f args) w) ∧ (∀ w, C w → Calls P f args w fun e w' => e = .returned v ∧ C w') ∧ K (a.put o.dst v)) : WQ P ops C R (o :: rest) a := by
  refine ⟨wpQuiet_step fun K hK => ?_⟩
  rw [if_pos hg]
  obtain ⟨f, args, v, h1, h2, h3⟩ := h K fun a ha => hK a ha.out
  exact ⟨v, fun w hw => by unfold Oper.quietAt; rw [h1 w]; exact ⟨rfl, h2 w hw⟩, h3⟩

/-- One that is passed over. -/
theorem cls_skip {R : Act → Prop} {a : Act} {o : Oper} {rest : List Oper} (hg : Region.wanted o (yielded ops a.tmps) = false)
    (h : ∀ K : Act → Prop, (∀ a, WQ P ops C R rest a → K a) → K (a.put o.dst undef)) : WQ P ops C R (o :: rest) a := by
  refine ⟨wpQuiet_step fun K hK => ?_⟩
  rw [if_neg (by rw [hg]; exact Bool.false_ne_true)]
  exact h K fun a ha => hK a ha.out

end
end Go.Proofs.Ytmpjnabadplbjaa

/-
  The law of a class: where operations hang on a test that is not known, the cases are walked one by one and meet again behind them
  (the slots that the cases leave apart hold whatever they hold).
-/
namespace Go.Proofs.Ytmpjnabadplbjaa

section
variable {P : Program} {ops : Array Oper} {C : World → Prop}

/-- Values in n slots, one behind the other. -/
def putN (a : Act) (d : Nat) (u : Nat → Value) : Nat → Act
  | 0 => a
  | n + 1 => (putN a d u n).put (some (d + n)) (u n)

theorem wpQuiet_seq {M R : Act → Prop} {l2 : List Oper} (h2 : ∀ a', M a' → wpQuiet P ops C R l2 a') : ∀ (l1 : List Oper) (a : Act), wpQuiet P ops C M l1 a → wpQuiet P ops C R (l1 ++ l2) a
  | [], a, h => h2 a h
  | o :: l, a, h => by
    show (if Region.wanted o (yielded ops a.tmps) then o.quiet P a C (wpQuiet P ops C R (l ++ l2)) else wpQuiet P ops C R (l ++ l2) (a.put o.dst undef))
    have h' : (if Region.wanted o (yielded ops a.tmps) then o.quiet P a C (wpQuiet P ops C M l) else wpQuiet P ops C M l (a.put o.dst undef)) := h
    split at h'
    · rename_i hg
      rw [if_pos hg]
      exact Oper.quiet_mono (fun b hb => wpQuiet_seq h2 l b hb) h'
    · rename_i hg
      rw [if_neg hg]
      exact wpQuiet_seq h2 l _ h'

/-- n operations whose values in k slots from d on are not told behind them, but that of e. -/
theorem wq_join {R : Act → Prop} {a : Act} {l : List Oper} (n d k e : Nat) (v : Value)
    (h1 : WQ P ops C (fun a' => ∃ u : Nat → Value, a' = (putN a d u k).put (some e) v) (l.take n) a)
    (h2 : ∀ u : Nat → Value, ∀ K : Act → Prop, (∀ a, WQ P ops C R (l.drop n) a → K a) → K ((putN a d u k).put (some e) v)) : WQ P ops C R l a := by
  refine ⟨?_⟩
  rw [← List.take_append_drop n l]
  refine wpQuiet_seq (M := fun a' => ∃ u : Nat → Value, a' = (putN a d u k).put (some e) v) ?_ _ _ h1.out
  rintro a' ⟨u, rfl⟩
  exact (h2 u (fun a => WQ P ops C R (l.drop n) a) fun _ h => h).out

end
end Go.Proofs.Ytmpjnabadplbjaa
