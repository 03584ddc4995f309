/-
  What the program's SameItem keeps while it looks at pairs.
  (-DROP-: what the seat lacks is left out.)
-/
import Derived.Test.YtmpjnabadplbjaaSamePure
import Derived.Test.YtmpjnabadplbjaaJoined11
namespace Go.Proofs.Ytmpjnabadplbjaa
open Go.RowKit

/-- The cells of a list of pairs. -/
def opV (o : List ((Addr × Addr) × Nat)) : List Value := o.flatMap fun e => [.pointer (some e.1.1), .pointer (some e.1.2)]
theorem opV_append (a b : List ((Addr × Addr) × Nat)) : opV (a ++ b) = opV a ++ opV b := by simp [opV]
theorem opV_size : ∀ (o : List ((Addr × Addr) × Nat)), (opV o).length = o.length * 2
  | [] => rfl
  | e :: o => by
    have h : opV (e :: o) = [.pointer (some e.1.1), .pointer (some e.1.2)] ++ opV o := rfl
    rw [h, List.length_append, opV_size o]
    simp
    omega
theorem own_shrink {w : World} {lo e size n m cap g : Nat} {xs : List Value} (h : w.ownsRow lo e size (.slice (some ⟨g, 0, none⟩) n cap) n xs) (hm : m ≤ n) : w.ownsRow lo e size (.slice (some ⟨g, 0, none⟩) m cap) m (xs.take (m * size)) := by
  have hle : m * size ≤ n * size := Nat.mul_le_mul_right _ hm
  refine ⟨by rw [List.length_take, h.1]; omega, ?_⟩
  rcases h.2 with ⟨h0, _⟩ | ⟨g1, cap1, cur, hv, hB, hg, hnc, hcp, hcs, htake⟩
  · cases h0
  · simp only [Value.slice.injEq, Option.some.injEq, Addr.mk.injEq, and_true, true_and] at hv
    obtain ⟨rfl, rfl⟩ := hv
    exact .inr ⟨g, cap, cur, rfl, hB, hg, by omega, hcp, hcs, by rw [← htake, List.take_take, Nat.min_eq_left hle]⟩

/-- What stands while pairs are looked at: what is open, what was met; X: pairs that are neither open nor done. -/
structure SmInv (c : Nat) (w1 : World) (R : Bool) (gM : Nat) (k0 : Addr × Addr) (op es : List ((Addr × Addr) × Nat)) (v : Value) (X : List (Addr × Addr)) (wr : World) : Prop where
  bel : Below c w1 wr
  row : wr.ownsRow c 77 2 v op.length (opV op)
  set : SetAt wr gM es
  low : c ≤ gM
  off : v.ownBlock ≠ some gM
  good : ∀ o, o ∈ op → Good w1 c R o.1 o.2
  keys : ∀ e, e ∈ es → PlainK w1 e.1 ∧ e.1.1.block < c ∧ e.1.2.block < c
  done : ∀ k, k ∈ k0 :: es.map (·.1) → k ∈ op.map (·.1) ∨ Done w1 (k0 :: es.map (·.1)) k ∨ k ∈ X

theorem SetAt.lt {w : World} {g : Nat} {es : List ((Addr × Addr) × Nat)} (h : SetAt w g es) : g < w.heap.size := by
  obtain ⟨_, h⟩ := h
  exact (Array.getElem?_eq_some_iff.1 h).1
theorem SmInv.step {c : Nat} {w1 : World} {R : Bool} {gM : Nat} {k0 : Addr × Addr} {op es : List ((Addr × Addr) × Nat)} {v : Value} {X : List (Addr × Addr)} {wr wr' : World} (h : SmInv c w1 R gM k0 op es v X wr) (hb : Below wr.heap.size wr wr') : SmInv c w1 R gM k0 op es v X wr' := by
  obtain ⟨cl, hs⟩ := h.set
  exact ⟨h.bel.trans (hb.mono (by have := h.low; have := h.set.lt; omega)), owns_on h.row hb, ⟨cl, (hb.block gM h.set.lt).trans hs⟩, h.low, h.off, h.good, h.keys, h.done⟩
theorem PlainK.on {w w' : World} {k : Addr × Addr} {c : Nat} (h : PlainK w k) (hb : Below c w w') (h1 : k.1.block < c) (h2 : k.2.block < c) : PlainK w' k := ⟨h.1.kept (hb.block _ h1), h.2.kept (hb.block _ h2)⟩
theorem SmInv.plain {c : Nat} {w1 : World} {R : Bool} {gM : Nat} {k0 : Addr × Addr} {op es : List ((Addr × Addr) × Nat)} {v : Value} {X : List (Addr × Addr)} {wr : World} (h : SmInv c w1 R gM k0 op es v X wr) : ∀ e, e ∈ es → PlainK wr e.1 := fun e he => (h.keys e he).1.on h.bel (h.keys e he).2.1 (h.keys e he).2.2
/-- The last open pair is taken. -/
theorem SmInv.pop {c : Nat} {w1 : World} {R : Bool} {gM : Nat} {k0 : Addr × Addr} {rest es : List ((Addr × Addr) × Nat)} {o : (Addr × Addr) × Nat} {g cap : Nat} {wr : World} (h : SmInv c w1 R gM k0 (rest ++ [o]) es (.slice (some ⟨g, 0, none⟩) (rest.length + 1) cap) [] wr) : SmInv c w1 R gM k0 rest es (.slice (some ⟨g, 0, none⟩) rest.length cap) [o.1] wr := by
  refine ⟨h.bel, ?_, h.set, h.low, h.off, fun q hq => h.good q (List.mem_append_left _ hq), h.keys, fun k hk => ?_⟩
  · have hr := h.row
    rw [List.length_append, List.length_singleton] at hr
    have h2 := own_shrink hr (m := rest.length) (by omega)
    rw [opV_append, List.take_append_of_le_length (by rw [opV_size]; omega), List.take_of_length_le (by rw [opV_size]; omega)] at h2
    exact h2
  · rcases h.done k hk with h1 | h1 | h1
    · rw [List.map_append, List.mem_append] at h1
      rcases h1 with h1 | h1
      · exact .inl h1
      · exact .inr (.inr (by simpa using h1))
    · exact .inr (.inl h1)
    · cases h1
/-- A pair is met. -/
theorem SmInv.insert {c : Nat} {w1 : World} {R : Bool} {gM : Nat} {k0 : Addr × Addr} {op es : List ((Addr × Addr) × Nat)} {v : Value} {X : List (Addr × Addr)} {wr wr' : World} (h : SmInv c w1 R gM k0 op es v X wr) (k : Addr × Addr) (cl : Nat) (hk : PlainK w1 k ∧ k.1.block < c ∧ k.2.block < c)
    (hs : SetAt wr' gM (es ++ [(k, cl)])) (hb : ∀ b, b ≠ gM → wr'.heap[b]? = wr.heap[b]?) (hz : wr'.heap.size = wr.heap.size) (ho : wr'.os = wr.os ∧ wr'.tape = wr.tape ∧ wr'.output = wr.output) : SmInv c w1 R gM k0 op (es ++ [(k, cl)]) v (k :: X) wr' := by
  have hlow := h.low
  refine ⟨⟨ho.1.trans h.bel.os, ho.2.1.trans h.bel.tape, ho.2.2.trans h.bel.output, by rw [hz]; exact h.bel.size, fun b hbc => (hb b (by omega)).trans (h.bel.block b hbc)⟩, ⟨h.row.1, ?_⟩, hs, h.low, h.off, h.good, fun e he => ?_, fun q hq => ?_⟩
  · rcases h.row.2 with h0 | ⟨g, cap, cur, hv, hB, hg, rest⟩
    · exact .inl h0
    · refine .inr ⟨g, cap, cur, hv, hB, (hb g fun e => h.off (by rw [hv, e]; rfl)).trans hg, rest⟩
  · rcases List.mem_append.1 he with he | he
    · exact h.keys e he
    · rw [List.mem_singleton] at he
      subst he
      exact hk
  · rw [List.map_append] at hq ⊢
    have hsub : ∀ r, r ∈ k0 :: es.map (·.1) → r ∈ k0 :: (es.map (·.1) ++ [(k, cl)].map (·.1)) := fun r hr => by
      rcases List.mem_cons.1 hr with hr | hr
      · exact List.mem_cons.2 (.inl hr)
      · exact List.mem_cons.2 (.inr (List.mem_append_left _ hr))
    have hq2 : q ∈ k0 :: es.map (·.1) ∨ q = k := by
      rcases List.mem_cons.1 hq with hq | hq
      · exact .inl (List.mem_cons.2 (.inl hq))
      · rcases List.mem_append.1 hq with hq | hq
        · exact .inl (List.mem_cons.2 (.inr hq))
        · exact .inr (by simpa using hq)
    rcases hq2 with hq2 | rfl
    · rcases h.done q hq2 with h1 | h1 | h1
      · exact .inl h1
      · exact .inr (.inl (h1.more hsub))
      · exact .inr (.inr (List.mem_cons_of_mem _ h1))
    · exact .inr (.inr List.mem_cons_self)
/-- It is open, too. -/
theorem SmInv.push {c : Nat} {w1 : World} {R : Bool} {gM : Nat} {k0 : Addr × Addr} {op es : List ((Addr × Addr) × Nat)} {v v' : Value} {X : List (Addr × Addr)} {wr wr' : World} {k : Addr × Addr} {s : Nat} (h : SmInv c w1 R gM k0 op es v (k :: X) wr) (hr : wr'.ownsRow c 77 2 v' (op.length + 1) (opV op ++ [.pointer (some k.1), .pointer (some k.2)]))
    (hg : wr.grownBy wr' v.ownBlock) (hv : v'.ownBlock = v.ownBlock ∨ v'.ownBlock = some wr.heap.size) (hk : Good w1 c R k s) : SmInv c w1 R gM k0 (op ++ [(k, s)]) es v' X wr' := by
  obtain ⟨cl, hs⟩ := h.set
  have hlt := h.set.lt
  refine ⟨h.bel.grown hg (by have := h.low; omega) (fun b hb => (h.row.lt b hb).1), ?_, ⟨cl, (hg.block gM hlt (fun e => h.off e.symm)).trans hs⟩, h.low, ?_, fun o ho => ?_, h.keys, fun q hq => ?_⟩
  · rw [List.length_append, opV_append]
    exact hr
  · rcases hv with e | e
    · rw [e]; exact h.off
    · rw [e]; intro e2; injection e2 with e2; omega
  · rcases List.mem_append.1 ho with ho | ho
    · exact h.good o ho
    · rw [List.mem_singleton] at ho
      subst ho
      exact hk
  · rw [List.map_append]
    rcases h.done q hq with h1 | h1 | h1
    · exact .inl (List.mem_append_left _ h1)
    · exact .inr (.inl h1)
    · rcases List.mem_cons.1 h1 with rfl | h1
      · exact .inl (List.mem_append_right _ (by simp))
      · exact .inr (.inr h1)
/-- The pair that was taken is done. -/
theorem SmInv.shut {c : Nat} {w1 : World} {R : Bool} {gM : Nat} {k0 : Addr × Addr} {op es : List ((Addr × Addr) × Nat)} {v : Value} {wr : World} {k : Addr × Addr} (h : SmInv c w1 R gM k0 op es v [k] wr) (hk : Done w1 (k0 :: es.map (·.1)) k) : SmInv c w1 R gM k0 op es v [] wr :=
  ⟨h.bel, h.row, h.set, h.low, h.off, h.good, h.keys, fun q hq => by
    rcases h.done q hq with h1 | h1 | h1
    · exact .inl h1
    · exact .inr (.inl h1)
    · rw [List.mem_singleton] at h1
      subst h1
      exact .inr (.inl hk)⟩

end Go.Proofs.Ytmpjnabadplbjaa
