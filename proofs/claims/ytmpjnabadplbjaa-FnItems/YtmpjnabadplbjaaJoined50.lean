/-
  Texts of one's own, joined.
-/
import Derived.Test.YtmpjnabadplbjaaSameI1
import Derived.Test.YtmpjnabadplbjaaItemMk
import Derived.Test.YtmpjnabadplbjaaJoined4
import Derived.Test.YtmpjnabadplbjaaJoined8

/-
  Pairs of places of items: what a set of pairs that are all alike says.
  (-DROP-: what the seat lacks is left out.)
-/
namespace Go.Proofs.Ytmpjnabadplbjaa
open Go.RowKit

/-- Kids in memory, in such blocks, that may be pointed to. -/
def KPt (S : Nat → Prop) : (d : Nat) → World → Value → List (It d) → Prop
  | 0, _, v, K => ∃ a cp, v = .slice a K.length cp ∧ K.length ≤ 9223372036854775807
  | d + 1, w, v, K => ∃ a cp, v = .slice a K.length cp ∧ K.length ≤ 9223372036854775807 ∧ ∀ (j : Nat) (h : j < K.length), ∃ b off u, a = some ⟨b, off, none⟩ ∧ S b ∧ Plain w b ∧ w.cell? ⟨b, off + j * 3, none⟩ = some (.bool (itL K[j])) ∧ w.cell? ⟨b, off + j * 3 + 1, none⟩ = some (.string (itT K[j])) ∧ w.cell? ⟨b, off + j * 3 + 2, none⟩ = some u ∧ (itT K[j]).size ≤ 9223372036854775807 ∧ KPt S d w u (itK K[j])
theorem KPt.more {S T : Nat → Prop} (hT : ∀ b, S b → T b) : ∀ {d : Nat} {w : World} {v : Value} {K : List (It d)}, KPt S d w v K → KPt T d w v K
  | 0, _, _, _, h => h
  | d + 1, _, _, _, ⟨a, cp, h1, h2, h3⟩ => ⟨a, cp, h1, h2, fun j hj => by
    obtain ⟨b, off, u, h4, h5, hp, h6, h7, h8, h9, h10⟩ := h3 j hj
    exact ⟨b, off, u, h4, hT b h5, hp, h6, h7, h8, h9, KPt.more hT h10⟩⟩
theorem Plain.kept {w w' : World} {b : Nat} (h : Plain w b) (hb : w'.heap[b]? = w.heap[b]?) : Plain w' b := by
  obtain ⟨cs, t, h⟩ := h
  exact ⟨cs, t, hb.trans h⟩
theorem KPt.kept {S : Nat → Prop} {w w' : World} (hS : ∀ b, S b → w'.heap[b]? = w.heap[b]?) : ∀ {d : Nat} {v : Value} {K : List (It d)}, KPt S d w v K → KPt S d w' v K
  | 0, _, _, h => h
  | d + 1, _, _, ⟨a, cp, h1, h2, h3⟩ => ⟨a, cp, h1, h2, fun j hj => by
    obtain ⟨b, off, u, h4, h5, hp, h6, h7, h8, h9, h10⟩ := h3 j hj
    have hc : ∀ (p : Addr), p.block = b → w'.cell? p = w.cell? p := fun p hp => World.cell?_of_block (by rw [hp]; exact hS b h5)
    exact ⟨b, off, u, h4, h5, hp.kept (hS b h5), (hc _ rfl).trans h6, (hc _ rfl).trans h7, (hc _ rfl).trans h8, h9, KPt.kept hS h10⟩⟩
theorem KPt.in {S : Nat → Prop} : ∀ {d : Nat} {w : World} {v : Value} {K : List (It d)}, KPt S d w v K → KIn S d w v K
  | 0, _, _, _, h => h
  | d + 1, _, _, _, ⟨a, cp, h1, h2, h3⟩ => ⟨a, cp, h1, h2, fun j hj => by
    obtain ⟨b, off, u, h4, h5, hp, h6, h7, h8, h9, h10⟩ := h3 j hj
    exact ⟨b, off, u, h4, h5, h6, h7, h8, h9, KPt.in h10⟩⟩
theorem KPt.slice {S : Nat → Prop} {d : Nat} {w : World} {v : Value} {K : List (It d)} (h : KPt S d w v K) : ∃ a cp, v = .slice a K.length cp := h.in.slice
/-- What is owned may be pointed to. -/
theorem TO.pt : ∀ {d : Nat} {S : Nat → Prop} {w : World} {v : Value} {K : List (It d)}, TO d S w v K → KPt S d w v K
  | 0, _, _, _, K, ⟨a, cp, h⟩ => ⟨a, cp, h, by rw [no_kids K]; decide⟩
  | _ + 1, S, w, v, K, ⟨h1, vs, h2, h3, F, h4, h5, h6⟩ => by
    rcases h2.2 with ⟨rfl, h0⟩ | ⟨g, cp, cur, rfl, hg, hh, hrest⟩
    · exact ⟨none, 0, by rw [h0], by omega, fun j hj => by omega⟩
    · refine ⟨_, cp, rfl, by omega, fun j hj => ?_⟩
      obtain ⟨k1, k2, k3, k4⟩ := h6 j hj
      have hl := h2.1
      have hc : ∀ i, i < K.length * 3 → w.cell? ⟨g, 0 + i, none⟩ = some (vs.getD i undef) := fun i hi => by
        rw [Nat.zero_add, World.ownsRow.cellAt h2 i hi, List.getElem?_eq_getElem (by omega)]
        simp [show i < vs.length by omega]
      refine ⟨g, 0, _, rfl, h3 g rfl, ⟨_, _, hh⟩, ?_, ?_, hc (j * 3 + 2) (by omega), by omega, (TO.pt k4).more fun b hb => (h5 j b hb).1⟩
      · rw [hc (j * 3) (by omega), k1]
      · have h5 := hc (j * 3 + 1) (by omega)
        rw [k2] at h5
        exact h5

/-- Where the kid at j lies. -/
def kidA (a : Option Addr) (j : Nat) : Addr := match a with
  | some b => ⟨b.block, b.off + j * 3, none⟩
  | none => ⟨0, 0, none⟩
/-- An item at a place below c, with all that it holds. -/
def PtAt (w : World) (c : Nat) (p : Addr) (d : Nat) (x : It (d + 1)) : Prop := ∃ a cp, Cel w p (itL x) (itT x) a (itK x).length cp ∧ p.block < c ∧ Plain w p.block ∧ KPt (fun b => b < c) d w (.slice a (itK x).length cp) (itK x)
theorem Cel.one {w : World} {p : Addr} {l l2 : Bool} {t t2 : ByteArray} {a a2 : Option Addr} {n n2 c c2 : Nat} (h : Cel w p l t a n c) (k : Cel w p l2 t2 a2 n2 c2) : l = l2 ∧ t = t2 ∧ a = a2 ∧ n = n2 := by
  have h1 := h.2.1.symm.trans k.2.1
  have h2 := h.2.2.1.symm.trans k.2.2.1
  have h3 := h.2.2.2.symm.trans k.2.2.2
  simp at h1 h2 h3
  exact ⟨h1, h2, h3.1, h3.2.1⟩
theorem PtAt.kid {w : World} {c : Nat} {p : Addr} {d : Nat} {x : It (d + 1 + 1)} {l : Bool} {t : ByteArray} {a : Option Addr} {n cp : Nat} (h : PtAt w c p (d + 1) x) (hc : Cel w p l t a n cp) (j : Nat) (hj : j < (itK x).length) : PtAt w c (kidA a j) d (itK x)[j] := by
  obtain ⟨a2, cp2, h1, h2, hp, a3, cp3, h3, h4, h5⟩ := h
  obtain ⟨_, _, rfl, _⟩ := hc.one h1
  obtain ⟨b, off, u, rfl, k1, k2, k3, k4, k5, k6, k7⟩ := h5 j hj
  injection h3 with h3
  subst h3
  obtain ⟨a4, c4, rfl⟩ := k7.slice
  exact ⟨a4, c4, ⟨rfl, k3, k4, k5⟩, k1, k2, k7⟩

/-- All is alike but the kids, and these are of the set. -/
def Done (w : World) (M : List (Addr × Addr)) (k : Addr × Addr) : Prop := ∃ l t a n c a2 c2, Cel w k.1 l t a n c ∧ Cel w k.2 l t a2 n c2 ∧ ∀ j, j < n → (kidA a j, kidA a2 j) ∈ M
theorem Done.more {w : World} {M N : List (Addr × Addr)} {k : Addr × Addr} (h : Done w M k) (hN : ∀ q, q ∈ M → q ∈ N) : Done w N k := by
  obtain ⟨l, t, a, n, c, a2, c2, h1, h2, h3⟩ := h
  exact ⟨l, t, a, n, c, a2, c2, h1, h2, fun j hj => hN _ (h3 j hj)⟩
/-- Of a set of such pairs each is the same. -/
theorem done_same {w : World} {c : Nat} {M : List (Addr × Addr)} (hM : ∀ k, k ∈ M → Done w M k) : ∀ (d e : Nat) (x : It (d + 1)) (y : It (e + 1)) (p q : Addr), (p, q) ∈ M → PtAt w c p d x → PtAt w c q e y → sameD (d + 1) (e + 1) x y = true
  | d, e, x, y, p, q, hk, hx, hy => by
    obtain ⟨l, t, a, n, cp, a2, cp2, h1, h2, h3⟩ := hM _ hk
    obtain ⟨a4, c4, k1, _, _, _⟩ := id hx
    obtain ⟨a5, c5, k2, _, _, _⟩ := id hy
    obtain ⟨e1, e2, _, e4⟩ := h1.one k1
    obtain ⟨f1, f2, _, f4⟩ := h2.one k2
    refine sameD_of (e1.symm.trans f1) (e2.symm.trans f2) (e4.symm.trans f4) fun r hr => ?_
    obtain ⟨j, hj, rfl⟩ := List.getElem_of_mem hr
    rw [List.length_zip] at hj
    rw [List.getElem_zip]
    have hj1 : j < (itK x).length := by omega
    have hj2 : j < (itK y).length := by omega
    cases d with
    | zero => rw [no_kids (itK x)] at hj1; exact absurd hj1 (Nat.not_lt_zero _)
    | succ d =>
      cases e with
      | zero => rw [no_kids (itK y)] at hj2; exact absurd hj2 (Nat.not_lt_zero _)
      | succ e => exact done_same hM d e _ _ _ _ (h3 j (by omega)) (hx.kid h1 j hj1) (hy.kid h2 j hj2)
theorem same_parts {d e : Nat} {x : It (d + 1)} {y : It (e + 1)} (h : sameD (d + 1) (e + 1) x y = true) : itL x = itL y ∧ itT x = itT y ∧ (itK x).length = (itK y).length ∧ ∀ (j : Nat) (h1 : j < (itK x).length) (h2 : j < (itK y).length), sameD d e (itK x)[j] (itK y)[j] = true := by
  rw [sameD] at h
  simp only [Bool.and_eq_true, decide_eq_true_eq] at h
  refine ⟨h.1, h.2.1, h.2.2.1, fun j h1 h2 => ?_⟩
  have hz : j < ((itK x).zip (itK y)).length := by rw [List.length_zip]; omega
  have h3 := List.all_eq_true.1 h.2.2.2 ((itK x).zip (itK y))[j] (List.getElem_mem hz)
  rw [List.getElem_zip] at h3
  exact h3

/-- A pair to be looked at: same if the whole is; so many items. -/
def Good (w : World) (c : Nat) (R : Bool) (k : Addr × Addr) (N : Nat) : Prop := ∃ d e, ∃ x : It (d + 1), ∃ y : It (e + 1), PtAt w c k.1 d x ∧ PtAt w c k.2 e y ∧ (R = true → sameD (d + 1) (e + 1) x y = true) ∧ cntD (d + 1) x = N
theorem Good.plain {w : World} {c : Nat} {R : Bool} {k : Addr × Addr} {N : Nat} (h : Good w c R k N) : PlainK w k ∧ k.1.block < c ∧ k.2.block < c := by
  obtain ⟨d, e, x, y, ⟨a, cp, _, h2, h3, _⟩, ⟨a2, cp2, _, k2, k3, _⟩, _⟩ := h
  exact ⟨⟨h3, k3⟩, h2, k2⟩
/-- What is read there, and the kids' pairs. -/
theorem Good.look {w : World} {c : Nat} {R : Bool} {k : Addr × Addr} {N : Nat} (h : Good w c R k N) : ∃ l t a n cp l2 t2 a2 n2 cp2, Cel w k.1 l t a n cp ∧ Cel w k.2 l2 t2 a2 n2 cp2 ∧ (R = true → l = l2 ∧ t = t2 ∧ n = n2) ∧ (n = n2 → ∃ s : Nat → Nat, (∀ j, j < n → Good w c R (kidA a j, kidA a2 j) (s j)) ∧ 1 + ((List.range n).map s).sum = N) ∧ n ≤ 9223372036854775807 ∧ n2 ≤ 9223372036854775807 ∧ (0 < n → ∃ b off, a = some ⟨b, off, none⟩) ∧ (0 < n2 → ∃ b off, a2 = some ⟨b, off, none⟩) := by
  obtain ⟨d, e, x, y, hx, hy, hR, hN⟩ := h
  obtain ⟨a, cp, h1, h2, h3, h4⟩ := id hx
  obtain ⟨a2, cp2, k1, k2, k3, k4⟩ := id hy
  refine ⟨_, _, a, _, cp, _, _, a2, _, cp2, h1, k1, fun hr => ⟨(same_parts (hR hr)).1, (same_parts (hR hr)).2.1, (same_parts (hR hr)).2.2.1⟩, fun hn => ?_, ?_, ?_, ?_, ?_⟩
  · cases d with
    | zero =>
      have h0 := no_kids (itK x)
      refine ⟨fun _ => 0, fun j hj => by rw [h0] at hj; exact absurd hj (Nat.not_lt_zero _), ?_⟩
      rw [cntD, h0] at hN
      rw [h0]
      exact hN
    | succ d =>
      cases e with
      | zero =>
        have h0 := no_kids (itK y)
        rw [h0] at hn
        have h9 : itK x = [] := List.eq_nil_of_length_eq_zero hn
        refine ⟨fun _ => 0, fun j hj => by rw [h9] at hj; exact absurd hj (Nat.not_lt_zero _), ?_⟩
        rw [cntD, h9] at hN
        rw [h9]
        exact hN
      | succ e =>
        refine ⟨fun j => ((itK x)[j]?.map (cntD (d + 1))).getD 0, fun j hj => ?_, ?_⟩
        · have hj2 : j < (itK y).length := by omega
          refine ⟨d, e, (itK x)[j], (itK y)[j], hx.kid h1 j hj, hy.kid k1 j hj2, fun hr => (same_parts (hR hr)).2.2.2 j hj hj2, ?_⟩
          show _ = ((itK x)[j]?.map (cntD (d + 1))).getD 0
          rw [List.getElem?_eq_getElem hj]
          rfl
        · rw [cntD] at hN
          rw [← hN]
          congr 2
          apply List.ext_getElem
          · simp
          · intro i hi1 hi2
            have hi : i < (itK x).length := by simpa using hi2
            simp [hi]
  · have := h4.in
    cases d with
    | zero => rw [no_kids (itK x)]; decide
    | succ d => obtain ⟨_, _, _, h, _⟩ := h4; exact h
  · cases e with
    | zero => rw [no_kids (itK y)]; decide
    | succ e => obtain ⟨_, _, _, h, _⟩ := k4; exact h
  · intro hn
    cases d with
    | zero => rw [no_kids (itK x)] at hn; exact absurd hn (Nat.lt_irrefl _)
    | succ d =>
      obtain ⟨a3, cp3, h5, _, h6⟩ := h4
      obtain ⟨b, off, u, rfl, _⟩ := h6 0 hn
      injection h5 with h5
      exact ⟨b, off, h5⟩
  · intro hn
    cases e with
    | zero => rw [no_kids (itK y)] at hn; exact absurd hn (Nat.lt_irrefl _)
    | succ e =>
      obtain ⟨a3, cp3, h5, _, h6⟩ := k4
      obtain ⟨b, off, u, rfl, _⟩ := h6 0 hn
      injection h5 with h5
      exact ⟨b, off, h5⟩

end Go.Proofs.Ytmpjnabadplbjaa

/-
  What the program's SameItem keeps while it looks at pairs.
  (-DROP-: what the seat lacks is left out.)
-/
namespace Go.Proofs.Ytmpjnabadplbjaa
open Go.RowKit

/-- The cells of a list of pairs. -/
def opV (o : List ((Addr × Addr) × Nat)) : List Value := o.flatMap fun e => [.pointer (some e.1.1), .pointer (some e.1.2)]
theorem opV_append (a b : List ((Addr × Addr) × Nat)) : opV (a ++ b) = opV a ++ opV b := by simp [opV]
theorem opV_size : ∀ (o : List ((Addr × Addr) × Nat)), (opV o).length = o.length * 2
  | [] => rfl
  | e :: o => by
    have h : opV (e :: o) = [.pointer (some e.1.1), .pointer (some e.1.2)] ++ opV o := rfl
    rw [h, List.length_append, opV_size o]
    simp
    omega
theorem own_shrink {w : World} {lo e size n m cap g : Nat} {xs : List Value} (h : w.ownsRow lo e size (.slice (some ⟨g, 0, none⟩) n cap) n xs) (hm : m ≤ n) : w.ownsRow lo e size (.slice (some ⟨g, 0, none⟩) m cap) m (xs.take (m * size)) := by
  have hle : m * size ≤ n * size := Nat.mul_le_mul_right _ hm
  refine ⟨by rw [List.length_take, h.1]; omega, ?_⟩
  rcases h.2 with ⟨h0, _⟩ | ⟨g1, cap1, cur, hv, hB, hg, hnc, hcp, hcs, htake⟩
  · cases h0
  · simp only [Value.slice.injEq, Option.some.injEq, Addr.mk.injEq, and_true, true_and] at hv
    obtain ⟨rfl, rfl⟩ := hv
    exact .inr ⟨g, cap, cur, rfl, hB, hg, by omega, hcp, hcs, by rw [← htake, List.take_take, Nat.min_eq_left hle]⟩

/-- What stands while pairs are looked at: what is open, what was met; X: pairs that are neither open nor done. -/
structure SmInv (c : Nat) (w1 : World) (R : Bool) (gM : Nat) (k0 : Addr × Addr) (op es : List ((Addr × Addr) × Nat)) (v : Value) (X : List (Addr × Addr)) (wr : World) : Prop where
  bel : Below c w1 wr
  row : wr.ownsRow c 77 2 v op.length (opV op)
  set : SetAt wr gM es
  low : c ≤ gM
  off : v.ownBlock ≠ some gM
  good : ∀ o, o ∈ op → Good w1 c R o.1 o.2
  keys : ∀ e, e ∈ es → PlainK w1 e.1 ∧ e.1.1.block < c ∧ e.1.2.block < c
  done : ∀ k, k ∈ k0 :: es.map (·.1) → k ∈ op.map (·.1) ∨ Done w1 (k0 :: es.map (·.1)) k ∨ k ∈ X

theorem SetAt.lt {w : World} {g : Nat} {es : List ((Addr × Addr) × Nat)} (h : SetAt w g es) : g < w.heap.size := by
  obtain ⟨_, h⟩ := h
  exact (Array.getElem?_eq_some_iff.1 h).1
theorem SmInv.step {c : Nat} {w1 : World} {R : Bool} {gM : Nat} {k0 : Addr × Addr} {op es : List ((Addr × Addr) × Nat)} {v : Value} {X : List (Addr × Addr)} {wr wr' : World} (h : SmInv c w1 R gM k0 op es v X wr) (hb : Below wr.heap.size wr wr') : SmInv c w1 R gM k0 op es v X wr' := by
  obtain ⟨cl, hs⟩ := h.set
  exact ⟨h.bel.trans (hb.mono (by have := h.low; have := h.set.lt; omega)), owns_on h.row hb, ⟨cl, (hb.block gM h.set.lt).trans hs⟩, h.low, h.off, h.good, h.keys, h.done⟩
theorem PlainK.on {w w' : World} {k : Addr × Addr} {c : Nat} (h : PlainK w k) (hb : Below c w w') (h1 : k.1.block < c) (h2 : k.2.block < c) : PlainK w' k := ⟨h.1.kept (hb.block _ h1), h.2.kept (hb.block _ h2)⟩
theorem SmInv.plain {c : Nat} {w1 : World} {R : Bool} {gM : Nat} {k0 : Addr × Addr} {op es : List ((Addr × Addr) × Nat)} {v : Value} {X : List (Addr × Addr)} {wr : World} (h : SmInv c w1 R gM k0 op es v X wr) : ∀ e, e ∈ es → PlainK wr e.1 := fun e he => (h.keys e he).1.on h.bel (h.keys e he).2.1 (h.keys e he).2.2
/-- The last open pair is taken. -/
theorem SmInv.pop {c : Nat} {w1 : World} {R : Bool} {gM : Nat} {k0 : Addr × Addr} {rest es : List ((Addr × Addr) × Nat)} {o : (Addr × Addr) × Nat} {g cap : Nat} {wr : World} (h : SmInv c w1 R gM k0 (rest ++ [o]) es (.slice (some ⟨g, 0, none⟩) (rest.length + 1) cap) [] wr) : SmInv c w1 R gM k0 rest es (.slice (some ⟨g, 0, none⟩) rest.length cap) [o.1] wr := by
  refine ⟨h.bel, ?_, h.set, h.low, h.off, fun q hq => h.good q (List.mem_append_left _ hq), h.keys, fun k hk => ?_⟩
  · have hr := h.row
    rw [List.length_append, List.length_singleton] at hr
    have h2 := own_shrink hr (m := rest.length) (by omega)
    rw [opV_append, List.take_append_of_le_length (by rw [opV_size]; omega), List.take_of_length_le (by rw [opV_size]; omega)] at h2
    exact h2
  · rcases h.done k hk with h1 | h1 | h1
    · rw [List.map_append, List.mem_append] at h1
      rcases h1 with h1 | h1
      · exact .inl h1
      · exact .inr (.inr (by simpa using h1))
    · exact .inr (.inl h1)
    · cases h1
/-- A pair is met. -/
theorem SmInv.insert {c : Nat} {w1 : World} {R : Bool} {gM : Nat} {k0 : Addr × Addr} {op es : List ((Addr × Addr) × Nat)} {v : Value} {X : List (Addr × Addr)} {wr wr' : World} (h : SmInv c w1 R gM k0 op es v X wr) (k : Addr × Addr) (cl : Nat) (hk : PlainK w1 k ∧ k.1.block < c ∧ k.2.block < c)
    (hs : SetAt wr' gM (es ++ [(k, cl)])) (hb : ∀ b, b ≠ gM → wr'.heap[b]? = wr.heap[b]?) (hz : wr'.heap.size = wr.heap.size) (ho : wr'.os = wr.os ∧ wr'.tape = wr.tape ∧ wr'.output = wr.output) : SmInv c w1 R gM k0 op (es ++ [(k, cl)]) v (k :: X) wr' := by
  have hlow := h.low
  refine ⟨⟨ho.1.trans h.bel.os, ho.2.1.trans h.bel.tape, ho.2.2.trans h.bel.output, by rw [hz]; exact h.bel.size, fun b hbc => (hb b (by omega)).trans (h.bel.block b hbc)⟩, ⟨h.row.1, ?_⟩, hs, h.low, h.off, h.good, fun e he => ?_, fun q hq => ?_⟩
  · rcases h.row.2 with h0 | ⟨g, cap, cur, hv, hB, hg, rest⟩
    · exact .inl h0
    · refine .inr ⟨g, cap, cur, hv, hB, (hb g fun e => h.off (by rw [hv, e]; rfl)).trans hg, rest⟩
  · rcases List.mem_append.1 he with he | he
    · exact h.keys e he
    · rw [List.mem_singleton] at he
      subst he
      exact hk
  · rw [List.map_append] at hq ⊢
    have hsub : ∀ r, r ∈ k0 :: es.map (·.1) → r ∈ k0 :: (es.map (·.1) ++ [(k, cl)].map (·.1)) := fun r hr => by
      rcases List.mem_cons.1 hr with hr | hr
      · exact List.mem_cons.2 (.inl hr)
      · exact List.mem_cons.2 (.inr (List.mem_append_left _ hr))
    have hq2 : q ∈ k0 :: es.map (·.1) ∨ q = k := by
      rcases List.mem_cons.1 hq with hq | hq
      · exact .inl (List.mem_cons.2 (.inl hq))
      · rcases List.mem_append.1 hq with hq | hq
        · exact .inl (List.mem_cons.2 (.inr hq))
        · exact .inr (by simpa using hq)
    rcases hq2 with hq2 | rfl
    · rcases h.done q hq2 with h1 | h1 | h1
      · exact .inl h1
      · exact .inr (.inl (h1.more hsub))
      · exact .inr (.inr (List.mem_cons_of_mem _ h1))
    · exact .inr (.inr List.mem_cons_self)
/-- It is open, too. -/
theorem SmInv.push {c : Nat} {w1 : World} {R : Bool} {gM : Nat} {k0 : Addr × Addr} {op es : List ((Addr × Addr) × Nat)} {v v' : Value} {X : List (Addr × Addr)} {wr wr' : World} {k : Addr × Addr} {s : Nat} (h : SmInv c w1 R gM k0 op es v (k :: X) wr) (hr : wr'.ownsRow c 77 2 v' (op.length + 1) (opV op ++ [.pointer (some k.1), .pointer (some k.2)]))
    (hg : wr.grownBy wr' v.ownBlock) (hv : v'.ownBlock = v.ownBlock ∨ v'.ownBlock = some wr.heap.size) (hk : Good w1 c R k s) : SmInv c w1 R gM k0 (op ++ [(k, s)]) es v' X wr' := by
  obtain ⟨cl, hs⟩ := h.set
  have hlt := h.set.lt
  refine ⟨h.bel.grown hg (by have := h.low; omega) (fun b hb => (h.row.lt b hb).1), ?_, ⟨cl, (hg.block gM hlt (fun e => h.off e.symm)).trans hs⟩, h.low, ?_, fun o ho => ?_, h.keys, fun q hq => ?_⟩
  · rw [List.length_append, opV_append]
    exact hr
  · rcases hv with e | e
    · rw [e]; exact h.off
    · rw [e]; intro e2; injection e2 with e2; omega
  · rcases List.mem_append.1 ho with ho | ho
    · exact h.good o ho
    · rw [List.mem_singleton] at ho
      subst ho
      exact hk
  · rw [List.map_append]
    rcases h.done q hq with h1 | h1 | h1
    · exact .inl (List.mem_append_left _ h1)
    · exact .inr (.inl h1)
    · rcases List.mem_cons.1 h1 with rfl | h1
      · exact .inl (List.mem_append_right _ (by simp))
      · exact .inr (.inr h1)
/-- The pair that was taken is done. -/
theorem SmInv.shut {c : Nat} {w1 : World} {R : Bool} {gM : Nat} {k0 : Addr × Addr} {op es : List ((Addr × Addr) × Nat)} {v : Value} {wr : World} {k : Addr × Addr} (h : SmInv c w1 R gM k0 op es v [k] wr) (hk : Done w1 (k0 :: es.map (·.1)) k) : SmInv c w1 R gM k0 op es v [] wr :=
  ⟨h.bel, h.row, h.set, h.low, h.off, h.good, h.keys, fun q hq => by
    rcases h.done q hq with h1 | h1 | h1
    · exact .inl h1
    · exact .inr (.inl h1)
    · rw [List.mem_singleton] at h1
      subst h1
      exact .inr (.inl hk)⟩

end Go.Proofs.Ytmpjnabadplbjaa
