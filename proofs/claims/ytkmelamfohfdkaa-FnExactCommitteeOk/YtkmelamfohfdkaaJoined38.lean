/-
  Texts of one's own, joined.
-/
import Derived.Laws.BitsAllLaws
import Derived.Test.YtkmelamfohfdkaaJoined21
import Derived.WalkLawsBesides
import Derived.WalkSpells
import Derived.Lib.LazyBuf
import Derived.Lib.ConvBytes
import Derived.ArgAppend

/-
  The padding of chapter 3 as plain mathematics.
-/
namespace Go.Proofs.Ytkmelamfohfdkaa

/-- The bytes behind the text, ahead of the last bit. -/
def padTail (n : Nat) : List UInt8 := 1 :: List.replicate (135 - n % 136) 0
def padBody (l : List UInt8) : List UInt8 := l ++ padTail l.length
/-- A padded text. -/
def padL (l : List UInt8) : List UInt8 := (padBody l).set ((padBody l).length - 1) ((padBody l).getD ((padBody l).length - 1) 0 ||| 128)

theorem padBody_length (l : List UInt8) : (padBody l).length = 136 * (l.length / 136 + 1) := by
  simp [padBody, padTail]; omega
theorem padL_length (l : List UInt8) : (padL l).length = 136 * (l.length / 136 + 1) := by
  unfold padL; rw [List.length_set, padBody_length]
/-- k bytes of the tail. -/
def padK (l : List UInt8) (k : Nat) : List UInt8 := l ++ 1 :: List.replicate k 0
theorem padK_length (l : List UInt8) (k : Nat) : (padK l k).length = l.length + 1 + k := by simp [padK]; omega
theorem padK_succ (l : List UInt8) (k : Nat) : padK l (k + 1) = padK l k ++ [0] := by
  simp [padK, List.replicate_succ']
theorem padK_all (l : List UInt8) : padK l (135 - l.length % 136) = padBody l := rfl
theorem padK_end {l : List UInt8} {k : Nat} (hk : k ≤ 135 - l.length % 136) (h : (padK l k).length % 136 = 0) : k = 135 - l.length % 136 := by
  rw [padK_length] at h; omega
theorem padK_on {l : List UInt8} {k : Nat} (hk : k ≤ 135 - l.length % 136) (h : (padK l k).length % 136 ≠ 0) : k + 1 ≤ 135 - l.length % 136 := by
  rw [padK_length] at h; omega
theorem u8_or_128 (b : UInt8) : bits .or .u8 (b.toNat : Int) 128 = ((b ||| 128).toNat : Int) := by
  rw [show (128 : Int) = ((128 : Nat) : Int) from rfl, u8_or_nat _ _ b.toNat_lt (by decide)]
  rw [UInt8.toNat_or]; rfl
theorem pad_made (l : List UInt8) : (l ++ List.replicate (136 * (l.length / 136 + 1) - l.length) (0 : UInt8)).set l.length 1 = padBody l := by
  rw [List.set_append_right _ _ (Nat.le_refl _), Nat.sub_self]
  unfold padBody padTail
  congr 1
  rw [show 136 * (l.length / 136 + 1) - l.length = (135 - l.length % 136) + 1 by omega, List.replicate_succ]
  rfl

end Go.Proofs.Ytkmelamfohfdkaa

/-
  The walks of KeccakPad on both sides.
-/
namespace Go.Proofs.Ytkmelamfohfdkaa
open Go.RowKit

/-- A padded text. -/
def padT (s : ByteArray) : ByteArray := ⟨(padL s.data.toList).toArray⟩

theorem cells_put (w : World) : ∀ (vs pre z : List UInt8), vs.length ≤ z.length →
    (w.alloc (.cells (bCells (pre ++ z)) 5)).setCells w.heap.size pre.length (bytesV vs) = w.alloc (.cells (bCells (pre ++ (vs ++ z.drop vs.length))) 5)
  | [], pre, z, _ => by simp [bytesV, World.setCells]
  | v :: vs, pre, [], h => by simp at h
  | v :: vs, pre, y :: z, h => by
    show ((w.alloc (.cells (bCells (pre ++ y :: z)) 5)).setCell ⟨w.heap.size, pre.length, none⟩ (.int .u8 (v.toNat : Int))).setCells w.heap.size (pre.length + 1) (bytesV vs) = _
    rw [World.setCell_alloc_at _ _ _ _ _ rfl, bCells_set]
    have e : (pre ++ y :: z).set pre.length v = (pre ++ [v]) ++ z := by
      rw [List.set_append_right _ _ (Nat.le_refl _), Nat.sub_self]; simp
    have ih := cells_put w vs (pre ++ [v]) z (by simpa using h)
    rw [e, show pre.length + 1 = (pre ++ [v]).length by simp, ih]
    simp

theorem copy_text (w : World) (ty : TypeId) (s : ByteArray) (n : Nat) (h : s.size ≤ n) :
    (Builtin.copy_ #[62, 9] ty #[.slice (some ⟨w.heap.size, 0, none⟩) n n, .string s]).run Try.prog (w.alloc (.cells (bCells (List.replicate n 0)) 5)) =
      .ok (goInt s.size) (w.alloc (.cells (bCells (s.data.toList ++ List.replicate (n - s.size) 0)) 5)) := by
  have hsz : s.data.toList.length = s.size := by simp
  have h1 := run_copy_string (P := Try.prog) (w.alloc (.cells (bCells (List.replicate n 0)) 5)) 62 9 ty 5 w.heap.size 0 n n s Try.underlying62 Try.sizeOf5 h
    (fun j hj => by rw [Nat.zero_add, World.cell?_alloc_new]; simp [bCells, bytesV]; omega)
    (fun j _ => World.frozen?_alloc_at _ _ _ _ rfl)
  rw [h1]
  have h2 := cells_put w s.data.toList [] (List.replicate n 0) (by simpa using h)
  simp only [List.nil_append, List.length_nil] at h2
  show Result.ok _ ((w.alloc (.cells (bCells (List.replicate n 0)) 5)).setCells w.heap.size 0 (bytesV s.data.toList)) = _
  rw [h2, hsz, List.drop_replicate]

/-- A value is a row of these bytes from block B on, cell by cell, with room or without. -/
structure RowC (B : Nat) (w : World) (v : Value) (l : List UInt8) (g cap : Nat) : Prop where
  form : v = .slice (some ⟨g, 0, none⟩) l.length cap
  base : B ≤ g
  lt : g < w.heap.size
  le : l.length ≤ cap
  cell : ∀ j (hj : j < l.length), w.cell? ⟨g, j, none⟩ = some (.int .u8 (l[j].toNat : Int))
  has : ∀ j, j < cap → (w.cell? ⟨g, j, none⟩).isSome = true
  free : ∀ j, j < cap → w.frozen? ⟨g, j, none⟩ = false

theorem rowC_conv (w : World) (T : ByteArray) :
    ∃ K w5, (convert 9 62 (.string T)).run Try.prog w = .ok (.slice (some ⟨w.heap.size, 0, none⟩) T.size K) w5 ∧ Below w.heap.size w w5 ∧ RowC w.heap.size w5 (.slice (some ⟨w.heap.size, 0, none⟩) T.size K) T.data.toList w.heap.size K := by
  have hsl : T.data.toList.length = T.size := by simp
  have hge := grownCap_ge w T.size 0 5
  have hsz : (Lib.bytesCells w 5 T).size = grownCap w T.size 0 5 := by simp [Lib.bytesCells]; have : T.size = T.data.size := rfl; omega
  refine ⟨_, _, Lib.run_convert_string_bytes (P := Try.prog) w 9 62 5 T Try.underlying9 Try.underlying62 Try.underlying5, ?_, ?_, Nat.le_refl _, ?_, ?_, ?_, ?_, ?_⟩
  · exact ⟨rfl, rfl, rfl, by rw [Lib.bytesWorld_size]; omega, fun k hk => Lib.bytesWorld_at_old w 5 T k hk⟩
  · rw [hsl]
  · rw [Lib.bytesWorld_size]; omega
  · rw [hsl]; exact hge
  · intro j hj
    rw [Lib.bytesWorld_cell w 5 T j (by omega)]
    simp only [List.getD_eq_getElem?_getD, List.getElem?_eq_getElem hj, Option.getD_some]
  · intro j hj
    rw [cell_of_row _ _ j _ _ _ (Lib.bytesWorld_at_new w 5 T)]
    have hh : j < (Lib.bytesCells w 5 T).size := by rw [hsz]; exact hj
    simp [hh]
  · intro j hj
    unfold World.frozen?
    rw [Lib.bytesWorld_at_new]
    simp
    omega

theorem rowC_owns {B : Nat} {w : World} {v : Value} {l : List UInt8} (hl : 0 < l.length) (h : w.ownsRow B 5 1 v l.length (bytesV l)) : ∃ g cap, RowC B w v l g cap := by
  rcases h.2 with ⟨rfl, h0⟩ | ⟨g, cap, cur, rfl, hg, hh, hnc, hcp, hcs, htake⟩
  · omega
  · refine ⟨g, cap, rfl, hg, (Array.getElem?_eq_some_iff.1 hh).1, hnc, ?_, ?_, ?_⟩
    · intro j hj
      have := cells_of_row h j hj
      rwa [Addr.add_lit, Nat.zero_add] at this
    · intro j hj
      rw [cell_of_row _ _ j _ _ _ hh]
      have : j < cur.size := by omega
      simp [this]
    · intro j hj
      unfold World.frozen?
      rw [hh]
      simp

theorem RowC.alloc {B : Nat} {w : World} {v : Value} {l : List UInt8} {g cap : Nat} (h : RowC B w v l g cap) (o : Obj) : RowC B (w.alloc o) v l g cap :=
  ⟨h.form, h.base, by have := h.lt; simp; omega, h.le, fun j hj => by rw [World.cell?_alloc_past _ _ _ h.lt]; exact h.cell j hj,
    fun j hj => by rw [World.cell?_alloc_past _ _ _ h.lt]; exact h.has j hj, fun j hj => by rw [World.frozen?_alloc_past _ _ _ h.lt]; exact h.free j hj⟩

theorem put_cell (w : World) (g k : Nat) (v : Value) (h : (w.cell? ⟨g, k, none⟩).isSome = true) : (w.setCells g k [v]).cell? ⟨g, k, none⟩ = some v := by
  have := World.cell?_setCells_in g [v] k w (fun j hj => by simp at hj; subst hj; exact h) 0 (by simp)
  simpa using this
theorem put_other (w : World) (g k j : Nat) (v : Value) (h : j ≠ k) : (w.setCells g k [v]).cell? ⟨g, j, none⟩ = w.cell? ⟨g, j, none⟩ :=
  World.cell?_setCells_out g [v] k w _ (fun _ _ => by simp; omega)
theorem put_size (w : World) (g k : Nat) (v : Value) : (w.setCells g k [v]).heap.size = w.heap.size := by
  simp [World.setCells]

theorem RowC.set {B : Nat} {w : World} {v : Value} {l : List UInt8} {g cap : Nat} (h : RowC B w v l g cap) (k : Nat) (hk : k < l.length) (b : UInt8) : RowC B (w.setCells g k [.int .u8 (b.toNat : Int)]) v (l.set k b) g cap := by
  refine ⟨by rw [List.length_set]; exact h.form, h.base, by rw [put_size]; exact h.lt, by rw [List.length_set]; exact h.le, ?_, ?_, ?_⟩
  · intro j hj
    rw [List.length_set] at hj
    by_cases e : j = k
    · subst e
      rw [put_cell _ _ _ _ (h.has j (by have := h.le; omega))]
      simp
    · rw [put_other _ _ _ _ _ e, h.cell j hj, List.getElem_set_ne (fun e' => e e'.symm)]
  · intro j hj
    by_cases e : j = k
    · subst e
      rw [put_cell _ _ _ _ (h.has j hj)]; rfl
    · rw [put_other _ _ _ _ _ e]; exact h.has j hj
  · intro j hj
    rw [World.frozen?_setCells]; exact h.free j hj

theorem RowC.room {B : Nat} {w : World} {v : Value} {l : List UInt8} {g cap : Nat} (h : RowC B w v l g cap) (hr : l.length + 1 ≤ cap) (b : UInt8) :
    RowC B (w.setCells g l.length [.int .u8 (b.toNat : Int)]) (.slice (some ⟨g, 0, none⟩) (l.length + 1) cap) (l ++ [b]) g cap := by
  refine ⟨by simp, h.base, by rw [put_size]; exact h.lt, by simpa using hr, ?_, ?_, ?_⟩
  · intro j hj
    by_cases e : j = l.length
    · subst e
      rw [put_cell _ _ _ _ (h.has _ (by omega))]
      simp
    · have hj' : j < l.length := by simp at hj; omega
      rw [put_other _ _ _ _ _ e, h.cell j hj', List.getElem_append_left hj']
  · intro j hj
    by_cases e : j = l.length
    · subst e
      rw [put_cell _ _ _ _ (h.has _ hj)]; rfl
    · rw [put_other _ _ _ _ _ e]; exact h.has j hj
  · intro j hj
    rw [World.frozen?_setCells]; exact h.free j hj

/-- An append of one byte onto such a row. -/
theorem append_C {W : World} {ops : Array Oper} {rest : List Oper} {o : Oper} {a : Act} {Q : Exit → Act → World → Prop} (hg : o.guard = none) (s x : Operand)
    (hop : o.op = Op.call { callee := Callee.builtin Builtin.append, args := #[s, x], argTypes := #[62, 62] })
    {B : Nat} {v : Value} {l : List UInt8} {g cap : Nat} (hs : a.eval s = v) (hrow : RowC B W v l g cap) (hl : l.length ≤ 4194304) (ad : Addr) (b : UInt8) (hx : a.eval x = .slice (some ad) 1 1) (hc : W.cell? (ad.add 0) = some (.int .u8 (b.toNat : Int)))
    (K : ∀ v' w1 g' cap', RowC B w1 v' (l ++ [b]) g' cap' → Below B W w1 → wpList Try.prog ops Q rest (a.put o.dst v') w1) : wpList Try.prog ops Q (o :: rest) a W := by
  obtain ⟨i0, hi, hz0, hz1, hz2⟩ := info_parts info5
  have hBW : B ≤ W.heap.size := by have := hrow.base; have := hrow.lt; omega
  refine wpList_append_arg W hg s x 62 hop 5 i0 (.int .u8 0) 1 1 Try.underlying62 hi hz0 hz1 hz2 rfl (by decide) g 0 l.length cap (bytesV l) (hs.trans hrow.form) (by simp [bytesV]) ?_ ad 1 1 [.int .u8 (b.toNat : Int)] hx rfl ?_ (one_cell _ _) ?_ (by unfold maxLen; omega) (by omega) ?_ ?_
  · intro j u hu
    have hj : j < l.length := by have := (List.getElem?_eq_some_iff.1 hu).1; simpa [bytesV] using this
    rw [Nat.zero_add, hrow.cell j hj, ← hu]
    simp [bytesV, hj]
  · intro j u hu
    obtain rfl : j = 0 := by have := (List.getElem?_eq_some_iff.1 hu).1; simp at this; exact this
    rw [hc, ← hu]; rfl
  · intro hr j hj
    simp at hj
    subst hj
    simp only [Nat.mul_one, Nat.zero_add, Nat.add_zero]
    exact ⟨hrow.has _ (by omega), hrow.free _ (by omega)⟩
  · intro hr
    simp only [Nat.mul_one, Nat.zero_add]
    exact K _ _ g cap (hrow.room hr b) (below_setCells hrow.base _ _ _ (Below.refl _ _))
  · intro hr v' w' hown hgr
    have hown' : w'.ownsRow B 5 1 v' (l ++ [b]).length (bytesV (l ++ [b])) := by
      rw [bytesV_append, List.length_append]
      refine ⟨hown.1, ?_⟩
      rcases hown.2 with h0 | ⟨g', cap', cur, h1, h2, h3⟩
      · exact .inl h0
      · exact .inr ⟨g', cap', cur, h1, Nat.le_trans hBW h2, h3⟩
    obtain ⟨g', cap', hR⟩ := rowC_owns (by simp) hown'
    exact K v' w' g' cap' hR ((Below.refl B W).grown hgr hBW (fun k hk => by cases hk))

def lenV : Value → Nat
  | .slice _ n _ => n
  | _ => 0

theorem text_of_C {w : World} {B : Nat} {v : Value} {l : List UInt8} {g cap : Nat} (h : RowC B w v l g cap) :
    (convert 62 9 (.slice (some ⟨g, 0, none⟩) l.length cap)).run Try.prog w = .ok (.string ⟨l.toArray⟩) w :=
  run_convert_bytes_back (P := Try.prog) w 62 9 5 ⟨g, 0, none⟩ cap l Try.underlying62 Try.underlying5 Try.underlying9 (fun j hj => by
    rw [Addr.add_lit, Nat.zero_add]; exact h.cell j hj)

end Go.Proofs.Ytkmelamfohfdkaa
