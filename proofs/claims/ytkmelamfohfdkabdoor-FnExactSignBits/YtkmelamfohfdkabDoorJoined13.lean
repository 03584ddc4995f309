/-
  Texts of one's own, joined.
-/
import Derived.Test.YtkmelamfohfdkabDoorJoined11
import Derived.Test.YtkmelamfohfdkabDoorJoined12
import Derived.WalkLawsBesides
import Derived.WalkSpells
import Derived.Lib.LazyBuf
import Derived.Lib.ConvBytes
import Derived.ArgAppend

/-
  The walks of KeccakPad on both sides.
-/
namespace Go.Proofs.YtkmelamfohfdkabDoor
open Go.RowKit

/-- A padded text. -/
def padT (s : ByteArray) : ByteArray := ⟨(padL s.data.toList).toArray⟩

theorem cells_put (w : World) : ∀ (vs pre z : List UInt8), vs.length ≤ z.length →
    (w.alloc (.cells (bCells (pre ++ z)) 5)).setCells w.heap.size pre.length (bytesV vs) = w.alloc (.cells (bCells (pre ++ (vs ++ z.drop vs.length))) 5)
  | [], pre, z, _ => by simp [bytesV, World.setCells]
  | v :: vs, pre, [], h => by simp at h
  | v :: vs, pre, y :: z, h => by
    show ((w.alloc (.cells (bCells (pre ++ y :: z)) 5)).setCell ⟨w.heap.size, pre.length, none⟩ (.int .u8 (v.toNat : Int))).setCells w.heap.size (pre.length + 1) (bytesV vs) = _
    rw [World.setCell_alloc_at _ _ _ _ _ rfl, bCells_set]
    have e : (pre ++ y :: z).set pre.length v = (pre ++ [v]) ++ z := by
      rw [List.set_append_right _ _ (Nat.le_refl _), Nat.sub_self]; simp
    have ih := cells_put w vs (pre ++ [v]) z (by simpa using h)
    rw [e, show pre.length + 1 = (pre ++ [v]).length by simp, ih]
    simp

theorem copy_text (w : World) (ty : TypeId) (s : ByteArray) (n : Nat) (h : s.size ≤ n) :
    (Builtin.copy_ #[45, 9] ty #[.slice (some ⟨w.heap.size, 0, none⟩) n n, .string s]).run Tryd.prog (w.alloc (.cells (bCells (List.replicate n 0)) 5)) =
      .ok (goInt s.size) (w.alloc (.cells (bCells (s.data.toList ++ List.replicate (n - s.size) 0)) 5)) := by
  have hsz : s.data.toList.length = s.size := by simp
  have h1 := run_copy_string (P := Tryd.prog) (w.alloc (.cells (bCells (List.replicate n 0)) 5)) 45 9 ty 5 w.heap.size 0 n n s Tryd.underlying45 Tryd.sizeOf5 h
    (fun j hj => by rw [Nat.zero_add, World.cell?_alloc_new]; simp [bCells, bytesV]; omega)
    (fun j _ => World.frozen?_alloc_at _ _ _ _ rfl)
  rw [h1]
  have h2 := cells_put w s.data.toList [] (List.replicate n 0) (by simpa using h)
  simp only [List.nil_append, List.length_nil] at h2
  show Result.ok _ ((w.alloc (.cells (bCells (List.replicate n 0)) 5)).setCells w.heap.size 0 (bytesV s.data.toList)) = _
  rw [h2, hsz, List.drop_replicate]

set_option maxHeartbeats 800000 in
set_option maxRecDepth 100000 in
theorem iPad_any (s : ByteArray) (hs : s.size ≤ 2097152) (w : World) :
    Calls Tryd.prog 66 #[.string s] w fun e w' => e = .returned (.string (padT s)) ∧ Below w.heap.size w w' := by
  obtain ⟨n, hn⟩ : ∃ n, n = 136 * (s.size / 136 + 1) := ⟨_, rfl⟩
  have hsz : s.data.toList.length = s.size := by simp
  have hmk : ∀ W : World, (Instr.makeSlice 45 (.int .i64 (n : Int)) (.int .i64 (n : Int))).run Tryd.prog W = .ok (.slice (some ⟨W.heap.size, 0, none⟩) n n) (W.alloc (.cells (bCells (List.replicate n 0)) 5)) := fun W => make_bytes n n (Nat.le_refl _) (by omega) W
  have hcp := fun ty => copy_text w ty s n (by omega)
  obtain ⟨l0, hl0⟩ : ∃ l0, l0 = s.data.toList ++ List.replicate (n - s.size) 0 := ⟨_, rfl⟩
  have hll0 : l0.length = n := by rw [hl0]; simp; omega
  have hB : l0.set s.size 1 = padBody s.data.toList := by
    rw [hl0, hn, ← hsz]; exact pad_made _
  rw [← hl0] at hcp
  have hat0 := bCells_at l0 s.size (by omega)
  have hset0 : (bCells l0).setIfInBounds s.size (.int .u8 1) = bCells (padBody s.data.toList) := by rw [← hB]; exact bCells_set l0 s.size 1
  have hlb : (padBody s.data.toList).length = n := by rw [padBody_length, hn, hsz]
  have hat1 := bCells_at (padBody s.data.toList) (n - 1) (by omega)
  have hset1 := bCells_set (padBody s.data.toList) (n - 1) ((padBody s.data.toList).getD (n - 1) 0 ||| 128)
  have hor := u8_or_128 ((padBody s.data.toList).getD (n - 1) 0)
  have HP : Hid ((padBody s.data.toList).set (n - 1) ((padBody s.data.toList).getD (n - 1) 0 ||| 128) = padL s.data.toList) := by
    show _ = padL s.data.toList
    unfold padL; rw [hlb]
  rw [HP.out] at hset1
  have hcv := text_of_row (owns_cells w (padL s.data.toList) (by rw [padL_length]; omega))
  rw [padL_length, hsz, ← hn] at hcv
  generalize (padBody s.data.toList).getD (n - 1) 0 = lastb at hat1 hset1 hor HP
  generalize lastb ||| 128 = nb at hset1 hor HP
  have hq : ((s.size : Int) / 136 + 1) * 136 = (n : Int) := by omega
  have hq' : (Int.tdiv (s.size : Int) 136 + 1) * 136 = (n : Int) := by rw [Int.tdiv_eq_ediv_of_nonneg (by omega)]; exact hq
  have hlt : (s.size : Int) < (n : Int) := by omega
  have hlt2 : (n : Int) - 1 < (n : Int) := by omega
  have hn1 : ((n : Int) - 1).toNat = n - 1 := by omega
  have hn0 : (0 : Int) ≤ (n : Int) - 1 := by omega
  clear hB hl0 hlb hn hll0
  go_enter Tryd.func66, Tryd.ntmps66
  go_wp2
  go_ret
  exact ⟨rfl, (Below.refl _ _).alloc (Nat.le_refl _) _⟩

/-- A value is a row of these bytes from block B on, cell by cell, with room or without. -/
structure RowC (B : Nat) (w : World) (v : Value) (l : List UInt8) (g cap : Nat) : Prop where
  form : v = .slice (some ⟨g, 0, none⟩) l.length cap
  base : B ≤ g
  lt : g < w.heap.size
  le : l.length ≤ cap
  cell : ∀ j (hj : j < l.length), w.cell? ⟨g, j, none⟩ = some (.int .u8 (l[j].toNat : Int))
  has : ∀ j, j < cap → (w.cell? ⟨g, j, none⟩).isSome = true
  free : ∀ j, j < cap → w.frozen? ⟨g, j, none⟩ = false

theorem rowC_conv (w : World) (T : ByteArray) :
    ∃ K w5, (convert 9 45 (.string T)).run Tryd.prog w = .ok (.slice (some ⟨w.heap.size, 0, none⟩) T.size K) w5 ∧ Below w.heap.size w w5 ∧ RowC w.heap.size w5 (.slice (some ⟨w.heap.size, 0, none⟩) T.size K) T.data.toList w.heap.size K := by
  have hsl : T.data.toList.length = T.size := by simp
  have hge := grownCap_ge w T.size 0 5
  have hsz : (Lib.bytesCells w 5 T).size = grownCap w T.size 0 5 := by simp [Lib.bytesCells]; have : T.size = T.data.size := rfl; omega
  refine ⟨_, _, Lib.run_convert_string_bytes (P := Tryd.prog) w 9 45 5 T Tryd.underlying9 Tryd.underlying45 Tryd.underlying5, ?_, ?_, Nat.le_refl _, ?_, ?_, ?_, ?_, ?_⟩
  · exact ⟨rfl, rfl, rfl, by rw [Lib.bytesWorld_size]; omega, fun k hk => Lib.bytesWorld_at_old w 5 T k hk⟩
  · rw [hsl]
  · rw [Lib.bytesWorld_size]; omega
  · rw [hsl]; exact hge
  · intro j hj
    rw [Lib.bytesWorld_cell w 5 T j (by omega)]
    simp only [List.getD_eq_getElem?_getD, List.getElem?_eq_getElem hj, Option.getD_some]
  · intro j hj
    rw [cell_of_row _ _ j _ _ _ (Lib.bytesWorld_at_new w 5 T)]
    have hh : j < (Lib.bytesCells w 5 T).size := by rw [hsz]; exact hj
    simp [hh]
  · intro j hj
    unfold World.frozen?
    rw [Lib.bytesWorld_at_new]
    simp
    omega

theorem rowC_owns {B : Nat} {w : World} {v : Value} {l : List UInt8} (hl : 0 < l.length) (h : w.ownsRow B 5 1 v l.length (bytesV l)) : ∃ g cap, RowC B w v l g cap := by
  rcases h.2 with ⟨rfl, h0⟩ | ⟨g, cap, cur, rfl, hg, hh, hnc, hcp, hcs, htake⟩
  · omega
  · refine ⟨g, cap, rfl, hg, (Array.getElem?_eq_some_iff.1 hh).1, hnc, ?_, ?_, ?_⟩
    · intro j hj
      have := cells_of_row h j hj
      rwa [Addr.add_lit, Nat.zero_add] at this
    · intro j hj
      rw [cell_of_row _ _ j _ _ _ hh]
      have : j < cur.size := by omega
      simp [this]
    · intro j hj
      unfold World.frozen?
      rw [hh]
      simp

theorem RowC.alloc {B : Nat} {w : World} {v : Value} {l : List UInt8} {g cap : Nat} (h : RowC B w v l g cap) (o : Obj) : RowC B (w.alloc o) v l g cap :=
  ⟨h.form, h.base, by have := h.lt; simp; omega, h.le, fun j hj => by rw [World.cell?_alloc_past _ _ _ h.lt]; exact h.cell j hj,
    fun j hj => by rw [World.cell?_alloc_past _ _ _ h.lt]; exact h.has j hj, fun j hj => by rw [World.frozen?_alloc_past _ _ _ h.lt]; exact h.free j hj⟩

theorem put_cell (w : World) (g k : Nat) (v : Value) (h : (w.cell? ⟨g, k, none⟩).isSome = true) : (w.setCells g k [v]).cell? ⟨g, k, none⟩ = some v := by
  have := World.cell?_setCells_in g [v] k w (fun j hj => by simp at hj; subst hj; exact h) 0 (by simp)
  simpa using this
theorem put_other (w : World) (g k j : Nat) (v : Value) (h : j ≠ k) : (w.setCells g k [v]).cell? ⟨g, j, none⟩ = w.cell? ⟨g, j, none⟩ :=
  World.cell?_setCells_out g [v] k w _ (fun _ _ => by simp; omega)
theorem put_size (w : World) (g k : Nat) (v : Value) : (w.setCells g k [v]).heap.size = w.heap.size := by
  simp [World.setCells]

theorem RowC.set {B : Nat} {w : World} {v : Value} {l : List UInt8} {g cap : Nat} (h : RowC B w v l g cap) (k : Nat) (hk : k < l.length) (b : UInt8) : RowC B (w.setCells g k [.int .u8 (b.toNat : Int)]) v (l.set k b) g cap := by
  refine ⟨by rw [List.length_set]; exact h.form, h.base, by rw [put_size]; exact h.lt, by rw [List.length_set]; exact h.le, ?_, ?_, ?_⟩
  · intro j hj
    rw [List.length_set] at hj
    by_cases e : j = k
    · subst e
      rw [put_cell _ _ _ _ (h.has j (by have := h.le; omega))]
      simp
    · rw [put_other _ _ _ _ _ e, h.cell j hj, List.getElem_set_ne (fun e' => e e'.symm)]
  · intro j hj
    by_cases e : j = k
    · subst e
      rw [put_cell _ _ _ _ (h.has j hj)]; rfl
    · rw [put_other _ _ _ _ _ e]; exact h.has j hj
  · intro j hj
    rw [World.frozen?_setCells]; exact h.free j hj

theorem RowC.room {B : Nat} {w : World} {v : Value} {l : List UInt8} {g cap : Nat} (h : RowC B w v l g cap) (hr : l.length + 1 ≤ cap) (b : UInt8) :
    RowC B (w.setCells g l.length [.int .u8 (b.toNat : Int)]) (.slice (some ⟨g, 0, none⟩) (l.length + 1) cap) (l ++ [b]) g cap := by
  refine ⟨by simp, h.base, by rw [put_size]; exact h.lt, by simpa using hr, ?_, ?_, ?_⟩
  · intro j hj
    by_cases e : j = l.length
    · subst e
      rw [put_cell _ _ _ _ (h.has _ (by omega))]
      simp
    · have hj' : j < l.length := by simp at hj; omega
      rw [put_other _ _ _ _ _ e, h.cell j hj', List.getElem_append_left hj']
  · intro j hj
    by_cases e : j = l.length
    · subst e
      rw [put_cell _ _ _ _ (h.has _ hj)]; rfl
    · rw [put_other _ _ _ _ _ e]; exact h.has j hj
  · intro j hj
    rw [World.frozen?_setCells]; exact h.free j hj

/-- An append of one byte onto such a row. -/
theorem append_C {W : World} {ops : Array Oper} {rest : List Oper} {o : Oper} {a : Act} {Q : Exit → Act → World → Prop} (hg : o.guard = none) (s x : Operand)
    (hop : o.op = Op.call { callee := Callee.builtin Builtin.append, args := #[s, x], argTypes := #[45, 45] })
    {B : Nat} {v : Value} {l : List UInt8} {g cap : Nat} (hs : a.eval s = v) (hrow : RowC B W v l g cap) (hl : l.length ≤ 4194304) (ad : Addr) (b : UInt8) (hx : a.eval x = .slice (some ad) 1 1) (hc : W.cell? (ad.add 0) = some (.int .u8 (b.toNat : Int)))
    (K : ∀ v' w1 g' cap', RowC B w1 v' (l ++ [b]) g' cap' → Below B W w1 → wpList Tryd.prog ops Q rest (a.put o.dst v') w1) : wpList Tryd.prog ops Q (o :: rest) a W := by
  obtain ⟨i0, hi, hz0, hz1, hz2⟩ := info_parts info5
  have hBW : B ≤ W.heap.size := by have := hrow.base; have := hrow.lt; omega
  refine wpList_append_arg W hg s x 45 hop 5 i0 (.int .u8 0) 1 1 Tryd.underlying45 hi hz0 hz1 hz2 rfl (by decide) g 0 l.length cap (bytesV l) (hs.trans hrow.form) (by simp [bytesV]) ?_ ad 1 1 [.int .u8 (b.toNat : Int)] hx rfl ?_ (one_cell _ _) ?_ (by unfold maxLen; omega) (by omega) ?_ ?_
  · intro j u hu
    have hj : j < l.length := by have := (List.getElem?_eq_some_iff.1 hu).1; simpa [bytesV] using this
    rw [Nat.zero_add, hrow.cell j hj, ← hu]
    simp [bytesV, hj]
  · intro j u hu
    obtain rfl : j = 0 := by have := (List.getElem?_eq_some_iff.1 hu).1; simp at this; exact this
    rw [hc, ← hu]; rfl
  · intro hr j hj
    simp at hj
    subst hj
    simp only [Nat.mul_one, Nat.zero_add, Nat.add_zero]
    exact ⟨hrow.has _ (by omega), hrow.free _ (by omega)⟩
  · intro hr
    simp only [Nat.mul_one, Nat.zero_add]
    exact K _ _ g cap (hrow.room hr b) (below_setCells hrow.base _ _ _ (Below.refl _ _))
  · intro hr v' w' hown hgr
    have hown' : w'.ownsRow B 5 1 v' (l ++ [b]).length (bytesV (l ++ [b])) := by
      rw [bytesV_append, List.length_append]
      refine ⟨hown.1, ?_⟩
      rcases hown.2 with h0 | ⟨g', cap', cur, h1, h2, h3⟩
      · exact .inl h0
      · exact .inr ⟨g', cap', cur, h1, Nat.le_trans hBW h2, h3⟩
    obtain ⟨g', cap', hR⟩ := rowC_owns (by simp) hown'
    exact K v' w' g' cap' hR ((Below.refl B W).grown hgr hBW (fun k hk => by cases hk))

def lenV : Value → Nat
  | .slice _ n _ => n
  | _ => 0

theorem text_of_C {w : World} {B : Nat} {v : Value} {l : List UInt8} {g cap : Nat} (h : RowC B w v l g cap) :
    (convert 45 9 (.slice (some ⟨g, 0, none⟩) l.length cap)).run Tryd.prog w = .ok (.string ⟨l.toArray⟩) w :=
  run_convert_bytes_back (P := Tryd.prog) w 45 9 5 ⟨g, 0, none⟩ cap l Tryd.underlying45 Tryd.underlying5 Tryd.underlying9 (fun j hj => by
    rw [Addr.add_lit, Nat.zero_add]; exact h.cell j hj)

set_option maxHeartbeats 1600000 in
set_option maxRecDepth 100000 in
theorem sPad_any (s : ByteArray) (hs : s.size ≤ 2097152) (w : World) :
    Calls Tryd.prog 42 #[.string s] w fun e w' => e = .returned (.string (padT s)) ∧ Below w.heap.size w w' := by
  obtain ⟨K, w5, hcv, hb5, hrow5⟩ := rowC_conv w s
  have hsl : s.data.toList.length = s.size := by simp
  go_enter Tryd.func42, Tryd.ntmps42
  go_wp2_with (at_builtin; refine append_C rfl _ _ rfl rfl (hrow5.alloc _) (by omega) ⟨w5.heap.size, 0, none⟩ 1 rfl ?c1 ?_)
  case c1 => exact (cell_one_new w5 (.int .u8 1) 5) 0 _ rfl
  intro v6 w6 g6 c6 hrow6 hb6
  have HR6 : Hid (RowC w.heap.size w6 v6 (padK s.data.toList 0) g6 c6) := hrow6
  have HB6 : Hid (Below w.heap.size w w6) := (hb5.alloc hb5.size _).trans hb6
  clear hrow6 hb6 hrow5 hb5 hcv
  go_wp2
  go_loopw [3] (fun v wr => ∃ (k g cap : Nat), k ≤ 135 - s.size % 136 ∧ RowC w.heap.size wr v (padK s.data.toList k) g cap ∧ Below w.heap.size w wr) (fun v _ => 4194304 - lenV v)
  case atStart => exact ⟨0, g6, c6, Nat.zero_le _, HR6.out, HB6.out⟩
  case round =>
    obtain ⟨k, g, cap, hk, hrow, hbel⟩ := hrel
    obtain rfl := hrow.form
    have hkl := padK_length s.data.toList k
    have HE : Hid ((padK s.data.toList k).length % 136 = 0 → padK s.data.toList k = padBody s.data.toList) := fun h => by
      rw [padK_end (by rw [hsl]; exact hk) h, padK_all]
    have HN : Hid ((padK s.data.toList k).length % 136 ≠ 0 → k + 1 ≤ 135 - s.size % 136) := fun h => by
      have := padK_on (by rw [hsl]; exact hk) h; rwa [hsl] at this
    have HS : Hid (padK s.data.toList (k + 1) = padK s.data.toList k ++ [0]) := padK_succ _ _
    rw [hsl] at hkl
    generalize padK s.data.toList k = l at hrow hkl HE HN HS
    clear HR6 HB6
    by_cases hz : l.length % 136 = 0
    · have HEQ : Hid (l = padBody s.data.toList) := HE.out hz
      have hz' : ((l.length : Int) % 136 != 0) = false := by rw [bne_eq_false_iff_eq]; omega
      have hz2 : (Int.tmod (l.length : Int) 136 != 0) = false := by rw [Int.tmod_eq_emod_of_nonneg (by omega)]; exact hz'
      have hn : 0 < l.length := by omega
      obtain ⟨m, hm⟩ : ∃ m, m = l.length := ⟨_, rfl⟩
      have hc := hrow.cell (l.length - 1) (by omega)
      have hf := hrow.free (l.length - 1) (by have := hrow.le; omega)
      have hL : l[l.length - 1]'(by omega) = l.getD (l.length - 1) 0 := by
        rw [List.getD_eq_getElem?_getD, List.getElem?_eq_getElem (by omega)]; rfl
      rw [hL] at hc
      have hset := hrow.set (l.length - 1) (by omega) (l.getD (l.length - 1) 0 ||| 128)
      have hP : l.set (l.length - 1) (l.getD (l.length - 1) 0 ||| 128) = padL s.data.toList := by
        rw [HEQ.out]; rfl
      have hor := u8_or_128 (l.getD (l.length - 1) 0)
      have hlen : (padL s.data.toList).length = l.length := by rw [← hP, List.length_set]
      rw [hP] at hset
      have hcv := text_of_C hset
      rw [hlen] at hcv
      have HB : Hid (Below w.heap.size w (wr.setCells g (l.length - 1) [.int .u8 ((l.getD (l.length - 1) 0 ||| 128).toNat : Int)])) := below_setCells hrow.base _ _ _ hbel
      generalize l.getD (l.length - 1) 0 = lastb at hc hor hcv hset HB
      generalize lastb ||| 128 = nb at hor hcv hset HB
      simp only [World.setCells] at hcv HB
      rw [← hm] at hcv HB hc hf hz' hz2 hkl hn ⊢
      have hn1 : ((m : Int) - 1).toNat = m - 1 := by omega
      have hn0 : (0 : Int) ≤ (m : Int) - 1 := by omega
      have hlt2 : (m : Int) - 1 < (m : Int) := by omega
      have hmb : m ≤ 4194304 := by omega
      clear hkl HS HN HE hz hL hP hlen hset hrow hbel hm HEQ
      go_wp2
      go_ret
      exact ⟨rfl, HB.out⟩
    · have HK : Hid (k + 1 ≤ 135 - s.size % 136) := HN.out hz
      have hz' : ((l.length : Int) % 136 != 0) = true := by rw [bne_iff_ne]; omega
      have hz2 : (Int.tmod (l.length : Int) 136 != 0) = true := by rw [Int.tmod_eq_emod_of_nonneg (by omega)]; exact hz'
      clear hz HE HN
      go_wp2_with (at_builtin; refine append_C rfl _ _ rfl rfl (hrow.alloc _) (by omega) ⟨wr.heap.size, 0, none⟩ 0 rfl ?c1 ?_)
      case c1 => exact (cell_one_new wr (.int .u8 0) 5) 0 _ rfl
      intro v7 w7 g7 c7 hrow7 hb7
      have HR7 : Hid (RowC w.heap.size w7 v7 (padK s.data.toList (k + 1)) g7 c7) := by
        show RowC w.heap.size w7 v7 (padK s.data.toList (k + 1)) g7 c7
        rw [HS.out]; exact hrow7
      have HB7 : Hid (Below w.heap.size w w7) := (hbel.alloc hbel.size _).trans hb7
      have HF : Hid (lenV v7 = l.length + 1) := by
        show lenV v7 = l.length + 1
        rw [hrow7.form]; simp [lenV]
      clear hrow7 hb7 hrow hbel
      go_wp2
      go_roundw
      case rel => exact ⟨k + 1, g7, c7, HK.out, HR7.out, HB7.out⟩
      case measure => rw [HF.out]; simp [lenV]; omega

end Go.Proofs.YtkmelamfohfdkabDoor

/-
  A digest: plain mathematics.
-/
namespace Go.Proofs.YtkmelamfohfdkabDoor

/-- Words of a text from a place on, put to a state. -/
def mixA (f : Nat → BitVec 64) (l : List UInt8) (a : Nat) : Nat → Nat → BitVec 64
  | 0 => f
  | k + 1 => upd (mixA f l a k) k (mixA f l a k k ^^^ wordAt l (a + 8 * k))

theorem mixA_at (f : Nat → BitVec 64) (l : List UInt8) (a k i : Nat) : mixA f l a k i = if i < k then f i ^^^ wordAt l (a + 8 * i) else f i := by
  induction k with
  | zero => simp [mixA]
  | succ k ih =>
    rw [mixA]
    unfold upd
    by_cases h : i = k
    · subst h; rw [if_pos rfl, ih, if_neg (by omega), if_pos (by omega)]
    · rw [if_neg h, ih]
      by_cases h2 : i < k
      · rw [if_pos h2, if_pos (by omega)]
      · rw [if_neg h2, if_neg (by omega)]

/-- A block of a text. -/
def blk (l : List UInt8) (k : Nat) : List UInt8 := (l.drop (136 * k)).take 136

theorem wordAt_blk (l : List UInt8) (k i : Nat) (h : i < 17) : wordAt (blk l k) (8 * i) = wordAt l (136 * k + 8 * i) := by
  apply BitVec.eq_of_getLsbD_eq
  intro j hj
  rw [wordAt_bit _ _ _ hj, wordAt_bit _ _ _ hj]
  unfold blk
  rw [List.getD_eq_getElem?_getD, List.getD_eq_getElem?_getD, List.getElem?_take, if_pos (by omega), List.getElem?_drop]
  congr 4
  omega

theorem mixA_blk (f : Nat → BitVec 64) (l : List UInt8) (k : Nat) : mixA f l (136 * k) 17 = mixK f (blk l k) 17 := by
  funext i
  rw [mixA_at, mixK_at]
  by_cases h : i < 17
  · rw [if_pos h, if_pos h, wordAt_blk l k i h]
  · rw [if_neg h, if_neg h]

/-- The state behind k blocks. -/
def absK (l : List UInt8) : Nat → Nat → BitVec 64
  | 0 => zf
  | k + 1 => allF (mixK (absK l k) (blk l k) 17)

/-- How many blocks a text has when it is padded. -/
def blocks (s : ByteArray) : Nat := s.size / 136 + 1

/-- A digest. -/
def digT (s : ByteArray) : ByteArray := textT (absK (padT s).data.toList (blocks s)) 4

theorem padT_size (s : ByteArray) : (padT s).size = 136 * blocks s := by
  have h := padL_length s.data.toList
  have hs : s.data.toList.length = s.size := by simp
  rw [hs] at h
  show ((padL s.data.toList).toArray).size = _
  rw [List.size_toArray, h]; rfl

theorem textL_take (f : Nat → BitVec 64) (k j : Nat) : (textL f (k + j)).take (8 * k) = textL f k := by
  induction j with
  | zero => rw [Nat.add_zero, List.take_of_length_le (by rw [textL_length]; exact Nat.le_refl _)]
  | succ j ih =>
    rw [← Nat.add_assoc, textL, List.take_append_of_le_length (by rw [textL_length]; omega), ih]

theorem textT_size (f : Nat → BitVec 64) (n : Nat) : (textT f n).size = 8 * n := by
  show ((textL f n).toArray).size = _
  rw [List.size_toArray, textL_length]

theorem digT_size (s : ByteArray) : (digT s).size = 32 := textT_size _ 4

theorem bytes_ext {a b : ByteArray} (h : a.data.toList = b.data.toList) : a = b := by
  cases a; cases b; congr 1; exact Array.ext' h

theorem extract_list (s : ByteArray) (a b : Nat) : (s.extract a b).data.toList = (s.data.toList.drop a).take (b - a) := by
  simp [ByteArray.data_extract, Array.toList_extract, List.extract]

theorem textT_cut (f : Nat → BitVec 64) : (textT f 25).extract 0 32 = textT f 4 := by
  apply bytes_ext
  rw [extract_list]
  exact textL_take f 4 21

theorem extract_blk (s : ByteArray) (k : Nat) : (s.extract (136 * k) (136 * k + 136)).data.toList = blk s.data.toList k := by
  rw [extract_list]; unfold blk; congr 1; omega

end Go.Proofs.YtkmelamfohfdkabDoor

/-
  A tree of hashes, as the document tells of it.
-/
namespace Go.Proofs.YtkmelamfohfdkabDoor

/-- The levels of so many leaves. -/
def lvN (n : Nat) : Nat := if n ≤ 1 then 0 else if n ≤ 2 then 1 else if n ≤ 4 then 2 else if n ≤ 8 then 3 else if n ≤ 16 then 4 else 5
def lvI (n : Int) : Int := if 0 ≤ n ∧ n ≤ 32 then (lvN n.toNat : Int) else -1

theorem lvN_le (n : Nat) : lvN n ≤ 5 := by
  unfold lvN
  repeat' split
  all_goals omega
theorem lvN_pow {n : Nat} (h : n ≤ 32) : n ≤ 2 ^ lvN n := by
  unfold lvN
  repeat' split
  all_goals omega
/-- A smaller number is too small. -/
theorem lvN_least {n k : Nat} (h : k < lvN n) : 2 ^ k < n := by
  unfold lvN at h
  repeat' split at h
  all_goals first
    | omega
    | (have : k = 0 ∨ k = 1 ∨ k = 2 ∨ k = 3 ∨ k = 4 := by omega
       rcases this with rfl | rfl | rfl | rfl | rfl <;> omega)

section
variable {D : ByteArray → ByteArray}

/-- The empty text. -/
def noT : ByteArray := ⟨#[]⟩

/-- The hashes of leaves, as many as a power of two. -/
def hashL (D : ByteArray → ByteArray) (l : List ByteArray) : List ByteArray := l.map D ++ List.replicate (2 ^ lvN l.length - l.length) (D noT)
theorem hashL_length {l : List ByteArray} (h : l.length ≤ 32) : (hashL D l).length = 2 ^ lvN l.length := by
  unfold hashL
  rw [List.length_append, List.length_map, List.length_replicate]
  have := lvN_pow h
  omega
theorem hashL_at (l : List ByteArray) {i : Nat} (h : i < l.length) : (hashL D l).getD i noT = D (l.getD i noT) := by
  unfold hashL
  simp [List.getD_eq_getElem?_getD, List.getElem?_append_left, h]

/-- Two by two. -/
def upL (D : ByteArray → ByteArray) : List ByteArray → List ByteArray
  | a :: b :: r => D (a ++ b) :: upL D r
  | _ => []
theorem upL_length : ∀ l : List ByteArray, (upL D l).length = l.length / 2
  | [] => rfl
  | [_] => by simp [upL]
  | a :: b :: r => by
    show (upL D r).length + 1 = (r.length + 2) / 2
    rw [upL_length r]
    omega
theorem upL_at : ∀ (l : List ByteArray) (j : Nat), 2 * j + 1 < l.length → (upL D l).getD j noT = D (l.getD (2 * j) noT ++ l.getD (2 * j + 1) noT)
  | [], j, h => by simp at h
  | [_], j, h => by simp at h
  | a :: b :: r, 0, _ => rfl
  | a :: b :: r, j + 1, h => by
    show (upL D r).getD j noT = D ((a :: b :: r).getD (2 * j + 2) noT ++ (a :: b :: r).getD (2 * j + 3) noT)
    rw [upL_at r j (by simp at h; omega)]
    rfl

/-- So many levels up. -/
def upN (D : ByteArray → ByteArray) : Nat → List ByteArray → List ByteArray
  | 0, l => l
  | k + 1, l => upN D k (upL D l)
/-- What stands beside a place, level by level. -/
def brL (D : ByteArray → ByteArray) : Nat → List ByteArray → Nat → List ByteArray
  | 0, _, _ => []
  | k + 1, l, i => l.getD (if i % 2 = 1 then i - 1 else i + 1) noT :: brL D k (upL D l) (i / 2)
theorem brL_length : ∀ (k : Nat) (l : List ByteArray) (i : Nat), (brL D k l i).length = k
  | 0, _, _ => rfl
  | k + 1, l, i => by
    show (brL D k (upL D l) (i / 2)).length + 1 = k + 1
    rw [brL_length k]
/-- A leaf's hash with what stands beside it. -/
def foldL (D : ByteArray → ByteArray) : ByteArray → Nat → List ByteArray → ByteArray
  | x, _, [] => x
  | x, i, b :: r => foldL D (if i % 2 = 1 then D (b ++ x) else D (x ++ b)) (i / 2) r

/-- A leaf and what stands beside it make the root. -/
theorem fold_root : ∀ (k : Nat) (l : List ByteArray) (i : Nat), l.length = 2 ^ k → i < 2 ^ k → foldL D (l.getD i noT) i (brL D k l i) = (upN D k l).getD 0 noT
  | 0, l, i, _, hi => by
    have : i = 0 := by simpa using hi
    rw [this]
    rfl
  | k + 1, l, i, hl, hi => by
    rw [Nat.pow_succ] at hl hi
    show foldL D (if i % 2 = 1 then D (l.getD (if i % 2 = 1 then i - 1 else i + 1) noT ++ l.getD i noT) else D (l.getD i noT ++ l.getD (if i % 2 = 1 then i - 1 else i + 1) noT)) (i / 2) (brL D k (upL D l) (i / 2)) = (upN D k (upL D l)).getD 0 noT
    rw [← fold_root k (upL D l) (i / 2) (by rw [upL_length, hl]; omega) (by omega)]
    congr 1
    rw [upL_at l (i / 2) (by omega)]
    by_cases h : i % 2 = 1
    · rw [if_pos h, if_pos h, show 2 * (i / 2) = i - 1 by omega, show i - 1 + 1 = i by omega]
    · rw [if_neg h, if_neg h, show 2 * (i / 2) = i by omega]

/-- The root of leaves, the branch of one, a leaf with its branch: as the functions answer. -/
def rootT (D : ByteArray → ByteArray) (l : List ByteArray) : ByteArray := if l.length ≤ 32 then (upN D (lvN l.length) (hashL D l)).getD 0 noT else noT
def branchT (D : ByteArray → ByteArray) (l : List ByteArray) (i : Int) : List ByteArray := if l.length ≤ 32 ∧ 0 ≤ i ∧ i < l.length then brL D (lvN l.length) (hashL D l) i.toNat else []
def foldT (D : ByteArray → ByteArray) (t : ByteArray) (i : Int) (br : List ByteArray) : ByteArray := if br.length ≤ 5 ∧ 0 ≤ i ∧ i < 2 ^ br.length then foldL D (D t) i.toNat br else noT

theorem fold_branch {l : List ByteArray} (h : l.length ≤ 32) {i : Nat} (hi : i < l.length) : foldT D (l.getD i noT) i (branchT D l i) = rootT D l ∧ (branchT D l i).length = lvN l.length := by
  have hb : branchT D l i = brL D (lvN l.length) (hashL D l) i := if_pos ⟨h, by omega, by omega⟩
  have hl : (brL D (lvN l.length) (hashL D l) i).length = lvN l.length := brL_length _ _ _
  have hp := lvN_pow h
  rw [hb]
  refine ⟨?_, hl⟩
  unfold foldT rootT
  rw [if_pos h, if_pos ⟨by rw [hl]; exact lvN_le _, by omega, by rw [hl]; exact_mod_cast Nat.lt_of_lt_of_le hi hp⟩]
  rw [← fold_root (lvN l.length) (hashL D l) i (hashL_length h) (by omega), hashL_at l hi]
  rfl

theorem fold_size (hD : ∀ x, (D x).size = 32) : ∀ (br : List ByteArray) (i : Nat), ∀ y : ByteArray, y.size = 32 → (foldL D y i br).size = 32
  | [], _, y, hy => hy
  | b :: r, i, y, hy => by
    show (foldL D _ (i / 2) r).size = 32
    exact fold_size hD r (i / 2) _ (by split <;> exact hD _)

/-- The texts that are hashed on the way. -/
def seenL (D : ByteArray → ByteArray) : ByteArray → Nat → List ByteArray → List ByteArray
  | t, _, [] => [t]
  | t, i, b :: r => t :: seenL D (if i % 2 = 1 then b ++ D t else D t ++ b) (i / 2) r
theorem seenL_length : ∀ (br : List ByteArray) (t : ByteArray) (i : Nat), (seenL D t i br).length = br.length + 1
  | [], _, _ => rfl
  | b :: r, t, i => by
    show (seenL D _ (i / 2) r).length + 1 = r.length + 1 + 1
    rw [seenL_length r]

theorem cat_left {a b c : ByteArray} (h : a ++ b = a ++ c) : b = c := by
  have h1 : (a ++ b).data.toList = (a ++ c).data.toList := by rw [h]
  rw [ByteArray.data_append, ByteArray.data_append, Array.toList_append, Array.toList_append] at h1
  exact bytes_ext (List.append_cancel_left h1)
theorem cat_right {a b c : ByteArray} (h : b ++ a = c ++ a) : b = c := by
  have h1 : (b ++ a).data.toList = (c ++ a).data.toList := by rw [h]
  rw [ByteArray.data_append, ByteArray.data_append, Array.toList_append, Array.toList_append] at h1
  exact bytes_ext (List.append_cancel_right h1)

/-- Of two leaves that make one root at one place, they are one, or two unlike texts have one digest. -/
theorem fold_clash : ∀ (br : List ByteArray) (i : Nat) (t u : ByteArray), t ≠ u → foldL D (D t) i br = foldL D (D u) i br →
    ∃ k, k < br.length + 1 ∧ (seenL D t i br).getD k noT ≠ (seenL D u i br).getD k noT ∧ D ((seenL D t i br).getD k noT) = D ((seenL D u i br).getD k noT)
  | [], i, t, u, hne, h => ⟨0, by simp, hne, h⟩
  | b :: r, i, t, u, hne, h => by
    by_cases hd : D t = D u
    · exact ⟨0, by simp, hne, hd⟩
    · have hne2 : (if i % 2 = 1 then b ++ D t else D t ++ b) ≠ (if i % 2 = 1 then b ++ D u else D u ++ b) := by
        by_cases hi : i % 2 = 1
        · rw [if_pos hi, if_pos hi]
          exact fun e => hd (cat_left e)
        · rw [if_neg hi, if_neg hi]
          exact fun e => hd (cat_right e)
      have hf : foldL D (D (if i % 2 = 1 then b ++ D t else D t ++ b)) (i / 2) r = foldL D (D (if i % 2 = 1 then b ++ D u else D u ++ b)) (i / 2) r := by
        have e : ∀ x : ByteArray, (if i % 2 = 1 then D (b ++ x) else D (x ++ b)) = D (if i % 2 = 1 then b ++ x else x ++ b) := fun x => by split <;> rfl
        have h' : foldL D (if i % 2 = 1 then D (b ++ D t) else D (D t ++ b)) (i / 2) r = foldL D (if i % 2 = 1 then D (b ++ D u) else D (D u ++ b)) (i / 2) r := h
        rw [e, e] at h'
        exact h'
      obtain ⟨k, hk, h1, h2⟩ := fold_clash r (i / 2) _ _ hne2 hf
      exact ⟨k + 1, by simp; omega, h1, h2⟩

end
end Go.Proofs.YtkmelamfohfdkabDoor
