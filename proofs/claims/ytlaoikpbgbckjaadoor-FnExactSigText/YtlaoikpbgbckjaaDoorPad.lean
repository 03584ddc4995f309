/-
  The walks of KeccakPad on both sides.
-/
import Derived.Test.YtlaoikpbgbckjaaDoorJoined5
import Derived.Test.YtlaoikpbgbckjaaDoorJoined8
import Derived.WalkLawsBesides
import Derived.WalkSpells
import Derived.Lib.LazyBuf
import Derived.Lib.ConvBytes
import Derived.ArgAppend
namespace Go.Proofs.YtlaoikpbgbckjaaDoor
open Go.RowKit

/-- A padded text. -/
def padT (s : ByteArray) : ByteArray := ⟨(padL s.data.toList).toArray⟩

theorem cells_put (w : World) : ∀ (vs pre z : List UInt8), vs.length ≤ z.length →
    (w.alloc (.cells (bCells (pre ++ z)) 5)).setCells w.heap.size pre.length (bytesV vs) = w.alloc (.cells (bCells (pre ++ (vs ++ z.drop vs.length))) 5)
  | [], pre, z, _ => by simp [bytesV, World.setCells]
  | v :: vs, pre, [], h => by simp at h
  | v :: vs, pre, y :: z, h => by
    show ((w.alloc (.cells (bCells (pre ++ y :: z)) 5)).setCell ⟨w.heap.size, pre.length, none⟩ (.int .u8 (v.toNat : Int))).setCells w.heap.size (pre.length + 1) (bytesV vs) = _
    rw [World.setCell_alloc_at _ _ _ _ _ rfl, bCells_set]
    have e : (pre ++ y :: z).set pre.length v = (pre ++ [v]) ++ z := by
      rw [List.set_append_right _ _ (Nat.le_refl _), Nat.sub_self]; simp
    have ih := cells_put w vs (pre ++ [v]) z (by simpa using h)
    rw [e, show pre.length + 1 = (pre ++ [v]).length by simp, ih]
    simp

theorem copy_text (w : World) (ty : TypeId) (s : ByteArray) (n : Nat) (h : s.size ≤ n) :
    (Builtin.copy_ #[22, 9] ty #[.slice (some ⟨w.heap.size, 0, none⟩) n n, .string s]).run Tryd.prog (w.alloc (.cells (bCells (List.replicate n 0)) 5)) =
      .ok (goInt s.size) (w.alloc (.cells (bCells (s.data.toList ++ List.replicate (n - s.size) 0)) 5)) := by
  have hsz : s.data.toList.length = s.size := by simp
  have h1 := run_copy_string (P := Tryd.prog) (w.alloc (.cells (bCells (List.replicate n 0)) 5)) 22 9 ty 5 w.heap.size 0 n n s Tryd.underlying22 Tryd.sizeOf5 h
    (fun j hj => by rw [Nat.zero_add, World.cell?_alloc_new]; simp [bCells, bytesV]; omega)
    (fun j _ => World.frozen?_alloc_at _ _ _ _ rfl)
  rw [h1]
  have h2 := cells_put w s.data.toList [] (List.replicate n 0) (by simpa using h)
  simp only [List.nil_append, List.length_nil] at h2
  show Result.ok _ ((w.alloc (.cells (bCells (List.replicate n 0)) 5)).setCells w.heap.size 0 (bytesV s.data.toList)) = _
  rw [h2, hsz, List.drop_replicate]

set_option maxHeartbeats 800000 in
set_option maxRecDepth 100000 in
theorem iPad_any (s : ByteArray) (hs : s.size ≤ 2097152) (w : World) :
    Calls Tryd.prog 70 #[.string s] w fun e w' => e = .returned (.string (padT s)) ∧ Below w.heap.size w w' := by
  obtain ⟨n, hn⟩ : ∃ n, n = 136 * (s.size / 136 + 1) := ⟨_, rfl⟩
  have hsz : s.data.toList.length = s.size := by simp
  have hmk : ∀ W : World, (Instr.makeSlice 22 (.int .i64 (n : Int)) (.int .i64 (n : Int))).run Tryd.prog W = .ok (.slice (some ⟨W.heap.size, 0, none⟩) n n) (W.alloc (.cells (bCells (List.replicate n 0)) 5)) := fun W => make_bytes n n (Nat.le_refl _) (by omega) W
  have hcp := fun ty => copy_text w ty s n (by omega)
  obtain ⟨l0, hl0⟩ : ∃ l0, l0 = s.data.toList ++ List.replicate (n - s.size) 0 := ⟨_, rfl⟩
  have hll0 : l0.length = n := by rw [hl0]; simp; omega
  have hB : l0.set s.size 1 = padBody s.data.toList := by
    rw [hl0, hn, ← hsz]; exact pad_made _
  rw [← hl0] at hcp
  have hat0 := bCells_at l0 s.size (by omega)
  have hset0 : (bCells l0).setIfInBounds s.size (.int .u8 1) = bCells (padBody s.data.toList) := by rw [← hB]; exact bCells_set l0 s.size 1
  have hlb : (padBody s.data.toList).length = n := by rw [padBody_length, hn, hsz]
  have hat1 := bCells_at (padBody s.data.toList) (n - 1) (by omega)
  have hset1 := bCells_set (padBody s.data.toList) (n - 1) ((padBody s.data.toList).getD (n - 1) 0 ||| 128)
  have hor := u8_or_128 ((padBody s.data.toList).getD (n - 1) 0)
  have HP : Hid ((padBody s.data.toList).set (n - 1) ((padBody s.data.toList).getD (n - 1) 0 ||| 128) = padL s.data.toList) := by
    show _ = padL s.data.toList
    unfold padL; rw [hlb]
  rw [HP.out] at hset1
  have hcv := text_of_row (owns_cells w (padL s.data.toList) (by rw [padL_length]; omega))
  rw [padL_length, hsz, ← hn] at hcv
  generalize (padBody s.data.toList).getD (n - 1) 0 = lastb at hat1 hset1 hor HP
  generalize lastb ||| 128 = nb at hset1 hor HP
  have hq : ((s.size : Int) / 136 + 1) * 136 = (n : Int) := by omega
  have hq' : (Int.tdiv (s.size : Int) 136 + 1) * 136 = (n : Int) := by rw [Int.tdiv_eq_ediv_of_nonneg (by omega)]; exact hq
  have hlt : (s.size : Int) < (n : Int) := by omega
  have hlt2 : (n : Int) - 1 < (n : Int) := by omega
  have hn1 : ((n : Int) - 1).toNat = n - 1 := by omega
  have hn0 : (0 : Int) ≤ (n : Int) - 1 := by omega
  clear hB hl0 hlb hn hll0
  go_enter Tryd.func70, Tryd.ntmps70
  go_wp2
  go_ret
  exact ⟨rfl, (Below.refl _ _).alloc (Nat.le_refl _) _⟩

/-- A value is a row of these bytes from block B on, cell by cell, with room or without. -/
structure RowC (B : Nat) (w : World) (v : Value) (l : List UInt8) (g cap : Nat) : Prop where
  form : v = .slice (some ⟨g, 0, none⟩) l.length cap
  base : B ≤ g
  lt : g < w.heap.size
  le : l.length ≤ cap
  cell : ∀ j (hj : j < l.length), w.cell? ⟨g, j, none⟩ = some (.int .u8 (l[j].toNat : Int))
  has : ∀ j, j < cap → (w.cell? ⟨g, j, none⟩).isSome = true
  free : ∀ j, j < cap → w.frozen? ⟨g, j, none⟩ = false

theorem rowC_conv (w : World) (T : ByteArray) :
    ∃ K w5, (convert 9 22 (.string T)).run Tryd.prog w = .ok (.slice (some ⟨w.heap.size, 0, none⟩) T.size K) w5 ∧ Below w.heap.size w w5 ∧ RowC w.heap.size w5 (.slice (some ⟨w.heap.size, 0, none⟩) T.size K) T.data.toList w.heap.size K := by
  have hsl : T.data.toList.length = T.size := by simp
  have hge := grownCap_ge w T.size 0 5
  have hsz : (Lib.bytesCells w 5 T).size = grownCap w T.size 0 5 := by simp [Lib.bytesCells]; have : T.size = T.data.size := rfl; omega
  refine ⟨_, _, Lib.run_convert_string_bytes (P := Tryd.prog) w 9 22 5 T Tryd.underlying9 Tryd.underlying22 Tryd.underlying5, ?_, ?_, Nat.le_refl _, ?_, ?_, ?_, ?_, ?_⟩
  · exact ⟨rfl, rfl, rfl, by rw [Lib.bytesWorld_size]; omega, fun k hk => Lib.bytesWorld_at_old w 5 T k hk⟩
  · rw [hsl]
  · rw [Lib.bytesWorld_size]; omega
  · rw [hsl]; exact hge
  · intro j hj
    rw [Lib.bytesWorld_cell w 5 T j (by omega)]
    simp only [List.getD_eq_getElem?_getD, List.getElem?_eq_getElem hj, Option.getD_some]
  · intro j hj
    rw [cell_of_row _ _ j _ _ _ (Lib.bytesWorld_at_new w 5 T)]
    have hh : j < (Lib.bytesCells w 5 T).size := by rw [hsz]; exact hj
    simp [hh]
  · intro j hj
    unfold World.frozen?
    rw [Lib.bytesWorld_at_new]
    simp
    omega

theorem rowC_owns {B : Nat} {w : World} {v : Value} {l : List UInt8} (hl : 0 < l.length) (h : w.ownsRow B 5 1 v l.length (bytesV l)) : ∃ g cap, RowC B w v l g cap := by
  rcases h.2 with ⟨rfl, h0⟩ | ⟨g, cap, cur, rfl, hg, hh, hnc, hcp, hcs, htake⟩
  · omega
  · refine ⟨g, cap, rfl, hg, (Array.getElem?_eq_some_iff.1 hh).1, hnc, ?_, ?_, ?_⟩
    · intro j hj
      have := cells_of_row h j hj
      rwa [Addr.add_lit, Nat.zero_add] at this
    · intro j hj
      rw [cell_of_row _ _ j _ _ _ hh]
      have : j < cur.size := by omega
      simp [this]
    · intro j hj
      unfold World.frozen?
      rw [hh]
      simp

theorem RowC.alloc {B : Nat} {w : World} {v : Value} {l : List UInt8} {g cap : Nat} (h : RowC B w v l g cap) (o : Obj) : RowC B (w.alloc o) v l g cap :=
  ⟨h.form, h.base, by have := h.lt; simp; omega, h.le, fun j hj => by rw [World.cell?_alloc_past _ _ _ h.lt]; exact h.cell j hj,
    fun j hj => by rw [World.cell?_alloc_past _ _ _ h.lt]; exact h.has j hj, fun j hj => by rw [World.frozen?_alloc_past _ _ _ h.lt]; exact h.free j hj⟩

theorem put_cell (w : World) (g k : Nat) (v : Value) (h : (w.cell? ⟨g, k, none⟩).isSome = true) : (w.setCells g k [v]).cell? ⟨g, k, none⟩ = some v := by
  have := World.cell?_setCells_in g [v] k w (fun j hj => by simp at hj; subst hj; exact h) 0 (by simp)
  simpa using this
theorem put_other (w : World) (g k j : Nat) (v : Value) (h : j ≠ k) : (w.setCells g k [v]).cell? ⟨g, j, none⟩ = w.cell? ⟨g, j, none⟩ :=
  World.cell?_setCells_out g [v] k w _ (fun _ _ => by simp; omega)
theorem put_size (w : World) (g k : Nat) (v : Value) : (w.setCells g k [v]).heap.size = w.heap.size := by
  simp [World.setCells]

theorem RowC.set {B : Nat} {w : World} {v : Value} {l : List UInt8} {g cap : Nat} (h : RowC B w v l g cap) (k : Nat) (hk : k < l.length) (b : UInt8) : RowC B (w.setCells g k [.int .u8 (b.toNat : Int)]) v (l.set k b) g cap := by
  refine ⟨by rw [List.length_set]; exact h.form, h.base, by rw [put_size]; exact h.lt, by rw [List.length_set]; exact h.le, ?_, ?_, ?_⟩
  · intro j hj
    rw [List.length_set] at hj
    by_cases e : j = k
    · subst e
      rw [put_cell _ _ _ _ (h.has j (by have := h.le; omega))]
      simp
    · rw [put_other _ _ _ _ _ e, h.cell j hj, List.getElem_set_ne (fun e' => e e'.symm)]
  · intro j hj
    by_cases e : j = k
    · subst e
      rw [put_cell _ _ _ _ (h.has j hj)]; rfl
    · rw [put_other _ _ _ _ _ e]; exact h.has j hj
  · intro j hj
    rw [World.frozen?_setCells]; exact h.free j hj

theorem RowC.room {B : Nat} {w : World} {v : Value} {l : List UInt8} {g cap : Nat} (h : RowC B w v l g cap) (hr : l.length + 1 ≤ cap) (b : UInt8) :
    RowC B (w.setCells g l.length [.int .u8 (b.toNat : Int)]) (.slice (some ⟨g, 0, none⟩) (l.length + 1) cap) (l ++ [b]) g cap := by
  refine ⟨by simp, h.base, by rw [put_size]; exact h.lt, by simpa using hr, ?_, ?_, ?_⟩
  · intro j hj
    by_cases e : j = l.length
    · subst e
      rw [put_cell _ _ _ _ (h.has _ (by omega))]
      simp
    · have hj' : j < l.length := by simp at hj; omega
      rw [put_other _ _ _ _ _ e, h.cell j hj', List.getElem_append_left hj']
  · intro j hj
    by_cases e : j = l.length
    · subst e
      rw [put_cell _ _ _ _ (h.has _ hj)]; rfl
    · rw [put_other _ _ _ _ _ e]; exact h.has j hj
  · intro j hj
    rw [World.frozen?_setCells]; exact h.free j hj

/-- An append of one byte onto such a row. -/
theorem append_C {W : World} {ops : Array Oper} {rest : List Oper} {o : Oper} {a : Act} {Q : Exit → Act → World → Prop} (hg : o.guard = none) (s x : Operand)
    (hop : o.op = Op.call { callee := Callee.builtin Builtin.append, args := #[s, x], argTypes := #[22, 22] })
    {B : Nat} {v : Value} {l : List UInt8} {g cap : Nat} (hs : a.eval s = v) (hrow : RowC B W v l g cap) (hl : l.length ≤ 4194304) (ad : Addr) (b : UInt8) (hx : a.eval x = .slice (some ad) 1 1) (hc : W.cell? (ad.add 0) = some (.int .u8 (b.toNat : Int)))
    (K : ∀ v' w1 g' cap', RowC B w1 v' (l ++ [b]) g' cap' → Below B W w1 → wpList Tryd.prog ops Q rest (a.put o.dst v') w1) : wpList Tryd.prog ops Q (o :: rest) a W := by
  obtain ⟨i0, hi, hz0, hz1, hz2⟩ := info_parts info5
  have hBW : B ≤ W.heap.size := by have := hrow.base; have := hrow.lt; omega
  refine wpList_append_arg W hg s x 22 hop 5 i0 (.int .u8 0) 1 1 Tryd.underlying22 hi hz0 hz1 hz2 rfl (by decide) g 0 l.length cap (bytesV l) (hs.trans hrow.form) (by simp [bytesV]) ?_ ad 1 1 [.int .u8 (b.toNat : Int)] hx rfl ?_ (one_cell _ _) ?_ (by unfold maxLen; omega) (by omega) ?_ ?_
  · intro j u hu
    have hj : j < l.length := by have := (List.getElem?_eq_some_iff.1 hu).1; simpa [bytesV] using this
    rw [Nat.zero_add, hrow.cell j hj, ← hu]
    simp [bytesV, hj]
  · intro j u hu
    obtain rfl : j = 0 := by have := (List.getElem?_eq_some_iff.1 hu).1; simp at this; exact this
    rw [hc, ← hu]; rfl
  · intro hr j hj
    simp at hj
    subst hj
    simp only [Nat.mul_one, Nat.zero_add, Nat.add_zero]
    exact ⟨hrow.has _ (by omega), hrow.free _ (by omega)⟩
  · intro hr
    simp only [Nat.mul_one, Nat.zero_add]
    exact K _ _ g cap (hrow.room hr b) (below_setCells hrow.base _ _ _ (Below.refl _ _))
  · intro hr v' w' hown hgr
    have hown' : w'.ownsRow B 5 1 v' (l ++ [b]).length (bytesV (l ++ [b])) := by
      rw [bytesV_append, List.length_append]
      refine ⟨hown.1, ?_⟩
      rcases hown.2 with h0 | ⟨g', cap', cur, h1, h2, h3⟩
      · exact .inl h0
      · exact .inr ⟨g', cap', cur, h1, Nat.le_trans hBW h2, h3⟩
    obtain ⟨g', cap', hR⟩ := rowC_owns (by simp) hown'
    exact K v' w' g' cap' hR ((Below.refl B W).grown hgr hBW (fun k hk => by cases hk))

def lenV : Value → Nat
  | .slice _ n _ => n
  | _ => 0

theorem text_of_C {w : World} {B : Nat} {v : Value} {l : List UInt8} {g cap : Nat} (h : RowC B w v l g cap) :
    (convert 22 9 (.slice (some ⟨g, 0, none⟩) l.length cap)).run Tryd.prog w = .ok (.string ⟨l.toArray⟩) w :=
  run_convert_bytes_back (P := Tryd.prog) w 22 9 5 ⟨g, 0, none⟩ cap l Tryd.underlying22 Tryd.underlying5 Tryd.underlying9 (fun j hj => by
    rw [Addr.add_lit, Nat.zero_add]; exact h.cell j hj)

set_option maxHeartbeats 1600000 in
set_option maxRecDepth 100000 in
theorem sPad_any (s : ByteArray) (hs : s.size ≤ 2097152) (w : World) :
    Calls Tryd.prog 64 #[.string s] w fun e w' => e = .returned (.string (padT s)) ∧ Below w.heap.size w w' := by
  obtain ⟨K, w5, hcv, hb5, hrow5⟩ := rowC_conv w s
  have hsl : s.data.toList.length = s.size := by simp
  go_enter Tryd.func64, Tryd.ntmps64
  go_wp2_with (at_builtin; refine append_C rfl _ _ rfl rfl (hrow5.alloc _) (by omega) ⟨w5.heap.size, 0, none⟩ 1 rfl ?c1 ?_)
  case c1 => exact (cell_one_new w5 (.int .u8 1) 5) 0 _ rfl
  intro v6 w6 g6 c6 hrow6 hb6
  have HR6 : Hid (RowC w.heap.size w6 v6 (padK s.data.toList 0) g6 c6) := hrow6
  have HB6 : Hid (Below w.heap.size w w6) := (hb5.alloc hb5.size _).trans hb6
  clear hrow6 hb6 hrow5 hb5 hcv
  go_wp2
  go_loopw [3] (fun v wr => ∃ (k g cap : Nat), k ≤ 135 - s.size % 136 ∧ RowC w.heap.size wr v (padK s.data.toList k) g cap ∧ Below w.heap.size w wr) (fun v _ => 4194304 - lenV v)
  case atStart => exact ⟨0, g6, c6, Nat.zero_le _, HR6.out, HB6.out⟩
  case round =>
    obtain ⟨k, g, cap, hk, hrow, hbel⟩ := hrel
    obtain rfl := hrow.form
    have hkl := padK_length s.data.toList k
    have HE : Hid ((padK s.data.toList k).length % 136 = 0 → padK s.data.toList k = padBody s.data.toList) := fun h => by
      rw [padK_end (by rw [hsl]; exact hk) h, padK_all]
    have HN : Hid ((padK s.data.toList k).length % 136 ≠ 0 → k + 1 ≤ 135 - s.size % 136) := fun h => by
      have := padK_on (by rw [hsl]; exact hk) h; rwa [hsl] at this
    have HS : Hid (padK s.data.toList (k + 1) = padK s.data.toList k ++ [0]) := padK_succ _ _
    rw [hsl] at hkl
    generalize padK s.data.toList k = l at hrow hkl HE HN HS
    clear HR6 HB6
    by_cases hz : l.length % 136 = 0
    · have HEQ : Hid (l = padBody s.data.toList) := HE.out hz
      have hz' : ((l.length : Int) % 136 != 0) = false := by rw [bne_eq_false_iff_eq]; omega
      have hz2 : (Int.tmod (l.length : Int) 136 != 0) = false := by rw [Int.tmod_eq_emod_of_nonneg (by omega)]; exact hz'
      have hn : 0 < l.length := by omega
      obtain ⟨m, hm⟩ : ∃ m, m = l.length := ⟨_, rfl⟩
      have hc := hrow.cell (l.length - 1) (by omega)
      have hf := hrow.free (l.length - 1) (by have := hrow.le; omega)
      have hL : l[l.length - 1]'(by omega) = l.getD (l.length - 1) 0 := by
        rw [List.getD_eq_getElem?_getD, List.getElem?_eq_getElem (by omega)]; rfl
      rw [hL] at hc
      have hset := hrow.set (l.length - 1) (by omega) (l.getD (l.length - 1) 0 ||| 128)
      have hP : l.set (l.length - 1) (l.getD (l.length - 1) 0 ||| 128) = padL s.data.toList := by
        rw [HEQ.out]; rfl
      have hor := u8_or_128 (l.getD (l.length - 1) 0)
      have hlen : (padL s.data.toList).length = l.length := by rw [← hP, List.length_set]
      rw [hP] at hset
      have hcv := text_of_C hset
      rw [hlen] at hcv
      have HB : Hid (Below w.heap.size w (wr.setCells g (l.length - 1) [.int .u8 ((l.getD (l.length - 1) 0 ||| 128).toNat : Int)])) := below_setCells hrow.base _ _ _ hbel
      generalize l.getD (l.length - 1) 0 = lastb at hc hor hcv hset HB
      generalize lastb ||| 128 = nb at hor hcv hset HB
      simp only [World.setCells] at hcv HB
      rw [← hm] at hcv HB hc hf hz' hz2 hkl hn ⊢
      have hn1 : ((m : Int) - 1).toNat = m - 1 := by omega
      have hn0 : (0 : Int) ≤ (m : Int) - 1 := by omega
      have hlt2 : (m : Int) - 1 < (m : Int) := by omega
      have hmb : m ≤ 4194304 := by omega
      clear hkl HS HN HE hz hL hP hlen hset hrow hbel hm HEQ
      go_wp2
      go_ret
      exact ⟨rfl, HB.out⟩
    · have HK : Hid (k + 1 ≤ 135 - s.size % 136) := HN.out hz
      have hz' : ((l.length : Int) % 136 != 0) = true := by rw [bne_iff_ne]; omega
      have hz2 : (Int.tmod (l.length : Int) 136 != 0) = true := by rw [Int.tmod_eq_emod_of_nonneg (by omega)]; exact hz'
      clear hz HE HN
      go_wp2_with (at_builtin; refine append_C rfl _ _ rfl rfl (hrow.alloc _) (by omega) ⟨wr.heap.size, 0, none⟩ 0 rfl ?c1 ?_)
      case c1 => exact (cell_one_new wr (.int .u8 0) 5) 0 _ rfl
      intro v7 w7 g7 c7 hrow7 hb7
      have HR7 : Hid (RowC w.heap.size w7 v7 (padK s.data.toList (k + 1)) g7 c7) := by
        show RowC w.heap.size w7 v7 (padK s.data.toList (k + 1)) g7 c7
        rw [HS.out]; exact hrow7
      have HB7 : Hid (Below w.heap.size w w7) := (hbel.alloc hbel.size _).trans hb7
      have HF : Hid (lenV v7 = l.length + 1) := by
        show lenV v7 = l.length + 1
        rw [hrow7.form]; simp [lenV]
      clear hrow7 hb7 hrow hbel
      go_wp2
      go_roundw
      case rel => exact ⟨k + 1, g7, c7, HK.out, HR7.out, HB7.out⟩
      case measure => rw [HF.out]; simp [lenV]; omega

end Go.Proofs.YtlaoikpbgbckjaaDoor
