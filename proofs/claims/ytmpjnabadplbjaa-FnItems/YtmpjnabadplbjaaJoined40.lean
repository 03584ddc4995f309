/-
  Texts of one's own, joined.
-/
import Derived.Test.YtmpjnabadplbjaaItemLaw2
import Derived.Test.YtmpjnabadplbjaaPlaces
import Derived.Test.YtmpjnabadplbjaaDraw
import Derived.Test.YtmpjnabadplbjaaJoined3

/-
  The walk of the law on a long text: as much mathematics as it wants.
  (-DROP-: what the seat lacks is left out.)
-/
namespace Go.Proofs.Ytmpjnabadplbjaa
open Go.RowKit

/-- A right item's text with more behind it is none. -/
theorem no_more {d e : Nat} {x : It d} {y : It e} {t r : ByteArray} (hx : textI x = (t, true)) (hy : textI y = (t ++ r, true)) (hr : r.size ≠ 0) : False := by
  obtain ⟨h1, h2, h3⟩ := textI_yes (x := x) (by rw [hx])
  obtain ⟨k1, k2, k3⟩ := textI_yes (x := y) (by rw [hy])
  rw [hx] at h3
  rw [hy] at k3
  injection h3 with h4 _
  injection k3 with k4 _
  rw [← h4] at h2
  rw [← k4] at k2
  obtain ⟨a, h5, _⟩ := form_text 900 0 d x r h1 (by rw [← h4]; omega) (by rw [← h4]; exact k2)
  obtain ⟨b, k5, _⟩ := form_text 900 0 e y ByteArray.empty k1 (by rw [← k4]; omega) (by rw [← k4, ByteArray.append_empty]; exact k2)
  rw [← h4] at h5
  rw [← k4, ByteArray.append_empty, h5] at k5
  injection k5 with k6
  injection k6 with _ k7
  rw [k7] at hr
  exact hr rfl
theorem readF_is {t : ByteArray} {y : It (900 + 1)} (h : readF t = some y) : textI y = (t, true) := by
  unfold readF at h
  split at h
  · cases hr : rdF 900 t with
    | none => rw [hr] at h; cases h
    | some p =>
      obtain ⟨z, r⟩ := p
      rw [hr] at h
      have h' : (if textI z = (t, true) then some z else none) = some y := h
      split at h'
      · rename_i h1
        injection h' with e
        subst e
        exact h1
      · cases h'
  · cases h
theorem readF_more {d : Nat} {x : It d} {t r : ByteArray} (hx : textI x = (t, true)) (hr : r.size ≠ 0) : readF (t ++ r) = none := by
  cases h : readF (t ++ r) with
  | none => rfl
  | some y => exact (no_more hx (readF_is h) hr).elim
theorem readF_less {d : Nat} {x : It d} {t r : ByteArray} (hx : textI x = (t ++ r, true)) (hr : r.size ≠ 0) : readF t = none := by
  cases h : readF t with
  | none => rfl
  | some y => exact (no_more (readF_is h) hx hr).elim
theorem readF_back {d : Nat} {x : It d} {t : ByteArray} (hx : textI x = (t, true)) : ∃ y : It (900 + 1), readF t = some y ∧ sameD d (900 + 1) x y = true := by
  obtain ⟨z, h1, h2, _⟩ := read_back (x := x) (by rw [hx])
  rw [hx] at h1
  rcases readF_so t with ⟨h3, _⟩ | ⟨a, b, h3, h4, h5⟩
  · rw [h3] at h1; cases h1
  · rw [h3] at h1
    injection h1 with h1
    subst h1
    exact ⟨b, h4, same_trans _ _ _ _ _ _ h2 h5⟩
theorem numT_few : (List.range 600).all (fun n => (numT n).size == if n = 0 then 0 else if n ≤ 255 then 1 else 2) = true := by decide +kernel
theorem headB_few {n : Nat} (h : n < 600) : (headB n 128).size = if n ≤ 55 then 1 else if n ≤ 255 then 2 else 3 := by
  unfold headB
  by_cases h1 : n ≤ 55
  · rw [if_pos h1, if_pos h1]; rfl
  · rw [if_neg h1, if_neg h1, ByteArray.size_append]
    have h2 := List.all_eq_true.1 numT_few n (List.mem_range.2 h)
    rw [beq_iff_eq] at h2
    rw [h2, if_neg (by omega)]
    show 1 + _ = _
    by_cases h3 : n ≤ 255
    · rw [if_pos h3, if_pos h3]
    · rw [if_neg h3, if_neg h3]
/-- So many bytes of one kind. -/
def repB (n : Nat) (c : UInt8) : ByteArray := ⟨(List.replicate n c).toArray⟩
theorem repB_size (n : Nat) (c : UInt8) : (repB n c).size = n := by show (List.replicate n c).toArray.size = n; simp
theorem rep_lone (n : Nat) (c : UInt8) (h : 128 ≤ c.toNat) : lone (repB n c) = false := by
  unfold lone
  rw [repB_size]
  by_cases h1 : n = 1
  · subst h1
    have : (repB 1 c).get! 0 = c := rfl
    rw [this]
    simp
    omega
  · simp [h1]
/-- A text item. -/
def txtI (B : ByteArray) : It (0 + 1) := (false, B, [])
theorem txt_text {n : Nat} {c : UInt8} (h : n < 600) (hc : 128 ≤ c.toNat) : ∃ T : ByteArray, textI (txtI (repB n c)) = (T, true) ∧ T.size = (if n ≤ 55 then 1 else if n ≤ 255 then 2 else 3) + n := by
  have hok : okI (txtI (repB n c)) = true := by
    unfold okI
    rw [okD, if_neg (by show ¬ false = true; decide)]
    show (decide (([] : List (It 0)).length = 0) && decide ((repB n c).size ≤ 600)) = true
    rw [repB_size]
    simp
    omega
  have hT : textD (0 + 1) (txtI (repB n c)) = headB n 128 ++ repB n c := by
    rw [textD, if_neg (by show ¬ false = true; decide)]
    show (if lone (repB n c) then repB n c else headB (repB n c).size 128 ++ repB n c) = _
    rw [rep_lone n c hc, repB_size]
    rfl
  have hs : (textD (0 + 1) (txtI (repB n c))).size = (if n ≤ 55 then 1 else if n ≤ 255 then 2 else 3) + n := by rw [hT, ByteArray.size_append, headB_few h, repB_size]
  refine ⟨textD (0 + 1) (txtI (repB n c)), textI_of hok ?_, hs⟩
  rw [hs]
  split
  · omega
  · split <;> omega
/-- What is written of a long text, and what is read of it, of more, of less. -/
theorem long_told {n : Nat} {c : UInt8} (h : n < 600) (hc : 128 ≤ c.toNat) : ∃ T : ByteArray, textI (txtI (repB n c)) = (T, true) ∧ T.size = (if n ≤ 55 then 1 else if n ≤ 255 then 2 else 3) + n ∧ (∃ y, readF T = some y ∧ itT y = repB n c) ∧ readF (T ++ ⟨#[120]⟩) = none ∧ readF (T.extract 0 (T.size - 1)) = none := by
  obtain ⟨T, h1, h2⟩ := txt_text h hc
  obtain ⟨y, h3, h4⟩ := readF_back h1
  refine ⟨T, h1, h2, ⟨y, h3, ?_⟩, readF_more h1 (by decide), ?_⟩
  · rw [sameD] at h4
    simp only [Bool.and_eq_true, decide_eq_true_eq] at h4
    exact h4.2.1.symm
  · have hp : 1 ≤ T.size := by rw [h2]; split <;> omega
    have e : T.extract 0 (T.size - 1) ++ T.extract (T.size - 1) T.size = T := by
      rw [ByteArray.extract_append_extract]
      rw [Nat.min_eq_left (by omega), Nat.max_eq_right (by omega)]
      exact ByteArray.extract_zero_size
    exact readF_less (r := T.extract (T.size - 1) T.size) (by rw [e]; exact h1) (by rw [ByteArray.size_extract]; omega)

end Go.Proofs.Ytmpjnabadplbjaa

/-
  Blocks beside the cursor of a draw; results that live in blocks.
-/
namespace Go.Proofs.Ytmpjnabadplbjaa
open Go.RowKit

/-- A block that lies there is left alone by what grows the cursor. -/
theorem Blk.grown {w w' : World} {c g : Nat} {t : TypeId} {cs : Array Value} (h : Blk w g t cs) (hg : w.grownBy w' (some c)) (hne : g ≠ c) : Blk w' g t cs := (hg.block g h.lt (fun e => hne (Option.some.inj e))).trans h
/-- The cursor behind a store into a block of one's own. -/
theorem CurEnd.row {w w1 w2 : World} {c len cap g : Nat} {a : Option Addr} (h : CurEnd w w1 c a len cap) (hg : w.heap.size ≤ g) (hc : c < w.heap.size) (hoth : ∀ k, k ≠ g → w2.heap[k]? = w1.heap[k]?) (hb : ∀ B w0, B ≤ g → Below B w0 w1 → Below B w0 w2) : CurEnd w w2 c a len cap := by
  obtain ⟨i, hh, hi, hbk⟩ := h.cur
  have hbel := hb g w1 (Nat.le_refl _) (Below.refl _ _)
  refine ⟨⟨i, hh, hi, (hoth c (by omega)).trans hbk⟩, h.arg.on (hbel.mono (by omega)), ?_⟩
  refine ⟨hbel.os.trans h.grown.os, hbel.tape.trans h.grown.tape, hbel.output.trans h.grown.output, Nat.le_trans h.grown.size hbel.size, fun k hk hne => ?_⟩
  rw [hoth k (by omega)]
  exact h.grown.block k hk hne
theorem heap_setCell_ne (w : World) (g i k : Nat) (v : Value) (h : k ≠ g) : (w.setCell ⟨g, i, none⟩ v).heap[k]? = w.heap[k]? := Below.heap_setCell w ⟨g, i, none⟩ v k h
theorem CurEnd.cell {w w1 : World} {c len cap g i : Nat} {a : Option Addr} (h : CurEnd w w1 c a len cap) (hg : w.heap.size ≤ g) (hc : c < w.heap.size) (v : Value) : CurEnd w (w1.setCell ⟨g, i, none⟩ v) c a len cap :=
  h.row hg hc (fun k hk => heap_setCell_ne w1 g i k v hk) (fun _ _ hB hb => hb.setCell hB v)

/-- Two results that live in blocks. -/
theorem result_blk2 {P : Program} {fn : Func} {p q : Tmp} {ty ty' t t' : TypeId} {fs fs' : Array Field} (h : fn.results = #[.cell p ty, .cell q ty']) {tmps : Array Value} {w : World} {g g' : Nat} {cs cs' : Array Value} (hp : tmps.getD p undef = .pointer (some ⟨g, 0, none⟩)) (hq : tmps.getD q undef = .pointer (some ⟨g', 0, none⟩))
    (hA : Blk w g t cs) (hB : Blk w g' t' cs') (hu : P.underlying ty = some (.struct fs)) (hi : (P.info? ty).map (·.size) = some cs.size) (hu' : P.underlying ty' = some (.struct fs')) (hi' : (P.info? ty').map (·.size) = some cs'.size) : (results fn tmps).run P w = .ok (.tuple #[.agg cs, .agg cs']) w := by
  have hl := hA.load hu hi
  have hl' := hB.load hu' hi'
  have hp' : tmps[p]?.getD undef = .pointer (some ⟨g, 0, none⟩) := by simpa using hp
  have hq' : tmps[q]?.getD undef = .pointer (some ⟨g', 0, none⟩) := by simpa using hq
  simp [results, h, hp', hq', asAddr, hl, hl', Result.andThen]

/-- Three results that live in blocks. -/
theorem result_blk3 {P : Program} {fn : Func} {p q r : Tmp} {ty ty' ty'' t t' t'' : TypeId} {fs fs' fs'' : Array Field} (h : fn.results = #[.cell p ty, .cell q ty', .cell r ty'']) {tmps : Array Value} {w : World} {g g' g'' : Nat} {cs cs' cs'' : Array Value} (hp : tmps.getD p undef = .pointer (some ⟨g, 0, none⟩)) (hq : tmps.getD q undef = .pointer (some ⟨g', 0, none⟩)) (hr : tmps.getD r undef = .pointer (some ⟨g'', 0, none⟩))
    (hA : Blk w g t cs) (hB : Blk w g' t' cs') (hC : Blk w g'' t'' cs'') (hu : P.underlying ty = some (.struct fs)) (hi : (P.info? ty).map (·.size) = some cs.size) (hu' : P.underlying ty' = some (.struct fs')) (hi' : (P.info? ty').map (·.size) = some cs'.size) (hu'' : P.underlying ty'' = some (.struct fs'')) (hi'' : (P.info? ty'').map (·.size) = some cs''.size) : (results fn tmps).run P w = .ok (.tuple #[.agg cs, .agg cs', .agg cs'']) w := by
  have hl := hA.load hu hi
  have hl' := hB.load hu' hi'
  have hl'' := hC.load hu'' hi''
  have hp' : tmps[p]?.getD undef = .pointer (some ⟨g, 0, none⟩) := by simpa using hp
  have hq' : tmps[q]?.getD undef = .pointer (some ⟨g', 0, none⟩) := by simpa using hq
  have hr' : tmps[r]?.getD undef = .pointer (some ⟨g'', 0, none⟩) := by simpa using hr
  simp [results, h, hp', hq', hr', asAddr, hl, hl', hl'', Result.andThen]

/-- A result in a slot, and one that lives in a block. -/
theorem result_tmpB {P : Program} {fn : Func} {p q : Tmp} {ty t : TypeId} {fs : Array Field} (h : fn.results = #[.tmp q, .cell p ty]) {tmps : Array Value} {w : World} {g : Nat} {cs : Array Value} {v : Value} (hq : tmps.getD q undef = v) (hp : tmps.getD p undef = .pointer (some ⟨g, 0, none⟩))
    (hA : Blk w g t cs) (hu : P.underlying ty = some (.struct fs)) (hi : (P.info? ty).map (·.size) = some cs.size) : (results fn tmps).run P w = .ok (.tuple #[v, .agg cs]) w := by
  have hl := hA.load hu hi
  have hp' : tmps[p]?.getD undef = .pointer (some ⟨g, 0, none⟩) := by simpa using hp
  have hq' : tmps[q]?.getD undef = v := by simpa using hq
  simp [results, h, hp', hq', asAddr, hl, Result.andThen]

/-- The cursor behind a store of a whole struct into a block of one's own. -/
theorem CurEnd.store {w w1 w2 : World} {c len cap g : Nat} {a : Option Addr} (h : CurEnd w w1 c a len cap) (hg : w.heap.size ≤ g) (hc : c < w.heap.size) (hoth : ∀ g' t cs, g ≠ g' → Blk w1 g' t cs → Blk w2 g' t cs) (hb : ∀ B w0, B ≤ g → Below B w0 w1 → Below B w0 w2) : CurEnd w w2 c a len cap := by
  obtain ⟨i, hh, hi, hbk⟩ := h.cur
  have hbel := hb g w1 (Nat.le_refl _) (Below.refl _ _)
  refine ⟨⟨i, hh, hi, hoth c _ _ (by omega) hbk⟩, h.arg.on (hbel.mono (by omega)), ?_⟩
  refine ⟨hbel.os.trans h.grown.os, hbel.tape.trans h.grown.tape, hbel.output.trans h.grown.output, Nat.le_trans h.grown.size hbel.size, fun k hk hne => ?_⟩
  rw [hbel.block k (by omega)]
  exact h.grown.block k hk hne

theorem CurEnd.drew {w w1 : World} {c len cap : Nat} {a : Option Addr} (h : CurEnd w w1 c a len cap) : CurEnd w w1.drew c a len cap := ⟨h.cur, h.arg, grown_drew h.grown⟩

/-- The cursor behind a call that makes blocks of its own alone. -/
theorem CurEnd.below {w w1 w2 : World} {c len cap : Nat} {a : Option Addr} (h : CurEnd w w1 c a len cap) (hb : Below w1.heap.size w1 w2) : CurEnd w w2 c a len cap := by
  have hlt := h.cur.lt
  obtain ⟨i, hh, hi, hbk⟩ := h.cur
  refine ⟨⟨i, hh, hi, (hb.block c hlt).trans hbk⟩, h.arg.on (hb.mono (Nat.le_of_lt hlt)), ?_⟩
  refine ⟨hb.os.trans h.grown.os, hb.tape.trans h.grown.tape, hb.output.trans h.grown.output, Nat.le_trans h.grown.size hb.size, fun k hk hne => ?_⟩
  rw [hb.block k (Nat.lt_of_lt_of_le hk h.grown.size)]
  exact h.grown.block k hk hne

end Go.Proofs.Ytmpjnabadplbjaa
