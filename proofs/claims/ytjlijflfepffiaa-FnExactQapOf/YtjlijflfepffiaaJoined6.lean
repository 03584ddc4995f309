/-
  Texts of one's own, joined.
-/
import Derived.Test.YtjlijflfepffiaaCur
import Derived.Test.YtjlijflfepffiaaJoined2

/-
  The draws: a new cursor, whether, a pick of ints, a text.
  (-DROP-: what the seat lacks is left out.)
-/
namespace Go.Proofs.Ytjlijflfepffiaa
open Go.RowKit

set_option maxHeartbeats 800000 in
set_option maxRecDepth 100000 in
theorem new_any (len cap : Nat) (a : Option Addr) (hm : len ≤ 1048576) (w : World) (hA : ArgAt w a len w.heap.size) :
    Calls Try.prog 45 #[.slice a len cap] w fun e w' => e = .returned (.pointer (some ⟨w.heap.size, 0, none⟩)) ∧ CurAt w' w.heap.size a len cap ∧ ArgAt w' a len w.heap.size ∧ Below w.heap.size w w' := by
  go_enter Try.func45, Try.ntmps45
  go_wp2
  go_loop [3, 4] (fun x i => ∃ (h : Int) (k : Nat), x = .int .i64 h ∧ i = .int .i64 (k : Int) ∧ k ≤ len) (fun _ i => len - (intOf i).toNat)
  case atStart => exact ⟨_, 0, rfl, rfl, Nat.zero_le _⟩
  case round =>
    obtain ⟨h, k, rfl, rfl, hk⟩ := hrel
    have fin : ∀ w', w' = w.alloc (.cells #[.slice a len cap, .int .i64 0, .int .i64 h] 99) → CurAt w' w.heap.size a len cap ∧ ArgAt w' a len w.heap.size ∧ Below w.heap.size w w' := by
      intro w' hw
      have hb : Below w.heap.size w w' := by rw [hw]; exact (Below.refl _ _).alloc (Nat.le_refl _) _
      exact ⟨⟨0, h, Nat.zero_le _, by rw [hw]; exact heap_alloc_new w _⟩, hA.on hb, hb⟩
    have FIN : Hid (∀ w', w' = w.alloc (.cells #[.slice a len cap, .int .i64 0, .int .i64 h] 99) → CurAt w' w.heap.size a len cap ∧ ArgAt w' a len w.heap.size ∧ Below w.heap.size w w') := fin
    clear fin
    by_cases hlt : k < len
    · have hlt' : (k : Int) < (len : Int) := by omega
      by_cases h4 : k < 4000
      · have h4' : (k : Int) < 4000 := by omega
        obtain ⟨b, off, z, ha, hbc, hz, hz0, hz1⟩ := hA k hlt
        subst ha
        have hk0 : (0 : Int) ≤ (k : Int) := by omega
        go_wp2
        go_round
        case rel => exact ⟨_, k + 1, rfl, by go_num, hlt⟩
        case measure => simp [intOf]; omega
      · have h4' : ¬ (k : Int) < 4000 := by omega
        go_wp2
        go_ret
        exact ⟨rfl, FIN.out _ rfl⟩
    · have hlt' : ¬ (k : Int) < (len : Int) := by omega
      go_wp2
      go_ret
      exact ⟨rfl, FIN.out _ rfl⟩

theorem CurEnd.alloc {w w1 : World} {c len cap : Nat} {a : Option Addr} (h : CurEnd w w1 c a len cap) (o : Obj) : CurEnd w (w1.alloc o) c a len cap := by
  have hlt := h.cur.lt
  obtain ⟨i, hh, hi, hb⟩ := h.cur
  exact ⟨⟨i, hh, hi, (Below.heap_alloc w1 o c hlt).trans hb⟩, h.arg.on ((Below.refl c w1).alloc (Nat.le_of_lt hlt) o), grown_trans h.grown (World.grownBy_alloc _ _ _)⟩

/-- The cursor behind an append to a row above it. -/
theorem CurEnd.push {w w1 w2 : World} {c len cap : Nat} {a : Option Addr} {row : Option Nat} (h : CurEnd w w1 c a len cap) (hg : w1.grownBy w2 row) (hr : ∀ k, row = some k → c < k) (hw : ∀ k, row = some k → w.heap.size ≤ k) : CurEnd w w2 c a len cap := by
  have hlt := h.cur.lt
  obtain ⟨i, hh, hi, hb⟩ := h.cur
  have hne : some c ≠ row := fun e => by have := hr c e.symm; omega
  refine ⟨⟨i, hh, hi, (hg.block c hlt hne).trans hb⟩, h.arg.on ((Below.refl c w1).grown hg (Nat.le_of_lt hlt) (fun k hk => Nat.le_of_lt (hr k hk))), ?_⟩
  refine ⟨hg.os.trans h.grown.os, hg.tape.trans h.grown.tape, hg.output.trans h.grown.output, Nat.le_trans h.grown.size hg.size, fun k hk hne2 => ?_⟩
  rw [hg.block k (Nat.lt_of_lt_of_le hk h.grown.size) (fun e => by have := hw k e.symm; omega)]
  exact h.grown.block k hk hne2

set_option maxRecDepth 100000 in
theorem once_any (c len cap : Nat) (a : Option Addr) (hm : len ≤ 1048576) (n : Int) (hn : 0 < n) (hn2 : n ≤ 1000000000000) (w : World) (hC : CurAt w c a len cap) (hA : ArgAt w a len c) :
    Calls Try.prog 76 #[.pointer (some ⟨c, 0, none⟩), .int .i64 n] w fun e w' => ∃ x : Bool, e = .returned (.bool x) ∧ CurEnd w w' c a len cap := by
  have HA : Hid (ArgAt w a len c) := hA
  have HC : Hid (CurAt w c a len cap) := hC
  clear hA hC
  go_enter Try.func76, Try.ntmps76
  go_wp2_with fail
  refine (below_any c len cap a hm n hn hn2 _ HC.out HA.out).mono ?_
  rintro e w1 ⟨x, rfl, x0, x1, hE⟩
  have HE : Hid (CurEnd w w1 c a len cap) := hE
  clear hE
  go_wp2
  go_ret
  exact ⟨_, rfl, HE.out⟩

set_option maxRecDepth 100000 in
theorem pick_any (c len cap : Nat) (a : Option Addr) (hm : len ≤ 1048576) (g n m : Nat) (hn : 0 < n) (hn2 : n ≤ 1000) (w : World) (hC : CurAt w c a len cap) (hA : ArgAt w a len c) (hg : g ≠ c)
    (Q : Int → Prop) (hl : ∀ j, j < n → ∃ z : Int, w.cell? ⟨g, j, none⟩ = some (.int .i64 z) ∧ Q z) :
    Calls Try.prog 96 #[.pointer (some ⟨c, 0, none⟩), .slice (some ⟨g, 0, none⟩) n m] w fun e w' => ∃ x : Int, e = .returned (.int .i64 x) ∧ Q x ∧ CurEnd w w' c a len cap := by
  have HA : Hid (ArgAt w a len c) := hA
  have HC : Hid (CurAt w c a len cap) := hC
  have HL : Hid (∀ j, j < n → ∃ z : Int, w.cell? ⟨g, j, none⟩ = some (.int .i64 z) ∧ Q z) := hl
  clear hA hC hl
  go_enter Try.func96, Try.ntmps96
  go_wp2_with fail
  refine (below_any c len cap a hm (n : Int) (by omega) (by omega) _ HC.out HA.out).mono ?_
  rintro e w1 ⟨x, rfl, x0, x1, hE⟩
  have HE : Hid (CurEnd w w1 c a len cap) := hE
  clear hE
  obtain ⟨k, rfl⟩ : ∃ k : Nat, x = k := ⟨x.toNat, by omega⟩
  obtain ⟨z, hz, hQ⟩ := HL.out k (by omega)
  have HQ : Hid (Q z) := hQ
  have hz1 : w1.cell? ⟨g, k, none⟩ = some (.int .i64 z) := HE.out.grown.cell hz (fun e => hg (Option.some.inj e))
  clear hz hQ
  go_wp2
  go_ret
  exact ⟨_, rfl, HQ.out, HE.out⟩

theorem ints_new (w : World) (zs : List Int) (arr : Array Value) (he : arr = (zs.map (Value.int .i64)).toArray) (Q : Int → Prop) (hQ : ∀ z ∈ zs, Q z) : ∀ j, j < zs.length → ∃ z : Int, (w.alloc (.cells arr 3)).cell? ⟨w.heap.size, j, none⟩ = some (.int .i64 z) ∧ Q z := by
  intro j hj
  refine ⟨zs[j], ?_, hQ _ (List.getElem_mem hj)⟩
  rw [cell_of_row _ w.heap.size j arr 3 (0, 0) (heap_alloc_new w _), he]
  simp [hj]

end Go.Proofs.Ytjlijflfepffiaa

/-
  Blocks beside the cursor of a draw; results that live in blocks.
-/
namespace Go.Proofs.Ytjlijflfepffiaa
open Go.RowKit

/-- A block that lies there is left alone by what grows the cursor. -/
theorem Blk.grown {w w' : World} {c g : Nat} {t : TypeId} {cs : Array Value} (h : Blk w g t cs) (hg : w.grownBy w' (some c)) (hne : g ≠ c) : Blk w' g t cs := (hg.block g h.lt (fun e => hne (Option.some.inj e))).trans h
/-- The cursor behind a store into a block of one's own. -/
theorem CurEnd.row {w w1 w2 : World} {c len cap g : Nat} {a : Option Addr} (h : CurEnd w w1 c a len cap) (hg : w.heap.size ≤ g) (hc : c < w.heap.size) (hoth : ∀ k, k ≠ g → w2.heap[k]? = w1.heap[k]?) (hb : ∀ B w0, B ≤ g → Below B w0 w1 → Below B w0 w2) : CurEnd w w2 c a len cap := by
  obtain ⟨i, hh, hi, hbk⟩ := h.cur
  have hbel := hb g w1 (Nat.le_refl _) (Below.refl _ _)
  refine ⟨⟨i, hh, hi, (hoth c (by omega)).trans hbk⟩, h.arg.on (hbel.mono (by omega)), ?_⟩
  refine ⟨hbel.os.trans h.grown.os, hbel.tape.trans h.grown.tape, hbel.output.trans h.grown.output, Nat.le_trans h.grown.size hbel.size, fun k hk hne => ?_⟩
  rw [hoth k (by omega)]
  exact h.grown.block k hk hne
theorem heap_setCell_ne (w : World) (g i k : Nat) (v : Value) (h : k ≠ g) : (w.setCell ⟨g, i, none⟩ v).heap[k]? = w.heap[k]? := Below.heap_setCell w ⟨g, i, none⟩ v k h
theorem CurEnd.cell {w w1 : World} {c len cap g i : Nat} {a : Option Addr} (h : CurEnd w w1 c a len cap) (hg : w.heap.size ≤ g) (hc : c < w.heap.size) (v : Value) : CurEnd w (w1.setCell ⟨g, i, none⟩ v) c a len cap :=
  h.row hg hc (fun k hk => heap_setCell_ne w1 g i k v hk) (fun _ _ hB hb => hb.setCell hB v)

/-- Two results that live in blocks. -/
theorem result_blk2 {P : Program} {fn : Func} {p q : Tmp} {ty ty' t t' : TypeId} {fs fs' : Array Field} (h : fn.results = #[.cell p ty, .cell q ty']) {tmps : Array Value} {w : World} {g g' : Nat} {cs cs' : Array Value} (hp : tmps.getD p undef = .pointer (some ⟨g, 0, none⟩)) (hq : tmps.getD q undef = .pointer (some ⟨g', 0, none⟩))
    (hA : Blk w g t cs) (hB : Blk w g' t' cs') (hu : P.underlying ty = some (.struct fs)) (hi : (P.info? ty).map (·.size) = some cs.size) (hu' : P.underlying ty' = some (.struct fs')) (hi' : (P.info? ty').map (·.size) = some cs'.size) : (results fn tmps).run P w = .ok (.tuple #[.agg cs, .agg cs']) w := by
  have hl := hA.load hu hi
  have hl' := hB.load hu' hi'
  have hp' : tmps[p]?.getD undef = .pointer (some ⟨g, 0, none⟩) := by simpa using hp
  have hq' : tmps[q]?.getD undef = .pointer (some ⟨g', 0, none⟩) := by simpa using hq
  simp [results, h, hp', hq', asAddr, hl, hl', Result.andThen]

/-- Three results that live in blocks. -/
theorem result_blk3 {P : Program} {fn : Func} {p q r : Tmp} {ty ty' ty'' t t' t'' : TypeId} {fs fs' fs'' : Array Field} (h : fn.results = #[.cell p ty, .cell q ty', .cell r ty'']) {tmps : Array Value} {w : World} {g g' g'' : Nat} {cs cs' cs'' : Array Value} (hp : tmps.getD p undef = .pointer (some ⟨g, 0, none⟩)) (hq : tmps.getD q undef = .pointer (some ⟨g', 0, none⟩)) (hr : tmps.getD r undef = .pointer (some ⟨g'', 0, none⟩))
    (hA : Blk w g t cs) (hB : Blk w g' t' cs') (hC : Blk w g'' t'' cs'') (hu : P.underlying ty = some (.struct fs)) (hi : (P.info? ty).map (·.size) = some cs.size) (hu' : P.underlying ty' = some (.struct fs')) (hi' : (P.info? ty').map (·.size) = some cs'.size) (hu'' : P.underlying ty'' = some (.struct fs'')) (hi'' : (P.info? ty'').map (·.size) = some cs''.size) : (results fn tmps).run P w = .ok (.tuple #[.agg cs, .agg cs', .agg cs'']) w := by
  have hl := hA.load hu hi
  have hl' := hB.load hu' hi'
  have hl'' := hC.load hu'' hi''
  have hp' : tmps[p]?.getD undef = .pointer (some ⟨g, 0, none⟩) := by simpa using hp
  have hq' : tmps[q]?.getD undef = .pointer (some ⟨g', 0, none⟩) := by simpa using hq
  have hr' : tmps[r]?.getD undef = .pointer (some ⟨g'', 0, none⟩) := by simpa using hr
  simp [results, h, hp', hq', hr', asAddr, hl, hl', hl'', Result.andThen]

/-- A result in a slot, and one that lives in a block. -/
theorem result_tmpB {P : Program} {fn : Func} {p q : Tmp} {ty t : TypeId} {fs : Array Field} (h : fn.results = #[.tmp q, .cell p ty]) {tmps : Array Value} {w : World} {g : Nat} {cs : Array Value} {v : Value} (hq : tmps.getD q undef = v) (hp : tmps.getD p undef = .pointer (some ⟨g, 0, none⟩))
    (hA : Blk w g t cs) (hu : P.underlying ty = some (.struct fs)) (hi : (P.info? ty).map (·.size) = some cs.size) : (results fn tmps).run P w = .ok (.tuple #[v, .agg cs]) w := by
  have hl := hA.load hu hi
  have hp' : tmps[p]?.getD undef = .pointer (some ⟨g, 0, none⟩) := by simpa using hp
  have hq' : tmps[q]?.getD undef = v := by simpa using hq
  simp [results, h, hp', hq', asAddr, hl, Result.andThen]

/-- The cursor behind a store of a whole struct into a block of one's own. -/
theorem CurEnd.store {w w1 w2 : World} {c len cap g : Nat} {a : Option Addr} (h : CurEnd w w1 c a len cap) (hg : w.heap.size ≤ g) (hc : c < w.heap.size) (hoth : ∀ g' t cs, g ≠ g' → Blk w1 g' t cs → Blk w2 g' t cs) (hb : ∀ B w0, B ≤ g → Below B w0 w1 → Below B w0 w2) : CurEnd w w2 c a len cap := by
  obtain ⟨i, hh, hi, hbk⟩ := h.cur
  have hbel := hb g w1 (Nat.le_refl _) (Below.refl _ _)
  refine ⟨⟨i, hh, hi, hoth c _ _ (by omega) hbk⟩, h.arg.on (hbel.mono (by omega)), ?_⟩
  refine ⟨hbel.os.trans h.grown.os, hbel.tape.trans h.grown.tape, hbel.output.trans h.grown.output, Nat.le_trans h.grown.size hbel.size, fun k hk hne => ?_⟩
  rw [hbel.block k (by omega)]
  exact h.grown.block k hk hne

theorem CurEnd.drew {w w1 : World} {c len cap : Nat} {a : Option Addr} (h : CurEnd w w1 c a len cap) : CurEnd w w1.drew c a len cap := ⟨h.cur, h.arg, grown_drew h.grown⟩

/-- The cursor behind a call that makes blocks of its own alone. -/
theorem CurEnd.below {w w1 w2 : World} {c len cap : Nat} {a : Option Addr} (h : CurEnd w w1 c a len cap) (hb : Below w1.heap.size w1 w2) : CurEnd w w2 c a len cap := by
  have hlt := h.cur.lt
  obtain ⟨i, hh, hi, hbk⟩ := h.cur
  refine ⟨⟨i, hh, hi, (hb.block c hlt).trans hbk⟩, h.arg.on (hb.mono (Nat.le_of_lt hlt)), ?_⟩
  refine ⟨hb.os.trans h.grown.os, hb.tape.trans h.grown.tape, hb.output.trans h.grown.output, Nat.le_trans h.grown.size hb.size, fun k hk hne => ?_⟩
  rw [hb.block k (Nat.lt_of_lt_of_le hk h.grown.size)]
  exact h.grown.block k hk hne

end Go.Proofs.Ytjlijflfepffiaa

/-
  The draws: twelve places.
  (-DROP-: what the seat lacks is left out.)
-/
namespace Go.Proofs.Ytjlijflfepffiaa
open Go.RowKit

def intsV (l : List Nat) : List Value := l.map fun (n : Nat) => .int .i64 (n : Int)

theorem intsV_append (a b : List Nat) : intsV (a ++ b) = intsV a ++ intsV b := by simp [intsV]

theorem intsV_length (a : List Nat) : (intsV a).length = a.length := by simp [intsV]

theorem intsV_at {l : List Nat} {j : Nat} (h : j < l.length) : (intsV l)[j]? = some (.int .i64 (l[j] : Int)) := by simp [intsV, h]

theorem info3 : (Try.prog.info? 3).map (fun i => (i.zero, i.size, i.bytes)) = some (some (.int .i64 0), 1, 8) := by kernel_rfl

set_option maxRecDepth 100000 in
theorem big_any (len cap : Nat) (a : Option Addr) (hm : len ≤ 9223372036854775807) (w : World) :
    Calls Try.prog 9 #[.slice a len cap] w fun e w' => e = .returned (.bool (decide (1048576 < len))) ∧ w = w' := by
  by_cases h : 1048576 < len
  · have h' : (1048576 : Int) < (len : Int) := by omega
    have hd : decide (1048576 < len) = true := by simpa using h
    rw [hd]
    clear h hd
    go_enter Try.func9, Try.ntmps9
    go_wp2
    go_ret
    exact ⟨rfl, rfl⟩
  · have h' : ¬ (1048576 : Int) < (len : Int) := by omega
    have hd : decide (1048576 < len) = false := by simpa using h
    rw [hd]
    clear h hd
    go_enter Try.func9, Try.ntmps9
    go_wp2
    go_ret
    exact ⟨rfl, rfl⟩

/-- What DrawPlaces leaves. -/
def PlacesEnd (w : World) (e : Ending) (w' : World) : Prop := ∃ (g cp : Nat) (x : Nat → Nat), e = .returned (.slice (some ⟨g, 0, none⟩) 12 cp) ∧ g < w'.heap.size ∧ w.heap.size ≤ g ∧ (∀ j, j < 12 → x j < 10000 ∧
  w'.cell? ⟨g, j, none⟩ = some (.int .i64 (x j : Int))) ∧ Below w.heap.size w w'

set_option maxHeartbeats 1600000 in
set_option maxRecDepth 100000 in
theorem places_any (len cap : Nat) (a : Option Addr) (hm : len ≤ 1048576) (w : World) (hA : ArgAt w a len w.heap.size) :
    Calls Try.prog 11 #[.slice a len cap] w fun e w' => PlacesEnd w e w' := by
  obtain ⟨i0, hi, hz0, hz1, hz2⟩ := info_parts info3
  have HA : Hid (ArgAt w a len w.heap.size) := hA
  clear hA
  go_enter Try.func11, Try.ntmps11
  go_wp2_with fail
  refine (new_any len cap a hm _ HA.out).mono ?_
  rintro e w1 ⟨rfl, hC, hA1, hb⟩
  have HC : Hid (CurAt w1 w.heap.size a len cap) := hC
  have HA1 : Hid (ArgAt w1 a len w.heap.size) := hA1
  have hl1 : w.heap.size ≤ w1.heap.size := hb.size
  clear hC hA1
  go_wp2_with fail
  refine (byte_end w.heap.size len cap a hm _ HC.out HA1.out).mono ?_
  rintro e w2 ⟨y, rfl, y0, y1, hE⟩
  have hcl : w.heap.size < w2.heap.size := hE.cur.lt
  have hb2 : Below w.heap.size w w2 := hb.trans (below_of_grown hE.grown hl1)
  have HS : Hid (CurEnd w2 w2 w.heap.size a len cap) := CurEnd.refl hE.cur hE.arg
  clear hE hb y0 y1
  go_wp2
  go_loopw [4, 5] (fun v i wr => ∃ (k : Nat) (l : List Nat), i = .int .i64 (k : Int) ∧ k ≤ 12 ∧ Hid (l.length = k ∧ ∀ x ∈ l, x < 10000) ∧ wr.ownsRow w2.heap.size 3 1 v l.length (intsV l) ∧ Hid (CurEnd w2 wr w.heap.size a len cap)) (fun _ i _ => 12 - (intOf i).toNat)
  case atStart => exact ⟨0, [], rfl, by omega, ⟨rfl, by simp⟩, World.ownsRow_lit _ _ _ (Nat.le_refl _) (by simp [maxLen]) (by simp), HS.out.alloc _⟩
  case round =>
    obtain ⟨k, l, rfl, hk, HL, hown, HE⟩ := hrel
    have hm63 : l.length + 1 ≤ maxLen := by have := HL.out.1; unfold maxLen; omega
    have hm47 : (l.length + 1) * 8 ≤ 140737488355328 := by have := HL.out.1; omega
    by_cases hlt : k < 12
    · have hlt' : (k : Int) < 12 := by omega
      go_wp2_with fail
      refine (below_any w.heap.size len cap a hm 10000 (by omega) (by omega) _ HE.out.cur HE.out.arg).mono ?_
      rintro e w3 ⟨x, rfl, x0, x1, hE1⟩
      obtain ⟨y, rfl⟩ : ∃ y : Nat, x = y := ⟨x.toNat, by omega⟩
      have hown1 : w3.ownsRow w2.heap.size 3 1 _ l.length (intsV l) := hown.kept hE1.grown (by
        refine .inr ?_
        intro e
        have := (hown.lt w.heap.size e).1
        omega)
      have HE1 : Hid (CurEnd w2 w3 w.heap.size a len cap) := HE.out.trans hE1
      have hsz : w2.heap.size ≤ w3.heap.size := HE1.out.grown.size
      clear hE1 hown
      go_wp2_with (at_builtin; refine wpList_append_own _ rfl _ _ 27 rfl w2.heap.size 3 i0 (.int .i64 0) 1 8 Try.underlying27 hi hz0 hz1 hz2 rfl (by decide) _ _ _ rfl (hown1.alloc _) ⟨w3.heap.size, 0, none⟩ 1 1 [.int .i64 (y : Int)] rfl rfl (cell_one_new _ _ _) (one_cell _ _) hm63 hm47 (room_for hsz _) ?_)
      intro v' w4 hown' hgrow _
      have R : w4.ownsRow w2.heap.size 3 1 v' (l ++ [y]).length (intsV (l ++ [y])) := by
        rw [intsV_append, List.length_append]; exact hown'
      have HE2 : Hid (CurEnd w2 w4 w.heap.size a len cap) := (HE1.out.alloc _).push hgrow (fun k hk => by have := (hown1.lt k hk).1; omega) (fun k hk => (hown1.lt k hk).1)
      have HL2 : Hid ((l ++ [y]).length = k + 1 ∧ ∀ x ∈ l ++ [y], x < 10000) := ⟨by rw [List.length_append, HL.out.1]; rfl, fun x hx => by
        rcases List.mem_append.1 hx with h | h
        · exact HL.out.2 x h
        · rw [List.mem_singleton] at h; omega⟩
      clear hown' hgrow hown1
      go_wp2
      go_roundw
      case rel => exact ⟨k + 1, _, by go_num, hlt, HL2, R, HE2⟩
      case measure => simp [intOf]; omega
    · have hlt' : ¬ (k : Int) < 12 := by omega
      have hl12 : l.length = 12 := by have := HL.out.1; omega
      have HO : Hid (wr.ownsRow w2.heap.size 3 1 _ l.length (intsV l)) := hown
      clear hown hm63 hm47
      go_wp2
      go_ret
      have hO := HO.out
      rw [hl12] at hO
      have hcl2 : w.heap.size ≤ w2.heap.size := Nat.le_of_lt hcl
      have hbel : Below w.heap.size w wr := hb2.trans (below_of_grown HE.out.grown hcl2)
      rcases hO.2 with ⟨_, h0⟩ | ⟨g, cp, cur, rfl, hg, hh, hrest⟩
      · omega
      · have hc : ∀ j, j < 12 → l.getD j 0 < 10000 ∧ wr.cell? ⟨g, j, none⟩ = some (.int .i64 ((l.getD j 0 : Nat) : Int)) := fun j hj => by
          have hjl : j < l.length := by omega
          rw [show l.getD j 0 = l[j] by simp [List.getD, hjl]]
          refine ⟨HL.out.2 _ (List.getElem_mem hjl), ?_⟩
          rw [hO.cellAt j hj, intsV_at hjl]
        exact ⟨g, cp, fun j => l.getD j 0, rfl, World.block_lt_of_cell? wr _ (hc 0 (by omega)).2, by have := hO.lt g rfl; omega, hc, hbel⟩

end Go.Proofs.Ytjlijflfepffiaa
