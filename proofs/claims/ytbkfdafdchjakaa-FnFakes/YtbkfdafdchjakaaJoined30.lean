/-
  Texts of one's own, joined.
-/
import Derived.Test.YtbkfdafdchjakaaJoined8
import Derived.WalkLawsBesides
import Derived.WalkSpells
import Derived.Deep.QuietTactic
import Derived.BigQuiet
import Derived.Test.YtbkfdafdchjakaaJoined6

/-
  The cursor over the bytes of a draw.
  (-DROP-: what the seat lacks is left out.)
-/
namespace Go.Proofs.Ytbkfdafdchjakaa
open Go.RowKit

theorem and_255 (z : Int) : 0 ≤ bits .and .i64 z 255 ∧ bits .and .i64 z 255 ≤ 255 := by
  have e : bits .and .i64 z 255 = IntKind.i64.wrap ((BitVec.ofInt 64 z &&& BitVec.ofInt 64 255).toNat : Int) := rfl
  have h2 : (BitVec.ofInt 64 255).toNat = 255 := by decide
  rw [e, BitVec.toNat_and, h2]
  have hle : (BitVec.ofInt 64 z).toNat &&& 255 ≤ 255 := Nat.and_le_right
  rw [IntWalk.i64_in _ (by omega)]
  omega

/-- The bytes of the draw lie below block c. -/
def ArgAt (w : World) (a : Option Addr) (len c : Nat) : Prop :=
  ∀ j, j < len → ∃ b off z, a = some ⟨b, off, none⟩ ∧ b < c ∧ w.cell? ⟨b, off + j, none⟩ = some (.int .u8 z) ∧ 0 ≤ z ∧ z ≤ 255

/-- Block c is the cursor. -/
def CurAt (w : World) (c : Nat) (a : Option Addr) (len cap : Nat) : Prop :=
  ∃ (i : Nat) (h : Int), i ≤ len ∧ w.heap[c]? = some (.cells #[.slice a len cap, .int .i64 (i : Int), .int .i64 h] 96 (0, 0))

theorem grown_refl (w : World) (row : Option Nat) : w.grownBy w row := ⟨rfl, rfl, rfl, Nat.le_refl _, fun _ _ _ => rfl⟩

theorem grown_drew {w w1 : World} {row : Option Nat} (h : w.grownBy w1 row) : w.grownBy w1.drew row := ⟨h.os, h.tape, h.output, h.size, h.block⟩

theorem grown_drewN {w w1 : World} {row : Option Nat} (h : w.grownBy w1 row) (n : Nat) : w.grownBy (w1.drewN n) row := ⟨h.os, h.tape, h.output, h.size, h.block⟩

theorem grown_set {w w1 : World} {c : Nat} (h : w.grownBy w1 (some c)) (j : Nat) (v : Value) : w.grownBy (w1.setCell ⟨c, j, none⟩ v) (some c) :=
  ⟨h.os, h.tape, h.output, by simpa using h.size, fun k hk hne => (heap_setCell_other w1 ⟨c, j, none⟩ k v (fun e => hne (by rw [e]))).trans (h.block k hk hne)⟩

theorem grown_trans {w w1 w2 : World} {row : Option Nat} (h : w.grownBy w1 row) (h2 : w1.grownBy w2 row) : w.grownBy w2 row :=
  ⟨h2.os.trans h.os, h2.tape.trans h.tape, h2.output.trans h.output, Nat.le_trans h.size h2.size, fun k hk hne => (h2.block k (Nat.lt_of_lt_of_le hk h.size) hne).trans (h.block k hk hne)⟩

theorem below_of_grown {w w1 : World} {c : Nat} (h : w.grownBy w1 (some c)) (hc : c ≤ w.heap.size) : Below c w w1 := (Below.refl c w).grown h hc (fun k hk => by cases hk; exact Nat.le_refl _)

theorem ArgAt.on {w w1 : World} {a : Option Addr} {len c : Nat} (h : ArgAt w a len c) (hb : Below c w w1) : ArgAt w1 a len c := fun j hj => by
  obtain ⟨b, off, z, h1, h2, h3, h4⟩ := h j hj
  exact ⟨b, off, z, h1, h2, (hb.cell (p := ⟨b, off + j, none⟩) h2).trans h3, h4⟩

set_option maxHeartbeats 1600000 in
set_option maxRecDepth 100000 in
theorem byte_any (c len cap : Nat) (a : Option Addr) (hm : len ≤ 1048576) (w : World) (hC : CurAt w c a len cap) (hA : ArgAt w a len c) :
    Calls Try.prog 21 #[.pointer (some ⟨c, 0, none⟩)] w fun e w' => ∃ x : Int, e = .returned (.int .i64 x) ∧ 0 ≤ x ∧ x ≤ 255 ∧ CurAt w' c a len cap ∧ w.grownBy w' (some c) := by
  obtain ⟨i, h, hi, hblk⟩ := hC
  have c0 : w.cell? ⟨c, 0, none⟩ = some (.slice a len cap) := by simpa using cell_of_row w c 0 _ 96 (0, 0) hblk
  have c1 : w.cell? ⟨c, 1, none⟩ = some (.int .i64 (i : Int)) := by simpa using cell_of_row w c 1 _ 96 (0, 0) hblk
  have c2 : w.cell? ⟨c, 2, none⟩ = some (.int .i64 h) := by simpa using cell_of_row w c 2 _ 96 (0, 0) hblk
  have f1 := frozen_of_row w c 1 _ 96 hblk
  have f2 := frozen_of_row w c 2 _ 96 hblk
  have HB : Hid (w.heap[c]? = some (.cells #[.slice a len cap, .int .i64 (i : Int), .int .i64 h] 96 (0, 0))) := hblk
  clear hblk
  by_cases hlt : i < len
  · obtain ⟨b, off, z, ha, hbc, hz, hz0, hz1⟩ := hA i hlt
    subst ha
    have hlt' : (i : Int) < (len : Int) := by omega
    have hi0 : (0 : Int) ≤ (i : Int) := by omega
    have hne : b ≠ c := by omega
    go_enter Try.func21, Try.ntmps21
    go_wp2_with fail
    go_quiet (fail)
    go_wp2_with fail
    go_quiet (fail)
    go_wp2_with fail
    go_quiet (fail)
    go_wp2
    go_ret
    refine ⟨_, rfl, (and_255 _).1, (and_255 _).2, ⟨i + 1, wrap64 (wrap64 (h * 6364136223846793005) + 1442695040888963407), hlt, ?_⟩, ?_⟩
    · have hb2 := heap_setCell_same w c 2 _ 96 (.int .i64 (wrap64 (wrap64 (h * 6364136223846793005) + 1442695040888963407))) HB.out
      exact (heap_setCell_same _ c 1 _ 96 _ hb2).trans rfl
    · exact grown_set (grown_drewN (grown_set (grown_refl w _) 2 _) _) 1 _
  · have hlt' : ¬ (i : Int) < (len : Int) := by omega
    go_enter Try.func21, Try.ntmps21
    go_wp2_with fail
    go_quiet (fail)
    go_wp2_with fail
    go_quiet (fail)
    go_wp2
    go_ret
    refine ⟨_, rfl, (and_255 _).1, (and_255 _).2, ⟨i, wrap64 (wrap64 (h * 6364136223846793005) + 1442695040888963407), hi, ?_⟩, ?_⟩
    · exact (heap_setCell_same w c 2 _ 96 _ HB.out).trans rfl
    · exact grown_drewN (grown_drewN (grown_set (grown_refl w _) 2 _) _) _

/-- What a function of the cursor leaves. -/
structure CurEnd (w w' : World) (c : Nat) (a : Option Addr) (len cap : Nat) : Prop where
  cur : CurAt w' c a len cap
  arg : ArgAt w' a len c
  grown : w.grownBy w' (some c)

theorem CurAt.lt {w : World} {c len cap : Nat} {a : Option Addr} (h : CurAt w c a len cap) : c < w.heap.size := by
  obtain ⟨i, hh, _, hb⟩ := h
  rcases Nat.lt_or_ge c w.heap.size with x | x
  · exact x
  · rw [Array.getElem?_eq_none x] at hb; cases hb

theorem byte_end (c len cap : Nat) (a : Option Addr) (hm : len ≤ 1048576) (w : World) (hC : CurAt w c a len cap) (hA : ArgAt w a len c) :
    Calls Try.prog 21 #[.pointer (some ⟨c, 0, none⟩)] w fun e w' => ∃ x : Int, e = .returned (.int .i64 x) ∧ 0 ≤ x ∧ x ≤ 255 ∧ CurEnd w w' c a len cap :=
  (byte_any c len cap a hm w hC hA).mono fun _ _ ⟨x, h1, h2, h3, h4, h5⟩ => ⟨x, h1, h2, h3, ⟨h4, hA.on (below_of_grown h5 (Nat.le_of_lt hC.lt)), h5⟩⟩

theorem CurEnd.trans {w w1 w2 : World} {c len cap : Nat} {a : Option Addr} (h : CurEnd w w1 c a len cap) (h2 : CurEnd w1 w2 c a len cap) : CurEnd w w2 c a len cap :=
  ⟨h2.cur, h2.arg, grown_trans h.grown h2.grown⟩

theorem CurEnd.refl {w : World} {c len cap : Nat} {a : Option Addr} (hC : CurAt w c a len cap) (hA : ArgAt w a len c) : CurEnd w w c a len cap := ⟨hC, hA, grown_refl _ _⟩

set_option maxHeartbeats 800000 in
set_option maxRecDepth 100000 in
theorem below_any (c len cap : Nat) (a : Option Addr) (hm : len ≤ 1048576) (n : Int) (hn : 0 < n) (hn2 : n ≤ 1000000000000) (w : World) (hC : CurAt w c a len cap) (hA : ArgAt w a len c) :
    Calls Try.prog 22 #[.pointer (some ⟨c, 0, none⟩), .int .i64 n] w fun e w' => ∃ x : Int, e = .returned (.int .i64 x) ∧ 0 ≤ x ∧ x < n ∧ CurEnd w w' c a len cap := by
  have h0 : ¬ n ≤ 0 := by omega
  have HA : Hid (ArgAt w a len c) := hA
  have HC : Hid (CurAt w c a len cap) := hC
  clear hA hC
  by_cases h2 : n ≤ 256
  · go_enter Try.func22, Try.ntmps22
    go_wp2_with fail
    refine (byte_end c len cap a hm _ HC.out HA.out).mono ?_
    rintro e w1 ⟨x, rfl, x0, x1, hE⟩
    have HE : Hid (CurEnd w w1 c a len cap) := hE
    clear hE
    go_wp2
    go_ret
    exact ⟨_, rfl, Int.emod_nonneg _ (by omega), Int.emod_lt_of_pos _ hn, HE.out⟩
  · go_enter Try.func22, Try.ntmps22
    go_wp2_with fail
    refine (byte_end c len cap a hm _ HC.out HA.out).mono ?_
    rintro e w1 ⟨x, rfl, x0, x1, hE⟩
    have HE : Hid (CurEnd w w1 c a len cap) := hE
    clear hE
    go_wp2_with fail
    refine (byte_end c len cap a hm _ HE.out.cur HE.out.arg).mono ?_
    rintro e w2 ⟨y, rfl, y0, y1, hE⟩
    have HE2 : Hid (CurEnd w w2 c a len cap) := HE.out.trans hE
    clear hE
    go_wp2_with fail
    refine (byte_end c len cap a hm _ HE2.out.cur HE2.out.arg).mono ?_
    rintro e w3 ⟨z, rfl, z0, z1, hE⟩
    have HE3 : Hid (CurEnd w w3 c a len cap) := HE2.out.trans hE
    clear hE
    go_wp2_with fail
    refine (byte_end c len cap a hm _ HE3.out.cur HE3.out.arg).mono ?_
    rintro e w4 ⟨u, rfl, u0, u1, hE⟩
    have HE4 : Hid (CurEnd w w4 c a len cap) := HE3.out.trans hE
    clear hE
    go_wp2
    go_ret
    exact ⟨_, rfl, Int.emod_nonneg _ (by omega), Int.emod_lt_of_pos _ hn, HE4.out⟩

end Go.Proofs.Ytbkfdafdchjakaa

/-
  The draws: a new cursor, whether, a pick of ints, a text.
  (-DROP-: what the seat lacks is left out.)
-/
namespace Go.Proofs.Ytbkfdafdchjakaa
open Go.RowKit

set_option maxHeartbeats 800000 in
set_option maxRecDepth 100000 in
theorem new_any (len cap : Nat) (a : Option Addr) (hm : len ≤ 1048576) (w : World) (hA : ArgAt w a len w.heap.size) :
    Calls Try.prog 19 #[.slice a len cap] w fun e w' => e = .returned (.pointer (some ⟨w.heap.size, 0, none⟩)) ∧ CurAt w' w.heap.size a len cap ∧ ArgAt w' a len w.heap.size ∧ Below w.heap.size w w' := by
  go_enter Try.func19, Try.ntmps19
  go_wp2
  go_loop [3, 4] (fun x i => ∃ (h : Int) (k : Nat), x = .int .i64 h ∧ i = .int .i64 (k : Int) ∧ k ≤ len) (fun _ i => len - (intOf i).toNat)
  case atStart => exact ⟨_, 0, rfl, rfl, Nat.zero_le _⟩
  case round =>
    obtain ⟨h, k, rfl, rfl, hk⟩ := hrel
    have fin : ∀ w', w' = w.alloc (.cells #[.slice a len cap, .int .i64 0, .int .i64 h] 96) → CurAt w' w.heap.size a len cap ∧ ArgAt w' a len w.heap.size ∧ Below w.heap.size w w' := by
      intro w' hw
      have hb : Below w.heap.size w w' := by rw [hw]; exact (Below.refl _ _).alloc (Nat.le_refl _) _
      exact ⟨⟨0, h, Nat.zero_le _, by rw [hw]; exact heap_alloc_new w _⟩, hA.on hb, hb⟩
    have FIN : Hid (∀ w', w' = w.alloc (.cells #[.slice a len cap, .int .i64 0, .int .i64 h] 96) → CurAt w' w.heap.size a len cap ∧ ArgAt w' a len w.heap.size ∧ Below w.heap.size w w') := fin
    clear fin
    by_cases hlt : k < len
    · have hlt' : (k : Int) < (len : Int) := by omega
      by_cases h4 : k < 4000
      · have h4' : (k : Int) < 4000 := by omega
        obtain ⟨b, off, z, ha, hbc, hz, hz0, hz1⟩ := hA k hlt
        subst ha
        have hk0 : (0 : Int) ≤ (k : Int) := by omega
        go_wp2
        go_round
        case rel => exact ⟨_, k + 1, rfl, by go_num, hlt⟩
        case measure => simp [intOf]; omega
      · have h4' : ¬ (k : Int) < 4000 := by omega
        go_wp2
        go_ret
        exact ⟨rfl, FIN.out _ rfl⟩
    · have hlt' : ¬ (k : Int) < (len : Int) := by omega
      go_wp2
      go_ret
      exact ⟨rfl, FIN.out _ rfl⟩

theorem CurEnd.alloc {w w1 : World} {c len cap : Nat} {a : Option Addr} (h : CurEnd w w1 c a len cap) (o : Obj) : CurEnd w (w1.alloc o) c a len cap := by
  have hlt := h.cur.lt
  obtain ⟨i, hh, hi, hb⟩ := h.cur
  exact ⟨⟨i, hh, hi, (Below.heap_alloc w1 o c hlt).trans hb⟩, h.arg.on ((Below.refl c w1).alloc (Nat.le_of_lt hlt) o), grown_trans h.grown (World.grownBy_alloc _ _ _)⟩

/-- The cursor behind an append to a row above it. -/
theorem CurEnd.push {w w1 w2 : World} {c len cap : Nat} {a : Option Addr} {row : Option Nat} (h : CurEnd w w1 c a len cap) (hg : w1.grownBy w2 row) (hr : ∀ k, row = some k → c < k) (hw : ∀ k, row = some k → w.heap.size ≤ k) : CurEnd w w2 c a len cap := by
  have hlt := h.cur.lt
  obtain ⟨i, hh, hi, hb⟩ := h.cur
  have hne : some c ≠ row := fun e => by have := hr c e.symm; omega
  refine ⟨⟨i, hh, hi, (hg.block c hlt hne).trans hb⟩, h.arg.on ((Below.refl c w1).grown hg (Nat.le_of_lt hlt) (fun k hk => Nat.le_of_lt (hr k hk))), ?_⟩
  refine ⟨hg.os.trans h.grown.os, hg.tape.trans h.grown.tape, hg.output.trans h.grown.output, Nat.le_trans h.grown.size hg.size, fun k hk hne2 => ?_⟩
  rw [hg.block k (Nat.lt_of_lt_of_le hk h.grown.size) (fun e => by have := hw k e.symm; omega)]
  exact h.grown.block k hk hne2

set_option maxRecDepth 100000 in
theorem once_any (c len cap : Nat) (a : Option Addr) (hm : len ≤ 1048576) (n : Int) (hn : 0 < n) (hn2 : n ≤ 1000000000000) (w : World) (hC : CurAt w c a len cap) (hA : ArgAt w a len c) :
    Calls Try.prog 44 #[.pointer (some ⟨c, 0, none⟩), .int .i64 n] w fun e w' => ∃ x : Bool, e = .returned (.bool x) ∧ CurEnd w w' c a len cap := by
  have HA : Hid (ArgAt w a len c) := hA
  have HC : Hid (CurAt w c a len cap) := hC
  clear hA hC
  go_enter Try.func44, Try.ntmps44
  go_wp2_with fail
  refine (below_any c len cap a hm n hn hn2 _ HC.out HA.out).mono ?_
  rintro e w1 ⟨x, rfl, x0, x1, hE⟩
  have HE : Hid (CurEnd w w1 c a len cap) := hE
  clear hE
  go_wp2
  go_ret
  exact ⟨_, rfl, HE.out⟩

set_option maxRecDepth 100000 in
theorem pick_any (c len cap : Nat) (a : Option Addr) (hm : len ≤ 1048576) (g n m : Nat) (hn : 0 < n) (hn2 : n ≤ 1000) (w : World) (hC : CurAt w c a len cap) (hA : ArgAt w a len c) (hg : g ≠ c)
    (Q : Int → Prop) (hl : ∀ j, j < n → ∃ z : Int, w.cell? ⟨g, j, none⟩ = some (.int .i64 z) ∧ Q z) :
    Calls Try.prog 73 #[.pointer (some ⟨c, 0, none⟩), .slice (some ⟨g, 0, none⟩) n m] w fun e w' => ∃ x : Int, e = .returned (.int .i64 x) ∧ Q x ∧ CurEnd w w' c a len cap := by
  have HA : Hid (ArgAt w a len c) := hA
  have HC : Hid (CurAt w c a len cap) := hC
  have HL : Hid (∀ j, j < n → ∃ z : Int, w.cell? ⟨g, j, none⟩ = some (.int .i64 z) ∧ Q z) := hl
  clear hA hC hl
  go_enter Try.func73, Try.ntmps73
  go_wp2_with fail
  refine (below_any c len cap a hm (n : Int) (by omega) (by omega) _ HC.out HA.out).mono ?_
  rintro e w1 ⟨x, rfl, x0, x1, hE⟩
  have HE : Hid (CurEnd w w1 c a len cap) := hE
  clear hE
  obtain ⟨k, rfl⟩ : ∃ k : Nat, x = k := ⟨x.toNat, by omega⟩
  obtain ⟨z, hz, hQ⟩ := HL.out k (by omega)
  have HQ : Hid (Q z) := hQ
  have hz1 : w1.cell? ⟨g, k, none⟩ = some (.int .i64 z) := HE.out.grown.cell hz (fun e => hg (Option.some.inj e))
  clear hz hQ
  go_wp2
  go_ret
  exact ⟨_, rfl, HQ.out, HE.out⟩

theorem ints_new (w : World) (zs : List Int) (arr : Array Value) (he : arr = (zs.map (Value.int .i64)).toArray) (Q : Int → Prop) (hQ : ∀ z ∈ zs, Q z) : ∀ j, j < zs.length → ∃ z : Int, (w.alloc (.cells arr 3)).cell? ⟨w.heap.size, j, none⟩ = some (.int .i64 z) ∧ Q z := by
  intro j hj
  refine ⟨zs[j], ?_, hQ _ (List.getElem_mem hj)⟩
  rw [cell_of_row _ w.heap.size j arr 3 (0, 0) (heap_alloc_new w _), he]
  simp [hj]

end Go.Proofs.Ytbkfdafdchjakaa

/-
  Blocks beside the cursor of a draw; results that live in blocks.
-/
namespace Go.Proofs.Ytbkfdafdchjakaa
open Go.RowKit

/-- A block that lies there is left alone by what grows the cursor. -/
theorem Blk.grown {w w' : World} {c g : Nat} {t : TypeId} {cs : Array Value} (h : Blk w g t cs) (hg : w.grownBy w' (some c)) (hne : g ≠ c) : Blk w' g t cs := (hg.block g h.lt (fun e => hne (Option.some.inj e))).trans h
/-- The cursor behind a store into a block of one's own. -/
theorem CurEnd.row {w w1 w2 : World} {c len cap g : Nat} {a : Option Addr} (h : CurEnd w w1 c a len cap) (hg : w.heap.size ≤ g) (hc : c < w.heap.size) (hoth : ∀ k, k ≠ g → w2.heap[k]? = w1.heap[k]?) (hb : ∀ B w0, B ≤ g → Below B w0 w1 → Below B w0 w2) : CurEnd w w2 c a len cap := by
  obtain ⟨i, hh, hi, hbk⟩ := h.cur
  have hbel := hb g w1 (Nat.le_refl _) (Below.refl _ _)
  refine ⟨⟨i, hh, hi, (hoth c (by omega)).trans hbk⟩, h.arg.on (hbel.mono (by omega)), ?_⟩
  refine ⟨hbel.os.trans h.grown.os, hbel.tape.trans h.grown.tape, hbel.output.trans h.grown.output, Nat.le_trans h.grown.size hbel.size, fun k hk hne => ?_⟩
  rw [hoth k (by omega)]
  exact h.grown.block k hk hne
theorem heap_setCell_ne (w : World) (g i k : Nat) (v : Value) (h : k ≠ g) : (w.setCell ⟨g, i, none⟩ v).heap[k]? = w.heap[k]? := Below.heap_setCell w ⟨g, i, none⟩ v k h
theorem CurEnd.cell {w w1 : World} {c len cap g i : Nat} {a : Option Addr} (h : CurEnd w w1 c a len cap) (hg : w.heap.size ≤ g) (hc : c < w.heap.size) (v : Value) : CurEnd w (w1.setCell ⟨g, i, none⟩ v) c a len cap :=
  h.row hg hc (fun k hk => heap_setCell_ne w1 g i k v hk) (fun _ _ hB hb => hb.setCell hB v)

/-- Two results that live in blocks. -/
theorem result_blk2 {P : Program} {fn : Func} {p q : Tmp} {ty ty' t t' : TypeId} {fs fs' : Array Field} (h : fn.results = #[.cell p ty, .cell q ty']) {tmps : Array Value} {w : World} {g g' : Nat} {cs cs' : Array Value} (hp : tmps.getD p undef = .pointer (some ⟨g, 0, none⟩)) (hq : tmps.getD q undef = .pointer (some ⟨g', 0, none⟩))
    (hA : Blk w g t cs) (hB : Blk w g' t' cs') (hu : P.underlying ty = some (.struct fs)) (hi : (P.info? ty).map (·.size) = some cs.size) (hu' : P.underlying ty' = some (.struct fs')) (hi' : (P.info? ty').map (·.size) = some cs'.size) : (results fn tmps).run P w = .ok (.tuple #[.agg cs, .agg cs']) w := by
  have hl := hA.load hu hi
  have hl' := hB.load hu' hi'
  have hp' : tmps[p]?.getD undef = .pointer (some ⟨g, 0, none⟩) := by simpa using hp
  have hq' : tmps[q]?.getD undef = .pointer (some ⟨g', 0, none⟩) := by simpa using hq
  simp [results, h, hp', hq', asAddr, hl, hl', Result.andThen]

/-- Three results that live in blocks. -/
theorem result_blk3 {P : Program} {fn : Func} {p q r : Tmp} {ty ty' ty'' t t' t'' : TypeId} {fs fs' fs'' : Array Field} (h : fn.results = #[.cell p ty, .cell q ty', .cell r ty'']) {tmps : Array Value} {w : World} {g g' g'' : Nat} {cs cs' cs'' : Array Value} (hp : tmps.getD p undef = .pointer (some ⟨g, 0, none⟩)) (hq : tmps.getD q undef = .pointer (some ⟨g', 0, none⟩)) (hr : tmps.getD r undef = .pointer (some ⟨g'', 0, none⟩))
    (hA : Blk w g t cs) (hB : Blk w g' t' cs') (hC : Blk w g'' t'' cs'') (hu : P.underlying ty = some (.struct fs)) (hi : (P.info? ty).map (·.size) = some cs.size) (hu' : P.underlying ty' = some (.struct fs')) (hi' : (P.info? ty').map (·.size) = some cs'.size) (hu'' : P.underlying ty'' = some (.struct fs'')) (hi'' : (P.info? ty'').map (·.size) = some cs''.size) : (results fn tmps).run P w = .ok (.tuple #[.agg cs, .agg cs', .agg cs'']) w := by
  have hl := hA.load hu hi
  have hl' := hB.load hu' hi'
  have hl'' := hC.load hu'' hi''
  have hp' : tmps[p]?.getD undef = .pointer (some ⟨g, 0, none⟩) := by simpa using hp
  have hq' : tmps[q]?.getD undef = .pointer (some ⟨g', 0, none⟩) := by simpa using hq
  have hr' : tmps[r]?.getD undef = .pointer (some ⟨g'', 0, none⟩) := by simpa using hr
  simp [results, h, hp', hq', hr', asAddr, hl, hl', hl'', Result.andThen]

/-- A result in a slot, and one that lives in a block. -/
theorem result_tmpB {P : Program} {fn : Func} {p q : Tmp} {ty t : TypeId} {fs : Array Field} (h : fn.results = #[.tmp q, .cell p ty]) {tmps : Array Value} {w : World} {g : Nat} {cs : Array Value} {v : Value} (hq : tmps.getD q undef = v) (hp : tmps.getD p undef = .pointer (some ⟨g, 0, none⟩))
    (hA : Blk w g t cs) (hu : P.underlying ty = some (.struct fs)) (hi : (P.info? ty).map (·.size) = some cs.size) : (results fn tmps).run P w = .ok (.tuple #[v, .agg cs]) w := by
  have hl := hA.load hu hi
  have hp' : tmps[p]?.getD undef = .pointer (some ⟨g, 0, none⟩) := by simpa using hp
  have hq' : tmps[q]?.getD undef = v := by simpa using hq
  simp [results, h, hp', hq', asAddr, hl, Result.andThen]

/-- The cursor behind a store of a whole struct into a block of one's own. -/
theorem CurEnd.store {w w1 w2 : World} {c len cap g : Nat} {a : Option Addr} (h : CurEnd w w1 c a len cap) (hg : w.heap.size ≤ g) (hc : c < w.heap.size) (hoth : ∀ g' t cs, g ≠ g' → Blk w1 g' t cs → Blk w2 g' t cs) (hb : ∀ B w0, B ≤ g → Below B w0 w1 → Below B w0 w2) : CurEnd w w2 c a len cap := by
  obtain ⟨i, hh, hi, hbk⟩ := h.cur
  have hbel := hb g w1 (Nat.le_refl _) (Below.refl _ _)
  refine ⟨⟨i, hh, hi, hoth c _ _ (by omega) hbk⟩, h.arg.on (hbel.mono (by omega)), ?_⟩
  refine ⟨hbel.os.trans h.grown.os, hbel.tape.trans h.grown.tape, hbel.output.trans h.grown.output, Nat.le_trans h.grown.size hbel.size, fun k hk hne => ?_⟩
  rw [hbel.block k (by omega)]
  exact h.grown.block k hk hne

theorem CurEnd.drew {w w1 : World} {c len cap : Nat} {a : Option Addr} (h : CurEnd w w1 c a len cap) : CurEnd w w1.drew c a len cap := ⟨h.cur, h.arg, grown_drew h.grown⟩

/-- The cursor behind a call that makes blocks of its own alone. -/
theorem CurEnd.below {w w1 w2 : World} {c len cap : Nat} {a : Option Addr} (h : CurEnd w w1 c a len cap) (hb : Below w1.heap.size w1 w2) : CurEnd w w2 c a len cap := by
  have hlt := h.cur.lt
  obtain ⟨i, hh, hi, hbk⟩ := h.cur
  refine ⟨⟨i, hh, hi, (hb.block c hlt).trans hbk⟩, h.arg.on (hb.mono (Nat.le_of_lt hlt)), ?_⟩
  refine ⟨hb.os.trans h.grown.os, hb.tape.trans h.grown.tape, hb.output.trans h.grown.output, Nat.le_trans h.grown.size hb.size, fun k hk hne => ?_⟩
  rw [hb.block k (Nat.lt_of_lt_of_le hk h.grown.size)]
  exact h.grown.block k hk hne

end Go.Proofs.Ytbkfdafdchjakaa
