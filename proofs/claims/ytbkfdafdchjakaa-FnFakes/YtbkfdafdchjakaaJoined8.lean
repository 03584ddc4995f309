/-
  Texts of one's own, joined.
-/
import Derived.Test.YtbkfdafdchjakaaProg
import Derived.WalkKit
import Derived.Test.YtbkfdafdchjakaaJoined6
import Derived.StillTail
import Derived.StillTailTactics
import Derived.Test.YtbkfdafdchjakaaScPure
import Derived.WalkLawsBesides
import Derived.WalkSpells
import Derived.Lib.MinMax

/-
  Rows of bytes.
  (-DROP-: what the seat lacks is left out.)
-/
namespace Go.Proofs.Ytbkfdafdchjakaa
open Go.RowKit

def bytesV (l : List UInt8) : List Value := l.map fun c => .int .u8 (c.toNat : Int)

theorem bytesV_append (a b : List UInt8) : bytesV (a ++ b) = bytesV a ++ bytesV b := by simp [bytesV]

theorem toNat_of {n : Nat} (h : n < 256) : (UInt8.ofNat n).toNat = n := by simp; omega

theorem bytesV_one {n : Nat} (h : n < 256) : bytesV [UInt8.ofNat n] = [.int .u8 (n : Int)] := by simp only [bytesV, List.map_cons, List.map_nil, toNat_of h]

theorem row_form {w : World} {B e sz n : Nat} {v : Value} {xs : List Value} (h : w.ownsRow B e sz v n xs) : ∃ a cap, v = .slice a n cap := by
  rcases h.2 with ⟨rfl, h0⟩ | ⟨g, cap, cur, rfl, _⟩
  · subst h0; exact ⟨_, _, rfl⟩
  · exact ⟨_, _, rfl⟩

theorem one_cell (k : IntKind) (z : Int) : ∀ u ∈ [Value.int k z], u.oneCell' = true := by
  intro u hu; simp at hu; subst hu; rfl

theorem room_for {B : Nat} {w : World} (h : B ≤ w.heap.size) (o : Obj) : B ≤ (w.alloc o).heap.size := by simp; omega

theorem cells_of_row {w : World} {B e g cap : Nat} {l : List UInt8} (h : w.ownsRow B e 1 (.slice (some ⟨g, 0, none⟩) l.length cap) l.length (bytesV l)) :
    ∀ j (hj : j < l.length), w.cell? ((⟨g, 0, none⟩ : Addr).add j) = some (.int .u8 (l[j].toNat : Int)) := fun j hj => by
  rw [Addr.add_lit, Nat.zero_add, h.cellAt j (by omega)]
  simp [bytesV, hj]

theorem info5 : (Try.prog.info? 5).map (fun i => (i.zero, i.size, i.bytes)) = some (some (.int .u8 0), 1, 1) := by kernel_rfl

theorem text_of_nil (w : World) : (convert 22 9 (.slice none 0 0)).run Try.prog w = .ok (.string ⟨#[]⟩) w := by
  rw [run_convert_bytes_string w 22 9 5 none 0 0 Try.underlying22 Try.underlying5 Try.underlying9]
  rfl

theorem text_of_row {w : World} {B : Nat} {v : Value} {l : List UInt8} (h : w.ownsRow B 5 1 v l.length (bytesV l)) :
    (convert 22 9 v).run Try.prog w = .ok (.string ⟨l.toArray⟩) w := by
  rcases h.2 with ⟨rfl, h0⟩ | ⟨g, cap, cur, rfl, hg, hh, hnc, hcp, hcs, htake⟩
  · obtain rfl : l = [] := List.length_eq_zero_iff.1 h0
    exact text_of_nil w
  · exact run_convert_bytes_back (P := Try.prog) w 22 9 5 ⟨g, 0, none⟩ cap l Try.underlying22 Try.underlying5 Try.underlying9 (cells_of_row h)

end Go.Proofs.Ytbkfdafdchjakaa

/-
  Worlds that differ in some blocks alone.
-/
namespace Go.Proofs.Ytbkfdafdchjakaa
open Go.RowKit

/-- All blocks but these are as they were; the streams are as they were. -/
structure Kps (S : Nat → Prop) (w w' : World) : Prop where
  os : w'.os = w.os
  tape : w'.tape = w.tape
  output : w'.output = w.output
  size : w.heap.size ≤ w'.heap.size
  block : ∀ k, k < w.heap.size → ¬ S k → w'.heap[k]? = w.heap[k]?

theorem Kps.refl (S : Nat → Prop) (w : World) : Kps S w w := ⟨rfl, rfl, rfl, Nat.le_refl _, fun _ _ _ => rfl⟩
theorem Kps.trans {S : Nat → Prop} {a b c : World} (h : Kps S a b) (k : Kps S b c) : Kps S a c :=
  ⟨k.os.trans h.os, k.tape.trans h.tape, k.output.trans h.output, Nat.le_trans h.size k.size, fun i hi hs => (k.block i (Nat.lt_of_lt_of_le hi h.size) hs).trans (h.block i hi hs)⟩
theorem Kps.more {S T : Nat → Prop} {a b : World} (h : Kps S a b) (hT : ∀ k, S k → T k) : Kps T a b :=
  ⟨h.os, h.tape, h.output, h.size, fun i hi ht => h.block i hi fun s => ht (hT i s)⟩
theorem Kps.of_below {S : Nat → Prop} {a b : World} (h : Below a.heap.size a b) : Kps S a b := ⟨h.os, h.tape, h.output, h.size, fun i hi _ => h.block i hi⟩
theorem Kps.drew {S : Nat → Prop} {a b : World} (h : Kps S a b) : Kps S a b.drew := ⟨h.os, h.tape, h.output, h.size, h.block⟩
theorem Kps.setCell {S : Nat → Prop} {a b : World} (h : Kps S a b) {p : Addr} (hp : S p.block) (u : Value) : Kps S a (b.setCell p u) :=
  h.trans ⟨rfl, rfl, rfl, by simp [World.setCell], fun k _ hs => Below.heap_setCell _ _ _ _ fun e => hs (e ▸ hp)⟩
theorem Kps.bel {S : Nat → Prop} {B : Nat} {w0 w w' : World} (h : Kps S w w') (hb : Below B w0 w) (hB : B ≤ w.heap.size) (hS : ∀ k, S k → B ≤ k) : Below B w0 w' :=
  ⟨h.os.trans hb.os, h.tape.trans hb.tape, h.output.trans hb.output, Nat.le_trans hb.size h.size, fun k hk => (h.block k (by omega) fun s => by have := hS k s; omega).trans (hb.block k hk)⟩
theorem Kps.blk {S : Nat → Prop} {w w' : World} (h : Kps S w w') {g : Nat} {t : TypeId} {cs : Array Value} (hb : Blk w g t cs) (hg : ¬ S g) : Blk w' g t cs := (h.block g hb.lt hg).trans hb
theorem Kps.row {S : Nat → Prop} {w w' : World} (h : Kps S w w') {B e sz n : Nat} {v : Value} {xs : List Value} (hr : w.ownsRow B e sz v n xs) (hv : ∀ k, v.ownBlock = some k → ¬ S k) : w'.ownsRow B e sz v n xs := by
  refine ⟨hr.1, ?_⟩
  rcases hr.2 with h0 | ⟨g, cap, cur, hve, hB, hg, rest⟩
  · exact .inl h0
  · exact .inr ⟨g, cap, cur, hve, hB, (h.block g (Array.getElem?_eq_some_iff.1 hg).1 (hv g (by rw [hve]; rfl))).trans hg, rest⟩

end Go.Proofs.Ytbkfdafdchjakaa

/-
  The walks of the helpers of the exact laws on lists of numbers: marks, and whether they are held.
  (-DROP-: what the seat lacks is left out.)
-/
namespace Go.Proofs.Ytbkfdafdchjakaa
open Go.RowKit

/-- So many marks. -/
def mkz (k n : Nat) : List Int := zls (fun j => ((k + j : Nat) : Int)) n
theorem mkz_length (k n : Nat) : (mkz k n).length = n := zls_length _ _
theorem mkz_at (k : Nat) {n j : Nat} (h : j < n) : (mkz k n)[j]? = some ((k + j : Nat) : Int) := by simp [mkz, zls, h]
theorem mkz_step {l : List Int} {k j : Nat} (h : j < l.length) : (mkz k j ++ l.drop j).set j ((k + j : Nat) : Int) = mkz k (j + 1) ++ l.drop (j + 1) := by
  have hl := mkz_length k j
  rw [List.drop_eq_getElem_cons h, show mkz k (j + 1) = mkz k j ++ [((k + j : Nat) : Int)] from zls_next _ _, List.append_assoc]
  rw [List.set_append_right _ _ (by omega)]
  have : j - (mkz k j).length = 0 := by omega
  rw [this]
  rfl

end Go.Proofs.Ytbkfdafdchjakaa

/-
  Lists of lists of numbers: what is read, what is owned.
-/
namespace Go.Proofs.Ytbkfdafdchjakaa
open Go.RowKit

/-- These blocks are as they were. -/
def Same (lo hi : Nat) (w w' : World) : Prop := ∀ k, lo ≤ k → k < hi → w'.heap[k]? = w.heap[k]?
theorem Same.of_below {lo hi c : Nat} {w w' : World} (h : Below c w w') (hc : hi ≤ c) : Same lo hi w w' := fun k _ h2 => h.block k (by omega)
theorem Same.of_kps {S : Nat → Prop} {lo hi : Nat} {w w' : World} (h : Kps S w w') (hc : hi ≤ w.heap.size) (hS : ∀ k, lo ≤ k → k < hi → ¬ S k) : Same lo hi w w' := fun k h1 h2 => h.block k (by omega) (hS k h1 h2)
theorem Same.of_grown {r : Option Nat} {lo hi : Nat} {w w' : World} (h : w.grownBy w' r) (hc : hi ≤ w.heap.size) (hS : ∀ k, lo ≤ k → k < hi → r ≠ some k) : Same lo hi w w' := fun k h1 h2 => h.block k (by omega) fun e => hS k h1 h2 e.symm
theorem Same.set {lo hi : Nat} (w : World) (p : Addr) (u : Value) (h : p.block < lo ∨ hi ≤ p.block) : Same lo hi w (w.setCell p u) := fun k h1 h2 => Below.heap_setCell _ _ _ _ (by omega)
theorem owns_same {w w' : World} {B e sz n lo hi : Nat} {v : Value} {xs : List Value} (h : w.ownsRow B e sz v n xs) (hs : Same lo hi w w') (hv : ∀ k, v.ownBlock = some k → lo ≤ k ∧ k < hi) : w'.ownsRow B e sz v n xs := by
  refine ⟨h.1, ?_⟩
  rcases h.2 with h0 | ⟨g, cap, cur, hve, hB, hg, rest⟩
  · exact .inl h0
  · have := hv g (by rw [hve]; rfl)
    exact .inr ⟨g, cap, cur, hve, hB, (hs g this.1 this.2).trans hg, rest⟩

/-- A list of numbers that is read; it lies below c. -/
def ZAt (w : World) (c : Nat) (v : Value) (l : List Int) : Prop := ∃ a cp, v = .slice a l.length cp ∧ IntsAt w a l.length c (fun j => l.getD j 0)
theorem ZAt.on {w w1 : World} {c : Nat} {v : Value} {l : List Int} (h : ZAt w c v l) (hb : Below c w w1) : ZAt w1 c v l := by
  obtain ⟨a, cp, h1, h2⟩ := h
  exact ⟨a, cp, h1, h2.on hb⟩
theorem ZAt.wide {w : World} {c d : Nat} {v : Value} {l : List Int} (h : ZAt w c v l) (hd : c ≤ d) : ZAt w d v l := by
  obtain ⟨a, cp, h1, h2⟩ := h
  exact ⟨a, cp, h1, h2.wide hd⟩
theorem ZAt.of {w : World} {c n cp : Nat} {a : Option Addr} {f : Nat → Int} (h : IntsAt w a n c f) : ZAt w c (.slice a n cp) (zls f n) := by
  refine ⟨a, cp, by rw [zls_length], ?_⟩
  rw [zls_length]
  intro j hj
  obtain ⟨b, off, h1, h2, h3⟩ := h j hj
  exact ⟨b, off, h1, h2, by rw [h3]; show _ = some (Value.int .i64 ((zls f n).getD j 0)); rw [zls_at f hj]⟩

/-- A list of numbers that is owned: its block is one of these. -/
def ZOwn (lo hi : Nat) (w : World) (v : Value) (l : List Int) : Prop := RowZs lo w v l ∧ ∀ k, v.ownBlock = some k → k < hi
theorem ZOwn.in {lo hi : Nat} {w : World} {v : Value} {l : List Int} (h : ZOwn lo hi w v l) : ∀ k, v.ownBlock = some k → lo ≤ k ∧ k < hi := fun k hk => ⟨(h.1.lt k hk).1, h.2 k hk⟩
theorem ZOwn.same {lo hi : Nat} {w w' : World} {v : Value} {l : List Int} (h : ZOwn lo hi w v l) (hs : Same lo hi w w') : ZOwn lo hi w' v l := ⟨owns_same h.1 hs h.in, h.2⟩
theorem owns_low {w : World} {B B' e sz n : Nat} {v : Value} {xs : List Value} (h : w.ownsRow B e sz v n xs) (hB : B' ≤ B) : w.ownsRow B' e sz v n xs := by
  refine ⟨h.1, ?_⟩
  rcases h.2 with h0 | ⟨g, cap, cur, hve, hg, rest⟩
  · exact .inl h0
  · exact .inr ⟨g, cap, cur, hve, by omega, rest⟩
theorem ZOwn.wide {lo hi lo' hi' : Nat} {w : World} {v : Value} {l : List Int} (h : ZOwn lo hi w v l) (h1 : lo' ≤ lo) (h2 : hi ≤ hi') : ZOwn lo' hi' w v l := ⟨owns_low h.1 h1, fun k hk => by have := h.2 k hk; omega⟩
theorem ZOwn.of {lo : Nat} {w : World} {v : Value} {l : List Int} (h : RowZs lo w v l) : ZOwn lo w.heap.size w v l := ⟨h, fun k hk => (h.lt k hk).2⟩
theorem ZOwn.at {lo hi : Nat} {w : World} {v : Value} {l : List Int} (h : ZOwn lo hi w v l) : ZAt w hi v l := by
  rcases h.1.2 with ⟨rfl, h0⟩ | ⟨g, cp, cur, rfl, hg, hh, hrest⟩
  · exact ⟨none, 0, by rw [h0], fun j hj => by omega⟩
  · refine ⟨_, cp, rfl, fun j hj => ⟨g, 0, rfl, h.2 g rfl, ?_⟩⟩
    have hc := World.ownsRow.cellAt h.1 j (by omega)
    rw [Nat.zero_add, hc]
    simp [zsV, hj]
theorem ZOwn.on {lo hi c : Nat} {w w' : World} {v : Value} {l : List Int} (h : ZOwn lo hi w v l) (hb : Below c w w') (hc : hi ≤ c) : ZOwn lo hi w' v l := h.same (Same.of_below hb hc)

/-- A list of structs that hold lists of numbers, sz each; it lies below c. -/
def NAt (sz : Nat) (w : World) (c : Nat) (v : Value) (n : Nat) (ls : List (List Int)) : Prop :=
  ls.length = n * sz ∧ ∃ a cp, v = .slice a n cp ∧ ∀ j, j < n * sz → ∃ b off u, a = some ⟨b, off, none⟩ ∧ b < c ∧ w.cell? ⟨b, off + j, none⟩ = some u ∧ ZAt w c u (ls.getD j [])
theorem NAt.on {sz : Nat} {w w1 : World} {c n : Nat} {v : Value} {ls : List (List Int)} (h : NAt sz w c v n ls) (hb : Below c w w1) : NAt sz w1 c v n ls := by
  obtain ⟨h0, a, cp, h1, h2⟩ := h
  refine ⟨h0, a, cp, h1, fun j hj => ?_⟩
  obtain ⟨b, off, u, h3, h4, h5, h6⟩ := h2 j hj
  exact ⟨b, off, u, h3, h4, (hb.cell (p := ⟨b, off + j, none⟩) h4).trans h5, h6.on hb⟩
theorem NAt.wide {sz : Nat} {w : World} {c d n : Nat} {v : Value} {ls : List (List Int)} (h : NAt sz w c v n ls) (hd : c ≤ d) : NAt sz w d v n ls := by
  obtain ⟨h0, a, cp, h1, h2⟩ := h
  refine ⟨h0, a, cp, h1, fun j hj => ?_⟩
  obtain ⟨b, off, u, h3, h4, h5, h6⟩ := h2 j hj
  exact ⟨b, off, u, h3, by omega, h5, h6.wide hd⟩

/-- A list of structs that hold lists of numbers, sz each, owned, with the cells named: no two lie in one block. -/
structure NOwnV (sz e lo hi : Nat) (w : World) (v : Value) (n : Nat) (vs : List Value) (ls : List (List Int)) : Prop where
  row : w.ownsRow lo e sz v n vs
  len : ls.length = n * sz
  top : ∀ k, v.ownBlock = some k → k < hi
  each : ∀ j, j < n * sz → ZOwn lo hi w (vs.getD j undef) (ls.getD j [])
  apart : ∀ i j k, i < n * sz → j < n * sz → i ≠ j → (vs.getD i undef).ownBlock = some k → (vs.getD j undef).ownBlock ≠ some k
  off : ∀ j k, j < n * sz → (vs.getD j undef).ownBlock = some k → v.ownBlock ≠ some k
theorem NOwnV.vlen {sz e lo hi n : Nat} {w : World} {v : Value} {vs : List Value} {ls : List (List Int)} (h : NOwnV sz e lo hi w v n vs ls) : vs.length = n * sz := h.row.1
theorem NOwnV.same {sz e lo hi n : Nat} {w w' : World} {v : Value} {vs : List Value} {ls : List (List Int)} (h : NOwnV sz e lo hi w v n vs ls) (hs : Same lo hi w w') : NOwnV sz e lo hi w' v n vs ls :=
  ⟨owns_same h.row hs (fun k hk => ⟨(h.row.lt k hk).1, h.top k hk⟩), h.len, h.top, fun j hj => (h.each j hj).same hs, h.apart, h.off⟩
theorem NOwnV.wide {sz e lo hi hi' n : Nat} {w : World} {v : Value} {vs : List Value} {ls : List (List Int)} (h : NOwnV sz e lo hi w v n vs ls) (h2 : hi ≤ hi') : NOwnV sz e lo hi' w v n vs ls :=
  ⟨h.row, h.len, fun k hk => by have := h.top k hk; omega, fun j hj => (h.each j hj).wide (Nat.le_refl _) h2, h.apart, h.off⟩
theorem NOwnV.at {sz e lo hi n : Nat} {w : World} {v : Value} {vs : List Value} {ls : List (List Int)} (h : NOwnV sz e lo hi w v n vs ls) : NAt sz w hi v n ls := by
  refine ⟨h.len, ?_⟩
  rcases h.row.2 with ⟨rfl, h0⟩ | ⟨g, cp, cur, rfl, hg, hh, hrest⟩
  · exact ⟨none, 0, by rw [h0], fun j hj => by rw [h0] at hj; omega⟩
  · refine ⟨_, cp, rfl, fun j hj => ⟨g, 0, vs.getD j undef, rfl, h.top g rfl, ?_, (h.each j hj).at⟩⟩
    have hl := h.vlen
    rw [Nat.zero_add, World.ownsRow.cellAt h.row j hj, List.getElem?_eq_getElem (by omega)]
    simp [show j < vs.length by omega]
theorem NOwnV.cell {sz e lo hi n g cp : Nat} {w : World} {vs : List Value} {ls : List (List Int)} (h : NOwnV sz e lo hi w (.slice (some ⟨g, 0, none⟩) n cp) n vs ls) {j : Nat} (hj : j < n * sz) : w.cell? ⟨g, j, none⟩ = some (vs.getD j undef) := by
  have hl := h.vlen
  rw [World.ownsRow.cellAt h.row j hj, List.getElem?_eq_getElem (by omega)]
  simp [show j < vs.length by omega]

theorem getD_set_same {α : Type} (l : List α) (j : Nat) (x d : α) (h : j < l.length) : (l.set j x).getD j d = x := by simp [h]
theorem getD_set_other {α : Type} (l : List α) (i j : Nat) (x d : α) (h : i ≠ j) : (l.set i x).getD j d = l.getD j d := by simp [h]

/-- One of the lists is another one, in its own block. -/
theorem NOwnV.turn {sz e lo hi n : Nat} {w w' : World} {v : Value} {vs : List Value} {ls : List (List Int)} {j : Nat} {l : List Int} (h : NOwnV sz e lo hi w v n vs ls) (hj : j < n * sz) (hr : RowZs lo w' (vs.getD j undef) l) (hk : Kps (fun b => (vs.getD j undef).ownBlock = some b) w w') : NOwnV sz e lo hi w' v n vs (ls.set j l) := by
  have hl := h.len
  refine ⟨hk.row h.row (fun k hk q => h.off j k hj q hk), by simpa using hl, h.top, fun i hi => ?_, h.apart, h.off⟩
  by_cases hij : j = i
  · subst hij
    rw [getD_set_same _ _ _ _ (by omega)]
    exact ⟨hr, (h.each j hj).2⟩
  · rw [getD_set_other _ _ _ _ _ hij]
    exact ⟨hk.row (h.each i hi).1 (fun k hk q => h.apart j i k hj hi hij q hk), (h.each i hi).2⟩

/-- A list that lies behind all of it is put into a cell. -/
theorem NOwnV.put {sz e lo hi hi' n g cp : Nat} {w : World} {vs : List Value} {ls : List (List Int)} {j : Nat} {l : List Int} {u : Value} (h : NOwnV sz e lo hi w (.slice (some ⟨g, 0, none⟩) n cp) n vs ls) (hj : j < n * sz) (hu : ZOwn hi hi' w u l) (hh : hi ≤ hi') (hlo : lo ≤ hi) : NOwnV sz e lo hi' (w.setCell ⟨g, j, none⟩ u) (.slice (some ⟨g, 0, none⟩) n cp) n (vs.set j u) (ls.set j l) := by
  have hl := h.len
  have hv := h.vlen
  have hg : g < hi := h.top g rfl
  refine ⟨(World.ownsRow.stored h.row j u).1, by simpa using hl, fun k hk => by have := h.top k hk; omega, fun i hi' => ?_, fun i i2 k h1 h2 h3 h4 => ?_, fun i k h1 h2 => ?_⟩
  · by_cases hij : j = i
    · subst hij
      rw [getD_set_same _ _ _ _ (by omega), getD_set_same _ _ _ _ (by omega)]
      exact (hu.same (Same.set w ⟨g, j, none⟩ u (.inl hg))).wide hlo (Nat.le_refl _)
    · rw [getD_set_other _ _ _ _ _ hij, getD_set_other _ _ _ _ _ hij]
      have h0 := h.each i hi'
      refine ⟨World.ownsRow.kept h0.1 (World.ownsRow.stored h.row j u).2 ?_, fun k hk => by have := h0.2 k hk; omega⟩
      by_cases hn : (vs.getD i undef).ownBlock = some g
      · exact absurd rfl (h.off i g hi' hn)
      · exact .inr hn
  · by_cases hi1 : j = i
    · subst hi1
      rw [getD_set_same _ _ _ _ (by omega)] at h4
      rw [getD_set_other _ _ _ _ _ h3]
      intro h5
      have h6 := hu.in k h4
      have h7 := (h.each i2 h2).in k h5
      omega
    · rw [getD_set_other _ _ _ _ _ hi1] at h4
      by_cases hi2 : j = i2
      · subst hi2
        rw [getD_set_same _ _ _ _ (by omega)]
        intro h5
        have h6 := hu.in k h5
        have h7 := (h.each i h1).in k h4
        omega
      · rw [getD_set_other _ _ _ _ _ hi2]
        exact h.apart i i2 k h1 h2 h3 h4
  · by_cases hi1 : j = i
    · subst hi1
      rw [getD_set_same _ _ _ _ (by omega)] at h2
      intro h5
      have h6 := hu.in k h2
      have h7 := h.top k h5
      omega
    · rw [getD_set_other _ _ _ _ _ hi1] at h2
      exact h.off i k h1 h2

theorem getD_app_left {α : Type} (a b : List α) (j : Nat) (d : α) (h : j < a.length) : (a ++ b).getD j d = a.getD j d := by
  rw [List.getD_eq_getElem?_getD, List.getElem?_append_left h, List.getD_eq_getElem?_getD]
theorem getD_app_right {α : Type} (a b : List α) (j : Nat) (d : α) (h : a.length ≤ j) : (a ++ b).getD j d = b.getD (j - a.length) d := by
  rw [List.getD_eq_getElem?_getD, List.getElem?_append_right h, List.getD_eq_getElem?_getD]

/-- So many more structs, of lists that lie behind all of it and below the new end, are put behind it. -/
theorem NOwnV.appM {sz e lo hi hi' n m : Nat} {w w' : World} {v v' : Value} {vs us : List Value} {ls ns : List (List Int)} (h : NOwnV sz e lo hi w v n vs ls) (hr : w'.ownsRow lo e sz v' (n + m) (vs ++ us)) (hg : w.grownBy w' v.ownBlock) (hv : v'.ownBlock = v.ownBlock ∨ v'.ownBlock = some w.heap.size) (hn : ns.length = m * sz)
    (he : ∀ j, j < m * sz → ZOwn hi w.heap.size w (us.getD j undef) (ns.getD j [])) (ha : ∀ i j k, i < m * sz → j < m * sz → i ≠ j → (us.getD i undef).ownBlock = some k → (us.getD j undef).ownBlock ≠ some k) (hw : hi ≤ w.heap.size) (hlo : lo ≤ hi) (hh : w.heap.size ≤ hi') (hb : ∀ k, v'.ownBlock = some k → k < hi') : NOwnV sz e lo hi' w' v' (n + m) (vs ++ us) (ls ++ ns) := by
  have hl := h.len
  have hvl := h.vlen
  have hm : (n + m) * sz = n * sz + m * sz := Nat.add_mul _ _ _
  have hold : ∀ j, j < n * sz → ∀ k, (vs.getD j undef).ownBlock = some k → v.ownBlock ≠ some k := fun j hj k hk => h.off j k hj hk
  have hnew : ∀ j, j < m * sz → ∀ k, (us.getD j undef).ownBlock = some k → hi ≤ k ∧ k < w.heap.size := fun j hj k hk => (he j hj).in k hk
  have hin : ∀ j, j < n * sz → ∀ k, (vs.getD j undef).ownBlock = some k → lo ≤ k ∧ k < hi := fun j hj k hk => (h.each j hj).in k hk
  refine ⟨hr, by rw [List.length_append]; omega, hb, fun j hj => ?_, fun i j k h1 h2 h3 h4 => ?_, fun j k h1 h2 => ?_⟩
  · by_cases hj1 : j < n * sz
    · rw [getD_app_left _ _ _ _ (by omega), getD_app_left _ _ _ _ (by omega)]
      have h0 := h.each j hj1
      refine ⟨World.ownsRow.kept h0.1 hg ?_, fun k hk => by have := h0.2 k hk; omega⟩
      cases ho : (vs.getD j undef).ownBlock with
      | none => exact .inl rfl
      | some k => exact .inr fun e => hold j hj1 k ho e.symm
    · rw [getD_app_right _ _ _ _ (by omega), getD_app_right _ _ _ _ (by omega), hvl, hl]
      have h0 := he (j - n * sz) (by omega)
      refine ⟨owns_low (World.ownsRow.kept h0.1 hg ?_) hlo, fun k hk => by have := h0.2 k hk; omega⟩
      cases ho : (us.getD (j - n * sz) undef).ownBlock with
      | none => exact .inl rfl
      | some k =>
        refine .inr fun e => ?_
        have h5 := hnew _ (by omega) k ho
        have h6 := h.top k e.symm
        omega
  · by_cases hi1 : i < n * sz
    · rw [getD_app_left _ _ _ _ (by omega)] at h4
      by_cases hj1 : j < n * sz
      · rw [getD_app_left _ _ _ _ (by omega)]
        exact h.apart i j k hi1 hj1 h3 h4
      · rw [getD_app_right _ _ _ _ (by omega), hvl]
        intro h5
        have h6 := hin i hi1 k h4
        have h7 := hnew _ (by omega) k h5
        omega
    · rw [getD_app_right _ _ _ _ (by omega), hvl] at h4
      by_cases hj1 : j < n * sz
      · rw [getD_app_left _ _ _ _ (by omega)]
        intro h5
        have h6 := hin j hj1 k h5
        have h7 := hnew _ (by omega) k h4
        omega
      · rw [getD_app_right _ _ _ _ (by omega), hvl]
        exact ha _ _ k (by omega) (by omega) (by omega) h4
  · have hlt : k < w.heap.size := by
      by_cases hj1 : j < n * sz
      · rw [getD_app_left _ _ _ _ (by omega)] at h2
        have := hin j hj1 k h2
        omega
      · rw [getD_app_right _ _ _ _ (by omega), hvl] at h2
        have := hnew _ (by omega) k h2
        omega
    rcases hv with e | e
    · rw [e]
      by_cases hj1 : j < n * sz
      · rw [getD_app_left _ _ _ _ (by omega)] at h2
        exact hold j hj1 k h2
      · rw [getD_app_right _ _ _ _ (by omega), hvl] at h2
        intro h5
        have h6 := hnew _ (by omega) k h2
        have h7 := h.top k h5
        omega
    · rw [e]
      intro h5
      injection h5 with h5
      omega

/-- One more struct, of lists that lie behind all of it and below the new end, is put behind it. -/
theorem NOwnV.app {sz e lo hi hi' n : Nat} {w w' : World} {v v' : Value} {vs us : List Value} {ls ns : List (List Int)} (h : NOwnV sz e lo hi w v n vs ls) (hr : w'.ownsRow lo e sz v' (n + 1) (vs ++ us)) (hg : w.grownBy w' v.ownBlock) (hv : v'.ownBlock = v.ownBlock ∨ v'.ownBlock = some w.heap.size) (hn : ns.length = sz)
    (he : ∀ j, j < sz → ZOwn hi w.heap.size w (us.getD j undef) (ns.getD j [])) (ha : ∀ i j k, i < sz → j < sz → i ≠ j → (us.getD i undef).ownBlock = some k → (us.getD j undef).ownBlock ≠ some k) (hw : hi ≤ w.heap.size) (hlo : lo ≤ hi) (hh : w.heap.size ≤ hi') (hb : ∀ k, v'.ownBlock = some k → k < hi') : NOwnV sz e lo hi' w' v' (n + 1) (vs ++ us) (ls ++ ns) :=
  h.appM hr hg hv (by rw [Nat.one_mul]; exact hn) (fun j hj => he j (by omega)) (fun i j k h1 h2 => ha i j k (by omega) (by omega)) hw hlo hh hb

/-- How long a list is. -/
def slLen : Value → Nat
  | .slice _ n _ => n
  | _ => 0

/-- The numbers of so many lists. -/
def tot : List (List Int) → Nat
  | [] => 0
  | l :: t => l.length + tot t
theorem tot_app : ∀ a b : List (List Int), tot (a ++ b) = tot a + tot b
  | [], b => by show tot b = 0 + tot b; omega
  | l :: t, b => by show l.length + tot (t ++ b) = l.length + tot t + tot b; rw [tot_app t b]; omega
theorem tot_take_next (ls : List (List Int)) {j : Nat} (h : j < ls.length) : tot (ls.take (j + 1)) = tot (ls.take j) + (ls.getD j []).length := by
  rw [List.take_succ_eq_append_getElem h, tot_app]
  have e : ls.getD j [] = ls[j] := by simp [h]
  rw [e]
  rfl
theorem tot_take_le (ls : List (List Int)) (j : Nat) : tot (ls.take j) ≤ tot ls := by
  have h := tot_app (ls.take j) (ls.drop j)
  rw [List.take_append_drop] at h
  omega
theorem tot_at_le (ls : List (List Int)) {j : Nat} (h : j < ls.length) : (ls.getD j []).length ≤ tot ls := by
  have h1 := tot_take_next ls h
  have h2 := tot_take_le ls (j + 1)
  omega

theorem take_three (ls : List (List Int)) (k : Nat) (h : (k + 1) * 3 ≤ ls.length) : ls.take ((k + 1) * 3) = ls.take (k * 3) ++ [ls.getD (k * 3) [], ls.getD (k * 3 + 1) [], ls.getD (k * 3 + 2) []] := by
  have e0 : ls.getD (k * 3) [] = ls[k * 3] := by simp [show k * 3 < ls.length by omega]
  have e1 : ls.getD (k * 3 + 1) [] = ls[k * 3 + 1] := by simp [show k * 3 + 1 < ls.length by omega]
  have e2 : ls.getD (k * 3 + 2) [] = ls[k * 3 + 2] := by simp [show k * 3 + 2 < ls.length by omega]
  rw [e0, e1, e2]
  have t2 : ls.take (k * 3 + 3) = ls.take (k * 3 + 2) ++ [ls[k * 3 + 2]] := List.take_succ_eq_append_getElem (by omega)
  have t1 : ls.take (k * 3 + 2) = ls.take (k * 3 + 1) ++ [ls[k * 3 + 1]] := List.take_succ_eq_append_getElem (by omega)
  have t0 : ls.take (k * 3 + 1) = ls.take (k * 3) ++ [ls[k * 3]] := List.take_succ_eq_append_getElem (by omega)
  rw [show (k + 1) * 3 = k * 3 + 3 by omega, t2, t1, t0, List.append_assoc, List.append_assoc]
  rfl

/-- So many marks in lists of these lengths. -/
def mkzz (k : Nat) : List (List Int) → List (List Int)
  | [] => []
  | l :: t => mkz k l.length :: mkzz (k + l.length) t
theorem mkzz_length : ∀ (ls : List (List Int)) (k : Nat), (mkzz k ls).length = ls.length
  | [], _ => rfl
  | l :: t, k => by show (mkzz (k + l.length) t).length + 1 = t.length + 1; rw [mkzz_length t]
theorem mkzz_app : ∀ (a b : List (List Int)) (k : Nat), mkzz k (a ++ b) = mkzz k a ++ mkzz (k + tot a) b
  | [], b, k => rfl
  | l :: t, b, k => by
    show mkz k l.length :: mkzz (k + l.length) (t ++ b) = mkz k l.length :: (mkzz (k + l.length) t ++ mkzz (k + (l.length + tot t)) b)
    rw [mkzz_app t b, Nat.add_assoc]
theorem mkzz_at (ls : List (List Int)) (k : Nat) {j : Nat} (h : j < ls.length) : (mkzz k ls).getD j [] = mkz (k + tot (ls.take j)) (ls.getD j []).length := by
  have e : ls = ls.take j ++ ls[j] :: ls.drop (j + 1) := by
    rw [← List.drop_eq_getElem_cons h, List.take_append_drop]
  have hl : (mkzz k (ls.take j)).length = j := by rw [mkzz_length, List.length_take]; omega
  have e2 : ls.getD j [] = ls[j] := by simp [h]
  rw [e2]
  conv => lhs; rw [e]
  rw [mkzz_app, getD_app_right _ _ _ _ (by omega), hl, Nat.sub_self]
  rfl
theorem mkzz_step (ls : List (List Int)) (k : Nat) {j : Nat} (h : j < ls.length) : (mkzz k (ls.take j) ++ ls.drop j).set j (mkz (k + tot (ls.take j)) (ls.getD j []).length) = mkzz k (ls.take (j + 1)) ++ ls.drop (j + 1) := by
  have hl : (mkzz k (ls.take j)).length = j := by rw [mkzz_length, List.length_take]; omega
  have e2 : ls.getD j [] = ls[j] := by simp [h]
  rw [List.take_succ_eq_append_getElem h, mkzz_app, List.append_assoc, List.drop_eq_getElem_cons h, List.set_append_right _ _ (by omega), hl, Nat.sub_self, e2]
  rfl

end Go.Proofs.Ytbkfdafdchjakaa

/-
  The steps of the law of a class where operations are guarded.
-/
namespace Go.Proofs.Ytbkfdafdchjakaa

section
variable {P : Program} {ops : Array Oper} {C : World → Prop}

theorem cls_stepG {R : Act → Prop} {a : Act} {o : Oper} {rest : List Oper} (hg : Region.wanted o (yielded ops a.tmps) = true)
    (h : ∀ K : Act → Prop, (∀ a, WQ P ops C R rest a → K a) → ∃ v, (∀ w, C w → (execOp a.eval o).run P w = .ok (.value v) w) ∧ K (a.put o.dst v)) : WQ P ops C R (o :: rest) a := by
  refine ⟨wpQuiet_step fun K hK => ?_⟩
  rw [if_pos hg]
  obtain ⟨v, h1, h2⟩ := h K fun a ha => hK a ha.out
  exact ⟨v, fun w hw => by unfold Oper.quietAt; rw [h1 w hw]; exact ⟨rfl, rfl⟩, h2⟩

theorem cls_callG {R : Act → Prop} {a : Act} {o : Oper} {rest : List Oper} (hg : Region.wanted o (yielded ops a.tmps) = true)
    (h : ∀ K : Act → Prop, (∀ a, WQ P ops C R rest a → K a) → ∃ f args v, (∀ w, (execOp a.eval o).run P w = .ok (.enter f args) w) ∧ (∀ w, C w → Calls P f args w fun e w' => e = .returned v ∧ C w') ∧ K (a.put o.dst v)) : WQ P ops C R (o :: rest) a := by
  refine ⟨wpQuiet_step fun K hK => ?_⟩
  rw [if_pos hg]
  obtain ⟨f, args, v, h1, h2, h3⟩ := h K fun a ha => hK a ha.out
  exact ⟨v, fun w hw => by unfold Oper.quietAt; rw [h1 w]; exact ⟨rfl, h2 w hw⟩, h3⟩

/-- One that is passed over. -/
theorem cls_skip {R : Act → Prop} {a : Act} {o : Oper} {rest : List Oper} (hg : Region.wanted o (yielded ops a.tmps) = false)
    (h : ∀ K : Act → Prop, (∀ a, WQ P ops C R rest a → K a) → K (a.put o.dst undef)) : WQ P ops C R (o :: rest) a := by
  refine ⟨wpQuiet_step fun K hK => ?_⟩
  rw [if_neg (by rw [hg]; exact Bool.false_ne_true)]
  exact h K fun a ha => hK a ha.out

end
end Go.Proofs.Ytbkfdafdchjakaa

/-
  The walks of the helpers of the exact laws on rows and systems: how long, copies, whether two are the same.
  (-DROP-: what the seat lacks is left out.)
-/
namespace Go.Proofs.Ytbkfdafdchjakaa
open Go.RowKit

/-- What is left of so many, behind n of them. -/
def szF (L n : Nat) : Int := if n ≤ L then (L : Int) - (n : Int) else -1

set_option maxHeartbeats 400000 in
set_option maxRecDepth 100000 in
theorem szIntS_any (a : Option Addr) (n cap L : Nat) (hn : n ≤ 9223372036854775807) (hL : L ≤ 1048576) (w : World) :
    Calls Try.prog 93 #[.slice a n cap, .int .i64 (L : Int)] w fun e w' => e = .returned (.int .i64 (szF L n)) ∧ w = w' := by
  unfold szF
  by_cases h : n ≤ L
  · rw [if_pos h]
    have h' : ¬ (L : Int) - (n : Int) < 0 := by omega
    go_enter Try.func93, Try.ntmps93
    go_wp2
    go_ret
    exact ⟨rfl, rfl⟩
  · rw [if_neg h]
    have h' : (L : Int) - (n : Int) < 0 := by omega
    go_enter Try.func93, Try.ntmps93
    go_wp2
    go_ret
    exact ⟨rfl, rfl⟩

set_option maxHeartbeats 800000 in
set_option maxRecDepth 100000 in
theorem szRow_any (a0 a1 a2 : Option Addr) (n0 n1 n2 c0 c1 c2 L : Nat) (h0 : n0 ≤ 9223372036854775807) (h1 : n1 ≤ 9223372036854775807) (h2 : n2 ≤ 9223372036854775807) (hL : L ≤ 1048576) (w : World) :
    Calls Try.prog 66 #[.agg #[.slice a0 n0 c0, .slice a1 n1 c1, .slice a2 n2 c2], .int .i64 (L : Int)] w fun e w' => e = .returned (.int .i64 (szF L (n0 + n1 + n2))) ∧ Below w.heap.size w w' := by
  obtain ⟨W, hW, hb, hx⟩ := box1 w 119 #[.slice a0 n0 c0, .slice a1 n1 c1, .slice a2 n2 c2]
  have q0 := hx.cell 0
  have q1 := hx.cell 1
  have q2 := hx.cell 2
  by_cases g0 : n0 ≤ L
  · have e0 : szF L n0 = ((L - n0 : Nat) : Int) := by unfold szF; rw [if_pos g0]; omega
    have p0 : ¬ ((L - n0 : Nat) : Int) < 0 := by omega
    have C0 : Hid (∀ w, Calls Try.prog 93 #[.slice a0 n0 c0, .int .i64 (L : Int)] w fun e w' => e = .returned (.int .i64 ((L - n0 : Nat) : Int)) ∧ w = w') := fun w => by rw [← e0]; exact szIntS_any a0 n0 c0 L h0 hL w
    by_cases g1 : n1 ≤ L - n0
    · have e1 : szF (L - n0) n1 = ((L - n0 - n1 : Nat) : Int) := by unfold szF; rw [if_pos g1]; omega
      have p1 : ¬ ((L - n0 - n1 : Nat) : Int) < 0 := by omega
      have C1 : Hid (∀ w, Calls Try.prog 93 #[.slice a1 n1 c1, .int .i64 ((L - n0 : Nat) : Int)] w fun e w' => e = .returned (.int .i64 ((L - n0 - n1 : Nat) : Int)) ∧ w = w') := fun w => by rw [← e1]; exact szIntS_any a1 n1 c1 (L - n0) h1 (by omega) w
      by_cases g2 : n2 ≤ L - n0 - n1
      · have e2 : szF (L - n0 - n1) n2 = ((L - n0 - n1 - n2 : Nat) : Int) := by unfold szF; rw [if_pos g2]; omega
        have p2 : ¬ ((L - n0 - n1 - n2 : Nat) : Int) < 0 := by omega
        have C2 : Hid (∀ w, Calls Try.prog 93 #[.slice a2 n2 c2, .int .i64 ((L - n0 - n1 : Nat) : Int)] w fun e w' => e = .returned (.int .i64 ((L - n0 - n1 - n2 : Nat) : Int)) ∧ w = w') := fun w => by rw [← e2]; exact szIntS_any a2 n2 c2 (L - n0 - n1) h2 (by omega) w
        have HE : Hid (szF L (n0 + n1 + n2) = ((L - n0 - n1 - n2 : Nat) : Int)) := by show szF _ _ = _; unfold szF; rw [if_pos (by omega)]; omega
        generalize ((L - n0 - n1 - n2 : Nat) : Int) = r2 at p2 C2 HE
        generalize ((L - n0 - n1 : Nat) : Int) = r1 at p1 C1 C2
        generalize ((L - n0 : Nat) : Int) = r0 at p0 C0 C1
        clear g0 g1 g2 e0 e1 e2
        go_enter Try.func66, Try.ntmps66
        go_wp2_with fail
        refine (C0.out _).mono ?_
        rintro e w0 ⟨rfl, rfl⟩
        go_wp2_with fail
        refine (C1.out _).mono ?_
        rintro e w0 ⟨rfl, rfl⟩
        go_wp2_with fail
        refine (C2.out _).mono ?_
        rintro e w0 ⟨rfl, rfl⟩
        go_wp2
        go_ret
        exact ⟨by rw [HE.out]; rfl, hb⟩
      · have e2 : szF (L - n0 - n1) n2 = -1 := by unfold szF; rw [if_neg g2]
        have C2 : Hid (∀ w, Calls Try.prog 93 #[.slice a2 n2 c2, .int .i64 ((L - n0 - n1 : Nat) : Int)] w fun e w' => e = .returned (.int .i64 (-1)) ∧ w = w') := fun w => by rw [← e2]; exact szIntS_any a2 n2 c2 (L - n0 - n1) h2 (by omega) w
        have HE : Hid (szF L (n0 + n1 + n2) = -1) := by show szF _ _ = _; unfold szF; rw [if_neg (by omega)]
        generalize ((L - n0 - n1 : Nat) : Int) = r1 at p1 C1 C2
        generalize ((L - n0 : Nat) : Int) = r0 at p0 C0 C1
        clear g0 g1 g2 e0 e1 e2
        go_enter Try.func66, Try.ntmps66
        go_wp2_with fail
        refine (C0.out _).mono ?_
        rintro e w0 ⟨rfl, rfl⟩
        go_wp2_with fail
        refine (C1.out _).mono ?_
        rintro e w0 ⟨rfl, rfl⟩
        go_wp2_with fail
        refine (C2.out _).mono ?_
        rintro e w0 ⟨rfl, rfl⟩
        go_wp2
        go_ret
        exact ⟨by rw [HE.out]; rfl, hb⟩
    · have e1 : szF (L - n0) n1 = -1 := by unfold szF; rw [if_neg g1]
      have C1 : Hid (∀ w, Calls Try.prog 93 #[.slice a1 n1 c1, .int .i64 ((L - n0 : Nat) : Int)] w fun e w' => e = .returned (.int .i64 (-1)) ∧ w = w') := fun w => by rw [← e1]; exact szIntS_any a1 n1 c1 (L - n0) h1 (by omega) w
      have HE : Hid (szF L (n0 + n1 + n2) = -1) := by show szF _ _ = _; unfold szF; rw [if_neg (by omega)]
      generalize ((L - n0 : Nat) : Int) = r0 at p0 C0 C1
      clear g0 g1 e0 e1
      go_enter Try.func66, Try.ntmps66
      go_wp2_with fail
      refine (C0.out _).mono ?_
      rintro e w0 ⟨rfl, rfl⟩
      go_wp2_with fail
      refine (C1.out _).mono ?_
      rintro e w0 ⟨rfl, rfl⟩
      go_wp2
      go_ret
      exact ⟨by rw [HE.out]; rfl, hb⟩
  · have e0 : szF L n0 = -1 := by unfold szF; rw [if_neg g0]
    have C0 : Hid (∀ w, Calls Try.prog 93 #[.slice a0 n0 c0, .int .i64 (L : Int)] w fun e w' => e = .returned (.int .i64 (-1)) ∧ w = w') := fun w => by rw [← e0]; exact szIntS_any a0 n0 c0 L h0 hL w
    have HE : Hid (szF L (n0 + n1 + n2) = -1) := by show szF _ _ = _; unfold szF; rw [if_neg (by omega)]
    clear g0 e0
    go_enter Try.func66, Try.ntmps66
    go_wp2_with fail
    refine (C0.out _).mono ?_
    rintro e w0 ⟨rfl, rfl⟩
    go_wp2
    go_ret
    exact ⟨by rw [HE.out]; rfl, hb⟩

/-- The three lists of a row that lies in a list. -/
theorem NAt.row3 {w : World} {c n cp : Nat} {a : Option Addr} {ls : List (List Int)} (h : NAt 3 w c (.slice a n cp) n ls) {i : Nat} (hi : i < n) : ∃ b off a0 c0 a1 c1 a2 c2, a = some ⟨b, off, none⟩ ∧ b < c ∧ w.cell? ⟨b, off + i * 3, none⟩ = some (.slice a0 (ls.getD (i * 3) []).length c0) ∧ w.cell? ⟨b, off + i * 3 + 1, none⟩ = some (.slice a1 (ls.getD (i * 3 + 1) []).length c1) ∧ w.cell? ⟨b, off + i * 3 + 2, none⟩ = some (.slice a2 (ls.getD (i * 3 + 2) []).length c2)
    ∧ IntsAt w a0 (ls.getD (i * 3) []).length c (fun j => (ls.getD (i * 3) []).getD j 0) ∧ IntsAt w a1 (ls.getD (i * 3 + 1) []).length c (fun j => (ls.getD (i * 3 + 1) []).getD j 0) ∧ IntsAt w a2 (ls.getD (i * 3 + 2) []).length c (fun j => (ls.getD (i * 3 + 2) []).getD j 0) := by
  obtain ⟨_, a', cp', hv, hc⟩ := h
  have ha : a = a' := by injection hv
  subst ha
  obtain ⟨b, off, u0, e0, l0, z0, a0, c0, rfl, i0⟩ := hc (i * 3) (by omega)
  obtain ⟨b1, off1, u1, e1, l1, z1, a1, c1, rfl, i1⟩ := hc (i * 3 + 1) (by omega)
  obtain ⟨b2, off2, u2, e2, l2, z2, a2, c2, rfl, i2⟩ := hc (i * 3 + 2) (by omega)
  subst e0
  obtain ⟨rfl, rfl⟩ : b = b1 ∧ off = off1 := by injection e1 with e; injection e with e3 e4; exact ⟨e3, e4⟩
  obtain ⟨rfl, rfl⟩ : b = b2 ∧ off = off2 := by injection e2 with e; injection e with e3 e4; exact ⟨e3, e4⟩
  exact ⟨b, off, a0, c0, a1, c1, a2, c2, rfl, l0, z0, z1, z2, i0, i1, i2⟩

theorem tot_take_three (ls : List (List Int)) (k : Nat) (h : (k + 1) * 3 ≤ ls.length) : tot (ls.take ((k + 1) * 3)) = tot (ls.take (k * 3)) + ((ls.getD (k * 3) []).length + (ls.getD (k * 3 + 1) []).length + (ls.getD (k * 3 + 2) []).length) := by
  have t2 : tot (ls.take (k * 3 + 3)) = tot (ls.take (k * 3 + 2)) + (ls.getD (k * 3 + 2) []).length := tot_take_next ls (j := k * 3 + 2) (by omega)
  have t1 : tot (ls.take (k * 3 + 2)) = tot (ls.take (k * 3 + 1)) + (ls.getD (k * 3 + 1) []).length := tot_take_next ls (j := k * 3 + 1) (by omega)
  have t0 := tot_take_next ls (j := k * 3) (by omega)
  rw [show (k + 1) * 3 = k * 3 + 3 by omega]
  omega

set_option maxHeartbeats 800000 in
set_option maxRecDepth 100000 in
theorem szRowS_any (a : Option Addr) (n cap : Nat) (hn : n ≤ 9223372036854775807) (ls : List (List Int)) (hz : ∀ j, (ls.getD j []).length ≤ 9223372036854775807) (w : World) (hA : NAt 3 w w.heap.size (.slice a n cap) n ls) :
    Calls Try.prog 38 #[.slice a n cap, .int .i64 1048576] w fun e w' => e = .returned (.int .i64 (szF 1048576 (n + tot ls))) ∧ Below w.heap.size w w' := by
  have HA : Hid (NAt 3 w w.heap.size (.slice a n cap) n ls) := hA
  have hlen := hA.1
  clear hA
  by_cases h1 : 1048576 < n
  · have h1' : (1048576 : Int) - (n : Int) < 0 := by omega
    have HE : Hid (szF 1048576 (n + tot ls) = -1) := by show szF _ _ = _; unfold szF; rw [if_neg (by omega)]
    go_enter Try.func38, Try.ntmps38
    go_wp2
    go_ret
    exact ⟨by rw [HE.out]; rfl, Below.refl _ _⟩
  have h1' : ¬ (1048576 : Int) - (n : Int) < 0 := by omega
  have hLn : ((1048576 - n : Nat) : Int) = 1048576 - (n : Int) := by omega
  have HZ : Hid (∀ j, (ls.getD j []).length ≤ 9223372036854775807) := hz
  clear hz
  go_enter Try.func38, Try.ntmps38
  go_wp2
  go_loopw [1, 5] (fun x i wr => ∃ k L : Nat, x = .int .i64 (L : Int) ∧ i = .int .i64 (k : Int) ∧ k ≤ n ∧ Hid (L + n + tot (ls.take (k * 3)) = 1048576) ∧ Hid (Below w.heap.size w wr)) (fun _ i _ => n - (intOf i).toNat)
  case atStart => exact ⟨0, 1048576 - n, by rw [hLn], rfl, Nat.zero_le _, (show 1048576 - n + n + 0 = 1048576 by omega), Below.refl _ _⟩
  case round =>
    obtain ⟨k, L, rfl, rfl, hk, HL, HW⟩ := hrel
    by_cases hlt : k < n
    · have hlt' : (k : Int) < (n : Int) := by omega
      have hk0 : (0 : Int) ≤ (k : Int) := by omega
      obtain ⟨b, off, a0, c0, a1, c1, a2, c2, rfl, hb, z0, z1, z2, _, _, _⟩ := (HA.out.on HW.out).row3 hlt
      have HT : Hid (tot (ls.take ((k + 1) * 3)) = tot (ls.take (k * 3)) + ((ls.getD (k * 3) []).length + (ls.getD (k * 3 + 1) []).length + (ls.getD (k * 3 + 2) []).length)) := by
        exact tot_take_three ls k (by omega)
      have HTL : Hid (tot (ls.take ((k + 1) * 3)) ≤ tot ls) := tot_take_le _ _
      have HC : Hid (∀ w, Calls Try.prog 66 #[.agg #[.slice a0 (ls.getD (k * 3) []).length c0, .slice a1 (ls.getD (k * 3 + 1) []).length c1, .slice a2 (ls.getD (k * 3 + 2) []).length c2], .int .i64 (L : Int)] w fun e w' => e = .returned (.int .i64 (szF L ((ls.getD (k * 3) []).length + (ls.getD (k * 3 + 1) []).length + (ls.getD (k * 3 + 2) []).length))) ∧ Below w.heap.size w w') := szRow_any a0 a1 a2 _ _ _ c0 c1 c2 L (HZ.out _) (HZ.out _) (HZ.out _) (by have := HL.out; omega)
      generalize (ls.getD (k * 3) []).length = m0 at HC HT z0
      generalize (ls.getD (k * 3 + 1) []).length = m1 at HC HT z1
      generalize (ls.getD (k * 3 + 2) []).length = m2 at HC HT z2
      generalize htk : tot (ls.take ((k + 1) * 3)) = T1 at HT HTL
      have HTK : Hid (tot (ls.take ((k + 1) * 3)) = T1) := htk
      clear htk
      generalize tot (ls.take (k * 3)) = T0 at HT HL
      clear HA hb
      by_cases hs : m0 + m1 + m2 ≤ L
      · have he : szF L (m0 + m1 + m2) = ((L - (m0 + m1 + m2) : Nat) : Int) := by unfold szF; rw [if_pos hs]; omega
        have hp : ¬ ((L - (m0 + m1 + m2) : Nat) : Int) < 0 := by omega
        rw [he] at HC
        have HL2 : Hid (L - (m0 + m1 + m2) + n + tot (ls.take ((k + 1) * 3)) = 1048576) := by
          show _ = _
          rw [HTK.out, HT.out]
          have := HL.out
          omega
        clear he hs
        generalize L - (m0 + m1 + m2) = L2 at HC hp HL2
        go_wp2_with fail
        refine (HC.out _).mono ?_
        rintro e w1 ⟨rfl, hb1⟩
        have HW2 : Hid (Below w.heap.size w w1) := HW.out.trans (hb1.mono HW.out.size)
        clear hb1 HW z0 z1 z2 HC
        go_wp2
        go_roundw
        case rel => exact ⟨k + 1, L2, rfl, by go_num, hlt, HL2, HW2⟩
        case measure => simp [intOf]; omega
      · have he : szF L (m0 + m1 + m2) = -1 := by unfold szF; rw [if_neg hs]
        have HE : Hid (szF 1048576 (n + tot ls) = -1) := by
          show szF _ _ = _
          unfold szF
          rw [if_neg (by have := HL.out; have := HT.out; have := HTL.out; omega)]
        rw [he] at HC
        clear he hs
        go_wp2_with fail
        refine (HC.out _).mono ?_
        rintro e w1 ⟨rfl, hb1⟩
        have HW2 : Hid (Below w.heap.size w w1) := HW.out.trans (hb1.mono HW.out.size)
        clear hb1 HW z0 z1 z2 HC
        go_wp2
        go_ret
        exact ⟨by rw [HE.out]; rfl, HW2.out⟩
    · have hlt' : ¬ (k : Int) < (n : Int) := by omega
      have hkn : k = n := by omega
      have HE : Hid (szF 1048576 (n + tot ls) = (L : Int)) := by
        have h := HL.out
        rw [hkn, ← hlen, List.take_length] at h
        show szF _ _ = _
        unfold szF
        rw [if_pos (by omega)]
        omega
      clear hkn
      go_wp2
      go_ret
      exact ⟨by rw [HE.out]; rfl, HW.out⟩

end Go.Proofs.Ytbkfdafdchjakaa

/-
  The walks of the helpers of the exact laws on rows and systems: copies, whether two are the same, marks.
  (-DROP-: what the seat lacks is left out.)
-/
namespace Go.Proofs.Ytbkfdafdchjakaa
open Go.RowKit

theorem infoRw : (Try.prog.info? 93).map (·.size) = some 3 := by kernel_rfl
theorem ones3R (a b c : Option Addr) (n m k n' m' k' : Nat) : (#[Value.slice a n n', .slice b m m', .slice c k k']).all (·.oneCell') = true := by simp [Value.oneCell']

set_option maxHeartbeats 800000 in
set_option maxRecDepth 100000 in
theorem toRow_any (a0 : Option Addr) (n0 c0 : Nat) (h0 : n0 ≤ 1048576) (f0 : Nat → Int) (a1 : Option Addr) (n1 c1 : Nat) (h1 : n1 ≤ 1048576) (f1 : Nat → Int) (a2 : Option Addr) (n2 c2 : Nat) (h2 : n2 ≤ 1048576) (f2 : Nat → Int) (w : World) (A0 : IntsAt w a0 n0 w.heap.size f0) (A1 : IntsAt w a1 n1 w.heap.size f1) (A2 : IntsAt w a2 n2 w.heap.size f2) :
    Calls Try.prog 69 #[.agg #[.slice a0 n0 c0, .slice a1 n1 c1, .slice a2 n2 c2]] w fun e w' => ∃ g0 g1 g2, e = .returned (.agg #[.slice (some ⟨g0, 0, none⟩) n0 n0, .slice (some ⟨g1, 0, none⟩) n1 n1, .slice (some ⟨g2, 0, none⟩) n2 n2]) ∧ w.heap.size ≤ g0 ∧ g0 < g1 ∧ g1 < g2 ∧ g2 < w'.heap.size ∧ RowI w' g0 n0 f0 ∧ RowI w' g1 n1 f1 ∧ RowI w' g2 n2 f2 ∧ Below w.heap.size w w' := by
  obtain ⟨W, hW, hB, hx, hr, ho⟩ := boxes2r w 119 93 93 #[.slice a0 n0 c0, .slice a1 n1 c1, .slice a2 n2 c2] #[.slice none 0 0, .slice none 0 0, .slice none 0 0] #[.slice none 0 0, .slice none 0 0, .slice none 0 0]
  have H0 : Hid (IntsAt w a0 n0 w.heap.size f0) := A0
  have H1 : Hid (IntsAt w a1 n1 w.heap.size f1) := A1
  have H2 : Hid (IntsAt w a2 n2 w.heap.size f2) := A2
  have hWs : w.heap.size + 3 ≤ W.heap.size := by rw [← hW]; simp
  clear A0 A1 A2
  have q0 := hx.cell 0
  go_enter Try.func69, Try.ntmps69
  go_wp2_with fail
  clear hW q0
  refine (toIntS_any a0 n0 c0 h0 f0 _ ((H0.out.on hB).wide hB.size)).mono ?_
  rintro e w1 ⟨rfl, R0, hb⟩
  have hsz := hb.size
  obtain ⟨g0, hg0⟩ : ∃ g, g = W.heap.size := ⟨_, rfl⟩
  rw [← hg0] at R0 hsz ⊢
  have hge0 : w.heap.size + 3 ≤ g0 := by omega
  have hl0 := R0.lt
  clear hg0 hWs
  replace hx := hx.on hb hx.lt
  replace hr := hr.on hb hr.lt
  replace ho := ho.on hb ho.lt
  replace hB := below_then hB hb
  have p0 := ho.cell 0
  have s0 := ho.free 0
  have t1 := hx.cell 1
  replace hx := hx.other (i := 0) (g' := w.heap.size + 1 + 1) (by omega) (.slice (some ⟨g0, 0, none⟩) n0 n0)
  replace hr := hr.other (i := 0) (g' := w.heap.size + 1 + 1) (by omega) (.slice (some ⟨g0, 0, none⟩) n0 n0)
  replace ho := ho.set 0 (.slice (some ⟨g0, 0, none⟩) n0 n0)
  replace R0 : RowI _ g0 n0 f0 := Blk.other (i := 0) (g' := w.heap.size + 1 + 1) R0 (by omega) (.slice (some ⟨g0, 0, none⟩) n0 n0)
  replace hB := hB.setCell (p := ⟨w.heap.size + 1 + 1, 0, none⟩) (by show w.heap.size ≤ w.heap.size + 1 + 1; omega) (.slice (some ⟨g0, 0, none⟩) n0 n0)
  have hS1 : w1.heap.size = (w1.setCell ⟨w.heap.size + 1 + 1, 0, none⟩ (.slice (some ⟨g0, 0, none⟩) n0 n0)).heap.size := by simp [World.setCell]
  have q1 := hx.cell 1
  clear hb hsz
  go_wp2_with fail
  generalize w1.setCell ⟨w.heap.size + 1 + 1, 0, none⟩ (.slice (some ⟨g0, 0, none⟩) n0 n0) = V1 at hx hr ho hB q1 hS1 R0 ⊢
  clear q1 t1 p0 s0
  refine (toIntS_any a1 n1 c1 h1 f1 _ ((H1.out.on hB).wide hB.size)).mono ?_
  rintro e w2 ⟨rfl, R1, hb⟩
  have hsz := hb.size
  obtain ⟨g1, hg1⟩ : ∃ g, g = V1.heap.size := ⟨_, rfl⟩
  rw [← hg1] at R1 hsz ⊢
  have hge1 : w.heap.size + 3 ≤ g1 := by have := ho.lt; omega
  have hlt1 : g0 < g1 := by have := hl0; omega
  have hl1 := R1.lt
  clear hg1 hS1
  replace hx := hx.on hb hx.lt
  replace hr := hr.on hb hr.lt
  replace ho := ho.on hb ho.lt
  replace R0 := R0.on hb R0.lt
  replace hB := below_then hB hb
  have p1 := ho.cell 1
  have s1 := ho.free 1
  have t2 := hx.cell 2
  replace hx := hx.other (i := 1) (g' := w.heap.size + 1 + 1) (by omega) (.slice (some ⟨g1, 0, none⟩) n1 n1)
  replace hr := hr.other (i := 1) (g' := w.heap.size + 1 + 1) (by omega) (.slice (some ⟨g1, 0, none⟩) n1 n1)
  replace ho := ho.set 1 (.slice (some ⟨g1, 0, none⟩) n1 n1)
  replace R0 : RowI _ g0 n0 f0 := Blk.other (i := 1) (g' := w.heap.size + 1 + 1) R0 (by omega) (.slice (some ⟨g1, 0, none⟩) n1 n1)
  replace R1 : RowI _ g1 n1 f1 := Blk.other (i := 1) (g' := w.heap.size + 1 + 1) R1 (by omega) (.slice (some ⟨g1, 0, none⟩) n1 n1)
  replace hB := hB.setCell (p := ⟨w.heap.size + 1 + 1, 1, none⟩) (by show w.heap.size ≤ w.heap.size + 1 + 1; omega) (.slice (some ⟨g1, 0, none⟩) n1 n1)
  have hS2 : w2.heap.size = (w2.setCell ⟨w.heap.size + 1 + 1, 1, none⟩ (.slice (some ⟨g1, 0, none⟩) n1 n1)).heap.size := by simp [World.setCell]
  have q2 := hx.cell 2
  clear hb hsz
  go_wp2_with fail
  generalize w2.setCell ⟨w.heap.size + 1 + 1, 1, none⟩ (.slice (some ⟨g1, 0, none⟩) n1 n1) = V2 at hx hr ho hB q2 hS2 R0 R1 ⊢
  clear q2 t2 p1 s1
  refine (toIntS_any a2 n2 c2 h2 f2 _ ((H2.out.on hB).wide hB.size)).mono ?_
  rintro e w3 ⟨rfl, R2, hb⟩
  have hsz := hb.size
  obtain ⟨g2, hg2⟩ : ∃ g, g = V2.heap.size := ⟨_, rfl⟩
  rw [← hg2] at R2 hsz ⊢
  have hge2 : w.heap.size + 3 ≤ g2 := by have := ho.lt; omega
  have hlt2 : g1 < g2 := by have := hl1; omega
  have hl2 := R2.lt
  clear hg2 hS2
  replace hx := hx.on hb hx.lt
  replace hr := hr.on hb hr.lt
  replace ho := ho.on hb ho.lt
  replace R0 := R0.on hb R0.lt
  replace R1 := R1.on hb R1.lt
  replace hB := below_then hB hb
  have p2 := ho.cell 2
  have s2 := ho.free 2
  replace hx := hx.other (i := 2) (g' := w.heap.size + 1 + 1) (by omega) (.slice (some ⟨g2, 0, none⟩) n2 n2)
  replace hr := hr.other (i := 2) (g' := w.heap.size + 1 + 1) (by omega) (.slice (some ⟨g2, 0, none⟩) n2 n2)
  replace ho := ho.set 2 (.slice (some ⟨g2, 0, none⟩) n2 n2)
  replace R0 : RowI _ g0 n0 f0 := Blk.other (i := 2) (g' := w.heap.size + 1 + 1) R0 (by omega) (.slice (some ⟨g2, 0, none⟩) n2 n2)
  replace R1 : RowI _ g1 n1 f1 := Blk.other (i := 2) (g' := w.heap.size + 1 + 1) R1 (by omega) (.slice (some ⟨g2, 0, none⟩) n2 n2)
  replace R2 : RowI _ g2 n2 f2 := Blk.other (i := 2) (g' := w.heap.size + 1 + 1) R2 (by omega) (.slice (some ⟨g2, 0, none⟩) n2 n2)
  replace hB := hB.setCell (p := ⟨w.heap.size + 1 + 1, 2, none⟩) (by show w.heap.size ≤ w.heap.size + 1 + 1; omega) (.slice (some ⟨g2, 0, none⟩) n2 n2)
  have hS3 : w3.heap.size = (w3.setCell ⟨w.heap.size + 1 + 1, 2, none⟩ (.slice (some ⟨g2, 0, none⟩) n2 n2)).heap.size := by simp [World.setCell]
  clear hb hsz
  clear H0 H1 H2 hx
  go_wp2_with (first | (refine load_blk rfl rfl rfl ho Try.underlying93 infoRw ?_) | (refine store_blk (cs' := #[.slice (some ⟨g0, 0, none⟩) n0 n0, .slice (some ⟨g1, 0, none⟩) n1 n1, .slice (some ⟨g2, 0, none⟩) n2 n2]) rfl rfl rfl rfl rfl hr infoRw rfl (ones3R _ _ _ _ _ _ _ _ _) ?_; intro V h5 hoth hbel; have hbV := hbel _ _ (by omega) hB; have T0 := hoth _ _ _ (by omega) R0; have T1 := hoth _ _ _ (by omega) R1; have T2 := hoth _ _ _ (by omega) R2; clear hoth hbel))
  refine bodyPost_ret_by (result_blk rfl rfl h5 Try.underlying93 infoRw) rfl ⟨_, _, _, rfl, by omega, by omega, by omega, T2.lt, T0, T1, T2, hbV⟩

theorem infoRwM : (Try.prog.info? 93).map (fun i => (i.zero, i.size, i.bytes)) = some (some (.agg #[.slice none 0 0, .slice none 0 0, .slice none 0 0]), 3, 72) := by kernel_rfl

/-- The cells of so many rows of nothing. -/
def nil3 (n : Nat) : Array Value := Array.replicate (n * 3) (.slice none 0 0)

/-- make([]Row, n). -/
theorem make_rows (n : Nat) (h2 : n ≤ 1073741824) (W : World) :
    (Instr.makeSlice 24 (.int .i64 (n : Int)) (.int .i64 (n : Int))).run Try.prog W = .ok (.slice (some ⟨W.heap.size, 0, none⟩) n n) (W.alloc (.cells (nil3 n) 93)) := by
  obtain ⟨i0, hi, hz0, hz1, hz2⟩ := info_parts infoRwM
  have hM : madeCells (Value.agg #[.slice none 0 0, .slice none 0 0, .slice none 0 0]).cells ((n : Int).toNat * i0.size) = nil3 n := by
    rw [hz1]
    apply Array.ext_getElem?
    intro k
    unfold nil3
    by_cases hk : k < n * 3
    · have hm : k % 3 = 0 ∨ k % 3 = 1 ∨ k % 3 = 2 := by omega
      rcases hm with h | h | h <;> simp [madeCells, Value.cells, hk, h]
    · rw [Array.getElem?_eq_none (by rw [size_madeCells]; simp; omega), Array.getElem?_eq_none (by simp; omega)]
  have h := run_make (P := Try.prog) W 24 93 i0 (.agg #[.slice none 0 0, .slice none 0 0, .slice none 0 0]) Try.underlying24 hi hz0 .i64 .i64 (n : Int) (n : Int) (by omega) (by omega) (by rw [hz2]; omega) (by omega)
  rw [hM] at h
  simpa using h

theorem zown_nil (lo hi : Nat) (w : World) : ZOwn lo hi w (.slice none 0 0) [] := ⟨World.ownsRow_nil _ _ _ _, fun k hk => by cases hk⟩

theorem nown_made (w : World) (n : Nat) (hn : n ≤ 1048576) : NOwnV 3 93 w.heap.size (w.heap.size + 1) (w.alloc (.cells (nil3 n) 93)) (.slice (some ⟨w.heap.size, 0, none⟩) n n) n (List.replicate (n * 3) (.slice none 0 0)) (List.replicate (n * 3) []) := by
  have hv : ∀ j, j < n * 3 → (List.replicate (n * 3) (Value.slice none 0 0)).getD j undef = .slice none 0 0 := fun j hj => by simp [hj]
  refine ⟨?_, by simp, fun k hk => ?_, fun j hj => ?_, fun i j k h1 h2 h3 h4 => ?_, fun j k h1 h2 => ?_⟩
  · have h := World.ownsRow_lit (base := w.heap.size) (e := 93) (size := 3) w (nil3 n) n (Nat.le_refl _) (by unfold maxLen; omega) (by simp [nil3])
    simpa [nil3] using h
  · have e1 : some w.heap.size = some k := hk
    injection e1 with e1
    omega
  · rw [hv j hj]
    have : (List.replicate (n * 3) ([] : List Int)).getD j [] = [] := by simp [hj]
    rw [this]
    exact zown_nil _ _ _
  · rw [hv i h1] at h4; cases h4
  · rw [hv j h1] at h2; cases h2

theorem zown_row {w : World} {g lo hi : Nat} {l : List Int} (h : RowI w g l.length (fun j => l.getD j 0)) (hlo : lo ≤ g) (hhi : g < hi) (hn : l.length ≤ 1048576) : ZOwn lo hi w (.slice (some ⟨g, 0, none⟩) l.length l.length) l := by
  refine ⟨?_, fun k hk => ?_⟩
  · have h1 := h.rowZ hlo hn
    rw [zls_getD] at h1
    exact h1
  · have e1 : some g = some k := hk
    injection e1 with e1
    omega

theorem up_set (ls : List (List Int)) (m j : Nat) (hm : ls.length = m) (hj : j < m) : (ls.take j ++ List.replicate (m - j) []).set j (ls.getD j []) = ls.take (j + 1) ++ List.replicate (m - (j + 1)) [] := by
  have hl : (ls.take j).length = j := by rw [List.length_take]; omega
  have e2 : ls.getD j [] = ls[j]'(by omega) := by simp [show j < ls.length by omega]
  rw [List.take_succ_eq_append_getElem (by omega), List.append_assoc, List.set_append_right _ _ (by omega), hl, Nat.sub_self, e2, show m - j = (m - (j + 1)) + 1 by omega, List.replicate_succ]
  rfl

/-- A row is put into a list of rows. -/
theorem NOwnV.put3 {lo hi hi' n g cp e : Nat} {w : World} {vs : List Value} {ls : List (List Int)} {i : Nat} {l0 l1 l2 : List Int} {g0 g1 g2 : Nat} (h : NOwnV 3 e lo hi w (.slice (some ⟨g, 0, none⟩) n cp) n vs ls) (hi3 : i < n) (hlo : lo ≤ hi) (h0 : hi ≤ g0) (h1 : g0 < g1) (h2 : g1 < g2) (h3 : g2 < hi') (b0 : l0.length ≤ 1048576) (b1 : l1.length ≤ 1048576) (b2 : l2.length ≤ 1048576)
    (r0 : RowI w g0 l0.length (fun j => l0.getD j 0)) (r1 : RowI w g1 l1.length (fun j => l1.getD j 0)) (r2 : RowI w g2 l2.length (fun j => l2.getD j 0)) :
    ∃ vs', NOwnV 3 e lo hi' (((w.setCell ⟨g, i * 3, none⟩ (.slice (some ⟨g0, 0, none⟩) l0.length l0.length)).setCell ⟨g, i * 3 + 1, none⟩ (.slice (some ⟨g1, 0, none⟩) l1.length l1.length)).setCell ⟨g, i * 3 + 2, none⟩ (.slice (some ⟨g2, 0, none⟩) l2.length l2.length)) (.slice (some ⟨g, 0, none⟩) n cp) n vs' (((ls.set (i * 3) l0).set (i * 3 + 1) l1).set (i * 3 + 2) l2) := by
  have hg : g < hi := h.top g rfl
  have k0 := h.put (j := i * 3) (by omega) (zown_row r0 h0 (show g0 < g0 + 1 by omega) b0) (by omega) hlo
  have s1 : RowI (w.setCell ⟨g, i * 3, none⟩ (.slice (some ⟨g0, 0, none⟩) l0.length l0.length)) g1 l1.length (fun j => l1.getD j 0) := Blk.other r1 (by omega) _
  have s2 : RowI (w.setCell ⟨g, i * 3, none⟩ (.slice (some ⟨g0, 0, none⟩) l0.length l0.length)) g2 l2.length (fun j => l2.getD j 0) := Blk.other r2 (by omega) _
  have k1 := k0.put (j := i * 3 + 1) (by omega) (zown_row s1 (show g0 + 1 ≤ g1 by omega) (show g1 < g1 + 1 by omega) b1) (by omega) (by omega)
  have t2 : RowI ((w.setCell ⟨g, i * 3, none⟩ (.slice (some ⟨g0, 0, none⟩) l0.length l0.length)).setCell ⟨g, i * 3 + 1, none⟩ (.slice (some ⟨g1, 0, none⟩) l1.length l1.length)) g2 l2.length (fun j => l2.getD j 0) := Blk.other s2 (by omega) _
  exact ⟨_, k1.put (j := i * 3 + 2) (by omega) (zown_row t2 (show g1 + 1 ≤ g2 by omega) h3 b2) (by omega) (by omega)⟩

set_option maxHeartbeats 1600000 in
set_option maxRecDepth 100000 in
theorem toRowS_any (a : Option Addr) (n cap : Nat) (hn : n ≤ 1048576) (ls : List (List Int)) (hz : ∀ j, (ls.getD j []).length ≤ 1048576) (w : World) (hA : NAt 3 w w.heap.size (.slice a n cap) n ls) :
    Calls Try.prog 41 #[.slice a n cap] w fun e w' => e = .returned (.slice (some ⟨w.heap.size, 0, none⟩) n n) ∧ (∃ vs, NOwnV 3 93 w.heap.size w'.heap.size w' (.slice (some ⟨w.heap.size, 0, none⟩) n n) n vs ls) ∧ Below w.heap.size w w' := by
  have HA : Hid (NAt 3 w w.heap.size (.slice a n cap) n ls) := hA
  have hlen := hA.1
  have HZ : Hid (∀ j, (ls.getD j []).length ≤ 1048576) := hz
  clear hA hz
  have hmk : ∀ W : World, (Instr.makeSlice 24 (.int .i64 (n : Int)) (.int .i64 (n : Int))).run Try.prog W = .ok (.slice (some ⟨W.heap.size, 0, none⟩) n n) (W.alloc (.cells (nil3 n) 93)) := fun W => make_rows n (by omega) W
  have H0 : Hid (NOwnV 3 93 w.heap.size (w.heap.size + 1) (w.alloc (.cells (nil3 n) 93)) (.slice (some ⟨w.heap.size, 0, none⟩) n n) n (List.replicate (n * 3) (.slice none 0 0)) (ls.take (0 * 3) ++ List.replicate (n * 3 - 0 * 3) [])) := by show NOwnV _ _ _ _ _ _ _ _ _; simpa using nown_made w n hn
  generalize nil3 n = M at hmk H0
  go_enter Try.func41, Try.ntmps41
  go_wp2
  go_loopw [4] (fun i wr => ∃ (k hi : Nat) (vs : List Value), i = .int .i64 (k : Int) ∧ k ≤ n ∧ Hid (w.heap.size < hi ∧ hi ≤ wr.heap.size) ∧ Hid (NOwnV 3 93 w.heap.size hi wr (.slice (some ⟨w.heap.size, 0, none⟩) n n) n vs (ls.take (k * 3) ++ List.replicate (n * 3 - k * 3) [])) ∧ Hid (Below w.heap.size w wr)) (fun i _ => n - (intOf i).toNat)
  case atStart => exact ⟨0, w.heap.size + 1, _, rfl, Nat.zero_le _, ⟨by omega, by simp⟩, H0, (Below.refl _ _).alloc (Nat.le_refl _) _⟩
  case round =>
    obtain ⟨k, hi, vs, rfl, hk, HH, HR, HW⟩ := hrel
    clear hmk H0
    by_cases hlt : k < n
    · have hlt' : (k : Int) < (n : Int) := by omega
      have hk0 : (0 : Int) ≤ (k : Int) := by omega
      obtain ⟨b, off, a0, c0, a1, c1, a2, c2, rfl, hb, z0, z1, z2, i0, i1, i2⟩ := (HA.out.on HW.out).row3 hlt
      have hws : w.heap.size ≤ wr.heap.size := HW.out.size
      have HC : Hid (Calls Try.prog 69 #[.agg #[.slice a0 (ls.getD (k * 3) []).length c0, .slice a1 (ls.getD (k * 3 + 1) []).length c1, .slice a2 (ls.getD (k * 3 + 2) []).length c2]] wr fun e w' => ∃ g0 g1 g2, e = .returned (.agg #[.slice (some ⟨g0, 0, none⟩) (ls.getD (k * 3) []).length (ls.getD (k * 3) []).length, .slice (some ⟨g1, 0, none⟩) (ls.getD (k * 3 + 1) []).length (ls.getD (k * 3 + 1) []).length, .slice (some ⟨g2, 0, none⟩) (ls.getD (k * 3 + 2) []).length (ls.getD (k * 3 + 2) []).length]) ∧ wr.heap.size ≤ g0 ∧ g0 < g1 ∧ g1 < g2 ∧ g2 < w'.heap.size ∧ RowI w' g0 (ls.getD (k * 3) []).length (fun j => (ls.getD (k * 3) []).getD j 0) ∧ RowI w' g1 (ls.getD (k * 3 + 1) []).length (fun j => (ls.getD (k * 3 + 1) []).getD j 0) ∧ RowI w' g2 (ls.getD (k * 3 + 2) []).length (fun j => (ls.getD (k * 3 + 2) []).getD j 0) ∧ Below wr.heap.size wr w') := toRow_any a0 _ c0 (HZ.out _) _ a1 _ c1 (HZ.out _) _ a2 _ c2 (HZ.out _) _ wr (i0.wide hws) (i1.wide hws) (i2.wide hws)
      have HS : Hid ((((ls.take (k * 3) ++ List.replicate (n * 3 - k * 3) []).set (k * 3) (ls.getD (k * 3) [])).set (k * 3 + 1) (ls.getD (k * 3 + 1) [])).set (k * 3 + 2) (ls.getD (k * 3 + 2) []) = ls.take ((k + 1) * 3) ++ List.replicate (n * 3 - (k + 1) * 3) []) := by
        show _ = _
        rw [up_set ls (n * 3) (k * 3) hlen (by omega), up_set ls (n * 3) (k * 3 + 1) hlen (by omega), up_set ls (n * 3) (k * 3 + 2) hlen (by omega), show (k + 1) * 3 = k * 3 + 2 + 1 by omega]
      have e0 := HZ.out (k * 3)
      have e1 := HZ.out (k * 3 + 1)
      have e2 := HZ.out (k * 3 + 2)
      generalize ls.take (k * 3) ++ List.replicate (n * 3 - k * 3) [] = cur at HS HR
      generalize ls.getD (k * 3) [] = l0 at HC HS z0 e0
      generalize ls.getD (k * 3 + 1) [] = l1 at HC HS z1 e1
      generalize ls.getD (k * 3 + 2) [] = l2 at HC HS z2 e2
      clear i0 i1 i2 hb HA HZ
      go_wp2_with fail
      refine HC.out.mono ?_
      rintro e w1 ⟨g0, g1, g2, rfl, hg0, hg1, hg2, hg3, r0, r1, r2, hb1⟩
      have hR1 := HR.out.same (Same.of_below hb1 HH.out.2)
      have c0 := hR1.cell (j := k * 3) (by omega)
      have c1 := hR1.cell (j := k * 3 + 1) (by omega)
      have c2 := hR1.cell (j := k * 3 + 2) (by omega)
      have f0 := World.ownsRow.frozenAt hR1.row (k * 3)
      have f1 := World.ownsRow.frozenAt hR1.row (k * 3 + 1)
      have f2 := World.ownsRow.frozenAt hR1.row (k * 3 + 2)
      obtain ⟨vs', hR2⟩ := hR1.put3 (hi' := w1.heap.size) hlt (by have := HH.out; omega) (by have := HH.out; omega) hg1 hg2 hg3 e0 e1 e2 r0 r1 r2
      rw [HS.out] at hR2
      have hB1 : Below w.heap.size w w1 := HW.out.trans (hb1.mono HW.out.size)
      have HW2 : Hid (Below w.heap.size w (((w1.setCell ⟨w.heap.size, k * 3, none⟩ (.slice (some ⟨g0, 0, none⟩) l0.length l0.length)).setCell ⟨w.heap.size, k * 3 + 1, none⟩ (.slice (some ⟨g1, 0, none⟩) l1.length l1.length)).setCell ⟨w.heap.size, k * 3 + 2, none⟩ (.slice (some ⟨g2, 0, none⟩) l2.length l2.length))) := ((hB1.setCell (Nat.le_refl _) _).setCell (Nat.le_refl _) _).setCell (Nat.le_refl _) _
      have HR2 : Hid (NOwnV 3 93 w.heap.size w1.heap.size (((w1.setCell ⟨w.heap.size, k * 3, none⟩ (.slice (some ⟨g0, 0, none⟩) l0.length l0.length)).setCell ⟨w.heap.size, k * 3 + 1, none⟩ (.slice (some ⟨g1, 0, none⟩) l1.length l1.length)).setCell ⟨w.heap.size, k * 3 + 2, none⟩ (.slice (some ⟨g2, 0, none⟩) l2.length l2.length)) (.slice (some ⟨w.heap.size, 0, none⟩) n n) n vs' (ls.take ((k + 1) * 3) ++ List.replicate (n * 3 - (k + 1) * 3) [])) := hR2
      have HH2 : Hid (w.heap.size < w1.heap.size ∧ w1.heap.size ≤ (((w1.setCell ⟨w.heap.size, k * 3, none⟩ (.slice (some ⟨g0, 0, none⟩) l0.length l0.length)).setCell ⟨w.heap.size, k * 3 + 1, none⟩ (.slice (some ⟨g1, 0, none⟩) l1.length l1.length)).setCell ⟨w.heap.size, k * 3 + 2, none⟩ (.slice (some ⟨g2, 0, none⟩) l2.length l2.length)).heap.size) := ⟨by have := HH.out; have := hb1.size; omega, by simp [World.setCell]⟩
      generalize vs.getD (k * 3) undef = o0 at c0
      generalize vs.getD (k * 3 + 1) undef = o1 at c1
      generalize vs.getD (k * 3 + 2) undef = o2 at c2
      clear HR HW HH hR1 hR2 hB1 hb1 z0 z1 z2 HC HS r0 r1 r2
      go_wp2
      go_roundw
      case rel => exact ⟨k + 1, _, vs', by go_num, hlt, HH2, HR2, HW2⟩
      case measure => simp [intOf]; omega
    · have hlt' : ¬ (k : Int) < (n : Int) := by omega
      have HE : Hid (NOwnV 3 93 w.heap.size wr.heap.size wr (.slice (some ⟨w.heap.size, 0, none⟩) n n) n vs ls) := by
        have h := HR.out
        rw [show k = n by omega, Nat.sub_self, ← hlen, List.take_length] at h
        simp only [List.replicate_zero, List.append_nil] at h
        exact h.wide HH.out.2
      go_wp2
      go_ret
      exact ⟨rfl, ⟨vs, HE.out⟩, HW.out⟩

end Go.Proofs.Ytbkfdafdchjakaa

/-
  The walks of the helpers of the exact laws on rows and systems: systems copied, whether two are the same, marks.
  (-DROP-: what the seat lacks is left out.)
-/
namespace Go.Proofs.Ytbkfdafdchjakaa
open Go.RowKit

theorem infoSy : (Try.prog.info? 26).map (·.size) = some 3 := by kernel_rfl

theorem infoSl : (Try.prog.info? 50).map (·.size) = some 3 := by kernel_rfl

/-- A system is its numbers and its rows. -/
def sysV (wi pu : Int) (v : Value) : Value := .agg #[.int .i64 wi, .int .i64 pu, v]
theorem ZOwn.oth {lo hi g : Nat} {w w' : World} {v : Value} {l : List Int} (h : ZOwn lo hi w v l) (hoth : ∀ g' t cs, g ≠ g' → Blk w g' t cs → Blk w' g' t cs) (hg : g < lo) : ZOwn lo hi w' v l := ⟨owns_other h.1 hoth hg, h.2⟩
theorem NOwnV.oth {sz e lo hi n g : Nat} {w w' : World} {v : Value} {vs : List Value} {ls : List (List Int)} (h : NOwnV sz e lo hi w v n vs ls) (hoth : ∀ g' t cs, g ≠ g' → Blk w g' t cs → Blk w' g' t cs) (hg : g < lo) : NOwnV sz e lo hi w' v n vs ls :=
  ⟨owns_other h.row hoth hg, h.len, h.top, fun j hj => (h.each j hj).oth hoth hg, h.apart, h.off⟩
theorem NOwnV.low {sz e lo lo' hi n : Nat} {w : World} {v : Value} {vs : List Value} {ls : List (List Int)} (h : NOwnV sz e lo hi w v n vs ls) (h2 : lo' ≤ lo) : NOwnV sz e lo' hi w v n vs ls :=
  ⟨owns_low h.row h2, h.len, h.top, fun j hj => (h.each j hj).wide h2 (Nat.le_refl _), h.apart, h.off⟩
theorem onesSy (wi pu : Int) (a : Option Addr) (n c : Nat) : (#[Value.int .i64 wi, .int .i64 pu, .slice a n c]).all (·.oneCell') = true := by simp [Value.oneCell']

set_option maxHeartbeats 800000 in
set_option maxRecDepth 100000 in
theorem eqRow_any (a0 b0 : Option Addr) (n0 c0 d0 : Nat) (h0 : n0 ≤ 1048576) (f0 : Nat → Int) (a1 b1 : Option Addr) (n1 c1 d1 : Nat) (h1 : n1 ≤ 1048576) (f1 : Nat → Int) (a2 b2 : Option Addr) (n2 c2 d2 : Nat) (h2 : n2 ≤ 1048576) (f2 : Nat → Int) (w : World) (A0 : IntsAt w a0 n0 w.heap.size f0) (B0 : IntsAt w b0 n0 w.heap.size f0) (A1 : IntsAt w a1 n1 w.heap.size f1) (B1 : IntsAt w b1 n1 w.heap.size f1) (A2 : IntsAt w a2 n2 w.heap.size f2) (B2 : IntsAt w b2 n2 w.heap.size f2) :
    Calls Try.prog 71 #[.agg #[.slice a0 n0 c0, .slice a1 n1 c1, .slice a2 n2 c2], .agg #[.slice b0 n0 d0, .slice b1 n1 d1, .slice b2 n2 d2]] w fun e w' => e = .returned (.bool true) ∧ Below w.heap.size w w' := by
  obtain ⟨W, hW, hB, hx, hy⟩ := boxes1r w 93 93 #[.slice a0 n0 c0, .slice a1 n1 c1, .slice a2 n2 c2] #[.slice b0 n0 d0, .slice b1 n1 d1, .slice b2 n2 d2]
  have H0 : Hid (IntsAt w a0 n0 w.heap.size f0 ∧ IntsAt w b0 n0 w.heap.size f0) := ⟨A0, B0⟩
  have H1 : Hid (IntsAt w a1 n1 w.heap.size f1 ∧ IntsAt w b1 n1 w.heap.size f1) := ⟨A1, B1⟩
  have H2 : Hid (IntsAt w a2 n2 w.heap.size f2 ∧ IntsAt w b2 n2 w.heap.size f2) := ⟨A2, B2⟩
  clear A0 A1 A2 B0 B1 B2
  have q0 := hx.cell 0
  have r0 := hy.cell 0
  go_enter Try.func71, Try.ntmps71
  go_wp2_with fail
  clear hW
  refine (eqIntS_any a0 b0 n0 c0 d0 h0 f0 _ ((H0.out.1.on hB).wide hB.size) ((H0.out.2.on hB).wide hB.size)).mono ?_
  rintro e w1 ⟨rfl, hb⟩
  clear q0 r0
  replace hx := hx.on hb hx.lt
  replace hy := hy.on hb hy.lt
  replace hB := below_then hB hb
  clear hb
  have q1 := hx.cell 1
  have r1 := hy.cell 1
  go_wp2_with fail
  refine (eqIntS_any a1 b1 n1 c1 d1 h1 f1 _ ((H1.out.1.on hB).wide hB.size) ((H1.out.2.on hB).wide hB.size)).mono ?_
  rintro e w2 ⟨rfl, hb⟩
  clear q1 r1
  replace hx := hx.on hb hx.lt
  replace hy := hy.on hb hy.lt
  replace hB := below_then hB hb
  clear hb
  have q2 := hx.cell 2
  have r2 := hy.cell 2
  go_wp2_with fail
  refine (eqIntS_any a2 b2 n2 c2 d2 h2 f2 _ ((H2.out.1.on hB).wide hB.size) ((H2.out.2.on hB).wide hB.size)).mono ?_
  rintro e w3 ⟨rfl, hb⟩
  clear q2 r2
  replace hx := hx.on hb hx.lt
  replace hy := hy.on hb hy.lt
  replace hB := below_then hB hb
  clear hb
  go_wp2
  go_ret
  exact ⟨rfl, hB⟩

set_option maxHeartbeats 800000 in
set_option maxRecDepth 100000 in
theorem eqRowS_any (a b : Option Addr) (n c1 c2 : Nat) (hn : n ≤ 1048576) (ls : List (List Int)) (hz : ∀ j, (ls.getD j []).length ≤ 1048576) (w : World) (hA : NAt 3 w w.heap.size (.slice a n c1) n ls) (hB : NAt 3 w w.heap.size (.slice b n c2) n ls) :
    Calls Try.prog 43 #[.slice a n c1, .slice b n c2] w fun e w' => e = .returned (.bool true) ∧ Below w.heap.size w w' := by
  have HA : Hid (NAt 3 w w.heap.size (.slice a n c1) n ls) := hA
  have HB : Hid (NAt 3 w w.heap.size (.slice b n c2) n ls) := hB
  have HZ : Hid (∀ j, (ls.getD j []).length ≤ 1048576) := hz
  clear hA hB hz
  go_enter Try.func43, Try.ntmps43
  go_wp2
  go_loopw [5] (fun i wr => ∃ k : Nat, i = .int .i64 (k : Int) ∧ k ≤ n ∧ Hid (Below w.heap.size w wr)) (fun i _ => n - (intOf i).toNat)
  case atStart => exact ⟨0, rfl, Nat.zero_le _, Below.refl _ _⟩
  case round =>
    obtain ⟨k, rfl, hk, HW⟩ := hrel
    by_cases hlt : k < n
    · have hlt' : (k : Int) < (n : Int) := by omega
      have hk0 : (0 : Int) ≤ (k : Int) := by omega
      have hws : w.heap.size ≤ wr.heap.size := HW.out.size
      obtain ⟨b, off, a0, c0, a1, c1, a2, c2, rfl, hb, z0, z1, z2, i0, i1, i2⟩ := (HA.out.on HW.out).row3 hlt
      obtain ⟨b', off', b0, d0, b1, d1, b2, d2, rfl, hb', y0, y1, y2, j0, j1, j2⟩ := (HB.out.on HW.out).row3 hlt
      have HT : Hid (∀ w', Below wr.heap.size wr w' → Calls Try.prog 71 #[.agg #[.slice a0 (ls.getD (k * 3) []).length c0, .slice a1 (ls.getD (k * 3 + 1) []).length c1, .slice a2 (ls.getD (k * 3 + 2) []).length c2], .agg #[.slice b0 (ls.getD (k * 3) []).length d0, .slice b1 (ls.getD (k * 3 + 1) []).length d1, .slice b2 (ls.getD (k * 3 + 2) []).length d2]] w' fun e w'' => e = .returned (.bool true) ∧ Below w'.heap.size w' w'') := fun w' hw =>
        eqRow_any a0 b0 _ c0 d0 (HZ.out _) _ a1 b1 _ c1 d1 (HZ.out _) _ a2 b2 _ c2 d2 (HZ.out _) _ w' (((i0.wide hws).on hw).wide hw.size) (((j0.wide hws).on hw).wide hw.size) (((i1.wide hws).on hw).wide hw.size) (((j1.wide hws).on hw).wide hw.size) (((i2.wide hws).on hw).wide hw.size) (((j2.wide hws).on hw).wide hw.size)
      generalize (ls.getD (k * 3) []).length = m0 at HT z0 y0
      generalize (ls.getD (k * 3 + 1) []).length = m1 at HT z1 y1
      generalize (ls.getD (k * 3 + 2) []).length = m2 at HT z2 y2
      have Z0 : ∀ w', Below wr.heap.size wr w' → w'.cell? ⟨b, off + k * 3, none⟩ = some (.slice a0 m0 c0) := fun w' hw => (hw.cell (p := ⟨b, off + k * 3, none⟩) (by show b < _; omega)).trans z0
      have Z1 : ∀ w', Below wr.heap.size wr w' → w'.cell? ⟨b, off + k * 3 + 1, none⟩ = some (.slice a1 m1 c1) := fun w' hw => (hw.cell (p := ⟨b, off + k * 3 + 1, none⟩) (by show b < _; omega)).trans z1
      have Z2 : ∀ w', Below wr.heap.size wr w' → w'.cell? ⟨b, off + k * 3 + 2, none⟩ = some (.slice a2 m2 c2) := fun w' hw => (hw.cell (p := ⟨b, off + k * 3 + 2, none⟩) (by show b < _; omega)).trans z2
      have Y0 : ∀ w', Below wr.heap.size wr w' → w'.cell? ⟨b', off' + k * 3, none⟩ = some (.slice b0 m0 d0) := fun w' hw => (hw.cell (p := ⟨b', off' + k * 3, none⟩) (by show b' < _; omega)).trans y0
      have Y1 : ∀ w', Below wr.heap.size wr w' → w'.cell? ⟨b', off' + k * 3 + 1, none⟩ = some (.slice b1 m1 d1) := fun w' hw => (hw.cell (p := ⟨b', off' + k * 3 + 1, none⟩) (by show b' < _; omega)).trans y1
      have Y2 : ∀ w', Below wr.heap.size wr w' → w'.cell? ⟨b', off' + k * 3 + 2, none⟩ = some (.slice b2 m2 d2) := fun w' hw => (hw.cell (p := ⟨b', off' + k * 3 + 2, none⟩) (by show b' < _; omega)).trans y2
      clear HA HB hb hb' z0 z1 z2 y0 y1 y2 i0 i1 i2 j0 j1 j2 HZ
      go_wp2
      refine wp_region_class 9 (fun wz => Below wr.heap.size wr wz) mixes (by kernel_rfl) (Below.refl _ _).drew ?_
      simp only [List.take_succ_cons, List.take_zero, List.drop_succ_cons, List.drop_zero]
      repeat (refine cls_step rfl (fun K hK => ⟨_, (fun w' hw => by have z0 := Z0 w' hw; have z1 := Z1 w' hw; have z2 := Z2 w' hw; have z3 := Y0 w' hw; have z4 := Y1 w' hw; have z5 := Y2 w' hw; go_simp; exact rfl), ?_⟩); go_simp; refine hK _ ?_; clear hK K)
      refine cls_call rfl (fun K hK => ⟨_, _, _, (fun w' => by go_simp <;> first | exact rfl | exact ⟨rfl, rfl⟩), (fun w' hw => calls_below hw (HT.out _ hw)), ?_⟩); go_simp; refine hK _ ?_; clear hK K
      refine wq_nil ?_
      intro w' hw
      have HW2 : Hid (Below w.heap.size w w') := HW.out.trans (hw.mono hws)
      clear hw HW
      go_wp2
      go_roundw
      case rel => exact ⟨k + 1, by go_num, hlt, HW2⟩
      case measure => simp [intOf]; omega
    · have hlt' : ¬ (k : Int) < (n : Int) := by omega
      go_wp2
      go_ret
      exact ⟨rfl, HW.out⟩

set_option maxHeartbeats 800000 in
set_option maxRecDepth 100000 in
theorem eqSystem_any (wi pu : Int) (a b : Option Addr) (n c1 c2 : Nat) (hn : n ≤ 1048576) (ls : List (List Int)) (hz : ∀ j, (ls.getD j []).length ≤ 1048576) (w : World) (hA : NAt 3 w w.heap.size (.slice a n c1) n ls) (hB : NAt 3 w w.heap.size (.slice b n c2) n ls) :
    Calls Try.prog 17 #[sysV wi pu (.slice a n c1), sysV wi pu (.slice b n c2)] w fun e w' => e = .returned (.bool true) ∧ Below w.heap.size w w' := by
  obtain ⟨W, hW, hb, hx, hy⟩ := boxes1r w 26 26 #[.int .i64 wi, .int .i64 pu, .slice a n c1] #[.int .i64 wi, .int .i64 pu, .slice b n c2]
  have HA : Hid (NAt 3 W W.heap.size (.slice a n c1) n ls) := (hA.on hb).wide hb.size
  have HB : Hid (NAt 3 W W.heap.size (.slice b n c2) n ls) := (hB.on hb).wide hb.size
  have q0 := hx.cell 0
  have q1 := hx.cell 1
  have q2 := hx.cell 2
  have r0 := hy.cell 0
  have r1 := hy.cell 1
  have r2 := hy.cell 2
  clear hA hB
  unfold sysV
  go_enter Try.func17, Try.ntmps17
  go_wp2_with fail
  clear hW
  refine (eqRowS_any a b n c1 c2 hn ls hz _ HA.out HB.out).mono ?_
  rintro e w1 ⟨rfl, hb1⟩
  have hB1 := below_then hb hb1
  clear hb hb1 hx hy q0 q1 q2 r0 r1 r2 HA HB
  go_wp2
  go_ret
  exact ⟨rfl, hB1⟩

set_option maxHeartbeats 800000 in
set_option maxRecDepth 100000 in
theorem toSystem_any (wi pu : Int) (a : Option Addr) (n c : Nat) (hn : n ≤ 1048576) (ls : List (List Int)) (hz : ∀ j, (ls.getD j []).length ≤ 1048576) (w : World) (hA : NAt 3 w w.heap.size (.slice a n c) n ls) :
    Calls Try.prog 14 #[sysV wi pu (.slice a n c)] w fun e w' => ∃ g vs, e = .returned (sysV wi pu (.slice (some ⟨g, 0, none⟩) n n)) ∧ NOwnV 3 93 w.heap.size w'.heap.size w' (.slice (some ⟨g, 0, none⟩) n n) n vs ls ∧ Below w.heap.size w w' := by
  obtain ⟨W, hW, hb, hx, hr, ho⟩ := boxes2r w 50 26 26 #[.int .i64 wi, .int .i64 pu, .slice a n c] #[.int .i64 0, .int .i64 0, .slice none 0 0] #[.int .i64 0, .int .i64 0, .slice none 0 0]
  have HA : Hid (NAt 3 w w.heap.size (.slice a n c) n ls) := hA
  have hWs : w.heap.size + 3 ≤ W.heap.size := by rw [← hW]; simp
  have x0 := hx.cell 0
  have x1 := hx.cell 1
  have x2 := hx.cell 2
  have p0 := ho.cell 0
  have p1 := ho.cell 1
  have s0 := ho.free 0
  have s1 := ho.free 1
  clear hA
  have ho1 := (ho.set 0 (.int .i64 wi)).set 1 (.int .i64 pu)
  have hr1 := (hr.other (i := 0) (g' := w.heap.size + 1 + 1) (by omega) (.int .i64 wi)).other (i := 1) (g' := w.heap.size + 1 + 1) (by omega) (.int .i64 pu)
  have hB1 := (hb.setCell (p := ⟨w.heap.size + 1 + 1, 0, none⟩) (by show w.heap.size ≤ w.heap.size + 1 + 1; omega) (.int .i64 wi)).setCell (p := ⟨w.heap.size + 1 + 1, 1, none⟩) (by show w.heap.size ≤ w.heap.size + 1 + 1; omega) (.int .i64 pu)
  unfold sysV
  go_enter Try.func14, Try.ntmps14
  go_wp2_with fail
  clear hW x0 x1 x2 p0 p1 s0 s1 hx hr ho hb
  have hVs : w.heap.size + 3 ≤ ((W.setCell ⟨w.heap.size + 1 + 1, 0, none⟩ (.int .i64 wi)).setCell ⟨w.heap.size + 1 + 1, 1, none⟩ (.int .i64 pu)).heap.size := by simp [World.setCell]; exact hWs
  clear hWs
  generalize (W.setCell ⟨w.heap.size + 1 + 1, 0, none⟩ (.int .i64 wi)).setCell ⟨w.heap.size + 1 + 1, 1, none⟩ (.int .i64 pu) = V at ho1 hr1 hB1 hVs ⊢
  refine (toRowS_any a n c hn ls hz _ ((HA.out.on hB1).wide hB1.size)).mono ?_
  rintro e w1 ⟨rfl, ⟨vs, hO⟩, hb1⟩
  have ho2 := ho1.on hb1 ho1.lt
  have hr2 := hr1.on hb1 hr1.lt
  have hB2 := below_then hB1 hb1
  have p2 := ho2.cell 2
  have s2 := ho2.free 2
  obtain ⟨g, hg⟩ : ∃ g, g = V.heap.size := ⟨_, rfl⟩
  rw [← hg] at hO hVs ⊢
  clear hg hb1
  have ho3 := ho2.set 2 (.slice (some ⟨g, 0, none⟩) n n)
  have hr3 := hr2.other (i := 2) (g' := w.heap.size + 1 + 1) (by omega) (.slice (some ⟨g, 0, none⟩) n n)
  have hO3 := hO.same (Same.set w1 ⟨w.heap.size + 1 + 1, 2, none⟩ (.slice (some ⟨g, 0, none⟩) n n) (.inl (by show w.heap.size + 1 + 1 < g; omega)))
  have hB3 := hB2.setCell (p := ⟨w.heap.size + 1 + 1, 2, none⟩) (by show w.heap.size ≤ w.heap.size + 1 + 1; omega) (.slice (some ⟨g, 0, none⟩) n n)
  have hS3 : w1.heap.size ≤ (w1.setCell ⟨w.heap.size + 1 + 1, 2, none⟩ (.slice (some ⟨g, 0, none⟩) n n)).heap.size := by simp [World.setCell]
  clear ho1 hr1 hB1 ho2 hr2 hB2 hO HA
  go_wp2_with (first | (refine load_blk rfl rfl rfl ho3 Try.underlying26 infoSy ?_) | (refine store_blk (cs' := #[.int .i64 wi, .int .i64 pu, .slice (some ⟨g, 0, none⟩) n n]) rfl rfl rfl rfl rfl hr3 infoSy rfl (onesSy _ _ _ _ _) ?_; intro V2 h5 hoth hbel; have hbV := hbel _ _ (by omega) hB3; have hbV2 := hbel 0 _ (by omega) (Below.refl 0 _); have hOV := hO3.oth hoth (by omega); clear hoth hbel))
  refine bodyPost_ret_by (result_blk rfl rfl h5 Try.underlying26 infoSy) rfl ⟨g, vs, rfl, (hOV.wide (Nat.le_trans hS3 hbV2.size)).low (by omega), hbV⟩

set_option maxHeartbeats 800000 in
set_option maxRecDepth 100000 in
theorem szSystem_any (wi pu : Int) (a : Option Addr) (n c : Nat) (hn : n ≤ 9223372036854775807) (ls : List (List Int)) (hz : ∀ j, (ls.getD j []).length ≤ 9223372036854775807) (w : World) (hA : NAt 3 w w.heap.size (.slice a n c) n ls) :
    Calls Try.prog 12 #[sysV wi pu (.slice a n c), .int .i64 1048576] w fun e w' => e = .returned (.int .i64 (szF 1048576 (n + tot ls))) ∧ Below w.heap.size w w' := by
  obtain ⟨W, hW, hb, hx⟩ := box1 w 50 #[.int .i64 wi, .int .i64 pu, .slice a n c]
  have HA : Hid (NAt 3 W W.heap.size (.slice a n c) n ls) := (hA.on hb).wide hb.size
  have q0 := hx.cell 2
  clear hA
  have HC : Hid (Calls Try.prog 38 #[.slice a n c, .int .i64 1048576] W fun e w' => e = .returned (.int .i64 (szF 1048576 (n + tot ls))) ∧ Below W.heap.size W w') := szRowS_any a n c hn ls hz W HA.out
  have hs : szF 1048576 (n + tot ls) = -1 ∨ ¬ szF 1048576 (n + tot ls) < 0 := by unfold szF; by_cases h : n + tot ls ≤ 1048576 <;> simp [h] <;> omega
  generalize szF 1048576 (n + tot ls) = r at hs HC ⊢
  unfold sysV
  rcases hs with rfl | hs
  · go_enter Try.func12, Try.ntmps12
    go_wp2_with fail
    clear hW
    refine HC.out.mono ?_
    rintro e w1 ⟨rfl, hb1⟩
    have hB1 := below_then hb hb1
    clear hb hb1 hx q0 HA HC
    go_wp2
    go_ret
    exact ⟨rfl, hB1⟩
  · go_enter Try.func12, Try.ntmps12
    go_wp2_with fail
    clear hW
    refine HC.out.mono ?_
    rintro e w1 ⟨rfl, hb1⟩
    have hB1 := below_then hb hb1
    clear hb hb1 hx q0 HA HC
    go_wp2
    go_ret
    exact ⟨rfl, hB1⟩

end Go.Proofs.Ytbkfdafdchjakaa

/-
  The walks of the program's scalars.
  (-DROP-: what the seat lacks is left out.)
-/
namespace Go.Proofs.Ytbkfdafdchjakaa
open Go.RowKit

set_option maxHeartbeats 400000 in
set_option maxRecDepth 100000 in
theorem iScOf_any (n : Int) (w : World) :
    Calls Try.prog 58 #[.int .i64 n] w fun e w' => e = .returned (.int .i64 (sca n)) ∧ w = w' := by
  have hb := tmod_bounds_sca n
  by_cases h : Int.tmod n 1009 < 0
  · have he := tmod_neg_sca h
    go_enter Try.func58, Try.ntmps58
    go_wp2
    go_ret
    exact ⟨rfl, rfl⟩
  · have he := tmod_nonneg_sca h
    go_enter Try.func58, Try.ntmps58
    go_wp2
    go_ret
    exact ⟨rfl, rfl⟩

set_option maxHeartbeats 400000 in
set_option maxRecDepth 100000 in
theorem iScAdd_any (a b : Int) (w : World) :
    Calls Try.prog 28 #[.int .i64 a, .int .i64 b] w fun e w' => e = .returned (.int .i64 (scAdd a b)) ∧ w = w' := by
  have ha0 := sca_nonneg a
  have ha1 := sca_lt a
  have hb0 := sca_nonneg b
  have hb1 := sca_lt b
  have HE : Hid (scAdd a b = sca (sca a + sca b)) := rfl
  go_enter Try.func28, Try.ntmps28
  go_wp2_with (go_at_call 58; refine (iScOf_any _ _).mono ?_; rintro e w1 ⟨rfl, rfl⟩)
  go_ret
  exact ⟨by rw [HE.out]; rfl, rfl⟩

set_option maxHeartbeats 400000 in
set_option maxRecDepth 100000 in
theorem iScMul_any (a b : Int) (w : World) :
    Calls Try.prog 30 #[.int .i64 a, .int .i64 b] w fun e w' => e = .returned (.int .i64 (scMul a b)) ∧ w = w' := by
  have hp := sca_prod a b
  have HE : Hid (scMul a b = sca (sca a * sca b)) := rfl
  go_enter Try.func30, Try.ntmps30
  go_wp2_with (go_at_call 58; refine (iScOf_any _ _).mono ?_; rintro e w1 ⟨rfl, rfl⟩)
  go_ret
  exact ⟨by rw [HE.out]; rfl, rfl⟩

set_option maxHeartbeats 400000 in
set_option maxRecDepth 100000 in
theorem iScNeg_any (a : Int) (w : World) :
    Calls Try.prog 96 #[.int .i64 a] w fun e w' => e = .returned (.int .i64 (scNeg a)) ∧ w = w' := by
  have ha0 := sca_nonneg a
  have ha1 := sca_lt a
  have HE : Hid (scNeg a = sca (-sca a)) := rfl
  go_enter Try.func96, Try.ntmps96
  go_wp2_with (go_at_call 58; refine (iScOf_any _ _).mono ?_; rintro e w1 ⟨rfl, rfl⟩)
  go_ret
  exact ⟨by rw [HE.out]; rfl, rfl⟩

set_option maxHeartbeats 800000 in
set_option maxRecDepth 100000 in
theorem len64_any (w : World) :
    Calls Try.prog 84 #[.int .u64 1007] w fun e w' => e = .returned (.int .i64 10) ∧ w = w' := by
  go_enter Try.func84, Try.ntmps84
  go_wp2
  go_ret
  exact ⟨by kernel_rfl, rfl⟩

set_option maxHeartbeats 800000 in
set_option maxRecDepth 100000 in
theorem len_any (w : World) :
    Calls Try.prog 59 #[.int .u64 1007] w fun e w' => e = .returned (.int .i64 10) ∧ w = w' := by
  go_enter Try.func59, Try.ntmps59
  go_wp2_with (go_at_call 84; refine (len64_any _).mono ?_; rintro e w1 ⟨rfl, rfl⟩)
  go_ret
  exact ⟨rfl, rfl⟩

set_option maxHeartbeats 800000 in
set_option maxRecDepth 100000 in
theorem iScInv_any (a : Int) (w : World) :
    Calls Try.prog 31 #[.int .i64 a] w fun e w' => e = .returned (.int .i64 (scInv a)) ∧ w = w' := by
  obtain ⟨R, hR⟩ : ∃ R, R = scn a ^ eS % 1009 := ⟨_, rfl⟩
  have HV : Hid (scInv a = (R : Int)) := by rw [hR]; rfl
  have HR : Hid (R = scn a ^ eS % 1009) := hR
  clear hR
  go_enter Try.func31, Try.ntmps31
  go_wp2_with (go_at_call 59; refine (len_any _).mono ?_; rintro e w1 ⟨rfl, rfl⟩)
  go_loopw [3, 4, 8] (fun x b i wr => ∃ (k r : Nat) (s : Int), i = .int .i64 (k : Int) ∧ k ≤ 10 ∧ x = .int .i64 (r : Int) ∧ b = .int .i64 s ∧ r < 1009 ∧ Hid (r * scn s ^ (eS / 2 ^ k) % 1009 = R) ∧ w = wr) (fun _ _ i _ => 10 - (intOf i).toNat)
  case atStart => exact ⟨0, 1, a, rfl, by omega, rfl, rfl, by omega, (show 1 * scn a ^ (eS / 2 ^ 0) % 1009 = R by rw [Nat.one_mul, Nat.pow_zero, Nat.div_one, HR.out]), rfl⟩
  case round =>
    obtain ⟨k, r, s, rfl, hk, rfl, rfl, hr, HP, rfl⟩ := hrel
    by_cases h0 : k < 10
    · have h0' : (k : Int) < 10 := by omega
      have HS2 : Hid (scn s * scn s % 1009 < 1009) := Nat.mod_lt _ (by decide)
      have HR2 : Hid (r * scn s % 1009 < 1009) := Nat.mod_lt _ (by decide)
      have HC : Hid (∀ w, Calls Try.prog 30 #[.int .i64 (r : Int), .int .i64 s] w fun e w' => e = .returned (.int .i64 ((r * scn s % 1009 : Nat) : Int)) ∧ w = w') := fun w => by
        have h := iScMul_any r s w
        rw [scMul_nat, scn_small hr] at h
        exact h
      have HD : Hid (∀ w, Calls Try.prog 30 #[.int .i64 s, .int .i64 s] w fun e w' => e = .returned (.int .i64 ((scn s * scn s % 1009 : Nat) : Int)) ∧ w = w') := fun w => by
        have h := iScMul_any s s w
        rw [scMul_nat] at h
        exact h
      have HE : Hid (eS / 2 ^ (k + 1) = eS / 2 ^ k / 2) := by show _ = _; rw [Nat.pow_succ, Nat.div_div_eq_div_mul]
      obtain ⟨m, hm⟩ : ∃ m, m = eS / 2 ^ k := ⟨_, rfl⟩
      have HM : Hid (m = eS / 2 ^ k) := hm
      have hml : m ≤ 1007 := by rw [hm]; exact Nat.div_le_self _ _
      rw [← hm] at HP HE
      clear hm
      have hshr : (1007 : Int) / 2 ^ k = (m : Int) := by
        rw [HM.out, Int.natCast_ediv, Int.natCast_pow]; rfl
      by_cases h2 : m % 2 = 1
      · have h2' : Int.tmod (m : Int) 2 = 1 := by rw [Int.tmod_eq_emod_of_nonneg (by omega)]; omega
        have HN : Hid (r * scn s % 1009 * (scn s * scn s % 1009) ^ (m / 2) % 1009 = R) := (sca_odd r (scn s) m h2).trans HP.out
        rw [← HE.out] at HN
        generalize r * scn s % 1009 = r2 at HN HC HR2
        generalize hS2 : scn s * scn s % 1009 = s2 at HN HD HS2
        have HN2 : Hid (r2 * scn (s2 : Int) ^ (eS / 2 ^ (k + 1)) % 1009 = R) := by rw [scn_small HS2.out]; exact HN
        clear h2 HP HN hS2 HE HM
        go_wp2_with fail
        refine (HC.out _).mono ?_
        rintro e w1 ⟨rfl, rfl⟩
        go_wp2_with fail
        refine (HD.out _).mono ?_
        rintro e w1 ⟨rfl, rfl⟩
        go_wp2
        go_roundw
        case rel => exact ⟨k + 1, r2, s2, by go_num, by omega, rfl, rfl, HR2.out, HN2, by trivial⟩
        case measure => simp [intOf]; omega
      · have h2' : Int.tmod (m : Int) 2 = 0 := by rw [Int.tmod_eq_emod_of_nonneg (by omega)]; omega
        have HN : Hid (r * (scn s * scn s % 1009) ^ (m / 2) % 1009 = R) := (sca_even r (scn s) m (by omega)).trans HP.out
        rw [← HE.out] at HN
        generalize hS2 : scn s * scn s % 1009 = s2 at HN HD HS2
        have HN2 : Hid (r * scn (s2 : Int) ^ (eS / 2 ^ (k + 1)) % 1009 = R) := by rw [scn_small HS2.out]; exact HN
        clear h2 HP HN hS2 HE HM HC HR2
        go_wp2_with fail
        refine (HD.out _).mono ?_
        rintro e w1 ⟨rfl, rfl⟩
        go_wp2
        go_roundw
        case rel => exact ⟨k + 1, r, s2, by go_num, by omega, rfl, rfl, hr, HN2, by trivial⟩
        case measure => simp [intOf]; omega
    · have h0' : ¬ (k : Int) < 10 := by omega
      obtain rfl : k = 10 := by omega
      have HF : Hid (R = r) := by
        have h := HP.out
        rw [show eS / 2 ^ 10 = 0 from rfl, Nat.pow_zero, Nat.mul_one, Nat.mod_eq_of_lt hr] at h
        exact h.symm
      clear HP
      go_wp2
      go_ret
      exact ⟨by rw [HV.out, HF.out]; rfl, rfl⟩

end Go.Proofs.Ytbkfdafdchjakaa

/-
  The walks of the specification's scalars.
  (-DROP-: what the seat lacks is left out.)
-/
namespace Go.Proofs.Ytbkfdafdchjakaa
open Go.RowKit

set_option maxHeartbeats 400000 in
set_option maxRecDepth 100000 in
theorem sScOf_any (n : Int) (w : World) :
    Calls Try.prog 47 #[.int .i64 n] w fun e w' => e = .returned (.int .i64 (sca n)) ∧ w = w' := by
  have hb := tmod_bounds_sca n
  by_cases h : Int.tmod n 1009 < 0
  · have he := tmod_neg_sca h
    go_enter Try.func47, Try.ntmps47
    go_wp2
    go_ret
    exact ⟨rfl, rfl⟩
  · have he := tmod_nonneg_sca h
    go_enter Try.func47, Try.ntmps47
    go_wp2
    go_ret
    exact ⟨rfl, rfl⟩

set_option maxHeartbeats 400000 in
set_option maxRecDepth 100000 in
theorem sScAdd_any (a b : Int) (w : World) :
    Calls Try.prog 74 #[.int .i64 a, .int .i64 b] w fun e w' => e = .returned (.int .i64 (scAdd a b)) ∧ w = w' := by
  have ha0 := sca_nonneg a
  have ha1 := sca_lt a
  have hb0 := sca_nonneg b
  have hb1 := sca_lt b
  have HE : Hid (scAdd a b = sca (sca a + sca b)) := rfl
  go_enter Try.func74, Try.ntmps74
  go_wp2_with (go_at_call 47; refine (sScOf_any _ _).mono ?_; rintro e w1 ⟨rfl, rfl⟩)
  go_ret
  exact ⟨by rw [HE.out]; rfl, rfl⟩

set_option maxHeartbeats 400000 in
set_option maxRecDepth 100000 in
theorem sScMul_any (a b : Int) (w : World) :
    Calls Try.prog 50 #[.int .i64 a, .int .i64 b] w fun e w' => e = .returned (.int .i64 (scMul a b)) ∧ w = w' := by
  have hp := sca_prod a b
  have HE : Hid (scMul a b = sca (sca a * sca b)) := rfl
  go_enter Try.func50, Try.ntmps50
  go_wp2_with (go_at_call 47; refine (sScOf_any _ _).mono ?_; rintro e w1 ⟨rfl, rfl⟩)
  go_ret
  exact ⟨by rw [HE.out]; rfl, rfl⟩

end Go.Proofs.Ytbkfdafdchjakaa

/-
  The walks of ScDot, the program's and the specification's.
  (-DROP-: what the seat lacks is left out.)
-/
namespace Go.Proofs.Ytbkfdafdchjakaa
open Go.RowKit

set_option maxHeartbeats 800000 in
set_option maxRecDepth 100000 in
theorem iDot_any (a1 a2 : Option Addr) (n1 c1 n2 c2 : Nat) (hm1 : n1 ≤ 9223372036854775807) (f g : Nat → Int) (w : World)
    (hA : IntsAt w a1 n1 w.heap.size f) (hB : IntsAt w a2 n2 w.heap.size g) :
    Calls Try.prog 29 #[.slice a1 n1 c1, .slice a2 n2 c2] w fun e w' => e = .returned (.int .i64 (dotN f g (min n1 n2))) ∧ Below w.heap.size w w' := by
  have HA : Hid (IntsAt w a1 n1 w.heap.size f) := hA
  have HB : Hid (IntsAt w a2 n2 w.heap.size g) := hB
  clear hA hB
  obtain ⟨n, hn⟩ : ∃ n, n = min n1 n2 := ⟨_, rfl⟩
  have hmin : min (n1 : Int) (n2 : Int) = (n : Int) := by omega
  have hn1 : n ≤ n1 := by omega
  have hn2 : n ≤ n2 := by omega
  rw [← hn]
  clear hn
  go_enter Try.func29, Try.ntmps29
  go_wp2
  go_loopw [5, 12] (fun x i wr => ∃ k : Nat, i = .int .i64 (k : Int) ∧ k ≤ n ∧ x = .int .i64 (dotN f g k) ∧ Hid (Below w.heap.size w wr)) (fun _ i _ => n - (intOf i).toNat)
  case atStart => exact ⟨0, rfl, Nat.zero_le _, rfl, Below.refl _ _⟩
  case round =>
    obtain ⟨k, rfl, hk, rfl, HW⟩ := hrel
    by_cases hlt : k < n
    · have hlt' : (k : Int) < (n : Int) := by omega
      have hl1 : (k : Int) < (n1 : Int) := by omega
      have hl2 : (k : Int) < (n2 : Int) := by omega
      have hk0 : (0 : Int) ≤ (k : Int) := by omega
      obtain ⟨b, off, rfl, hb, hz⟩ := (HA.out.on HW.out) k (by omega)
      obtain ⟨b', off', rfl, hb', hz'⟩ := (HB.out.on HW.out) k (by omega)
      have HC : Hid (∀ w, Calls Try.prog 30 #[.int .i64 (f k), .int .i64 (g k)] w fun e w' => e = .returned (.int .i64 (scMul (f k) (g k))) ∧ w' = w) := fun w => (iScMul_any _ _ w).mono fun e w' h => ⟨h.1, h.2.symm⟩
      have HD : Hid (∀ w, Calls Try.prog 28 #[.int .i64 (dotN f g k), .int .i64 (scMul (f k) (g k))] w fun e w' => e = .returned (.int .i64 (dotN f g (k + 1))) ∧ w' = w) := fun w => (iScAdd_any _ _ w).mono fun e w' h => ⟨h.1, h.2.symm⟩
      generalize dotN f g k = d at HD
      generalize scMul (f k) (g k) = p at HC HD
      generalize f k = x at HC hz
      generalize g k = y at HC hz'
      clear hb hb' HA HB
      go_wp2
      refine wp_region_still_tail 11 mixesSc (by kernel_rfl) ?_
      simp only [List.take_succ_cons, List.take_zero, List.drop_succ_cons, List.drop_zero]
      repeat still_step
      still_call (HC.out _)
      repeat still_step
      still_call (HD.out _)
      repeat still_step
      refine wpStill_nil ?_
      go_wp2
      go_roundw
      case rel => exact ⟨k + 1, by go_num, hlt, rfl, HW.out.drew⟩
      case measure => simp [intOf]; omega
    · have hlt' : ¬ (k : Int) < (n : Int) := by omega
      have HK : Hid (k = n) := (show k = n by omega)
      go_wp2
      go_ret
      exact ⟨by rw [← HK.out]; rfl, HW.out⟩

set_option maxHeartbeats 800000 in
set_option maxRecDepth 100000 in
theorem sDot_any (a1 a2 : Option Addr) (n1 c1 n2 c2 : Nat) (hm1 : n1 ≤ 9223372036854775807) (f g : Nat → Int) (w : World)
    (hA : IntsAt w a1 n1 w.heap.size f) (hB : IntsAt w a2 n2 w.heap.size g) :
    Calls Try.prog 51 #[.slice a1 n1 c1, .slice a2 n2 c2] w fun e w' => e = .returned (.int .i64 (dotN f g (min n1 n2))) ∧ Below w.heap.size w w' := by
  have HA : Hid (IntsAt w a1 n1 w.heap.size f) := hA
  have HB : Hid (IntsAt w a2 n2 w.heap.size g) := hB
  clear hA hB
  obtain ⟨n, hn⟩ : ∃ n, n = min n1 n2 := ⟨_, rfl⟩
  have hn1 : n ≤ n1 := by omega
  have hn2 : n ≤ n2 := by omega
  have HN : Hid (n = min n1 n2) := hn
  rw [← hn]
  clear hn
  go_enter Try.func51, Try.ntmps51
  go_wp2
  go_loopw [5, 6] (fun x i wr => ∃ k : Nat, i = .int .i64 (k : Int) ∧ k ≤ n ∧ x = .int .i64 (dotN f g k) ∧ Hid (Below w.heap.size w wr)) (fun _ i _ => n - (intOf i).toNat)
  case atStart => exact ⟨0, rfl, Nat.zero_le _, rfl, Below.refl _ _⟩
  case round =>
    obtain ⟨k, rfl, hk, rfl, HW⟩ := hrel
    by_cases hlt : k < n
    · have hl1 : (k : Int) < (n1 : Int) := by omega
      have hl2 : (k : Int) < (n2 : Int) := by omega
      have hk0 : (0 : Int) ≤ (k : Int) := by omega
      obtain ⟨b, off, rfl, hb, hz⟩ := (HA.out.on HW.out) k (by omega)
      obtain ⟨b', off', rfl, hb', hz'⟩ := (HB.out.on HW.out) k (by omega)
      have HC : Hid (∀ w, Calls Try.prog 50 #[.int .i64 (f k), .int .i64 (g k)] w fun e w' => e = .returned (.int .i64 (scMul (f k) (g k))) ∧ w' = w) := fun w => (sScMul_any _ _ w).mono fun e w' h => ⟨h.1, h.2.symm⟩
      have HD : Hid (∀ w, Calls Try.prog 74 #[.int .i64 (dotN f g k), .int .i64 (scMul (f k) (g k))] w fun e w' => e = .returned (.int .i64 (dotN f g (k + 1))) ∧ w' = w) := fun w => (sScAdd_any _ _ w).mono fun e w' h => ⟨h.1, h.2.symm⟩
      generalize dotN f g k = d at HD
      generalize scMul (f k) (g k) = p at HC HD
      generalize f k = x at HC hz
      generalize g k = y at HC hz'
      clear hb hb' HA HB
      go_wp2
      refine wp_region_still_tail 11 mixesSc (by kernel_rfl) ?_
      simp only [List.take_succ_cons, List.take_zero, List.drop_succ_cons, List.drop_zero]
      repeat still_step
      still_call (HC.out _)
      repeat still_step
      still_call (HD.out _)
      repeat still_step
      refine wpStill_nil ?_
      go_wp2
      go_roundw
      case rel => exact ⟨k + 1, by go_num, hlt, rfl, HW.out.drew⟩
      case measure => simp [intOf]; omega
    · have HK : Hid (k = n) := (show k = n by omega)
      by_cases h1 : k < n1
      · have h1' : (k : Int) < (n1 : Int) := by omega
        have h2' : ¬ (k : Int) < (n2 : Int) := by have := HN.out; omega
        go_wp2
        go_ret
        exact ⟨by rw [← HK.out]; rfl, HW.out⟩
      · have h1' : ¬ (k : Int) < (n1 : Int) := by omega
        go_wp2
        go_ret
        exact ⟨by rw [← HK.out]; rfl, HW.out⟩

end Go.Proofs.Ytbkfdafdchjakaa

/-
  The walk of the specification's question whether a number lies between two.
  (-DROP-: what the seat lacks is left out.)
-/
namespace Go.Proofs.Ytbkfdafdchjakaa
open Go.RowKit

set_option maxHeartbeats 400000 in
set_option maxRecDepth 100000 in
theorem sBetween_any (x a b : Int) (w : World) :
    Calls Try.prog 67 #[.int .i64 x, .int .i64 a, .int .i64 b] w fun e w' => e = .returned (.bool (decide (a ≤ x ∧ x ≤ b))) ∧ w = w' := by
  by_cases h0 : a ≤ x
  · by_cases h1 : x ≤ b
    · rw [decide_eq_true ⟨h0, h1⟩]
      go_enter Try.func67, Try.ntmps67
      go_wp2
      go_ret
      exact ⟨rfl, rfl⟩
    · rw [decide_eq_false (by omega)]
      go_enter Try.func67, Try.ntmps67
      go_wp2
      go_ret
      exact ⟨rfl, rfl⟩
  · rw [decide_eq_false (by omega)]
    go_enter Try.func67, Try.ntmps67
    go_wp2
    go_ret
    exact ⟨rfl, rfl⟩

end Go.Proofs.Ytbkfdafdchjakaa

/-
  Bits as the document tells of them: no program in here.
-/
namespace Go.Proofs.Ytbkfdafdchjakaa

/-- Whether a bit is set. -/
def bitB (b : Int) (i : Nat) : Bool := decide (b / 2 ^ i % 2 = 1)
/-- How many bits are set, of so many. -/
def bitsN (b : Int) : Nat → Int
  | 0 => 0
  | n + 1 => bitsN b n + b / 2 ^ n % 2
def bitsB (b : Int) : Int := if 0 ≤ b ∧ b ≤ 255 then bitsN b 8 else 0
theorem bitsN_in (b : Int) : ∀ n : Nat, 0 ≤ bitsN b n ∧ bitsN b n ≤ n
  | 0 => ⟨Int.le_refl _, Int.le_refl _⟩
  | n + 1 => by
    obtain ⟨h1, h2⟩ := bitsN_in b n
    show 0 ≤ bitsN b n + b / 2 ^ n % 2 ∧ bitsN b n + b / 2 ^ n % 2 ≤ ((n + 1 : Nat) : Int)
    omega

end Go.Proofs.Ytbkfdafdchjakaa

/-
  Systems of products as the document tells of them: no program in here.
-/
namespace Go.Proofs.Ytbkfdafdchjakaa

/-- What is told of bits. -/
def pubOf (b : Int) : List Int := [b, bitsB b]
/-- The bits at so many places. -/
def bitL (b : Int) (k : Nat) : List Int := (List.range k).map fun j => b / 2 ^ j % 2
theorem bitL_next (b : Int) (k : Nat) : bitL b (k + 1) = bitL b k ++ [b / 2 ^ k % 2] := by
  unfold bitL
  rw [List.range_succ, List.map_append]
  rfl
theorem bitL_length (b : Int) (k : Nat) : (bitL b k).length = k := by simp [bitL]
/-- The witness of bits. -/
def witOf (b : Int) : List Int := if 0 ≤ b ∧ b ≤ 255 then [1, b, bitsB b] ++ bitL b 8 else []
theorem witOf_length (b : Int) : (witOf b).length ≤ 11 := by
  unfold witOf
  by_cases h : 0 ≤ b ∧ b ≤ 255
  · rw [if_pos h]; simp [bitL_length]
  · rw [if_neg h]; simp

/-- So many numbers, all of them scalars. -/
def wide (l : List Int) (n : Int) : Bool := decide ((l.length : Int) = n) && l.all fun x => decide (0 ≤ x ∧ x ≤ 1008)

end Go.Proofs.Ytbkfdafdchjakaa
