/-
  Texts of one's own, joined.
-/
import Derived.Test.YthnahalboomkoaaGreatProg
import Derived.WalkKit
import Derived.Test.YthnahalboomkoaaGreatJoined6
import Derived.StillTail
import Derived.StillTailTactics

/-
  Rows of bytes.
  (-DROP-: what the seat lacks is left out.)
-/
namespace Go.Proofs.YthnahalboomkoaaGreat
open Go.RowKit

theorem row_form {w : World} {B e sz n : Nat} {v : Value} {xs : List Value} (h : w.ownsRow B e sz v n xs) : ∃ a cap, v = .slice a n cap := by
  rcases h.2 with ⟨rfl, h0⟩ | ⟨g, cap, cur, rfl, _⟩
  · subst h0; exact ⟨_, _, rfl⟩
  · exact ⟨_, _, rfl⟩

theorem one_cell (k : IntKind) (z : Int) : ∀ u ∈ [Value.int k z], u.oneCell' = true := by
  intro u hu; simp at hu; subst hu; rfl

theorem room_for {B : Nat} {w : World} (h : B ≤ w.heap.size) (o : Obj) : B ≤ (w.alloc o).heap.size := by simp; omega

end Go.Proofs.YthnahalboomkoaaGreat

/-
  Worlds that differ in some blocks alone.
-/
namespace Go.Proofs.YthnahalboomkoaaGreat
open Go.RowKit

/-- All blocks but these are as they were; the streams are as they were. -/
structure Kps (S : Nat → Prop) (w w' : World) : Prop where
  os : w'.os = w.os
  tape : w'.tape = w.tape
  output : w'.output = w.output
  size : w.heap.size ≤ w'.heap.size
  block : ∀ k, k < w.heap.size → ¬ S k → w'.heap[k]? = w.heap[k]?

theorem Kps.refl (S : Nat → Prop) (w : World) : Kps S w w := ⟨rfl, rfl, rfl, Nat.le_refl _, fun _ _ _ => rfl⟩
theorem Kps.trans {S : Nat → Prop} {a b c : World} (h : Kps S a b) (k : Kps S b c) : Kps S a c :=
  ⟨k.os.trans h.os, k.tape.trans h.tape, k.output.trans h.output, Nat.le_trans h.size k.size, fun i hi hs => (k.block i (Nat.lt_of_lt_of_le hi h.size) hs).trans (h.block i hi hs)⟩
theorem Kps.more {S T : Nat → Prop} {a b : World} (h : Kps S a b) (hT : ∀ k, S k → T k) : Kps T a b :=
  ⟨h.os, h.tape, h.output, h.size, fun i hi ht => h.block i hi fun s => ht (hT i s)⟩
theorem Kps.of_below {S : Nat → Prop} {a b : World} (h : Below a.heap.size a b) : Kps S a b := ⟨h.os, h.tape, h.output, h.size, fun i hi _ => h.block i hi⟩
theorem Kps.drew {S : Nat → Prop} {a b : World} (h : Kps S a b) : Kps S a b.drew := ⟨h.os, h.tape, h.output, h.size, h.block⟩
theorem Kps.setCell {S : Nat → Prop} {a b : World} (h : Kps S a b) {p : Addr} (hp : S p.block) (u : Value) : Kps S a (b.setCell p u) :=
  h.trans ⟨rfl, rfl, rfl, by simp [World.setCell], fun k _ hs => Below.heap_setCell _ _ _ _ fun e => hs (e ▸ hp)⟩
theorem Kps.bel {S : Nat → Prop} {B : Nat} {w0 w w' : World} (h : Kps S w w') (hb : Below B w0 w) (hB : B ≤ w.heap.size) (hS : ∀ k, S k → B ≤ k) : Below B w0 w' :=
  ⟨h.os.trans hb.os, h.tape.trans hb.tape, h.output.trans hb.output, Nat.le_trans hb.size h.size, fun k hk => (h.block k (by omega) fun s => by have := hS k s; omega).trans (hb.block k hk)⟩
theorem Kps.blk {S : Nat → Prop} {w w' : World} (h : Kps S w w') {g : Nat} {t : TypeId} {cs : Array Value} (hb : Blk w g t cs) (hg : ¬ S g) : Blk w' g t cs := (h.block g hb.lt hg).trans hb
theorem Kps.row {S : Nat → Prop} {w w' : World} (h : Kps S w w') {B e sz n : Nat} {v : Value} {xs : List Value} (hr : w.ownsRow B e sz v n xs) (hv : ∀ k, v.ownBlock = some k → ¬ S k) : w'.ownsRow B e sz v n xs := by
  refine ⟨hr.1, ?_⟩
  rcases hr.2 with h0 | ⟨g, cap, cur, hve, hB, hg, rest⟩
  · exact .inl h0
  · exact .inr ⟨g, cap, cur, hve, hB, (h.block g (Array.getElem?_eq_some_iff.1 hg).1 (hv g (by rw [hve]; rfl))).trans hg, rest⟩

end Go.Proofs.YthnahalboomkoaaGreat

/-
  The walks of the helpers of the exact laws on lists of numbers: marks, and whether they are held.
  (-DROP-: what the seat lacks is left out.)
-/
namespace Go.Proofs.YthnahalboomkoaaGreat
open Go.RowKit

/-- So many marks. -/
def mkz (k n : Nat) : List Int := zls (fun j => ((k + j : Nat) : Int)) n
theorem mkz_length (k n : Nat) : (mkz k n).length = n := zls_length _ _
theorem mkz_at (k : Nat) {n j : Nat} (h : j < n) : (mkz k n)[j]? = some ((k + j : Nat) : Int) := by simp [mkz, zls, h]
theorem mkz_step {l : List Int} {k j : Nat} (h : j < l.length) : (mkz k j ++ l.drop j).set j ((k + j : Nat) : Int) = mkz k (j + 1) ++ l.drop (j + 1) := by
  have hl := mkz_length k j
  rw [List.drop_eq_getElem_cons h, show mkz k (j + 1) = mkz k j ++ [((k + j : Nat) : Int)] from zls_next _ _, List.append_assoc]
  rw [List.set_append_right _ _ (by omega)]
  have : j - (mkz k j).length = 0 := by omega
  rw [this]
  rfl

set_option maxHeartbeats 800000 in
set_option maxRecDepth 100000 in
theorem markZ_any (v : Value) (l : List Int) (k B : Nat) (hkb : k ≤ 1099511627776) (hl : l.length ≤ 1048576) (w : World) (h : RowZs B w v l) :
    Calls Tryz.prog 176 #[v, .int .i64 (k : Int)] w fun e w' => e = .returned (.int .i64 ((k + l.length : Nat) : Int)) ∧ RowZs B w' v (mkz k l.length) ∧ Kps (fun b => v.ownBlock = some b) w w' := by
  obtain ⟨ra, rc, hv⟩ := row_form h
  subst hv
  have h' : Hid (RowZs B w (.slice ra l.length rc) (mkz k 0 ++ l.drop 0)) := h
  clear h
  go_enter Tryz.func176, Tryz.ntmps176
  go_wp2
  go_loopw [1, 5] (fun x i wr => ∃ (m j : Nat), x = .int .i64 (m : Int) ∧ i = .int .i64 (j : Int) ∧ Hid (m = k + j) ∧ j ≤ l.length ∧ Hid (RowZs B wr (.slice ra l.length rc) (mkz k j ++ l.drop j)) ∧ Hid (Kps (fun b => (Value.slice ra l.length rc).ownBlock = some b) w wr)) (fun _ i _ => l.length - (RowKit.intOf i).toNat)
  case atStart => exact ⟨k, 0, rfl, rfl, (show k = k + 0 from rfl), Nat.zero_le _, h', Kps.refl _ _⟩
  case round =>
    obtain ⟨m, j, rfl, rfl, hm, hj, HO, HK⟩ := hrel
    clear h'
    have hmb : m ≤ 1099512676352 := by have := hm.out; omega
    by_cases hlt : j < l.length
    · have hll : (mkz k j ++ l.drop j).length = l.length := by rw [List.length_append, mkz_length, List.length_drop]; omega
      rcases HO.out.2 with ⟨_, hz0⟩ | ⟨g, cap, cur, hveq, hg, _⟩
      · rw [hll] at hz0; omega
      · have hra : ra = some ⟨g, 0, none⟩ := by injection hveq
        subst hra
        have hk0 : (0 : Int) ≤ (j : Int) := by omega
        have hk1 : (j : Int) < (l.length : Int) := by omega
        clear hveq
        have hown1 : wr.ownsRow B 3 1 (.slice (some ⟨g, 0, none⟩) l.length rc) l.length (zsV (mkz k j ++ l.drop j)) := by
          have h1 : wr.ownsRow B 3 1 (.slice (some ⟨g, 0, none⟩) l.length rc) (mkz k j ++ l.drop j).length (zsV (mkz k j ++ l.drop j)) := HO.out
          rw [hll] at h1
          exact h1
        obtain ⟨old, hc⟩ : ∃ old, wr.cell? ⟨g, j, none⟩ = some (.int .i64 old) := by
          have h1 := hown1.cellAt j (by omega)
          have hj2 : j < (mkz k j ++ l.drop j).length := by omega
          exact ⟨(mkz k j ++ l.drop j)[j], by rw [h1, zsV, List.getElem?_map, List.getElem?_eq_getElem hj2]; rfl⟩
        have hf := hown1.frozenAt j
        have hst := (hown1.stored j (.int .i64 (m : Int))).1
        have hms : (zsV (mkz k j ++ l.drop j)).set j (.int .i64 (m : Int)) = zsV (mkz k (j + 1) ++ l.drop (j + 1)) := by
          unfold zsV
          rw [← mkz_step hlt, List.map_set, hm.out]
        rw [hms] at hst
        have HST : Hid (RowZs B (wr.setCell ⟨g, j, none⟩ (.int .i64 (m : Int))) (.slice (some ⟨g, 0, none⟩) l.length rc) (mkz k (j + 1) ++ l.drop (j + 1))) := by
          have hll2 : (mkz k (j + 1) ++ l.drop (j + 1)).length = l.length := by rw [List.length_append, mkz_length, List.length_drop]; omega
          show World.ownsRow _ _ _ _ _ _ _
          rw [hll2]
          exact hst
        have HBS : Hid (Kps (fun b => (Value.slice (some ⟨g, 0, none⟩) l.length rc).ownBlock = some b) w (wr.setCell ⟨g, j, none⟩ (.int .i64 (m : Int)))) := HK.out.setCell (p := ⟨g, j, none⟩) rfl _
        clear hown1 hst hms hll HO HK
        go_wp2
        go_roundw
        case rel => exact ⟨m + 1, j + 1, by go_num, by go_num, (show m + 1 = k + (j + 1) by have := hm.out; omega), hlt, HST, HBS⟩
        case measure => simp [RowKit.intOf]; omega
    · have hje : j = l.length := by omega
      subst hje
      have HO2 : Hid (RowZs B wr (.slice ra l.length rc) (mkz k l.length)) := by
        have h1 := HO.out
        rw [List.drop_length, List.append_nil] at h1
        exact h1
      clear HO
      go_wp2
      go_ret
      exact ⟨by rw [← hm.out]; rfl, HO2.out, HK.out⟩

end Go.Proofs.YthnahalboomkoaaGreat

/-
  Lists of lists of numbers: what is read, what is owned.
-/
namespace Go.Proofs.YthnahalboomkoaaGreat
open Go.RowKit

/-- These blocks are as they were. -/
def Same (lo hi : Nat) (w w' : World) : Prop := ∀ k, lo ≤ k → k < hi → w'.heap[k]? = w.heap[k]?
theorem Same.of_below {lo hi c : Nat} {w w' : World} (h : Below c w w') (hc : hi ≤ c) : Same lo hi w w' := fun k _ h2 => h.block k (by omega)
theorem Same.of_kps {S : Nat → Prop} {lo hi : Nat} {w w' : World} (h : Kps S w w') (hc : hi ≤ w.heap.size) (hS : ∀ k, lo ≤ k → k < hi → ¬ S k) : Same lo hi w w' := fun k h1 h2 => h.block k (by omega) (hS k h1 h2)
theorem Same.of_grown {r : Option Nat} {lo hi : Nat} {w w' : World} (h : w.grownBy w' r) (hc : hi ≤ w.heap.size) (hS : ∀ k, lo ≤ k → k < hi → r ≠ some k) : Same lo hi w w' := fun k h1 h2 => h.block k (by omega) fun e => hS k h1 h2 e.symm
theorem Same.set {lo hi : Nat} (w : World) (p : Addr) (u : Value) (h : p.block < lo ∨ hi ≤ p.block) : Same lo hi w (w.setCell p u) := fun k h1 h2 => Below.heap_setCell _ _ _ _ (by omega)
theorem owns_same {w w' : World} {B e sz n lo hi : Nat} {v : Value} {xs : List Value} (h : w.ownsRow B e sz v n xs) (hs : Same lo hi w w') (hv : ∀ k, v.ownBlock = some k → lo ≤ k ∧ k < hi) : w'.ownsRow B e sz v n xs := by
  refine ⟨h.1, ?_⟩
  rcases h.2 with h0 | ⟨g, cap, cur, hve, hB, hg, rest⟩
  · exact .inl h0
  · have := hv g (by rw [hve]; rfl)
    exact .inr ⟨g, cap, cur, hve, hB, (hs g this.1 this.2).trans hg, rest⟩

/-- A list of numbers that is read; it lies below c. -/
def ZAt (w : World) (c : Nat) (v : Value) (l : List Int) : Prop := ∃ a cp, v = .slice a l.length cp ∧ IntsAt w a l.length c (fun j => l.getD j 0)
theorem ZAt.on {w w1 : World} {c : Nat} {v : Value} {l : List Int} (h : ZAt w c v l) (hb : Below c w w1) : ZAt w1 c v l := by
  obtain ⟨a, cp, h1, h2⟩ := h
  exact ⟨a, cp, h1, h2.on hb⟩
theorem ZAt.wide {w : World} {c d : Nat} {v : Value} {l : List Int} (h : ZAt w c v l) (hd : c ≤ d) : ZAt w d v l := by
  obtain ⟨a, cp, h1, h2⟩ := h
  exact ⟨a, cp, h1, h2.wide hd⟩
theorem ZAt.of {w : World} {c n cp : Nat} {a : Option Addr} {f : Nat → Int} (h : IntsAt w a n c f) : ZAt w c (.slice a n cp) (zls f n) := by
  refine ⟨a, cp, by rw [zls_length], ?_⟩
  rw [zls_length]
  intro j hj
  obtain ⟨b, off, h1, h2, h3⟩ := h j hj
  exact ⟨b, off, h1, h2, by rw [h3]; show _ = some (Value.int .i64 ((zls f n).getD j 0)); rw [zls_at f hj]⟩

/-- A list of numbers that is owned: its block is one of these. -/
def ZOwn (lo hi : Nat) (w : World) (v : Value) (l : List Int) : Prop := RowZs lo w v l ∧ ∀ k, v.ownBlock = some k → k < hi
theorem ZOwn.in {lo hi : Nat} {w : World} {v : Value} {l : List Int} (h : ZOwn lo hi w v l) : ∀ k, v.ownBlock = some k → lo ≤ k ∧ k < hi := fun k hk => ⟨(h.1.lt k hk).1, h.2 k hk⟩
theorem ZOwn.same {lo hi : Nat} {w w' : World} {v : Value} {l : List Int} (h : ZOwn lo hi w v l) (hs : Same lo hi w w') : ZOwn lo hi w' v l := ⟨owns_same h.1 hs h.in, h.2⟩
theorem owns_low {w : World} {B B' e sz n : Nat} {v : Value} {xs : List Value} (h : w.ownsRow B e sz v n xs) (hB : B' ≤ B) : w.ownsRow B' e sz v n xs := by
  refine ⟨h.1, ?_⟩
  rcases h.2 with h0 | ⟨g, cap, cur, hve, hg, rest⟩
  · exact .inl h0
  · exact .inr ⟨g, cap, cur, hve, by omega, rest⟩
theorem ZOwn.wide {lo hi lo' hi' : Nat} {w : World} {v : Value} {l : List Int} (h : ZOwn lo hi w v l) (h1 : lo' ≤ lo) (h2 : hi ≤ hi') : ZOwn lo' hi' w v l := ⟨owns_low h.1 h1, fun k hk => by have := h.2 k hk; omega⟩
theorem ZOwn.of {lo : Nat} {w : World} {v : Value} {l : List Int} (h : RowZs lo w v l) : ZOwn lo w.heap.size w v l := ⟨h, fun k hk => (h.lt k hk).2⟩
theorem ZOwn.at {lo hi : Nat} {w : World} {v : Value} {l : List Int} (h : ZOwn lo hi w v l) : ZAt w hi v l := by
  rcases h.1.2 with ⟨rfl, h0⟩ | ⟨g, cp, cur, rfl, hg, hh, hrest⟩
  · exact ⟨none, 0, by rw [h0], fun j hj => by omega⟩
  · refine ⟨_, cp, rfl, fun j hj => ⟨g, 0, rfl, h.2 g rfl, ?_⟩⟩
    have hc := World.ownsRow.cellAt h.1 j (by omega)
    rw [Nat.zero_add, hc]
    simp [zsV, hj]
theorem ZOwn.on {lo hi c : Nat} {w w' : World} {v : Value} {l : List Int} (h : ZOwn lo hi w v l) (hb : Below c w w') (hc : hi ≤ c) : ZOwn lo hi w' v l := h.same (Same.of_below hb hc)

/-- A list of structs that hold lists of numbers, sz each; it lies below c. -/
def NAt (sz : Nat) (w : World) (c : Nat) (v : Value) (n : Nat) (ls : List (List Int)) : Prop :=
  ls.length = n * sz ∧ ∃ a cp, v = .slice a n cp ∧ ∀ j, j < n * sz → ∃ b off u, a = some ⟨b, off, none⟩ ∧ b < c ∧ w.cell? ⟨b, off + j, none⟩ = some u ∧ ZAt w c u (ls.getD j [])
theorem NAt.on {sz : Nat} {w w1 : World} {c n : Nat} {v : Value} {ls : List (List Int)} (h : NAt sz w c v n ls) (hb : Below c w w1) : NAt sz w1 c v n ls := by
  obtain ⟨h0, a, cp, h1, h2⟩ := h
  refine ⟨h0, a, cp, h1, fun j hj => ?_⟩
  obtain ⟨b, off, u, h3, h4, h5, h6⟩ := h2 j hj
  exact ⟨b, off, u, h3, h4, (hb.cell (p := ⟨b, off + j, none⟩) h4).trans h5, h6.on hb⟩
theorem NAt.wide {sz : Nat} {w : World} {c d n : Nat} {v : Value} {ls : List (List Int)} (h : NAt sz w c v n ls) (hd : c ≤ d) : NAt sz w d v n ls := by
  obtain ⟨h0, a, cp, h1, h2⟩ := h
  refine ⟨h0, a, cp, h1, fun j hj => ?_⟩
  obtain ⟨b, off, u, h3, h4, h5, h6⟩ := h2 j hj
  exact ⟨b, off, u, h3, by omega, h5, h6.wide hd⟩

/-- A list of structs that hold lists of numbers, sz each, owned, with the cells named: no two lie in one block. -/
structure NOwnV (sz e lo hi : Nat) (w : World) (v : Value) (n : Nat) (vs : List Value) (ls : List (List Int)) : Prop where
  row : w.ownsRow lo e sz v n vs
  len : ls.length = n * sz
  top : ∀ k, v.ownBlock = some k → k < hi
  each : ∀ j, j < n * sz → ZOwn lo hi w (vs.getD j undef) (ls.getD j [])
  apart : ∀ i j k, i < n * sz → j < n * sz → i ≠ j → (vs.getD i undef).ownBlock = some k → (vs.getD j undef).ownBlock ≠ some k
  off : ∀ j k, j < n * sz → (vs.getD j undef).ownBlock = some k → v.ownBlock ≠ some k
theorem NOwnV.vlen {sz e lo hi n : Nat} {w : World} {v : Value} {vs : List Value} {ls : List (List Int)} (h : NOwnV sz e lo hi w v n vs ls) : vs.length = n * sz := h.row.1
theorem NOwnV.same {sz e lo hi n : Nat} {w w' : World} {v : Value} {vs : List Value} {ls : List (List Int)} (h : NOwnV sz e lo hi w v n vs ls) (hs : Same lo hi w w') : NOwnV sz e lo hi w' v n vs ls :=
  ⟨owns_same h.row hs (fun k hk => ⟨(h.row.lt k hk).1, h.top k hk⟩), h.len, h.top, fun j hj => (h.each j hj).same hs, h.apart, h.off⟩
theorem NOwnV.wide {sz e lo hi hi' n : Nat} {w : World} {v : Value} {vs : List Value} {ls : List (List Int)} (h : NOwnV sz e lo hi w v n vs ls) (h2 : hi ≤ hi') : NOwnV sz e lo hi' w v n vs ls :=
  ⟨h.row, h.len, fun k hk => by have := h.top k hk; omega, fun j hj => (h.each j hj).wide (Nat.le_refl _) h2, h.apart, h.off⟩
theorem NOwnV.at {sz e lo hi n : Nat} {w : World} {v : Value} {vs : List Value} {ls : List (List Int)} (h : NOwnV sz e lo hi w v n vs ls) : NAt sz w hi v n ls := by
  refine ⟨h.len, ?_⟩
  rcases h.row.2 with ⟨rfl, h0⟩ | ⟨g, cp, cur, rfl, hg, hh, hrest⟩
  · exact ⟨none, 0, by rw [h0], fun j hj => by rw [h0] at hj; omega⟩
  · refine ⟨_, cp, rfl, fun j hj => ⟨g, 0, vs.getD j undef, rfl, h.top g rfl, ?_, (h.each j hj).at⟩⟩
    have hl := h.vlen
    rw [Nat.zero_add, World.ownsRow.cellAt h.row j hj, List.getElem?_eq_getElem (by omega)]
    simp [show j < vs.length by omega]
theorem NOwnV.cell {sz e lo hi n g cp : Nat} {w : World} {vs : List Value} {ls : List (List Int)} (h : NOwnV sz e lo hi w (.slice (some ⟨g, 0, none⟩) n cp) n vs ls) {j : Nat} (hj : j < n * sz) : w.cell? ⟨g, j, none⟩ = some (vs.getD j undef) := by
  have hl := h.vlen
  rw [World.ownsRow.cellAt h.row j hj, List.getElem?_eq_getElem (by omega)]
  simp [show j < vs.length by omega]

theorem getD_set_same {α : Type} (l : List α) (j : Nat) (x d : α) (h : j < l.length) : (l.set j x).getD j d = x := by simp [h]
theorem getD_set_other {α : Type} (l : List α) (i j : Nat) (x d : α) (h : i ≠ j) : (l.set i x).getD j d = l.getD j d := by simp [h]

/-- One of the lists is another one, in its own block. -/
theorem NOwnV.turn {sz e lo hi n : Nat} {w w' : World} {v : Value} {vs : List Value} {ls : List (List Int)} {j : Nat} {l : List Int} (h : NOwnV sz e lo hi w v n vs ls) (hj : j < n * sz) (hr : RowZs lo w' (vs.getD j undef) l) (hk : Kps (fun b => (vs.getD j undef).ownBlock = some b) w w') : NOwnV sz e lo hi w' v n vs (ls.set j l) := by
  have hl := h.len
  refine ⟨hk.row h.row (fun k hk q => h.off j k hj q hk), by simpa using hl, h.top, fun i hi => ?_, h.apart, h.off⟩
  by_cases hij : j = i
  · subst hij
    rw [getD_set_same _ _ _ _ (by omega)]
    exact ⟨hr, (h.each j hj).2⟩
  · rw [getD_set_other _ _ _ _ _ hij]
    exact ⟨hk.row (h.each i hi).1 (fun k hk q => h.apart j i k hj hi hij q hk), (h.each i hi).2⟩

/-- A list that lies behind all of it is put into a cell. -/
theorem NOwnV.put {sz e lo hi hi' n g cp : Nat} {w : World} {vs : List Value} {ls : List (List Int)} {j : Nat} {l : List Int} {u : Value} (h : NOwnV sz e lo hi w (.slice (some ⟨g, 0, none⟩) n cp) n vs ls) (hj : j < n * sz) (hu : ZOwn hi hi' w u l) (hh : hi ≤ hi') (hlo : lo ≤ hi) : NOwnV sz e lo hi' (w.setCell ⟨g, j, none⟩ u) (.slice (some ⟨g, 0, none⟩) n cp) n (vs.set j u) (ls.set j l) := by
  have hl := h.len
  have hv := h.vlen
  have hg : g < hi := h.top g rfl
  refine ⟨(World.ownsRow.stored h.row j u).1, by simpa using hl, fun k hk => by have := h.top k hk; omega, fun i hi' => ?_, fun i i2 k h1 h2 h3 h4 => ?_, fun i k h1 h2 => ?_⟩
  · by_cases hij : j = i
    · subst hij
      rw [getD_set_same _ _ _ _ (by omega), getD_set_same _ _ _ _ (by omega)]
      exact (hu.same (Same.set w ⟨g, j, none⟩ u (.inl hg))).wide hlo (Nat.le_refl _)
    · rw [getD_set_other _ _ _ _ _ hij, getD_set_other _ _ _ _ _ hij]
      have h0 := h.each i hi'
      refine ⟨World.ownsRow.kept h0.1 (World.ownsRow.stored h.row j u).2 ?_, fun k hk => by have := h0.2 k hk; omega⟩
      by_cases hn : (vs.getD i undef).ownBlock = some g
      · exact absurd rfl (h.off i g hi' hn)
      · exact .inr hn
  · by_cases hi1 : j = i
    · subst hi1
      rw [getD_set_same _ _ _ _ (by omega)] at h4
      rw [getD_set_other _ _ _ _ _ h3]
      intro h5
      have h6 := hu.in k h4
      have h7 := (h.each i2 h2).in k h5
      omega
    · rw [getD_set_other _ _ _ _ _ hi1] at h4
      by_cases hi2 : j = i2
      · subst hi2
        rw [getD_set_same _ _ _ _ (by omega)]
        intro h5
        have h6 := hu.in k h5
        have h7 := (h.each i h1).in k h4
        omega
      · rw [getD_set_other _ _ _ _ _ hi2]
        exact h.apart i i2 k h1 h2 h3 h4
  · by_cases hi1 : j = i
    · subst hi1
      rw [getD_set_same _ _ _ _ (by omega)] at h2
      intro h5
      have h6 := hu.in k h2
      have h7 := h.top k h5
      omega
    · rw [getD_set_other _ _ _ _ _ hi1] at h2
      exact h.off i k h1 h2

theorem getD_app_left {α : Type} (a b : List α) (j : Nat) (d : α) (h : j < a.length) : (a ++ b).getD j d = a.getD j d := by
  rw [List.getD_eq_getElem?_getD, List.getElem?_append_left h, List.getD_eq_getElem?_getD]
theorem getD_app_right {α : Type} (a b : List α) (j : Nat) (d : α) (h : a.length ≤ j) : (a ++ b).getD j d = b.getD (j - a.length) d := by
  rw [List.getD_eq_getElem?_getD, List.getElem?_append_right h, List.getD_eq_getElem?_getD]

/-- So many more structs, of lists that lie behind all of it and below the new end, are put behind it. -/
theorem NOwnV.appM {sz e lo hi hi' n m : Nat} {w w' : World} {v v' : Value} {vs us : List Value} {ls ns : List (List Int)} (h : NOwnV sz e lo hi w v n vs ls) (hr : w'.ownsRow lo e sz v' (n + m) (vs ++ us)) (hg : w.grownBy w' v.ownBlock) (hv : v'.ownBlock = v.ownBlock ∨ v'.ownBlock = some w.heap.size) (hn : ns.length = m * sz)
    (he : ∀ j, j < m * sz → ZOwn hi w.heap.size w (us.getD j undef) (ns.getD j [])) (ha : ∀ i j k, i < m * sz → j < m * sz → i ≠ j → (us.getD i undef).ownBlock = some k → (us.getD j undef).ownBlock ≠ some k) (hw : hi ≤ w.heap.size) (hlo : lo ≤ hi) (hh : w.heap.size ≤ hi') (hb : ∀ k, v'.ownBlock = some k → k < hi') : NOwnV sz e lo hi' w' v' (n + m) (vs ++ us) (ls ++ ns) := by
  have hl := h.len
  have hvl := h.vlen
  have hm : (n + m) * sz = n * sz + m * sz := Nat.add_mul _ _ _
  have hold : ∀ j, j < n * sz → ∀ k, (vs.getD j undef).ownBlock = some k → v.ownBlock ≠ some k := fun j hj k hk => h.off j k hj hk
  have hnew : ∀ j, j < m * sz → ∀ k, (us.getD j undef).ownBlock = some k → hi ≤ k ∧ k < w.heap.size := fun j hj k hk => (he j hj).in k hk
  have hin : ∀ j, j < n * sz → ∀ k, (vs.getD j undef).ownBlock = some k → lo ≤ k ∧ k < hi := fun j hj k hk => (h.each j hj).in k hk
  refine ⟨hr, by rw [List.length_append]; omega, hb, fun j hj => ?_, fun i j k h1 h2 h3 h4 => ?_, fun j k h1 h2 => ?_⟩
  · by_cases hj1 : j < n * sz
    · rw [getD_app_left _ _ _ _ (by omega), getD_app_left _ _ _ _ (by omega)]
      have h0 := h.each j hj1
      refine ⟨World.ownsRow.kept h0.1 hg ?_, fun k hk => by have := h0.2 k hk; omega⟩
      cases ho : (vs.getD j undef).ownBlock with
      | none => exact .inl rfl
      | some k => exact .inr fun e => hold j hj1 k ho e.symm
    · rw [getD_app_right _ _ _ _ (by omega), getD_app_right _ _ _ _ (by omega), hvl, hl]
      have h0 := he (j - n * sz) (by omega)
      refine ⟨owns_low (World.ownsRow.kept h0.1 hg ?_) hlo, fun k hk => by have := h0.2 k hk; omega⟩
      cases ho : (us.getD (j - n * sz) undef).ownBlock with
      | none => exact .inl rfl
      | some k =>
        refine .inr fun e => ?_
        have h5 := hnew _ (by omega) k ho
        have h6 := h.top k e.symm
        omega
  · by_cases hi1 : i < n * sz
    · rw [getD_app_left _ _ _ _ (by omega)] at h4
      by_cases hj1 : j < n * sz
      · rw [getD_app_left _ _ _ _ (by omega)]
        exact h.apart i j k hi1 hj1 h3 h4
      · rw [getD_app_right _ _ _ _ (by omega), hvl]
        intro h5
        have h6 := hin i hi1 k h4
        have h7 := hnew _ (by omega) k h5
        omega
    · rw [getD_app_right _ _ _ _ (by omega), hvl] at h4
      by_cases hj1 : j < n * sz
      · rw [getD_app_left _ _ _ _ (by omega)]
        intro h5
        have h6 := hin j hj1 k h5
        have h7 := hnew _ (by omega) k h4
        omega
      · rw [getD_app_right _ _ _ _ (by omega), hvl]
        exact ha _ _ k (by omega) (by omega) (by omega) h4
  · have hlt : k < w.heap.size := by
      by_cases hj1 : j < n * sz
      · rw [getD_app_left _ _ _ _ (by omega)] at h2
        have := hin j hj1 k h2
        omega
      · rw [getD_app_right _ _ _ _ (by omega), hvl] at h2
        have := hnew _ (by omega) k h2
        omega
    rcases hv with e | e
    · rw [e]
      by_cases hj1 : j < n * sz
      · rw [getD_app_left _ _ _ _ (by omega)] at h2
        exact hold j hj1 k h2
      · rw [getD_app_right _ _ _ _ (by omega), hvl] at h2
        intro h5
        have h6 := hnew _ (by omega) k h2
        have h7 := h.top k h5
        omega
    · rw [e]
      intro h5
      injection h5 with h5
      omega

/-- One more struct, of lists that lie behind all of it and below the new end, is put behind it. -/
theorem NOwnV.app {sz e lo hi hi' n : Nat} {w w' : World} {v v' : Value} {vs us : List Value} {ls ns : List (List Int)} (h : NOwnV sz e lo hi w v n vs ls) (hr : w'.ownsRow lo e sz v' (n + 1) (vs ++ us)) (hg : w.grownBy w' v.ownBlock) (hv : v'.ownBlock = v.ownBlock ∨ v'.ownBlock = some w.heap.size) (hn : ns.length = sz)
    (he : ∀ j, j < sz → ZOwn hi w.heap.size w (us.getD j undef) (ns.getD j [])) (ha : ∀ i j k, i < sz → j < sz → i ≠ j → (us.getD i undef).ownBlock = some k → (us.getD j undef).ownBlock ≠ some k) (hw : hi ≤ w.heap.size) (hlo : lo ≤ hi) (hh : w.heap.size ≤ hi') (hb : ∀ k, v'.ownBlock = some k → k < hi') : NOwnV sz e lo hi' w' v' (n + 1) (vs ++ us) (ls ++ ns) :=
  h.appM hr hg hv (by rw [Nat.one_mul]; exact hn) (fun j hj => he j (by omega)) (fun i j k h1 h2 => ha i j k (by omega) (by omega)) hw hlo hh hb

/-- How long a list is. -/
def slLen : Value → Nat
  | .slice _ n _ => n
  | _ => 0

/-- The numbers of so many lists. -/
def tot : List (List Int) → Nat
  | [] => 0
  | l :: t => l.length + tot t
theorem tot_app : ∀ a b : List (List Int), tot (a ++ b) = tot a + tot b
  | [], b => by show tot b = 0 + tot b; omega
  | l :: t, b => by show l.length + tot (t ++ b) = l.length + tot t + tot b; rw [tot_app t b]; omega
theorem tot_take_next (ls : List (List Int)) {j : Nat} (h : j < ls.length) : tot (ls.take (j + 1)) = tot (ls.take j) + (ls.getD j []).length := by
  rw [List.take_succ_eq_append_getElem h, tot_app]
  have e : ls.getD j [] = ls[j] := by simp [h]
  rw [e]
  rfl
theorem tot_take_le (ls : List (List Int)) (j : Nat) : tot (ls.take j) ≤ tot ls := by
  have h := tot_app (ls.take j) (ls.drop j)
  rw [List.take_append_drop] at h
  omega
theorem tot_at_le (ls : List (List Int)) {j : Nat} (h : j < ls.length) : (ls.getD j []).length ≤ tot ls := by
  have h1 := tot_take_next ls h
  have h2 := tot_take_le ls (j + 1)
  omega

/-- So many marks in lists of these lengths. -/
def mkzz (k : Nat) : List (List Int) → List (List Int)
  | [] => []
  | l :: t => mkz k l.length :: mkzz (k + l.length) t
theorem mkzz_length : ∀ (ls : List (List Int)) (k : Nat), (mkzz k ls).length = ls.length
  | [], _ => rfl
  | l :: t, k => by show (mkzz (k + l.length) t).length + 1 = t.length + 1; rw [mkzz_length t]
theorem mkzz_app : ∀ (a b : List (List Int)) (k : Nat), mkzz k (a ++ b) = mkzz k a ++ mkzz (k + tot a) b
  | [], b, k => rfl
  | l :: t, b, k => by
    show mkz k l.length :: mkzz (k + l.length) (t ++ b) = mkz k l.length :: (mkzz (k + l.length) t ++ mkzz (k + (l.length + tot t)) b)
    rw [mkzz_app t b, Nat.add_assoc]
theorem mkzz_at (ls : List (List Int)) (k : Nat) {j : Nat} (h : j < ls.length) : (mkzz k ls).getD j [] = mkz (k + tot (ls.take j)) (ls.getD j []).length := by
  have e : ls = ls.take j ++ ls[j] :: ls.drop (j + 1) := by
    rw [← List.drop_eq_getElem_cons h, List.take_append_drop]
  have hl : (mkzz k (ls.take j)).length = j := by rw [mkzz_length, List.length_take]; omega
  have e2 : ls.getD j [] = ls[j] := by simp [h]
  rw [e2]
  conv => lhs; rw [e]
  rw [mkzz_app, getD_app_right _ _ _ _ (by omega), hl, Nat.sub_self]
  rfl
theorem mkzz_step (ls : List (List Int)) (k : Nat) {j : Nat} (h : j < ls.length) : (mkzz k (ls.take j) ++ ls.drop j).set j (mkz (k + tot (ls.take j)) (ls.getD j []).length) = mkzz k (ls.take (j + 1)) ++ ls.drop (j + 1) := by
  have hl : (mkzz k (ls.take j)).length = j := by rw [mkzz_length, List.length_take]; omega
  have e2 : ls.getD j [] = ls[j] := by simp [h]
  rw [List.take_succ_eq_append_getElem h, mkzz_app, List.append_assoc, List.drop_eq_getElem_cons h, List.set_append_right _ _ (by omega), hl, Nat.sub_self, e2]
  rfl

end Go.Proofs.YthnahalboomkoaaGreat

/-
  The steps of the law of a class where operations are guarded.
-/
namespace Go.Proofs.YthnahalboomkoaaGreat

section
variable {P : Program} {ops : Array Oper} {C : World → Prop}

theorem cls_stepG {R : Act → Prop} {a : Act} {o : Oper} {rest : List Oper} (hg : Region.wanted o (yielded ops a.tmps) = true)
    (h : ∀ K : Act → Prop, (∀ a, WQ P ops C R rest a → K a) → ∃ v, (∀ w, C w → (execOp a.eval o).run P w = .ok (.value v) w) ∧ K (a.put o.dst v)) : WQ P ops C R (o :: rest) a := by
  refine ⟨wpQuiet_step fun K hK => ?_⟩
  rw [if_pos hg]
  obtain ⟨v, h1, h2⟩ := h K fun a ha => hK a ha.out
  exact ⟨v, fun w hw => by unfold Oper.quietAt; rw [h1 w hw]; exact ⟨rfl, rfl⟩, h2⟩

theorem cls_callG {R : Act → Prop} {a : Act} {o : Oper} {rest : List Oper} (hg : Region.wanted o (yielded ops a.tmps) = true)
    (h : ∀ K : Act → Prop, (∀ a, WQ P ops C R rest a → K a) → ∃ f args v, (∀ w, (execOp a.eval o).run P w = .ok (.enter f args) w) ∧ (∀ w, C w → Calls P f args w fun e w' => e = .returned v ∧ C w') ∧ K (a.put o.dst v)) : WQ P ops C R (o :: rest) a := by
  refine ⟨wpQuiet_step fun K hK => ?_⟩
  rw [if_pos hg]
  obtain ⟨f, args, v, h1, h2, h3⟩ := h K fun a ha => hK a ha.out
  exact ⟨v, fun w hw => by unfold Oper.quietAt; rw [h1 w]; exact ⟨rfl, h2 w hw⟩, h3⟩

/-- One that is passed over. -/
theorem cls_skip {R : Act → Prop} {a : Act} {o : Oper} {rest : List Oper} (hg : Region.wanted o (yielded ops a.tmps) = false)
    (h : ∀ K : Act → Prop, (∀ a, WQ P ops C R rest a → K a) → K (a.put o.dst undef)) : WQ P ops C R (o :: rest) a := by
  refine ⟨wpQuiet_step fun K hK => ?_⟩
  rw [if_neg (by rw [hg]; exact Bool.false_ne_true)]
  exact h K fun a ha => hK a ha.out

end
end Go.Proofs.YthnahalboomkoaaGreat

/-
  The walks of the helpers of the exact laws on rows and systems: how long, copies, whether two are the same.
  (-DROP-: what the seat lacks is left out.)
-/
namespace Go.Proofs.YthnahalboomkoaaGreat
open Go.RowKit

/-- What is left of so many, behind n of them. -/
def szF (L n : Nat) : Int := if n ≤ L then (L : Int) - (n : Int) else -1

set_option maxHeartbeats 400000 in
set_option maxRecDepth 100000 in
theorem szIntS_any (a : Option Addr) (n cap L : Nat) (hn : n ≤ 9223372036854775807) (hL : L ≤ 1048576) (w : World) :
    Calls Tryz.prog 201 #[.slice a n cap, .int .i64 (L : Int)] w fun e w' => e = .returned (.int .i64 (szF L n)) ∧ w = w' := by
  unfold szF
  by_cases h : n ≤ L
  · rw [if_pos h]
    have h' : ¬ (L : Int) - (n : Int) < 0 := by omega
    go_enter Tryz.func201, Tryz.ntmps201
    go_wp2
    go_ret
    exact ⟨rfl, rfl⟩
  · rw [if_neg h]
    have h' : (L : Int) - (n : Int) < 0 := by omega
    go_enter Tryz.func201, Tryz.ntmps201
    go_wp2
    go_ret
    exact ⟨rfl, rfl⟩

set_option maxHeartbeats 800000 in
set_option maxRecDepth 100000 in
theorem szRow_any (a0 a1 a2 : Option Addr) (n0 n1 n2 c0 c1 c2 L : Nat) (h0 : n0 ≤ 9223372036854775807) (h1 : n1 ≤ 9223372036854775807) (h2 : n2 ≤ 9223372036854775807) (hL : L ≤ 1048576) (w : World) :
    Calls Tryz.prog 172 #[.agg #[.slice a0 n0 c0, .slice a1 n1 c1, .slice a2 n2 c2], .int .i64 (L : Int)] w fun e w' => e = .returned (.int .i64 (szF L (n0 + n1 + n2))) ∧ Below w.heap.size w w' := by
  obtain ⟨W, hW, hb, hx⟩ := box1 w 189 #[.slice a0 n0 c0, .slice a1 n1 c1, .slice a2 n2 c2]
  have q0 := hx.cell 0
  have q1 := hx.cell 1
  have q2 := hx.cell 2
  by_cases g0 : n0 ≤ L
  · have e0 : szF L n0 = ((L - n0 : Nat) : Int) := by unfold szF; rw [if_pos g0]; omega
    have p0 : ¬ ((L - n0 : Nat) : Int) < 0 := by omega
    have C0 : Hid (∀ w, Calls Tryz.prog 201 #[.slice a0 n0 c0, .int .i64 (L : Int)] w fun e w' => e = .returned (.int .i64 ((L - n0 : Nat) : Int)) ∧ w = w') := fun w => by rw [← e0]; exact szIntS_any a0 n0 c0 L h0 hL w
    by_cases g1 : n1 ≤ L - n0
    · have e1 : szF (L - n0) n1 = ((L - n0 - n1 : Nat) : Int) := by unfold szF; rw [if_pos g1]; omega
      have p1 : ¬ ((L - n0 - n1 : Nat) : Int) < 0 := by omega
      have C1 : Hid (∀ w, Calls Tryz.prog 201 #[.slice a1 n1 c1, .int .i64 ((L - n0 : Nat) : Int)] w fun e w' => e = .returned (.int .i64 ((L - n0 - n1 : Nat) : Int)) ∧ w = w') := fun w => by rw [← e1]; exact szIntS_any a1 n1 c1 (L - n0) h1 (by omega) w
      by_cases g2 : n2 ≤ L - n0 - n1
      · have e2 : szF (L - n0 - n1) n2 = ((L - n0 - n1 - n2 : Nat) : Int) := by unfold szF; rw [if_pos g2]; omega
        have p2 : ¬ ((L - n0 - n1 - n2 : Nat) : Int) < 0 := by omega
        have C2 : Hid (∀ w, Calls Tryz.prog 201 #[.slice a2 n2 c2, .int .i64 ((L - n0 - n1 : Nat) : Int)] w fun e w' => e = .returned (.int .i64 ((L - n0 - n1 - n2 : Nat) : Int)) ∧ w = w') := fun w => by rw [← e2]; exact szIntS_any a2 n2 c2 (L - n0 - n1) h2 (by omega) w
        have HE : Hid (szF L (n0 + n1 + n2) = ((L - n0 - n1 - n2 : Nat) : Int)) := by show szF _ _ = _; unfold szF; rw [if_pos (by omega)]; omega
        generalize ((L - n0 - n1 - n2 : Nat) : Int) = r2 at p2 C2 HE
        generalize ((L - n0 - n1 : Nat) : Int) = r1 at p1 C1 C2
        generalize ((L - n0 : Nat) : Int) = r0 at p0 C0 C1
        clear g0 g1 g2 e0 e1 e2
        go_enter Tryz.func172, Tryz.ntmps172
        go_wp2_with fail
        refine (C0.out _).mono ?_
        rintro e w0 ⟨rfl, rfl⟩
        go_wp2_with fail
        refine (C1.out _).mono ?_
        rintro e w0 ⟨rfl, rfl⟩
        go_wp2_with fail
        refine (C2.out _).mono ?_
        rintro e w0 ⟨rfl, rfl⟩
        go_wp2
        go_ret
        exact ⟨by rw [HE.out]; rfl, hb⟩
      · have e2 : szF (L - n0 - n1) n2 = -1 := by unfold szF; rw [if_neg g2]
        have C2 : Hid (∀ w, Calls Tryz.prog 201 #[.slice a2 n2 c2, .int .i64 ((L - n0 - n1 : Nat) : Int)] w fun e w' => e = .returned (.int .i64 (-1)) ∧ w = w') := fun w => by rw [← e2]; exact szIntS_any a2 n2 c2 (L - n0 - n1) h2 (by omega) w
        have HE : Hid (szF L (n0 + n1 + n2) = -1) := by show szF _ _ = _; unfold szF; rw [if_neg (by omega)]
        generalize ((L - n0 - n1 : Nat) : Int) = r1 at p1 C1 C2
        generalize ((L - n0 : Nat) : Int) = r0 at p0 C0 C1
        clear g0 g1 g2 e0 e1 e2
        go_enter Tryz.func172, Tryz.ntmps172
        go_wp2_with fail
        refine (C0.out _).mono ?_
        rintro e w0 ⟨rfl, rfl⟩
        go_wp2_with fail
        refine (C1.out _).mono ?_
        rintro e w0 ⟨rfl, rfl⟩
        go_wp2_with fail
        refine (C2.out _).mono ?_
        rintro e w0 ⟨rfl, rfl⟩
        go_wp2
        go_ret
        exact ⟨by rw [HE.out]; rfl, hb⟩
    · have e1 : szF (L - n0) n1 = -1 := by unfold szF; rw [if_neg g1]
      have C1 : Hid (∀ w, Calls Tryz.prog 201 #[.slice a1 n1 c1, .int .i64 ((L - n0 : Nat) : Int)] w fun e w' => e = .returned (.int .i64 (-1)) ∧ w = w') := fun w => by rw [← e1]; exact szIntS_any a1 n1 c1 (L - n0) h1 (by omega) w
      have HE : Hid (szF L (n0 + n1 + n2) = -1) := by show szF _ _ = _; unfold szF; rw [if_neg (by omega)]
      generalize ((L - n0 : Nat) : Int) = r0 at p0 C0 C1
      clear g0 g1 e0 e1
      go_enter Tryz.func172, Tryz.ntmps172
      go_wp2_with fail
      refine (C0.out _).mono ?_
      rintro e w0 ⟨rfl, rfl⟩
      go_wp2_with fail
      refine (C1.out _).mono ?_
      rintro e w0 ⟨rfl, rfl⟩
      go_wp2
      go_ret
      exact ⟨by rw [HE.out]; rfl, hb⟩
  · have e0 : szF L n0 = -1 := by unfold szF; rw [if_neg g0]
    have C0 : Hid (∀ w, Calls Tryz.prog 201 #[.slice a0 n0 c0, .int .i64 (L : Int)] w fun e w' => e = .returned (.int .i64 (-1)) ∧ w = w') := fun w => by rw [← e0]; exact szIntS_any a0 n0 c0 L h0 hL w
    have HE : Hid (szF L (n0 + n1 + n2) = -1) := by show szF _ _ = _; unfold szF; rw [if_neg (by omega)]
    clear g0 e0
    go_enter Tryz.func172, Tryz.ntmps172
    go_wp2_with fail
    refine (C0.out _).mono ?_
    rintro e w0 ⟨rfl, rfl⟩
    go_wp2
    go_ret
    exact ⟨by rw [HE.out]; rfl, hb⟩

/-- The three lists of a row that lies in a list. -/
theorem NAt.row3 {w : World} {c n cp : Nat} {a : Option Addr} {ls : List (List Int)} (h : NAt 3 w c (.slice a n cp) n ls) {i : Nat} (hi : i < n) : ∃ b off a0 c0 a1 c1 a2 c2, a = some ⟨b, off, none⟩ ∧ b < c ∧ w.cell? ⟨b, off + i * 3, none⟩ = some (.slice a0 (ls.getD (i * 3) []).length c0) ∧ w.cell? ⟨b, off + i * 3 + 1, none⟩ = some (.slice a1 (ls.getD (i * 3 + 1) []).length c1) ∧ w.cell? ⟨b, off + i * 3 + 2, none⟩ = some (.slice a2 (ls.getD (i * 3 + 2) []).length c2)
    ∧ IntsAt w a0 (ls.getD (i * 3) []).length c (fun j => (ls.getD (i * 3) []).getD j 0) ∧ IntsAt w a1 (ls.getD (i * 3 + 1) []).length c (fun j => (ls.getD (i * 3 + 1) []).getD j 0) ∧ IntsAt w a2 (ls.getD (i * 3 + 2) []).length c (fun j => (ls.getD (i * 3 + 2) []).getD j 0) := by
  obtain ⟨_, a', cp', hv, hc⟩ := h
  have ha : a = a' := by injection hv
  subst ha
  obtain ⟨b, off, u0, e0, l0, z0, a0, c0, rfl, i0⟩ := hc (i * 3) (by omega)
  obtain ⟨b1, off1, u1, e1, l1, z1, a1, c1, rfl, i1⟩ := hc (i * 3 + 1) (by omega)
  obtain ⟨b2, off2, u2, e2, l2, z2, a2, c2, rfl, i2⟩ := hc (i * 3 + 2) (by omega)
  subst e0
  obtain ⟨rfl, rfl⟩ : b = b1 ∧ off = off1 := by injection e1 with e; injection e with e3 e4; exact ⟨e3, e4⟩
  obtain ⟨rfl, rfl⟩ : b = b2 ∧ off = off2 := by injection e2 with e; injection e with e3 e4; exact ⟨e3, e4⟩
  exact ⟨b, off, a0, c0, a1, c1, a2, c2, rfl, l0, z0, z1, z2, i0, i1, i2⟩

theorem tot_take_three (ls : List (List Int)) (k : Nat) (h : (k + 1) * 3 ≤ ls.length) : tot (ls.take ((k + 1) * 3)) = tot (ls.take (k * 3)) + ((ls.getD (k * 3) []).length + (ls.getD (k * 3 + 1) []).length + (ls.getD (k * 3 + 2) []).length) := by
  have t2 : tot (ls.take (k * 3 + 3)) = tot (ls.take (k * 3 + 2)) + (ls.getD (k * 3 + 2) []).length := tot_take_next ls (j := k * 3 + 2) (by omega)
  have t1 : tot (ls.take (k * 3 + 2)) = tot (ls.take (k * 3 + 1)) + (ls.getD (k * 3 + 1) []).length := tot_take_next ls (j := k * 3 + 1) (by omega)
  have t0 := tot_take_next ls (j := k * 3) (by omega)
  rw [show (k + 1) * 3 = k * 3 + 3 by omega]
  omega

set_option maxHeartbeats 800000 in
set_option maxRecDepth 100000 in
theorem szRowS_any (a : Option Addr) (n cap : Nat) (hn : n ≤ 9223372036854775807) (ls : List (List Int)) (hz : ∀ j, (ls.getD j []).length ≤ 9223372036854775807) (w : World) (hA : NAt 3 w w.heap.size (.slice a n cap) n ls) :
    Calls Tryz.prog 107 #[.slice a n cap, .int .i64 1048576] w fun e w' => e = .returned (.int .i64 (szF 1048576 (n + tot ls))) ∧ Below w.heap.size w w' := by
  have HA : Hid (NAt 3 w w.heap.size (.slice a n cap) n ls) := hA
  have hlen := hA.1
  clear hA
  by_cases h1 : 1048576 < n
  · have h1' : (1048576 : Int) - (n : Int) < 0 := by omega
    have HE : Hid (szF 1048576 (n + tot ls) = -1) := by show szF _ _ = _; unfold szF; rw [if_neg (by omega)]
    go_enter Tryz.func107, Tryz.ntmps107
    go_wp2
    go_ret
    exact ⟨by rw [HE.out]; rfl, Below.refl _ _⟩
  have h1' : ¬ (1048576 : Int) - (n : Int) < 0 := by omega
  have hLn : ((1048576 - n : Nat) : Int) = 1048576 - (n : Int) := by omega
  have HZ : Hid (∀ j, (ls.getD j []).length ≤ 9223372036854775807) := hz
  clear hz
  go_enter Tryz.func107, Tryz.ntmps107
  go_wp2
  go_loopw [1, 5] (fun x i wr => ∃ k L : Nat, x = .int .i64 (L : Int) ∧ i = .int .i64 (k : Int) ∧ k ≤ n ∧ Hid (L + n + tot (ls.take (k * 3)) = 1048576) ∧ Hid (Below w.heap.size w wr)) (fun _ i _ => n - (intOf i).toNat)
  case atStart => exact ⟨0, 1048576 - n, by rw [hLn], rfl, Nat.zero_le _, (show 1048576 - n + n + 0 = 1048576 by omega), Below.refl _ _⟩
  case round =>
    obtain ⟨k, L, rfl, rfl, hk, HL, HW⟩ := hrel
    by_cases hlt : k < n
    · have hlt' : (k : Int) < (n : Int) := by omega
      have hk0 : (0 : Int) ≤ (k : Int) := by omega
      obtain ⟨b, off, a0, c0, a1, c1, a2, c2, rfl, hb, z0, z1, z2, _, _, _⟩ := (HA.out.on HW.out).row3 hlt
      have HT : Hid (tot (ls.take ((k + 1) * 3)) = tot (ls.take (k * 3)) + ((ls.getD (k * 3) []).length + (ls.getD (k * 3 + 1) []).length + (ls.getD (k * 3 + 2) []).length)) := by
        exact tot_take_three ls k (by omega)
      have HTL : Hid (tot (ls.take ((k + 1) * 3)) ≤ tot ls) := tot_take_le _ _
      have HC : Hid (∀ w, Calls Tryz.prog 172 #[.agg #[.slice a0 (ls.getD (k * 3) []).length c0, .slice a1 (ls.getD (k * 3 + 1) []).length c1, .slice a2 (ls.getD (k * 3 + 2) []).length c2], .int .i64 (L : Int)] w fun e w' => e = .returned (.int .i64 (szF L ((ls.getD (k * 3) []).length + (ls.getD (k * 3 + 1) []).length + (ls.getD (k * 3 + 2) []).length))) ∧ Below w.heap.size w w') := szRow_any a0 a1 a2 _ _ _ c0 c1 c2 L (HZ.out _) (HZ.out _) (HZ.out _) (by have := HL.out; omega)
      generalize (ls.getD (k * 3) []).length = m0 at HC HT z0
      generalize (ls.getD (k * 3 + 1) []).length = m1 at HC HT z1
      generalize (ls.getD (k * 3 + 2) []).length = m2 at HC HT z2
      generalize htk : tot (ls.take ((k + 1) * 3)) = T1 at HT HTL
      have HTK : Hid (tot (ls.take ((k + 1) * 3)) = T1) := htk
      clear htk
      generalize tot (ls.take (k * 3)) = T0 at HT HL
      clear HA hb
      by_cases hs : m0 + m1 + m2 ≤ L
      · have he : szF L (m0 + m1 + m2) = ((L - (m0 + m1 + m2) : Nat) : Int) := by unfold szF; rw [if_pos hs]; omega
        have hp : ¬ ((L - (m0 + m1 + m2) : Nat) : Int) < 0 := by omega
        rw [he] at HC
        have HL2 : Hid (L - (m0 + m1 + m2) + n + tot (ls.take ((k + 1) * 3)) = 1048576) := by
          show _ = _
          rw [HTK.out, HT.out]
          have := HL.out
          omega
        clear he hs
        generalize L - (m0 + m1 + m2) = L2 at HC hp HL2
        go_wp2_with fail
        refine (HC.out _).mono ?_
        rintro e w1 ⟨rfl, hb1⟩
        have HW2 : Hid (Below w.heap.size w w1) := HW.out.trans (hb1.mono HW.out.size)
        clear hb1 HW z0 z1 z2 HC
        go_wp2
        go_roundw
        case rel => exact ⟨k + 1, L2, rfl, by go_num, hlt, HL2, HW2⟩
        case measure => simp [intOf]; omega
      · have he : szF L (m0 + m1 + m2) = -1 := by unfold szF; rw [if_neg hs]
        have HE : Hid (szF 1048576 (n + tot ls) = -1) := by
          show szF _ _ = _
          unfold szF
          rw [if_neg (by have := HL.out; have := HT.out; have := HTL.out; omega)]
        rw [he] at HC
        clear he hs
        go_wp2_with fail
        refine (HC.out _).mono ?_
        rintro e w1 ⟨rfl, hb1⟩
        have HW2 : Hid (Below w.heap.size w w1) := HW.out.trans (hb1.mono HW.out.size)
        clear hb1 HW z0 z1 z2 HC
        go_wp2
        go_ret
        exact ⟨by rw [HE.out]; rfl, HW2.out⟩
    · have hlt' : ¬ (k : Int) < (n : Int) := by omega
      have hkn : k = n := by omega
      have HE : Hid (szF 1048576 (n + tot ls) = (L : Int)) := by
        have h := HL.out
        rw [hkn, ← hlen, List.take_length] at h
        show szF _ _ = _
        unfold szF
        rw [if_pos (by omega)]
        omega
      clear hkn
      go_wp2
      go_ret
      exact ⟨by rw [HE.out]; rfl, HW.out⟩

end Go.Proofs.YthnahalboomkoaaGreat

/-
  The walks of the helpers of the exact laws on rows and systems: copies, whether two are the same, marks.
  (-DROP-: what the seat lacks is left out.)
-/
namespace Go.Proofs.YthnahalboomkoaaGreat
open Go.RowKit

theorem infoRw : (Tryz.prog.info? 146).map (·.size) = some 3 := by kernel_rfl
theorem ones3R (a b c : Option Addr) (n m k n' m' k' : Nat) : (#[Value.slice a n n', .slice b m m', .slice c k k']).all (·.oneCell') = true := by simp [Value.oneCell']

set_option maxHeartbeats 800000 in
set_option maxRecDepth 100000 in
theorem toRow_any (a0 : Option Addr) (n0 c0 : Nat) (h0 : n0 ≤ 1048576) (f0 : Nat → Int) (a1 : Option Addr) (n1 c1 : Nat) (h1 : n1 ≤ 1048576) (f1 : Nat → Int) (a2 : Option Addr) (n2 c2 : Nat) (h2 : n2 ≤ 1048576) (f2 : Nat → Int) (w : World) (A0 : IntsAt w a0 n0 w.heap.size f0) (A1 : IntsAt w a1 n1 w.heap.size f1) (A2 : IntsAt w a2 n2 w.heap.size f2) :
    Calls Tryz.prog 173 #[.agg #[.slice a0 n0 c0, .slice a1 n1 c1, .slice a2 n2 c2]] w fun e w' => ∃ g0 g1 g2, e = .returned (.agg #[.slice (some ⟨g0, 0, none⟩) n0 n0, .slice (some ⟨g1, 0, none⟩) n1 n1, .slice (some ⟨g2, 0, none⟩) n2 n2]) ∧ w.heap.size ≤ g0 ∧ g0 < g1 ∧ g1 < g2 ∧ g2 < w'.heap.size ∧ RowI w' g0 n0 f0 ∧ RowI w' g1 n1 f1 ∧ RowI w' g2 n2 f2 ∧ Below w.heap.size w w' := by
  obtain ⟨W, hW, hB, hx, hr, ho⟩ := boxes2r w 189 146 146 #[.slice a0 n0 c0, .slice a1 n1 c1, .slice a2 n2 c2] #[.slice none 0 0, .slice none 0 0, .slice none 0 0] #[.slice none 0 0, .slice none 0 0, .slice none 0 0]
  have H0 : Hid (IntsAt w a0 n0 w.heap.size f0) := A0
  have H1 : Hid (IntsAt w a1 n1 w.heap.size f1) := A1
  have H2 : Hid (IntsAt w a2 n2 w.heap.size f2) := A2
  have hWs : w.heap.size + 3 ≤ W.heap.size := by rw [← hW]; simp
  clear A0 A1 A2
  have q0 := hx.cell 0
  go_enter Tryz.func173, Tryz.ntmps173
  go_wp2_with fail
  clear hW q0
  refine (toIntS_any a0 n0 c0 h0 f0 _ ((H0.out.on hB).wide hB.size)).mono ?_
  rintro e w1 ⟨rfl, R0, hb⟩
  have hsz := hb.size
  obtain ⟨g0, hg0⟩ : ∃ g, g = W.heap.size := ⟨_, rfl⟩
  rw [← hg0] at R0 hsz ⊢
  have hge0 : w.heap.size + 3 ≤ g0 := by omega
  have hl0 := R0.lt
  clear hg0 hWs
  replace hx := hx.on hb hx.lt
  replace hr := hr.on hb hr.lt
  replace ho := ho.on hb ho.lt
  replace hB := below_then hB hb
  have p0 := ho.cell 0
  have s0 := ho.free 0
  have t1 := hx.cell 1
  replace hx := hx.other (i := 0) (g' := w.heap.size + 1 + 1) (by omega) (.slice (some ⟨g0, 0, none⟩) n0 n0)
  replace hr := hr.other (i := 0) (g' := w.heap.size + 1 + 1) (by omega) (.slice (some ⟨g0, 0, none⟩) n0 n0)
  replace ho := ho.set 0 (.slice (some ⟨g0, 0, none⟩) n0 n0)
  replace R0 : RowI _ g0 n0 f0 := Blk.other (i := 0) (g' := w.heap.size + 1 + 1) R0 (by omega) (.slice (some ⟨g0, 0, none⟩) n0 n0)
  replace hB := hB.setCell (p := ⟨w.heap.size + 1 + 1, 0, none⟩) (by show w.heap.size ≤ w.heap.size + 1 + 1; omega) (.slice (some ⟨g0, 0, none⟩) n0 n0)
  have hS1 : w1.heap.size = (w1.setCell ⟨w.heap.size + 1 + 1, 0, none⟩ (.slice (some ⟨g0, 0, none⟩) n0 n0)).heap.size := by simp [World.setCell]
  have q1 := hx.cell 1
  clear hb hsz
  go_wp2_with fail
  generalize w1.setCell ⟨w.heap.size + 1 + 1, 0, none⟩ (.slice (some ⟨g0, 0, none⟩) n0 n0) = V1 at hx hr ho hB q1 hS1 R0 ⊢
  clear q1 t1 p0 s0
  refine (toIntS_any a1 n1 c1 h1 f1 _ ((H1.out.on hB).wide hB.size)).mono ?_
  rintro e w2 ⟨rfl, R1, hb⟩
  have hsz := hb.size
  obtain ⟨g1, hg1⟩ : ∃ g, g = V1.heap.size := ⟨_, rfl⟩
  rw [← hg1] at R1 hsz ⊢
  have hge1 : w.heap.size + 3 ≤ g1 := by have := ho.lt; omega
  have hlt1 : g0 < g1 := by have := hl0; omega
  have hl1 := R1.lt
  clear hg1 hS1
  replace hx := hx.on hb hx.lt
  replace hr := hr.on hb hr.lt
  replace ho := ho.on hb ho.lt
  replace R0 := R0.on hb R0.lt
  replace hB := below_then hB hb
  have p1 := ho.cell 1
  have s1 := ho.free 1
  have t2 := hx.cell 2
  replace hx := hx.other (i := 1) (g' := w.heap.size + 1 + 1) (by omega) (.slice (some ⟨g1, 0, none⟩) n1 n1)
  replace hr := hr.other (i := 1) (g' := w.heap.size + 1 + 1) (by omega) (.slice (some ⟨g1, 0, none⟩) n1 n1)
  replace ho := ho.set 1 (.slice (some ⟨g1, 0, none⟩) n1 n1)
  replace R0 : RowI _ g0 n0 f0 := Blk.other (i := 1) (g' := w.heap.size + 1 + 1) R0 (by omega) (.slice (some ⟨g1, 0, none⟩) n1 n1)
  replace R1 : RowI _ g1 n1 f1 := Blk.other (i := 1) (g' := w.heap.size + 1 + 1) R1 (by omega) (.slice (some ⟨g1, 0, none⟩) n1 n1)
  replace hB := hB.setCell (p := ⟨w.heap.size + 1 + 1, 1, none⟩) (by show w.heap.size ≤ w.heap.size + 1 + 1; omega) (.slice (some ⟨g1, 0, none⟩) n1 n1)
  have hS2 : w2.heap.size = (w2.setCell ⟨w.heap.size + 1 + 1, 1, none⟩ (.slice (some ⟨g1, 0, none⟩) n1 n1)).heap.size := by simp [World.setCell]
  have q2 := hx.cell 2
  clear hb hsz
  go_wp2_with fail
  generalize w2.setCell ⟨w.heap.size + 1 + 1, 1, none⟩ (.slice (some ⟨g1, 0, none⟩) n1 n1) = V2 at hx hr ho hB q2 hS2 R0 R1 ⊢
  clear q2 t2 p1 s1
  refine (toIntS_any a2 n2 c2 h2 f2 _ ((H2.out.on hB).wide hB.size)).mono ?_
  rintro e w3 ⟨rfl, R2, hb⟩
  have hsz := hb.size
  obtain ⟨g2, hg2⟩ : ∃ g, g = V2.heap.size := ⟨_, rfl⟩
  rw [← hg2] at R2 hsz ⊢
  have hge2 : w.heap.size + 3 ≤ g2 := by have := ho.lt; omega
  have hlt2 : g1 < g2 := by have := hl1; omega
  have hl2 := R2.lt
  clear hg2 hS2
  replace hx := hx.on hb hx.lt
  replace hr := hr.on hb hr.lt
  replace ho := ho.on hb ho.lt
  replace R0 := R0.on hb R0.lt
  replace R1 := R1.on hb R1.lt
  replace hB := below_then hB hb
  have p2 := ho.cell 2
  have s2 := ho.free 2
  replace hx := hx.other (i := 2) (g' := w.heap.size + 1 + 1) (by omega) (.slice (some ⟨g2, 0, none⟩) n2 n2)
  replace hr := hr.other (i := 2) (g' := w.heap.size + 1 + 1) (by omega) (.slice (some ⟨g2, 0, none⟩) n2 n2)
  replace ho := ho.set 2 (.slice (some ⟨g2, 0, none⟩) n2 n2)
  replace R0 : RowI _ g0 n0 f0 := Blk.other (i := 2) (g' := w.heap.size + 1 + 1) R0 (by omega) (.slice (some ⟨g2, 0, none⟩) n2 n2)
  replace R1 : RowI _ g1 n1 f1 := Blk.other (i := 2) (g' := w.heap.size + 1 + 1) R1 (by omega) (.slice (some ⟨g2, 0, none⟩) n2 n2)
  replace R2 : RowI _ g2 n2 f2 := Blk.other (i := 2) (g' := w.heap.size + 1 + 1) R2 (by omega) (.slice (some ⟨g2, 0, none⟩) n2 n2)
  replace hB := hB.setCell (p := ⟨w.heap.size + 1 + 1, 2, none⟩) (by show w.heap.size ≤ w.heap.size + 1 + 1; omega) (.slice (some ⟨g2, 0, none⟩) n2 n2)
  have hS3 : w3.heap.size = (w3.setCell ⟨w.heap.size + 1 + 1, 2, none⟩ (.slice (some ⟨g2, 0, none⟩) n2 n2)).heap.size := by simp [World.setCell]
  clear hb hsz
  clear H0 H1 H2 hx
  go_wp2_with (first | (refine load_blk rfl rfl rfl ho Tryz.underlying146 infoRw ?_) | (refine store_blk (cs' := #[.slice (some ⟨g0, 0, none⟩) n0 n0, .slice (some ⟨g1, 0, none⟩) n1 n1, .slice (some ⟨g2, 0, none⟩) n2 n2]) rfl rfl rfl rfl rfl hr infoRw rfl (ones3R _ _ _ _ _ _ _ _ _) ?_; intro V h5 hoth hbel; have hbV := hbel _ _ (by omega) hB; have T0 := hoth _ _ _ (by omega) R0; have T1 := hoth _ _ _ (by omega) R1; have T2 := hoth _ _ _ (by omega) R2; clear hoth hbel))
  refine bodyPost_ret_by (result_blk rfl rfl h5 Tryz.underlying146 infoRw) rfl ⟨_, _, _, rfl, by omega, by omega, by omega, T2.lt, T0, T1, T2, hbV⟩

theorem infoRwM : (Tryz.prog.info? 146).map (fun i => (i.zero, i.size, i.bytes)) = some (some (.agg #[.slice none 0 0, .slice none 0 0, .slice none 0 0]), 3, 72) := by kernel_rfl

/-- The cells of so many rows of nothing. -/
def nil3 (n : Nat) : Array Value := Array.replicate (n * 3) (.slice none 0 0)

/-- make([]Row, n). -/
theorem make_rows (n : Nat) (h2 : n ≤ 1073741824) (W : World) :
    (Instr.makeSlice 24 (.int .i64 (n : Int)) (.int .i64 (n : Int))).run Tryz.prog W = .ok (.slice (some ⟨W.heap.size, 0, none⟩) n n) (W.alloc (.cells (nil3 n) 146)) := by
  obtain ⟨i0, hi, hz0, hz1, hz2⟩ := info_parts infoRwM
  have hM : madeCells (Value.agg #[.slice none 0 0, .slice none 0 0, .slice none 0 0]).cells ((n : Int).toNat * i0.size) = nil3 n := by
    rw [hz1]
    apply Array.ext_getElem?
    intro k
    unfold nil3
    by_cases hk : k < n * 3
    · have hm : k % 3 = 0 ∨ k % 3 = 1 ∨ k % 3 = 2 := by omega
      rcases hm with h | h | h <;> simp [madeCells, Value.cells, hk, h]
    · rw [Array.getElem?_eq_none (by rw [size_madeCells]; simp; omega), Array.getElem?_eq_none (by simp; omega)]
  have h := run_make (P := Tryz.prog) W 24 146 i0 (.agg #[.slice none 0 0, .slice none 0 0, .slice none 0 0]) Tryz.underlying24 hi hz0 .i64 .i64 (n : Int) (n : Int) (by omega) (by omega) (by rw [hz2]; omega) (by omega)
  rw [hM] at h
  simpa using h

theorem zown_nil (lo hi : Nat) (w : World) : ZOwn lo hi w (.slice none 0 0) [] := ⟨World.ownsRow_nil _ _ _ _, fun k hk => by cases hk⟩

theorem nown_made (w : World) (n : Nat) (hn : n ≤ 1048576) : NOwnV 3 146 w.heap.size (w.heap.size + 1) (w.alloc (.cells (nil3 n) 146)) (.slice (some ⟨w.heap.size, 0, none⟩) n n) n (List.replicate (n * 3) (.slice none 0 0)) (List.replicate (n * 3) []) := by
  have hv : ∀ j, j < n * 3 → (List.replicate (n * 3) (Value.slice none 0 0)).getD j undef = .slice none 0 0 := fun j hj => by simp [hj]
  refine ⟨?_, by simp, fun k hk => ?_, fun j hj => ?_, fun i j k h1 h2 h3 h4 => ?_, fun j k h1 h2 => ?_⟩
  · have h := World.ownsRow_lit (base := w.heap.size) (e := 146) (size := 3) w (nil3 n) n (Nat.le_refl _) (by unfold maxLen; omega) (by simp [nil3])
    simpa [nil3] using h
  · have e1 : some w.heap.size = some k := hk
    injection e1 with e1
    omega
  · rw [hv j hj]
    have : (List.replicate (n * 3) ([] : List Int)).getD j [] = [] := by simp [hj]
    rw [this]
    exact zown_nil _ _ _
  · rw [hv i h1] at h4; cases h4
  · rw [hv j h1] at h2; cases h2

theorem zown_row {w : World} {g lo hi : Nat} {l : List Int} (h : RowI w g l.length (fun j => l.getD j 0)) (hlo : lo ≤ g) (hhi : g < hi) (hn : l.length ≤ 1048576) : ZOwn lo hi w (.slice (some ⟨g, 0, none⟩) l.length l.length) l := by
  refine ⟨?_, fun k hk => ?_⟩
  · have h1 := h.rowZ hlo hn
    rw [zls_getD] at h1
    exact h1
  · have e1 : some g = some k := hk
    injection e1 with e1
    omega

theorem up_set (ls : List (List Int)) (m j : Nat) (hm : ls.length = m) (hj : j < m) : (ls.take j ++ List.replicate (m - j) []).set j (ls.getD j []) = ls.take (j + 1) ++ List.replicate (m - (j + 1)) [] := by
  have hl : (ls.take j).length = j := by rw [List.length_take]; omega
  have e2 : ls.getD j [] = ls[j]'(by omega) := by simp [show j < ls.length by omega]
  rw [List.take_succ_eq_append_getElem (by omega), List.append_assoc, List.set_append_right _ _ (by omega), hl, Nat.sub_self, e2, show m - j = (m - (j + 1)) + 1 by omega, List.replicate_succ]
  rfl

/-- A row is put into a list of rows. -/
theorem NOwnV.put3 {lo hi hi' n g cp e : Nat} {w : World} {vs : List Value} {ls : List (List Int)} {i : Nat} {l0 l1 l2 : List Int} {g0 g1 g2 : Nat} (h : NOwnV 3 e lo hi w (.slice (some ⟨g, 0, none⟩) n cp) n vs ls) (hi3 : i < n) (hlo : lo ≤ hi) (h0 : hi ≤ g0) (h1 : g0 < g1) (h2 : g1 < g2) (h3 : g2 < hi') (b0 : l0.length ≤ 1048576) (b1 : l1.length ≤ 1048576) (b2 : l2.length ≤ 1048576)
    (r0 : RowI w g0 l0.length (fun j => l0.getD j 0)) (r1 : RowI w g1 l1.length (fun j => l1.getD j 0)) (r2 : RowI w g2 l2.length (fun j => l2.getD j 0)) :
    ∃ vs', NOwnV 3 e lo hi' (((w.setCell ⟨g, i * 3, none⟩ (.slice (some ⟨g0, 0, none⟩) l0.length l0.length)).setCell ⟨g, i * 3 + 1, none⟩ (.slice (some ⟨g1, 0, none⟩) l1.length l1.length)).setCell ⟨g, i * 3 + 2, none⟩ (.slice (some ⟨g2, 0, none⟩) l2.length l2.length)) (.slice (some ⟨g, 0, none⟩) n cp) n vs' (((ls.set (i * 3) l0).set (i * 3 + 1) l1).set (i * 3 + 2) l2) := by
  have hg : g < hi := h.top g rfl
  have k0 := h.put (j := i * 3) (by omega) (zown_row r0 h0 (show g0 < g0 + 1 by omega) b0) (by omega) hlo
  have s1 : RowI (w.setCell ⟨g, i * 3, none⟩ (.slice (some ⟨g0, 0, none⟩) l0.length l0.length)) g1 l1.length (fun j => l1.getD j 0) := Blk.other r1 (by omega) _
  have s2 : RowI (w.setCell ⟨g, i * 3, none⟩ (.slice (some ⟨g0, 0, none⟩) l0.length l0.length)) g2 l2.length (fun j => l2.getD j 0) := Blk.other r2 (by omega) _
  have k1 := k0.put (j := i * 3 + 1) (by omega) (zown_row s1 (show g0 + 1 ≤ g1 by omega) (show g1 < g1 + 1 by omega) b1) (by omega) (by omega)
  have t2 : RowI ((w.setCell ⟨g, i * 3, none⟩ (.slice (some ⟨g0, 0, none⟩) l0.length l0.length)).setCell ⟨g, i * 3 + 1, none⟩ (.slice (some ⟨g1, 0, none⟩) l1.length l1.length)) g2 l2.length (fun j => l2.getD j 0) := Blk.other s2 (by omega) _
  exact ⟨_, k1.put (j := i * 3 + 2) (by omega) (zown_row t2 (show g1 + 1 ≤ g2 by omega) h3 b2) (by omega) (by omega)⟩

set_option maxHeartbeats 1600000 in
set_option maxRecDepth 100000 in
theorem toRowS_any (a : Option Addr) (n cap : Nat) (hn : n ≤ 1048576) (ls : List (List Int)) (hz : ∀ j, (ls.getD j []).length ≤ 1048576) (w : World) (hA : NAt 3 w w.heap.size (.slice a n cap) n ls) :
    Calls Tryz.prog 108 #[.slice a n cap] w fun e w' => e = .returned (.slice (some ⟨w.heap.size, 0, none⟩) n n) ∧ (∃ vs, NOwnV 3 146 w.heap.size w'.heap.size w' (.slice (some ⟨w.heap.size, 0, none⟩) n n) n vs ls) ∧ Below w.heap.size w w' := by
  have HA : Hid (NAt 3 w w.heap.size (.slice a n cap) n ls) := hA
  have hlen := hA.1
  have HZ : Hid (∀ j, (ls.getD j []).length ≤ 1048576) := hz
  clear hA hz
  have hmk : ∀ W : World, (Instr.makeSlice 24 (.int .i64 (n : Int)) (.int .i64 (n : Int))).run Tryz.prog W = .ok (.slice (some ⟨W.heap.size, 0, none⟩) n n) (W.alloc (.cells (nil3 n) 146)) := fun W => make_rows n (by omega) W
  have H0 : Hid (NOwnV 3 146 w.heap.size (w.heap.size + 1) (w.alloc (.cells (nil3 n) 146)) (.slice (some ⟨w.heap.size, 0, none⟩) n n) n (List.replicate (n * 3) (.slice none 0 0)) (ls.take (0 * 3) ++ List.replicate (n * 3 - 0 * 3) [])) := by show NOwnV _ _ _ _ _ _ _ _ _; simpa using nown_made w n hn
  generalize nil3 n = M at hmk H0
  go_enter Tryz.func108, Tryz.ntmps108
  go_wp2
  go_loopw [4] (fun i wr => ∃ (k hi : Nat) (vs : List Value), i = .int .i64 (k : Int) ∧ k ≤ n ∧ Hid (w.heap.size < hi ∧ hi ≤ wr.heap.size) ∧ Hid (NOwnV 3 146 w.heap.size hi wr (.slice (some ⟨w.heap.size, 0, none⟩) n n) n vs (ls.take (k * 3) ++ List.replicate (n * 3 - k * 3) [])) ∧ Hid (Below w.heap.size w wr)) (fun i _ => n - (intOf i).toNat)
  case atStart => exact ⟨0, w.heap.size + 1, _, rfl, Nat.zero_le _, ⟨by omega, by simp⟩, H0, (Below.refl _ _).alloc (Nat.le_refl _) _⟩
  case round =>
    obtain ⟨k, hi, vs, rfl, hk, HH, HR, HW⟩ := hrel
    clear hmk H0
    by_cases hlt : k < n
    · have hlt' : (k : Int) < (n : Int) := by omega
      have hk0 : (0 : Int) ≤ (k : Int) := by omega
      obtain ⟨b, off, a0, c0, a1, c1, a2, c2, rfl, hb, z0, z1, z2, i0, i1, i2⟩ := (HA.out.on HW.out).row3 hlt
      have hws : w.heap.size ≤ wr.heap.size := HW.out.size
      have HC : Hid (Calls Tryz.prog 173 #[.agg #[.slice a0 (ls.getD (k * 3) []).length c0, .slice a1 (ls.getD (k * 3 + 1) []).length c1, .slice a2 (ls.getD (k * 3 + 2) []).length c2]] wr fun e w' => ∃ g0 g1 g2, e = .returned (.agg #[.slice (some ⟨g0, 0, none⟩) (ls.getD (k * 3) []).length (ls.getD (k * 3) []).length, .slice (some ⟨g1, 0, none⟩) (ls.getD (k * 3 + 1) []).length (ls.getD (k * 3 + 1) []).length, .slice (some ⟨g2, 0, none⟩) (ls.getD (k * 3 + 2) []).length (ls.getD (k * 3 + 2) []).length]) ∧ wr.heap.size ≤ g0 ∧ g0 < g1 ∧ g1 < g2 ∧ g2 < w'.heap.size ∧ RowI w' g0 (ls.getD (k * 3) []).length (fun j => (ls.getD (k * 3) []).getD j 0) ∧ RowI w' g1 (ls.getD (k * 3 + 1) []).length (fun j => (ls.getD (k * 3 + 1) []).getD j 0) ∧ RowI w' g2 (ls.getD (k * 3 + 2) []).length (fun j => (ls.getD (k * 3 + 2) []).getD j 0) ∧ Below wr.heap.size wr w') := toRow_any a0 _ c0 (HZ.out _) _ a1 _ c1 (HZ.out _) _ a2 _ c2 (HZ.out _) _ wr (i0.wide hws) (i1.wide hws) (i2.wide hws)
      have HS : Hid ((((ls.take (k * 3) ++ List.replicate (n * 3 - k * 3) []).set (k * 3) (ls.getD (k * 3) [])).set (k * 3 + 1) (ls.getD (k * 3 + 1) [])).set (k * 3 + 2) (ls.getD (k * 3 + 2) []) = ls.take ((k + 1) * 3) ++ List.replicate (n * 3 - (k + 1) * 3) []) := by
        show _ = _
        rw [up_set ls (n * 3) (k * 3) hlen (by omega), up_set ls (n * 3) (k * 3 + 1) hlen (by omega), up_set ls (n * 3) (k * 3 + 2) hlen (by omega), show (k + 1) * 3 = k * 3 + 2 + 1 by omega]
      have e0 := HZ.out (k * 3)
      have e1 := HZ.out (k * 3 + 1)
      have e2 := HZ.out (k * 3 + 2)
      generalize ls.take (k * 3) ++ List.replicate (n * 3 - k * 3) [] = cur at HS HR
      generalize ls.getD (k * 3) [] = l0 at HC HS z0 e0
      generalize ls.getD (k * 3 + 1) [] = l1 at HC HS z1 e1
      generalize ls.getD (k * 3 + 2) [] = l2 at HC HS z2 e2
      clear i0 i1 i2 hb HA HZ
      go_wp2_with fail
      refine HC.out.mono ?_
      rintro e w1 ⟨g0, g1, g2, rfl, hg0, hg1, hg2, hg3, r0, r1, r2, hb1⟩
      have hR1 := HR.out.same (Same.of_below hb1 HH.out.2)
      have c0 := hR1.cell (j := k * 3) (by omega)
      have c1 := hR1.cell (j := k * 3 + 1) (by omega)
      have c2 := hR1.cell (j := k * 3 + 2) (by omega)
      have f0 := World.ownsRow.frozenAt hR1.row (k * 3)
      have f1 := World.ownsRow.frozenAt hR1.row (k * 3 + 1)
      have f2 := World.ownsRow.frozenAt hR1.row (k * 3 + 2)
      obtain ⟨vs', hR2⟩ := hR1.put3 (hi' := w1.heap.size) hlt (by have := HH.out; omega) (by have := HH.out; omega) hg1 hg2 hg3 e0 e1 e2 r0 r1 r2
      rw [HS.out] at hR2
      have hB1 : Below w.heap.size w w1 := HW.out.trans (hb1.mono HW.out.size)
      have HW2 : Hid (Below w.heap.size w (((w1.setCell ⟨w.heap.size, k * 3, none⟩ (.slice (some ⟨g0, 0, none⟩) l0.length l0.length)).setCell ⟨w.heap.size, k * 3 + 1, none⟩ (.slice (some ⟨g1, 0, none⟩) l1.length l1.length)).setCell ⟨w.heap.size, k * 3 + 2, none⟩ (.slice (some ⟨g2, 0, none⟩) l2.length l2.length))) := ((hB1.setCell (Nat.le_refl _) _).setCell (Nat.le_refl _) _).setCell (Nat.le_refl _) _
      have HR2 : Hid (NOwnV 3 146 w.heap.size w1.heap.size (((w1.setCell ⟨w.heap.size, k * 3, none⟩ (.slice (some ⟨g0, 0, none⟩) l0.length l0.length)).setCell ⟨w.heap.size, k * 3 + 1, none⟩ (.slice (some ⟨g1, 0, none⟩) l1.length l1.length)).setCell ⟨w.heap.size, k * 3 + 2, none⟩ (.slice (some ⟨g2, 0, none⟩) l2.length l2.length)) (.slice (some ⟨w.heap.size, 0, none⟩) n n) n vs' (ls.take ((k + 1) * 3) ++ List.replicate (n * 3 - (k + 1) * 3) [])) := hR2
      have HH2 : Hid (w.heap.size < w1.heap.size ∧ w1.heap.size ≤ (((w1.setCell ⟨w.heap.size, k * 3, none⟩ (.slice (some ⟨g0, 0, none⟩) l0.length l0.length)).setCell ⟨w.heap.size, k * 3 + 1, none⟩ (.slice (some ⟨g1, 0, none⟩) l1.length l1.length)).setCell ⟨w.heap.size, k * 3 + 2, none⟩ (.slice (some ⟨g2, 0, none⟩) l2.length l2.length)).heap.size) := ⟨by have := HH.out; have := hb1.size; omega, by simp [World.setCell]⟩
      generalize vs.getD (k * 3) undef = o0 at c0
      generalize vs.getD (k * 3 + 1) undef = o1 at c1
      generalize vs.getD (k * 3 + 2) undef = o2 at c2
      clear HR HW HH hR1 hR2 hB1 hb1 z0 z1 z2 HC HS r0 r1 r2
      go_wp2
      go_roundw
      case rel => exact ⟨k + 1, _, vs', by go_num, hlt, HH2, HR2, HW2⟩
      case measure => simp [intOf]; omega
    · have hlt' : ¬ (k : Int) < (n : Int) := by omega
      have HE : Hid (NOwnV 3 146 w.heap.size wr.heap.size wr (.slice (some ⟨w.heap.size, 0, none⟩) n n) n vs ls) := by
        have h := HR.out
        rw [show k = n by omega, Nat.sub_self, ← hlen, List.take_length] at h
        simp only [List.replicate_zero, List.append_nil] at h
        exact h.wide HH.out.2
      go_wp2
      go_ret
      exact ⟨rfl, ⟨vs, HE.out⟩, HW.out⟩

end Go.Proofs.YthnahalboomkoaaGreat
