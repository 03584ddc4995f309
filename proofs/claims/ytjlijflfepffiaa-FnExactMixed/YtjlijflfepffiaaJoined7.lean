/-
  Texts of one's own, joined.
-/
import Derived.Test.YtjlijflfepffiaaProg
import Derived.WalkKit
import Derived.Test.YtjlijflfepffiaaJoined4

/-
  Rows of bytes.
  (-DROP-: what the seat lacks is left out.)
-/
namespace Go.Proofs.Ytjlijflfepffiaa
open Go.RowKit

def bytesV (l : List UInt8) : List Value := l.map fun c => .int .u8 (c.toNat : Int)

theorem bytesV_append (a b : List UInt8) : bytesV (a ++ b) = bytesV a ++ bytesV b := by simp [bytesV]

theorem toNat_of {n : Nat} (h : n < 256) : (UInt8.ofNat n).toNat = n := by simp; omega

theorem bytesV_one {n : Nat} (h : n < 256) : bytesV [UInt8.ofNat n] = [.int .u8 (n : Int)] := by simp only [bytesV, List.map_cons, List.map_nil, toNat_of h]

theorem row_form {w : World} {B e sz n : Nat} {v : Value} {xs : List Value} (h : w.ownsRow B e sz v n xs) : ∃ a cap, v = .slice a n cap := by
  rcases h.2 with ⟨rfl, h0⟩ | ⟨g, cap, cur, rfl, _⟩
  · subst h0; exact ⟨_, _, rfl⟩
  · exact ⟨_, _, rfl⟩

theorem one_cell (k : IntKind) (z : Int) : ∀ u ∈ [Value.int k z], u.oneCell' = true := by
  intro u hu; simp at hu; subst hu; rfl

theorem room_for {B : Nat} {w : World} (h : B ≤ w.heap.size) (o : Obj) : B ≤ (w.alloc o).heap.size := by simp; omega

theorem cells_of_row {w : World} {B e g cap : Nat} {l : List UInt8} (h : w.ownsRow B e 1 (.slice (some ⟨g, 0, none⟩) l.length cap) l.length (bytesV l)) :
    ∀ j (hj : j < l.length), w.cell? ((⟨g, 0, none⟩ : Addr).add j) = some (.int .u8 (l[j].toNat : Int)) := fun j hj => by
  rw [Addr.add_lit, Nat.zero_add, h.cellAt j (by omega)]
  simp [bytesV, hj]

theorem info5 : (Try.prog.info? 5).map (fun i => (i.zero, i.size, i.bytes)) = some (some (.int .u8 0), 1, 1) := by kernel_rfl

theorem text_of_nil (w : World) : (convert 22 9 (.slice none 0 0)).run Try.prog w = .ok (.string ⟨#[]⟩) w := by
  rw [run_convert_bytes_string w 22 9 5 none 0 0 Try.underlying22 Try.underlying5 Try.underlying9]
  rfl

theorem text_of_row {w : World} {B : Nat} {v : Value} {l : List UInt8} (h : w.ownsRow B 5 1 v l.length (bytesV l)) :
    (convert 22 9 v).run Try.prog w = .ok (.string ⟨l.toArray⟩) w := by
  rcases h.2 with ⟨rfl, h0⟩ | ⟨g, cap, cur, rfl, hg, hh, hnc, hcp, hcs, htake⟩
  · obtain rfl : l = [] := List.length_eq_zero_iff.1 h0
    exact text_of_nil w
  · exact run_convert_bytes_back (P := Try.prog) w 22 9 5 ⟨g, 0, none⟩ cap l Try.underlying22 Try.underlying5 Try.underlying9 (cells_of_row h)

end Go.Proofs.Ytjlijflfepffiaa

/-
  Worlds that differ in some blocks alone.
-/
namespace Go.Proofs.Ytjlijflfepffiaa
open Go.RowKit

/-- All blocks but these are as they were; the streams are as they were. -/
structure Kps (S : Nat → Prop) (w w' : World) : Prop where
  os : w'.os = w.os
  tape : w'.tape = w.tape
  output : w'.output = w.output
  size : w.heap.size ≤ w'.heap.size
  block : ∀ k, k < w.heap.size → ¬ S k → w'.heap[k]? = w.heap[k]?

theorem Kps.refl (S : Nat → Prop) (w : World) : Kps S w w := ⟨rfl, rfl, rfl, Nat.le_refl _, fun _ _ _ => rfl⟩
theorem Kps.trans {S : Nat → Prop} {a b c : World} (h : Kps S a b) (k : Kps S b c) : Kps S a c :=
  ⟨k.os.trans h.os, k.tape.trans h.tape, k.output.trans h.output, Nat.le_trans h.size k.size, fun i hi hs => (k.block i (Nat.lt_of_lt_of_le hi h.size) hs).trans (h.block i hi hs)⟩
theorem Kps.more {S T : Nat → Prop} {a b : World} (h : Kps S a b) (hT : ∀ k, S k → T k) : Kps T a b :=
  ⟨h.os, h.tape, h.output, h.size, fun i hi ht => h.block i hi fun s => ht (hT i s)⟩
theorem Kps.of_below {S : Nat → Prop} {a b : World} (h : Below a.heap.size a b) : Kps S a b := ⟨h.os, h.tape, h.output, h.size, fun i hi _ => h.block i hi⟩
theorem Kps.drew {S : Nat → Prop} {a b : World} (h : Kps S a b) : Kps S a b.drew := ⟨h.os, h.tape, h.output, h.size, h.block⟩
theorem Kps.setCell {S : Nat → Prop} {a b : World} (h : Kps S a b) {p : Addr} (hp : S p.block) (u : Value) : Kps S a (b.setCell p u) :=
  h.trans ⟨rfl, rfl, rfl, by simp [World.setCell], fun k _ hs => Below.heap_setCell _ _ _ _ fun e => hs (e ▸ hp)⟩
theorem Kps.bel {S : Nat → Prop} {B : Nat} {w0 w w' : World} (h : Kps S w w') (hb : Below B w0 w) (hB : B ≤ w.heap.size) (hS : ∀ k, S k → B ≤ k) : Below B w0 w' :=
  ⟨h.os.trans hb.os, h.tape.trans hb.tape, h.output.trans hb.output, Nat.le_trans hb.size h.size, fun k hk => (h.block k (by omega) fun s => by have := hS k s; omega).trans (hb.block k hk)⟩
theorem Kps.blk {S : Nat → Prop} {w w' : World} (h : Kps S w w') {g : Nat} {t : TypeId} {cs : Array Value} (hb : Blk w g t cs) (hg : ¬ S g) : Blk w' g t cs := (h.block g hb.lt hg).trans hb
theorem Kps.row {S : Nat → Prop} {w w' : World} (h : Kps S w w') {B e sz n : Nat} {v : Value} {xs : List Value} (hr : w.ownsRow B e sz v n xs) (hv : ∀ k, v.ownBlock = some k → ¬ S k) : w'.ownsRow B e sz v n xs := by
  refine ⟨hr.1, ?_⟩
  rcases hr.2 with h0 | ⟨g, cap, cur, hve, hB, hg, rest⟩
  · exact .inl h0
  · exact .inr ⟨g, cap, cur, hve, hB, (h.block g (Array.getElem?_eq_some_iff.1 hg).1 (hv g (by rw [hve]; rfl))).trans hg, rest⟩

end Go.Proofs.Ytjlijflfepffiaa
