/-
  Texts of one's own, joined.
-/
import Derived.Test.YtjlijflfepffiaaJoined6
import Derived.Maps.AppendAt
import Derived.Test.YtjlijflfepffiaaJoined17
import Derived.Test.YtjlijflfepffiaaJoined2

/-
  An append in a region that draws its order.
-/
namespace Go.Proofs.Ytjlijflfepffiaa
open Go.RowKit

theorem ord_append {P : Program} {ops : Array Oper} {S : World → Prop} {Q : Exit → Act → World → Prop} {R : Act → World → Prop} {k : Nat} {r : List (Nat × Bool)} {a : Act} {w : World} {o : Oper} (ho : ops[k]? = some o) (hw : Region.wanted o (yielded ops a.tmps) = true) (s x : Operand) (t : TypeId)
    (hop : o.op = .call { callee := .builtin .append, args := #[s, x], argTypes := #[t, t] })
    (base : Nat) (e : TypeId) (i : TypeInfo) (z : Value) (size bytes : Nat) (ht : P.underlying t = some (.slice e)) (hi : P.info? e = some i) (hz : i.zero = some z)
    (hsize : i.size = size) (hby : i.bytes = bytes) (hzs : z.cells.size = size) (hsz : 0 < size)
    (v : Value) (n : Nat) (xs : List Value) (hs : a.eval s = v) (hown : w.ownsRow base e size v n xs)
    (ad : Addr) (m c : Nat) (news : List Value) (hx : a.eval x = .slice (some ad) m c) (hl : news.length = m * size) (hnews : ∀ j u, news[j]? = some u → w.cell? (ad.add j) = some u) (h1 : ∀ u ∈ news, u.oneCell' = true)
    (h63 : n + m ≤ maxLen) (hbytes : (n + m) * bytes ≤ 140737488355328) (hbase : base ≤ w.heap.size)
    (K : ∀ v' w', w'.ownsRow base e size v' (n + m) (xs ++ news) → w.grownBy w' v.ownBlock → (v'.ownBlock = v.ownBlock ∨ v'.ownBlock = some w.heap.size) → S w' ∧ ∀ K : Act → Prop, (∀ a, wpOrd P ops Q S R r a w' → K a) → K (a.put o.dst v')) :
    wpOrd P ops Q S R ((k, true) :: r) a w := by
  obtain ⟨v', w', hr, h2, h3, _, h5⟩ := run_append_own_at (P := P) w base t o.type e i z size bytes ht hi hz hsize hby hzs hsz v n xs hown ad m c news hl hnews h1 h63 hbytes hbase
  show wpOp P ops (NoPanic Q) k _ a w
  unfold wpOp
  simp only [ho]
  rw [if_pos hw]
  refine .inl ?_
  unfold Oper.wp execOp
  simp only [hop, resolve, invoke, builtin, Sem.run_bind, Sem.run_pure, Result.andThen_ok, List.map_toArray, List.map_cons, List.map_nil, hs, hx, hr]
  obtain ⟨k1, k2⟩ := K v' w' h2 h3 h5
  exact ⟨k1, k2 _ fun _ h => h⟩

end Go.Proofs.Ytjlijflfepffiaa

/-
  The walk of the system of bits, the program's.
  (-DROP-: what the seat lacks is left out.)
-/
namespace Go.Proofs.Ytjlijflfepffiaa
open Go.RowKit

def hotL (k : Nat) : List Int := zls (hotF k) 11
def powL (b : Int) : List Int := zls (powF b 8) 11
/-- The lists of a row. -/
def rowLs (k : Nat) : List (List Int) := if k < 8 then [hotL (3 + k), hotL (3 + k), hotL (3 + k)] else if k = 8 then [hotL 0, powL 2, hotL 1] else [hotL 0, powL 1, hotL 2]
/-- The lists of so many rows. -/
def csN : Nat → List (List Int)
  | 0 => []
  | k + 1 => csN k ++ rowLs k
theorem rowLs_len (k : Nat) : (rowLs k).length = 3 := by
  unfold rowLs
  split
  · rfl
  · split <;> rfl
theorem csN_len : ∀ k, (csN k).length = k * 3
  | 0 => rfl
  | k + 1 => by rw [csN, List.length_append, csN_len k, rowLs_len]; omega

/-- A row of three lists in blocks of their own. -/
def RowOf (w0 w : World) (g0 g1 g2 : Nat) (ls : List (List Int)) : Prop := ∃ f0 f1 f2, ls = [zls f0 11, zls f1 11, zls f2 11] ∧ Three w0 w g0 g1 g2 f0 f1 f2

theorem nown_nil (sz e lo hi : Nat) (w : World) : NOwnV sz e lo hi w (.slice none 0 0) 0 [] [] := ⟨World.ownsRow_nil _ _ _ _, by simp, fun k hk => (by cases hk), fun j hj => (by omega), fun i j k h1 => (by omega), fun j k h1 => (by omega)⟩
theorem RowOf.alloc {w0 w : World} {g0 g1 g2 : Nat} {ls : List (List Int)} (h : RowOf w0 w g0 g1 g2 ls) (o : Obj) : RowOf w0 (w.alloc o) g0 g1 g2 ls := by
  obtain ⟨f0, f1, f2, e, p0, p1, p2, q0, q1, q2, r0, r1, r2⟩ := h
  exact ⟨f0, f1, f2, e, p0, p1, p2, q0, q1, q2, Blk.alloc r0 o, Blk.alloc r1 o, Blk.alloc r2 o⟩

/-- The three cells of a row. -/
def us3 (g0 g1 g2 : Nat) : List Value := [.slice (some ⟨g0, 0, none⟩) 11 11, .slice (some ⟨g1, 0, none⟩) 11 11, .slice (some ⟨g2, 0, none⟩) 11 11]
theorem us3_one (g0 g1 g2 : Nat) : ∀ u ∈ us3 g0 g1 g2, u.oneCell' = true := by
  intro u hu
  simp only [us3, List.mem_cons, List.not_mem_nil, or_false] at hu
  rcases hu with rfl | rfl | rfl <;> rfl
theorem zown11 {w : World} {g lo hi : Nat} {f : Nat → Int} (h : RowI w g 11 f) (hlo : lo ≤ g) (hhi : g < hi) : ZOwn lo hi w (.slice (some ⟨g, 0, none⟩) 11 11) (zls f 11) := by
  refine ⟨h.rowZ hlo (by omega), fun k hk => ?_⟩
  have e1 : some g = some k := hk
  injection e1 with e1
  omega
/-- A row is put behind. -/
theorem NOwnV.app3 {e lo hi n : Nat} {w0 w w' : World} {v v' : Value} {vs : List Value} {ls ns : List (List Int)} {g0 g1 g2 : Nat} (h : NOwnV 3 e lo hi w v n vs ls) (hr : w'.ownsRow lo e 3 v' (n + 1) (vs ++ us3 g0 g1 g2)) (hg : w.grownBy w' v.ownBlock) (hv : v'.ownBlock = v.ownBlock ∨ v'.ownBlock = some w.heap.size) (hq : RowOf w0 w g0 g1 g2 ns) (h0 : hi ≤ w0.heap.size) (hw : w0.heap.size ≤ w.heap.size) (hlo : lo ≤ hi) :
    NOwnV 3 e lo w'.heap.size w' v' (n + 1) (vs ++ us3 g0 g1 g2) (ls ++ ns) := by
  obtain ⟨f0, f1, f2, rfl, p0, p1, p2, q0, q1, q2, r0, r1, r2⟩ := hq
  refine h.app hr hg hv rfl (fun j hj => ?_) (fun i j k hi hj hij h1 h2 => ?_) (by omega) hlo hg.size (fun k hk => (hr.lt k hk).2)
  · have hj3 : j = 0 ∨ j = 1 ∨ j = 2 := by omega
    rcases hj3 with rfl | rfl | rfl
    · exact zown11 r0 (by omega) r0.lt
    · exact zown11 r1 (by omega) r1.lt
    · exact zown11 r2 (by omega) r2.lt
  · have hi3 : i = 0 ∨ i = 1 ∨ i = 2 := by omega
    have hj3 : j = 0 ∨ j = 1 ∨ j = 2 := by omega
    rcases hi3 with rfl | rfl | rfl <;> rcases hj3 with rfl | rfl | rfl <;> first | exact absurd rfl hij | (have e1 := Option.some.inj (show some _ = some _ from h1); have e2 := Option.some.inj (show some _ = some _ from h2); dsimp only at e1 e2; omega)

end Go.Proofs.Ytjlijflfepffiaa

/-
  Loads and stores of one cell, as laws that a walk is told.
-/
namespace Go.Proofs.Ytjlijflfepffiaa
open Go.RowKit

/-- What a load yields, what a store leaves: shut, so that a law that does not fit fails at once. -/
structure LoadsTo (P : Program) (t : TypeId) (ad : Addr) (u : Value) (w : World) : Prop where
  run : (Instr.loadAt t (.pointer (some ad))).run P w = .ok u w
structure StoresTo (P : Program) (t : TypeId) (ad : Addr) (u : Value) (w w1 : World) : Prop where
  run : (Instr.storeAt t (.pointer (some ad)) u).run P w = .ok () w1
theorem load_at {P : Program} {w : World} {ops : Array Oper} {rest : List Oper} {o : Oper} {a : Act} {Q : Exit → Act → World → Prop} (hg : o.guard = none) {t : TypeId} {p : Operand} (hop : o.op = Op.load t p)
    {ad : Addr} {u : Value} (hp : a.eval p = .pointer (some ad)) (hl : LoadsTo P t ad u w)
    (K : wpList P ops Q rest (a.put o.dst u) w) : wpList P ops Q (o :: rest) a w := by
  have hrun := hl.run
  refine wpList_plain hg fun K' hK' => ?_
  unfold Oper.wp
  simp [execOp, hop, hp, hrun, Result.andThen]
  exact hK' _ _ K
theorem store_at {P : Program} {w w1 : World} {ops : Array Oper} {rest : List Oper} {o : Oper} {a : Act} {Q : Exit → Act → World → Prop} (hg : o.guard = none) (hd : o.dst = none) {t : TypeId} {p v : Operand} (hop : o.op = Op.store t p v)
    {ad : Addr} {u : Value} (hp : a.eval p = .pointer (some ad)) (hv : a.eval v = u) (hs : StoresTo P t ad u w w1)
    (K : wpList P ops Q rest a w1) : wpList P ops Q (o :: rest) a w := by
  have hrun := hs.run
  refine wpList_plain hg fun K' hK' => ?_
  unfold Oper.wp
  simp [execOp, hop, hp, hv, hrun, Result.andThen]
  refine hK' _ _ ?_
  rw [show a.put o.dst undef = a by rw [hd]; rfl]
  exact K

theorem load3 {W : World} {g i : Nat} {u : Value} (h : W.cell? ⟨g, i, none⟩ = some u) : LoadsTo Try.prog 3 ⟨g, i, none⟩ u W := by
  constructor
  go_simp

theorem store3 {W : World} {g i : Nat} {u : Value} {x : Int} (h : W.cell? ⟨g, i, none⟩ = some u) (hf : W.frozen? ⟨g, i, none⟩ = false) : StoresTo Try.prog 3 ⟨g, i, none⟩ (.int .i64 x) W (W.setCell ⟨g, i, none⟩ (.int .i64 x)) := by
  constructor
  go_simp

theorem loadZs {W : World} {g i : Nat} {u : Value} (h : W.cell? ⟨g, i, none⟩ = some u) : LoadsTo Try.prog 27 ⟨g, i, none⟩ u W := by
  constructor
  go_simp

theorem storeZs {W : World} {g i : Nat} {u : Value} {a : Option Addr} {n c : Nat} (h : W.cell? ⟨g, i, none⟩ = some u) (hf : W.frozen? ⟨g, i, none⟩ = false) : StoresTo Try.prog 27 ⟨g, i, none⟩ (.slice a n c) W (W.setCell ⟨g, i, none⟩ (.slice a n c)) := by
  constructor
  go_simp

theorem loadRs {W : World} {g i : Nat} {u : Value} (h : W.cell? ⟨g, i, none⟩ = some u) : LoadsTo Try.prog 24 ⟨g, i, none⟩ u W := by
  constructor
  go_simp

theorem storeRs {W : World} {g i : Nat} {u : Value} {a : Option Addr} {n c : Nat} (h : W.cell? ⟨g, i, none⟩ = some u) (hf : W.frozen? ⟨g, i, none⟩ = false) : StoresTo Try.prog 24 ⟨g, i, none⟩ (.slice a n c) W (W.setCell ⟨g, i, none⟩ (.slice a n c)) := by
  constructor
  go_simp

end Go.Proofs.Ytjlijflfepffiaa
