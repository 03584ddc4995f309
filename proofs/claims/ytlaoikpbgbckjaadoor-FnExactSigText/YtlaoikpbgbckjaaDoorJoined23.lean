/-
  Texts of one's own, joined.
-/
import Derived.Test.YtlaoikpbgbckjaaDoorShelf
import Derived.WalkKit
import Derived.Below
import Derived.Test.YtlaoikpbgbckjaaDoorJoined16
import Derived.Laws.AppendOwn
import Derived.Test.YtlaoikpbgbckjaaDoorOrd
import Derived.Maps.AppendAt

/-
  The walk of strings.Clone.
-/
namespace Go.Proofs.YtlaoikpbgbckjaaDoor
open Go.RowKit

set_option maxRecDepth 100000 in
theorem clone_any (s : ByteArray) (w : World) (hs : s.size ≤ 281474976710656) :
    Calls Tryd.prog 48 #[.string s] w fun e w' => e = .returned (.string s) ∧ Below w.heap.size w w' := by
  go_enter Tryd.func48, Tryd.ntmps48
  go_wp2_with fail
  refine (Tryd.stringslite_Clone s _ (by omega)).mono ?_
  rintro e w1 ⟨rfl, hb⟩
  go_wp2
  go_ret
  exact ⟨rfl, hb⟩

end Go.Proofs.YtlaoikpbgbckjaaDoor

/-
  Rows that are owned, carried from world to world.
-/
namespace Go.Proofs.YtlaoikpbgbckjaaDoor
open Go.RowKit

theorem owns_on {w w' : World} {B e sz n : Nat} {v : Value} {xs : List Value} (h : w.ownsRow B e sz v n xs) (hb : Below w.heap.size w w') : w'.ownsRow B e sz v n xs := by
  refine ⟨h.1, ?_⟩
  rcases h.2 with h0 | ⟨g, cap, cur, hv, hB, hg, rest⟩
  · exact .inl h0
  · exact .inr ⟨g, cap, cur, hv, hB, (hb.block g (Array.getElem?_eq_some_iff.1 hg).1).trans hg, rest⟩

theorem owns_other {w w' : World} {B e sz n g : Nat} {v : Value} {xs : List Value} (h : w.ownsRow B e sz v n xs) (hoth : ∀ g' t cs, g ≠ g' → Blk w g' t cs → Blk w' g' t cs) (hg : g < B) : w'.ownsRow B e sz v n xs := by
  refine ⟨h.1, ?_⟩
  rcases h.2 with h0 | ⟨g1, cap, cur, hv, hB, hb, rest⟩
  · exact .inl h0
  · exact .inr ⟨g1, cap, cur, hv, hB, hoth g1 e cur (by omega) hb, rest⟩

theorem owns_apart {w w' : World} {B e sz n g : Nat} {v : Value} {xs : List Value} (h : w.ownsRow B e sz v n xs) (hoth : ∀ g' t cs, g ≠ g' → Blk w g' t cs → Blk w' g' t cs) (hg : v.ownBlock ≠ some g) : w'.ownsRow B e sz v n xs := by
  refine ⟨h.1, ?_⟩
  rcases h.2 with h0 | ⟨g1, cap, cur, hv, hB, hb, rest⟩
  · exact .inl h0
  · refine .inr ⟨g1, cap, cur, hv, hB, hoth g1 e cur (fun e => hg ?_) hb, rest⟩
    rw [hv, e]
    rfl

end Go.Proofs.YtlaoikpbgbckjaaDoor

/-
  An append in a region that draws its order.
-/
namespace Go.Proofs.YtlaoikpbgbckjaaDoor
open Go.RowKit

theorem ord_append {P : Program} {ops : Array Oper} {S : World → Prop} {Q : Exit → Act → World → Prop} {R : Act → World → Prop} {k : Nat} {r : List (Nat × Bool)} {a : Act} {w : World} {o : Oper} (ho : ops[k]? = some o) (hw : Region.wanted o (yielded ops a.tmps) = true) (s x : Operand) (t : TypeId)
    (hop : o.op = .call { callee := .builtin .append, args := #[s, x], argTypes := #[t, t] })
    (base : Nat) (e : TypeId) (i : TypeInfo) (z : Value) (size bytes : Nat) (ht : P.underlying t = some (.slice e)) (hi : P.info? e = some i) (hz : i.zero = some z)
    (hsize : i.size = size) (hby : i.bytes = bytes) (hzs : z.cells.size = size) (hsz : 0 < size)
    (v : Value) (n : Nat) (xs : List Value) (hs : a.eval s = v) (hown : w.ownsRow base e size v n xs)
    (ad : Addr) (m c : Nat) (news : List Value) (hx : a.eval x = .slice (some ad) m c) (hl : news.length = m * size) (hnews : ∀ j u, news[j]? = some u → w.cell? (ad.add j) = some u) (h1 : ∀ u ∈ news, u.oneCell' = true)
    (h63 : n + m ≤ maxLen) (hbytes : (n + m) * bytes ≤ 140737488355328) (hbase : base ≤ w.heap.size)
    (K : ∀ v' w', w'.ownsRow base e size v' (n + m) (xs ++ news) → w.grownBy w' v.ownBlock → (v'.ownBlock = v.ownBlock ∨ v'.ownBlock = some w.heap.size) → S w' ∧ ∀ K : Act → Prop, (∀ a, wpOrd P ops Q S R r a w' → K a) → K (a.put o.dst v')) :
    wpOrd P ops Q S R ((k, true) :: r) a w := by
  obtain ⟨v', w', hr, h2, h3, _, h5⟩ := run_append_own_at (P := P) w base t o.type e i z size bytes ht hi hz hsize hby hzs hsz v n xs hown ad m c news hl hnews h1 h63 hbytes hbase
  show wpOp P ops (NoPanic Q) k _ a w
  unfold wpOp
  simp only [ho]
  rw [if_pos hw]
  refine .inl ?_
  unfold Oper.wp execOp
  simp only [hop, resolve, invoke, builtin, Sem.run_bind, Sem.run_pure, Result.andThen_ok, List.map_toArray, List.map_cons, List.map_nil, hs, hx, hr]
  obtain ⟨k1, k2⟩ := K v' w' h2 h3 h5
  exact ⟨k1, k2 _ fun _ h => h⟩

end Go.Proofs.YtlaoikpbgbckjaaDoor
