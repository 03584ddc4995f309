/-
  Texts of one's own, joined.
-/
import Derived.Test.YtmpjnabadplbjaaProg
import Derived.WalkKit
import Derived.WalkLawsBesides
import Derived.WalkSpells
import Derived.Deep.WholeRow
import Derived.Below
import Derived.BigRegion
import Derived.ChangeKeysEq
import Derived.Laws.CopyOwn
import Derived.StillTailTactics
import Derived.Test.YtmpjnabadplbjaaClsA
import Derived.Deep.RegionHeld3
import Derived.Test.YtmpjnabadplbjaaJoined1

/-
  Blocks that hold a struct, and how they are carried from world to world.
-/
namespace Go.Proofs.Ytmpjnabadplbjaa
open Go.RowKit

theorem mixes : Try.prog.follows .mixedOrders = true := by kernel_rfl

theorem Blk.lt {w : World} {g : Nat} {t : TypeId} {cs : Array Value} (h : Blk w g t cs) : g < w.heap.size := (Array.getElem?_eq_some_iff.1 h).1
theorem Blk.cell {w : World} {g : Nat} {t : TypeId} {cs : Array Value} (h : Blk w g t cs) (i : Nat) : w.cell? ⟨g, i, none⟩ = cs[i]? := cell_of_row _ _ i _ _ _ h
theorem Blk.free {w : World} {g : Nat} {t : TypeId} {cs : Array Value} (h : Blk w g t cs) (i : Nat) : w.frozen? ⟨g, i, none⟩ = false := by
  unfold World.frozen?
  rw [h]
  simp
theorem Blk.new (w : World) (t : TypeId) (cs : Array Value) : Blk (w.alloc (.cells cs t)) w.heap.size t cs := heap_alloc_last w _
theorem Blk.newAt {w : World} {t : TypeId} {g : Nat} {cs : Array Value} (hg : g = w.heap.size) : Blk (w.alloc (.cells cs t)) g t cs := by
  subst hg; exact Blk.new w t cs
theorem Blk.alloc {w : World} {g : Nat} {t : TypeId} {cs : Array Value} (h : Blk w g t cs) (o : Obj) : Blk (w.alloc o) g t cs := by
  have := h.lt
  show (w.heap.push o)[g]? = _
  rw [Array.getElem?_push, if_neg (by omega)]
  exact h
theorem Blk.drew {w : World} {g : Nat} {t : TypeId} {cs : Array Value} (h : Blk w g t cs) : Blk w.drew g t cs := h
theorem Blk.on {w w1 : World} {c g : Nat} {t : TypeId} {cs : Array Value} (h : Blk w g t cs) (hb : Below c w w1) (hc : g < c) : Blk w1 g t cs := (hb.block g hc).trans h
theorem Blk.set {w : World} {g : Nat} {t : TypeId} {cs : Array Value} (h : Blk w g t cs) (i : Nat) (v : Value) : Blk (w.setCell ⟨g, i, none⟩ v) g t (cs.setIfInBounds i v) := by
  have := h
  unfold Blk at this ⊢
  simp only [World.setCell]
  rw [Array.getElem?_modify, if_pos rfl, this]
  rfl
theorem Blk.other {w : World} {g g' i : Nat} {t : TypeId} {cs : Array Value} (h : Blk w g t cs) (hne : g' ≠ g) (v : Value) : Blk (w.setCell ⟨g', i, none⟩ v) g t cs := by
  unfold Blk at h ⊢
  simp only [World.setCell]
  rw [Array.getElem?_modify, if_neg hne, h]

/-- What a callee leaves that makes blocks of its own alone. -/
theorem calls_below {P : Program} {f : FuncId} {args : Array Value} {w0 w : World} {v : Value} (hw : Below w0.heap.size w0 w) (h : Calls P f args w fun e w' => e = .returned v ∧ Below w.heap.size w w') :
    Calls P f args w fun e w' => e = .returned v ∧ Below w0.heap.size w0 w' := h.mono fun _ _ ⟨h1, h2⟩ => ⟨h1, hw.trans (h2.mono hw.size)⟩
theorem calls_same {P : Program} {f : FuncId} {args : Array Value} {w0 w : World} {v : Value} (hw : Below w0.heap.size w0 w) (h : Calls P f args w fun e w' => e = .returned v ∧ w = w') :
    Calls P f args w fun e w' => e = .returned v ∧ Below w0.heap.size w0 w' := h.mono fun _ _ ⟨h1, h2⟩ => ⟨h1, h2 ▸ hw⟩

theorem bel_same {P : Program} {f : FuncId} {args : Array Value} {w : World} {v : Value} (h : Calls P f args w fun e w' => e = .returned v ∧ w = w') :
    Calls P f args w fun e w' => e = .returned v ∧ Below w.heap.size w w' := h.mono fun _ _ ⟨h1, h2⟩ => ⟨h1, h2 ▸ Below.refl _ _⟩

/-- A whole struct out of its block. -/
theorem Blk.load {P : Program} {w : World} {g : Nat} {t ty : TypeId} {cs : Array Value} {fs : Array Field} (h : Blk w g t cs) (hu : P.underlying ty = some (.struct fs)) (hi : (P.info? ty).map (·.size) = some cs.size) :
    (loadVar ty ⟨g, 0, none⟩).run P w = .ok (.agg cs) w := by
  have hc := run_loadCells_list (P := P) w ⟨g, 0, none⟩ cs.toList (fun j v hv => by
    have hadd : (⟨g, 0, none⟩ : Addr).add j = ⟨g, j, none⟩ := by unfold Addr.add; split <;> simp_all
    rw [hadd, h.cell j]
    simpa using hv)
  cases hq : P.info? ty with
  | none => simp [hq] at hi
  | some i =>
    have hs : i.size = cs.size := by simp [hq] at hi; omega
    have hc' : (loadCells ⟨g, 0, none⟩ cs.size).run P w = .ok cs w := by simpa using hc
    simp [loadVar, isAgg, underlying, hu, sizeOf, typeInfo, hq, hs, hc', Result.andThen]

/-- A whole struct into its block. -/
theorem Blk.store {P : Program} {w : World} {g : Nat} {t ty : TypeId} {cs cs' : Array Value} (h : Blk w g t cs) (hi : (P.info? ty).map (·.size) = some cs'.size) (ho : cs.size = cs'.size) (h1 : cs'.all (·.oneCell') = true) :
    (storeVar ty ⟨g, 0, none⟩ (.agg cs')).run P w = .ok () (w.setRow g cs') := run_storeVar_row w g t ty cs cs' h hi ho h1

theorem Blk.row {w : World} {g : Nat} {t : TypeId} {cs : Array Value} (h : Blk w g t cs) (cs' : Array Value) : Blk (w.setRow g cs') g t cs' := by
  unfold Blk at h ⊢
  simp only [World.setRow]
  rw [Array.getElem?_modify, if_pos rfl, h]
  rfl
theorem Blk.rowOther {w : World} {g g' : Nat} {t : TypeId} {cs : Array Value} (h : Blk w g t cs) (hne : g' ≠ g) (cs' : Array Value) : Blk (w.setRow g' cs') g t cs := by
  unfold Blk at h ⊢
  simp only [World.setRow]
  rw [Array.getElem?_modify, if_neg hne, h]

/-- A result that lives in a block. -/
theorem result_blk {P : Program} {fn : Func} {p : Tmp} {ty t : TypeId} {fs : Array Field} (h : fn.results = #[.cell p ty]) {tmps : Array Value} {w : World} {g : Nat} {cs : Array Value} (hp : tmps.getD p undef = .pointer (some ⟨g, 0, none⟩))
    (hA : Blk w g t cs) (hu : P.underlying ty = some (.struct fs)) (hi : (P.info? ty).map (·.size) = some cs.size) : (results fn tmps).run P w = .ok (.agg cs) w := by
  have hl := hA.load hu hi
  have hp' : tmps[p]?.getD undef = .pointer (some ⟨g, 0, none⟩) := by simpa using hp
  simp [results, h, hp', asAddr, hl]

/-- A whole struct out of its block. -/
theorem load_blk {P : Program} {w : World} {ops : Array Oper} {rest : List Oper} {o : Oper} {a : Act} {Q : Exit → Act → World → Prop} (hg : o.guard = none) {t : TypeId} {p : Operand} (hop : o.op = Op.load t p)
    {g : Nat} {t' : TypeId} {cs : Array Value} {fs : Array Field} (hp : a.eval p = .pointer (some ⟨g, 0, none⟩)) (h : Blk w g t' cs) (hu : P.underlying t = some (.struct fs)) (hi : (P.info? t).map (·.size) = some cs.size)
    (K : wpList P ops Q rest (a.put o.dst (.agg cs)) w) : wpList P ops Q (o :: rest) a w := by
  refine wpList_plain hg fun K' hK' => ?_
  have hrun : (Instr.loadAt t (.pointer (some ⟨g, 0, none⟩))).run P w = .ok (.agg cs) w := by
    simp only [Instr.loadAt, Instr.sureAddr, Sem.run_bind, Sem.run_pure, Result.andThen]
    exact h.load hu hi
  unfold Oper.wp
  simp [execOp, hop, hp, hrun, Result.andThen]
  exact hK' _ _ K
/-- A whole struct into its block, the world behind it under a new name. -/
theorem store_blk {P : Program} {w : World} {ops : Array Oper} {rest : List Oper} {o : Oper} {a : Act} {Q : Exit → Act → World → Prop} (hg : o.guard = none) (hd : o.dst = none) {t : TypeId} {p v : Operand} (hop : o.op = Op.store t p v)
    {g : Nat} {t' : TypeId} {cs cs' : Array Value} (hp : a.eval p = .pointer (some ⟨g, 0, none⟩)) (hv : a.eval v = .agg cs') (h : Blk w g t' cs) (hi : (P.info? t).map (·.size) = some cs'.size) (ho : cs.size = cs'.size) (h1 : cs'.all (·.oneCell') = true)
    (K : ∀ w', Blk w' g t' cs' → (∀ g' t'' cs'', g ≠ g' → Blk w g' t'' cs'' → Blk w' g' t'' cs'') → (∀ B w0, B ≤ g → Below B w0 w → Below B w0 w') → wpList P ops Q rest a w') : wpList P ops Q (o :: rest) a w := by
  refine wpList_plain hg fun K' hK' => ?_
  have hrun : (Instr.storeAt t (.pointer (some ⟨g, 0, none⟩)) (.agg cs')).run P w = .ok () (w.setRow g cs') := by
    simp only [Instr.storeAt, Instr.sureAddr, Sem.run_bind, Sem.run_pure, Result.andThen]
    exact h.store hi ho h1
  unfold Oper.wp
  simp [execOp, hop, hp, hv, hrun, Result.andThen]
  refine hK' _ _ ?_
  rw [show a.put o.dst undef = a by rw [hd]; rfl]
  exact (K _ (h.row cs') (fun g' t'' cs'' hne h' => h'.rowOther hne _) (fun _ _ hB hb => below_setRow hb hB _))

/-- What a call leaves, behind another. -/
theorem below_then {w0 w w' : World} (h : Below w0.heap.size w0 w) (h' : Below w.heap.size w w') : Below w0.heap.size w0 w' := h.trans (h'.mono h.size)
/-- A new block. -/
theorem box1 (w : World) (t : TypeId) (c : Array Value) : ∃ W, w.alloc (.cells c t) = W ∧ Below w.heap.size w W ∧ Blk W w.heap.size t c :=
  ⟨_, rfl, (Below.refl _ _).alloc (Nat.le_refl _) _, Blk.new w t c⟩

/-- One parameter in a block of its own, and the result's. -/
theorem boxes1r (w : World) (t1 tr : TypeId) (c1 cr : Array Value) : ∃ W, (w.alloc (.cells c1 t1)).alloc (.cells cr tr) = W ∧ Below w.heap.size w W ∧ Blk W w.heap.size t1 c1 ∧ Blk W (w.heap.size + 1) tr cr :=
  ⟨_, rfl, ((Below.refl _ _).alloc (Nat.le_refl _) _).alloc (by simp) _, (Blk.new w t1 c1).alloc _, Blk.newAt (by simp)⟩
/-- Two parameters in blocks of their own, and the result's. -/
theorem boxes2r (w : World) (t1 t2 tr : TypeId) (c1 c2 cr : Array Value) : ∃ W, ((w.alloc (.cells c1 t1)).alloc (.cells c2 t2)).alloc (.cells cr tr) = W ∧ Below w.heap.size w W ∧ Blk W w.heap.size t1 c1 ∧ Blk W (w.heap.size + 1) t2 c2 ∧ Blk W (w.heap.size + 1 + 1) tr cr :=
  ⟨_, rfl, (((Below.refl _ _).alloc (Nat.le_refl _) _).alloc (by simp) _).alloc (by simp; omega) _, ((Blk.new w t1 c1).alloc _).alloc _, (Blk.newAt (by simp)).alloc _, Blk.newAt (by simp)⟩

end Go.Proofs.Ytmpjnabadplbjaa

/-
  Items: trees of texts, with a bound of their depth.
-/
namespace Go.Proofs.Ytmpjnabadplbjaa
open Go.RowKit

/-- An item of at most so many levels: whether it is a list, its text, its kids. -/
def It : Nat → Type
  | 0 => Empty
  | d + 1 => Bool × ByteArray × List (It d)
def itL {d : Nat} (x : It (d + 1)) : Bool := x.1
def itT {d : Nat} (x : It (d + 1)) : ByteArray := x.2.1
def itK {d : Nat} (x : It (d + 1)) : List (It d) := x.2.2
/-- Kids of no level: there are none. -/
theorem no_kids (K : List (It 0)) : K = [] := by
  cases K with
  | nil => rfl
  | cons x t => exact x.elim

/-- A value of the program's. -/
def itV (l : Bool) (t : ByteArray) (v : Value) : Value := .agg #[.bool l, .string t, v]
/-- The kid at this place of a list lies in memory below c. -/
def Kid (w : World) (c : Nat) (a : Option Addr) (j : Nat) (l : Bool) (t : ByteArray) (u : Value) : Prop :=
  ∃ b off, a = some ⟨b, off, none⟩ ∧ b < c ∧ w.cell? ⟨b, off + j * 3, none⟩ = some (.bool l) ∧ w.cell? ⟨b, off + j * 3 + 1, none⟩ = some (.string t) ∧ w.cell? ⟨b, off + j * 3 + 2, none⟩ = some u
theorem Kid.on {w w1 : World} {c : Nat} {a : Option Addr} {j : Nat} {l : Bool} {t : ByteArray} {u : Value} (h : Kid w c a j l t u) (hb : Below c w w1) : Kid w1 c a j l t u := by
  obtain ⟨b, off, h1, h2, h3, h4, h5⟩ := h
  exact ⟨b, off, h1, h2, (hb.cell (p := ⟨b, off + j * 3, none⟩) h2).trans h3, (hb.cell (p := ⟨b, off + j * 3 + 1, none⟩) h2).trans h4, (hb.cell (p := ⟨b, off + j * 3 + 2, none⟩) h2).trans h5⟩
theorem Kid.wide {w : World} {c e : Nat} {a : Option Addr} {j : Nat} {l : Bool} {t : ByteArray} {u : Value} (h : Kid w c a j l t u) (he : c ≤ e) : Kid w e a j l t u := by
  obtain ⟨b, off, h1, h2, h3⟩ := h
  exact ⟨b, off, h1, by omega, h3⟩
/-- Kids in memory below c, with all that they hold. -/
def KAt : (d : Nat) → World → Nat → Value → List (It d) → Prop
  | 0, _, _, v, K => ∃ a cp, v = .slice a K.length cp ∧ K.length ≤ 9223372036854775807
  | d + 1, w, c, v, K => ∃ a cp, v = .slice a K.length cp ∧ K.length ≤ 9223372036854775807 ∧ ∀ (j : Nat) (h : j < K.length), ∃ u, Kid w c a j (itL K[j]) (itT K[j]) u ∧ (itT K[j]).size ≤ 9223372036854775807 ∧ KAt d w c u (itK K[j])
theorem KAt.on : ∀ {d : Nat} {w w1 : World} {c : Nat} {v : Value} {K : List (It d)}, KAt d w c v K → Below c w w1 → KAt d w1 c v K
  | 0, _, _, _, _, _, h, _ => h
  | d + 1, _, _, _, _, _, ⟨a, cp, h1, h2, h3⟩, hb => ⟨a, cp, h1, h2, fun j hj => by
    obtain ⟨u, h4, h5, h6⟩ := h3 j hj
    exact ⟨u, h4.on hb, h5, KAt.on h6 hb⟩⟩
theorem KAt.wide : ∀ {d : Nat} {w : World} {c e : Nat} {v : Value} {K : List (It d)}, KAt d w c v K → c ≤ e → KAt d w e v K
  | 0, _, _, _, _, _, h, _ => h
  | d + 1, _, _, _, _, _, ⟨a, cp, h1, h2, h3⟩, he => ⟨a, cp, h1, h2, fun j hj => by
    obtain ⟨u, h4, h5, h6⟩ := h3 j hj
    exact ⟨u, h4.wide he, h5, KAt.wide h6 he⟩⟩

/-- Whether an item at this depth is right. -/
def okD : (d : Nat) → Nat → It d → Bool
  | 0, _, x => x.elim
  | d + 1, e, x => if itL x then decide (itT x = ⟨#[]⟩) && (decide ((itK x).length ≤ 17) && (decide (e < 4) && (itK x).all (okD d (e + 1)))) else decide ((itK x).length = 0) && decide ((itT x).size ≤ 600)
/-- What stands ahead of so many bytes. -/
def headB (n low : Nat) : ByteArray := if n ≤ 55 then ⟨#[UInt8.ofNat (low + n)]⟩ else ⟨#[UInt8.ofNat (low + 55 + (numT n).size)]⟩ ++ numT n
/-- Whether a text stands for itself. -/
def lone (t : ByteArray) : Bool := decide (t.size = 1) && decide ((t.get! 0).toNat < 128)
def catB (l : List ByteArray) : ByteArray := l.foldl (· ++ ·) ⟨#[]⟩
/-- The text of an item. -/
def textD : (d : Nat) → It d → ByteArray
  | 0, x => x.elim
  | d + 1, x => if itL x then headB (catB ((itK x).map (textD d))).size 192 ++ catB ((itK x).map (textD d)) else if lone (itT x) then itT x else headB (itT x).size 128 ++ itT x
/-- Whether two items are the same. -/
def sameD : (d e : Nat) → It d → It e → Bool
  | 0, _, x, _ => x.elim
  | _ + 1, 0, _, y => y.elim
  | d + 1, e + 1, x, y => decide (itL x = itL y) && (decide (itT x = itT y) && (decide ((itK x).length = (itK y).length) && ((itK x).zip (itK y)).all fun p => sameD d e p.1 p.2))

theorem catB_snoc (l : List ByteArray) (t : ByteArray) : catB (l ++ [t]) = catB l ++ t := by
  unfold catB
  rw [List.foldl_append]
  rfl
theorem allN_next {α : Type} (p : α → Bool) (l : List α) {k : Nat} (h : k < l.length) : (l.take (k + 1)).all p = ((l.take k).all p && p l[k]) := by
  rw [List.take_succ_eq_append_getElem h, List.all_append]
  simp
theorem allN_false {α : Type} (p : α → Bool) (l : List α) {k : Nat} (h : (l.take k).all p = false) : l.all p = false := by
  rw [List.all_eq_false] at h ⊢
  obtain ⟨x, hx, hp⟩ := h
  exact ⟨x, List.mem_of_mem_take hx, hp⟩

end Go.Proofs.Ytmpjnabadplbjaa
