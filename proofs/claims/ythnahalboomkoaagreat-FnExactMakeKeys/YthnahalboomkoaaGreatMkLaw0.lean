/-
  A call of MakeKeys in a region that draws: what it answers, what the rest knows of it.
  (-DROP-: what the seat lacks is left out.)
-/
import Derived.Test.YthnahalboomkoaaGreatJoined22
import Derived.Test.YthnahalboomkoaaGreatJoined23

namespace Go.Proofs.YthnahalboomkoaaGreat
open Go.RowKit

theorem putMk5 {ops : Array Oper} (v : Nat → Value) (a : Act) (h : ops.size = 11) (h1 : dsOf ops 1 = some 23) (h3 : dsOf ops 3 = some 25) (h4 : dsOf ops 4 = some 26) (h5 : dsOf ops 5 = some 21) (h6 : dsOf ops 6 = some 27) (h7 : dsOf ops 7 = some 28) (h8 : dsOf ops 8 = some 6) (h9 : dsOf ops 9 = none) (h10 : dsOf ops 10 = some 7) : putSt ops v a (fun i => [1, 3, 4, 5, 6, 7, 8, 9, 10].contains i) ops.size = (((((((((a.put (some 23) (v 1)).put (some 25) (v 3)).put (some 26) (v 4)).put (some 21) (v 5)).put (some 27) (v 6)).put (some 28) (v 7)).put (some 6) (v 8)).put (none) (v 9)).put (some 7) (v 10)) := by
  rw [h]
  show (((((((((a.put (dsOf ops 1) (v 1)).put (dsOf ops 3) (v 3)).put (dsOf ops 4) (v 4)).put (dsOf ops 5) (v 5)).put (dsOf ops 6) (v 6)).put (dsOf ops 7) (v 7)).put (dsOf ops 8) (v 8)).put (dsOf ops 9) (v 9)).put (dsOf ops 10) (v 10)) = _
  rw [h1, h3, h4, h5, h6, h7, h8, h9, h10]

theorem putMk7 {ops : Array Oper} (v : Nat → Value) (a : Act) (h : ops.size = 10) (h2 : dsOf ops 2 = some 34) (h3 : dsOf ops 3 = some 35) (h4 : dsOf ops 4 = some 31) (h5 : dsOf ops 5 = some 36) (h6 : dsOf ops 6 = some 37) (h7 : dsOf ops 7 = some 9) (h8 : dsOf ops 8 = none) (h9 : dsOf ops 9 = some 10) : putSt ops v a (fun i => [2, 3, 4, 5, 6, 7, 8, 9].contains i) ops.size = ((((((((a.put (some 34) (v 2)).put (some 35) (v 3)).put (some 31) (v 4)).put (some 36) (v 5)).put (some 37) (v 6)).put (some 9) (v 7)).put (none) (v 8)).put (some 10) (v 9)) := by
  rw [h]
  show ((((((((a.put (dsOf ops 2) (v 2)).put (dsOf ops 3) (v 3)).put (dsOf ops 4) (v 4)).put (dsOf ops 5) (v 5)).put (dsOf ops 6) (v 6)).put (dsOf ops 7) (v 7)).put (dsOf ops 8) (v 8)).put (dsOf ops 9) (v 9)) = _
  rw [h2, h3, h4, h5, h6, h7, h8, h9]

theorem putMk24 {ops : Array Oper} (v : Nat → Value) (a : Act) (h : ops.size = 11) (h1 : dsOf ops 1 = some 81) (h3 : dsOf ops 3 = some 83) (h4 : dsOf ops 4 = some 84) (h5 : dsOf ops 5 = some 79) (h6 : dsOf ops 6 = some 85) (h7 : dsOf ops 7 = some 86) (h8 : dsOf ops 8 = some 14) (h9 : dsOf ops 9 = none) (h10 : dsOf ops 10 = some 15) : putSt ops v a (fun i => [1, 3, 4, 5, 6, 7, 8, 9, 10].contains i) ops.size = (((((((((a.put (some 81) (v 1)).put (some 83) (v 3)).put (some 84) (v 4)).put (some 79) (v 5)).put (some 85) (v 6)).put (some 86) (v 7)).put (some 14) (v 8)).put (none) (v 9)).put (some 15) (v 10)) := by
  rw [h]
  show (((((((((a.put (dsOf ops 1) (v 1)).put (dsOf ops 3) (v 3)).put (dsOf ops 4) (v 4)).put (dsOf ops 5) (v 5)).put (dsOf ops 6) (v 6)).put (dsOf ops 7) (v 7)).put (dsOf ops 8) (v 8)).put (dsOf ops 9) (v 9)).put (dsOf ops 10) (v 10)) = _
  rw [h1, h3, h4, h5, h6, h7, h8, h9, h10]

def kputMk5 : Nat → Nat := (fun i => match i with | 1 => 1 | 3 => 2 | 4 => 4 | 5 => 4 | 6 => 5 | 7 => 6 | 10 => 6 | _ => 0)
def kputMk7 : Nat → Nat := (fun i => match i with | 2 => 2 | 3 => 4 | 4 => 4 | 5 => 5 | 6 => 6 | 9 => 6 | _ => 0)
def kputMk24 : Nat → Nat := (fun i => match i with | 1 => 1 | 3 => 2 | 4 => 4 | 5 => 4 | 6 => 5 | 7 => 6 | 10 => 6 | _ => 0)
theorem first_noneM {L : Array Bool} {k : Nat → Nat} (h : ((List.range L.size).all fun i => !(L.getD i false) || decide (k i = 0)) = true) (i : Nat) (hi : L.getD i false = true) : k i = 0 := by
  rcases Nat.lt_or_ge i L.size with h1 | h1
  · have h2 := List.all_eq_true.1 h i (List.mem_range.2 h1)
    rw [hi] at h2
    simpa using h2
  · simp [Array.getElem?_eq_none h1] at hi
/-- A whole struct out of its block, under a guard that holds. -/
theorem load_blkG {P : Program} {w : World} {ops : Array Oper} {rest : List Oper} {o : Oper} {a : Act} {Q : Exit → Act → World → Prop} (hg : Region.wanted o (yielded ops a.tmps) = true) {t : TypeId} {p : Operand} (hop : o.op = Op.load t p)
    {g : Nat} {t' : TypeId} {cs : Array Value} {fs : Array Field} (hp : a.eval p = .pointer (some ⟨g, 0, none⟩)) (h : Blk w g t' cs) (hu : P.underlying t = some (.struct fs)) (hi : (P.info? t).map (·.size) = some cs.size)
    (K : wpList P ops Q rest (a.put o.dst (.agg cs)) w) : wpList P ops Q (o :: rest) a w := by
  have hrun : (Instr.loadAt t (.pointer (some ⟨g, 0, none⟩))).run P w = .ok (.agg cs) w := by
    simp only [Instr.loadAt, Instr.sureAddr, Sem.run_bind, Sem.run_pure, Result.andThen]
    exact h.load hu hi
  unfold wpList
  rw [if_pos hg]
  refine .inl ?_
  unfold Oper.wp
  simp [execOp, hop, hp, hrun, Result.andThen]
  exact K
/-- An answer of MakeKeys. -/
def IsMk (A B G D : Pt) (q : Bool) (nI nU nV nL nZ : Nat) (y : Value) : Prop := ∃ (aI : Option Addr) (cI : Nat) (aU : Option Addr) (cU : Nat) (aV : Option Addr) (cV : Nat) (aL : Option Addr) (cL : Nat) (aZ : Option Addr) (cZ : Nat), y = .tuple #[.agg #[.int .i64 A.1, .int .i64 A.2.1, .bool A.2.2, .int .i64 B.1, .int .i64 B.2.1, .bool B.2.2, .int .i64 G.1, .int .i64 G.2.1, .bool G.2.2, .int .i64 D.1, .int .i64 D.2.1, .bool D.2.2, .slice aI nI cI, .slice aU nU cU, .slice aV nV cV, .slice aL nL cL, .slice aZ nZ cZ], .bool q]
def partM (y : Value) : Array Value := match y with
  | .tuple a => match a.getD 0 undef with
    | .agg c => c
    | _ => #[]
  | _ => #[]
def rowM (y : Value) (i : Nat) : Value := (partM y).getD (offM i) undef
def mkVr (X : Value) (A B G D : Pt) (q : Bool) (nI nU nV nL nZ : Nat) (r : Nat) (x y : Value) : Prop := match r with
  | 2 => x = X
  | 4 => x = y ∧ IsMk A B G D q nI nU nV nL nZ x
  | 5 => x = .agg (partM y)
  | 6 => x = .bool q
  | _ => True
def mkMr (wi pu : Int) (n : Nat) (ls : List (List Int)) (r : Nat) (x : Value) (w : World) : Prop := match r with
  | 1 => ∃ g, x = .agg #[.int .i64 wi, .int .i64 pu, .slice (some ⟨g, 0, none⟩) n n] ∧ NAt 3 w w.heap.size (.slice (some ⟨g, 0, none⟩) n n) n ls
  | _ => True
theorem mkMr_on {wi pu : Int} {n : Nat} {ls : List (List Int)} {r : Nat} {x : Value} {w w' : World} (h : mkMr wi pu n ls r x w) (hb : Below w.heap.size w w') : mkMr wi pu n ls r x w' := by
  unfold mkMr at h ⊢
  split at h
  · obtain ⟨g, h1, h2⟩ := h
    exact ⟨g, h1, (h2.on hb).wide hb.size⟩
  · trivial
/-- The answer, and that its points lie there. -/
def MkA (base : Nat) (A B G D : Pt) (q : Bool) (nI nU nV nL nZ : Nat) (l : Nat → List Pt) (y : Value) (w : World) : Prop := ∃ (aI : Option Addr) (cI : Nat) (aU : Option Addr) (cU : Nat) (aV : Option Addr) (cV : Nat) (aL : Option Addr) (cL : Nat) (aZ : Option Addr) (cZ : Nat) (lo hi : Nat), y = .tuple #[.agg #[.int .i64 A.1, .int .i64 A.2.1, .bool A.2.2, .int .i64 B.1, .int .i64 B.2.1, .bool B.2.2, .int .i64 G.1, .int .i64 G.2.1, .bool G.2.2, .int .i64 D.1, .int .i64 D.2.1, .bool D.2.2, .slice aI nI cI, .slice aU nU cU, .slice aV nV cV, .slice aL nL cL, .slice aZ nZ cZ], .bool q] ∧ base ≤ lo ∧ hi ≤ w.heap.size ∧ MkO lo hi w (vec5 (.slice aU nU cU) (.slice aV nV cV) (.slice aI nI cI) (.slice aL nL cL) (.slice aZ nZ cZ)) l
/-- A block lies beside all that an answer holds. -/
def MkN (y : Value) (g : Nat) : Prop := (∀ i k, i < 5 → (rowM y i).ownBlock = some k → g < k) ∨ (∀ i k, i < 5 → (rowM y i).ownBlock = some k → k < g)
theorem rowM_at (A B G D : Pt) (q : Bool) (nI nU nV nL nZ : Nat) (aI : Option Addr) (cI : Nat) (aU : Option Addr) (cU : Nat) (aV : Option Addr) (cV : Nat) (aL : Option Addr) (cL : Nat) (aZ : Option Addr) (cZ : Nat) : ∀ i, i < 5 → rowM (.tuple #[.agg #[.int .i64 A.1, .int .i64 A.2.1, .bool A.2.2, .int .i64 B.1, .int .i64 B.2.1, .bool B.2.2, .int .i64 G.1, .int .i64 G.2.1, .bool G.2.2, .int .i64 D.1, .int .i64 D.2.1, .bool D.2.2, .slice aI nI cI, .slice aU nU cU, .slice aV nV cV, .slice aL nL cL, .slice aZ nZ cZ], .bool q]) i = ((vec5 (.slice aU nU cU) (.slice aV nV cV) (.slice aI nI cI) (.slice aL nL cL) (.slice aZ nZ cZ)) : Nat → Value) i := fun i hi => by
  match i, hi with
  | 0, _ => rfl
  | 1, _ => rfl
  | 2, _ => rfl
  | 3, _ => rfl
  | 4, _ => rfl
theorem mkA_on {base : Nat} {A B G D : Pt} {q : Bool} {nI nU nV nL nZ : Nat} {l : Nat → List Pt} {y : Value} {w w' : World} (h : MkA base A B G D q nI nU nV nL nZ l y w) (hb : Below w.heap.size w w') : MkA base A B G D q nI nU nV nL nZ l y w' := by
  obtain ⟨aI, cI, aU, cU, aV, cV, aL, cL, aZ, cZ, lo, hi, h1, h2, h3, h4⟩ := h
  exact ⟨aI, cI, aU, cU, aV, cV, aL, cL, aZ, cZ, lo, hi, h1, h2, Nat.le_trans h3 hb.size, h4.same (Same.of_below hb h3)⟩
theorem mkA_new {base : Nat} {A B G D : Pt} {q : Bool} {nI nU nV nL nZ : Nat} {l : Nat → List Pt} {y : Value} {w : World} (h : MkA base A B G D q nI nU nV nL nZ l y w) : MkN y w.heap.size := by
  obtain ⟨aI, cI, aU, cU, aV, cV, aL, cL, aZ, cZ, lo, hi, rfl, h2, h3, h4⟩ := h
  refine .inr fun i k hi5 hk => ?_
  rw [rowM_at A B G D q nI nU nV nL nZ aI cI aU cU aV cV aL cL aZ cZ i hi5] at hk
  have := h4.top i k hi5 hk
  omega
theorem mkA_put {base : Nat} {A B G D : Pt} {q : Bool} {nI nU nV nL nZ : Nat} {l : Nat → List Pt} {y : Value} {w : World} {g : Nat} {cs : Array Value} (h : MkA base A B G D q nI nU nV nL nZ l y w) (hN : MkN y g) : MkA base A B G D q nI nU nV nL nZ l y (w.setRow g cs) := by
  obtain ⟨aI, cI, aU, cU, aV, cV, aL, cL, aZ, cZ, lo, hi, rfl, h2, h3, h4⟩ := h
  have hK : Kps (fun b => b = g) w (w.setRow g cs) := ⟨rfl, rfl, rfl, by simp [World.setRow], fun k hk hne => by simp only [World.setRow]; rw [Array.getElem?_modify, if_neg (fun e => hne e.symm)]⟩
  refine ⟨aI, cI, aU, cU, aV, cV, aL, cL, aZ, cZ, lo, hi, rfl, h2, by simpa [World.setRow] using h3, ⟨fun i h5 => hK.row (h4.row i h5) fun k hk e => ?_, h4.top, h4.apart⟩⟩
  have hk2 : (rowM (.tuple #[.agg #[.int .i64 A.1, .int .i64 A.2.1, .bool A.2.2, .int .i64 B.1, .int .i64 B.2.1, .bool B.2.2, .int .i64 G.1, .int .i64 G.2.1, .bool G.2.2, .int .i64 D.1, .int .i64 D.2.1, .bool D.2.2, .slice aI nI cI, .slice aU nU cU, .slice aV nV cV, .slice aL nL cL, .slice aZ nZ cZ], .bool q]) i).ownBlock = some k := by rw [rowM_at A B G D q nI nU nV nL nZ aI cI aU cU aV cV aL cL aZ cZ i h5]; exact hk
  rcases hN with hN | hN
  · have := hN i k h5 hk2; omega
  · have := hN i k h5 hk2; omega
theorem owns_up {w : World} {B B' e sz n : Nat} {v : Value} {xs : List Value} (h : w.ownsRow B e sz v n xs) (hB : ∀ k, v.ownBlock = some k → B' ≤ k) : w.ownsRow B' e sz v n xs := by
  refine ⟨h.1, ?_⟩
  rcases h.2 with h0 | ⟨g, cap, cur, hve, hg, rest⟩
  · exact .inl h0
  · exact .inr ⟨g, cap, cur, hve, hB g (by rw [hve]; rfl), rest⟩
/-- All that an answer holds lies in blocks of which g is none. -/
theorem mkA_apart {base : Nat} {A B G D : Pt} {q : Bool} {nI nU nV nL nZ : Nat} {l : Nat → List Pt} {aI : Option Addr} {cI : Nat} {aU : Option Addr} {cU : Nat} {aV : Option Addr} {cV : Nat} {aL : Option Addr} {cL : Nat} {aZ : Option Addr} {cZ lo hi g : Nat} {w : World} (h2 : base ≤ lo) (h3 : hi ≤ w.heap.size) (h4 : MkO lo hi w (vec5 (.slice aU nU cU) (.slice aV nV cV) (.slice aI nI cI) (.slice aL nL cL) (.slice aZ nZ cZ)) l) (hN : MkN (.tuple #[.agg #[.int .i64 A.1, .int .i64 A.2.1, .bool A.2.2, .int .i64 B.1, .int .i64 B.2.1, .bool B.2.2, .int .i64 G.1, .int .i64 G.2.1, .bool G.2.2, .int .i64 D.1, .int .i64 D.2.1, .bool D.2.2, .slice aI nI cI, .slice aU nU cU, .slice aV nV cV, .slice aL nL cL, .slice aZ nZ cZ], .bool q]) g) (hg : g < w.heap.size) (hgb : base ≤ g) : ∃ lo' hi', base ≤ lo' ∧ hi' ≤ w.heap.size ∧ ¬ (lo' ≤ g ∧ g < hi') ∧ MkO lo' hi' w (vec5 (.slice aU nU cU) (.slice aV nV cV) (.slice aI nI cI) (.slice aL nL cL) (.slice aZ nZ cZ)) l := by
  have hrow : ∀ i k, i < 5 → (((vec5 (.slice aU nU cU) (.slice aV nV cV) (.slice aI nI cI) (.slice aL nL cL) (.slice aZ nZ cZ)) : Nat → Value) i).ownBlock = some k → (rowM (.tuple #[.agg #[.int .i64 A.1, .int .i64 A.2.1, .bool A.2.2, .int .i64 B.1, .int .i64 B.2.1, .bool B.2.2, .int .i64 G.1, .int .i64 G.2.1, .bool G.2.2, .int .i64 D.1, .int .i64 D.2.1, .bool D.2.2, .slice aI nI cI, .slice aU nU cU, .slice aV nV cV, .slice aL nL cL, .slice aZ nZ cZ], .bool q]) i).ownBlock = some k := fun i k h5 hk => by rw [rowM_at A B G D q nI nU nV nL nZ aI cI aU cU aV cV aL cL aZ cZ i h5]; exact hk
  rcases hN with hN | hN
  · exact ⟨g + 1, hi, by omega, h3, by omega, ⟨fun i h5 => owns_up (h4.row i h5) fun k hk => hN i k h5 (hrow i k h5 hk), h4.top, h4.apart⟩⟩
  · exact ⟨lo, g, h2, by omega, by omega, ⟨h4.row, fun i k h5 hk => hN i k h5 (hrow i k h5 hk), h4.apart⟩⟩
theorem mkG_A {base : Nat} {A B G D : Pt} {q : Bool} {nI nU nV nL nZ : Nat} {l : Nat → List Pt} {w w' : World} {e : Ending} (h : MkG A B G D q nI nU nV nL nZ l w e w') (hb : base ≤ w.heap.size) : ∃ y, e = .returned y ∧ IsMk A B G D q nI nU nV nL nZ y ∧ MkA base A B G D q nI nU nV nL nZ l y w' ∧ (∀ g, g < w.heap.size → MkN y g) ∧ Below w.heap.size w w' := by
  obtain ⟨aI, cI, aU, cU, aV, cV, aL, cL, aZ, cZ, rfl, hO, hbl⟩ := h
  refine ⟨_, rfl, ⟨aI, cI, aU, cU, aV, cV, aL, cL, aZ, cZ, rfl⟩, ⟨aI, cI, aU, cU, aV, cV, aL, cL, aZ, cZ, w.heap.size, w'.heap.size, rfl, hb, Nat.le_refl _, hO⟩, fun g hg => .inl fun i k h5 hk => ?_, hbl⟩
  rw [rowM_at A B G D q nI nU nV nL nZ aI cI aU cU aV cV aL cL aZ cZ i h5] at hk
  have := (hO.in i h5 k hk).1
  omega

end Go.Proofs.YthnahalboomkoaaGreat
