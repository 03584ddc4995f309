/-
  A range over a function whose yields are told in the world: a round's body walked as code elsewhere is, and the law of the statement
  where the function that is ranged over says what it hands on.
-/
import Derived.RangeFuncNested
import Derived.OrdersIn
import Derived.Shelf.Abstract
import Derived.Test.YthnahalboomkoaaGreatJoined3

namespace Go.Proofs.YthnahalboomkoaaGreat
open Go.RowKit

section
variable {P : Program}

theorem rows_in {m : Nat} {row : String} {args : Array Value} {w : World} {R : Value → World → Prop} (h : Rows P row args w R) : RowsIn Fence.wide m P row args w R :=
  fun c cs _ => let ⟨v, w', r, s⟩ := h c cs; ⟨v, w', r, stepsIn_wide.2 s⟩

/-- An operation in a round, of its walk elsewhere. -/
theorem op_in (l m : Nat) {o : Oper} (hd : ∀ c, o.op ≠ .defer c) {a : Act} {w : World} {K : Act → World → Prop} {Q : Exit → Act → World → Prop} (hq : ¬ LetsOut Q)
    (h : o.wp P a w K Q ∨ (o.asks P a w ∧ LetsOut Q)) : o.wpIn (Fence.wide.inRound l) m P a w K Q := by
  have h1 : o.wp P a w K Q := h.resolve_right fun k => hq k.2
  refine ⟨fun _ _ => trivial, ?_⟩
  rw [show (Fence.wide.inRound l).round = some l from rfl, Oper.semAt_some l _ _ hd]
  unfold Oper.wp at h1
  generalize (execOp a.eval o).run P w = r at h1 ⊢
  cases r with
  | ok x w' =>
    cases x with
    | enter f args => exact ⟨(fun k => by cases k), CallsIn.inRound l (callsIn_wide.2 h1)⟩
    | row row args => exact ⟨(fun k => by cases k), rows_in h1⟩
    | value v => exact h1
    | skip => exact h1
    | defer d => exact h1
    | _ => exact h1.elim
  | halt x w' =>
    cases x with
    | panic v => exact h1
    | _ => exact h1.elim

/-- No operation is a defer statement. -/
def noDefer (o : Oper) : Bool := match o.op with | .defer _ => false | _ => true
theorem noDefer_spec {o : Oper} (h : noDefer o = true) (c : Call) : o.op ≠ .defer c := fun e => by unfold noDefer at h; rw [e] at h; cases h

theorem list_in (l m : Nat) {ops : Array Oper} {Q : Exit → Act → World → Prop} (hq : ¬ LetsOut Q) : ∀ (ls : List Oper) (a : Act) (w : World), ls.all noDefer = true → wpList P ops Q ls a w → wpListIn (Fence.wide.inRound l) m P ops Q ls a w
  | [], _, _, _, h => h
  | o :: rest, a, w, hd, h => by
    simp only [List.all_cons, Bool.and_eq_true] at hd
    unfold wpList at h
    unfold wpListIn
    split
    · rename_i hw
      rw [if_pos hw] at h
      exact Oper.wpIn_mono (fun a w k => list_in l m hq rest a w hd.2 k) (op_in l m (noDefer_spec hd.1) hq h)
    · rename_i hw
      rw [if_neg hw] at h
      exact ⟨fun _ _ => trivial, list_in l m hq rest _ w hd.2 h⟩

theorem any_in (l m : Nat) {md : Region.Mode} {ops : Array Oper} {Q : Exit → Act → World → Prop} (hq : ¬ LetsOut Q) (hd : ∀ (i : Nat) (o : Oper), ops[i]? = some o → noDefer o = true) :
    ∀ (fuel : Nat) (listed : Array Bool) (a : Act) (w : World), wpAny P md ops Q fuel listed a w → wpAnyIn (Fence.wide.inRound l) m P md ops Q fuel listed a w
  | 0, _, _, _, h => h
  | fuel + 1, listed, a, w, h => by
    refine ⟨h.1, fun i hi => ?_⟩
    have h1 := h.2 i hi
    unfold wpOp at h1
    unfold wpOpIn
    split
    · rename_i ho
      simp only [ho] at h1
      exact any_in l m hq hd fuel _ _ _ h1
    · rename_i o ho
      simp only [ho] at h1
      split
      · rename_i hw
        rw [if_pos hw] at h1
        exact Oper.wpIn_mono (fun a w k => any_in l m hq hd fuel _ a w k) (op_in l m (noDefer_spec (hd i o ho)) hq h1)
      · rename_i hw
        rw [if_neg hw] at h1
        exact ⟨fun _ _ => trivial, any_in l m hq hd fuel _ _ _ h1⟩

/-- A region in a round, of its walk elsewhere. -/
theorem rnd_list {l m id : Nat} {ls : List Oper} {Q : Exit → Act → World → Prop} {a : Act} {w : World} (hd : ls.all noDefer = true) (hq : ¬ LetsOut Q) (h : wpList P ls.toArray Q ls a w) :
    (Code.region id ls.toArray false).wpIn (Fence.wide.inRound l) m P Q a w := wpIn_region_lit (list_in l m hq ls a w hd h)

/-- A region in a round that draws its order: the law of the class. -/
theorem rnd_class {l m id : Nat} {ls : List Oper} {Q : Exit → Act → World → Prop} {a : Act} {w : World} (n : Nat) (C : World → Prop) (hd : ls.all noDefer = true) (hq : ¬ LetsOut Q) (hm : P.follows .mixedOrders = true) (hB : Region.clsB ls.toArray n = true) (hC : C w.drew)
    (hq0 : WQ P ls.toArray C (fun a' => ∀ w', C w' → wpList P ls.toArray Q (ls.drop n) a' w') (ls.take n) a) : (Code.region id ls.toArray true).wpIn (Fence.wide.inRound l) m P Q a w := by
  have h := hq0.out
  have hB' := hB
  simp only [Region.clsB, Bool.and_eq_true, decide_eq_true_eq] at hB'
  obtain ⟨⟨⟨⟨⟨⟨hsel, hn⟩, hs⟩, hc⟩, hh⟩, he⟩, hq'⟩ := hB'
  have hn' : n < ls.length := by simpa using hn
  have htl : (ls.take n).length = n := by simp; omega
  have hdl : (ls.drop n).length = ls.toArray.size - n := by simp
  obtain ⟨v, _, hv, hR⟩ := values_of_walk (P := P) (ops := ls.toArray) (C := C) (a := a) n (ls.take n) 0 (fun _ => undef) (by simpa using htl) (fun j hj => by
    have hj' : j < n := by rw [htl] at hj; exact hj
    simp [hj']) h
  have inv0 : HeadInv .any ls.toArray n (Array.replicate ls.toArray.size false) :=
    ⟨by simp, fun j oj _ hl => (by rw [getD_replicate_false] at hl; cases hl), fun t _ ht => getD_in (by simpa using ht) (getD_replicate_false _ _)⟩
  have hl0 : leftOf (Array.replicate ls.toArray.size false) n = n := by
    unfold leftOf
    rw [List.countP_eq_length.2 (fun i _ => by rw [getD_replicate_false]; rfl), List.length_range]
  have H := any_of_values (P := P) (C := C) (Q := Q) (a := a) hB (fun i o hi ho => hv i o (Nat.zero_le _) hi ho) (fun w' hw' => by
    have := wpAny_of_seq (md := .any) (Q' := Q) (ls.drop n) n (headDone ls.toArray n) _ w' (fun j => by simp [List.getElem?_drop]) (by rw [hdl]; exact hq') (hR w' hw')
    rwa [hdl] at this) n (Array.replicate ls.toArray.size false) w.drew hl0 inv0 hC
  rw [show n + (ls.toArray.size - n) = ls.toArray.size by omega, putSt_congr (S := fun j => (Array.replicate ls.toArray.size false).getD j false) (T := fun _ => false) n (fun j _ => getD_replicate_false _ _)] at H
  have hnone : ∀ k, putSt ls.toArray v a (fun _ => false) k = a := by
    intro k
    induction k with
    | zero => rfl
    | succ k ih => simp only [putSt, Bool.false_eq_true, if_false]; exact ih
  rw [hnone] at H
  refine wpIn_region_any hm (any_in l m hq (fun i o ho => ?_) _ _ _ _ H)
  have hi : ls[i]? = some o := by simpa using ho
  exact List.all_eq_true.1 hd o (List.mem_of_getElem? hi)

/-- All blocks but these are as they were. -/
def Kep (S : Nat → Prop) (w w' : World) : Prop := w.heap.size ≤ w'.heap.size ∧ ∀ k, k < w.heap.size → ¬ S k → w'.heap[k]? = w.heap[k]?
theorem Kep.refl (S : Nat → Prop) (w : World) : Kep S w w := ⟨Nat.le_refl _, fun _ _ _ => rfl⟩
theorem Kep.trans {S T U : Nat → Prop} {a b c : World} (h : Kep S a b) (k : Kep T b c) (hS : ∀ x, S x → U x) (hT : ∀ x, T x → U x) : Kep U a c :=
  ⟨Nat.le_trans h.1 k.1, fun i hi hu => (k.2 i (Nat.lt_of_lt_of_le hi h.1) fun t => hu (hT i t)).trans (h.2 i hi fun s => hu (hS i s))⟩
theorem Kep.below {S : Nat → Prop} {a b : World} (h : Below a.heap.size a b) : Kep S a b := ⟨h.size, fun k hk _ => h.block k hk⟩
theorem Kep.put {w : World} {l : Nat} (o : Obj) : Kep (fun k => k = l) w (w.putObj l o) := ⟨by simp, fun _ _ hk => World.putObj_heap_other hk⟩
theorem Kep.blk {S : Nat → Prop} {w w' : World} (h : Kep S w w') {g : Nat} {t : TypeId} {cs : Array Value} (hb : Blk w g t cs) (hS : ¬ S g) : Blk w' g t cs := (h.2 g hb.lt hS).trans hb

/-- One block alone may have turned; the streams are as they were. -/
structure Kpt (g : Nat) (w w' : World) : Prop where
  tape : w.tape = w'.tape
  os : w.os = w'.os
  output : w.output = w'.output
  kep : Kep (fun k => k = g) w w'
theorem Kpt.refl (g : Nat) (w : World) : Kpt g w w := ⟨rfl, rfl, rfl, Kep.refl _ _⟩
theorem Kpt.trans {g : Nat} {a b c : World} (h : Kpt g a b) (k : Kpt g b c) : Kpt g a c := ⟨h.tape.trans k.tape, h.os.trans k.os, h.output.trans k.output, h.kep.trans k.kep (fun _ h => h) (fun _ h => h)⟩
theorem Kpt.below {g : Nat} {a b : World} (h : Below a.heap.size a b) : Kpt g a b := ⟨h.tape.symm, h.os.symm, h.output.symm, .below h⟩
theorem Kpt.blk {g : Nat} {w w' : World} (h : Kpt g w w') {k : Nat} {t : TypeId} {cs : Array Value} (hb : Blk w k t cs) (hk : k ≠ g) : Blk w' k t cs := h.kep.blk hb hk
theorem Kpt.bel {g B : Nat} {w0 w w' : World} (h : Kpt g w w') (hb : Below B w0 w) (hB : B ≤ g) (hs : B ≤ w.heap.size) : Below B w0 w' :=
  ⟨h.os ▸ hb.os, h.tape ▸ hb.tape, h.output ▸ hb.output, Nat.le_trans hb.size h.kep.1, fun k hk => (h.kep.2 k (by omega) (by omega)).trans (hb.block k hk)⟩

/-- A whole struct into its block: no other block turns. -/
theorem store_kpt {w : World} {ops : Array Oper} {rest : List Oper} {o : Oper} {a : Act} {Q : Exit → Act → World → Prop} (hg : o.guard = none) (hd : o.dst = none) {t : TypeId} {p v : Operand} (hop : o.op = Op.store t p v)
    {g : Nat} {t' : TypeId} {cs cs' : Array Value} (hp : a.eval p = .pointer (some ⟨g, 0, none⟩)) (hv : a.eval v = .agg cs') (h : Blk w g t' cs) (hi : (P.info? t).map (·.size) = some cs'.size) (ho : cs.size = cs'.size) (h1 : cs'.all (·.oneCell') = true)
    (K : ∀ w', Blk w' g t' cs' → Kpt g w w' → wpList P ops Q rest a w') : wpList P ops Q (o :: rest) a w := by
  refine wpList_plain hg fun K' hK' => ?_
  have hrun : (Instr.storeAt t (.pointer (some ⟨g, 0, none⟩)) (.agg cs')).run P w = .ok () (w.setRow g cs') := by
    simp only [Instr.storeAt, Instr.sureAddr, Sem.run_bind, Sem.run_pure, Result.andThen]
    exact h.store hi ho h1
  unfold Oper.wp
  simp [execOp, hop, hp, hv, hrun, Result.andThen]
  refine hK' _ _ ?_
  rw [show a.put o.dst undef = a by rw [hd]; rfl]
  refine K _ (h.row cs') ⟨rfl, rfl, rfl, ⟨by simp [World.setRow], fun k _ hk => ?_⟩⟩
  simp only [World.setRow]
  rw [Array.getElem?_modify, if_neg (fun e => hk e.symm)]

/-- **The law.** The function that is ranged over knows what it hands on (G); it is told that blocks of the type t stay as they are. -/
theorem range_told {σ α : Type} {g : Operand} {ps : Array Tmp} {assign body : Code} {Q : Exit → Act → World → Prop} {a : Act} {w : World} {n : Nat}
    {gf : Nat} {lb : Array Value} (hg : a.eval g = .func (.func gf) lb #[]) (eg : ∀ args w, (callFunc gf args).run P w = .ok (.enter gf args) w)
    (encs : α → Array Value) (hps : ∀ x, (encs x).size = ps.size) (G : α → World → Prop) (nx : σ → α → σ) (s0 s1 : σ) (t : TypeId) (gp : Nat) (hgp : gp < w.heap.size)
    (J : σ → World → Prop) (hJ : ∀ s W W', J s W → W.tape = W'.tape → W.os = W'.os → W.output = W'.output → Kep (fun k => k = w.heap.size ∨ k = w.heap.size + 1) W W' → J s W') (hgt : ∀ s W, J s W → ∃ t' cs, t' ≠ t ∧ Blk W gp t' cs) (h0 : J s0 w)
    (hit : ∀ (l : Nat) (W : World) (Jt : σ → World → Prop), (∀ s W W', Jt s W → Below W.heap.size W W' → Jt s W') →
      (∀ s x W, Jt s W → G x W → YieldAt Fence.wide (n - 1 - 1) P l (encs x) W fun e W' => e = .returned (.bool true) ∧ Jt (nx s x) W' ∧ ∀ b cs, Blk W b t cs → Blk W' b t cs) →
      Jt s0 W → Below w.heap.size w W → CallsIn Fence.wide (n - 1) P gf (lb ++ #[.func (.yield l) #[] #[]]) W fun e W' => (∃ v, e = .returned v) ∧ Jt s1 W')
    (hround : ∀ (l : Nat) (s : σ) (x : α) (W : World), l = w.heap.size + 1 → J s W → G x W →
      assign.wpIn (Fence.wide.inRound l) (n - 1 - 1) P (Exit.then (fun a₁ W₁ => Below W.heap.size W W₁ ∧ ∀ W₂, J s W₂ → (∀ b t cs, Blk W₁ b t cs → Blk W₂ b t cs) →
        body.wpIn (Fence.wide.inRound l) (n - 1 - 1) P (fun e _ W₃ => e = .normal ∧ W₂.tape = W₃.tape ∧ W₂.os = W₃.os ∧ W₂.output = W₃.output ∧ Kep (fun k => k = gp) W₂ W₃ ∧ J (nx s x) W₃) a₁ W₂) (fun _ _ _ => False))
        { tmps := (ps.zip (encs x)).foldl (fun t (p, v) => t.setIfInBounds p v) a.tmps, defers := [] } W)
    (hdone : ∀ (D : Nat) (W : World), w.heap.size ≤ D → J s1 W → W.heap[D]? = some (.deferred (some [])) → Q .normal { a with defers := { target := .collected D, args := #[] } :: a.defers } W) :
    (Code.rangeFunc g ps assign body).wpIn Fence.wide n P Q a w := by
  refine wpIn_rangeFunc ?_
  intro fn hfn
  rw [show Fence.wide.round = none from rfl]
  obtain ⟨rec, hrec⟩ : ∃ rec : LoopState → Loop, rec = fun st => { state := st, pending := none, fn, tmps := a.tmps, params := ps, assign, body, defers := w.heap.size } := ⟨_, rfl⟩
  obtain ⟨W1, hW1⟩ : ∃ W1, (w.alloc (.deferred (some []))).alloc (.loop (rec .ready)) = W1 := ⟨_, rfl⟩
  have hL1 : W1.heap[w.heap.size + 1]? = some (.loop (rec .ready)) := by
    rw [← hW1]
    have := World.alloc_heap_new (w.alloc (.deferred (some []))) (.loop (rec .ready))
    rwa [World.size_alloc] at this
  have hK1 : W1.heap[w.heap.size]? = some (.deferred (some [])) := by
    rw [← hW1]
    exact (Below.heap_alloc _ _ _ (by simp)).trans (World.alloc_heap_new w _)
  have hB1 : Below w.heap.size w W1 := by
    rw [← hW1]
    exact ((Below.refl _ w).alloc (Nat.le_refl _) _).alloc (by simp) _
  have hJ1 : J s0 W1 := hJ s0 w W1 h0 hB1.tape.symm hB1.os.symm hB1.output.symm (.below hB1)
  refine ⟨w.heap.size + 1, [{ target := .collected w.heap.size, args := #[] }], W1, { target := .fn (.func gf) #[], args := lb ++ #[.func (.yield (w.heap.size + 1)) #[] #[]] }, W1, gf,
    lb ++ #[.func (.yield (w.heap.size + 1)) #[] #[]], W1, ?_, ?_, fun _ _ => trivial, ?_, (fun k => by cases k), ?_⟩
  · rw [← hW1, hrec]
    exact run_enterLoop_outer _ _ _ _ _
  · simp only [resolve, hg]
    simp [go_sem]
  · simp [invoke, go_sem, eg]
  · refine (hit (w.heap.size + 1) W1 (fun s W => J s W ∧ W.heap[w.heap.size + 1]? = some (.loop (rec .ready)) ∧ W.heap[w.heap.size]? = some (.deferred (some []))) ?_ ?_ ⟨hJ1, hL1, hK1⟩ hB1).mono ?_
    · rintro s W W' ⟨h1, h2, h3⟩ hb
      have lt2 := (Array.getElem?_eq_some_iff.1 h2).1
      exact ⟨hJ s W W' h1 hb.tape.symm hb.os.symm hb.output.symm (.below hb), (hb.block _ lt2).trans h2, (hb.block _ (by omega)).trans h3⟩
    · rintro s x W ⟨hj, hl, hk⟩ hx
      have hlt : w.heap.size + 1 < W.heap.size := (Array.getElem?_eq_some_iff.1 hl).1
      have hy := run_yield (P := P) (args := encs x) hl (by rw [hrec]; exact hps x)
      rw [hrec] at hy
      refine ⟨fn, _, assign, body, hy, roundIn_of_wpIn hfn (wpIn_mono (hround _ s x W rfl hj hx) ?_)⟩
      clear hy
      rintro e a₁ W₁ hp
      cases e with
      | normal =>
        obtain ⟨hb1, hbody⟩ := hp
        have hl1 : W₁.heap[w.heap.size + 1]? = some (.loop (rec .ready)) := (hb1.block _ hlt).trans hl
        have hk1 : W₁.heap[w.heap.size]? = some (.deferred (some [])) := (hb1.block _ (by omega)).trans hk
        refine ⟨_, run_beginRound hl1 (by rw [hrec]), ?_⟩
        obtain ⟨o2, ho2⟩ : ∃ o2, Obj.loop { rec .ready with state := .busy } = o2 := ⟨_, rfl⟩
        rw [ho2]
        have hlt1 : w.heap.size + 1 < W₁.heap.size := Nat.lt_of_lt_of_le hlt hb1.size
        have hl2 : (W₁.putObj (w.heap.size + 1) o2).heap[w.heap.size + 1]? = some o2 := World.putObj_heap_same hlt1
        have hk2 : (W₁.putObj (w.heap.size + 1) o2).heap[w.heap.size]? = some (.deferred (some [])) := (World.putObj_heap_other (by omega)).trans hk1
        have hkep : Kep (fun k => k = w.heap.size + 1) W₁ (W₁.putObj (w.heap.size + 1) o2) := Kep.put o2
        have hj1 : J s W₁ := hJ s W W₁ hj hb1.tape.symm hb1.os.symm hb1.output.symm (.below hb1)
        have hj2 : J s (W₁.putObj (w.heap.size + 1) o2) := hJ s W₁ _ hj1 rfl rfl rfl (hkep.trans (Kep.refl (fun _ => False) _) (fun _ h => .inr h) (fun _ h => h.elim))
        have hblk : ∀ b t cs, Blk W₁ b t cs → Blk (W₁.putObj (w.heap.size + 1) o2) b t cs := fun b t cs hb => hkep.blk hb (fun e => by
          subst e
          have := hb.symm.trans hl1
          cases this)
        refine wpIn_mono (hbody _ hj2 hblk) ?_
        generalize W₁.putObj (w.heap.size + 1) o2 = W₂ at hl2 hk2 hkep hj2 hblk
        rintro e a3 W3 ⟨rfl, ht, hos, hou, hk3, hj3⟩
        have hl3 : W3.heap[w.heap.size + 1]? = some o2 := (hk3.2 _ (Array.getElem?_eq_some_iff.1 hl2).1 (by omega)).trans hl2
        have hkk3 : W3.heap[w.heap.size]? = some (.deferred (some [])) := (hk3.2 _ (Array.getElem?_eq_some_iff.1 hk2).1 (by omega)).trans hk2
        rw [← ho2] at hl3
        have hend := run_endRound (P := P) none hl3
        refine ⟨_, _, hend, rfl, ⟨?_, ?_, ?_⟩, ?_⟩
        · exact hJ _ W3 _ hj3 rfl rfl rfl ((Kep.put _).trans (Kep.refl (fun _ => False) _) (fun _ h => .inr h) (fun _ h => h.elim))
        · rw [World.putObj_heap_same (Array.getElem?_eq_some_iff.1 hl3).1, hrec]
          rfl
        · exact (World.putObj_heap_other (by omega)).trans hkk3
        · intro b cs hb
          obtain ⟨t', cs', hne, hgb⟩ := hgt s W hj
          have hb2 : Blk W₁ b t cs := hb.on hb1 hb.lt
          have hb3 : Blk W3 b t cs := hk3.blk (hblk _ _ _ hb2) (fun e => by
            subst e
            have := hb.symm.trans hgb
            cases this
            exact hne rfl)
          exact (Kep.put _).blk hb3 (fun e => by
            subst e
            have := hb3.symm.trans hl3
            cases this)
      | exit id => exact hp.elim
      | goto t => exact hp.elim
      | ret => exact hp.elim
      | panic ch => exact hp.elim
      | outgrown => exact hp.elim
    · rintro e W2 ⟨⟨v, rfl⟩, hj, hl, hk⟩
      have hend := run_endLoop (P := P) hl (by rw [hrec]; simp)
      rw [show (rec .ready).pending = none by rw [hrec]] at hend
      refine ⟨none, _, hend, ?_⟩
      exact hdone _ _ (Nat.le_refl _) (hJ _ W2 _ hj rfl rfl rfl ((Kep.put _).trans (Kep.refl (fun _ => False) _) (fun _ h => .inr h) (fun _ h => h.elim))) ((World.putObj_heap_other (by omega)).trans hk)

end

end Go.Proofs.YthnahalboomkoaaGreat
