/-
  Texts of one's own, joined.
-/
import Derived.Test.YtckhbflolccinaaJoined2
import Derived.Test.YtckhbflolccinaaBlk
import Derived.ProofKit

/-
  Blocks beside the cursor of a draw; results that live in blocks.
-/
namespace Go.Proofs.Ytckhbflolccinaa
open Go.RowKit

/-- A block that lies there is left alone by what grows the cursor. -/
theorem Blk.grown {w w' : World} {c g : Nat} {t : TypeId} {cs : Array Value} (h : Blk w g t cs) (hg : w.grownBy w' (some c)) (hne : g ≠ c) : Blk w' g t cs := (hg.block g h.lt (fun e => hne (Option.some.inj e))).trans h
/-- The cursor behind a store into a block of one's own. -/
theorem CurEnd.row {w w1 w2 : World} {c len cap g : Nat} {a : Option Addr} (h : CurEnd w w1 c a len cap) (hg : w.heap.size ≤ g) (hc : c < w.heap.size) (hoth : ∀ k, k ≠ g → w2.heap[k]? = w1.heap[k]?) (hb : ∀ B w0, B ≤ g → Below B w0 w1 → Below B w0 w2) : CurEnd w w2 c a len cap := by
  obtain ⟨i, hh, hi, hbk⟩ := h.cur
  have hbel := hb g w1 (Nat.le_refl _) (Below.refl _ _)
  refine ⟨⟨i, hh, hi, (hoth c (by omega)).trans hbk⟩, h.arg.on (hbel.mono (by omega)), ?_⟩
  refine ⟨hbel.os.trans h.grown.os, hbel.tape.trans h.grown.tape, hbel.output.trans h.grown.output, Nat.le_trans h.grown.size hbel.size, fun k hk hne => ?_⟩
  rw [hoth k (by omega)]
  exact h.grown.block k hk hne
theorem heap_setCell_ne (w : World) (g i k : Nat) (v : Value) (h : k ≠ g) : (w.setCell ⟨g, i, none⟩ v).heap[k]? = w.heap[k]? := Below.heap_setCell w ⟨g, i, none⟩ v k h
theorem CurEnd.cell {w w1 : World} {c len cap g i : Nat} {a : Option Addr} (h : CurEnd w w1 c a len cap) (hg : w.heap.size ≤ g) (hc : c < w.heap.size) (v : Value) : CurEnd w (w1.setCell ⟨g, i, none⟩ v) c a len cap :=
  h.row hg hc (fun k hk => heap_setCell_ne w1 g i k v hk) (fun _ _ hB hb => hb.setCell hB v)

/-- Two results that live in blocks. -/
theorem result_blk2 {P : Program} {fn : Func} {p q : Tmp} {ty ty' t t' : TypeId} {fs fs' : Array Field} (h : fn.results = #[.cell p ty, .cell q ty']) {tmps : Array Value} {w : World} {g g' : Nat} {cs cs' : Array Value} (hp : tmps.getD p undef = .pointer (some ⟨g, 0, none⟩)) (hq : tmps.getD q undef = .pointer (some ⟨g', 0, none⟩))
    (hA : Blk w g t cs) (hB : Blk w g' t' cs') (hu : P.underlying ty = some (.struct fs)) (hi : (P.info? ty).map (·.size) = some cs.size) (hu' : P.underlying ty' = some (.struct fs')) (hi' : (P.info? ty').map (·.size) = some cs'.size) : (results fn tmps).run P w = .ok (.tuple #[.agg cs, .agg cs']) w := by
  have hl := hA.load hu hi
  have hl' := hB.load hu' hi'
  have hp' : tmps[p]?.getD undef = .pointer (some ⟨g, 0, none⟩) := by simpa using hp
  have hq' : tmps[q]?.getD undef = .pointer (some ⟨g', 0, none⟩) := by simpa using hq
  simp [results, h, hp', hq', asAddr, hl, hl', Result.andThen]

/-- Three results that live in blocks. -/
theorem result_blk3 {P : Program} {fn : Func} {p q r : Tmp} {ty ty' ty'' t t' t'' : TypeId} {fs fs' fs'' : Array Field} (h : fn.results = #[.cell p ty, .cell q ty', .cell r ty'']) {tmps : Array Value} {w : World} {g g' g'' : Nat} {cs cs' cs'' : Array Value} (hp : tmps.getD p undef = .pointer (some ⟨g, 0, none⟩)) (hq : tmps.getD q undef = .pointer (some ⟨g', 0, none⟩)) (hr : tmps.getD r undef = .pointer (some ⟨g'', 0, none⟩))
    (hA : Blk w g t cs) (hB : Blk w g' t' cs') (hC : Blk w g'' t'' cs'') (hu : P.underlying ty = some (.struct fs)) (hi : (P.info? ty).map (·.size) = some cs.size) (hu' : P.underlying ty' = some (.struct fs')) (hi' : (P.info? ty').map (·.size) = some cs'.size) (hu'' : P.underlying ty'' = some (.struct fs'')) (hi'' : (P.info? ty'').map (·.size) = some cs''.size) : (results fn tmps).run P w = .ok (.tuple #[.agg cs, .agg cs', .agg cs'']) w := by
  have hl := hA.load hu hi
  have hl' := hB.load hu' hi'
  have hl'' := hC.load hu'' hi''
  have hp' : tmps[p]?.getD undef = .pointer (some ⟨g, 0, none⟩) := by simpa using hp
  have hq' : tmps[q]?.getD undef = .pointer (some ⟨g', 0, none⟩) := by simpa using hq
  have hr' : tmps[r]?.getD undef = .pointer (some ⟨g'', 0, none⟩) := by simpa using hr
  simp [results, h, hp', hq', hr', asAddr, hl, hl', hl'', Result.andThen]

/-- A result in a slot, and one that lives in a block. -/
theorem result_tmpB {P : Program} {fn : Func} {p q : Tmp} {ty t : TypeId} {fs : Array Field} (h : fn.results = #[.tmp q, .cell p ty]) {tmps : Array Value} {w : World} {g : Nat} {cs : Array Value} {v : Value} (hq : tmps.getD q undef = v) (hp : tmps.getD p undef = .pointer (some ⟨g, 0, none⟩))
    (hA : Blk w g t cs) (hu : P.underlying ty = some (.struct fs)) (hi : (P.info? ty).map (·.size) = some cs.size) : (results fn tmps).run P w = .ok (.tuple #[v, .agg cs]) w := by
  have hl := hA.load hu hi
  have hp' : tmps[p]?.getD undef = .pointer (some ⟨g, 0, none⟩) := by simpa using hp
  have hq' : tmps[q]?.getD undef = v := by simpa using hq
  simp [results, h, hp', hq', asAddr, hl, Result.andThen]

/-- The cursor behind a store of a whole struct into a block of one's own. -/
theorem CurEnd.store {w w1 w2 : World} {c len cap g : Nat} {a : Option Addr} (h : CurEnd w w1 c a len cap) (hg : w.heap.size ≤ g) (hc : c < w.heap.size) (hoth : ∀ g' t cs, g ≠ g' → Blk w1 g' t cs → Blk w2 g' t cs) (hb : ∀ B w0, B ≤ g → Below B w0 w1 → Below B w0 w2) : CurEnd w w2 c a len cap := by
  obtain ⟨i, hh, hi, hbk⟩ := h.cur
  have hbel := hb g w1 (Nat.le_refl _) (Below.refl _ _)
  refine ⟨⟨i, hh, hi, hoth c _ _ (by omega) hbk⟩, h.arg.on (hbel.mono (by omega)), ?_⟩
  refine ⟨hbel.os.trans h.grown.os, hbel.tape.trans h.grown.tape, hbel.output.trans h.grown.output, Nat.le_trans h.grown.size hbel.size, fun k hk hne => ?_⟩
  rw [hbel.block k (by omega)]
  exact h.grown.block k hk hne

theorem CurEnd.drew {w w1 : World} {c len cap : Nat} {a : Option Addr} (h : CurEnd w w1 c a len cap) : CurEnd w w1.drew c a len cap := ⟨h.cur, h.arg, grown_drew h.grown⟩

/-- The cursor behind a call that makes blocks of its own alone. -/
theorem CurEnd.below {w w1 w2 : World} {c len cap : Nat} {a : Option Addr} (h : CurEnd w w1 c a len cap) (hb : Below w1.heap.size w1 w2) : CurEnd w w2 c a len cap := by
  have hlt := h.cur.lt
  obtain ⟨i, hh, hi, hbk⟩ := h.cur
  refine ⟨⟨i, hh, hi, (hb.block c hlt).trans hbk⟩, h.arg.on (hb.mono (Nat.le_of_lt hlt)), ?_⟩
  refine ⟨hb.os.trans h.grown.os, hb.tape.trans h.grown.tape, hb.output.trans h.grown.output, Nat.le_trans h.grown.size hb.size, fun k hk hne => ?_⟩
  rw [hb.block k (Nat.lt_of_lt_of_le hk h.grown.size)]
  exact h.grown.block k hk hne

end Go.Proofs.Ytckhbflolccinaa

/-
  Numbers modulo 12107: plain mathematics.
-/
namespace Go.Proofs.Ytckhbflolccinaa

/-- A number modulo the field's size. -/
def fp (x : Int) : Int := x % 12107
theorem fp_nonneg (x : Int) : 0 ≤ fp x := Int.emod_nonneg _ (by decide)
theorem fp_lt (x : Int) : fp x < 12107 := Int.emod_lt_of_pos _ (by decide)
theorem fp_fp (x : Int) : fp (fp x) = fp x := Int.emod_emod_of_dvd _ (Int.dvd_refl _)
theorem fp_small {x : Int} (h : 0 ≤ x) (h' : x < 12107) : fp x = x := Int.emod_eq_of_lt h h'

/-- The rest that Go makes, and what is put to it below 0. -/
theorem tmod_neg_fp {n : Int} (h : Int.tmod n 12107 < 0) : Int.tmod n 12107 + 12107 = fp n := by
  unfold fp
  rcases Int.lt_or_le n 0 with hn | hn
  · have e : Int.tmod n 12107 = -((-n) % 12107) := by
      have := Int.neg_tmod (a := -n) (b := 12107)
      rw [Int.neg_neg] at this
      rw [this, Int.tmod_eq_emod_of_nonneg (by omega)]
    rw [e] at h ⊢
    omega
  · rw [Int.tmod_eq_emod_of_nonneg hn] at h
    omega

theorem tmod_nonneg_fp {n : Int} (h : ¬ Int.tmod n 12107 < 0) : Int.tmod n 12107 = fp n := by
  unfold fp
  rcases Int.lt_or_le n 0 with hn | hn
  · have e : Int.tmod n 12107 = -((-n) % 12107) := by
      have := Int.neg_tmod (a := -n) (b := 12107)
      rw [Int.neg_neg] at this
      rw [this, Int.tmod_eq_emod_of_nonneg (by omega)]
    rw [e] at h ⊢
    omega
  · rw [Int.tmod_eq_emod_of_nonneg hn]

theorem tmod_bounds (n : Int) : -12107 ≤ Int.tmod n 12107 ∧ Int.tmod n 12107 < 12107 := by
  by_cases h : Int.tmod n 12107 < 0
  · have := tmod_neg_fp h; have := fp_nonneg n; omega
  · have := tmod_nonneg_fp h; have := fp_lt n; omega

theorem tmod_fp {n : Int} (h : 0 ≤ n) : Int.tmod n 12107 = fp n := Int.tmod_eq_emod_of_nonneg h

def fpAdd (a b : Int) : Int := fp (fp a + fp b)
def fpSub (a b : Int) : Int := fp (fp a - fp b)
def fpMul (a b : Int) : Int := fp (fp a * fp b)

theorem fpAdd_eq (a b : Int) : fpAdd a b = fp (a + b) := by unfold fpAdd fp; simp
theorem fpSub_eq (a b : Int) : fpSub a b = fp (a - b) := by unfold fpSub fp; simp
theorem fpMul_eq (a b : Int) : fpMul a b = fp (a * b) := by unfold fpMul fp; simp [← Int.mul_emod]

theorem fp_put (a : Int) : fp (a + 12107) = fp a := by unfold fp; simp

theorem fp_add_fp (a b : Int) : fp (fp a + fp b) = fp (a + b) := fpAdd_eq a b
theorem fp_add_left (a b : Int) : fp (fp a + b) = fp (a + b) := by unfold fp; simp
theorem fp_add_right (a b : Int) : fp (a + fp b) = fp (a + b) := by unfold fp; simp
theorem fp_mul_left (a b : Int) : fp (fp a * b) = fp (a * b) := by unfold fp; simp [Int.mul_emod]
theorem fp_mul_right (a b : Int) : fp (a * fp b) = fp (a * b) := by unfold fp; simp [Int.mul_emod]

theorem prod_nonneg {a b : Int} (a0 : 0 ≤ a) (b0 : 0 ≤ b) : 0 ≤ a * b := Int.mul_nonneg a0 b0
theorem prod_le {a b : Int} (a0 : 0 ≤ a) (a1 : a < 12107) (b0 : 0 ≤ b) (b1 : b < 12107) : a * b ≤ 146555236 := by
  have := Int.mul_le_mul (show a ≤ 12106 by omega) (show b ≤ 12106 by omega) b0 (by decide)
  omega

/-- A number as one that is not below 0. -/
def nat (a : Int) : Nat := (fp a).toNat
theorem nat_lt (a : Int) : nat a < 12107 := by have := fp_lt a; have := fp_nonneg a; unfold nat; omega
theorem nat_cast (a : Int) : ((nat a : Nat) : Int) = fp a := by have := fp_nonneg a; unfold nat; omega

theorem nat_small {n : Nat} (h : n < 12107) : nat (n : Int) = n := by unfold nat; rw [fp_small (by omega) (by omega)]; simp

/-- A power. -/
def fpPow (a n : Int) : Int := if n < 0 then 0 else ((nat a ^ n.toNat % 12107 : Nat) : Int)

theorem fpPow_neg (a : Int) {n : Int} (h : n < 0) : fpPow a n = 0 := if_pos h
theorem fpPow_nat (a : Int) (n : Nat) : fpPow a (n : Int) = ((nat a ^ n % 12107 : Nat) : Int) := by unfold fpPow; rw [if_neg (by omega)]; simp
theorem fpPow_bounds (a n : Int) : 0 ≤ fpPow a n ∧ fpPow a n < 12107 := by
  unfold fpPow
  split
  · omega
  · have := Nat.mod_lt (nat a ^ n.toNat) (show 12107 > 0 by decide); omega

theorem mod_mul_mod (a b : Nat) : a % 12107 * b % 12107 = a * b % 12107 := by rw [Nat.mul_mod (a % 12107), Nat.mod_mod, ← Nat.mul_mod]
theorem mul_mod_mod (a b : Nat) : a * (b % 12107) % 12107 = a * b % 12107 := by rw [Nat.mul_comm, mod_mul_mod, Nat.mul_comm]
theorem pow_mod_mod (a n : Nat) : (a % 12107) ^ n % 12107 = a ^ n % 12107 := (Nat.pow_mod a n 12107).symm

/-- A round of the power's loop with an odd number. -/
theorem pow_odd (x b n : Nat) (h : n % 2 = 1) : (x * b % 12107) * (b * b % 12107) ^ (n / 2) % 12107 = x * b ^ n % 12107 := by
  rw [mod_mul_mod, ← mul_mod_mod, pow_mod_mod, mul_mod_mod]
  have e : b ^ n = b * (b * b) ^ (n / 2) := by
    rw [← Nat.pow_two, ← Nat.pow_mul, ← Nat.pow_succ']
    congr 1; omega
  rw [e, Nat.mul_assoc]

/-- A round of it with an even one. -/
theorem pow_even (x b n : Nat) (h : n % 2 = 0) : x * (b * b % 12107) ^ (n / 2) % 12107 = x * b ^ n % 12107 := by
  rw [← mul_mod_mod, pow_mod_mod, mul_mod_mod]
  have e : b ^ n = (b * b) ^ (n / 2) := by
    rw [← Nat.pow_two, ← Nat.pow_mul]
    congr 1; omega
  rw [e]

/-- The root of a number: a power of it, where its square is the number. -/
def rootX (a : Int) : Int := fpPow a 3027
def rootB (a : Int) : Bool := decide (fpMul (rootX a) (rootX a) = fp a)
def rootV (a : Int) : Int := if rootB a = true then (if fpSub 0 (rootX a) < rootX a then fpSub 0 (rootX a) else rootX a) else 0

/-- Whether a number is one of the field. -/
def fpOk (a : Int) : Bool := decide (0 ≤ a ∧ a < 12107)

end Go.Proofs.Ytckhbflolccinaa
