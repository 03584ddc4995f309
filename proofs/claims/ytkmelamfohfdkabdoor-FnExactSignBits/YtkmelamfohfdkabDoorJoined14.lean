/-
  Texts of one's own, joined.
-/
import Derived.ProofKit
import Derived.Test.YtkmelamfohfdkabDoorJoined10
import Derived.Test.YtkmelamfohfdkabDoorJoined13
import Derived.Test.YtkmelamfohfdkabDoorProg
import Derived.WalkKit
import Derived.Below
import Derived.StillTail
import Derived.StillTailTactics

/-
  Scalars, numbers modulo 1009: plain mathematics.
-/
namespace Go.Proofs.YtkmelamfohfdkabDoor

/-- A number modulo the size of the group. -/
def sca (x : Int) : Int := x % 1009
theorem sca_nonneg (x : Int) : 0 ≤ sca x := Int.emod_nonneg _ (by decide)
theorem sca_lt (x : Int) : sca x < 1009 := Int.emod_lt_of_pos _ (by decide)
theorem sca_sca (x : Int) : sca (sca x) = sca x := Int.emod_emod_of_dvd _ (Int.dvd_refl _)
theorem sca_small {x : Int} (h : 0 ≤ x) (h' : x < 1009) : sca x = x := Int.emod_eq_of_lt h h'

/-- The rest that Go makes, and what is put to it below 0. -/
theorem tmod_neg_sca {n : Int} (h : Int.tmod n 1009 < 0) : Int.tmod n 1009 + 1009 = sca n := by
  unfold sca
  rcases Int.lt_or_le n 0 with hn | hn
  · have e : Int.tmod n 1009 = -((-n) % 1009) := by
      have := Int.neg_tmod (a := -n) (b := 1009)
      rw [Int.neg_neg] at this
      rw [this, Int.tmod_eq_emod_of_nonneg (by omega)]
    rw [e] at h ⊢
    omega
  · rw [Int.tmod_eq_emod_of_nonneg hn] at h
    omega

theorem tmod_nonneg_sca {n : Int} (h : ¬ Int.tmod n 1009 < 0) : Int.tmod n 1009 = sca n := by
  unfold sca
  rcases Int.lt_or_le n 0 with hn | hn
  · have e : Int.tmod n 1009 = -((-n) % 1009) := by
      have := Int.neg_tmod (a := -n) (b := 1009)
      rw [Int.neg_neg] at this
      rw [this, Int.tmod_eq_emod_of_nonneg (by omega)]
    rw [e] at h ⊢
    omega
  · rw [Int.tmod_eq_emod_of_nonneg hn]

theorem tmod_bounds_sca (n : Int) : -1009 ≤ Int.tmod n 1009 ∧ Int.tmod n 1009 < 1009 := by
  by_cases h : Int.tmod n 1009 < 0
  · have := tmod_neg_sca h; have := sca_nonneg n; omega
  · have := tmod_nonneg_sca h; have := sca_lt n; omega

def scAdd (a b : Int) : Int := sca (sca a + sca b)
def scMul (a b : Int) : Int := sca (sca a * sca b)
def scNeg (a : Int) : Int := sca (-sca a)

theorem scAdd_eq (a b : Int) : scAdd a b = sca (a + b) := by unfold scAdd sca; simp
theorem scMul_eq (a b : Int) : scMul a b = sca (a * b) := by unfold scMul sca; simp [← Int.mul_emod]
theorem sca_neg_sca (a : Int) : sca (-sca a) = sca (-a) := by unfold sca; omega
theorem scNeg_eq (a : Int) : scNeg a = sca (-a) := sca_neg_sca a

theorem sca_add_sca (a b : Int) : sca (sca a + sca b) = sca (a + b) := scAdd_eq a b
theorem sca_add_left (a b : Int) : sca (sca a + b) = sca (a + b) := by unfold sca; simp
theorem sca_add_right (a b : Int) : sca (a + sca b) = sca (a + b) := by unfold sca; simp
theorem sca_mul_left (a b : Int) : sca (sca a * b) = sca (a * b) := by unfold sca; simp [Int.mul_emod]
theorem sca_mul_right (a b : Int) : sca (a * sca b) = sca (a * b) := by unfold sca; simp [Int.mul_emod]

theorem sca_prod (a b : Int) : 0 ≤ sca a * sca b ∧ sca a * sca b ≤ 1016064 := by
  have a0 := sca_nonneg a
  have a1 := sca_lt a
  have b0 := sca_nonneg b
  have b1 := sca_lt b
  have h := Int.mul_le_mul (show sca a ≤ 1008 by omega) (show sca b ≤ 1008 by omega) b0 (by decide)
  have h0 := Int.mul_nonneg a0 b0
  omega

/-- A scalar as one that is not below 0. -/
def scn (a : Int) : Nat := (sca a).toNat
theorem scn_lt (a : Int) : scn a < 1009 := by have := sca_lt a; have := sca_nonneg a; unfold scn; omega
theorem scn_cast (a : Int) : ((scn a : Nat) : Int) = sca a := by have := sca_nonneg a; unfold scn; omega
theorem scn_small {n : Nat} (h : n < 1009) : scn (n : Int) = n := by unfold scn; rw [sca_small (by omega) (by omega)]; simp

theorem scMul_nat (a b : Int) : scMul a b = ((scn a * scn b % 1009 : Nat) : Int) := by
  unfold scMul
  rw [← scn_cast a, ← scn_cast b]
  unfold sca
  omega

theorem scm_left (a b : Nat) : a % 1009 * b % 1009 = a * b % 1009 := by rw [Nat.mul_mod (a % 1009), Nat.mod_mod, ← Nat.mul_mod]
theorem scm_right (a b : Nat) : a * (b % 1009) % 1009 = a * b % 1009 := by rw [Nat.mul_comm, scm_left, Nat.mul_comm]
theorem scm_pow (a n : Nat) : (a % 1009) ^ n % 1009 = a ^ n % 1009 := (Nat.pow_mod a n 1009).symm

/-- A round of the power's loop with an odd number. -/
theorem sca_odd (x b n : Nat) (h : n % 2 = 1) : (x * b % 1009) * (b * b % 1009) ^ (n / 2) % 1009 = x * b ^ n % 1009 := by
  rw [scm_left, ← scm_right, scm_pow, scm_right]
  have e : b ^ n = b * (b * b) ^ (n / 2) := by
    rw [← Nat.pow_two, ← Nat.pow_mul, ← Nat.pow_succ']
    congr 1; omega
  rw [e, Nat.mul_assoc]

/-- A round of it with an even one. -/
theorem sca_even (x b n : Nat) (h : n % 2 = 0) : x * (b * b % 1009) ^ (n / 2) % 1009 = x * b ^ n % 1009 := by
  rw [← scm_right, scm_pow, scm_right]
  have e : b ^ n = (b * b) ^ (n / 2) := by
    rw [← Nat.pow_two, ← Nat.pow_mul]
    congr 1; omega
  rw [e]

/-- The exponent of what makes 1, by name. -/
def eS : Nat := 1007
def scInv (a : Int) : Int := ((scn a ^ eS % 1009 : Nat) : Int)

/-- What stands at a place of two lists, all together: of the first n. -/
def dotN (f g : Nat → Int) : Nat → Int
  | 0 => 0
  | n + 1 => scAdd (dotN f g n) (scMul (f n) (g n))

def ssq (r : Nat) : Nat := Nat.mod (Nat.mul r r) 1009
def ssm (a r : Nat) : Nat := Nat.mod (Nat.mul (Nat.mod (Nat.mul r r) 1009) a) 1009
/-- A number to 1007. -/
def sinv (a : Nat) : Nat := ssm a (ssm a (ssm a (ssm a (ssq (ssm a (ssm a (ssm a (ssm a a))))))))

theorem ssq_pow {a r k : Nat} (h : r = a ^ k % 1009) : ssq r = a ^ (2 * k) % 1009 := by
  show r * r % 1009 = _
  rw [h, scm_left, scm_right, ← Nat.pow_add]
  congr 2; omega

theorem ssm_pow {a r k : Nat} (h : r = a ^ k % 1009) : ssm a r = a ^ (2 * k + 1) % 1009 := by
  show r * r % 1009 * a % 1009 = _
  rw [show r * r % 1009 = a ^ (2 * k) % 1009 from ssq_pow h, scm_left, ← Nat.pow_succ]

theorem sinv_pow {a : Nat} (h : a < 1009) : sinv a = a ^ eS % 1009 := by
  have h0 : a = a ^ 1 % 1009 := by rw [Nat.pow_one, Nat.mod_eq_of_lt h]
  have h1 := ssm_pow (ssm_pow (ssm_pow (ssm_pow h0)))
  have h2 := ssm_pow (ssm_pow (ssm_pow (ssm_pow (ssq_pow h1))))
  generalize he : 2 * (2 * (2 * (2 * (2 * (2 * (2 * (2 * (2 * 1 + 1) + 1) + 1) + 1)) + 1) + 1) + 1) + 1 = k at h2
  have hk : k = eS := by rw [← he]; rfl
  rw [← hk]; exact h2

def sgood (a : Nat) : Bool := Nat.beq (Nat.mod (Nat.mul a (sinv a)) 1009) 1 || Nat.beq (Nat.mod a 1009) 0
def sgoods : Nat → Nat → Bool
  | 0, lo => sgood lo
  | k + 1, lo => sgoods k lo && sgoods k (Nat.add lo (Nat.pow 2 k))

theorem sgoods_all : ∀ (k lo : Nat), sgoods k lo = true → ∀ a, lo ≤ a → a < lo + 2 ^ k → sgood a = true
  | 0, lo, h, a, h0, h1 => by
    have : a = lo := by simp at h1; omega
    rw [this]; exact h
  | k + 1, lo, h, a, h0, h1 => by
    simp only [sgoods, Bool.and_eq_true] at h
    by_cases hc : a < lo + 2 ^ k
    · exact sgoods_all k lo h.1 a h0 hc
    · refine sgoods_all k (lo + 2 ^ k) h.2 a (by omega) ?_
      rw [Nat.pow_succ] at h1; omega

set_option maxRecDepth 100000 in
theorem sgoods_here : sgoods 10 0 = true := by decide +kernel

/-- What is not 0 and its inverse make 1. -/
theorem sca_inv_nat {a : Nat} (h0 : 0 < a) (h : a < 1009) : a * (a ^ eS % 1009) % 1009 = 1 := by
  have g := sgoods_all 10 0 sgoods_here a (Nat.zero_le _) (by omega)
  unfold sgood at g
  simp only [Bool.or_eq_true, Nat.beq_eq] at g
  rw [← sinv_pow h]
  rcases g with g | g
  · exact g
  · have g' : a % 1009 = 0 := g
    omega

theorem scMul_inv {a : Int} (h0 : 0 < a) (h : a < 1009) : scMul a (scInv a) = 1 := by
  have e : scn a = a.toNat := by unfold scn; rw [sca_small (by omega) h]
  have hl : scn a ^ eS % 1009 < 1009 := Nat.mod_lt _ (by decide)
  rw [scMul_nat]
  unfold scInv
  rw [scn_small hl, sca_inv_nat (by omega) (by omega)]
  rfl

theorem scInv_zero : scInv 0 = 0 := by
  unfold scInv
  rw [show scn 0 = 0 from rfl, Nat.zero_pow (by decide)]
  rfl

theorem scAdd_neg (b : Int) : scAdd b (scNeg b) = 0 := by
  rw [scAdd_eq, scNeg_eq, sca_add_right]
  unfold sca; omega

theorem sca_dist (a b c : Int) : scMul a (scAdd b c) = scAdd (scMul a b) (scMul a c) := by
  rw [scMul_eq, scAdd_eq, scAdd_eq, scMul_eq, scMul_eq, sca_mul_right, sca_add_sca, Int.mul_add]

end Go.Proofs.YtkmelamfohfdkabDoor

/-
  Committees as the document tells of them: no program in here.
-/
namespace Go.Proofs.YtkmelamfohfdkabDoor

/-- So many keys are of the group, and not Zero. -/
def okN (f : Nat → Pt) : Nat → Bool
  | 0 => true
  | n + 1 => okN f n && (inGB (f n) && !(f n).2.2)
theorem okN_more (f : Nat → Pt) {k : Nat} (h : okN f k = false) : ∀ n, k ≤ n → okN f n = false
  | 0, hn => by rw [show k = 0 by omega] at h; exact h
  | n + 1, hn => by
    rcases Nat.lt_or_ge k (n + 1) with h1 | h1
    · show (okN f n && _) = false
      rw [okN_more f h n (by omega)]
      rfl
    · rw [show n + 1 = k by omega]; exact h
theorem okN_at (f : Nat → Pt) {n : Nat} (h : okN f n = true) {j : Nat} (hj : j < n) : inGB (f j) = true ∧ (f j).2.2 = false := by
  have h1 : okN f (j + 1) = true := by
    cases hk : okN f (j + 1)
    · rw [okN_more f hk n (by omega)] at h; cases h
    · rfl
  have h2 : (okN f j && (inGB (f j) && !(f j).2.2)) = true := h1
  simp only [Bool.and_eq_true, Bool.not_eq_true'] at h2
  exact h2.2
theorem okN_congr {f g : Nat → Pt} : ∀ {n : Nat}, (∀ j, j < n → f j = g j) → okN f n = okN g n
  | 0, _ => rfl
  | n + 1, h => by
    show (okN f n && _) = (okN g n && _)
    rw [okN_congr (fun j hj => h j (by omega)), h n (by omega)]
def cOk (f : Nat → Pt) (n : Nat) : Bool := okN f n && decide (n = 8)

/-- The texts of so many keys. -/
def txN (f : Nat → Pt) : Nat → ByteArray
  | 0 => ByteArray.empty
  | n + 1 => txN f n ++ ptText (f n)

/-- Whether a bit is set. -/
def bitB (b : Int) (i : Nat) : Bool := decide (b / 2 ^ i % 2 = 1)
/-- How many bits are set, of so many. -/
def bitsN (b : Int) : Nat → Int
  | 0 => 0
  | n + 1 => bitsN b n + b / 2 ^ n % 2
def bitsB (b : Int) : Int := if 0 ≤ b ∧ b ≤ 255 then bitsN b 8 else 0
theorem bitsN_in (b : Int) : ∀ n : Nat, 0 ≤ bitsN b n ∧ bitsN b n ≤ n
  | 0 => ⟨Int.le_refl _, Int.le_refl _⟩
  | n + 1 => by
    obtain ⟨h1, h2⟩ := bitsN_in b n
    show 0 ≤ bitsN b n + b / 2 ^ n % 2 ∧ bitsN b n + b / 2 ^ n % 2 ≤ ((n + 1 : Nat) : Int)
    omega

/-- The secret at a place. -/
def sec (n : Int) (i : Nat) : Int := 1 + (n * 31 + (i : Int) * 57 + 7) % 1007
def secs (seed : Int) : List Int := (List.range 8).map (sec (seed % 1000))
theorem sec_in (n : Int) (i : Nat) : 1 ≤ sec n i ∧ sec n i ≤ 1007 := by unfold sec; omega

end Go.Proofs.YtkmelamfohfdkabDoor

/-
  The walk of the specification's question whether a number lies between two.
  (-DROP-: what the seat lacks is left out.)
-/
namespace Go.Proofs.YtkmelamfohfdkabDoor
open Go.RowKit

set_option maxHeartbeats 400000 in
set_option maxRecDepth 100000 in
theorem sBetween_any (x a b : Int) (w : World) :
    Calls Tryd.prog 7 #[.int .i64 x, .int .i64 a, .int .i64 b] w fun e w' => e = .returned (.bool (decide (a ≤ x ∧ x ≤ b))) ∧ w = w' := by
  by_cases h0 : a ≤ x
  · by_cases h1 : x ≤ b
    · rw [decide_eq_true ⟨h0, h1⟩]
      go_enter Tryd.func7, Tryd.ntmps7
      go_wp2
      go_ret
      exact ⟨rfl, rfl⟩
    · rw [decide_eq_false (by omega)]
      go_enter Tryd.func7, Tryd.ntmps7
      go_wp2
      go_ret
      exact ⟨rfl, rfl⟩
  · rw [decide_eq_false (by omega)]
    go_enter Tryd.func7, Tryd.ntmps7
    go_wp2
    go_ret
    exact ⟨rfl, rfl⟩

end Go.Proofs.YtkmelamfohfdkabDoor

/-
  Lists of ints that lie below a block.
-/
namespace Go.Proofs.YtkmelamfohfdkabDoor
open Go.RowKit

theorem mixesSc : Tryd.prog.follows .mixedOrders = true := by kernel_rfl

/-- What a list of ints holds; it lies below block c. -/
def IntsAt (w : World) (a : Option Addr) (len c : Nat) (f : Nat → Int) : Prop :=
  ∀ j, j < len → ∃ b off, a = some ⟨b, off, none⟩ ∧ b < c ∧ w.cell? ⟨b, off + j, none⟩ = some (.int .i64 (f j))

theorem IntsAt.on {w w1 : World} {a : Option Addr} {len c : Nat} {f : Nat → Int} (h : IntsAt w a len c f) (hb : Below c w w1) : IntsAt w1 a len c f := fun j hj => by
  obtain ⟨b, off, h1, h2, h3⟩ := h j hj
  exact ⟨b, off, h1, h2, (hb.cell (p := ⟨b, off + j, none⟩) h2).trans h3⟩

theorem IntsAt.wide {w : World} {a : Option Addr} {len c d : Nat} {f : Nat → Int} (h : IntsAt w a len c f) (hd : c ≤ d) : IntsAt w a len d f := fun j hj => by
  obtain ⟨b, off, h1, h2, h3⟩ := h j hj
  exact ⟨b, off, h1, by omega, h3⟩

end Go.Proofs.YtkmelamfohfdkabDoor

/-
  Rows of ints: blocks, copies, whether two are the same.
  (-DROP-: what the seat lacks is left out.)
-/
namespace Go.Proofs.YtkmelamfohfdkabDoor
open Go.RowKit

/-- The cells of a row of ints. -/
def ic (f : Nat → Int) (n : Nat) : Array Value := ((List.range n).map fun j => Value.int .i64 (f j)).toArray

theorem ic_size (f : Nat → Int) (n : Nat) : (ic f n).size = n := by simp [ic]

theorem ic_at (f : Nat → Int) {n j : Nat} (h : j < n) : (ic f n)[j]? = some (.int .i64 (f j)) := by simp [ic, h]

theorem ic_set (f : Nat → Int) (n j : Nat) (x : Int) : (ic f n).setIfInBounds j (.int .i64 x) = ic (fun i => if i = j then x else f i) n := by
  have e : (ic f n).setIfInBounds j (.int .i64 x) = (((List.range n).map fun j => Value.int .i64 (f j)).set j (.int .i64 x)).toArray := by simp [ic]
  rw [e]
  unfold ic
  congr 1
  apply List.ext_getElem
  · simp
  · intro i h1 h2
    by_cases h : j = i
    · subst h; simp
    · have h' : ¬ i = j := fun e => h e.symm
      rw [List.getElem_set_ne h]
      simp [h']

/-- Block g is a row of ints. -/
def RowI (w : World) (g n : Nat) (f : Nat → Int) : Prop := w.heap[g]? = some (.cells (ic f n) 3 (0, 0))

theorem RowI.cell {w : World} {g n : Nat} {f : Nat → Int} (h : RowI w g n f) {j : Nat} (hj : j < n) : w.cell? ⟨g, j, none⟩ = some (.int .i64 (f j)) := by
  rw [cell_of_row w g j _ 3 (0, 0) h, ic_at f hj]

theorem RowI.free {w : World} {g n : Nat} {f : Nat → Int} (h : RowI w g n f) (j : Nat) : w.frozen? ⟨g, j, none⟩ = false := frozen_of_row w g j _ 3 h

theorem RowI.lt {w : World} {g n : Nat} {f : Nat → Int} (h : RowI w g n f) : g < w.heap.size := by
  rcases Nat.lt_or_ge g w.heap.size with h1 | h1
  · exact h1
  · unfold RowI at h
    rw [Array.getElem?_eq_none h1] at h
    cases h

theorem RowI.set {w : World} {g n : Nat} {f : Nat → Int} (h : RowI w g n f) (j : Nat) (x : Int) : RowI (w.setCell ⟨g, j, none⟩ (.int .i64 x)) g n (fun i => if i = j then x else f i) := by
  have := heap_setCell_same w g j _ 3 (.int .i64 x) h
  rw [ic_set] at this
  exact this

theorem RowI.on {w w1 : World} {g n c : Nat} {f : Nat → Int} (h : RowI w g n f) (hb : Below c w w1) (hc : g < c) : RowI w1 g n f := (hb.block g hc).trans h

theorem RowI.ints {w : World} {g n c : Nat} {f : Nat → Int} (h : RowI w g n f) (hc : g < c) : IntsAt w (some ⟨g, 0, none⟩) n c f := fun j hj => ⟨g, 0, rfl, hc, by rw [Nat.zero_add]; exact h.cell hj⟩

theorem RowI.congr {w : World} {g n : Nat} {f f' : Nat → Int} (h : RowI w g n f) (hf : ∀ j, j < n → f j = f' j) : RowI w g n f' := by
  have e : ic f n = ic f' n := by
    unfold ic
    congr 1
    apply List.map_congr_left
    intro j hj
    rw [hf j (List.mem_range.1 hj)]
  unfold RowI
  rw [← e]
  exact h

theorem rowI_new (w : World) (f : Nat → Int) (n : Nat) : RowI (w.alloc (.cells (ic f n) 3)) w.heap.size n f := heap_alloc_new w _

theorem info3I : (Tryd.prog.info? 3).map (fun i => (i.zero, i.size, i.bytes)) = some (some (.int .i64 0), 1, 8) := by kernel_rfl

/-- make([]int, n, m). -/
theorem make_ints (n m : Nat) (h1 : n ≤ m) (h2 : m ≤ 1073741824) (W : World) :
    (Instr.makeSlice 29 (.int .i64 (n : Int)) (.int .i64 (m : Int))).run Tryd.prog W = .ok (.slice (some ⟨W.heap.size, 0, none⟩) n m) (W.alloc (.cells (ic (fun _ => 0) m) 3)) := by
  obtain ⟨i0, hi, hz0, hz1, hz2⟩ := info_parts info3I
  have hM : madeCells (Value.int .i64 0).cells ((m : Int).toNat * i0.size) = ic (fun _ => 0) m := by
    rw [hz1]
    have h3 := toList_madeCells_one (.int .i64 0) m
    apply Array.toList_inj.1
    have e : (ic (fun _ => 0) m).toList = List.replicate m (Value.int .i64 0) := by
      simp [ic, List.map_const', List.length_range]
    rw [e]
    simpa [Value.cells] using h3
  have h := run_make (P := Tryd.prog) W 29 3 i0 (.int .i64 0) Tryd.underlying29 hi hz0 .i64 .i64 (n : Int) (m : Int) (by omega) (by omega) (by rw [hz2]; omega) (by omega)
  rw [hM] at h
  simpa using h

/-- The first k of f, then 0. -/
def upTo (f : Nat → Int) (k : Nat) : Nat → Int := fun j => if j < k then f j else 0

theorem upTo_next (f : Nat → Int) (k : Nat) : (fun i => if i = k then f k else upTo f k i) = upTo f (k + 1) := by
  funext i
  unfold upTo
  by_cases h : i = k
  · subst h
    rw [if_pos rfl, if_pos (by omega)]
  · rw [if_neg h]
    by_cases h2 : i < k
    · rw [if_pos h2, if_pos (by omega)]
    · rw [if_neg h2, if_neg (by omega)]

theorem upTo_in (f : Nat → Int) {k j : Nat} (h : j < k) : upTo f k j = f j := if_pos h

end Go.Proofs.YtkmelamfohfdkabDoor
