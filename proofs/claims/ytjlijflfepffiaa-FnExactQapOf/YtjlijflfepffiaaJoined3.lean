/-
  Texts of one's own, joined.
-/
import Derived.Test.YtjlijflfepffiaaJoined2
import Derived.Laws.AppendOwn
import Derived.Test.YtjlijflfepffiaaJoined1

/-
  Rows that are owned, carried from world to world.
-/
namespace Go.Proofs.Ytjlijflfepffiaa
open Go.RowKit

theorem owns_on {w w' : World} {B e sz n : Nat} {v : Value} {xs : List Value} (h : w.ownsRow B e sz v n xs) (hb : Below w.heap.size w w') : w'.ownsRow B e sz v n xs := by
  refine ⟨h.1, ?_⟩
  rcases h.2 with h0 | ⟨g, cap, cur, hv, hB, hg, rest⟩
  · exact .inl h0
  · exact .inr ⟨g, cap, cur, hv, hB, (hb.block g (Array.getElem?_eq_some_iff.1 hg).1).trans hg, rest⟩

theorem owns_other {w w' : World} {B e sz n g : Nat} {v : Value} {xs : List Value} (h : w.ownsRow B e sz v n xs) (hoth : ∀ g' t cs, g ≠ g' → Blk w g' t cs → Blk w' g' t cs) (hg : g < B) : w'.ownsRow B e sz v n xs := by
  refine ⟨h.1, ?_⟩
  rcases h.2 with h0 | ⟨g1, cap, cur, hv, hB, hb, rest⟩
  · exact .inl h0
  · exact .inr ⟨g1, cap, cur, hv, hB, hoth g1 e cur (by omega) hb, rest⟩

theorem owns_apart {w w' : World} {B e sz n g : Nat} {v : Value} {xs : List Value} (h : w.ownsRow B e sz v n xs) (hoth : ∀ g' t cs, g ≠ g' → Blk w g' t cs → Blk w' g' t cs) (hg : v.ownBlock ≠ some g) : w'.ownsRow B e sz v n xs := by
  refine ⟨h.1, ?_⟩
  rcases h.2 with h0 | ⟨g1, cap, cur, hv, hB, hb, rest⟩
  · exact .inl h0
  · refine .inr ⟨g1, cap, cur, hv, hB, hoth g1 e cur (fun e => hg ?_) hb, rest⟩
    rw [hv, e]
    rfl

end Go.Proofs.Ytjlijflfepffiaa

/-
  Rows of numbers that are owned.
  (-DROP-: what the seat lacks is left out.)
-/
namespace Go.Proofs.Ytjlijflfepffiaa
open Go.RowKit

/-- A row of numbers that is owned. -/
def zsV (l : List Int) : List Value := l.map (Value.int .i64)
def RowZs (B : Nat) (w : World) (v : Value) (l : List Int) : Prop := w.ownsRow B 3 1 v l.length (zsV l)
theorem zsV_append (a b : List Int) : zsV (a ++ b) = zsV a ++ zsV b := by simp [zsV]

theorem RowZs.ints {B : Nat} {w : World} {v : Value} {l : List Int} (h : RowZs B w v l) : ∃ a cp, v = .slice a l.length cp ∧ IntsAt w a l.length w.heap.size (fun j => l.getD j 0) := by
  rcases h.2 with ⟨rfl, h0⟩ | ⟨g, cp, cur, rfl, hg, hh, hrest⟩
  · exact ⟨none, 0, by rw [h0], fun j hj => by omega⟩
  · refine ⟨_, cp, rfl, fun j hj => ⟨g, 0, rfl, (Array.getElem?_eq_some_iff.1 hh).1, ?_⟩⟩
    have hc := h.cellAt j (by omega)
    rw [Nat.zero_add, hc]
    simp [zsV, hj]

/-- The first n of a row. -/
def zls (f : Nat → Int) (n : Nat) : List Int := (List.range n).map f
theorem zls_length (f : Nat → Int) (n : Nat) : (zls f n).length = n := by simp [zls]
theorem zls_at (f : Nat → Int) {n j : Nat} (h : j < n) : (zls f n).getD j 0 = f j := by simp [zls, h]
theorem zls_next (f : Nat → Int) (n : Nat) : zls f (n + 1) = zls f n ++ [f n] := by
  unfold zls
  rw [List.range_succ, List.map_append]
  rfl
theorem zls_getD (l : List Int) : zls (fun j => l.getD j 0) l.length = l := by
  apply List.ext_getElem
  · simp [zls]
  · intro i h1 h2
    simp [zls, h2]

theorem RowI.rowZ {w : World} {g n B : Nat} {f : Nat → Int} (h : RowI w g n f) (hB : B ≤ g) (hn : n ≤ 1048576) : RowZs B w (.slice (some ⟨g, 0, none⟩) n n) (zls f n) := by
  unfold RowZs
  rw [zls_length]
  refine ⟨by simp [zls, zsV], .inr ⟨g, n, ic f n, rfl, hB, h, Nat.le_refl _, by unfold maxLen; omega, by rw [ic_size, Nat.mul_one], ?_⟩⟩
  rw [Nat.mul_one, List.take_of_length_le (by simp [ic])]
  simp [ic, zls, zsV]

theorem eqRowZ_any {B1 B2 : Nat} {w : World} {v u : Value} {l : List Int} (h1 : RowZs B1 w v l) (h2 : RowZs B2 w u l) (hl : l.length ≤ 1048576) :
    Calls Try.prog 39 #[v, u] w fun e w' => e = .returned (.bool true) ∧ Below w.heap.size w w' := by
  obtain ⟨a, c1, rfl, s1⟩ := h1.ints
  obtain ⟨b, c2, rfl, s2⟩ := h2.ints
  exact eqIntS_any a b l.length c1 c2 hl _ w s1 s2

end Go.Proofs.Ytjlijflfepffiaa

/-
  The product of two polynomials, as a list: no program in here.
-/
namespace Go.Proofs.Ytjlijflfepffiaa

/-- So often a list put to another, from a place on. -/
def shF (p : List Int) (s : Nat) (k : Int) (b : List Int) (j : Nat) : Int := if s ≤ j ∧ j < s + b.length then scAdd (p.getD j 0) (scMul k (b.getD (j - s) 0)) else p.getD j 0
def addSh (p : List Int) (s : Nat) (k : Int) (b : List Int) : List Int := zls (shF p s k b) p.length
theorem addSh_len (p : List Int) (s : Nat) (k : Int) (b : List Int) : (addSh p s k b).length = p.length := zls_length _ _
theorem addSh_nil (p : List Int) (s : Nat) (k : Int) : addSh p s k [] = p := by
  refine (congrArg (fun f => zls f p.length) (funext fun j => ?_)).trans (zls_getD p)
  unfold shF
  rw [if_neg (by simp only [List.length_nil]; omega)]
theorem addSh_at (p : List Int) (s : Nat) (k : Int) (b : List Int) (h : s + b.length ≤ p.length) (j : Nat) : (addSh p s k b).getD j 0 = shF p s k b j := by
  by_cases hj : j < p.length
  · exact zls_at _ hj
  · rw [getD_out (by rw [addSh_len]; omega)]
    unfold shF
    rw [if_neg (by omega), getD_out (by omega)]
theorem ext_getD {a b : List Int} (hl : a.length = b.length) (h : ∀ j, a.getD j 0 = b.getD j 0) : a = b := by
  refine List.ext_getElem hl fun j p q => ?_
  have := h j
  rwa [getD_inZ p, getD_inZ q] at this
theorem take_at (b : List Int) {t j : Nat} (h : j < t) : (b.take t).getD j 0 = b.getD j 0 := by
  simp [List.getD_eq_getElem?_getD, h]
theorem set_at (l : List Int) (i j : Nat) (x : Int) (h : i < l.length) : (l.set i x).getD j 0 = if j = i then x else l.getD j 0 := by
  by_cases e : j = i
  · subst e; simp [h]
  · rw [if_neg e]
    simp [List.getD_eq_getElem?_getD, Ne.symm e]
/-- One place more. -/
theorem addSh_next (p : List Int) (s : Nat) (k : Int) (b : List Int) (h : s + b.length ≤ p.length) {t : Nat} (ht : t < b.length) :
    (addSh p s k (b.take t)).set (s + t) (scAdd (p.getD (s + t) 0) (scMul k (b.getD t 0))) = addSh p s k (b.take (t + 1)) := by
  have l1 : (b.take t).length = t := by simp; omega
  have l2 : (b.take (t + 1)).length = t + 1 := by simp; omega
  refine ext_getD (by rw [List.length_set, addSh_len, addSh_len]) fun j => ?_
  rw [set_at _ _ _ _ (by rw [addSh_len]; omega), addSh_at _ _ _ _ (by omega), addSh_at _ _ _ _ (by omega)]
  unfold shF
  rw [l1, l2]
  by_cases e : j = s + t
  · subst e
    rw [if_pos rfl, if_pos (by omega), show s + t - s = t by omega, take_at b (by omega)]
  · rw [if_neg e]
    by_cases h2 : s ≤ j ∧ j < s + t
    · rw [if_pos h2, if_pos (by omega), take_at b (by omega), take_at b (by omega)]
    · rw [if_neg h2, if_neg (by omega)]
theorem addSh_new (p : List Int) (s : Nat) (k : Int) (b : List Int) (h : s + b.length ≤ p.length) {t : Nat} (ht : t < b.length) : (addSh p s k (b.take t)).getD (s + t) 0 = p.getD (s + t) 0 := by
  have l1 : (b.take t).length = t := by simp; omega
  rw [addSh_at _ _ _ _ (by omega)]
  unfold shF
  rw [l1, if_neg (by omega)]
theorem addSh_sc {p : List Int} (s : Nat) (k : Int) {b : List Int} (h : s + b.length ≤ p.length) (hp : ∀ j, Sc (p.getD j 0)) (j : Nat) : Sc ((addSh p s k b).getD j 0) := by
  rw [addSh_at _ _ _ _ h]
  unfold shF
  split
  · exact sc_add _ _
  · exact hp j
theorem addSh_ev (x : Int) (p : List Int) (s : Nat) (k : Int) (b : List Int) (h : s + b.length ≤ p.length) : Dp (ev (addSh p s k b) x - (ev p x + x ^ s * (k * ev b x))) := by
  have h1 := ev_congr x (addSh p s k b) (addL p (List.replicate s 0 ++ b.map fun y => k * y)) fun j => ?_
  · rw [ev_addL, ev_shift, ev_map] at h1
    exact h1
  · rw [addSh_at _ _ _ _ h, addL_getD, shift_getD]
    have hm : ∀ i, (b.map fun y => k * y).getD i 0 = k * b.getD i 0 := fun i => by
      by_cases hi : i < b.length
      · simp [hi]
      · rw [getD_out (by simp; omega), getD_out (by omega), Int.mul_zero]
    rw [hm]
    unfold shF
    by_cases h1 : s ≤ j ∧ j < s + b.length
    · rw [if_pos h1, if_pos h1.1]
      exact ((dp_scAdd (p.getD j 0) (scMul k (b.getD (j - s) 0))).add (dp_scMul k (b.getD (j - s) 0))).of (by omega)
    · rw [if_neg h1]
      by_cases h2 : s ≤ j
      · rw [if_pos h2, getD_out (l := b) (by omega), Int.mul_zero]
        exact dp_zero.of (by omega)
      · rw [if_neg h2]
        exact dp_zero.of (by omega)

/-- A list for each number of another, shifted by its place. -/
def mulR (b : List Int) : List Int → Nat → List Int → List Int
  | [], _, p => p
  | k :: t, i, p => mulR b t (i + 1) (addSh p i k b)
theorem mulR_len (b : List Int) : ∀ (a : List Int) (i : Nat) (p : List Int), (mulR b a i p).length = p.length
  | [], _, _ => rfl
  | k :: t, i, p => by rw [mulR, mulR_len b t, addSh_len]
theorem mulR_nil : ∀ (a : List Int) (i : Nat) (p : List Int), mulR [] a i p = p
  | [], _, _ => rfl
  | k :: t, i, p => by rw [mulR, addSh_nil, mulR_nil t]
theorem mulR_sc (b : List Int) : ∀ (a : List Int) (i : Nat) (p : List Int), i + a.length + b.length ≤ p.length + 1 → (∀ j, Sc (p.getD j 0)) → ∀ j, Sc ((mulR b a i p).getD j 0)
  | [], _, _, _, h, j => h j
  | k :: t, i, p, h0, h, j => by
    rw [List.length_cons] at h0
    exact mulR_sc b t (i + 1) _ (by rw [addSh_len]; omega) (addSh_sc i k (by omega) h) j
theorem mulR_congr (b : List Int) : ∀ (a : List Int) (i : Nat) (p q : List Int), i + a.length + b.length ≤ p.length + 1 → i + a.length + b.length ≤ q.length + 1 → (∀ j, p.getD j 0 = q.getD j 0) → ∀ j, (mulR b a i p).getD j 0 = (mulR b a i q).getD j 0
  | [], _, _, _, _, _, h, j => h j
  | k :: t, i, p, q, h0, h1, h, j => by
    rw [List.length_cons] at h0 h1
    refine mulR_congr b t (i + 1) _ _ (by rw [addSh_len]; omega) (by rw [addSh_len]; omega) (fun j => ?_) j
    rw [addSh_at _ _ _ _ (by omega), addSh_at _ _ _ _ (by omega)]
    unfold shF
    rw [h j]
theorem mulR_ev (x : Int) (b : List Int) : ∀ (a : List Int) (i : Nat) (p : List Int), i + a.length + b.length ≤ p.length + 1 → Dp (ev (mulR b a i p) x - (ev p x + x ^ i * (ev a x * ev b x)))
  | [], i, p, _ => dp_zero.of (by show ev p x - (ev p x + x ^ i * (0 * ev b x)) = 0; grind)
  | k :: t, i, p, h0 => by
    rw [List.length_cons] at h0
    have h1 := mulR_ev x b t (i + 1) (addSh p i k b) (by rw [addSh_len]; omega)
    have h2 := addSh_ev x p i k b (by omega)
    refine (h1.add h2).of ?_
    show ev (mulR b t (i + 1) (addSh p i k b)) x - (ev p x + x ^ i * ((k + x * ev t x) * ev b x)) = _
    rw [Int.pow_succ]
    grind
theorem rep_at (n j : Nat) : (List.replicate n (0 : Int)).getD j 0 = 0 := by
  by_cases h : j < n
  · simp [h]
  · exact getD_out (by simp; omega)
theorem ev_rep (x : Int) (n : Nat) : ev (List.replicate n 0) x = 0 := by
  have := ev_shift x [] n
  rw [List.append_nil] at this
  rw [this]
  show x ^ n * 0 = 0
  exact Int.mul_zero _
theorem trim_rep (n : Nat) : trimZ (List.replicate n 0) = [] := List.length_eq_zero_iff.1 (by have := trim_len_lt (l := List.replicate n (0 : Int)) (n := 0) fun j _ => rep_at n j; omega)
def qMul (a b : List Int) : List Int := if 64 < a.length ∨ 64 < b.length then [] else trimZ (mulR b a 0 (List.replicate (a.length + b.length) 0))
theorem qMul_short (a b : List Int) (ha : 0 < a.length ∧ a.length ≤ 64) (hb : 0 < b.length ∧ b.length ≤ 64) : pTrim (mulR b a 0 (List.replicate (a.length + b.length - 1) 0)) = qMul a b := by
  unfold qMul
  rw [if_neg (by omega)]
  have h1 := mulR_sc b a 0 (List.replicate (a.length + b.length) 0) (by simp) (fun j => by rw [rep_at]; exact sc_zero)
  refine can_eq (pTrim_can _) (Can.of_trim _ h1) fun j => ?_
  rw [pTrim_at, trimZ_at, mulR_congr b a 0 (List.replicate (a.length + b.length - 1) 0) (List.replicate (a.length + b.length) 0) (by simp; omega) (by simp) (fun j => by rw [rep_at, rep_at]) j]
  exact dp_sca _
theorem qMul_left (b : List Int) : qMul [] b = [] := by
  unfold qMul
  split
  · rfl
  · exact trim_rep _
theorem qMul_right (a : List Int) : qMul a [] = [] := by
  unfold qMul
  split
  · rfl
  · rw [mulR_nil]; exact trim_rep _
theorem qMul_can (a b : List Int) : Can (qMul a b) := by
  unfold qMul
  split
  · exact ⟨fun j => by rw [getD_nil]; exact sc_zero, rfl⟩
  · exact Can.of_trim _ (mulR_sc b a 0 _ (by simp) (fun j => by rw [rep_at]; exact sc_zero))
theorem trimZ_ev (x : Int) (l : List Int) : Dp (ev (trimZ l) x - ev l x) := ev_congr x _ _ fun j => by rw [trimZ_at]; exact dp_zero.of (by omega)
theorem pTrim_ev (x : Int) (l : List Int) : Dp (ev (pTrim l) x - ev l x) := ev_congr x _ _ fun j => by rw [pTrim_at]; exact dp_sca _
theorem qMul_ev (x : Int) (a b : List Int) (ha : a.length ≤ 64) (hb : b.length ≤ 64) : Dp (ev (qMul a b) x - ev a x * ev b x) := by
  unfold qMul
  rw [if_neg (by omega)]
  have h1 := mulR_ev x b a 0 (List.replicate (a.length + b.length) 0) (by simp)
  rw [ev_rep] at h1
  exact ((trimZ_ev x (mulR b a 0 (List.replicate (a.length + b.length) 0))).add h1).of (by simp; grind)
/-- One that both have numbers for is as long as both, but for one. -/
theorem qMul_len2 (a b : List Int) (n : Nat) (h : a.length + b.length ≤ n + 1) : (qMul a b).length ≤ n := by
  by_cases ha : a = []
  · subst ha; rw [qMul_left]; exact Nat.zero_le _
  · by_cases hb : b = []
    · subst hb; rw [qMul_right]; exact Nat.zero_le _
    · have h1 := List.length_pos_iff.2 ha
      have h2 := List.length_pos_iff.2 hb
      by_cases hl : 64 < a.length ∨ 64 < b.length
      · unfold qMul
        rw [if_pos hl]
        exact Nat.zero_le _
      · rw [← qMul_short a b (by omega) (by omega)]
        refine Nat.le_trans (pTrim_len _) ?_
        rw [mulR_len, List.length_replicate]
        omega
theorem qMul_len (a b : List Int) : (qMul a b).length ≤ 1048576 := by
  by_cases hl : 64 < a.length ∨ 64 < b.length
  · unfold qMul
    rw [if_pos hl]
    exact Nat.zero_le _
  · exact qMul_len2 a b _ (by omega)
theorem qMul_128 (a b : List Int) : (qMul a b).length ≤ 127 := by
  by_cases hl : 64 < a.length ∨ 64 < b.length
  · unfold qMul
    rw [if_pos hl]
    exact Nat.zero_le _
  · exact qMul_len2 a b _ (by omega)

theorem qAdd_can (a b : List Int) : Can (qAdd a b) := pTrim_can _
theorem qAdd_ev (x : Int) (a b : List Int) : Dp (ev (qAdd a b) x - (ev a x + ev b x)) := by
  have h1 := ev_congr x (qAdd a b) (addL a b) fun j => ?_
  · rw [ev_addL] at h1
    exact h1
  · have hz : (zls (padF a b) (max a.length b.length)).getD j 0 = padF a b j := by
      by_cases hj : j < max a.length b.length
      · exact zls_at _ hj
      · rw [getD_out (by rw [zls_length]; omega)]
        unfold padF
        rw [if_neg (by omega), if_neg (by omega)]
    rw [addL_getD, show qAdd a b = pTrim (zls (padF a b) (max a.length b.length)) from rfl, pTrim_at, hz]
    refine ((dp_sca (padF a b j)).add (?_ : Dp (padF a b j - (a.getD j 0 + b.getD j 0)))).of (by omega)
    unfold padF
    by_cases hb : j < b.length <;> by_cases ha : j < a.length
    · rw [if_pos hb, if_pos ha]
      exact ((dp_scAdd (scAdd 0 (a.getD j 0)) (b.getD j 0)).add (dp_scAdd 0 (a.getD j 0))).of (by omega)
    · rw [if_pos hb, if_neg ha, getD_out (l := a) (by omega)]
      exact (dp_scAdd 0 (b.getD j 0)).of (by omega)
    · rw [if_neg hb, if_pos ha, getD_out (l := b) (by omega)]
      exact (dp_scAdd 0 (a.getD j 0)).of (by omega)
    · rw [if_neg hb, if_neg ha, getD_out (l := a) (by omega), getD_out (l := b) (by omega)]
      exact dp_zero.of (by omega)

end Go.Proofs.Ytjlijflfepffiaa

/-
  The polynomial that is 0 at the first places: no program in here.
-/
namespace Go.Proofs.Ytjlijflfepffiaa
open Go.RowKit

/-- It is 0 at 1 to k. -/
def zerL : Nat → List Int
  | 0 => [1]
  | k + 1 => qMul (zerL k) [-((k : Int) + 1), 1]
def pZer (n : Int) : List Int := if n < 0 ∨ n > 16 then [] else zerL n.toNat
theorem pZer_nat {k : Nat} (h : k ≤ 16) : pZer (k : Int) = zerL k := by
  unfold pZer
  rw [if_neg (by omega), Int.toNat_natCast]
theorem zerL_small : ∀ k, (zerL k).length ≤ k + 1
  | 0 => Nat.le_refl _
  | k + 1 => qMul_len2 _ _ _ (by have := zerL_small k; simp; omega)
theorem zerL_127 (k : Nat) : (zerL k).length ≤ 127 := by
  cases k with
  | zero => decide
  | succ k => exact qMul_128 _ _
theorem zerL_len (k : Nat) : (zerL k).length ≤ 1048576 := Nat.le_trans (zerL_127 k) (by decide)
theorem pZer_len (n : Int) : (pZer n).length ≤ 1048576 := by
  unfold pZer
  split
  · exact Nat.zero_le _
  · exact zerL_len _
/-- Its value. -/
def zerE : Nat → Int → Int
  | 0, _ => 1
  | k + 1, x => zerE k x * (x - ((k : Int) + 1))
theorem zerL_ev (x : Int) : ∀ k, k ≤ 16 → Dp (ev (zerL k) x - zerE k x)
  | 0, _ => dp_zero.of (by show 1 + x * 0 - 1 = 0; omega)
  | k + 1, h => by
    have h1 := zerL_ev x k (by omega)
    have h2 := qMul_ev x (zerL k) [-((k : Int) + 1), 1] (by have := zerL_small k; omega) (by simp)
    refine (h2.add (h1.mul (x - ((k : Int) + 1)))).of ?_
    show ev (qMul (zerL k) [-((k : Int) + 1), 1]) x - zerE k x * (x - ((k : Int) + 1)) = _
    have e : ev [-((k : Int) + 1), 1] x = x - ((k : Int) + 1) := by
      show -((k : Int) + 1) + x * (1 + x * 0) = _
      grind
    rw [e]
    grind
/-- At one of its places. -/
theorem zerE_zero : ∀ (k i : Nat), i < k → zerE k ((i : Int) + 1) = 0
  | 0, i, h => by omega
  | k + 1, i, h => by
    show zerE k ((i : Int) + 1) * ((i : Int) + 1 - ((k : Int) + 1)) = 0
    by_cases hi : i = k
    · subst hi
      rw [show (i : Int) + 1 - ((i : Int) + 1) = 0 by omega, Int.mul_zero]
    · rw [zerE_zero k i (by omega), Int.zero_mul]
/-- At the place behind them. -/
theorem zerE_next : ∀ (k s : Nat), k + s ≤ 1000 → 0 < s → ¬ Dp (zerE k ((k : Int) + s))
  | 0, s, _, _ => by
    intro h
    have : (1009 : Int) ∣ 1 := h
    omega
  | k + 1, s, h, hs => by
    intro hd
    have e : zerE (k + 1) (((k + 1 : Nat) : Int) + s) = ((s : Nat) : Int) * zerE k ((k : Int) + ((s + 1 : Nat) : Int)) := by
      show zerE k (((k + 1 : Nat) : Int) + s) * (((k + 1 : Nat) : Int) + s - ((k : Int) + 1)) = _
      rw [show ((k + 1 : Nat) : Int) + s = (k : Int) + ((s + 1 : Nat) : Int) by omega, show (k : Int) + ((s + 1 : Nat) : Int) - ((k : Int) + 1) = (s : Int) by omega, Int.mul_comm]
    rw [e] at hd
    exact zerE_next k (s + 1) (by omega) (by omega) (dp_prime hs (by omega) hd)
/-- What a literal makes. -/
theorem own_lit (w : World) (l : List Int) (hl : l.length ≤ 64) : RowZs w.heap.size (w.alloc (.cells (zsV l).toArray 3)) (.slice (some ⟨w.heap.size, 0, none⟩) l.length l.length) l := by
  refine ⟨by simp [zsV], .inr ⟨w.heap.size, l.length, (zsV l).toArray, rfl, Nat.le_refl _, heap_alloc_new w _, Nat.le_refl _, by unfold maxLen; omega, by simp [zsV], ?_⟩⟩
  rw [Nat.mul_one, List.take_of_length_le (by simp [zsV])]

end Go.Proofs.Ytjlijflfepffiaa
