/-
  A system that is drawn right: no program in here.
-/
import Derived.Test.YtjlijflfepffiaaJoined10
import Derived.Test.YtjlijflfepffiaaRwSys2

namespace Go.Proofs.Ytjlijflfepffiaa

/-- A right system and numbers that are right for it. -/
def Right (wi pu : Int) (n : Nat) (ls : List (List Int)) (m : List Int) : Prop := sysOk wi pu n ls = true ∧ wide m wi = true ∧ soN ls m n = true

theorem dotN_on (f f' g : Nat → Int) : ∀ n, (∀ j, j < n → f j = f' j) → dotN f g n = dotN f' g n
  | 0, _ => rfl
  | n + 1, h => by
    show scAdd (dotN f g n) (scMul (f n) (g n)) = scAdd (dotN f' g n) (scMul (f' n) (g n))
    rw [dotN_on f f' g n fun j hj => h j (by omega), h n (by omega)]
theorem zdot_zls (F : Nat → Int) (N : Nat) (l : List Int) : zdot (zls F N) l = dotN F (fun j => l.getD j 0) (min N l.length) := by
  unfold zdot
  rw [zls_length]
  exact dotN_on _ _ _ _ fun j hj => zls_at F (by omega)
theorem sca_self {z : Int} (h0 : 0 ≤ z) (h1 : z ≤ 1008) : sca z = z := by unfold sca; omega
theorem dot_first (z : Int) (h0 : 0 ≤ z) (h1 : z ≤ 1008) (g : Nat → Int) (hg : g 0 = 1) : ∀ n, 1 ≤ n → dotN (fun i => if i = 0 then z else 0) g n = z
  | 0, h => by omega
  | 1, _ => by
    show scAdd 0 (scMul z (g 0)) = z
    rw [hg, scMul_eq, scAdd_eq, Int.mul_one, sca_self h0 h1, Int.zero_add, sca_self h0 h1]
  | n + 2, _ => by
    show scAdd (dotN (fun i => if i = 0 then z else 0) g (n + 1)) (scMul 0 (g (n + 1))) = z
    rw [dot_first z h0 h1 g hg (n + 1) (by omega), scMul_eq, Int.zero_mul, scAdd_eq, show sca 0 = 0 by decide, Int.add_zero, sca_self h0 h1]
theorem row_right (F0 F1 : Nat → Int) (N : Nat) (l : List Int) (hl : l.length = N) (h1 : 1 ≤ N) (hg : l.getD 0 0 = 1) :
    rowSo (zls F0 N) (zls F1 N) (zls (fun i => if i = 0 then scMul (dotN F0 (fun j => l.getD j 0) (min N l.length)) (dotN F1 (fun j => l.getD j 0) (min N l.length)) else 0) N) l = true := by
  unfold rowSo
  rw [zdot_zls, zdot_zls, zdot_zls]
  have hm : 1 ≤ min N l.length := by omega
  rw [dot_first _ (by rw [scMul_eq]; exact sca_nonneg _) (by rw [scMul_eq]; have := sca_lt (dotN F0 (fun j => l.getD j 0) (min N l.length) * dotN F1 (fun j => l.getD j 0) (min N l.length)); omega) _ hg _ hm]
  exact decide_eq_true rfl
theorem wide_zls (F : Nat → Int) (N : Nat) (h : ∀ i, 0 ≤ F i ∧ F i ≤ 1008) : wide (zls F N) (N : Int) = true := by
  unfold wide
  rw [Bool.and_eq_true, zls_length]
  refine ⟨decide_eq_true rfl, List.all_eq_true.2 fun x hx => ?_⟩
  unfold zls at hx
  obtain ⟨j, _, rfl⟩ := List.mem_map.1 hx
  exact decide_eq_true (h j)
theorem soN_app (ls t : List (List Int)) (m : List Int) : ∀ k, k * 3 ≤ ls.length → soN (ls ++ t) m k = soN ls m k
  | 0, _ => rfl
  | k + 1, h => by
    have e : ∀ j, j < (k + 1) * 3 → (ls ++ t).getD j [] = ls.getD j [] := fun j hj => by
      rw [List.getD_eq_getElem?_getD, List.getElem?_append_left (by omega), List.getD_eq_getElem?_getD]
    rw [soN, soN, soN_app ls t m k (by omega), e _ (by omega), e _ (by omega), e _ (by omega)]
theorem so_next {ls : List (List Int)} {m : List Int} {k : Nat} {x y z : List Int} (hl : ls.length = k * 3) (h : soN ls m k = true) (hr : rowSo x y z m = true) : soN (ls ++ [x, y, z]) m (k + 1) = true := by
  have e : ∀ j, (ls ++ [x, y, z]).getD (k * 3 + j) [] = ([x, y, z] : List (List Int)).getD j [] := fun j => by
    rw [List.getD_eq_getElem?_getD, List.getElem?_append_right (by omega), List.getD_eq_getElem?_getD, show k * 3 + j - ls.length = j by omega]
  rw [soN, soN_app ls _ m k (by omega), h, Bool.true_and, e 1, e 2]
  have e0 := e 0
  rw [Nat.add_zero] at e0
  rw [e0]
  exact hr
theorem sys_right {wi pu : Int} {n : Nat} {ls : List (List Int)} (h1 : 1 ≤ wi ∧ wi ≤ 20) (h2 : 0 ≤ pu ∧ pu ≤ wi - 1) (h3 : 1 ≤ n ∧ n ≤ 16) (hl : ls.length = n * 3) (h : ∀ j, j < n * 3 → wide (ls.getD j []) wi = true) : sysOk wi pu n ls = true := by
  unfold sysOk
  rw [decide_eq_true h1, decide_eq_true h2, decide_eq_true (show 1 ≤ (n : Int) ∧ (n : Int) ≤ 16 by omega)]
  simp only [Bool.true_and]
  refine List.all_eq_true.2 fun l hx => ?_
  obtain ⟨j, hj, rfl⟩ := List.getElem_of_mem hx
  have := h j (by omega)
  rwa [List.getD_eq_getElem?_getD, List.getElem?_eq_getElem hj] at this
theorem wit_rights : ((List.range 256).all fun b => wide (witOf (b : Int)) 11 && soN (csN 10) (witOf (b : Int)) 10) = true := by decide +kernel
theorem wit_right {b : Int} (h0 : 0 ≤ b) (h1 : b < 256) : Right 11 2 10 (csN 10) (witOf b) := by
  have h := List.all_eq_true.1 wit_rights b.toNat (List.mem_range.2 (by omega))
  rw [Int.toNat_of_nonneg h0, Bool.and_eq_true] at h
  exact ⟨by decide +kernel, h.1, h.2⟩

end Go.Proofs.Ytjlijflfepffiaa
