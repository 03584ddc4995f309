/-
  Texts of one's own, joined.
-/
import Derived.Test.YtlaoikpbgbckjaaDoorTreeS2

/-
  The walks of the specification's tree of hashes: the root, a branch, a leaf with its branch.
  (-DROP-: what the seat lacks is left out.)
-/
namespace Go.Proofs.YtlaoikpbgbckjaaDoor
open Go.RowKit

theorem owns_wide {w : World} {B B' e sz n : Nat} {v : Value} {xs : List Value} (h : w.ownsRow B e sz v n xs) (hB : B' ≤ B) : w.ownsRow B' e sz v n xs := by
  refine ⟨h.1, ?_⟩
  rcases h.2 with h0 | ⟨g, cap, cur, hv, hg, rest⟩
  · exact .inl h0
  · exact .inr ⟨g, cap, cur, hv, Nat.le_trans hB hg, rest⟩

theorem up_size {l : List ByteArray} : ∀ j, j < (upL digT l).length → ((upL digT l).getD j noT).size ≤ 1048576 := by
  intro j hj
  rw [upL_length] at hj
  rw [upL_at l j (by omega), digT_size]
  decide
theorem hash_sizes (l : List ByteArray) : ∀ j, j < (hashL digT l).length → ((hashL digT l).getD j noT).size ≤ 1048576 := by
  have key : ∀ x ∈ hashL digT l, x.size ≤ 1048576 := by
    intro x hx
    unfold hashL at hx
    rcases List.mem_append.1 hx with h | h
    · obtain ⟨y, _, rfl⟩ := List.mem_map.1 h
      rw [digT_size]; decide
    · rw [List.eq_of_mem_replicate h, digT_size]; decide
  intro j hj
  rw [List.getD_eq_getElem?_getD, List.getElem?_eq_getElem hj]
  exact key _ (List.getElem_mem hj)
theorem rowS_len {B : Nat} {w : World} {v : Value} {l : List ByteArray} (h : RowS B w v l) : slLen v = l.length := by
  obtain ⟨a, cp, rfl, _⟩ := h.strs
  rfl

theorem upN_last (D : ByteArray → ByteArray) : ∀ (j : Nat) (l : List ByteArray), upN D (j + 1) l = upN D j (upL D l) := fun _ _ => rfl

set_option maxHeartbeats 1600000 in
set_option maxRecDepth 100000 in
theorem sRootOf_any (a : Option Addr) (n cp : Nat) (hm : n ≤ 9223372036854775807) (f : Nat → ByteArray) (hs : ∀ j, j < n → (f j).size ≤ 1048576) (w : World) (hA : StrsAt w a n w.heap.size f) :
    Calls Tryd.prog 41 #[.slice a n cp] w fun e w' => e = .returned (.string (rootT digT (lst f n))) ∧ Below w.heap.size w w' := by
  by_cases hn : n ≤ 32
  · have HH : Hid (Calls Tryd.prog 38 #[.slice a n cp] w fun e w' => ∃ v, e = .returned v ∧ RowS w.heap.size w' v (hashL digT (lst f n)) ∧ Below w.heap.size w w') := sHashes_any a n cp hn f hs w hA
    have hn' : ¬ (32 : Int) < (n : Int) := by omega
    have HL : Hid ((hashL digT (lst f n)).length = 2 ^ lvN n) := by
      have := hashL_length (D := digT) (l := lst f n) (by rw [lst_length]; exact hn)
      rw [lst_length] at this
      exact this
    have HS : Hid (∀ j, j < (hashL digT (lst f n)).length → ((hashL digT (lst f n)).getD j noT).size ≤ 1048576) := hash_sizes _
    have HR : Hid (rootT digT (lst f n) = (upN digT (lvN n) (hashL digT (lst f n))).getD 0 noT) := by
      show rootT digT (lst f n) = _
      unfold rootT
      rw [lst_length, if_pos hn]
    have hL5 := lvN_le n
    generalize hashL digT (lst f n) = H at HH HL HS HR
    generalize rootT digT (lst f n) = RT at HR ⊢
    generalize lvN n = L at HL HR hL5
    clear hA hs
    go_enter Tryd.func41, Tryd.ntmps41
    go_wp2_with fail
    refine HH.out.mono ?_
    rintro e w1 ⟨v1, rfl, hR1, hb1⟩
    have H0 : Hid (RowS w.heap.size w1 v1 H ∧ Below w.heap.size w w1 ∧ H.length = 2 ^ L ∧ RT = (upN digT L H).getD 0 noT ∧ (∀ j, j < H.length → (H.getD j noT).size ≤ 1048576)) := ⟨hR1, hb1, HL.out, HR.out, HS.out⟩
    clear hR1 hb1 HL HR HS HH
    go_wp2
    go_loopw [3] (fun v wr => ∃ (u : Value) (l : List ByteArray) (j : Nat), u = v ∧ j ≤ 5 ∧ Hid (RowS w.heap.size wr u l ∧ Below w.heap.size w wr ∧ l.length = 2 ^ j ∧ RT = (upN digT j l).getD 0 noT ∧ (∀ j, j < l.length → (l.getD j noT).size ≤ 1048576))) (fun v _ => slLen v)
    case atStart => exact ⟨_, H, L, rfl, hL5, H0⟩
    case round =>
      obtain ⟨u, l, j, rfl, hj, HD⟩ := hrel
      clear H0
      obtain ⟨a2, cp2, hu, hstr⟩ := HD.out.1.strs
      have HU : Hid (u = .slice a2 l.length cp2) := hu
      have HS : Hid (StrsAt wr a2 l.length wr.heap.size (fun j => l.getD j noT)) := hstr
      clear hu hstr
      have hlen := HD.out.2.2.1
      have hlnf : ∀ w, (Builtin.len_ #[33] 3 #[u]).run Tryd.prog w = .ok (.int .i64 (l.length : Int)) w := fun w => by rw [HU.out]; exact len_texts _ _ _ _ w
      by_cases h0 : j = 0
      · subst h0
        have hone : l.length = 1 := hlen
        have HV : Hid (RT = l.getD 0 noT) := HD.out.2.2.2.1
        obtain ⟨b, off, rfl, hb, hz⟩ := HS.out 0 (by omega)
        have hB := HD.out.2.1
        have hu2 := HU.out
        subst hu2
        rw [hone] at hlnf
        have hz' : wr.cell? ⟨b, off, none⟩ = some (.string RT) := by rw [HV.out]; simpa using hz
        clear HD HS hlen hz HV
        rw [hone]
        go_wp2
        go_ret
        exact ⟨rfl, hB⟩
      · obtain ⟨i, rfl⟩ : ∃ i, j = i + 1 := ⟨j - 1, by omega⟩
        have hp : 2 ^ (i + 1) ≤ 32 := by
          have : 2 ^ (i + 1) ≤ 2 ^ 5 := Nat.pow_le_pow_right (by decide) hj
          omega
        have hp2 : 0 < 2 ^ i := Nat.pow_pos (by decide)
        have hps : 2 ^ (i + 1) = 2 * 2 ^ i := by rw [Nat.pow_succ]; omega
        have HUP : Hid (Calls Tryd.prog 39 #[u] wr fun e w' => ∃ v, e = .returned v ∧ RowS wr.heap.size w' v (upL digT l) ∧ Below wr.heap.size wr w') := by
          have h := sUp_any a2 l.length cp2 (by omega) (fun j => l.getD j noT) HD.out.2.2.2.2 wr HS.out
          rw [lst_getD] at h
          rw [HU.out]
          exact h
        have HN : Hid ((upL digT l).length = 2 ^ i ∧ RT = (upN digT i (upL digT l)).getD 0 noT) := ⟨by rw [upL_length, hlen, hps]; omega, HD.out.2.2.2.1⟩
        have hgt : (1 : Int) < (l.length : Int) := by omega
        have HM : Hid (slLen u = l.length) := rowS_len HD.out.1
        have HM2 : Hid ((upL digT l).length < l.length) := by
          show (upL digT l).length < l.length
          rw [upL_length, hlen, hps]; omega
        have HB : Hid (Below w.heap.size w wr) := HD.out.2.1
        have HZ : Hid (∀ j, j < (upL digT l).length → ((upL digT l).getD j noT).size ≤ 1048576) := up_size
        generalize upL digT l = l2 at HUP HN HM2 HZ
        clear HD HS HU hp hp2 hps hlen
        go_wp2_with fail
        refine HUP.out.mono ?_
        rintro e w2 ⟨v2, rfl, hR2, hb2⟩
        have H2 : Hid (RowS w.heap.size w2 v2 l2 ∧ Below w.heap.size w w2) := ⟨owns_wide hR2 HB.out.size, HB.out.trans (hb2.mono HB.out.size)⟩
        clear hR2 hb2 HUP hlnf
        go_wp2
        go_roundw
        case rel => exact ⟨v2, l2, i, rfl, by omega, ⟨H2.out.1, H2.out.2, HN.out.1, HN.out.2, HZ.out⟩⟩
        case measure =>
          have h1 := rowS_len H2.out.1
          have h2 := HM.out
          have h3 := HM2.out
          omega
  · have hn' : (32 : Int) < (n : Int) := by omega
    have HR : Hid (rootT digT (lst f n) = noT) := by
      show rootT digT (lst f n) = _
      unfold rootT
      rw [lst_length, if_neg hn]
    generalize rootT digT (lst f n) = RT at HR ⊢
    clear hA hs
    go_enter Tryd.func41, Tryd.ntmps41
    go_wp2
    go_ret
    exact ⟨by rw [HR.out]; rfl, Below.refl _ _⟩

end Go.Proofs.YtlaoikpbgbckjaaDoor

/-
  The walks of the specification's tree of hashes: a leaf with its branch.
  (-DROP-: what the seat lacks is left out.)
-/
namespace Go.Proofs.YtlaoikpbgbckjaaDoor
open Go.RowKit

/-- A leaf with its branch, step by step. -/
def foldF (D : ByteArray → ByteArray) (f : Nat → ByteArray) (m : Nat) (x : ByteArray) : Nat → ByteArray
  | 0 => x
  | k + 1 => if m / 2 ^ k % 2 = 1 then D (f k ++ foldF D f m x k) else D (foldF D f m x k ++ f k)

theorem foldF_shift (D : ByteArray → ByteArray) (f : Nat → ByteArray) (m : Nat) (x : ByteArray) : ∀ n, foldF D f m x (n + 1) = foldF D (fun j => f (j + 1)) (m / 2) (if m % 2 = 1 then D (f 0 ++ x) else D (x ++ f 0)) n
  | 0 => by
    show (if m / 2 ^ 0 % 2 = 1 then D (f 0 ++ x) else D (x ++ f 0)) = _
    rw [Nat.pow_zero, Nat.div_one]
    rfl
  | n + 1 => by
    show (if m / 2 ^ (n + 1) % 2 = 1 then D (f (n + 1) ++ foldF D f m x (n + 1)) else D (foldF D f m x (n + 1) ++ f (n + 1))) = _
    rw [foldF_shift D f m x n]
    show _ = (if m / 2 / 2 ^ n % 2 = 1 then D (f (n + 1) ++ foldF D (fun j => f (j + 1)) (m / 2) (if m % 2 = 1 then D (f 0 ++ x) else D (x ++ f 0)) n) else D (foldF D (fun j => f (j + 1)) (m / 2) (if m % 2 = 1 then D (f 0 ++ x) else D (x ++ f 0)) n ++ f (n + 1)))
    rw [Nat.div_div_eq_div_mul, Nat.pow_succ, Nat.mul_comm (2 ^ n) 2]

theorem lst_cons (f : Nat → ByteArray) (n : Nat) : lst f (n + 1) = f 0 :: lst (fun j => f (j + 1)) n := by
  unfold lst
  rw [List.range_succ_eq_map, List.map_cons, List.map_map]
  rfl

theorem foldL_F (D : ByteArray → ByteArray) : ∀ (n : Nat) (f : Nat → ByteArray) (m : Nat) (x : ByteArray), foldL D x m (lst f n) = foldF D f m x n
  | 0, _, _, _ => rfl
  | n + 1, f, m, x => by
    rw [lst_cons, foldF_shift]
    show foldL D (if m % 2 = 1 then D (f 0 ++ x) else D (x ++ f 0)) (m / 2) (lst (fun j => f (j + 1)) n) = _
    exact foldL_F D n _ _ _

theorem foldF_size (f : Nat → ByteArray) (m : Nat) (x : ByteArray) (hx : x.size = 32) : ∀ k, (foldF digT f m x k).size = 32
  | 0 => hx
  | k + 1 => by
    show (if _ then digT _ else digT _).size = 32
    split <;> exact digT_size _

end Go.Proofs.YtlaoikpbgbckjaaDoor
