/-
  Texts of one's own, joined.
-/
import Derived.Test.YtbkfdafdchjakabJoined6
import Derived.Test.YtbkfdafdchjakabJoined30
import Derived.Test.YtbkfdafdchjakabJoined11
import Derived.Test.YtbkfdafdchjakabJoined26
import Derived.Test.YtbkfdafdchjakabJoined29
import Derived.Maps.AppendAt
import Derived.Test.YtbkfdafdchjakabJoined21
import Derived.Test.YtbkfdafdchjakabJoined27
import Derived.Test.YtbkfdafdchjakabQapI3
import Derived.Test.YtbkfdafdchjakabJoined25
import Derived.Test.YtbkfdafdchjakabJoined28

/-
  The walks of the program's sums: a point and others so often each; numbers, each so often the base.
  (-DROP-: what the seat lacks is left out.)
-/
namespace Go.Proofs.Ytbkfdafdchjakab
open Go.RowKit

set_option maxHeartbeats 1600000 in
set_option maxRecDepth 100000 in
theorem iWith_any (S0 : Pt) (am : Option Addr) (ml cm : Nat) (t : Nat → Int) (a : Option Addr) (n cp : Nat) (hmn : ml ≤ n) (hn : n ≤ 1048576) (f : Nat → Pt) (w : World) (hB : IntsAt w am ml w.heap.size t) (hA : PtsAt w a n w.heap.size f) :
    Calls Try.prog 86 #[pv S0, .slice am ml cm, .slice a n cp] w fun e w' => e = .returned (pv (wEach S0 t f ml)) ∧ Below w.heap.size w w' := by
  obtain ⟨W, hW, hb, hs, hr⟩ := boxes1r w 32 32 (pc S0) #[.int .i64 0, .int .i64 0, .bool false]
  have HA : Hid (PtsAt w a n w.heap.size f) := hA
  have HB : Hid (IntsAt w am ml w.heap.size t) := hB
  have HW0 : Hid (Blk W w.heap.size 32 (pc (wEach S0 t f 0)) ∧ Blk W (w.heap.size + 1) 32 #[.int .i64 0, .int .i64 0, .bool false] ∧ Below w.heap.size w W) := ⟨hs, hr, hb⟩
  have hl1 : w.heap.size + 1 < W.heap.size := hr.lt
  clear hA hB hs hr hb
  unfold pc at hW
  unfold pv
  go_enter Try.func86, Try.ntmps86
  go_wp2
  clear hW
  go_loopw [11] (fun i wr => ∃ k : Nat, i = .int .i64 (k : Int) ∧ k ≤ ml ∧ Hid (Blk wr w.heap.size 32 (pc (wEach S0 t f k)) ∧ Blk wr (w.heap.size + 1) 32 #[.int .i64 0, .int .i64 0, .bool false] ∧ Below w.heap.size w wr)) (fun i _ => ml - (intOf i).toNat)
  case atStart => exact ⟨0, rfl, Nat.zero_le _, HW0⟩
  case round =>
    obtain ⟨k, rfl, hkm, HW⟩ := hrel
    clear HW0
    by_cases hlm : k < ml
    · have hlm' : (k : Int) < (ml : Int) := by omega
      have hk0 : (0 : Int) ≤ (k : Int) := by omega
      have hlt : k < n := by omega
      have hlt' : (k : Int) < (n : Int) := by omega
      have hA1 := HA.out.on HW.out.2.2
      obtain ⟨b, off, rfl, hb, z0, z1, z2⟩ := hA1 k hlt
      obtain ⟨b2, o2, rfl, hb2, c2⟩ := (HB.out.on HW.out.2.2) k hlm
      have hs3 := HW.out.1
      have hr3 := HW.out.2.1
      have hB3 := HW.out.2.2
      have hbl : b < w.heap.size := hb
      have CT : Hid (∀ w, Calls Try.prog 57 #[.int .i64 (t k), pv (f k)] w fun e w' => e = .returned (pv (pTimes (t k) (f k))) ∧ Below w.heap.size w w') := iTimes_any (t k) (f k)
      have HS : Hid (∀ w, Calls Try.prog 123 #[pv (wEach S0 t f k), pv (pTimes (t k) (f k))] w fun e w' => e = .returned (pv (wEach S0 t f (k + 1))) ∧ Below w.heap.size w w') := iPAdd_any _ _
      generalize wEach S0 t f k = S at HS hs3
      obtain ⟨S2, hS2⟩ : ∃ S2, S2 = wEach S0 t f (k + 1) := ⟨_, rfl⟩
      rw [← hS2] at HS
      have HE : Hid (S2 = wEach S0 t f (k + 1)) := hS2
      clear hS2
      generalize pTimes (t k) (f k) = PT at HS CT
      generalize f k = F at CT z0 z1 z2
      generalize t k = y at CT c2
      unfold pv at HS CT
      unfold pc at hs3
      have Z : Hid (∀ w', Below wr.heap.size wr w' → w'.cell? ⟨b, off + k * 3, none⟩ = some (.int .i64 F.1) ∧ w'.cell? ⟨b, off + k * 3 + 1, none⟩ = some (.int .i64 F.2.1) ∧ w'.cell? ⟨b, off + k * 3 + 2, none⟩ = some (.bool F.2.2)) := fun w' hw => ⟨(hw.cell (p := ⟨b, off + k * 3, none⟩) (by show b < _; have := hB3.size; omega)).trans z0, (hw.cell (p := ⟨b, off + k * 3 + 1, none⟩) (by show b < _; have := hB3.size; omega)).trans z1, (hw.cell (p := ⟨b, off + k * 3 + 2, none⟩) (by show b < _; have := hB3.size; omega)).trans z2⟩
      have T0 : Below wr.heap.size wr wr.drew := (Below.refl _ _).drew
      clear HW hA1 hb z0 z1 z2
      go_wp2_with fail
      refine wp_region_last [(0, false), (1, false), (2, false), (3, false), (4, false), (5, false), (6, true), (7, true)] 8 (fun wz => Below wr.heap.size wr wz) mixes (by kernel_rfl) T0 ?_
      repeat (refine ord_float rfl rfl (fun K hK => ⟨_, (fun w' hw => by have q0 := (hs3.on hw hs3.lt).cell 0; have q1 :=  (hs3.on hw hs3.lt).cell 1; have q2 :=  (hs3.on hw hs3.lt).cell 2; have q3 :=  (Z.out _ hw).1; have q4 :=  (Z.out _ hw).2.1; have q5 :=  (Z.out _ hw).2.2; go_simp; exact rfl), ?_⟩); go_simp; refine hK _ ?_; clear hK K)
      refine ord_call rfl rfl (fun K hK => ⟨_, _, (by go_simp <;> first | exact rfl | exact ⟨rfl, rfl⟩), ?_⟩)
      refine (CT.out _).mono ?_
      rintro e u1 ⟨rfl, hu1⟩
      have T1 := below_then T0 hu1
      refine ⟨_, rfl, T1, ?_⟩
      go_simp
      refine hK _ _ ?_
      clear hK K
      refine ord_call rfl rfl (fun K hK => ⟨_, _, (by go_simp <;> first | exact rfl | exact ⟨rfl, rfl⟩), ?_⟩)
      refine (HS.out _).mono ?_
      rintro e u2 ⟨rfl, hu2⟩
      have T2 := below_then T1 hu2
      refine ⟨_, rfl, T2, ?_⟩
      go_simp
      refine hK _ _ ?_
      clear hK K
      refine ord_nil ?_
      have hs4 := hs3.on T2 hs3.lt
      have hr4 := hr3.on T2 hr3.lt
      have hB4 := below_then hB3 T2
      refine last_storeB (cs' := #[.int .i64 S2.1, .int .i64 S2.2.1, .bool S2.2.2]) rfl rfl rfl rfl rfl rfl hs4 infoP rfl (ones3 _ _ _) ?_
      intro V hs5 _ hoth hbel
      have hr5 := hoth _ _ _ (by omega) hr4
      have hB5 := hbel _ _ (by omega) hB4
      clear hoth hbel hs4 hr4 hB4 hs3 hr3 hB3 T0 T1 T2 hu1 hu2 Z CT HS
      go_wp2
      go_roundw
      case rel => exact ⟨k + 1, by go_num, hlm, ⟨by rw [← HE.out]; exact hs5, hr5, hB5⟩⟩
      case measure => simp [intOf]; omega
    · have hlm' : ¬ (k : Int) < (ml : Int) := by omega
      have HK : Hid (k = ml) := (show k = ml by omega)
      have hs3 := HW.out.1
      have hr3 := HW.out.2.1
      have hB3 := HW.out.2.2
      clear HW
      go_wp2_with (first | (refine load_blk rfl rfl rfl hs3 Try.underlying32 infoP ?_) | (refine store_blk (cs' := pc (wEach S0 t f k)) rfl rfl rfl rfl rfl hr3 infoP rfl (ones3 _ _ _) ?_; intro V h5 hoth hbel; have hbV := hbel _ _ (by omega) hB3; clear hoth hbel))
      refine bodyPost_ret_by (result_blk rfl rfl h5 Try.underlying32 infoP) rfl ⟨by rw [← HK.out]; rfl, hbV⟩

/-- Numbers, each so often the base. -/
def gxL (l : List Int) : List Pt := l.map gx
theorem gxL_len (l : List Int) : (gxL l).length = l.length := by simp [gxL]
theorem gxL_at (l : List Int) {j : Nat} (h : j < l.length) : (gxL l).getD j pZ = gx (l.getD j 0) := by simp [gxL, h]
theorem gxL_next (l : List Int) {k : Nat} (h : k < l.length) : gxL (l.take (k + 1)) = gxL (l.take k) ++ [gx (l.getD k 0)] := by
  have e : l.getD k 0 = l[k] := by simp [h]
  unfold gxL
  rw [List.take_succ_eq_append_getElem h, List.map_append, e]
  rfl

end Go.Proofs.Ytbkfdafdchjakab

/-
  What is mixed in one list from the first to the last: no program in here.
-/
namespace Go.Proofs.Ytbkfdafdchjakab

/-- In one list, each so often. -/
def mixS (L : List (List Int)) (w : List Int) (n : Nat) : Nat → List Int
  | 0 => List.replicate n 0
  | k + 1 => addSh (mixS L w n k) 0 (w.getD k 0) (L.getD k [])
theorem mixS_len (L : List (List Int)) (w : List Int) (n : Nat) : ∀ k, (mixS L w n k).length = n
  | 0 => by rw [mixS, List.length_replicate]
  | k + 1 => by rw [mixS, addSh_len, mixS_len L w n k]
theorem mixS_sc (L : List (List Int)) (w : List Int) (n : Nat) : ∀ k, (∀ i, i < k → (L.getD i []).length ≤ n) → ∀ j, Sc ((mixS L w n k).getD j 0)
  | 0, _, j => by rw [mixS, rep_at]; exact sc_zero
  | k + 1, h, j => by
    rw [mixS]
    exact addSh_sc 0 _ (by rw [mixS_len]; have := h k (by omega); omega) (mixS_sc L w n k fun i hi => h i (by omega)) j
theorem mixS_at (j : Nat) (L : List (List Int)) (w : List Int) (n : Nat) : ∀ k, (∀ i, i < k → (L.getD i []).length ≤ n) → Dp ((mixS L w n k).getD j 0 - sumZ (fun i => w.getD i 0 * (L.getD i []).getD j 0) k)
  | 0, _ => by
    rw [mixS, rep_at]
    exact dp_zero.of (by show (0 : Int) - 0 = 0; omega)
  | k + 1, h => by
    have ih := mixS_at j L w n k fun i hi => h i (by omega)
    have hl : 0 + (L.getD k []).length ≤ (mixS L w n k).length := by rw [mixS_len]; have := h k (by omega); omega
    rw [mixS, addSh_at _ 0 _ _ hl j, sumZ]
    unfold shF
    by_cases hj : j < (L.getD k []).length
    · rw [if_pos (by omega), Nat.sub_zero]
      exact ((dp_scAdd ((mixS L w n k).getD j 0) (scMul (w.getD k 0) ((L.getD k []).getD j 0))).add ((dp_scMul (w.getD k 0) ((L.getD k []).getD j 0)).add ih)).of (by omega)
    · rw [if_neg (by omega), getD_out (l := L.getD k []) (by omega)]
      exact ih.of (by omega)
theorem mix_same (L : List (List Int)) (w : List Int) (n k : Nat) (h : ∀ i, i < k → (L.getD i []).length ≤ n) : trimZ (mixS L w n k) = mixN L w k :=
  can_eq (Can.of_trim _ (mixS_sc L w n k h)) (mixN_can L w k) fun j => by
    rw [trimZ_at]
    exact ((mixS_at j L w n k h).sub (mixN_at j L w k)).of (by omega)

/-- The greatest length of the first so many. -/
def maxLn (L : List (List Int)) : Nat → Nat
  | 0 => 0
  | k + 1 => max (maxLn L k) (L.getD k []).length
theorem maxLn_le (L : List (List Int)) : ∀ k i, i < k → (L.getD i []).length ≤ maxLn L k
  | 0, _, h => by omega
  | k + 1, i, h => by
    rw [maxLn]
    by_cases e : i = k
    · subst e; omega
    · have := maxLn_le L k i (by omega); omega
theorem maxLn_big (L : List (List Int)) (b : Nat) (h : ∀ j, (L.getD j []).length ≤ b) : ∀ k, maxLn L k ≤ b
  | 0 => Nat.zero_le _
  | k + 1 => by rw [maxLn]; have := maxLn_big L b h k; have := h k; omega
theorem pMix_same (L : List (List Int)) (w : List Int) : trimZ (mixS L w (maxLn L (min L.length w.length)) (min L.length w.length)) = pMix L w := mix_same L w _ _ (maxLn_le L _)

/-- One less another. -/
theorem mix_less (p c : List Int) : pMix [p, c] [1, -1] = qAdd p (scl c (-1)) := can_eq (mixN_can _ _ _) (qAdd_can _ _) fun j => by
  have h1 := mixN_at j [p, c] [1, -1] 2
  have h2 := qAdd_at p (scl c (-1)) j
  have h3 := scl_at c (-1) j
  have e : sumZ (fun i => ([1, -1] : List Int).getD i 0 * (([p, c] : List (List Int)).getD i []).getD j 0) 2 = 0 + 1 * p.getD j 0 + -1 * c.getD j 0 := rfl
  rw [e] at h1
  exact ((h1.sub h2).sub h3).of (by show (mixN [p, c] [1, -1] 2).getD j 0 - _ = _; omega)

end Go.Proofs.Ytbkfdafdchjakab

/-
  The walks of the program's mixture of polynomials.
  (-DROP-: what the seat lacks is left out.)
-/
namespace Go.Proofs.Ytbkfdafdchjakab
open Go.RowKit

end Go.Proofs.Ytbkfdafdchjakab

/-
  The walks of the program's division.
  (-DROP-: what the seat lacks is left out.)
-/
namespace Go.Proofs.Ytbkfdafdchjakab
open Go.RowKit

theorem rep_set (i : Nat) (x : Int) (t : List Int) : (List.replicate (i + 1) 0 ++ t).set i x = List.replicate i 0 ++ (x :: t) := by
  rw [List.replicate_succ', List.append_assoc, List.set_append_right _ _ (by simp)]
  simp
theorem rep_get (i : Nat) (x : Int) (t : List Int) : (List.replicate i 0 ++ (x :: t)).getD i 0 = x := by
  rw [shift_getD, if_pos (Nat.le_refl _), Nat.sub_self]
  rfl

end Go.Proofs.Ytbkfdafdchjakab

/-
  The walk of the program's division, whole.
  (-DROP-: what the seat lacks is left out.)
-/
namespace Go.Proofs.Ytbkfdafdchjakab
open Go.RowKit

theorem lit0 (w : World) : RowZs w.heap.size (w.alloc (.cells #[] 3)) (.slice (some ⟨w.heap.size, 0, none⟩) 0 0) [] := own_lit w [] (by simp)
theorem lit0n (w : World) (g : Nat) (hg : g = w.heap.size) : RowZs g (w.alloc (.cells #[] 3)) (.slice (some ⟨g, 0, none⟩) 0 0) [] := by
  subst hg
  exact lit0 w

end Go.Proofs.Ytbkfdafdchjakab

/-
  The walk of the program's mixture of a system and numbers.
  (-DROP-: what the seat lacks is left out.)
-/
namespace Go.Proofs.Ytbkfdafdchjakab
open Go.RowKit

/-- What the mixture leaves. -/
def MixEnd (w : World) (wi pu : Int) (n : Nat) (ls : List (List Int)) (m : List Int) (e : Ending) (w' : World) : Prop :=
  ((sysOk wi pu n ls && wide m wi) = false ∧ e = .returned (.tuple #[.agg #[.slice none 0 0, .slice none 0 0, .slice none 0 0, .slice none 0 0], .bool false]) ∧ Below w.heap.size w w') ∨
  ((sysOk wi pu n ls && wide m wi) = true ∧ ∃ a0 n0 c0 a1 n1 c1 a2 n2 c2 a3 n3 c3, e = .returned (.tuple #[.agg #[.slice a0 n0 c0, .slice a1 n1 c1, .slice a2 n2 c2, .slice a3 n3 c3], .bool true]) ∧ ZAt w' w'.heap.size (.slice a0 n0 c0) (sideL ls n wi.toNat 0 m) ∧ ZAt w' w'.heap.size (.slice a1 n1 c1) (sideL ls n wi.toNat 1 m) ∧ ZAt w' w'.heap.size (.slice a2 n2 c2) (sideL ls n wi.toNat 2 m) ∧ ZAt w' w'.heap.size (.slice a3 n3 c3) (zerL n) ∧ Below w.heap.size w w')

end Go.Proofs.Ytbkfdafdchjakab

/-
  The walk of the program's keys: over what is told of how often each point is the base.
  (-DROP-: what the seat lacks is left out.)
-/
namespace Go.Proofs.Ytbkfdafdchjakab
open Go.RowKit

/-- The cells of a Maker. -/
def mkC (A B G D : Pt) (I U V L Z : Value) : Array Value := #[.int .i64 A.1, .int .i64 A.2.1, .bool A.2.2, .int .i64 B.1, .int .i64 B.2.1, .bool B.2.2, .int .i64 G.1, .int .i64 G.2.1, .bool G.2.2, .int .i64 D.1, .int .i64 D.2.1, .bool D.2.2, I, U, V, L, Z]

theorem onesMk (A B G D : Pt) (a0 : Option Addr) (n0 c0 : Nat) (a1 : Option Addr) (n1 c1 : Nat) (a2 : Option Addr) (n2 c2 : Nat) (a3 : Option Addr) (n3 c3 : Nat) (a4 : Option Addr) (n4 c4 : Nat) : (mkC A B G D (.slice a0 n0 c0) (.slice a1 n1 c1) (.slice a2 n2 c2) (.slice a3 n3 c3) (.slice a4 n4 c4)).all (·.oneCell') = true := by simp [mkC, Value.oneCell']
theorem onesMk0 : (#[.int .i64 0, .int .i64 0, .bool false, .int .i64 0, .int .i64 0, .bool false, .int .i64 0, .int .i64 0, .bool false, .int .i64 0, .int .i64 0, .bool false, .slice none 0 0, .slice none 0 0, .slice none 0 0, .slice none 0 0, .slice none 0 0] : Array Value).all (·.oneCell') = true := by simp [Value.oneCell']

/-- The contract of multiplesFor. -/
def MulC : Prop := ∀ (wi pu : Int) (_ : (Lit.int .i64 wi).wf = true) (a : Option Addr) (n c : Nat) (_ : n ≤ 9223372036854775807) (ls : List (List Int)) (_ : ∀ j, (ls.getD j []).length ≤ 9223372036854775807) (ta al be ga de : Int) (w : World) (_ : NAt 3 w w.heap.size (.slice a n c) n ls),
    Calls Try.prog 53 #[.agg #[.int .i64 ta, .int .i64 al, .int .i64 be, .int .i64 ga, .int .i64 de], .agg #[.int .i64 wi, .int .i64 pu, .slice a n c]] w fun e w' => MulEnd w wi pu n ls ta al be ga de e w'

/-- What the keys are. -/
def MkEnd (w : World) (wi pu : Int) (n : Nat) (ls : List (List Int)) (ta al be ga de : Int) (e : Ending) (w' : World) : Prop :=
  (toxB wi pu n ls ta al be ga de = false ∧ e = .returned (.tuple #[.agg #[.int .i64 0, .int .i64 0, .bool false, .int .i64 0, .int .i64 0, .bool false, .int .i64 0, .int .i64 0, .bool false, .int .i64 0, .int .i64 0, .bool false, .slice none 0 0, .slice none 0 0, .slice none 0 0, .slice none 0 0, .slice none 0 0], .bool false]) ∧ Below w.heap.size w w') ∨
  (toxB wi pu n ls ta al be ga de = true ∧ ∃ U V I L Z, e = .returned (.tuple #[.agg (mkC (gx al) (gx be) (gx ga) (gx de) I U V L Z), .bool true]) ∧ RowF 32 3 w.heap.size w' (vec5 U V I L Z) (vec5 wi.toNat wi.toNat (pu.toNat + 1) (wi.toNat - pu.toNat - 1) (n - 1)) (vec5 (ptsV (gxL (kUs ls n ta 0 wi.toNat))) (ptsV (gxL (kUs ls n ta 1 wi.toNat))) (ptsV (gxL (kIn ls n ta al be (scInv ga) (pu.toNat + 1)))) (ptsV (gxL (kLs ls n pu.toNat ta al be (scInv de) (wi.toNat - pu.toNat - 1)))) (ptsV (gxL (kZs n ta (scInv de) (n - 1))))) ∧ Below w.heap.size w w')

theorem rows_apart {e sz lo : Nat} {w : World} {v : Nat → Value} {n : Nat → Nat} {xs : Nat → List Value} (b : Nat → Nat) (h : ∀ i, i < 5 → w.ownsRow (b i) e sz (v i) (n i) (xs i)) (hlo : ∀ i, i < 5 → lo ≤ b i) (hb : ∀ i j k, i < 5 → j < 5 → i < j → (v i).ownBlock = some k → k < b j) : RowF e sz lo w v n xs := by
  refine ⟨fun i hi => owns_low (h i hi) (hlo i hi), fun i j k hi hj hne h1 h2 => ?_⟩
  rcases Nat.lt_or_ge i j with q | q
  · have := hb i j k hi hj q h1
    have := ((h j hj).lt k h2).1
    omega
  · have := hb j i k hj hi (by omega) h2
    have := ((h i hi).lt k h1).1
    omega
theorem owns_len {e sz lo : Nat} {w : World} {v : Value} {n n' : Nat} {xs : List Value} (h : w.ownsRow lo e sz v n xs) (hn : n = n') : w.ownsRow lo e sz v n' xs := hn ▸ h

end Go.Proofs.Ytbkfdafdchjakab
