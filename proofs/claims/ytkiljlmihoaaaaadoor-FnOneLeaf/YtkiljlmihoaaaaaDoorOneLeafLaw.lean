/-
  The walk of the law that two leaves which make one root at one place are one, or two unlike texts have one digest.
  (-DROP-: what the seat lacks is left out.)
-/
import Derived.Test.YtkiljlmihoaaaaaDoorBranchesLaw
import Derived.Test.YtkiljlmihoaaaaaDoorClash
namespace Go.Proofs.YtkiljlmihoaaaaaDoor
open Go.RowKit

/-- The texts that are hashed on the way up. -/
def sF (D : ByteArray → ByteArray) (t : ByteArray) (i : Nat) (b : Nat → ByteArray) : Nat → ByteArray
  | 0 => t
  | k + 1 => if i / 2 ^ k % 2 = 1 then b k ++ D (sF D t i b k) else D (sF D t i b k) ++ b k

theorem foldF_sF (D : ByteArray → ByteArray) (t : ByteArray) (i : Nat) (b : Nat → ByteArray) : ∀ k, foldF D b i (D t) k = D (sF D t i b k)
  | 0 => rfl
  | k + 1 => by
    show (if i / 2 ^ k % 2 = 1 then D (b k ++ foldF D b i (D t) k) else D (foldF D b i (D t) k ++ b k)) = D (if i / 2 ^ k % 2 = 1 then b k ++ D (sF D t i b k) else D (sF D t i b k) ++ b k)
    rw [foldF_sF D t i b k]
    split <;> rfl

theorem sF_clash (D : ByteArray → ByteArray) {t u : ByteArray} (i : Nat) (b : Nat → ByteArray) (hne : t ≠ u) : ∀ n, D (sF D t i b n) = D (sF D u i b n) → ∃ k, k < n + 1 ∧ sF D t i b k ≠ sF D u i b k ∧ D (sF D t i b k) = D (sF D u i b k)
  | 0, h => ⟨0, by omega, hne, h⟩
  | n + 1, h => by
    by_cases e : sF D t i b (n + 1) = sF D u i b (n + 1)
    · have h2 : D (sF D t i b n) = D (sF D u i b n) := by
        have e' : (if i / 2 ^ n % 2 = 1 then b n ++ D (sF D t i b n) else D (sF D t i b n) ++ b n) = (if i / 2 ^ n % 2 = 1 then b n ++ D (sF D u i b n) else D (sF D u i b n) ++ b n) := e
        split at e'
        · exact cat_left e'
        · exact cat_right e'
      obtain ⟨k, hk, h3⟩ := sF_clash D i b hne n h2
      exact ⟨k, by omega, h3⟩
    · exact ⟨n + 1, by omega, e, h⟩

theorem fold_sF (t : ByteArray) (i : Nat) (br : List ByteArray) (h5 : br.length ≤ 5) (hi : i < 2 ^ br.length) : foldT digT t (i : Int) br = digT (sF digT t i (fun j => br.getD j noT) br.length) := by
  unfold foldT
  rw [if_pos ⟨h5, by omega, by exact_mod_cast hi⟩]
  have h := foldL_F digT br.length (fun j => br.getD j noT) i (digT t)
  rw [lst_getD] at h
  show foldL digT (digT t) i br = _
  rw [h, foldF_sF]

theorem add_ne (t : ByteArray) : t ≠ t ++ ⟨#[120]⟩ := fun e => by
  have := congrArg ByteArray.size e
  rw [ByteArray.size_append] at this
  have h1 : (⟨#[120]⟩ : ByteArray).size = 1 := rfl
  omega

theorem sF_size {t : ByteArray} (i : Nat) {b : Nat → ByteArray} {n : Nat} (ht : t.size ≤ 1048576) (hb : ∀ j, j < n → (b j).size ≤ 1048576) : ∀ k, k ≤ n → (sF digT t i b k).size ≤ 2097152
  | 0, _ => by show t.size ≤ _; omega
  | k + 1, hk => by
    have h1 := hb k (by omega)
    have h2 := digT_size (sF digT t i b k)
    show (if i / 2 ^ k % 2 = 1 then b k ++ digT (sF digT t i b k) else digT (sF digT t i b k) ++ b k).size ≤ _
    split
    · rw [ByteArray.size_append]; omega
    · rw [ByteArray.size_append]; omega

theorem row_one {w : World} {g B : Nat} {t : ByteArray} (h : Blk w g 9 #[.string t]) (hB : B ≤ g) : RowS B w (.slice (some ⟨g, 0, none⟩) 1 1) [t] :=
  ⟨rfl, .inr ⟨g, 1, #[.string t], rfl, hB, h, Nat.le_refl _, by unfold maxLen; omega, rfl, rfl⟩⟩

/-- Two rows lie apart. -/
def Apart (u v : Value) : Prop := ∀ k, u.ownBlock = some k → v.ownBlock ≠ some k
theorem Apart.row {u v : Value} (h : Apart u v) : v.ownBlock = none ∨ v.ownBlock ≠ u.ownBlock := by
  cases hv : v.ownBlock with
  | none => exact .inl rfl
  | some k => exact .inr fun e => h k e.symm hv
theorem Apart.symm {u v : Value} (h : Apart u v) : Apart v u := fun k hk hu => h k hu hk
theorem Apart.next {u u' v : Value} {s : Nat} (h : Apart u v) (hor : u'.ownBlock = u.ownBlock ∨ u'.ownBlock = some s) (hlt : ∀ k, v.ownBlock = some k → k < s) : Apart u' v := fun k hk hv => by
  rcases hor with e | e
  · exact h k (e ▸ hk) hv
  · rw [e] at hk
    have h1 := hlt k hv
    injection hk with h2
    omega

/-- What the loop over the branch needs. -/
structure OneAt (w5 wr : World) (vs va : Value) (S O : Nat → ByteArray) (k : Nat) : Prop where
  seen : RowS w5.heap.size wr vs (lst S (k + 1))
  also : RowS w5.heap.size wr va (lst O (k + 1))
  apart : Apart vs va
  bel : Below w5.heap.size w5 wr

set_option maxHeartbeats 3200000 in
set_option maxRecDepth 100000 in
theorem lawOneLeaf (a : Option Addr) (len cap : Nat) (hm : len ≤ 9223372036854775807) (w : World) (hA : ArgAt w a len w.heap.size) (hT : Tab w) :
    Calls Tryd.prog 4 #[.slice a len cap] w fun e w' => e = .returned (.bool true) ∧ Below w.heap.size w w' := by
  obtain ⟨i0, hi, hz0, hz1, hz2⟩ := info_parts info9T
  have HA : Hid (ArgAt w a len w.heap.size) := hA
  have HT : Hid (∀ w', Below w.heap.size w w' → Tab w') := fun w' hb => hT.on hb hT.1
  clear hA hT
  by_cases hb : 1048576 < len
  · have hd : decide (1048576 < len) = true := decide_eq_true hb
    go_enter Tryd.func4, Tryd.ntmps4
    go_wp2_with (go_at_call 8; refine (big_any _ _ _ hm _).mono ?_; rintro e w0 ⟨rfl, rfl⟩)
    go_ret
    exact ⟨rfl, Below.refl _ _⟩
  have hd : decide (1048576 < len) = false := decide_eq_false hb
  have hm1 : len ≤ 1048576 := by omega
  go_enter Tryd.func4, Tryd.ntmps4
  go_wp2_with (go_at_call 8; refine (big_any _ _ _ hm _).mono ?_; rintro e w0 ⟨rfl, rfl⟩)
  refine (drawLeaves_any len cap a hm1 _ HA.out).mono ?_
  rintro e w1 ⟨v, l, rfl, hR1, hF, hp, hb1⟩
  have HF : Hid (Few l 10) := hF
  have HS : Hid (∀ j, j < l.length → (l.getD j noT).size ≤ 1048576) := fun j hj => by have := hF.at hj; omega
  have hl10 : l.length ≤ 10 := hF.len
  have HB1 : Hid (Below w.heap.size w w1) := hb1
  have R1 : Hid (RowS w.heap.size w1 v l) := hR1
  obtain ⟨al, cl, hv, _⟩ := hR1.strs
  subst hv
  clear hR1 hF hb1
  go_wp2_with fail
  refine (places_any len cap a hm1 _ (arg_up HA.out HB1.out)).mono ?_
  rintro e w2 ⟨gp, cp, x, rfl, hg2, _, hx, hb2⟩
  obtain ⟨hx0, hc0⟩ := hx 0 (by decide)
  have R2 : Hid (RowS w.heap.size w2 (.slice al l.length cl) l) := owns_on R1.out hb2
  have HB2 : Hid (Below w.heap.size w w2) := HB1.out.trans (hb2.mono HB1.out.size)
  generalize x 0 = x0 at hx0 hc0
  have hmm : Int.tmod (x0 : Int) (l.length : Int) = ((x0 % l.length : Nat) : Int) := by rw [Int.tmod_eq_emod_of_nonneg (Int.natCast_nonneg _)]; omega
  have hml : x0 % l.length < l.length := Nat.mod_lt _ hp
  have hl0 : ¬ (l.length : Int) = 0 := by omega
  generalize x0 % l.length = m at hmm hml
  clear hx hb2 R1 HB1 hg2
  have hml' : (m : Int) < (l.length : Int) := by omega
  have hm0' : (0 : Int) ≤ (m : Int) := by omega
  -- the facts of the place
  have HFB := fold_branch (D := digT) (l := l) (by omega) hml
  have h5 : (branchT digT l (m : Int)).length ≤ 5 := branch_len _ _ _
  have HBS : Hid (∀ j, j < (branchT digT l (m : Int)).length → ((branchT digT l (m : Int)).getD j noT).size ≤ 1048576) := branch_small l _
  have hm2 : m < 2 ^ (branchT digT l (m : Int)).length := by
    rw [HFB.2]
    exact Nat.lt_of_lt_of_le hml (lvN_pow (by omega))
  have HRS : Hid ((rootT digT l).size = 32) := root_size (by omega) hp
  have HR1 : Hid (rootT digT l = digT (sF digT (l.getD m noT) m (fun j => (branchT digT l (m : Int)).getD j noT) (branchT digT l (m : Int)).length)) := by
    show rootT digT l = _
    rw [← HFB.1, fold_sF _ m _ h5 hm2]
  have HO : Hid (∀ t, foldT digT t (m : Int) (branchT digT l (m : Int)) = digT (sF digT t m (fun j => (branchT digT l (m : Int)).getD j noT) (branchT digT l (m : Int)).length)) := fun t => fold_sF t m _ h5 hm2
  have htz := HF.out.at hml
  have HBC : Hid (Calls Tryd.prog 11 #[.slice al l.length cl, .int .i64 (m : Int)] w2 fun e w' => ∃ u, e = .returned u ∧ RowS w2.heap.size w' u (branchT digT l (m : Int)) ∧ Below w2.heap.size w2 w') := iBranch_row (m : Int) R2.out (by omega) HS.out (HT.out _ HB2.out)
  have HRC : Hid (∀ w', RowS w.heap.size w' (.slice al l.length cl) l → Tab w' → Calls Tryd.prog 10 #[.slice al l.length cl] w' fun e w'' => e = .returned (.string (rootT digT l)) ∧ Below w'.heap.size w' w'') := fun w' h h' => iRoot_row h (by omega) HS.out h'
  clear HFB hm2
  generalize branchT digT l (m : Int) = br at h5 HBS HR1 HO HBC
  go_wp2_with fail
  refine HBC.out.mono ?_
  rintro e w3 ⟨u, rfl, hR3, hb3⟩
  have R3 : Hid (RowS w.heap.size w3 (.slice al l.length cl) l) := owns_on R2.out hb3
  have U3 : Hid (RowS w2.heap.size w3 u br) := hR3
  have HB3 : Hid (Below w.heap.size w w3) := HB2.out.trans (hb3.mono HB2.out.size)
  obtain ⟨au, cu, hu, _⟩ := hR3.strs
  subst hu
  clear hR3 hb3 R2 HB2 HBC hc0
  obtain ⟨b0, off0, hal, _, hzl'⟩ := R3.out.at m hml
  subst hal
  have hzl : w3.cell? ⟨b0, off0 + m, none⟩ = some (.string (l.getD m noT)) := hzl'
  clear hzl'
  have HNE : Hid (l.getD m noT ≠ l.getD m noT ++ ⟨#[120]⟩) := add_ne _
  have HOZ : Hid ((l.getD m noT ++ ⟨#[120]⟩).size ≤ 1048576) := by
    show (l.getD m noT ++ ⟨#[120]⟩).size ≤ 1048576
    rw [ByteArray.size_append]
    have h1 : (⟨#[120]⟩ : ByteArray).size = 1 := rfl
    omega
  generalize l.getD m noT = t at hzl HR1 htz HNE HOZ
  have hx1 : (⟨#[120]⟩ : ByteArray).size = 1 := rfl
  obtain ⟨o, ho⟩ : ∃ o, o = t ++ ⟨#[120]⟩ := ⟨_, rfl⟩
  have hoe := ho.symm
  rw [hoe] at HNE HOZ
  clear ho
  go_wp2_with fail
  refine (HRC.out _ R3.out (HT.out _ HB3.out)).mono ?_
  rintro e w4 ⟨rfl, hb4⟩
  have R4 : Hid (RowS w.heap.size w4 (.slice (some ⟨b0, off0, none⟩) l.length cl) l) := owns_on R3.out hb4
  have U4 : Hid (RowS w2.heap.size w4 (.slice au br.length cu) br) := owns_on U3.out hb4
  have HB4 : Hid (Below w.heap.size w w4) := HB3.out.trans (hb4.mono HB3.out.size)
  have hzl4 : w4.cell? ⟨b0, off0 + m, none⟩ = some (.string t) := (hb4.cell (p := ⟨b0, off0 + m, none⟩) (show b0 < _ from World.block_lt_of_cell? w3 _ hzl)).trans hzl
  clear hb4 R3 U3 HB3 HRC hzl hoe hx1
  generalize rootT digT l = RT at HR1 HRS ⊢
  have HFC : Hid (∀ B w', RowS B w' (.slice au br.length cu) br → Tab w' → Calls Tryd.prog 13 #[.string o, .int .i64 (m : Int), .slice au br.length cu] w' fun e w'' => e = .returned (.string (foldT digT o (m : Int) br)) ∧ Below w'.heap.size w' w'') := fun B w' h h' => iFold_row o HOZ.out (m : Int) h (by omega) HBS.out h'
  have HFS : Hid (∀ B w', RowS B w' (.slice au br.length cu) br → Calls Tryd.prog 18 #[.string o, .int .i64 (m : Int), .slice au br.length cu] w' fun e w'' => e = .returned (.string (foldT digT o (m : Int) br)) ∧ Below w'.heap.size w' w'') := fun B w' h => sFold_row o HOZ.out (m : Int) h (by omega) HBS.out
  have HO1 : Hid (foldT digT o (m : Int) br = digT (sF digT o m (fun j => br.getD j noT) br.length)) := HO.out o
  have HFZ : Hid ((foldT digT o (m : Int) br).size = 32) := by show (foldT digT o (m : Int) br).size = 32; rw [HO1.out, digT_size]
  generalize foldT digT o (m : Int) br = FO at HFC HFS HO1 HFZ
  go_wp2_with fail
  refine (HFC.out _ _ U4.out (HT.out _ HB4.out)).mono ?_
  rintro e w5 ⟨rfl, hb5⟩
  have U5 : Hid (RowS w2.heap.size w5 (.slice au br.length cu) br) := owns_on U4.out hb5
  have HB5 : Hid (Below w.heap.size w w5) := HB4.out.trans (hb5.mono HB4.out.size)
  have hzl5 : w5.cell? ⟨b0, off0 + m, none⟩ = some (.string t) := (hb5.cell (p := ⟨b0, off0 + m, none⟩) (show b0 < _ from World.block_lt_of_cell? w4 _ hzl4)).trans hzl4
  have hbl5 : b0 < w5.heap.size := World.block_lt_of_cell? w5 _ hzl5
  clear hb5 R4 U4 HB4 hzl4 HFC HO
  by_cases hs : FO = RT
  · have HHT : Hid (∃ k, k < br.length + 1 ∧ Hit (sF digT t m (fun j => br.getD j noT) k) (sF digT o m (fun j => br.getD j noT) k)) :=
      sF_clash digT m _ HNE.out br.length (by rw [← HR1.out, ← HO1.out, hs])
    subst hs
    obtain ⟨S, O, bf, hbf, HS0, HO0, HSX, HOX, HHT', HSZ, HOZ'⟩ : ∃ (S O bf : Nat → ByteArray), (∀ j, br.getD j noT = bf j) ∧ Hid (S 0 = t) ∧ Hid (O 0 = o) ∧ Hid (∀ k, S (k + 1) = if m / 2 ^ k % 2 = 1 then bf k ++ digT (S k) else digT (S k) ++ bf k) ∧ Hid (∀ k, O (k + 1) = if m / 2 ^ k % 2 = 1 then bf k ++ digT (O k) else digT (O k) ++ bf k) ∧ Hid (∃ k, k < br.length + 1 ∧ Hit (S k) (O k)) ∧ Hid (∀ k, k ≤ br.length → (S k).size ≤ 2097152) ∧ Hid (∀ k, k ≤ br.length → (O k).size ≤ 2097152) :=
      ⟨sF digT t m (fun j => br.getD j noT), sF digT o m (fun j => br.getD j noT), fun j => br.getD j noT, fun _ => rfl, rfl, rfl, fun _ => rfl, fun _ => rfl, HHT.out, sF_size m (by omega) HBS.out, sF_size m HOZ.out HBS.out⟩
    have HBZ : Hid (∀ j, j < br.length → (bf j).size ≤ 1048576) := fun j hj => by rw [← hbf]; exact HBS.out j hj
    have HUB : Hid (StrsAt w5 au br.length w5.heap.size bf) := U5.out.at.congr fun j _ => hbf j
    have HDS0 : Hid (∀ w, Calls Tryd.prog 24 #[.string t] w fun e w' => e = .returned (.string (digT (S 0))) ∧ Below w.heap.size w w') := by rw [HS0.out]; exact sDig_any t (by omega)
    have HDO0 : Hid (∀ w, Calls Tryd.prog 24 #[.string o] w fun e w' => e = .returned (.string (digT (O 0))) ∧ Below w.heap.size w w') := by rw [HO0.out]; exact sDig_any o (by have := HOZ.out; omega)
    obtain ⟨W, hW, hbW, hb1', hb2'⟩ : ∃ W, (w5.alloc (.cells #[.string t] 9)).alloc (.cells #[.string o] 9) = W ∧ Below w5.heap.size w5 W ∧ Blk W w5.heap.size 9 #[.string t] ∧ Blk W (w5.heap.size + 1) 9 #[.string o] :=
      ⟨_, rfl, ((Below.refl _ _).alloc (Nat.le_refl _) _).alloc (by simp) _, (Blk.new w5 9 #[.string t]).alloc _, Blk.newAt (by simp)⟩
    have HRW : Hid (OneAt w5 W (.slice (some ⟨w5.heap.size, 0, none⟩) 1 1) (.slice (some ⟨w5.heap.size + 1, 0, none⟩) 1 1) S O 0) := by
      refine ⟨?_, ?_, ?_, hbW⟩
      · show RowS _ _ _ [S 0]
        rw [HS0.out]; exact row_one hb1' (Nat.le_refl _)
      · show RowS _ _ _ [O 0]
        rw [HO0.out]; exact row_one hb2' (by omega)
      · intro k h1 h2
        have e1 : some w5.heap.size = some k := h1
        have e2 : some (w5.heap.size + 1) = some k := h2
        injection e1 with e1
        injection e2 with e2
        omega
    have hzW : W.cell? ⟨b0, off0 + m, none⟩ = some (.string t) := (hbW.cell (p := ⟨b0, off0 + m, none⟩) hbl5).trans hzl5
    have hzA : (w5.alloc (.cells #[.string t] 9)).cell? ⟨b0, off0 + m, none⟩ = some (.string t) := (((Below.refl w5.heap.size w5).alloc (Nat.le_refl _) _).cell (p := ⟨b0, off0 + m, none⟩) hbl5).trans hzl5
    clear hbW hb1' hb2' HHT HR1 HO1 HFZ HRS HNE HOZ HBS hbf HS0 HO0 HFS
    go_wp2_with fail
    clear hW hzW hzA hzl5
    refine (HDS0.out _).mono ?_
    rintro e w6 ⟨rfl, hb6⟩
    go_wp2_with fail
    refine (HDO0.out _).mono ?_
    rintro e w7 ⟨rfl, hb7⟩
    have H7 : Hid (OneAt w5 w7 (.slice (some ⟨w5.heap.size, 0, none⟩) 1 1) (.slice (some ⟨w5.heap.size + 1, 0, none⟩) 1 1) S O 0) := by
      have hb := below_then hb6 hb7
      exact ⟨owns_on HRW.out.seen hb, owns_on HRW.out.also hb, HRW.out.apart, HRW.out.bel.trans (hb.mono HRW.out.bel.size)⟩
    clear hb6 hb7 HRW HDS0 HDO0
    go_wp2
    go_loopw [10, 11, 12, 13, 14] (fun s' a' x' y' i wr => ∃ (vs va : Value) (k : Nat), vs = s' ∧ va = a' ∧ x' = .string (digT (S k)) ∧ y' = .string (digT (O k)) ∧ i = .int .i64 (k : Int) ∧ k ≤ br.length ∧ Hid (OneAt w5 wr vs va S O k)) (fun _ _ _ _ i _ => br.length - (intOf i).toNat)
    case atStart => exact ⟨_, _, 0, rfl, rfl, rfl, rfl, rfl, Nat.zero_le _, H7⟩
    case round =>
      obtain ⟨vs, va, k, rfl, rfl, rfl, rfl, rfl, hk, HD⟩ := hrel
      clear H7
      by_cases hlt : k < br.length
      · have hlt' : (k : Int) < (br.length : Int) := by omega
        have hk0 : (0 : Int) ≤ (k : Int) := by omega
        obtain ⟨bb, boff, hbe, hbb, hbc⟩ := (HUB.out.on HD.out.bel) k hlt
        subst hbe
        have hku : IntKind.u64.wrap (k : Int) = (k : Int) := IntWalk.u64_in _ (by omega)
        have hsh : (m : Int) / 2 ^ k = ((m / 2 ^ k : Nat) : Int) := by rw [Int.natCast_ediv, Int.natCast_pow]; rfl
        have hrm : Int.tmod ((m / 2 ^ k : Nat) : Int) 2 = ((m / 2 ^ k % 2 : Nat) : Int) := by rw [Int.tmod_eq_emod_of_nonneg (Int.natCast_nonneg _)]; omega
        have hbz := HBZ.out k hlt
        have hxz : (digT (S k)).size = 32 := digT_size _
        have hyz : (digT (O k)).size = 32 := digT_size _
        have hown := HD.out.seen
        have hal := HD.out.also
        have HAP : Hid (Apart vs va) := HD.out.apart
        have HB : Hid (Below w5.heap.size w5 wr) := HD.out.bel
        have hsz : w5.heap.size ≤ wr.heap.size := HB.out.size
        have hm63 : (lst S (k + 1)).length + 1 ≤ maxLen := by rw [lst_length]; unfold maxLen; omega
        have hm47 : ((lst S (k + 1)).length + 1) * 16 ≤ 140737488355328 := by rw [lst_length]; omega
        have hm63' : (lst O (k + 1)).length + 1 ≤ maxLen := by rw [lst_length]; unfold maxLen; omega
        have hm47' : ((lst O (k + 1)).length + 1) * 16 ≤ 140737488355328 := by rw [lst_length]; omega
        have HS1 : Hid (lst S (k + 1 + 1) = lst S (k + 1) ++ [S (k + 1)]) := lst_next S (k + 1)
        have HO1' : Hid (lst O (k + 1 + 1) = lst O (k + 1) ++ [O (k + 1)]) := lst_next O (k + 1)
        have HDS : Hid (∀ w, Calls Tryd.prog 24 #[.string (S (k + 1))] w fun e w' => e = .returned (.string (digT (S (k + 1)))) ∧ Below w.heap.size w w') := sDig_any _ (HSZ.out _ hlt)
        have HDO : Hid (∀ w, Calls Tryd.prog 24 #[.string (O (k + 1))] w fun e w' => e = .returned (.string (digT (O (k + 1)))) ∧ Below w.heap.size w w') := sDig_any _ (HOZ'.out _ hlt)
        have HSn := HSX.out k
        have HOn := HOX.out k
        clear HD hbb
        by_cases hbit : m / 2 ^ k % 2 = 1
        · rw [if_pos hbit] at HSn HOn
          rw [hbit] at hrm
          have HE1 : Hid (bf k ++ digT (S k) = S (k + 1)) := HSn.symm
          have HE2 : Hid (bf k ++ digT (O k) = O (k + 1)) := HOn.symm
          clear HSn HOn hbit
          generalize m / 2 ^ k = mm at hsh hrm
          obtain ⟨sx, HX1⟩ : ∃ sx, Hid (digT (S (k + 1)) = sx) := ⟨_, rfl⟩
          obtain ⟨ox, HY1⟩ : ∃ ox, Hid (digT (O (k + 1)) = ox) := ⟨_, rfl⟩
          rw [HX1.out] at HDS
          rw [HY1.out] at HDO
          obtain ⟨sn, HN1⟩ : ∃ sn, Hid (S (k + 1) = sn) := ⟨_, rfl⟩
          obtain ⟨on, HN2⟩ : ∃ on, Hid (O (k + 1) = on) := ⟨_, rfl⟩
          rw [HN1.out] at HDS HE1 HS1
          rw [HN2.out] at HDO HE2 HO1'
          obtain ⟨bk, HBK⟩ : ∃ bk, Hid (bf k = bk) := ⟨_, rfl⟩
          rw [HBK.out] at hbc hbz HE1 HE2
          obtain ⟨xk, HXK⟩ : ∃ xk, digT (S k) = xk := ⟨_, rfl⟩
          obtain ⟨yk, HYK⟩ : ∃ yk, digT (O k) = yk := ⟨_, rfl⟩
          rw [HXK] at hxz HE1 ⊢
          rw [HYK] at hyz HE2 ⊢
          clear HXK HYK
          have e1 : bk ++ xk = sn := HE1.out
          have e2 : bk ++ yk = on := HE2.out
          clear HE1 HE2
          go_wp2_with (at_builtin; refine wpList_append_own_at _ rfl _ _ 24 rfl w5.heap.size 9 i0 (.string ⟨#[]⟩) 1 16 Tryd.underlying24 hi hz0 hz1 hz2 rfl (by decide) _ _ _ rfl (hown.alloc _) ⟨wr.heap.size, 0, none⟩ 1 1 [.string sn] rfl rfl (cell_one_new _ _ _) (one_str _) hm63 hm47 (room_for hsz _) ?_)
          intro vs' w8 hown' hgrow _ hor
          have hS8 : w8.ownsRow w5.heap.size 9 1 vs' ((lst S (k + 1)) ++ [sn]).length (((lst S (k + 1)) ++ [sn]).map Value.string) := RowS.push hown'
          have hO8 : w8.ownsRow w5.heap.size 9 1 va (lst O (k + 1)).length ((lst O (k + 1)).map Value.string) := World.ownsRow.kept (hal.alloc _) hgrow HAP.out.row
          have HAP8 : Hid (Apart vs' va) := HAP.out.next hor fun k hk => by have := (hal.lt k hk).2; simp; omega
          have HB8 : Hid (Below w5.heap.size w5 w8) := (HB.out.alloc HB.out.size _).grown hgrow (by simp; omega) (fun k hk => (hown.lt k hk).1)
          have hsz8 : w5.heap.size ≤ w8.heap.size := HB8.out.size
          clear hown' hgrow hor hown hal HAP HB hbc
          go_wp2_with (at_builtin; refine wpList_append_own_at _ rfl _ _ 24 rfl w5.heap.size 9 i0 (.string ⟨#[]⟩) 1 16 Tryd.underlying24 hi hz0 hz1 hz2 rfl (by decide) _ _ _ rfl (hO8.alloc _) ⟨w8.heap.size, 0, none⟩ 1 1 [.string on] rfl rfl (cell_one_new _ _ _) (one_str _) hm63' hm47' (room_for hsz8 _) ?_)
          intro va' w9 hown' hgrow _ hor
          have hO9 : w9.ownsRow w5.heap.size 9 1 va' ((lst O (k + 1)) ++ [on]).length (((lst O (k + 1)) ++ [on]).map Value.string) := RowS.push hown'
          have hS9 : w9.ownsRow w5.heap.size 9 1 vs' ((lst S (k + 1)) ++ [sn]).length (((lst S (k + 1)) ++ [sn]).map Value.string) := World.ownsRow.kept (hS8.alloc _) hgrow HAP8.out.symm.row
          have HAP9 : Hid (Apart vs' va') := (HAP8.out.symm.next hor fun k hk => by have := (hS8.lt k hk).2; simp; omega).symm
          have HB9 : Hid (Below w5.heap.size w5 w9) := (HB8.out.alloc HB8.out.size _).grown hgrow (by simp; omega) (fun k hk => (hO8.lt k hk).1)
          have H9 : Hid (RowS w5.heap.size w9 vs' (lst S (k + 1 + 1)) ∧ RowS w5.heap.size w9 va' (lst O (k + 1 + 1))) := ⟨by rw [HS1.out]; exact hS9, by rw [HO1'.out]; exact hO9⟩
          clear hown' hgrow hor hO8 hS8 HAP8 HB8 hO9 hS9
          go_wp2_with fail
          refine (HDS.out _).mono ?_
          rintro e w10 ⟨rfl, hb10⟩
          go_wp2_with fail
          refine (HDO.out _).mono ?_
          rintro e w11 ⟨rfl, hb11⟩
          have H11 : Hid (OneAt w5 w11 vs' va' S O (k + 1)) := by
            have hb := below_then hb10 hb11
            exact ⟨owns_on H9.out.1 hb, owns_on H9.out.2 hb, HAP9.out, HB9.out.trans (hb.mono HB9.out.size)⟩
          clear hb10 hb11 H9 HAP9 HB9
          go_wp2
          go_roundw
          case rel => exact ⟨vs', va', k + 1, rfl, rfl, by rw [HX1.out], by rw [HY1.out], by go_num, hlt, H11⟩
          case measure => simp [intOf]; omega
        · rw [if_neg hbit] at HSn HOn
          have hb0 : m / 2 ^ k % 2 = 0 := by omega
          rw [hb0] at hrm
          have HE1 : Hid (digT (S k) ++ bf k = S (k + 1)) := HSn.symm
          have HE2 : Hid (digT (O k) ++ bf k = O (k + 1)) := HOn.symm
          clear HSn HOn hbit hb0
          generalize m / 2 ^ k = mm at hsh hrm
          obtain ⟨sx, HX1⟩ : ∃ sx, Hid (digT (S (k + 1)) = sx) := ⟨_, rfl⟩
          obtain ⟨ox, HY1⟩ : ∃ ox, Hid (digT (O (k + 1)) = ox) := ⟨_, rfl⟩
          rw [HX1.out] at HDS
          rw [HY1.out] at HDO
          obtain ⟨sn, HN1⟩ : ∃ sn, Hid (S (k + 1) = sn) := ⟨_, rfl⟩
          obtain ⟨on, HN2⟩ : ∃ on, Hid (O (k + 1) = on) := ⟨_, rfl⟩
          rw [HN1.out] at HDS HE1 HS1
          rw [HN2.out] at HDO HE2 HO1'
          obtain ⟨bk, HBK⟩ : ∃ bk, Hid (bf k = bk) := ⟨_, rfl⟩
          rw [HBK.out] at hbc hbz HE1 HE2
          obtain ⟨xk, HXK⟩ : ∃ xk, digT (S k) = xk := ⟨_, rfl⟩
          obtain ⟨yk, HYK⟩ : ∃ yk, digT (O k) = yk := ⟨_, rfl⟩
          rw [HXK] at hxz HE1 ⊢
          rw [HYK] at hyz HE2 ⊢
          clear HXK HYK
          have e1 : xk ++ bk = sn := HE1.out
          have e2 : yk ++ bk = on := HE2.out
          clear HE1 HE2
          go_wp2_with (at_builtin; refine wpList_append_own_at _ rfl _ _ 24 rfl w5.heap.size 9 i0 (.string ⟨#[]⟩) 1 16 Tryd.underlying24 hi hz0 hz1 hz2 rfl (by decide) _ _ _ rfl (hown.alloc _) ⟨wr.heap.size, 0, none⟩ 1 1 [.string sn] rfl rfl (cell_one_new _ _ _) (one_str _) hm63 hm47 (room_for hsz _) ?_)
          intro vs' w8 hown' hgrow _ hor
          have hS8 : w8.ownsRow w5.heap.size 9 1 vs' ((lst S (k + 1)) ++ [sn]).length (((lst S (k + 1)) ++ [sn]).map Value.string) := RowS.push hown'
          have hO8 : w8.ownsRow w5.heap.size 9 1 va (lst O (k + 1)).length ((lst O (k + 1)).map Value.string) := World.ownsRow.kept (hal.alloc _) hgrow HAP.out.row
          have HAP8 : Hid (Apart vs' va) := HAP.out.next hor fun k hk => by have := (hal.lt k hk).2; simp; omega
          have HB8 : Hid (Below w5.heap.size w5 w8) := (HB.out.alloc HB.out.size _).grown hgrow (by simp; omega) (fun k hk => (hown.lt k hk).1)
          have hsz8 : w5.heap.size ≤ w8.heap.size := HB8.out.size
          clear hown' hgrow hor hown hal HAP HB hbc
          go_wp2_with (at_builtin; refine wpList_append_own_at _ rfl _ _ 24 rfl w5.heap.size 9 i0 (.string ⟨#[]⟩) 1 16 Tryd.underlying24 hi hz0 hz1 hz2 rfl (by decide) _ _ _ rfl (hO8.alloc _) ⟨w8.heap.size, 0, none⟩ 1 1 [.string on] rfl rfl (cell_one_new _ _ _) (one_str _) hm63' hm47' (room_for hsz8 _) ?_)
          intro va' w9 hown' hgrow _ hor
          have hO9 : w9.ownsRow w5.heap.size 9 1 va' ((lst O (k + 1)) ++ [on]).length (((lst O (k + 1)) ++ [on]).map Value.string) := RowS.push hown'
          have hS9 : w9.ownsRow w5.heap.size 9 1 vs' ((lst S (k + 1)) ++ [sn]).length (((lst S (k + 1)) ++ [sn]).map Value.string) := World.ownsRow.kept (hS8.alloc _) hgrow HAP8.out.symm.row
          have HAP9 : Hid (Apart vs' va') := (HAP8.out.symm.next hor fun k hk => by have := (hS8.lt k hk).2; simp; omega).symm
          have HB9 : Hid (Below w5.heap.size w5 w9) := (HB8.out.alloc HB8.out.size _).grown hgrow (by simp; omega) (fun k hk => (hO8.lt k hk).1)
          have H9 : Hid (RowS w5.heap.size w9 vs' (lst S (k + 1 + 1)) ∧ RowS w5.heap.size w9 va' (lst O (k + 1 + 1))) := ⟨by rw [HS1.out]; exact hS9, by rw [HO1'.out]; exact hO9⟩
          clear hown' hgrow hor hO8 hS8 HAP8 HB8 hO9 hS9
          go_wp2_with fail
          refine (HDS.out _).mono ?_
          rintro e w10 ⟨rfl, hb10⟩
          go_wp2_with fail
          refine (HDO.out _).mono ?_
          rintro e w11 ⟨rfl, hb11⟩
          have H11 : Hid (OneAt w5 w11 vs' va' S O (k + 1)) := by
            have hb := below_then hb10 hb11
            exact ⟨owns_on H9.out.1 hb, owns_on H9.out.2 hb, HAP9.out, HB9.out.trans (hb.mono HB9.out.size)⟩
          clear hb10 hb11 H9 HAP9 HB9
          go_wp2
          go_roundw
          case rel => exact ⟨vs', va', k + 1, rfl, rfl, by rw [HX1.out], by rw [HY1.out], by go_num, hlt, H11⟩
          case measure => simp [intOf]; omega
      · have hlt' : ¬ (k : Int) < (br.length : Int) := by omega
        have hke : k = br.length := by omega
        subst hke
        obtain ⟨as1, cs1, hvs, hss⟩ := HD.out.seen.strs
        obtain ⟨ao, co, hva, hso⟩ := HD.out.also.strs
        rw [lst_length] at hvs hva hss hso
        have HCL : Hid (Calls Tryd.prog 25 #[vs, va] wr fun e w' => ClashEnd S O (br.length + 1) (br.length + 1) wr e w') := by
          rw [hvs, hva]
          refine clash_any as1 ao (br.length + 1) (br.length + 1) cs1 co (by omega) (by omega) S O (fun j hj => HSZ.out j (by omega)) (fun j hj => HOZ'.out j (by omega)) wr (hss.congr fun j hj => lst_at S hj) (hso.congr fun j hj => lst_at O hj)
        have HB8 : Hid (Below w.heap.size w wr) := HB5.out.trans (HD.out.bel.mono HB5.out.size)
        clear hvs hva hss hso HD
        go_wp2_with fail
        refine HCL.out.mono ?_
        rintro e w8 ⟨r, rfl, hr, hb8⟩
        have hrt : r = true := hr (by obtain ⟨k, hk, h⟩ := HHT'.out; exact ⟨k, k, hk, hk, h⟩)
        subst hrt
        have HB9 : Hid (Below w.heap.size w w8) := HB8.out.trans (hb8.mono HB8.out.size)
        clear hb8 hr HCL
        go_wp2
        go_ret
        exact ⟨rfl, HB9.out⟩
  · have hs' := tl_ne hs
    have h32 : FO.size = 32 := HFZ.out
    have h32' : RT.size = 32 := HRS.out
    clear HR1 HO1 HFZ HRS HNE HOZ
    go_wp2_with fail
    refine (HFS.out _ _ U5.out).mono ?_
    rintro e w6 ⟨rfl, hb6⟩
    have HB6 : Hid (Below w.heap.size w w6) := HB5.out.trans (hb6.mono HB5.out.size)
    clear hb6 hzl5
    go_wp2
    go_ret
    exact ⟨rfl, HB6.out⟩

end Go.Proofs.YtkiljlmihoaaaaaDoor
