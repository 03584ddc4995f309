/-
  The draws of the laws on the tree of hashes: the functions that the laws call.
  (-DROP-: what the seat lacks is left out.)
-/
import Derived.Test.YtkiljlmihoaaaaaDoorTreeDraw
namespace Go.Proofs.YtkiljlmihoaaaaaDoor
open Go.RowKit

set_option maxHeartbeats 1600000 in
set_option maxRecDepth 100000 in
theorem drawLeaves_any (len cap : Nat) (a : Option Addr) (hm : len ≤ 1048576) (w : World) (hA : ArgAt w a len w.heap.size) :
    Calls Tryd.prog 9 #[.slice a len cap] w fun e w' => ∃ v l, e = .returned v ∧ RowS w.heap.size w' v l ∧ Few l 10 ∧ 0 < l.length ∧ Below w.heap.size w w' := by
  obtain ⟨i0, hi, hz0, hz1, hz2⟩ := info_parts info9T
  have HA : Hid (ArgAt w a len w.heap.size) := hA
  clear hA
  go_enter Tryd.func9, Tryd.ntmps9
  go_wp2_with fail
  refine (new_any len cap a hm _ HA.out).mono ?_
  rintro e w1 ⟨rfl, hC, hA1, hb⟩
  have HS : Hid (CurEnd w1 w1 w.heap.size a len cap) := CurEnd.refl hC hA1
  have hl1 : w.heap.size < w1.heap.size := hC.lt
  have HB : Hid (Below w.heap.size w w1) := hb
  obtain ⟨D, hD⟩ : ∃ D : ByteArray, D = ⟨#[102, 105, 114, 115, 116]⟩ := ⟨_, rfl⟩
  have hD5 : D.size ≤ 5 := by rw [hD]; decide
  clear hC hA1 hb HA
  go_wp2
  go_loopw [4, 5] (fun v i wr => ∃ (u : Value) (k : Nat) (l : List ByteArray), u = v ∧ i = .int .i64 (k : Int) ∧ k ≤ 9 ∧ l.length = k + 1 ∧ wr.ownsRow w1.heap.size 9 1 u l.length (l.map Value.string) ∧ Hid (Few l (k + 1)) ∧ Hid (CurEnd w1 wr w.heap.size a len cap)) (fun _ i _ => 9 - (intOf i).toNat)
  case atStart => exact ⟨_, 0, [D], rfl, rfl, by omega, rfl, by rw [hD]; exact World.ownsRow_lit _ _ _ (Nat.le_refl _) (by simp [maxLen]) (by simp), ⟨Nat.le_refl _, fun x hx => by rw [List.mem_singleton.1 hx]; exact hD5⟩, HS.out.alloc _⟩
  case round =>
    obtain ⟨u, k, l, rfl, rfl, hk, hlk, hown, HF, HE⟩ := hrel
    clear HS hD hD5
    have HLK : Hid (l.length = k + 1) := hlk
    have hm63 : l.length + 1 ≤ maxLen := by unfold maxLen; omega
    have hm47 : (l.length + 1) * 16 ≤ 140737488355328 := by omega
    clear hlk
    go_wp2_with fail
    refine (below_any w.heap.size len cap a hm 9 (by omega) (by omega) _ HE.out.cur HE.out.arg).mono ?_
    rintro e w2 ⟨x, rfl, x0, x1, hE1⟩
    have hown1 := cur_row hE1 hown hl1
    have HE1 : Hid (CurEnd w1 w2 w.heap.size a len cap) := HE.out.trans hE1
    clear hE1 hown HE
    by_cases hlt : (k : Int) < x
    · go_wp2_with fail
      refine (below_any w.heap.size len cap a hm 5 (by omega) (by omega) _ HE1.out.cur HE1.out.arg).mono ?_
      rintro e w3 ⟨y, rfl, y0, y1, hE2⟩
      obtain ⟨yn, rfl⟩ : ∃ yn : Nat, y = (yn : Int) := ⟨y.toNat, by omega⟩
      have hown2 := cur_row hE2 hown1 hl1
      have HE2 : Hid (CurEnd w1 w3 w.heap.size a len cap) := HE1.out.trans hE2
      clear hE2 hown1 HE1
      go_wp2_with fail
      refine (drawn_any w.heap.size len cap a hm yn (by omega) _ HE2.out.cur HE2.out.arg).mono ?_
      rintro e w4 ⟨t, rfl, htl, hE3⟩
      have hown3 := cur_row hE3 hown2 hl1
      have HE3 : Hid (CurEnd w1 w4 w.heap.size a len cap) := HE2.out.trans hE3
      have HTZ : Hid ((ByteArray.mk t.toArray).size ≤ 5) := by
        show (ByteArray.mk t.toArray).size ≤ 5
        rw [size_t]; omega
      generalize ByteArray.mk t.toArray = d at HTZ ⊢
      have hsz : w1.heap.size ≤ w4.heap.size := HE3.out.grown.size
      clear hE3 hown2 HE2 htl
      go_wp2_with (at_builtin; refine wpList_append_own _ rfl _ _ 24 rfl w1.heap.size 9 i0 (.string ⟨#[]⟩) 1 16 Tryd.underlying24 hi hz0 hz1 hz2 rfl (by decide) _ _ _ rfl (hown3.alloc _) ⟨w4.heap.size, 0, none⟩ 1 1 [.string d] rfl rfl (cell_one_new _ _ _) (one_str _) hm63 hm47 (room_for hsz _) ?_)
      intro v' w7 hown' hgrow _
      have R7 : w7.ownsRow w1.heap.size 9 1 v' (l ++ [d]).length ((l ++ [d]).map Value.string) := RowS.push hown'
      have HE7 : Hid (CurEnd w1 w7 w.heap.size a len cap) := (HE3.out.alloc _).push hgrow (fun k hk => by have := (hown3.lt k hk).1; omega) (fun k hk => (hown3.lt k hk).1)
      have HF7 : Hid (Few (l ++ [d]) (k + 1 + 1)) := HF.out.push HTZ.out
      have HL7 : Hid ((l ++ [d]).length = k + 1 + 1) := by
        show (l ++ [d]).length = k + 1 + 1
        rw [List.length_append, HLK.out]
        rfl
      clear hown' hgrow hown3 HE3 HF HTZ HLK
      go_wp2
      go_roundw
      case rel => exact ⟨_, k + 1, l ++ [d], rfl, by go_num, by omega, HL7.out, R7, HF7, HE7⟩
      case measure => simp [intOf]; omega
    · have HR : Hid (RowS w.heap.size w2 u l) := owns_wide hown1 (by omega)
      have HF2 : Hid (Few l 10) := ⟨by have := HLK.out; omega, HF.out.size⟩
      have HP : Hid (0 < l.length) := by show 0 < l.length; rw [HLK.out]; omega
      have HB2 : Hid (Below w.heap.size w w2) := HB.out.trans (below_of_cur HE1.out hl1)
      clear hown1
      go_wp2
      go_ret
      exact ⟨_, l, rfl, HR.out, HF2.out, HP.out, HB2.out⟩

set_option maxHeartbeats 800000 in
set_option maxRecDepth 100000 in
theorem drawRootOf_any (len cap : Nat) (a : Option Addr) (hm : len ≤ 1048576) (w : World) (hA : ArgAt w a len w.heap.size) :
    Calls Tryd.prog 15 #[.slice a len cap] w fun e w' => ∃ v l, e = .returned v ∧ RowS w.heap.size w' v l ∧ Few l 33 ∧ Below w.heap.size w w' := by
  have HA : Hid (ArgAt w a len w.heap.size) := hA
  clear hA
  go_enter Tryd.func15, Tryd.ntmps15
  go_wp2_with fail
  refine (new_any len cap a hm _ HA.out).mono ?_
  rintro e w1 ⟨rfl, hC, hA1, hb⟩
  have HS : Hid (CurEnd w1 w1 w.heap.size a len cap) := CurEnd.refl hC hA1
  have hl1 : w.heap.size < w1.heap.size := hC.lt
  have HB : Hid (Below w.heap.size w w1) := hb
  clear hC hA1 hb HA
  go_wp2_with fail
  refine (leaves_any w.heap.size len cap a hm _ HS.out.cur HS.out.arg).mono ?_
  rintro e w2 ⟨v, l, rfl, hR, hF, hE⟩
  have H2 : Hid (RowS w.heap.size w2 v l ∧ Few l 33 ∧ Below w.heap.size w w2) := ⟨owns_wide hR (by omega), hF, HB.out.trans (below_of_cur hE hl1)⟩
  clear hR hF hE
  go_wp2
  go_ret
  exact ⟨v, l, rfl, H2.out.1, H2.out.2.1, H2.out.2.2⟩

set_option maxHeartbeats 800000 in
set_option maxRecDepth 100000 in
theorem drawBranch_any (len cap : Nat) (a : Option Addr) (hm : len ≤ 1048576) (w : World) (hA : ArgAt w a len w.heap.size) :
    Calls Tryd.prog 16 #[.slice a len cap] w fun e w' => ∃ v l x, e = .returned (.tuple #[v, .int .i64 x]) ∧ RowS w.heap.size w' v l ∧ Few l 33 ∧ Below w.heap.size w w' := by
  have HA : Hid (ArgAt w a len w.heap.size) := hA
  clear hA
  go_enter Tryd.func16, Tryd.ntmps16
  go_wp2_with fail
  refine (new_any len cap a hm _ HA.out).mono ?_
  rintro e w1 ⟨rfl, hC, hA1, hb⟩
  have HS : Hid (CurEnd w1 w1 w.heap.size a len cap) := CurEnd.refl hC hA1
  have hl1 : w.heap.size < w1.heap.size := hC.lt
  have HB : Hid (Below w.heap.size w w1) := hb
  clear hC hA1 hb HA
  go_wp2_with fail
  refine (placeT_any w.heap.size len cap a hm 7 (by decide) (by decide) _ HS.out.cur HS.out.arg).mono ?_
  rintro e w2 ⟨x, rfl, hE⟩
  have HE2 : Hid (CurEnd w1 w2 w.heap.size a len cap) := HS.out.trans hE
  clear hE
  go_wp2_with fail
  refine (leaves_any w.heap.size len cap a hm _ HE2.out.cur HE2.out.arg).mono ?_
  rintro e w3 ⟨v, l, rfl, hR, hF, hE⟩
  have H2 : Hid (RowS w.heap.size w3 v l ∧ Few l 33 ∧ Below w.heap.size w w3) := ⟨owns_wide hR (by have := HE2.out.grown.size; omega), hF, HB.out.trans (below_of_cur (HE2.out.trans hE) hl1)⟩
  clear hR hF hE
  go_wp2
  go_ret2
  exact ⟨v, l, x, rfl, H2.out.1, H2.out.2.1, H2.out.2.2⟩

set_option maxHeartbeats 800000 in
set_option maxRecDepth 100000 in
theorem drawLevels_any (len cap : Nat) (a : Option Addr) (hm : len ≤ 1048576) (w : World) (hA : ArgAt w a len w.heap.size) :
    Calls Tryd.prog 17 #[.slice a len cap] w fun e w' => ∃ x, e = .returned (.int .i64 x) ∧ Below w.heap.size w w' := by
  have HA : Hid (ArgAt w a len w.heap.size) := hA
  clear hA
  go_enter Tryd.func17, Tryd.ntmps17
  go_wp2_with fail
  refine (new_any len cap a hm _ HA.out).mono ?_
  rintro e w1 ⟨rfl, hC, hA1, hb⟩
  have HS : Hid (CurEnd w1 w1 w.heap.size a len cap) := CurEnd.refl hC hA1
  have hl1 : w.heap.size < w1.heap.size := hC.lt
  have HB : Hid (Below w.heap.size w w1) := hb
  clear hC hA1 hb HA
  go_wp2_with fail
  refine (placeT_any w.heap.size len cap a hm 32 (by decide) (by decide) _ HS.out.cur HS.out.arg).mono ?_
  rintro e w2 ⟨x, rfl, hE⟩
  have H2 : Hid (Below w.heap.size w w2) := HB.out.trans (below_of_cur hE hl1)
  clear hE
  go_wp2
  go_ret
  exact ⟨x, rfl, H2.out⟩

/-- What a leaf with its branch may be. -/
structure Some3 (l : List ByteArray) : Prop where
  len : l.length ≤ 8
  size : ∀ j, j < l.length → (l.getD j noT).size ≤ 1048576

theorem branch_sizes : ∀ (k : Nat) (l : List ByteArray) (i : Nat), (∀ j, j < l.length → (l.getD j noT).size ≤ 1048576) → ∀ x ∈ brL digT k l i, x.size ≤ 1048576
  | 0, _, _, _, x, hx => by cases hx
  | k + 1, l, i, hs, x, hx => by
    rw [br_next] at hx
    rcases List.mem_cons.1 hx with h | h
    · rw [h]
      by_cases hb : beside i < l.length
      · exact hs _ hb
      · rw [List.getD_eq_getElem?_getD, List.getElem?_eq_none (by omega)]
        decide
    · exact branch_sizes k (upL digT l) (i / 2) up_size x h

set_option maxHeartbeats 1600000 in
set_option maxRecDepth 100000 in
theorem drawFold_any (len cap : Nat) (a : Option Addr) (hm : len ≤ 1048576) (w : World) (hA : ArgAt w a len w.heap.size) :
    Calls Tryd.prog 14 #[.slice a len cap] w fun e w' => ∃ t x v l, e = .returned (.tuple #[.string t, .int .i64 x, v]) ∧ t.size ≤ 5 ∧ RowS w.heap.size w' v l ∧ Some3 l ∧ Below w.heap.size w w' := by
  obtain ⟨i0, hi, hz0, hz1, hz2⟩ := info_parts info9T
  have HA : Hid (ArgAt w a len w.heap.size) := hA
  clear hA
  go_enter Tryd.func14, Tryd.ntmps14
  go_wp2_with fail
  refine (new_any len cap a hm _ HA.out).mono ?_
  rintro e w1 ⟨rfl, hC, hA1, hb⟩
  have HS : Hid (CurEnd w1 w1 w.heap.size a len cap) := CurEnd.refl hC hA1
  have hl1 : w.heap.size < w1.heap.size := hC.lt
  have HB : Hid (Below w.heap.size w w1) := hb
  clear hC hA1 hb HA
  go_wp2_with fail
  refine (leaves_any w.heap.size len cap a hm _ HS.out.cur HS.out.arg).mono ?_
  rintro e w2 ⟨v, l, rfl, hR, hF, hE⟩
  have HF : Hid (Few l 33) := hF
  have hR2 : RowS w1.heap.size w2 v l := hR
  have HE2 : Hid (CurEnd w1 w2 w.heap.size a len cap) := HS.out.trans hE
  clear hR hF hE
  go_wp2_with fail
  refine (below_any w.heap.size len cap a hm 9 (by omega) (by omega) _ HE2.out.cur HE2.out.arg).mono ?_
  rintro e w3 ⟨x, rfl, x0, x1, hE⟩
  obtain ⟨i, rfl⟩ : ∃ i : Nat, x = (i : Int) := ⟨x.toNat, by omega⟩
  have hR3 : RowS w1.heap.size w3 v l := cur_row hE hR2 hl1
  have HE3 : Hid (CurEnd w1 w3 w.heap.size a len cap) := HE2.out.trans hE
  have hs13 : w1.heap.size ≤ w3.heap.size := HE3.out.grown.size
  clear hE hR2 HE2
  obtain ⟨a2, cp2, hv, hstr⟩ := hR3.strs
  subst hv
  have HST : Hid (StrsAt w3 a2 l.length w3.heap.size (fun j => l.getD j noT)) := hstr
  have HBR : Hid (Calls Tryd.prog 21 #[.slice a2 l.length cp2, .int .i64 (i : Int)] w3 fun e w' => ∃ v, e = .returned v ∧ RowS w3.heap.size w' v (branchT digT l (i : Int)) ∧ Below w3.heap.size w3 w') := by
    have h := sBranch_any a2 l.length cp2 (by have := HF.out.len; omega) (i : Int) (fun j => l.getD j noT) (fun j hj => by have := HF.out.at hj; omega) w3 hstr
    rw [lst_getD] at h
    exact h
  have HBL : Hid ((branchT digT l (i : Int)).length ≤ 5) := branch_len _ _ _
  have HBZ : Hid (∀ x ∈ branchT digT l (i : Int), x.size ≤ 1048576) := by
    show ∀ x ∈ branchT digT l (i : Int), x.size ≤ 1048576
    unfold branchT
    split
    · exact branch_sizes _ _ _ (hash_sizes l)
    · intro x hx; cases hx
  have HLF : Hid (∀ j, j < l.length → (l.getD j noT).size ≤ 5) := fun j hj => HF.out.at hj
  generalize branchT digT l (i : Int) = br at HBR HBL HBZ
  obtain ⟨n, hn⟩ : ∃ n, n = l.length := ⟨_, rfl⟩
  rw [← hn] at HST HBR HLF ⊢
  have hn33 : n ≤ 33 := by have := HF.out.len; omega
  clear hstr hR3 hn HF
  go_wp2_with fail
  refine HBR.out.mono ?_
  rintro e w4 ⟨vb, rfl, hRb, hb4⟩
  have hRb4 : RowS w1.heap.size w4 vb br := owns_wide hRb hs13
  have HE4 : Hid (CurEnd w1 w4 w.heap.size a len cap) := cur_below HE3.out hb4
  have HST4 : Hid (StrsAt w4 a2 n w4.heap.size (fun j => l.getD j noT)) := (HST.out.on hb4).wide hb4.size
  clear hRb hb4 HE3 HST HBR
  have HS3 : Hid (Some3 br) := ⟨by have := HBL.out; omega, fun j hj => by
    rw [List.getD_eq_getElem?_getD, List.getElem?_eq_getElem hj]
    exact HBZ.out _ (List.getElem_mem hj)⟩
  have HS4 : Hid (Some3 (br ++ [⟨#[120]⟩, ⟨#[121]⟩, ⟨#[122]⟩])) := ⟨by have := HBL.out; rw [List.length_append]; show br.length + 3 ≤ 8; omega, fun j hj => by
    rw [List.getD_eq_getElem?_getD, List.getElem?_eq_getElem hj]
    rcases List.mem_append.1 (List.getElem_mem hj) with h | h
    · exact HBZ.out _ h
    · have h2 : ∀ x ∈ ([⟨#[120]⟩, ⟨#[121]⟩, ⟨#[122]⟩] : List ByteArray), x.size ≤ 1048576 := by decide
      exact h2 _ h⟩
  by_cases hlt : i < n
  · have hlt' : (i : Int) < (n : Int) := by omega
    have hi0 : (0 : Int) ≤ (i : Int) := by omega
    obtain ⟨b, off, rfl, hb, hz'⟩ := HST4.out i hlt
    have hz : w4.cell? ⟨b, off + i, none⟩ = some (.string (l.getD i noT)) := hz'
    clear hz'
    have hv5 := HLF.out i hlt
    generalize l.getD i noT = t at hz hv5
    have HV : Hid (t.size ≤ 5) := hv5
    clear HLF hv5
    go_wp2_with fail
    refine (below_any w.heap.size len cap a hm 6 (by omega) (by omega) _ HE4.out.cur HE4.out.arg).mono ?_
    rintro e w5 ⟨y, rfl, y0, y1, hE⟩
    have hRb5 : RowS w1.heap.size w5 vb br := cur_row hE hRb4 hl1
    have HE5 : Hid (CurEnd w1 w5 w.heap.size a len cap) := HE4.out.trans hE
    have hs15 : w1.heap.size ≤ w5.heap.size := HE5.out.grown.size
    clear hE hRb4 HE4 HST4
    rcases (show y = 0 ∨ y = 1 ∨ 2 ≤ y by omega) with rfl | rfl | hy2
    · go_wp2_with fail
      refine (placeT_any w.heap.size len cap a hm 31 (by decide) (by decide) _ HE5.out.cur HE5.out.arg).mono ?_
      rintro e w6 ⟨z, rfl, hE⟩
      have HR6 : Hid (RowS w.heap.size w6 vb br) := owns_wide (cur_row hE hRb5 hl1) (by omega)
      have HB6 : Hid (Below w.heap.size w w6) := HB.out.trans (below_of_cur (HE5.out.trans hE) hl1)
      clear hE hRb5 HE5
      go_wp2
      go_ret3
      exact ⟨t, z, vb, br, rfl, HV.out, HR6.out, HS3.out, HB6.out⟩
    · have hm63 : br.length + 3 ≤ maxLen := by have := HBL.out; unfold maxLen; omega
      have hm47 : (br.length + 3) * 16 ≤ 140737488355328 := by have := HBL.out; omega
      go_wp2_with (at_builtin; refine wpList_append_own _ rfl _ _ 24 rfl w1.heap.size 9 i0 (.string ⟨#[]⟩) 1 16 Tryd.underlying24 hi hz0 hz1 hz2 rfl (by decide) _ _ _ rfl (hRb5.alloc _) ⟨w5.heap.size, 0, none⟩ 3 3 [.string ⟨#[120]⟩, .string ⟨#[121]⟩, .string ⟨#[122]⟩] rfl rfl (cell_threeT_new _ _ _ _ _) (by intro u hu; simp at hu; rcases hu with rfl | rfl | rfl <;> rfl) hm63 hm47 (room_for hs15 _) ?_)
      intro v' w7 hown' hgrow _
      have HR7 : Hid (RowS w.heap.size w7 v' (br ++ [⟨#[120]⟩, ⟨#[121]⟩, ⟨#[122]⟩])) := by
        have h1 : RowS w1.heap.size w7 v' (br ++ [⟨#[120]⟩, ⟨#[121]⟩, ⟨#[122]⟩]) := by
          unfold RowS
          rw [List.length_append, List.map_append]
          exact hown'
        exact owns_wide h1 (by omega)
      have HE7 : Hid (CurEnd w1 w7 w.heap.size a len cap) := (HE5.out.alloc _).push hgrow (fun k hk => by have := (hRb5.lt k hk).1; omega) (fun k hk => (hRb5.lt k hk).1)
      have HB7 : Hid (Below w.heap.size w w7) := HB.out.trans (below_of_cur HE7.out hl1)
      clear hown' hgrow hRb5 HE5 HE7
      go_wp2
      go_ret3
      exact ⟨t, (i : Int), v', _, rfl, HV.out, HR7.out, HS4.out, HB7.out⟩
    · have hy0 : ¬ y = 0 := by omega
      have hy1 : ¬ y = 1 := by omega
      have HR6 : Hid (RowS w.heap.size w5 vb br) := owns_wide hRb5 (by omega)
      have HB6 : Hid (Below w.heap.size w w5) := HB.out.trans (below_of_cur HE5.out hl1)
      clear hRb5 HE5
      go_wp2
      go_ret3
      exact ⟨t, (i : Int), vb, br, rfl, HV.out, HR6.out, HS3.out, HB6.out⟩
  · have hlt' : ¬ (i : Int) < (n : Int) := by omega
    have HV : Hid ((⟨#[]⟩ : ByteArray).size ≤ 5) := (show (0 : Nat) ≤ 5 by omega)
    clear HLF
    go_wp2_with fail
    refine (below_any w.heap.size len cap a hm 6 (by omega) (by omega) _ HE4.out.cur HE4.out.arg).mono ?_
    rintro e w5 ⟨y, rfl, y0, y1, hE⟩
    have hRb5 : RowS w1.heap.size w5 vb br := cur_row hE hRb4 hl1
    have HE5 : Hid (CurEnd w1 w5 w.heap.size a len cap) := HE4.out.trans hE
    have hs15 : w1.heap.size ≤ w5.heap.size := HE5.out.grown.size
    clear hE hRb4 HE4 HST4
    rcases (show y = 0 ∨ y = 1 ∨ 2 ≤ y by omega) with rfl | rfl | hy2
    · go_wp2_with fail
      refine (placeT_any w.heap.size len cap a hm 31 (by decide) (by decide) _ HE5.out.cur HE5.out.arg).mono ?_
      rintro e w6 ⟨z, rfl, hE⟩
      have HR6 : Hid (RowS w.heap.size w6 vb br) := owns_wide (cur_row hE hRb5 hl1) (by omega)
      have HB6 : Hid (Below w.heap.size w w6) := HB.out.trans (below_of_cur (HE5.out.trans hE) hl1)
      clear hE hRb5 HE5
      go_wp2
      go_ret3
      exact ⟨(⟨#[]⟩ : ByteArray), z, vb, br, rfl, HV.out, HR6.out, HS3.out, HB6.out⟩
    · have hm63 : br.length + 3 ≤ maxLen := by have := HBL.out; unfold maxLen; omega
      have hm47 : (br.length + 3) * 16 ≤ 140737488355328 := by have := HBL.out; omega
      go_wp2_with (at_builtin; refine wpList_append_own _ rfl _ _ 24 rfl w1.heap.size 9 i0 (.string ⟨#[]⟩) 1 16 Tryd.underlying24 hi hz0 hz1 hz2 rfl (by decide) _ _ _ rfl (hRb5.alloc _) ⟨w5.heap.size, 0, none⟩ 3 3 [.string ⟨#[120]⟩, .string ⟨#[121]⟩, .string ⟨#[122]⟩] rfl rfl (cell_threeT_new _ _ _ _ _) (by intro u hu; simp at hu; rcases hu with rfl | rfl | rfl <;> rfl) hm63 hm47 (room_for hs15 _) ?_)
      intro v' w7 hown' hgrow _
      have HR7 : Hid (RowS w.heap.size w7 v' (br ++ [⟨#[120]⟩, ⟨#[121]⟩, ⟨#[122]⟩])) := by
        have h1 : RowS w1.heap.size w7 v' (br ++ [⟨#[120]⟩, ⟨#[121]⟩, ⟨#[122]⟩]) := by
          unfold RowS
          rw [List.length_append, List.map_append]
          exact hown'
        exact owns_wide h1 (by omega)
      have HE7 : Hid (CurEnd w1 w7 w.heap.size a len cap) := (HE5.out.alloc _).push hgrow (fun k hk => by have := (hRb5.lt k hk).1; omega) (fun k hk => (hRb5.lt k hk).1)
      have HB7 : Hid (Below w.heap.size w w7) := HB.out.trans (below_of_cur HE7.out hl1)
      clear hown' hgrow hRb5 HE5 HE7
      go_wp2
      go_ret3
      exact ⟨(⟨#[]⟩ : ByteArray), (i : Int), v', _, rfl, HV.out, HR7.out, HS4.out, HB7.out⟩
    · have hy0 : ¬ y = 0 := by omega
      have hy1 : ¬ y = 1 := by omega
      have HR6 : Hid (RowS w.heap.size w5 vb br) := owns_wide hRb5 (by omega)
      have HB6 : Hid (Below w.heap.size w w5) := HB.out.trans (below_of_cur HE5.out hl1)
      clear hRb5 HE5
      go_wp2
      go_ret3
      exact ⟨(⟨#[]⟩ : ByteArray), (i : Int), vb, br, rfl, HV.out, HR6.out, HS3.out, HB6.out⟩

end Go.Proofs.YtkiljlmihoaaaaaDoor
