/-
  The draws of the laws on the tree of hashes.
  (-DROP-: what the seat lacks is left out.)
-/
import Derived.Test.YtkiljlmihoaaaaaDoorTreeLaws
import Derived.Test.YtkiljlmihoaaaaaDoorDraw
namespace Go.Proofs.YtkiljlmihoaaaaaDoor
open Go.RowKit

theorem cur_row {w1 w2 : World} {c len cap B e sz n : Nat} {a : Option Addr} {v : Value} {xs : List Value} (hE : CurEnd w1 w2 c a len cap) (h : w1.ownsRow B e sz v n xs) (hB : c < B) : w2.ownsRow B e sz v n xs :=
  h.kept hE.grown (.inr fun e => by have := (h.lt c e).1; omega)

theorem arg_up {w W : World} {a : Option Addr} {len : Nat} (h : ArgAt w a len w.heap.size) (hb : Below w.heap.size w W) : ArgAt W a len W.heap.size := fun j hj => by
  obtain ⟨b, off, z, h1, h2, h3⟩ := (h.on hb) j hj
  exact ⟨b, off, z, h1, by have := hb.size; omega, h3⟩

theorem below_of_cur {w w1 : World} {c len cap : Nat} {a : Option Addr} (hE : CurEnd w w1 c a len cap) (hc : c < w.heap.size) : Below c w w1 := below_of_grown hE.grown (Nat.le_of_lt hc)

/-- The cursor behind a call that makes blocks of its own alone. -/
theorem cur_below {w w1 w2 : World} {c len cap : Nat} {a : Option Addr} (h : CurEnd w w1 c a len cap) (hb : Below w1.heap.size w1 w2) : CurEnd w w2 c a len cap := by
  have hlt := h.cur.lt
  obtain ⟨i, hh, hi, hbk⟩ := h.cur
  refine ⟨⟨i, hh, hi, (hb.block c hlt).trans hbk⟩, h.arg.on (hb.mono (Nat.le_of_lt hlt)), ?_⟩
  refine ⟨hb.os.trans h.grown.os, hb.tape.trans h.grown.tape, hb.output.trans h.grown.output, Nat.le_trans h.grown.size hb.size, fun k hk hne => ?_⟩
  rw [hb.block k (Nat.lt_of_lt_of_le hk h.grown.size)]
  exact h.grown.block k hk hne

/-- Three texts in a new block. -/
theorem cell_threeT_new (w : World) (x y z : Value) (t : TypeId) : ∀ j u, [x, y, z][j]? = some u → (w.alloc (.cells #[x, y, z] t)).cell? ((⟨w.heap.size, 0, none⟩ : Addr).add j) = some u := by
  intro j u hj
  have hb := Blk.new w t #[x, y, z]
  have hc := hb.cell j
  rw [show (⟨w.heap.size, 0, none⟩ : Addr).add j = ⟨w.heap.size, j, none⟩ by unfold Addr.add; split <;> simp_all]
  rw [hc]
  simpa using hj

/-- Drawn texts: few, and short. -/
structure Few (l : List ByteArray) (m : Nat) : Prop where
  len : l.length ≤ m
  size : ∀ x ∈ l, x.size ≤ 5
theorem Few.at {l : List ByteArray} {m : Nat} (h : Few l m) {j : Nat} (hj : j < l.length) : (l.getD j noT).size ≤ 5 := by
  rw [List.getD_eq_getElem?_getD, List.getElem?_eq_getElem hj]
  exact h.size _ (List.getElem_mem hj)
theorem Few.push {l : List ByteArray} {m : Nat} (h : Few l m) {t : ByteArray} (ht : t.size ≤ 5) : Few (l ++ [t]) (m + 1) :=
  ⟨by rw [List.length_append]; have := h.len; simp; omega, fun x hx => by
    rcases List.mem_append.1 hx with h1 | h1
    · exact h.size x h1
    · rw [List.mem_singleton.1 h1]; exact ht⟩

theorem size_t (t : List UInt8) : (ByteArray.mk t.toArray).size = t.length := by simp [ByteArray.size]

set_option maxHeartbeats 800000 in
set_option maxRecDepth 100000 in
theorem placeT_any (c len cap : Nat) (a : Option Addr) (hm : len ≤ 1048576) (n : Nat) (hn : 0 < n) (hn2 : n ≤ 1000) (w : World) (hC : CurAt w c a len cap) (hA : ArgAt w a len c) :
    Calls Tryd.prog 39 #[.pointer (some ⟨c, 0, none⟩), .int .i64 (n : Int)] w fun e w' => ∃ x : Int, e = .returned (.int .i64 x) ∧ CurEnd w w' c a len cap := by
  have HS : Hid (CurEnd w w c a len cap) := CurEnd.refl hC hA
  clear hA hC
  have hni : (n : Int) ≤ 1000 := by omega
  go_enter Tryd.func39, Tryd.ntmps39
  go_wp2_with fail
  refine (once_any c len cap a hm 15 (by omega) (by omega) _ HS.out.cur HS.out.arg).mono ?_
  rintro e w1 ⟨x, rfl, hE⟩
  have HE1 : Hid (CurEnd w w1 c a len cap) := HS.out.trans hE
  clear hE
  cases x
  · go_wp2_with fail
    refine (below_any c len cap a hm (n : Int) (by omega) (by omega) _ HE1.out.cur HE1.out.arg).mono ?_
    rintro e w2 ⟨x, rfl, x0, x1, hE⟩
    have HE2 : Hid (CurEnd w w2 c a len cap) := HE1.out.trans hE
    clear hE
    go_wp2
    go_ret
    exact ⟨_, rfl, HE2.out⟩
  · go_wp2_with fail
    have HW := HE1.out.alloc (.cells #[.int .i64 (-1), .int .i64 (n : Int), .int .i64 ((n : Int) + 1), .int .i64 9223372036854775807, .int .i64 (-9223372036854775808)] 3)
    have hcl := HE1.out.cur.lt
    refine (pick_any c len cap a hm w1.heap.size 5 5 (by omega) (by omega) _ HW.cur HW.arg (by omega) (fun _ => True) ?_).mono ?_
    · intro j hj
      have hb := Blk.new w1 3 #[.int .i64 (-1), .int .i64 (n : Int), .int .i64 ((n : Int) + 1), .int .i64 9223372036854775807, .int .i64 (-9223372036854775808)]
      have hc := hb.cell j
      rcases (show j = 0 ∨ j = 1 ∨ j = 2 ∨ j = 3 ∨ j = 4 by omega) with rfl | rfl | rfl | rfl | rfl
      all_goals exact ⟨_, hc, trivial⟩
    rintro e w2 ⟨z, rfl, _, hE⟩
    have HE2 : Hid (CurEnd w w2 c a len cap) := HW.trans hE
    clear hE HW
    go_wp2
    go_ret
    exact ⟨_, rfl, HE2.out⟩

set_option maxHeartbeats 1600000 in
set_option maxRecDepth 100000 in
theorem leaves_any (c len cap : Nat) (a : Option Addr) (hm : len ≤ 1048576) (w : World) (hC : CurAt w c a len cap) (hA : ArgAt w a len c) :
    Calls Tryd.prog 38 #[.pointer (some ⟨c, 0, none⟩)] w fun e w' => ∃ v l, e = .returned v ∧ RowS w.heap.size w' v l ∧ Few l 33 ∧ CurEnd w w' c a len cap := by
  obtain ⟨i0, hi, hz0, hz1, hz2⟩ := info_parts info9T
  have hcl := hC.lt
  have HS : Hid (CurEnd w w c a len cap) := CurEnd.refl hC hA
  clear hA hC
  go_enter Tryd.func38, Tryd.ntmps38
  go_wp2
  go_loopw [3, 4] (fun v i wr => ∃ (u : Value) (k : Nat) (l : List ByteArray), u = v ∧ i = .int .i64 (k : Int) ∧ k ≤ 9 ∧ l.length = k ∧ wr.ownsRow w.heap.size 9 1 u l.length (l.map Value.string) ∧ Hid (Few l k) ∧ Hid (CurEnd w wr c a len cap)) (fun _ i _ => 9 - (intOf i).toNat)
  case atStart => exact ⟨_, 0, [], rfl, rfl, by omega, rfl, World.ownsRow_lit _ _ _ (Nat.le_refl _) (by simp [maxLen]) (by simp), ⟨Nat.le_refl _, fun x hx => by cases hx⟩, HS.out.alloc _⟩
  case round =>
    obtain ⟨u, k, l, rfl, rfl, hk, hlk, hown, HF, HE⟩ := hrel
    clear HS
    have HLK : Hid (l.length = k) := hlk
    have hm63 : l.length + 1 ≤ maxLen := by unfold maxLen; omega
    have hm47 : (l.length + 1) * 16 ≤ 140737488355328 := by omega
    clear hlk
    go_wp2_with fail
    refine (below_any c len cap a hm 9 (by omega) (by omega) _ HE.out.cur HE.out.arg).mono ?_
    rintro e w1 ⟨x, rfl, x0, x1, hE1⟩
    have hown1 := cur_row hE1 hown hcl
    have HE1 : Hid (CurEnd w w1 c a len cap) := HE.out.trans hE1
    clear hE1 hown HE
    by_cases hlt : (k : Int) < x
    · go_wp2_with fail
      refine (below_any c len cap a hm 5 (by omega) (by omega) _ HE1.out.cur HE1.out.arg).mono ?_
      rintro e w2 ⟨y, rfl, y0, y1, hE2⟩
      obtain ⟨yn, rfl⟩ : ∃ yn : Nat, y = (yn : Int) := ⟨y.toNat, by omega⟩
      have hown2 := cur_row hE2 hown1 hcl
      have HE2 : Hid (CurEnd w w2 c a len cap) := HE1.out.trans hE2
      clear hE2 hown1 HE1
      go_wp2_with fail
      refine (drawn_any c len cap a hm yn (by omega) _ HE2.out.cur HE2.out.arg).mono ?_
      rintro e w3 ⟨t, rfl, htl, hE3⟩
      have hown3 := cur_row hE3 hown2 hcl
      have HE3 : Hid (CurEnd w w3 c a len cap) := HE2.out.trans hE3
      have HTZ : Hid ((ByteArray.mk t.toArray).size ≤ 5) := by
        show (ByteArray.mk t.toArray).size ≤ 5
        rw [size_t]; omega
      generalize ByteArray.mk t.toArray = d at HTZ ⊢
      have hsz : w.heap.size ≤ w3.heap.size := HE3.out.grown.size
      clear hE3 hown2 HE2 htl
      go_wp2_with (at_builtin; refine wpList_append_own _ rfl _ _ 24 rfl w.heap.size 9 i0 (.string ⟨#[]⟩) 1 16 Tryd.underlying24 hi hz0 hz1 hz2 rfl (by decide) _ _ _ rfl (hown3.alloc _) ⟨w3.heap.size, 0, none⟩ 1 1 [.string d] rfl rfl (cell_one_new _ _ _) (one_str _) hm63 hm47 (room_for hsz _) ?_)
      intro v' w7 hown' hgrow _
      have R7 : w7.ownsRow w.heap.size 9 1 v' (l ++ [d]).length ((l ++ [d]).map Value.string) := RowS.push hown'
      have HE7 : Hid (CurEnd w w7 c a len cap) := (HE3.out.alloc _).push hgrow (fun k hk => by have := (hown3.lt k hk).1; omega) (fun k hk => (hown3.lt k hk).1)
      have HF7 : Hid (Few (l ++ [d]) (k + 1)) := HF.out.push HTZ.out
      have HL7 : Hid ((l ++ [d]).length = k + 1) := by
        show (l ++ [d]).length = k + 1
        rw [List.length_append, HLK.out]
        rfl
      clear hown' hgrow hown3 HE3 HF HTZ HLK
      go_wp2
      go_roundw
      case rel => exact ⟨_, k + 1, l ++ [d], rfl, by go_num, by omega, HL7.out, R7, HF7, HE7⟩
      case measure => simp [intOf]; omega
    · go_wp2_with fail
      refine (once_any c len cap a hm 12 (by omega) (by omega) _ HE1.out.cur HE1.out.arg).mono ?_
      rintro e w2 ⟨y, rfl, hE2⟩
      have hown2 := cur_row hE2 hown1 hcl
      have HE2 : Hid (CurEnd w w2 c a len cap) := HE1.out.trans hE2
      clear hE2 hown1 HE1
      cases y
      · have HR : Hid (RowS w.heap.size w2 u l) := hown2
        have HF2 : Hid (Few l 33) := ⟨by have := HLK.out; omega, HF.out.size⟩
        clear hown2
        go_wp2
        go_ret
        exact ⟨_, l, rfl, HR.out, HF2.out, HE2.out⟩
      · clear hown2 HF HLK
        go_wp2_with fail
        refine (below_any c len cap a hm 2 (by omega) (by omega) _ HE2.out.cur HE2.out.arg).mono ?_
        rintro e w3 ⟨z, rfl, z0, z1, hE3⟩
        have HE3 : Hid (CurEnd w w3 c a len cap) := HE2.out.trans hE3
        clear hE3 HE2
        obtain ⟨mm, hmm⟩ : ∃ mm : Nat, (mm : Int) = 32 + z := ⟨(32 + z).toNat, by omega⟩
        have hmk : ∀ W : World, (Instr.makeSlice 24 (.int .i64 (32 + z)) (.int .i64 (32 + z))).run Tryd.prog W = .ok (.slice (some ⟨W.heap.size, 0, none⟩) mm mm) (W.alloc (.cells (tc (fun _ => ⟨#[]⟩) mm) 9)) := fun W => by
          rw [← hmm]
          exact make_texts mm mm (Nat.le_refl _) (by omega) W
        have HR : Hid (RowS w.heap.size (w3.alloc (.cells (tc (fun _ => ⟨#[]⟩) mm) 9)) (.slice (some ⟨w3.heap.size, 0, none⟩) mm mm) (lst (fun _ => noT) mm)) := (rowT_new w3 (fun _ => ⟨#[]⟩) mm).rowS HE3.out.grown.size (by omega)
        have HF2 : Hid (Few (lst (fun _ => noT) mm) 33) := ⟨by rw [lst_length]; omega, fun x hx => by
          simp [lst] at hx
          rw [← hx.2]
          decide⟩
        have HE4 : Hid (CurEnd w (w3.alloc (.cells (tc (fun _ => ⟨#[]⟩) mm) 9)) c a len cap) := HE3.out.alloc _
        generalize tc (fun _ => ⟨#[]⟩) mm = M at hmk HR HE4
        go_wp2
        go_ret
        exact ⟨_, _, rfl, HR.out, HF2.out, HE4.out⟩

end Go.Proofs.YtkiljlmihoaaaaaDoor
