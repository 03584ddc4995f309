/-
  The walks of the program's heads: their parts, their text, what is read.
  (-DROP-: what the seat lacks is left out.)
-/
import Derived.Test.YtlaoikpbgbckjaaDoorHeadI1
import Derived.Test.YtlaoikpbgbckjaaDoorRdVI
import Derived.Test.YtlaoikpbgbckjaaDoorJoined23
import Derived.Test.YtlaoikpbgbckjaaDoorJoined23
import Derived.Test.YtlaoikpbgbckjaaDoorJoined23
import Derived.Lib.Join
namespace Go.Proofs.YtlaoikpbgbckjaaDoor
open Go.RowKit

theorem info9H : (Tryd.prog.info? 9).map (fun i => (i.zero, i.size, i.bytes)) = some (some (.string ⟨#[]⟩), 1, 16) := by kernel_rfl
theorem three_strs (a b c : ByteArray) : ∀ u ∈ [Value.string a, Value.string b, Value.string c], u.oneCell' = true := by
  intro u hu
  simp at hu
  rcases hu with rfl | rfl | rfl <;> rfl

set_option maxHeartbeats 400000 in
set_option maxRecDepth 100000 in
theorem slotText_any (n : Nat) (hn : n ≤ 10000) (w : World) :
    Calls Tryd.prog 47 #[.int .i64 (n : Int)] w fun e w' => e = .returned (.string (vT (n : Int))) ∧ Below w.heap.size w w' := by
  have HV : Hid (∀ w, Calls Tryd.prog 59 #[.int .i64 (n : Int)] w fun e w' => e = .returned (.tuple #[.string (vT (n : Int)), .bool true]) ∧ Below w.heap.size w w') := by rw [vT_of]; exact iVarText_ok n (by omega)
  generalize vT (n : Int) = v at HV ⊢
  go_enter Tryd.func47, Tryd.ntmps47
  go_wp2_with fail
  refine (HV.out _).mono ?_
  rintro e w1 ⟨rfl, hb1⟩
  go_wp2
  go_ret
  exact ⟨rfl, hb1⟩

set_option maxHeartbeats 1600000 in
set_option maxRecDepth 100000 in
theorem leaves_any (n : Nat) (hn : n ≤ 10000) (p t b : ByteArray) (w : World) :
    Calls Tryd.prog 28 #[hv ((n : Int), p, t, b)] w fun e w' => ∃ v, e = .returned v ∧ w'.ownsRow w.heap.size 9 1 v 4 [.string (vT (n : Int)), .string p, .string t, .string b] ∧ Below w.heap.size w w' := by
  obtain ⟨i0, hi, hz0, hz1, hz2⟩ := info_parts info9H
  have HV : Hid (∀ w, Calls Tryd.prog 47 #[.int .i64 (n : Int)] w fun e w' => e = .returned (.string (vT (n : Int))) ∧ Below w.heap.size w w') := slotText_any n hn
  generalize vT (n : Int) = v at HV ⊢
  unfold hv hc
  simp only
  obtain ⟨W, hW, hb, hx⟩ := box1 w 50 #[.int .i64 (n : Int), .string p, .string t, .string b]
  have hgl : w.heap.size < W.heap.size := hx.lt
  have HB0 : Hid (Below w.heap.size w W) := hb
  clear hb
  go_enter Tryd.func28, Tryd.ntmps28
  go_wp2_with fail
  clear hW
  refine wp_region_ord [(0, false), (1, false), (4, false), (5, false), (2, true), (3, true), (6, true), (7, false)] (fun wz => Below W.heap.size W wz) mixes (by kernel_rfl) (Below.refl _ _).drew ?_
  repeat (refine ord_float rfl rfl (fun K hK => ⟨_, (fun w' hw => by have q0 := (hx.on hw hx.lt).cell 0; have q1 :=  (hx.on hw hx.lt).cell 1; go_simp; exact rfl), ?_⟩); go_simp; refine hK _ ?_; clear hK K)
  refine ord_call rfl rfl (fun K hK => ⟨_, _, (by go_simp <;> first | exact rfl | exact ⟨rfl, rfl⟩), ?_⟩)
  refine (HV.out _).mono ?_
  rintro e w5 ⟨rfl, hw5⟩
  have HB5 : Hid (Below W.heap.size W w5) := (Below.refl _ _).drew.trans hw5
  clear hw5
  refine ⟨_, rfl, HB5.out, ?_⟩
  go_simp
  refine hK _ _ ?_
  clear hK K
  have hx5 := hx.on HB5.out hx.lt
  have hsz5 : W.heap.size ≤ w5.heap.size := HB5.out.size
  have hszw : w.heap.size ≤ w5.heap.size := Nat.le_trans (Nat.le_of_lt hgl) hsz5
  refine ord_op rfl rfl (fun K hK => ⟨.slice (some ⟨w5.heap.size, 0, none⟩) 1 1, w5.alloc (.cells #[.string v] 9), (by go_simp <;> rfl), HB5.out.alloc hsz5 _, ?_⟩)
  go_simp
  refine hK _ _ ?_
  clear hK K
  have hown : (w5.alloc (.cells #[.string v] 9)).ownsRow w.heap.size 9 1 (.slice (some ⟨w5.heap.size, 0, none⟩) 1 1) 1 [.string v] := World.ownsRow_lit w5 #[.string v] 1 hszw (by unfold maxLen; omega) rfl
  have hx6 := hx5.alloc (.cells #[.string v] 9)
  have HB6 : Hid (Below w.heap.size w (w5.alloc (.cells #[.string v] 9))) := (HB0.out.trans (HB5.out.mono (Nat.le_of_lt hgl))).alloc hszw _
  have HBW6 : Hid (Below W.heap.size W (w5.alloc (.cells #[.string v] 9))) := HB5.out.alloc hsz5 _
  have hcells : ∀ j u, ([.string p, .string t, .string b] : List Value)[j]? = some u → (w5.alloc (.cells #[.string v] 9)).cell? ((⟨w.heap.size, 1, none⟩ : Addr).add j) = some u := fun j u hu => by
    have hadd : (⟨w.heap.size, 1, none⟩ : Addr).add j = ⟨w.heap.size, 1 + j, none⟩ := by unfold Addr.add; split <;> simp_all
    have hj : j < 3 := by
      have := (List.getElem?_eq_some_iff.1 hu).1
      simpa using this
    rw [hadd, hx6.cell (1 + j)]
    rcases (show j = 0 ∨ j = 1 ∨ j = 2 by omega) with rfl | rfl | rfl
    · simpa using hu
    · simpa using hu
    · simpa using hu
  refine ord_append rfl rfl _ _ 33 rfl w.heap.size 9 i0 (.string ⟨#[]⟩) 1 16 Tryd.underlying33 hi hz0 hz1 hz2 rfl (by decide) (.slice (some ⟨w5.heap.size, 0, none⟩) 1 1) 1 [.string v] rfl hown ⟨w.heap.size, 1, none⟩ 3 3 [.string p, .string t, .string b] rfl rfl hcells (three_strs _ _ _) (by unfold maxLen; omega) (by omega) (by simp; omega) ?_
  intro v' w7 hown' hgrow _
  have HB7 : Hid (Below w.heap.size w w7) := HB6.out.grown hgrow (by simp; omega) (fun k hk => (hown.lt k hk).1)
  have HBW7 : Below W.heap.size W w7 := HBW6.out.grown hgrow (by simp; omega) (fun k hk => by
    have : k = w5.heap.size := by
      simpa [Value.ownBlock] using hk.symm
    omega)
  have HO7 : Hid (w7.ownsRow w.heap.size 9 1 v' 4 [.string v, .string p, .string t, .string b]) := hown'
  clear hown' hgrow hown hx5 hx6 HB5 hcells
  refine ⟨HBW7, fun K hK => ?_⟩
  go_simp
  refine hK _ ?_
  clear hK K
  refine ord_float rfl rfl (fun K hK => ⟨v', (fun w' hw => by go_simp), ?_⟩)
  go_simp
  refine hK _ ?_
  clear hK K
  refine ord_nil ?_
  go_wp2
  go_ret
  exact ⟨_, rfl, HO7.out, HB7.out⟩

theorem join_four (a b c d : ByteArray) : (⟨(Lib.join ([a, b, c, d].map (·.data.toList)) (⟨#[]⟩ : ByteArray).data.toList).toArray⟩ : ByteArray) = a ++ b ++ c ++ d := by
  apply bytes_ext
  rw [bytes_cat, bytes_cat, bytes_cat]
  simp [Lib.join_cons, Lib.joinTail]
theorem join_four_len (a b c d : ByteArray) : (Lib.join ([a, b, c, d].map (·.data.toList)) (⟨#[]⟩ : ByteArray).data.toList).length = a.size + b.size + c.size + d.size := by
  simp [Lib.join_cons, Lib.joinTail]
  omega

set_option maxHeartbeats 800000 in
set_option maxRecDepth 100000 in
theorem iHeadText_any (h : Hd) (w : World) :
    Calls Tryd.prog 8 #[hv h] w fun e w' => e = .returned (.tuple #[.string (hTextV h).1, .bool (hTextV h).2]) ∧ Below w.heap.size w w' := by
  have HS : Hid (∀ w, Calls Tryd.prog 25 #[hv h] w fun e w' => e = .returned (hv h) ∧ Below w.heap.size w w') := slotted_any h
  have HR : Hid (∀ w, Calls Tryd.prog 26 #[hv h] w fun e w' => e = .returned (.bool (hOkB h)) ∧ Below w.heap.size w w') := right_any h
  unfold hTextV
  cases hk : hOkB h
  · rw [hk] at HR
    simp only [Bool.false_eq_true, if_false]
    obtain ⟨s, p, t, b⟩ := h
    clear hk
    unfold hv hc at HS HR ⊢
    simp only at HS HR ⊢
    obtain ⟨W, hW, hb, hx⟩ := box1 w 25 #[.int .i64 s, .string p, .string t, .string b]
    go_enter Tryd.func8, Tryd.ntmps8
    go_wp2_with (refine load_blk rfl rfl rfl hx Tryd.underlying25 infoH ?_)
    clear hW
    refine (HS.out _).mono ?_
    rintro e w1 ⟨rfl, hb1⟩
    have hB := below_then hb hb1
    clear hb hb1 hx
    go_wp2_with fail
    obtain ⟨V, hV, hbV, hxV⟩ := box1 w1 50 #[.int .i64 s, .string p, .string t, .string b]
    rw [hV]
    have hB2 := below_then hB hbV
    clear hV hB hbV
    refine (HR.out _).mono ?_
    rintro e w3 ⟨rfl, hb3⟩
    have hB3 := below_then hB2 hb3
    clear hB2 hb3 hxV
    go_wp2
    go_ret2
    exact ⟨rfl, hB3⟩
  · rw [hk] at HR
    simp only [if_true]
    obtain ⟨⟨s0, s1⟩, hp, ht, hbb⟩ := hok_iff.1 hk
    obtain ⟨s, p, t, b⟩ := h
    simp only at s0 s1 hp ht hbb
    obtain ⟨n, rfl⟩ : ∃ n : Nat, s = (n : Int) := ⟨s.toNat, by omega⟩
    have HL : Hid (∀ w, Calls Tryd.prog 28 #[hv ((n : Int), p, t, b)] w fun e w' => ∃ v, e = .returned v ∧ w'.ownsRow w.heap.size 9 1 v 4 [.string (vT (n : Int)), .string p, .string t, .string b] ∧ Below w.heap.size w w') := leaves_any n (by omega) p t b
    have hvs : (vT (n : Int)).size ≤ 5 := by rw [vT_size]; exact varB_five (by omega)
    have HT : Hid (hTxt ((n : Int), p, t, b) = vT (n : Int) ++ p ++ t ++ b) := rfl
    have HJ : Hid ((Lib.join ([vT (n : Int), p, t, b].map (·.data.toList)) (⟨#[]⟩ : ByteArray).data.toList).length ≤ 140737488355328) := by
      show _ ≤ _
      rw [join_four_len]
      omega
    clear hk hp ht hbb hvs
    unfold hv hc at HS HR HL ⊢
    simp only at HS HR HL ⊢
    generalize vT (n : Int) = v at HL HT HJ
    obtain ⟨W, hW, hb, hx⟩ := box1 w 25 #[.int .i64 (n : Int), .string p, .string t, .string b]
    go_enter Tryd.func8, Tryd.ntmps8
    go_wp2_with (refine load_blk rfl rfl rfl hx Tryd.underlying25 infoH ?_)
    clear hW
    refine (HS.out _).mono ?_
    rintro e w1 ⟨rfl, hb1⟩
    have hB := below_then hb hb1
    clear hb hb1 hx
    go_wp2_with fail
    obtain ⟨V, hV, hbV, hxV⟩ := box1 w1 50 #[.int .i64 (n : Int), .string p, .string t, .string b]
    rw [hV]
    have hB2 := below_then hB hbV
    clear hV hB hbV
    refine (HR.out _).mono ?_
    rintro e w3 ⟨rfl, hb3⟩
    have hB3 := below_then hB2 hb3
    have hx3 := hxV.on hb3 hxV.lt
    clear hB2 hb3 hxV
    go_wp2_with (refine load_blk rfl rfl rfl hx3 Tryd.underlying50 infoHS ?_)
    refine (HL.out _).mono ?_
    rintro e w4 ⟨z, rfl, hown, hb4⟩
    have hB4 := below_then hB3 hb4
    clear hB3 hb4 hx3
    obtain ⟨g, cap, rfl, hg, hcap, hz⟩ : ∃ g cap, z = .slice (some ⟨g, 0, none⟩) 4 cap ∧ g < w4.heap.size ∧ 4 ≤ cap ∧ ∀ (j : Nat) x, [v, p, t, b][j]? = some x → w4.cell? ⟨g, 0 + j, none⟩ = some (.string x) := by
      rcases hown.2 with ⟨_, h0⟩ | ⟨g, cap, cur, hve, hB, hgc, hn, hm, hcs, htk⟩
      · omega
      · refine ⟨g, cap, hve, (Array.getElem?_eq_some_iff.1 hgc).1, hn, fun j x hj => ?_⟩
        rw [hve] at hown
        have hj4 : j < 4 := by have := (List.getElem?_eq_some_iff.1 hj).1; simpa using this
        rw [Nat.zero_add, World.ownsRow.cellAt hown j (by omega)]
        rcases (show j = 0 ∨ j = 1 ∨ j = 2 ∨ j = 3 by omega) with rfl | rfl | rfl | rfl
        all_goals simpa using hj
    have HJN : Hid (Calls Tryd.prog 27 #[.slice (some ⟨g, 0, none⟩) 4 cap, .string ⟨#[]⟩] w4 fun e w' => e = .returned (.string (v ++ p ++ t ++ b)) ∧ Below w4.heap.size w4 w') := by
      have h := Tryd.strings_Join g 0 cap [v, p, t, b] ⟨#[]⟩ w4 hz hg (by simp) (by simpa using hcap) HJ.out
      rw [join_four] at h
      exact h
    clear hown hz hg hcap HJ
    go_wp2_with fail
    refine HJN.out.mono ?_
    rintro e w5 ⟨rfl, hb5⟩
    have hB5 := below_then hB4 hb5
    clear hB4 hb5
    go_wp2
    go_ret2
    exact ⟨by rw [HT.out]; rfl, hB5⟩

set_option maxHeartbeats 400000 in
set_option maxRecDepth 100000 in
theorem digestAt_any (t : ByteArray) (a : Nat) (z : Int) (hz : z = (a : Int)) (h : a + 32 ≤ t.size) (ht : t.size ≤ 1048576) (w : World) :
    Calls Tryd.prog 30 #[.string t, .int .i64 z] w fun e w' => e = .returned (.string (t.extract a (a + 32))) ∧ Below w.heap.size w w' := by
  subst hz
  have hs1 := cut_text t a (a + 32) (by omega) h ((a : Int) + 32) (by omega)
  have hw : IntKind.i64.wrap ((a : Int) + 32) = (a : Int) + 32 := IntWalk.i64_in _ (by omega)
  have hsz : (t.extract a (a + 32)).size ≤ 281474976710656 := by rw [ByteArray.size_extract]; omega
  generalize t.extract a (a + 32) = d at hs1 hsz
  go_enter Tryd.func30, Tryd.ntmps30
  go_wp2_with fail
  refine (clone_any d _ hsz).mono ?_
  rintro e w1 ⟨rfl, hb1⟩
  go_wp2
  go_ret
  exact ⟨rfl, hb1⟩

end Go.Proofs.YtlaoikpbgbckjaaDoor
