/-
  The draws: a text that is spoilt.
  (-DROP-: what the seat lacks is left out.)
-/
import Derived.Test.YtmpjnabadplbjaaJoined40
import Derived.Test.YtmpjnabadplbjaaOrd
namespace Go.Proofs.Ytmpjnabadplbjaa
open Go.RowKit

theorem size_cut (s : ByteArray) (i j : Nat) (h : j ≤ s.size) : (s.extract i j).size = j - i := by
  rw [ByteArray.size_extract]; omega

set_option maxHeartbeats 1600000 in
set_option maxRecDepth 100000 in
theorem spoilt_any (c len cap : Nat) (a : Option Addr) (hm : len ≤ 1048576) (s : ByteArray) (hs : s.size ≤ 1000000) (w : World) (hC : CurAt w c a len cap) (hA : ArgAt w a len c) :
    Calls Try.prog 40 #[.pointer (some ⟨c, 0, none⟩), .string s] w fun e w' => ∃ t : ByteArray, e = .returned (.string t) ∧ t.size ≤ s.size + 1 ∧ CurEnd w w' c a len cap := by
  have H0 : Hid (CurEnd w w c a len cap) := CurEnd.refl hC hA
  clear hC hA
  go_enter Try.func40, Try.ntmps40
  go_wp2_with fail
  refine (below_any c len cap a hm 12 (by omega) (by omega) _ H0.out.cur H0.out.arg).mono ?_
  rintro e w1 ⟨x, rfl, x0, x1, hE⟩
  have H1 : Hid (CurEnd w w1 c a len cap) := H0.out.trans hE
  clear hE H0
  rcases (show x = 0 ∨ x = 1 ∨ x = 2 ∨ x = 3 ∨ 4 ≤ x by omega) with rfl | rfl | rfl | rfl | h4
  · go_wp2_with fail
    refine (drawn_any c len cap a hm 1 (by omega) _ H1.out.cur H1.out.arg).mono ?_
    rintro e w2 ⟨t, rfl, htl, hE⟩
    have H2 : Hid (CurEnd w w2 c a len cap) := H1.out.trans hE
    have hT : (⟨t.toArray⟩ : ByteArray).size = 1 := htl
    generalize (⟨t.toArray⟩ : ByteArray) = T at hT ⊢
    clear hE H1 htl
    have hsum : (s.size : Int) + (T.size : Int) ≤ 9223372036854775807 := by omega
    go_wp2
    go_ret
    exact ⟨_, rfl, by rw [ByteArray.size_append, hT]; exact Nat.le_refl _, H2.out⟩
  · go_wp2_with fail
    refine (below_any c len cap a hm ((s.size : Int) + 1) (by omega) (by omega) _ H1.out.cur H1.out.arg).mono ?_
    rintro e w2 ⟨y, rfl, y0, y1, hE⟩
    have H2 : Hid (CurEnd w w2 c a len cap) := H1.out.trans hE
    obtain ⟨k, rfl⟩ : ∃ k : Nat, y = k := ⟨y.toNat, by omega⟩
    have hk : (k : Int) ≤ (s.size : Int) := by omega
    clear hE H1
    go_wp2
    go_ret
    exact ⟨_, rfl, by rw [size_cut _ _ _ (by omega)]; omega, H2.out⟩
  · by_cases hz : 0 < s.size
    · have hz' : (0 : Int) < (s.size : Int) := by omega
      go_wp2_with fail
      refine (below_any c len cap a hm (s.size : Int) (by omega) (by omega) _ H1.out.cur H1.out.arg).mono ?_
      rintro e w2 ⟨y, rfl, y0, y1, hE⟩
      have H2 : Hid (CurEnd w w2 c a len cap) := H1.out.trans hE
      obtain ⟨k, rfl⟩ : ∃ k : Nat, y = k := ⟨y.toNat, by omega⟩
      have hk : (k : Int) ≤ (s.size : Int) := by omega
      have hk1 : (k : Int) + 1 ≤ (s.size : Int) := by omega
      have hk0 : (0 : Int) ≤ (k : Int) + 1 := by omega
      have hwk : IntKind.i64.wrap ((k : Int) + 1) = (k : Int) + 1 := IntWalk.i64_in _ (by omega)
      clear hE H1
      go_wp2
      have H2d : Hid (CurEnd w w2.drew c a len cap) := H2.out.drew
      clear H2
      refine wp_region_ord [(0, false), (1, false), (2, false), (3, false), (6, false), (7, false), (8, false), (9, false), (4, true), (5, false), (10, false), (11, false)] (fun _ => True) mixes (by kernel_rfl) trivial ?_
      repeat (refine ord_float rfl rfl (fun K hK => ⟨_, (fun w' hw => by have q0 := trivial; go_simp; exact rfl), ?_⟩); go_simp; refine hK _ ?_; clear hK K)
      refine ord_call rfl rfl (fun K hK => ⟨_, _, (by go_simp <;> first | exact rfl | exact ⟨rfl, rfl⟩), ?_⟩)
      refine (drawn_any c len cap a hm 1 (by omega) _ H2d.out.cur H2d.out.arg).mono ?_
      rintro e w3 ⟨t, rfl, htl, hE⟩
      have H3 : Hid (CurEnd w w3 c a len cap) := H2d.out.trans hE
      have hT : (⟨t.toArray⟩ : ByteArray).size = 1 := htl
      clear hE
      refine ⟨_, rfl, trivial, ?_⟩
      go_simp
      refine hK _ _ ?_
      clear hK K
      generalize (⟨t.toArray⟩ : ByteArray) = T at hT ⊢
      have hA : (s.extract 0 k).size = k := by rw [size_cut _ _ _ (by omega)]; omega
      have hB : (s.extract (k + 1) s.size).size = s.size - (k + 1) := size_cut _ _ _ (Nat.le_refl _)
      generalize s.extract 0 k = A at hA ⊢
      generalize s.extract (k + 1) s.size = B at hB ⊢
      have hAT : (A ++ T).size = k + 1 := by rw [ByteArray.size_append, hA, hT]
      have HR : Hid ((A ++ T ++ B).size ≤ s.size + 1) := (show (A ++ T ++ B).size ≤ s.size + 1 by rw [ByteArray.size_append, hAT, hB]; omega)
      have hs1 : ¬ 9223372036854775807 < A.size + T.size := by omega
      have hs2 : ¬ 9223372036854775807 < (A ++ T).size + B.size := by omega
      have hs3 : ¬ 9223372036854775807 < A.size + T.size + B.size := by omega
      clear H2d htl hA hB hT hAT
      repeat (refine ord_float rfl rfl (fun K hK => ⟨_, (fun w' hw => by have q0 := trivial; go_simp; exact rfl), ?_⟩); go_simp; refine hK _ ?_; clear hK K)
      refine ord_nil ?_
      go_wp2
      go_ret
      exact ⟨_, rfl, HR.out, H3.out⟩
    · have hz' : ¬ (0 : Int) < (s.size : Int) := by omega
      go_wp2
      go_ret
      exact ⟨_, rfl, by omega, H1.out⟩
  · by_cases hz : 0 < s.size
    · have hz' : (0 : Int) < (s.size : Int) := by omega
      go_wp2_with fail
      refine (below_any c len cap a hm (s.size : Int) (by omega) (by omega) _ H1.out.cur H1.out.arg).mono ?_
      rintro e w2 ⟨y, rfl, y0, y1, hE⟩
      have H2 : Hid (CurEnd w w2 c a len cap) := H1.out.trans hE
      obtain ⟨k, rfl⟩ : ∃ k : Nat, y = k := ⟨y.toNat, by omega⟩
      have hk : (k : Int) ≤ (s.size : Int) := by omega
      have hk1 : (k : Int) + 1 ≤ (s.size : Int) := by omega
      have hk0 : (0 : Int) ≤ (k : Int) + 1 := by omega
      have hwk : IntKind.i64.wrap ((k : Int) + 1) = (k : Int) + 1 := IntWalk.i64_in _ (by omega)
      clear hE H1
      go_wp2
      have H2d : Hid (CurEnd w w2.drew c a len cap) := H2.out.drew
      clear H2
      refine wp_region_ord [(0, false), (1, false), (2, false), (3, false), (6, false), (7, false), (8, false), (9, false), (4, true), (5, false), (10, false), (11, false)] (fun _ => True) mixes (by kernel_rfl) trivial ?_
      repeat (refine ord_float rfl rfl (fun K hK => ⟨_, (fun w' hw => by have q0 := trivial; go_simp; exact rfl), ?_⟩); go_simp; refine hK _ ?_; clear hK K)
      refine ord_call rfl rfl (fun K hK => ⟨_, _, (by go_simp <;> first | exact rfl | exact ⟨rfl, rfl⟩), ?_⟩)
      refine (drawn_any c len cap a hm 1 (by omega) _ H2d.out.cur H2d.out.arg).mono ?_
      rintro e w3 ⟨t, rfl, htl, hE⟩
      have H3 : Hid (CurEnd w w3 c a len cap) := H2d.out.trans hE
      have hT : (⟨t.toArray⟩ : ByteArray).size = 1 := htl
      clear hE
      refine ⟨_, rfl, trivial, ?_⟩
      go_simp
      refine hK _ _ ?_
      clear hK K
      generalize (⟨t.toArray⟩ : ByteArray) = T at hT ⊢
      have hA : (s.extract 0 k).size = k := by rw [size_cut _ _ _ (by omega)]; omega
      have hB : (s.extract (k + 1) s.size).size = s.size - (k + 1) := size_cut _ _ _ (Nat.le_refl _)
      generalize s.extract 0 k = A at hA ⊢
      generalize s.extract (k + 1) s.size = B at hB ⊢
      have hAT : (A ++ T).size = k + 1 := by rw [ByteArray.size_append, hA, hT]
      have HR : Hid ((A ++ T ++ B).size ≤ s.size + 1) := (show (A ++ T ++ B).size ≤ s.size + 1 by rw [ByteArray.size_append, hAT, hB]; omega)
      have hs1 : ¬ 9223372036854775807 < A.size + T.size := by omega
      have hs2 : ¬ 9223372036854775807 < (A ++ T).size + B.size := by omega
      have hs3 : ¬ 9223372036854775807 < A.size + T.size + B.size := by omega
      clear H2d htl hA hB hT hAT
      repeat (refine ord_float rfl rfl (fun K hK => ⟨_, (fun w' hw => by have q0 := trivial; go_simp; exact rfl), ?_⟩); go_simp; refine hK _ ?_; clear hK K)
      refine ord_nil ?_
      go_wp2
      go_ret
      exact ⟨_, rfl, HR.out, H3.out⟩
    · have hz' : ¬ (0 : Int) < (s.size : Int) := by omega
      go_wp2
      go_ret
      exact ⟨_, rfl, by omega, H1.out⟩
  · have n0 : (x == 0) = false := by rw [beq_eq_false_iff_ne]; omega
    have n1 : (x == 1) = false := by rw [beq_eq_false_iff_ne]; omega
    have n2 : (x == 2) = false := by rw [beq_eq_false_iff_ne]; omega
    have n3 : (x == 3) = false := by rw [beq_eq_false_iff_ne]; omega
    go_wp2
    go_ret
    exact ⟨_, rfl, by omega, H1.out⟩

end Go.Proofs.Ytmpjnabadplbjaa
