/-
  The walks of the program's NumText, ReadNum.
  (-DROP-: what the seat lacks is left out.)
-/
import Derived.Test.YtmpjnabadplbjaaRevI
import Derived.Test.YtmpjnabadplbjaaNumS
import Derived.Test.YtmpjnabadplbjaaJoined28
import Derived.WalkLawsBesides
import Derived.WalkSpells
namespace Go.Proofs.Ytmpjnabadplbjaa
open Go.RowKit

theorem numL_next {f n : Nat} (s : List UInt8) (h : n ≠ 0) : numL (f + 1) n s = numL f (n / 256) (UInt8.ofNat (n % 256) :: s) := by
  rw [numL, if_neg h]
theorem numL_zero : ∀ (f : Nat) (s : List UInt8), numL f 0 s = s
  | 0, _ => rfl
  | f + 1, s => by unfold numL; rw [if_pos rfl]
theorem numT_list (n : Nat) : numT n = ⟨(numL 8 n []).toArray⟩ := by
  have h : (numT n).data.toList = numL 8 n [] := numB_list 8 n ByteArray.empty
  rw [← h]

set_option maxHeartbeats 1600000 in
set_option maxRecDepth 100000 in
theorem iNumText_nat (n : Nat) (hn : n ≤ 9223372036854775807) (w : World) :
    Calls Try.prog 17 #[.int .i64 (n : Int)] w fun e w' => e = .returned (.string (numT n)) ∧ Below w.heap.size w w' := by
  obtain ⟨i0, hi, hz0, hz1, hz2⟩ := info_parts info5
  have H0 : Hid (numL 8 n [] = numL 8 n [] ∧ n < 256 ^ 8 ∧ 0 + 8 = 8 ∧ n ≤ 9223372036854775807) := ⟨rfl, by omega, rfl, hn⟩
  have HT : Hid (numT n = ⟨(numL 8 n []).toArray⟩) := numT_list n
  clear hn
  generalize numT n = T at HT ⊢
  generalize hL : numL 8 n [] = L at HT
  have hL' : Hid (numL 8 n [] = L) := hL
  clear hL
  go_enter Try.func17, Try.ntmps17
  go_wp2
  go_loopw [3, 4] (fun v i wr => ∃ (k f : Nat) (l : List UInt8), i = .int .i64 (k : Int) ∧ Hid (numL f k l.reverse = L ∧ k < 256 ^ f ∧ l.length + f = 8 ∧ k ≤ 9223372036854775807) ∧ wr.ownsRow w.heap.size 5 1 v l.length (bytesV l) ∧ Hid (Below w.heap.size w wr)) (fun _ i _ => (intOf i).toNat)
  case atStart => exact ⟨n, 8, [], rfl, ⟨hL'.out, H0.out.2.1, rfl, H0.out.2.2.2⟩, World.ownsRow_lit _ _ _ (Nat.le_refl _) (by simp [maxLen]) (by simp), (Below.refl _ _).alloc (Nat.le_refl _) _⟩
  case round =>
    obtain ⟨k, f, l, rfl, HI, hown, HB⟩ := hrel
    clear H0 hL'
    have hll : l.length ≤ 8 := by have := HI.out.2.2.1; omega
    have hsz : w.heap.size ≤ wr.heap.size := HB.out.size
    by_cases hk : k = 0
    · subst hk
      have HE : Hid (l.reverse = L) := by have h := HI.out.1; rw [numL_zero] at h; exact h
      have HO : Hid (wr.ownsRow w.heap.size 5 1 _ l.length (bytesV l)) := hown
      obtain ⟨a0, c0, rfl⟩ := row_form hown
      have hrv := iRev_any l _ w.heap.size wr hown (by omega)
      have HRv : Hid (Calls Try.prog 44 #[.slice a0 l.length c0] wr fun e w' => e = .returned (.tuple #[]) ∧ w'.ownsRow w.heap.size 5 1 (.slice a0 l.length c0) l.reverse.length (bytesV l.reverse) ∧ wr.grownBy w' (Value.slice a0 l.length c0).ownBlock) := hrv
      have hlo : ∀ g, (Value.slice a0 l.length c0).ownBlock = some g → w.heap.size ≤ g := fun g hg => (hown.lt g hg).1
      clear HI hown hrv
      go_wp2_with fail
      refine HRv.out.mono ?_
      rintro e w2 ⟨rfl, hown2, hg2⟩
      have HB2 : Hid (Below w.heap.size w w2) := HB.out.grown hg2 hsz hlo
      have hcv := text_of_row hown2
      rw [HE.out] at hcv
      have HLs : L.length ≤ 8 := by rw [← HE.out, List.length_reverse]; exact hll
      have HCl : Hid (∀ wz, Calls Try.prog 35 #[.string ⟨L.toArray⟩] wz fun e w' => e = .returned (.string ⟨L.toArray⟩) ∧ Below wz.heap.size wz w') := fun wz => clone_any _ wz (by
        have : (ByteArray.mk L.toArray).size = L.length := by show L.toArray.size = _; simp
        omega)
      clear HO hown2 hg2 hlo HE
      generalize ByteArray.mk L.toArray = S at hcv HCl HT
      go_wp2_with fail
      refine (HCl.out _).mono ?_
      rintro e w3 ⟨rfl, hb3⟩
      have hB3 := below_then HB2.out hb3
      go_wp2
      go_ret
      exact ⟨by rw [HT.out]; rfl, hB3⟩
    · have hk' : 0 < k := by omega
      have hlt : k ≤ 9223372036854775807 := HI.out.2.2.2
      obtain ⟨g, rfl⟩ : ∃ g, f = g + 1 := ⟨f - 1, by
        have h := HI.out.2.1
        rcases Nat.eq_zero_or_pos f with h0 | h0
        · rw [h0] at h; have : k < 1 := h; omega
        · omega⟩
      have hm63 : l.length + 1 ≤ maxLen := by unfold maxLen; omega
      have hm47 : (l.length + 1) * 1 ≤ 140737488355328 := by omega
      obtain ⟨a, ha⟩ : ∃ a : Nat, a = k % 256 := ⟨_, rfl⟩
      obtain ⟨q, hq⟩ : ∃ q : Nat, q = k / 256 := ⟨_, rfl⟩
      have ha8 : a < 256 := by omega
      have ht : Int.tmod (k : Int) 256 = (a : Int) := by rw [Int.tmod_eq_emod_of_nonneg (by omega)]; omega
      have hw8 : IntKind.u8.wrap (a : Int) = (a : Int) := by rw [IntWalk.u8_in _ (by omega)]
      have hd : Int.tdiv (k : Int) 256 = (q : Int) := by rw [Int.tdiv_eq_ediv_of_nonneg (by omega)]; omega
      have HN : Hid (numL g q (l ++ [UInt8.ofNat a]).reverse = L ∧ q < 256 ^ g ∧ (l ++ [UInt8.ofNat a]).length + g = 8 ∧ q ≤ 9223372036854775807 ∧ q < k) := by
        have h := HI.out
        refine ⟨?_, ?_, ?_, ?_, ?_⟩
        · rw [List.reverse_append, List.reverse_singleton, List.singleton_append, hq, ha, ← numL_next _ hk]; exact h.1
        · rw [hq]; exact Nat.div_lt_of_lt_mul (by rw [Nat.mul_comm, ← Nat.pow_succ]; exact h.2.1)
        · rw [List.length_append, List.length_singleton]; omega
        · omega
        · omega
      have hwq : Hid (wrap64 (q : Int) = (q : Int)) := IntWalk.wrap64_in _ (by omega)
      clear ha hq hk HI
      go_wp2_with (at_builtin; refine wpList_append_own _ rfl _ _ 22 rfl w.heap.size 5 i0 (.int .u8 0) 1 1 Try.underlying22 hi hz0 hz1 hz2 rfl (by decide) _ _ _ rfl (hown.alloc _) ⟨wr.heap.size, 0, none⟩ 1 1 [.int .u8 (a : Int)] rfl rfl (cell_one_new _ _ _) (one_cell _ _) hm63 hm47 (room_for hsz _) ?_)
      intro v' w1 hown' hgrow _
      have R : w1.ownsRow w.heap.size 5 1 v' (l ++ [UInt8.ofNat a]).length (bytesV (l ++ [UInt8.ofNat a])) := by
        rw [bytesV_append, bytesV_one ha8, List.length_append]; exact hown'
      have HB2 : Hid (Below w.heap.size w w1) := (HB.out.alloc hsz _).grown hgrow (by simp; omega) (fun k hk => (hown.lt k hk).1)
      clear hown' hgrow hown
      go_wp2
      try rw [hwq.out]
      go_roundw
      case rel => exact ⟨q, g, _, rfl, ⟨HN.out.1, HN.out.2.1, HN.out.2.2.1, HN.out.2.2.2.1⟩, R, HB2⟩
      case measure => simp only [intOf, Int.toNat_natCast]; exact HN.out.2.2.2.2

set_option maxHeartbeats 1600000 in
set_option maxRecDepth 100000 in
theorem iNumText_neg (n : Int) (hn : ¬ 0 < n) (w : World) :
    Calls Try.prog 17 #[.int .i64 n] w fun e w' => e = .returned (.string ⟨#[]⟩) ∧ Below w.heap.size w w' := by
  have HO : Hid ((w.alloc (.cells #[] 5)).ownsRow w.heap.size 5 1 (.slice (some ⟨w.heap.size, 0, none⟩) 0 0) 0 (bytesV [])) := World.ownsRow_lit w #[] 0 (Nat.le_refl _) (by simp [maxLen]) (by simp)
  have HRv : Hid (Calls Try.prog 44 #[.slice (some ⟨w.heap.size, 0, none⟩) 0 0] (w.alloc (.cells #[] 5)) fun e w' => e = .returned (.tuple #[]) ∧ w'.ownsRow w.heap.size 5 1 (.slice (some ⟨w.heap.size, 0, none⟩) 0 0) 0 (bytesV []) ∧ (w.alloc (.cells #[] 5)).grownBy w' (some w.heap.size)) := iRev_any [] _ w.heap.size _ HO.out (by decide)
  have HCl : Hid (∀ wz, Calls Try.prog 35 #[.string ⟨#[]⟩] wz fun e w' => e = .returned (.string ⟨#[]⟩) ∧ Below wz.heap.size wz w') := fun wz => clone_any _ wz (Nat.zero_le _)
  go_enter Try.func17, Try.ntmps17
  go_wp2
  go_loopw [3, 4] (fun v i wr => i = .int .i64 n ∧ v = .slice (some ⟨w.heap.size, 0, none⟩) 0 0 ∧ wr = w.alloc (.cells #[] 5)) (fun _ _ _ => 0)
  case atStart => exact ⟨rfl, rfl, rfl⟩
  case round =>
    obtain ⟨rfl, rfl, rfl⟩ := hrel
    go_wp2_with fail
    refine HRv.out.mono ?_
    rintro e w2 ⟨rfl, hown2, hg2⟩
    have HB2 : Hid (Below w.heap.size w w2) := ((Below.refl w.heap.size w).alloc (Nat.le_refl _) _).grown hg2 (by simp) (fun k hk => by cases hk; exact Nat.le_refl _)
    have hcv := text_of_row (l := []) hown2
    clear hown2 hg2 HO HRv
    go_wp2_with fail
    refine (HCl.out _).mono ?_
    rintro e w3 ⟨rfl, hb3⟩
    have hB3 := below_then HB2.out hb3
    go_wp2
    go_ret
    exact ⟨rfl, hB3⟩
theorem iNumText_any (n : Int) (hn : n ≤ 9223372036854775807) (w : World) :
    Calls Try.prog 17 #[.int .i64 n] w fun e w' => e = .returned (.string (numT n.toNat)) ∧ Below w.heap.size w w' := by
  by_cases h : 0 < n
  · obtain ⟨k, rfl⟩ : ∃ k : Nat, n = (k : Int) := ⟨n.toNat, by omega⟩
    exact iNumText_nat k (by omega) w
  · rw [show n.toNat = 0 by omega]
    exact iNumText_neg n h w

theorem numT_max : (numT 1000000000).size = 4 := by decide +kernel

set_option maxHeartbeats 1600000 in
set_option maxRecDepth 100000 in
theorem iReadNum_any (t : ByteArray) (ht : t.size ≤ 9223372036854775807) (w : World) :
    Calls Try.prog 18 #[.string t] w fun e w' => e = .returned (.tuple #[.int .i64 ((rdN t).1 : Int), .bool (rdN t).2]) ∧ Below w.heap.size w w' := by
  have HM : Hid (Calls Try.prog 17 #[.int .i64 1000000000] w fun e w' => e = .returned (.string (numT 1000000000)) ∧ Below w.heap.size w w') := iNumText_nat 1000000000 (by omega) w
  have hms := numT_max
  generalize numT 1000000000 = M at HM hms
  by_cases h4 : t.size ≤ 4
  · have h4' : ¬ (4 : Int) < (t.size : Int) := by omega
    have H0 : Hid (valL (t.data.toList.take 0) = 0) := rfl
    go_enter Try.func18, Try.ntmps18
    go_wp2_with fail
    refine HM.out.mono ?_
    rintro e w1 ⟨rfl, hb1⟩
    have HB1 : Hid (Below w.heap.size w w1) := hb1
    clear hb1
    go_wp2
    go_loopw [4, 13] (fun s i wr => ∃ (k m : Nat), i = .int .i64 (k : Int) ∧ s = .int .i64 (m : Int) ∧ k ≤ t.size ∧ wr = w1 ∧ Hid (valL (t.data.toList.take k) = m)) (fun _ i _ => t.size - (intOf i).toNat)
    case atStart => exact ⟨0, 0, rfl, rfl, Nat.zero_le _, rfl, H0⟩
    case round =>
      obtain ⟨k, m, rfl, rfl, hk, rfl, HM⟩ := hrel
      clear H0
      by_cases hlt : k < t.size
      · have hlt' : (k : Int) < (t.size : Int) := by omega
        have hm : m < 256 ^ 3 := by
          have h1 := valL_lt (t.data.toList.take k)
          rw [HM.out] at h1
          refine Nat.lt_of_lt_of_le h1 (Nat.pow_le_pow_right (by decide) ?_)
          rw [List.length_take]
          omega
        have hx : t[k].toNat < 256 := t[k].toNat_lt
        have hd : k < t.data.toList.length := by rw [Array.length_toList]; exact hlt
        have HN : Hid (valL (t.data.toList.take (k + 1)) = m * 256 + t[k].toNat) := by
          show _ = _
          have e1 : t.data.toList[k] = t[k] := by rw [Array.getElem_toList]; rfl
          rw [List.take_succ_eq_append_getElem hd, valL_app, HM.out, e1, valL, valL, List.length_singleton, List.length_nil]
          omega
        go_wp2
        exact ⟨⟨k + 1, m * 256 + t[k].toNat, by go_num, by go_num, hlt, trivial, HN⟩, by simp [intOf]; omega⟩
      · have hlt' : ¬ (k : Int) < (t.size : Int) := by omega
        have HQ : Hid (valL t.data.toList = m) := by
          have h1 := HM.out
          rw [List.take_of_length_le (by rw [Array.length_toList]; exact Nat.le_of_not_lt hlt)] at h1
          exact h1
        have hm : m < 256 ^ 4 := by
          have h1 := valL_lt t.data.toList
          rw [HQ.out, Array.length_toList] at h1
          exact Nat.lt_of_lt_of_le h1 (Nat.pow_le_pow_right (by decide) h4)
        have HC : Hid (Calls Try.prog 17 #[.int .i64 (m : Int)] wr fun e w' => e = .returned (.string (numT m)) ∧ Below wr.heap.size wr w') := iNumText_nat m (by omega) wr
        have HR : Hid (rdN t = if numT m = t then (if m ≤ 1000000000 then (m, true) else (0, false)) else (0, false)) := by
          show _ = _
          rw [rdN, if_pos h4, HQ.out]
        clear HM HQ
        by_cases hb : m ≤ 1000000000
        · have hb' : ¬ (1000000000 : Int) < (m : Int) := by omega
          by_cases he : numT m = t
          · rw [if_pos he, if_pos hb] at HR
            have he' : ((numT m).toList == t.toList) = true := by rw [he]; exact beq_self_eq_true _
            generalize numT m = T at HC he'
            go_wp2_with fail
            refine HC.out.mono ?_
            rintro e w2 ⟨rfl, hb2⟩
            have hB2 := below_then HB1.out hb2
            go_wp2
            go_ret2
            exact ⟨by rw [HR.out]; rfl, hB2⟩
          · rw [if_neg he] at HR
            have he' : ((numT m).toList == t.toList) = false := by rw [beq_eq_false_iff_ne]; exact fun h => he (same_bytes h)
            generalize numT m = T at HC he'
            go_wp2_with fail
            refine HC.out.mono ?_
            rintro e w2 ⟨rfl, hb2⟩
            have hB2 := below_then HB1.out hb2
            go_wp2
            go_ret2
            exact ⟨by rw [HR.out]; rfl, hB2⟩
        · have hb' : (1000000000 : Int) < (m : Int) := by omega
          have HR2 : Hid (rdN t = (0, false)) := by
            have h := HR.out
            rw [if_neg hb] at h
            show _ = _
            rw [h]
            split <;> rfl
          go_wp2
          go_ret2
          exact ⟨by rw [HR2.out]; rfl, HB1.out⟩
  · have h4' : (4 : Int) < (t.size : Int) := by omega
    have HR : Hid (rdN t = (0, false)) := by show _ = _; rw [rdN, if_neg h4]
    go_enter Try.func18, Try.ntmps18
    go_wp2_with fail
    refine HM.out.mono ?_
    rintro e w1 ⟨rfl, hb1⟩
    go_wp2
    go_ret2
    exact ⟨by rw [HR.out]; rfl, hb1⟩

end Go.Proofs.Ytmpjnabadplbjaa
