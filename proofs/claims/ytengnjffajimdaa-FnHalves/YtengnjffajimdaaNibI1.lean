/-
  The walks of the program's paths by halves: whether a list is right, what two have in common.
  (-DROP-: what the seat lacks is left out.)
-/
import Derived.Test.YtengnjffajimdaaNibS2
import Derived.Test.YtengnjffajimdaaNibS3
namespace Go.Proofs.Ytengnjffajimdaa
open Go.RowKit

theorem long_nib {l : List Int} (h : 64 < l.length) : nibOk l = false := by
  unfold nibOk
  rw [decide_eq_false (by omega : ¬ l.length ≤ 64), Bool.and_false]

set_option maxHeartbeats 1600000 in
set_option maxRecDepth 100000 in
theorem iNibOk_any (v : Value) (l : List Int) (hl : l.length ≤ 1048576) (w : World) (h : ZAt w w.heap.size v l) :
    Calls Try.prog 19 #[v] w fun e w' => e = .returned (.bool (nibOk l)) ∧ w = w' := by
  obtain ⟨a, cp, rfl, hA⟩ := h
  have HA : Hid (IntsAt w a l.length w.heap.size (fun j => l.getD j 0)) := hA
  have HL : Hid (∀ n, l.length = n → n ≤ 64 → (∀ j, j < n → isNib (l.getD j 0) = true) → nibOk l = true) := fun n hn h64 h => by
    unfold nibOk
    rw [all_nib (fun j hj => h j (by omega)), hn, decide_eq_true h64]
    rfl
  have HN : Hid (∀ j, j < l.length → isNib (l.getD j 0) = false → nibOk l = false) := fun j hj h => not_nib hj h
  have HG : Hid (∀ n, l.length = n → 64 < n → nibOk l = false) := fun n hn h => long_nib (by omega)
  obtain ⟨n, hn⟩ : ∃ n, l.length = n := ⟨_, rfl⟩
  have HE : Hid (l.length = n) := hn
  rw [hn] at HA HN hl ⊢
  clear hn hA
  by_cases h64 : 64 < n
  · have h64' : (64 : Int) < (n : Int) := by omega
    have HF : Hid (nibOk l = false) := HG.out n HE.out h64
    clear HG HL HN HA
    go_enter Try.func19, Try.ntmps19
    go_wp2
    go_ret
    exact ⟨by rw [HF.out]; rfl, by trivial⟩
  · have h64' : ¬ (64 : Int) < (n : Int) := by omega
    clear HG
    go_enter Try.func19, Try.ntmps19
    go_wp2
    go_loopw [10] (fun i wr => ∃ (k : Nat), i = .int .i64 (k : Int) ∧ k ≤ n ∧ Hid (∀ j, j < k → isNib (l.getD j 0) = true) ∧ w = wr) (fun i _ => n - (intOf i).toNat)
    case atStart => exact ⟨0, rfl, Nat.zero_le _, fun j hj => absurd hj (Nat.not_lt_zero _), rfl⟩
    case round =>
      obtain ⟨k, rfl, hk, HK, rfl⟩ := hrel
      by_cases hlt : k < n
      · have hlt' : (k : Int) < (n : Int) := by omega
        have hk0 : (0 : Int) ≤ (k : Int) := by omega
        obtain ⟨b, off, rfl, hb, hz⟩ := HA.out k hlt
        replace hz : w.cell? ⟨b, off + k, none⟩ = some (.int .i64 (l.getD k 0)) := hz
        by_cases hlo : l.getD k 0 < 0
        · have HF : Hid (nibOk l = false) := HN.out k hlt (by unfold isNib; rw [decide_eq_false (by omega)]; rfl)
          generalize l.getD k 0 = x at hz hlo
          clear HN HL HK HA
          go_wp2
          go_ret
          exact ⟨by rw [HF.out]; rfl, by trivial⟩
        · by_cases hhi : 15 < l.getD k 0
          · have HF : Hid (nibOk l = false) := HN.out k hlt (by unfold isNib; rw [decide_eq_false (show ¬ l.getD k 0 ≤ 15 by omega), Bool.and_false])
            generalize l.getD k 0 = x at hz hlo hhi
            clear HN HL HK HA
            go_wp2
            go_ret
            exact ⟨by rw [HF.out]; rfl, by trivial⟩
          · have hnb : isNib (l.getD k 0) = true := isNib_iff.2 ⟨by omega, by omega⟩
            have HK2 : Hid (∀ j, j < k + 1 → isNib (l.getD j 0) = true) := fun j hj => by
              by_cases e : j = k
              · rw [e]; exact hnb
              · exact HK.out j (by omega)
            generalize l.getD k 0 = x at hz hlo hhi
            clear hnb HK
            go_wp2
            go_roundw
            case rel => exact ⟨k + 1, by go_num, hlt, HK2, by trivial⟩
            case measure => simp [intOf]; omega
      · have hlt' : ¬ (k : Int) < (n : Int) := by omega
        obtain rfl : k = n := by omega
        have HF : Hid (nibOk l = true) := HL.out k HE.out (by omega) HK.out
        clear HL HN HK HA
        go_wp2
        go_ret
        exact ⟨by rw [HF.out]; rfl, by trivial⟩

set_option maxHeartbeats 600000 in
set_option maxRecDepth 100000 in
theorem iCommon_any (v u : Value) (l m : List Int) (hl : l.length ≤ 1048576) (_hm : m.length ≤ 1048576) (w : World) (h : ZAt w w.heap.size v l) (h2 : ZAt w w.heap.size u m) :
    Calls Try.prog 22 #[v, u] w fun e w' => e = .returned (.int .i64 (comN l m : Int)) ∧ Below w.heap.size w w' := by
  obtain ⟨a, cp, rfl, hA⟩ := h
  obtain ⟨a2, cp2, rfl, hA2⟩ := h2
  have HA : Hid (IntsAt w a l.length w.heap.size (fun j => l.getD j 0)) := hA
  have HA2 : Hid (IntsAt w a2 m.length w.heap.size (fun j => m.getD j 0)) := hA2
  have HC : Hid (∀ n, (∀ j, j < n → l.getD j 0 = m.getD j 0) → n ≤ l.length → n ≤ m.length → (n = l.length ∨ n = m.length ∨ l.getD n 0 ≠ m.getD n 0) → comN l m = n) := comN_end l m
  generalize comN l m = R at HC ⊢
  obtain ⟨n, hn⟩ : ∃ n, l.length = n := ⟨_, rfl⟩
  obtain ⟨n2, hn2⟩ : ∃ n, m.length = n := ⟨_, rfl⟩
  rw [hn] at HA HC hl ⊢
  rw [hn2] at HA2 HC ⊢
  clear hn hn2 hA hA2
  go_enter Try.func22, Try.ntmps22
  go_wp2
  go_loopw [5] (fun i wr => ∃ (k : Nat), i = .int .i64 (k : Int) ∧ k ≤ n ∧ k ≤ n2 ∧ Hid (∀ j, j < k → l.getD j 0 = m.getD j 0) ∧ Hid (Below w.heap.size w wr)) (fun i _ => n - (intOf i).toNat)
  case atStart => exact ⟨0, rfl, Nat.zero_le _, Nat.zero_le _, fun j hj => absurd hj (Nat.not_lt_zero _), Below.refl _ _⟩
  case round =>
    obtain ⟨k, rfl, hk, hk2, HK, HB⟩ := hrel
    have hk0 : (0 : Int) ≤ (k : Int) := by omega
    by_cases hlt : k < n
    · have hlt' : (k : Int) < (n : Int) := by omega
      by_cases hlt2 : k < n2
      · have hlt2' : (k : Int) < (n2 : Int) := by omega
        obtain ⟨b, off, rfl, hb, hz⟩ := (HA.out.on HB.out) k hlt
        replace hz : wr.cell? ⟨b, off + k, none⟩ = some (.int .i64 (l.getD k 0)) := hz
        obtain ⟨b2, off2, rfl, hb2, hz2⟩ := (HA2.out.on HB.out) k hlt2
        replace hz2 : wr.cell? ⟨b2, off2 + k, none⟩ = some (.int .i64 (m.getD k 0)) := hz2
        by_cases he : l.getD k 0 = m.getD k 0
        · have HK2 : Hid (∀ j, j < k + 1 → l.getD j 0 = m.getD j 0) := fun j hj => by
            by_cases e : j = k
            · rw [e]; exact he
            · exact HK.out j (by omega)
          rw [he] at hz
          generalize m.getD k 0 = y at hz hz2
          clear he HK
          go_wp2_with fail
          go_quiet (fail)
          go_wp2
          go_roundw
          case rel => exact ⟨k + 1, by go_num, hlt, hlt2, HK2, below_drewN HB.out _⟩
          case measure => simp [intOf]; omega
        · have HF : Hid (R = k) := HC.out k HK.out hk hk2 (.inr (.inr he))
          have he' : (l.getD k 0 == m.getD k 0) = false := beq_eq_false_iff_ne.2 he
          generalize l.getD k 0 = x at hz he he'
          generalize m.getD k 0 = y at hz2 he he'
          clear HK
          go_wp2_with fail
          go_quiet (fail)
          go_wp2
          go_ret
          exact ⟨by rw [HF.out]; rfl, below_drewN HB.out _⟩
      · have hlt2' : ¬ (k : Int) < (n2 : Int) := by omega
        have HF : Hid (R = k) := HC.out k HK.out hk hk2 (.inr (.inl (by omega)))
        have hd1 : decide ((k : Int) < (n2 : Int)) = false := decide_eq_false hlt2'
        clear HC HK
        go_wp2_with fail
        refine wp_region_ord [(0, false), (1, false), (2, false), (3, false), (4, false), (5, false), (6, false), (7, false), (8, false), (9, false), (10, false), (11, false), (12, false), (13, false), (14, false), (15, false), (16, false), (17, false), (18, false), (19, false), (20, false)] (fun wz => Below wr.heap.size wr wz) mixes (by kernel_rfl) (Below.refl _ _).drew ?_
        repeat (refine ord_float rfl rfl (fun K hK => ⟨_, (fun w' hw => by go_simp; exact rfl), ?_⟩); go_simp; refine hK _ ?_; clear hK K)
        iterate 9 (refine ord_skip rfl rfl (fun K hK => ?_); go_simp; refine hK _ ?_; clear hK K)
        repeat (refine ord_float rfl rfl (fun K hK => ⟨_, (fun w' hw => by go_simp; exact rfl), ?_⟩); go_simp; refine hK _ ?_; clear hK K)
        refine ord_nil ?_
        have HB2 : Hid (Below w.heap.size w wr.drew) := HB.out.drew
        go_wp2
        go_ret
        exact ⟨by rw [HF.out]; rfl, HB2.out⟩
    · have hlt' : ¬ (k : Int) < (n : Int) := by omega
      have HF : Hid (R = k) := HC.out k HK.out hk hk2 (.inl (by omega))
      have hd1 : decide ((k : Int) < (n : Int)) = false := decide_eq_false hlt'
      clear HC HK
      go_wp2_with fail
      refine wp_region_ord [(0, false), (1, false), (2, false), (3, false), (4, false), (5, false), (6, false), (7, false), (8, false), (9, false), (10, false), (11, false), (12, false), (13, false), (14, false), (15, false), (16, false), (17, false), (18, false), (19, false), (20, false)] (fun wz => Below wr.heap.size wr wz) mixes (by kernel_rfl) (Below.refl _ _).drew ?_
      repeat (refine ord_float rfl rfl (fun K hK => ⟨_, (fun w' hw => by go_simp; exact rfl), ?_⟩); go_simp; refine hK _ ?_; clear hK K)
      iterate 4 (refine ord_skip rfl rfl (fun K hK => ?_); go_simp; refine hK _ ?_; clear hK K)
      repeat (refine ord_float rfl rfl (fun K hK => ⟨_, (fun w' hw => by go_simp; exact rfl), ?_⟩); go_simp; refine hK _ ?_; clear hK K)
      iterate 9 (refine ord_skip rfl rfl (fun K hK => ?_); go_simp; refine hK _ ?_; clear hK K)
      repeat (refine ord_float rfl rfl (fun K hK => ⟨_, (fun w' hw => by go_simp; exact rfl), ?_⟩); go_simp; refine hK _ ?_; clear hK K)
      refine ord_nil ?_
      have HB2 : Hid (Below w.heap.size w wr.drew) := HB.out.drew
      go_wp2
      go_ret
      exact ⟨by rw [HF.out]; rfl, HB2.out⟩

end Go.Proofs.Ytengnjffajimdaa
