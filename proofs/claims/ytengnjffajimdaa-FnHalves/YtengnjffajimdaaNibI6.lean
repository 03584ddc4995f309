/-
  The walk of the program's ReadPrefix.
  (-DROP-: what the seat lacks is left out.)
-/
import Derived.Test.YtengnjffajimdaaNibI3
import Derived.Test.YtengnjffajimdaaNibI5
import Derived.Test.YtengnjffajimdaaNibS6
import Derived.Test.YtengnjffajimdaaZOff
namespace Go.Proofs.Ytengnjffajimdaa
open Go.RowKit

/-- The list and whether it is a leaf's, as the program takes them. -/
def jdL (t : ByteArray) (q : Nat) : List Int := if q % 2 = 1 then (nibs t).drop 1 else (nibs t).drop 2
def jdF (q : Nat) : Bool := decide (q / 2 % 2 = 1)
theorem nibs_cons {t : ByteArray} (h : 0 < t.size) : nibs t = ((t[0].toNat / 16 : Nat) : Int) :: ((t[0].toNat % 16 : Nat) : Int) :: nibL (t.data.toList.drop 1) := by
  unfold nibs
  rw [cons_text h]
  rfl
theorem rd_judge {t : ByteArray} (h : 0 < t.size) :
    (nibOk (jdL t (t[0].toNat / 16)) = true ∧ preT (jdL t (t[0].toNat / 16)) (jdF (t[0].toNat / 16)) = t → rdP t = some (jdL t (t[0].toNat / 16), jdF (t[0].toNat / 16))) ∧
    (¬ (nibOk (jdL t (t[0].toNat / 16)) = true ∧ preT (jdL t (t[0].toNat / 16)) (jdF (t[0].toNat / 16)) = t) → rdP t = none) := by
  constructor
  · rintro ⟨a, b⟩
    have h1 := pre_back (jdF (t[0].toNat / 16)) a
    rw [b] at h1
    exact h1
  · intro hn
    cases hr : rdP t with
    | none => rfl
    | some x =>
      obtain ⟨l, b⟩ := x
      exfalso
      have h2 := pre_again hr
      rw [rdP_cons h] at hr
      split at hr
      · rename_i hc
        have h3 := Prod.mk.inj (Option.some.inj hr)
        have hb := hc.1
        have e1 : jdL t (t[0].toNat / 16) = l := by
          rw [← h3.1]
          unfold jdL rdL
          rw [nibs_cons h]
          by_cases ho : t[0].toNat / 16 % 2 = 1
          · rw [if_pos ho, if_pos ho]
            rfl
          · rw [if_neg ho, if_neg ho]
            rfl
        have e2 : jdF (t[0].toNat / 16) = b := by
          rw [← h3.2]
          unfold jdF rdLeaf
          congr 1
          apply propext
          omega
        rw [e1, e2] at hn
        exact hn h2
      · cases hr
theorem preT_size {l : List Int} {b : Bool} (h : nibOk l = true) : (preT l b).size ≤ 33 := by
  have h1 := (nib_in h).1
  unfold preT
  rw [if_pos h]
  show (preL l b).toArray.size ≤ 33
  rw [List.size_toArray]
  unfold preL
  rw [List.length_cons]
  have h2 := preR_len l
  rw [twoL_length ((preR l).length / 2) _ (by rw [h2]; omega)]
  omega
theorem rdP_33 {t : ByteArray} (h : 33 < t.size) : rdP t = none := by
  cases hr : rdP t with
  | none => rfl
  | some x =>
    obtain ⟨l, b⟩ := x
    have h2 := pre_again hr
    have h3 := preT_size (b := b) h2.1
    rw [h2.2] at h3
    omega
theorem bit_two : ∀ q : Nat, q < 16 → (bits BinOp.and IntKind.i64 (q : Int) 2 != 0) = jdF q := fun q hq => by
  have h : ∀ q : Fin 16, (bits BinOp.and IntKind.i64 ((q.val : Nat) : Int) 2 != 0) = jdF q.val := by decide +kernel
  exact h ⟨q, hq⟩
theorem bit_one : ∀ q : Nat, q < 16 → (bits BinOp.and IntKind.i64 (q : Int) 1 != 0) = decide (q % 2 = 1) := fun q hq => by
  have h : ∀ q : Fin 16, (bits BinOp.and IntKind.i64 ((q.val : Nat) : Int) 1 != 0) = decide (q.val % 2 = 1) := by decide +kernel
  exact h ⟨q, hq⟩
theorem off_nil {lo hi : Nat} {w : World} {a : Option Addr} {c : Nat} : ZOff lo hi w (.slice a 0 c) [] := ⟨a, c, rfl, fun _ hj => absurd hj (Nat.not_lt_zero _)⟩

set_option maxHeartbeats 800000 in
set_option maxRecDepth 100000 in
theorem iRead_none (t : ByteArray) (h : t.size = 0 ∨ 33 < t.size) (ht : t.size ≤ 1048576) (w : World) :
    Calls Try.prog 12 #[.string t] w fun e w' => ∃ u, e = .returned (.tuple #[u, .bool false, .bool false]) ∧ ZOff w.heap.size w'.heap.size w' u [] ∧ Below w.heap.size w w' := by
  rcases h with h0 | h
  · have e : t = ⟨#[]⟩ := no_bytes (by rw [ByteArray.toList_eq]; exact List.eq_nil_of_length_eq_zero (by rw [Array.length_toList]; exact h0))
    subst e
    clear h0 ht
    go_enter Try.func12, Try.ntmps12
    go_wp2
    go_ret3
    exact ⟨_, rfl, off_nil, (Below.refl _ _).alloc (Nat.le_refl _) _⟩
  · have h' : (33 : Int) < (t.size : Int) := by omega
    have hne : ¬ t.toList = [] := fun h1 => by rw [no_bytes h1] at h; exact absurd h (by decide)
    have hne2 : t.toList.isEmpty = false := by
      cases h : t.toList.isEmpty
      · rfl
      · exact absurd (List.isEmpty_iff.1 h) hne
    go_enter Try.func12, Try.ntmps12
    go_wp2
    go_ret3
    exact ⟨_, rfl, off_nil, (Below.refl _ _).alloc (Nat.le_refl _) _⟩

set_option maxHeartbeats 800000 in
set_option maxRecDepth 100000 in
theorem iRead_try (t : ByteArray) (hp : 0 < t.size) (h33 : t.size ≤ 33) (w : World) :
    Calls Try.prog 12 #[.string t] w fun e w' => ∃ u, e = .returned (.tuple #[u, .bool (rdPb t), .bool (rdP t).isSome]) ∧ ZOff w.heap.size w'.heap.size w' u (rdPl t) ∧ Below w.heap.size w w' := by
  have CN : Hid (∀ W, Calls Try.prog 17 #[.string t] W fun e w' => ∃ g c, e = .returned (.slice (some ⟨g, 0, none⟩) (nibs t).length c) ∧ ZOwn W.heap.size w'.heap.size w' (.slice (some ⟨g, 0, none⟩) (nibs t).length c) (nibs t) ∧ Below W.heap.size W w') := fun W => iNib_any _ (by omega) W
  have hne : ¬ t.toList = [] := fun h => by rw [no_bytes h] at hp; exact absurd hp (by decide)
  have hne2 : t.toList.isEmpty = false := by
    cases h : t.toList.isEmpty
    · rfl
    · exact absurd (List.isEmpty_iff.1 h) hne
  have h33' : ¬ (33 : Int) < (t.size : Int) := by omega
  have HJ := rd_judge hp
  have hq : (nibs t).getD 0 0 = ((t[0].toNat / 16 : Nat) : Int) := by rw [nibs_cons hp]; rfl
  have hq15 : t[0].toNat / 16 < 16 := by have := t[0].toNat_lt; omega
  unfold jdL at HJ
  generalize t[0].toNat / 16 = q at HJ hq hq15
  have hLL : (nibs t).length = 2 * t.size := by
    unfold nibs
    rw [nibL_length, Array.length_toList]
    rfl
  generalize hP : nibs t = L at CN hLL hq HJ
  have hb2 := bit_two q hq15
  have hb1 := bit_one q hq15
  generalize jdF q = leaf at hb2 HJ
  clear hP
  go_enter Try.func12, Try.ntmps12
  go_wp2_with fail
  refine (CN.out _).mono ?_
  rintro e w5 ⟨g, c, rfl, hz, hb5⟩
  have hl2 : 2 ≤ L.length := by omega
  have hc0 : w5.cell? ⟨g, 0, none⟩ = some (.int .i64 (q : Int)) := by
    have h1 := World.ownsRow.cellAt hz.1 0 (by omega)
    rw [h1, ← hq]
    have hn0 : 0 < L.length := by omega
    simp [zsV, hn0]
  have hlc : L.length ≤ c := by
    rcases hz.1.2 with ⟨h1, _⟩ | ⟨g', cap, cur, hv, _, _, hnc, _⟩
    · cases h1
    · injection hv with _ _ hc
      omega
  have HZ1 : Hid (ZOff w.heap.size w5.heap.size w5 (.slice (some ⟨g, 1, none⟩) (L.length - 1) (c - 1)) (L.drop 1)) := hz.drop 1 _ _ rfl
  have HZ2 : Hid ((c = 2 → ZOff w.heap.size w5.heap.size w5 (.slice (some ⟨g, 0, none⟩) (L.length - 2) 0) (L.drop 2)) ∧ ZOff w.heap.size w5.heap.size w5 (.slice (some ⟨g, 2, none⟩) (L.length - 2) (c - 2)) (L.drop 2)) := by
    refine ⟨fun hc2 => ?_, hz.drop 2 _ _ rfl⟩
    have hl0 : L.length = 2 := by omega
    have e : L.drop 2 = [] := List.drop_eq_nil_of_le (by omega)
    rw [e, hl0]
    exact off_nil
  have hl2' : (2 : Int) ≤ (L.length : Int) := by omega
  have hlc' : (L.length : Int) ≤ (c : Int) := by omega
  have hl0 : (0 : Int) < (L.length : Int) := by omega
  have hl1' : (1 : Int) ≤ (L.length : Int) := by omega
  have hn0 : 0 < L.length := by omega
  have hn1 : 1 ≤ L.length := by omega
  have hl64 : L.length ≤ 66 := by omega
  have hc1 : ¬ c = 1 := by omega
  have HLL : Hid (L.length ≤ 66) := hl64
  generalize L.length = n at hl2 hlc HZ1 HZ2 hl2' hlc' hl0 hl1' hn0 hn1 hl64 ⊢
  have HB5 : Hid (Below w.heap.size w w5.drew) := hb5.drew
  have hgl : g < w5.heap.size := World.block_lt_of_cell? w5 _ hc0
  clear hLL CN hz hq hb5 hl64
  by_cases hc2 : c = 2
  · subst hc2
    obtain rfl : n = 2 := by omega
    by_cases ho : q % 2 = 1
    · have HJ' : Hid ((nibOk (L.drop 1) = true ∧ preT (L.drop 1) leaf = t → rdP t = some (L.drop 1, leaf)) ∧ (¬ (nibOk (L.drop 1) = true ∧ preT (L.drop 1) leaf = t) → rdP t = none)) := by
        rw [if_pos ho] at HJ
        exact HJ
      rw [decide_eq_true ho] at hb1
      clear HJ ho HZ2
      go_wp2_with fail
      refine wp_region_ord [(0, false), (1, false), (2, false), (3, false), (4, false), (5, false), (6, false), (7, false), (8, false)] (fun wz => Below w5.heap.size w5 wz) mixes (by kernel_rfl) (Below.refl _ _).drew ?_
      repeat (refine ord_float rfl rfl (fun K hK => ⟨_, (fun w' hw => by have q0 := (hw.cell (p := ⟨g, 0, none⟩) hgl).trans hc0; go_simp; exact rfl), ?_⟩); go_simp; refine hK _ ?_; clear hK K)
      refine ord_nil ?_
      have HZ1 : Hid (ZOff w.heap.size w5.heap.size w5 (.slice (some ⟨g, 1, none⟩) 1 1) (L.drop 1)) := HZ1.out
      have HZ : Hid (ZOff w.heap.size w5.drew.heap.size w5.drew (.slice (some ⟨g, 1, none⟩) 1 1) (L.drop 1)) := HZ1.out.same (fun _ _ _ => rfl)
      have hc0d : w5.drew.cell? ⟨g, 0, none⟩ = some (.int .i64 (q : Int)) := hc0
      clear hc0 HZ1
      generalize w5.drew = w6 at *
      have hat := HZ.out.at
      have hP := iPrefix_any _ (L.drop 1) leaf (by rw [List.length_drop]; have := HLL.out; omega) w6 hat
      have HP6 : Hid (Calls Try.prog 11 #[.slice (some ⟨g, 1, none⟩) 1 1, .bool leaf] w6 fun e w' => e = .returned (.tuple #[.string (preT (L.drop 1) leaf), .bool (nibOk (L.drop 1))]) ∧ Below w6.heap.size w6 w') := hP
      clear hat hP
      go_wp2_with fail
      refine HP6.out.mono ?_
      rintro e w7 ⟨rfl, hb7⟩
      have HZ7 : Hid (ZOff w.heap.size w7.heap.size w7 (.slice (some ⟨g, 1, none⟩) 1 1) (L.drop 1)) := (HZ.out.on hb7 (Nat.le_refl _)).wide (Nat.le_refl _) hb7.size
      have HB7 : Hid (Below w.heap.size w w7) := below_then HB5.out hb7
      clear HZ HP6 hb7 HB5 hc0d
      cases hok : nibOk (L.drop 1)
      · have hR := rd_none (HJ'.out.2 (by rw [hok]; rintro ⟨h, _⟩; cases h))
        have HR : Hid (rdPb t = false ∧ (rdP t).isSome = false ∧ rdPl t = []) := hR
        clear hR hok
        generalize preT (L.drop 1) leaf = T at *
        go_wp2
        go_ret3
        refine ⟨_, by rw [HR.out.1, HR.out.2.1]; rfl, ?_, HB7.out.alloc HB7.out.size _⟩
        rw [HR.out.2.2]
        exact off_nil
      · by_cases hT : preT (L.drop 1) leaf = t
        · have hR := rd_some (HJ'.out.1 ⟨hok, hT⟩)
          have HR : Hid (rdPb t = leaf ∧ (rdP t).isSome = true ∧ rdPl t = L.drop 1) := hR
          rw [hT]
          have htt : (t.toList == t.toList) = true := beq_self_eq_true _
          clear hR hok hT
          go_wp2
          go_ret3
          refine ⟨_, by rw [HR.out.1, HR.out.2.1]; rfl, ?_, HB7.out⟩
          rw [HR.out.2.2]
          exact HZ7.out
        · have hR := rd_none (HJ'.out.2 (fun h => hT h.2))
          have HR : Hid (rdPb t = false ∧ (rdP t).isSome = false ∧ rdPl t = []) := hR
          have htt : ((preT (L.drop 1) leaf).toList == t.toList) = false := beq_eq_false_iff_ne.2 fun e => hT (same_bytes e)
          clear hR hok hT
          generalize preT (L.drop 1) leaf = T at *
          go_wp2
          go_ret3
          refine ⟨_, by rw [HR.out.1, HR.out.2.1]; rfl, ?_, HB7.out.alloc HB7.out.size _⟩
          rw [HR.out.2.2]
          exact off_nil
    · have HJ' : Hid ((nibOk (L.drop 2) = true ∧ preT (L.drop 2) leaf = t → rdP t = some (L.drop 2, leaf)) ∧ (¬ (nibOk (L.drop 2) = true ∧ preT (L.drop 2) leaf = t) → rdP t = none)) := by
        rw [if_neg ho] at HJ
        exact HJ
      rw [decide_eq_false ho] at hb1
      clear HJ ho HZ1
      go_wp2_with fail
      refine wp_region_ord [(0, false), (1, false), (2, false), (3, false), (4, false), (5, false), (6, false), (7, false), (8, false)] (fun wz => Below w5.heap.size w5 wz) mixes (by kernel_rfl) (Below.refl _ _).drew ?_
      repeat (refine ord_float rfl rfl (fun K hK => ⟨_, (fun w' hw => by have q0 := (hw.cell (p := ⟨g, 0, none⟩) hgl).trans hc0; go_simp; exact rfl), ?_⟩); go_simp; refine hK _ ?_; clear hK K)
      refine ord_nil ?_
      have HZ2 : Hid (ZOff w.heap.size w5.heap.size w5 (.slice (some ⟨g, 0, none⟩) 0 0) (L.drop 2)) := HZ2.out.1 (by first | rfl | trivial)
      have HZ : Hid (ZOff w.heap.size w5.drew.heap.size w5.drew (.slice (some ⟨g, 0, none⟩) 0 0) (L.drop 2)) := HZ2.out.same (fun _ _ _ => rfl)
      have hc0d : w5.drew.cell? ⟨g, 0, none⟩ = some (.int .i64 (q : Int)) := hc0
      clear hc0 HZ2
      generalize w5.drew = w6 at *
      have hat := HZ.out.at
      have hP := iPrefix_any _ (L.drop 2) leaf (by rw [List.length_drop]; have := HLL.out; omega) w6 hat
      have HP6 : Hid (Calls Try.prog 11 #[.slice (some ⟨g, 0, none⟩) 0 0, .bool leaf] w6 fun e w' => e = .returned (.tuple #[.string (preT (L.drop 2) leaf), .bool (nibOk (L.drop 2))]) ∧ Below w6.heap.size w6 w') := hP
      clear hat hP
      go_wp2_with fail
      refine HP6.out.mono ?_
      rintro e w7 ⟨rfl, hb7⟩
      have HZ7 : Hid (ZOff w.heap.size w7.heap.size w7 (.slice (some ⟨g, 0, none⟩) 0 0) (L.drop 2)) := (HZ.out.on hb7 (Nat.le_refl _)).wide (Nat.le_refl _) hb7.size
      have HB7 : Hid (Below w.heap.size w w7) := below_then HB5.out hb7
      clear HZ HP6 hb7 HB5 hc0d
      cases hok : nibOk (L.drop 2)
      · have hR := rd_none (HJ'.out.2 (by rw [hok]; rintro ⟨h, _⟩; cases h))
        have HR : Hid (rdPb t = false ∧ (rdP t).isSome = false ∧ rdPl t = []) := hR
        clear hR hok
        generalize preT (L.drop 2) leaf = T at *
        go_wp2
        go_ret3
        refine ⟨_, by rw [HR.out.1, HR.out.2.1]; rfl, ?_, HB7.out.alloc HB7.out.size _⟩
        rw [HR.out.2.2]
        exact off_nil
      · by_cases hT : preT (L.drop 2) leaf = t
        · have hR := rd_some (HJ'.out.1 ⟨hok, hT⟩)
          have HR : Hid (rdPb t = leaf ∧ (rdP t).isSome = true ∧ rdPl t = L.drop 2) := hR
          rw [hT]
          have htt : (t.toList == t.toList) = true := beq_self_eq_true _
          clear hR hok hT
          go_wp2
          go_ret3
          refine ⟨_, by rw [HR.out.1, HR.out.2.1]; rfl, ?_, HB7.out⟩
          rw [HR.out.2.2]
          exact HZ7.out
        · have hR := rd_none (HJ'.out.2 (fun h => hT h.2))
          have HR : Hid (rdPb t = false ∧ (rdP t).isSome = false ∧ rdPl t = []) := hR
          have htt : ((preT (L.drop 2) leaf).toList == t.toList) = false := beq_eq_false_iff_ne.2 fun e => hT (same_bytes e)
          clear hR hok hT
          generalize preT (L.drop 2) leaf = T at *
          go_wp2
          go_ret3
          refine ⟨_, by rw [HR.out.1, HR.out.2.1]; rfl, ?_, HB7.out.alloc HB7.out.size _⟩
          rw [HR.out.2.2]
          exact off_nil
  · by_cases ho : q % 2 = 1
    · have HJ' : Hid ((nibOk (L.drop 1) = true ∧ preT (L.drop 1) leaf = t → rdP t = some (L.drop 1, leaf)) ∧ (¬ (nibOk (L.drop 1) = true ∧ preT (L.drop 1) leaf = t) → rdP t = none)) := by
        rw [if_pos ho] at HJ
        exact HJ
      rw [decide_eq_true ho] at hb1
      clear HJ ho HZ2
      go_wp2_with fail
      refine wp_region_ord [(0, false), (1, false), (2, false), (3, false), (4, false), (5, false), (6, false), (7, false), (8, false)] (fun wz => Below w5.heap.size w5 wz) mixes (by kernel_rfl) (Below.refl _ _).drew ?_
      repeat (refine ord_float rfl rfl (fun K hK => ⟨_, (fun w' hw => by have q0 := (hw.cell (p := ⟨g, 0, none⟩) hgl).trans hc0; go_simp; exact rfl), ?_⟩); go_simp; refine hK _ ?_; clear hK K)
      refine ord_nil ?_
      have HZ : Hid (ZOff w.heap.size w5.drew.heap.size w5.drew (.slice (some ⟨g, 1, none⟩) (n - 1) (c - 1)) (L.drop 1)) := HZ1.out.same (fun _ _ _ => rfl)
      have hc0d : w5.drew.cell? ⟨g, 0, none⟩ = some (.int .i64 (q : Int)) := hc0
      clear hc0 HZ1
      generalize w5.drew = w6 at *
      have hat := HZ.out.at
      have hP := iPrefix_any _ (L.drop 1) leaf (by rw [List.length_drop]; have := HLL.out; omega) w6 hat
      have HP6 : Hid (Calls Try.prog 11 #[.slice (some ⟨g, 1, none⟩) (n - 1) (c - 1), .bool leaf] w6 fun e w' => e = .returned (.tuple #[.string (preT (L.drop 1) leaf), .bool (nibOk (L.drop 1))]) ∧ Below w6.heap.size w6 w') := hP
      clear hat hP
      go_wp2_with fail
      refine HP6.out.mono ?_
      rintro e w7 ⟨rfl, hb7⟩
      have HZ7 : Hid (ZOff w.heap.size w7.heap.size w7 (.slice (some ⟨g, 1, none⟩) (n - 1) (c - 1)) (L.drop 1)) := (HZ.out.on hb7 (Nat.le_refl _)).wide (Nat.le_refl _) hb7.size
      have HB7 : Hid (Below w.heap.size w w7) := below_then HB5.out hb7
      clear HZ HP6 hb7 HB5 hc0d
      cases hok : nibOk (L.drop 1)
      · have hR := rd_none (HJ'.out.2 (by rw [hok]; rintro ⟨h, _⟩; cases h))
        have HR : Hid (rdPb t = false ∧ (rdP t).isSome = false ∧ rdPl t = []) := hR
        clear hR hok
        generalize preT (L.drop 1) leaf = T at *
        go_wp2
        go_ret3
        refine ⟨_, by rw [HR.out.1, HR.out.2.1]; rfl, ?_, HB7.out.alloc HB7.out.size _⟩
        rw [HR.out.2.2]
        exact off_nil
      · by_cases hT : preT (L.drop 1) leaf = t
        · have hR := rd_some (HJ'.out.1 ⟨hok, hT⟩)
          have HR : Hid (rdPb t = leaf ∧ (rdP t).isSome = true ∧ rdPl t = L.drop 1) := hR
          rw [hT]
          have htt : (t.toList == t.toList) = true := beq_self_eq_true _
          clear hR hok hT
          go_wp2
          go_ret3
          refine ⟨_, by rw [HR.out.1, HR.out.2.1]; rfl, ?_, HB7.out⟩
          rw [HR.out.2.2]
          exact HZ7.out
        · have hR := rd_none (HJ'.out.2 (fun h => hT h.2))
          have HR : Hid (rdPb t = false ∧ (rdP t).isSome = false ∧ rdPl t = []) := hR
          have htt : ((preT (L.drop 1) leaf).toList == t.toList) = false := beq_eq_false_iff_ne.2 fun e => hT (same_bytes e)
          clear hR hok hT
          generalize preT (L.drop 1) leaf = T at *
          go_wp2
          go_ret3
          refine ⟨_, by rw [HR.out.1, HR.out.2.1]; rfl, ?_, HB7.out.alloc HB7.out.size _⟩
          rw [HR.out.2.2]
          exact off_nil
    · have HJ' : Hid ((nibOk (L.drop 2) = true ∧ preT (L.drop 2) leaf = t → rdP t = some (L.drop 2, leaf)) ∧ (¬ (nibOk (L.drop 2) = true ∧ preT (L.drop 2) leaf = t) → rdP t = none)) := by
        rw [if_neg ho] at HJ
        exact HJ
      rw [decide_eq_false ho] at hb1
      clear HJ ho HZ1
      go_wp2_with fail
      refine wp_region_ord [(0, false), (1, false), (2, false), (3, false), (4, false), (5, false), (6, false), (7, false), (8, false)] (fun wz => Below w5.heap.size w5 wz) mixes (by kernel_rfl) (Below.refl _ _).drew ?_
      repeat (refine ord_float rfl rfl (fun K hK => ⟨_, (fun w' hw => by have q0 := (hw.cell (p := ⟨g, 0, none⟩) hgl).trans hc0; go_simp; exact rfl), ?_⟩); go_simp; refine hK _ ?_; clear hK K)
      refine ord_nil ?_
      have HZ2 : Hid (ZOff w.heap.size w5.heap.size w5 (.slice (some ⟨g, 2, none⟩) (n - 2) (c - 2)) (L.drop 2)) := HZ2.out.2
      have HZ : Hid (ZOff w.heap.size w5.drew.heap.size w5.drew (.slice (some ⟨g, 2, none⟩) (n - 2) (c - 2)) (L.drop 2)) := HZ2.out.same (fun _ _ _ => rfl)
      have hc0d : w5.drew.cell? ⟨g, 0, none⟩ = some (.int .i64 (q : Int)) := hc0
      clear hc0 HZ2
      generalize w5.drew = w6 at *
      have hat := HZ.out.at
      have hP := iPrefix_any _ (L.drop 2) leaf (by rw [List.length_drop]; have := HLL.out; omega) w6 hat
      have HP6 : Hid (Calls Try.prog 11 #[.slice (some ⟨g, 2, none⟩) (n - 2) (c - 2), .bool leaf] w6 fun e w' => e = .returned (.tuple #[.string (preT (L.drop 2) leaf), .bool (nibOk (L.drop 2))]) ∧ Below w6.heap.size w6 w') := hP
      clear hat hP
      go_wp2_with fail
      refine HP6.out.mono ?_
      rintro e w7 ⟨rfl, hb7⟩
      have HZ7 : Hid (ZOff w.heap.size w7.heap.size w7 (.slice (some ⟨g, 2, none⟩) (n - 2) (c - 2)) (L.drop 2)) := (HZ.out.on hb7 (Nat.le_refl _)).wide (Nat.le_refl _) hb7.size
      have HB7 : Hid (Below w.heap.size w w7) := below_then HB5.out hb7
      clear HZ HP6 hb7 HB5 hc0d
      cases hok : nibOk (L.drop 2)
      · have hR := rd_none (HJ'.out.2 (by rw [hok]; rintro ⟨h, _⟩; cases h))
        have HR : Hid (rdPb t = false ∧ (rdP t).isSome = false ∧ rdPl t = []) := hR
        clear hR hok
        generalize preT (L.drop 2) leaf = T at *
        go_wp2
        go_ret3
        refine ⟨_, by rw [HR.out.1, HR.out.2.1]; rfl, ?_, HB7.out.alloc HB7.out.size _⟩
        rw [HR.out.2.2]
        exact off_nil
      · by_cases hT : preT (L.drop 2) leaf = t
        · have hR := rd_some (HJ'.out.1 ⟨hok, hT⟩)
          have HR : Hid (rdPb t = leaf ∧ (rdP t).isSome = true ∧ rdPl t = L.drop 2) := hR
          rw [hT]
          have htt : (t.toList == t.toList) = true := beq_self_eq_true _
          clear hR hok hT
          go_wp2
          go_ret3
          refine ⟨_, by rw [HR.out.1, HR.out.2.1]; rfl, ?_, HB7.out⟩
          rw [HR.out.2.2]
          exact HZ7.out
        · have hR := rd_none (HJ'.out.2 (fun h => hT h.2))
          have HR : Hid (rdPb t = false ∧ (rdP t).isSome = false ∧ rdPl t = []) := hR
          have htt : ((preT (L.drop 2) leaf).toList == t.toList) = false := beq_eq_false_iff_ne.2 fun e => hT (same_bytes e)
          clear hR hok hT
          generalize preT (L.drop 2) leaf = T at *
          go_wp2
          go_ret3
          refine ⟨_, by rw [HR.out.1, HR.out.2.1]; rfl, ?_, HB7.out.alloc HB7.out.size _⟩
          rw [HR.out.2.2]
          exact off_nil

theorem iRead_any (t : ByteArray) (ht : t.size ≤ 1048576) (w : World) :
    Calls Try.prog 12 #[.string t] w fun e w' => ∃ u, e = .returned (.tuple #[u, .bool (rdPb t), .bool (rdP t).isSome]) ∧ ZOff w.heap.size w'.heap.size w' u (rdPl t) ∧ Below w.heap.size w w' := by
  by_cases h : t.size = 0 ∨ 33 < t.size
  · refine (iRead_none t h ht w).mono ?_
    rintro e w' ⟨u, rfl, hz, hb⟩
    have hn : rdP t = none := by
      rcases h with h | h
      · exact rdP_nil h
      · exact rdP_33 h
    obtain ⟨e1, e2, e3⟩ := rd_none hn
    exact ⟨u, by rw [e1, e2], by rw [e3]; exact hz, hb⟩
  · exact iRead_try t (by omega) (by omega) w

end Go.Proofs.Ytengnjffajimdaa
