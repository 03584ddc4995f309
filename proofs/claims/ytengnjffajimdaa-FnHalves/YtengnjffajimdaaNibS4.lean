/-
  The walk of the specification's PrefixText.
  (-DROP-: what the seat lacks is left out.)
-/
import Derived.Test.YtengnjffajimdaaNibS2
namespace Go.Proofs.Ytengnjffajimdaa
open Go.RowKit

theorem text1Z (z : Int) (h : 0 ≤ z ∧ z < 256) (W : World) :
    (convert 22 9 (.slice (some ⟨W.heap.size, 0, none⟩) 1 1)).run Try.prog (W.alloc (.cells #[.int .u8 z] 5)) = .ok (.string ⟨#[UInt8.ofNat z.toNat]⟩) (W.alloc (.cells #[.int .u8 z] 5)) := by
  obtain ⟨a, rfl⟩ : ∃ a : Nat, z = (a : Int) := ⟨z.toNat, by omega⟩
  exact text1 a (by omega) W
theorem twoL_app : ∀ (k : Nat) (a b : List Int), a.length = 2 * k → twoL (a ++ b) = twoL a ++ twoL b
  | 0, a, b, h => by
    obtain rfl : a = [] := List.eq_nil_of_length_eq_zero (by omega)
    rfl
  | k + 1, a, b, h => by
    match a, h with
    | x :: y :: t, h =>
      simp only [List.length_cons] at h
      show twoB x y :: twoL (t ++ b) = twoB x y :: (twoL t ++ twoL b)
      rw [twoL_app k t b (by omega)]
theorem take_two {L : List Int} {p : Nat} (h : p + 1 < L.length) : L.take (p + 2) = L.take p ++ [L.getD p 0, L.getD (p + 1) 0] := by
  rw [List.take_succ_eq_append_getElem h, List.take_succ_eq_append_getElem (by omega), List.append_assoc]
  rw [List.getD_eq_getElem?_getD, List.getD_eq_getElem?_getD, List.getElem?_eq_getElem h, List.getElem?_eq_getElem (show p < L.length by omega)]
  rfl
/-- The text behind j pairs. -/
def preS (l : List Int) (leaf : Bool) (j : Nat) : ByteArray := ⟨(UInt8.ofNat (preN l leaf).toNat :: twoL ((preR l).take (2 * j))).toArray⟩
theorem preR_at {l : List Int} (i : Nat) : (preR l).getD i 0 = l.getD (l.length % 2 + i) 0 := by
  unfold preR
  split
  · rename_i h
    rw [h]
    simp only [List.getD_eq_getElem?_getD, List.getElem?_drop]
  · rename_i h
    rw [show l.length % 2 = 0 by omega, Nat.zero_add]
theorem preR_len (l : List Int) : (preR l).length = l.length - l.length % 2 := by
  unfold preR
  split
  · rename_i h
    rw [h, List.length_drop]
  · rename_i h
    rw [show l.length % 2 = 0 by omega]
    rfl
theorem preS_next {l : List Int} (leaf : Bool) {j : Nat} (h : l.length % 2 + 2 * j + 1 < l.length) :
    preS l leaf j ++ ⟨#[UInt8.ofNat (16 * l.getD (l.length % 2 + 2 * j) 0 + l.getD (l.length % 2 + 2 * j + 1) 0).toNat]⟩ = preS l leaf (j + 1) := by
  have hl := preR_len l
  have h2 : (preR l).take (2 * (j + 1)) = (preR l).take (2 * j) ++ [l.getD (l.length % 2 + 2 * j) 0, l.getD (l.length % 2 + 2 * j + 1) 0] := by
    rw [show 2 * (j + 1) = 2 * j + 2 by omega, take_two (by omega), preR_at, preR_at, Nat.add_assoc (l.length % 2)]
  unfold preS
  rw [h2, twoL_app j _ _ (by rw [List.length_take]; omega)]
  apply same_bytes
  rw [ByteArray.toList_eq, ByteArray.toList_eq]
  rw [ByteArray.data_append]
  simp [twoL, twoB]
theorem preS_end {l : List Int} (leaf : Bool) (ho : nibOk l = true) {j : Nat} (h : ¬ l.length % 2 + 2 * j + 1 < l.length) : preS l leaf j = preT l leaf := by
  have hl := preR_len l
  unfold preS preT preL
  rw [if_pos ho, List.take_of_length_le (by omega)]
theorem preS_size (l : List Int) (leaf : Bool) (j : Nat) (h : l.length % 2 + 2 * j ≤ l.length) : (preS l leaf j).size = j + 1 := by
  have hl := preR_len l
  show (_ :: twoL _).toArray.size = _
  rw [List.size_toArray, List.length_cons, twoL_length j _ (by rw [List.length_take]; omega)]
theorem nib_in {l : List Int} (h : nibOk l = true) : l.length ≤ 64 ∧ ∀ j, 0 ≤ l.getD j 0 ∧ l.getD j 0 ≤ 15 := by
  unfold nibOk at h
  rw [Bool.and_eq_true] at h
  refine ⟨of_decide_eq_true h.2, fun j => ?_⟩
  rw [List.getD_eq_getElem?_getD]
  by_cases hj : j < l.length
  · rw [List.getElem?_eq_getElem hj, Option.getD_some]
    exact isNib_iff.1 (List.all_eq_true.1 h.1 _ (List.getElem_mem hj))
  · rw [List.getElem?_eq_none (by omega), Option.getD_none]
    exact ⟨Int.le_refl _, by decide⟩

set_option maxHeartbeats 1600000 in
set_option maxRecDepth 100000 in
theorem sPrefix_any (v : Value) (l : List Int) (leaf : Bool) (hl : l.length ≤ 1048576) (w : World) (h : ZAt w w.heap.size v l) :
    Calls Try.prog 28 #[v, .bool leaf] w fun e w' => e = .returned (.tuple #[.string (preT l leaf), .bool (nibOk l)]) ∧ Below w.heap.size w w' := by
  have HO : Hid (∀ w', w = w' → Calls Try.prog 18 #[v] w' fun e w'' => e = .returned (.bool (nibOk l)) ∧ w' = w'') := fun w' e => by subst e; exact sNibOk_any v l hl w h
  obtain ⟨a, cp, rfl, hA⟩ := h
  have HA : Hid (IntsAt w a l.length w.heap.size (fun j => l.getD j 0)) := hA
  clear hA hl
  cases hok : nibOk l
  · rw [hok] at HO
    have HE : Hid (preT l leaf = ⟨#[]⟩) := by show _ = _; unfold preT; rw [hok]; rfl
    clear hok
    go_enter Try.func28, Try.ntmps28
    go_wp2_with (go_at_call 18; refine (HO.out _ rfl).mono ?_; rintro e wz ⟨rfl, rfl⟩)
    go_ret2
    exact ⟨by rw [HE.out]; rfl, Below.refl _ _⟩
  · rw [hok] at HO
    obtain ⟨hl64, hin⟩ := nib_in hok
    have HIN : Hid (∀ j, 0 ≤ l.getD j 0 ∧ l.getD j 0 ≤ 15) := hin
    have HS0 : Hid (∀ N : Int, preN l leaf = N → preS l leaf 0 = ⟨#[UInt8.ofNat N.toNat]⟩) := fun N h => by unfold preS; rw [h]; rfl
    have HSN : Hid (∀ (j : Nat), l.length % 2 + 2 * j + 1 < l.length → preS l leaf j ++ ⟨#[UInt8.ofNat (16 * l.getD (l.length % 2 + 2 * j) 0 + l.getD (l.length % 2 + 2 * j + 1) 0).toNat]⟩ = preS l leaf (j + 1)) := fun j h => preS_next leaf h
    have HSE : Hid (∀ (j : Nat), ¬ l.length % 2 + 2 * j + 1 < l.length → preS l leaf j = preT l leaf) := fun j h => preS_end leaf hok h
    have HSZ : Hid (∀ (j : Nat), l.length % 2 + 2 * j ≤ l.length → (preS l leaf j).size = j + 1) := fun j h => preS_size l leaf j h
    have HPN : Hid (preN l leaf = (if leaf then 32 else 0) + (if l.length % 2 = 1 then 16 + l.getD 0 0 else 0)) := rfl
    generalize hPS : preS l leaf = PS at HS0 HSN HSE HSZ
    generalize preT l leaf = T at HSE ⊢
    generalize preN l leaf = N at HS0 HPN
    generalize hn : l.length = n at HA HO HSN HSE HSZ HPN hl64 ⊢
    clear hok hin hPS hn
    have hn0 : (0 : Int) ≤ (n : Int) := by omega
    by_cases ho : n % 2 = 1
    · have ht : Int.tmod (n : Int) 2 = 1 := by rw [Int.tmod_eq_emod_of_nonneg (by omega)]; omega
      have ho' : 0 < n := by omega
      rw [if_pos ho] at HPN
      rw [ho] at HSN HSE HSZ
      obtain ⟨b, off, rfl, hb, hz⟩ := HA.out 0 ho'
      replace hz : w.cell? ⟨b, off, none⟩ = some (.int .i64 (l.getD 0 0)) := hz
      obtain ⟨x0, x1⟩ := HIN.out 0
      generalize l.getD 0 0 = x at hz x0 x1 HPN
      cases leaf
      · have hcv := text1Z (16 + x) (by omega)
        have k0 : IntKind.u8.wrap (16 + x) = 16 + x := IntWalk.u8_in _ (by omega)
        replace HPN : Hid (N = 16 + x) := by show _ = _; rw [HPN.out]; simp
        go_enter Try.func28, Try.ntmps28
        clear ho hb
        go_wp2_with (go_at_call 18; refine (HO.out _ rfl).mono ?_; rintro e wz ⟨rfl, rfl⟩)
        go_loopw [8, 9] (fun s i wr => ∃ (j p : Nat) (t : ByteArray), s = .string t ∧ i = .int .i64 (p : Int) ∧ p ≤ n ∧ Hid (p = 1 + 2 * j ∧ t = PS j ∧ t.size = j + 1) ∧ Hid (Below w.heap.size w wr)) (fun _ i _ => n - (intOf i).toNat)
        case atStart => exact ⟨0, 1, _, rfl, rfl, by omega, ⟨rfl, (HS0.out _ HPN.out).symm, rfl⟩, (Below.refl _ _).alloc (Nat.le_refl _) _⟩
        case round =>
          obtain ⟨j, p, t, rfl, rfl, hp, HJ, HB⟩ := hrel
          have hp0 : (0 : Int) ≤ (p : Int) := by omega
          have hp1 : (p : Int) + 1 ≤ 9223372036854775807 := by omega
          by_cases hlt : p + 1 < n
          · have hlt' : (p : Int) + 1 < (n : Int) := by omega
            obtain ⟨b1, o1, hb1, hbl1, hz1⟩ := (HA.out.on HB.out) p (by omega)
            obtain ⟨b2, o2, hb2, hbl2, hz2⟩ := (HA.out.on HB.out) (p + 1) hlt
            cases hb1
            cases hb2
            replace hz1 : wr.cell? ⟨b, off + p, none⟩ = some (.int .i64 (l.getD p 0)) := hz1
            replace hz2 : wr.cell? ⟨b, off + (p + 1), none⟩ = some (.int .i64 (l.getD (p + 1) 0)) := hz2
            obtain ⟨x0, x1⟩ := HIN.out p
            obtain ⟨y0, y1⟩ := HIN.out (p + 1)
            have HN2 : Hid (t ++ ⟨#[UInt8.ofNat (16 * l.getD p 0 + l.getD (p + 1) 0).toNat]⟩ = PS (j + 1) ∧ (PS (j + 1)).size = j + 1 + 1) := by
              have h1 := HSN.out j (by have := HJ.out.1; omega)
              rw [← HJ.out.1, ← HJ.out.2.1] at h1
              exact ⟨h1, HSZ.out (j + 1) (by have := HJ.out.1; omega)⟩
            have hts : ¬ 9223372036854775807 < t.size + 1 := by have := HJ.out.2.2; have := HJ.out.1; omega
            generalize l.getD p 0 = x at hz1 x0 x1 HN2
            generalize l.getD (p + 1) 0 = y at hz2 y0 y1 HN2
            have k1 : IntKind.i64.wrap (16 * x) = 16 * x := IntWalk.i64_in _ (by omega)
            have k2 : IntKind.i64.wrap (16 * x + y) = 16 * x + y := IntWalk.i64_in _ (by omega)
            have k3 : IntKind.i64.wrap ((p : Int) + 1) = (p : Int) + 1 := IntWalk.i64_in _ (by omega)
            have k4 : IntKind.u8.wrap (16 * x + y) = 16 * x + y := IntWalk.u8_in _ (by omega)
            have hcv2 := text1Z (16 * x + y) (by omega)
            have HP : Hid (p = 1 + 2 * j) := HJ.out.1
            clear HJ
            have hpn : p < n := by omega
            have hD : Below wr.heap.size wr wr.drew := (Below.refl _ _).drew
            have hD2 : ∀ o : Obj, Below wr.heap.size wr (wr.drew.alloc o) := fun o => hD.alloc hD.size o
            have HB3 : Hid (∀ o : Obj, Below w.heap.size w (wr.drew.alloc o)) := fun o => HB.out.drew.alloc HB.out.size o
            have hl1 : b < wr.heap.size := Nat.lt_of_lt_of_le hbl1 HB.out.size
            clear hbl1 hbl2
            go_wp2_with fail
            refine wp_region_ord [(0, false), (1, false), (2, false), (3, false), (4, false), (5, false), (6, false), (7, false), (8, false), (9, false), (10, false), (11, false), (12, false), (13, true), (14, true), (15, true), (16, true)] (fun wz => Below wr.heap.size wr wz) mixes (by kernel_rfl) hD ?_
            repeat (refine ord_float rfl rfl (fun K hK => ⟨_, (fun w' hw => by have q0 := (hw.cell (p := ⟨b, off + p, none⟩) hl1).trans hz1; have q1 :=  (hw.cell (p := ⟨b, off + (p + 1), none⟩) hl1).trans hz2; go_simp; exact rfl), ?_⟩); go_simp; refine hK _ ?_; clear hK K)
            clear hz1 hz2 hD
            generalize wr.drew = w0 at *
            refine ord_op rfl rfl (fun K hK => ⟨.slice (some ⟨w0.heap.size, 0, none⟩) 1 1, w0.alloc (.cells #[.int .u8 (16 * x + y)] 5), (by go_simp <;> rfl), hD2 _, ?_⟩)
            go_simp
            refine hK _ _ ?_
            clear hK K
            have hcv3 := hcv2 w0
            refine ord_op rfl rfl (fun K hK => ⟨.string ⟨#[UInt8.ofNat (16 * x + y).toNat]⟩, w0.alloc (.cells #[.int .u8 (16 * x + y)] 5), (by go_simp <;> first | exact ⟨rfl, rfl⟩ | exact rfl), hD2 _, ?_⟩)
            go_simp
            refine hK _ _ ?_
            clear hK K hcv2 hcv3
            have hs1 : (ByteArray.mk #[UInt8.ofNat (16 * x + y).toNat]).size = 1 := rfl
            generalize (ByteArray.mk #[UInt8.ofNat (16 * x + y).toNat]) = tb at HN2 hs1 ⊢
            have hts2 : ¬ 9223372036854775807 < t.size + tb.size := by rw [hs1]; exact hts
            refine ord_op rfl rfl (fun K hK => ⟨.string (t ++ tb), w0.alloc (.cells #[.int .u8 (16 * x + y)] 5), (by go_simp <;> first | exact ⟨rfl, rfl⟩ | exact rfl), hD2 _, ?_⟩)
            go_simp
            refine hK _ _ ?_
            clear hK K
            refine ord_op rfl rfl (fun K hK => ⟨.string (t ++ tb), w0.alloc (.cells #[.int .u8 (16 * x + y)] 5), (by go_simp <;> first | exact ⟨rfl, rfl⟩ | exact rfl), hD2 _, ?_⟩)
            go_simp
            refine hK _ _ ?_
            clear hK K
            refine ord_nil ?_
            rw [HN2.out.1]
            clear k1 k2 k3 k4 hts hts2 hs1
            go_wp2
            go_roundw
            case rel => exact ⟨j + 1, p + 2, _, rfl, by go_num, by omega, ⟨by have := HP.out; omega, rfl, HN2.out.2⟩, HB3.out _⟩
            case measure => simp [intOf]; omega
          · have hlt' : ¬ (p : Int) + 1 < (n : Int) := by omega
            have HF : Hid (t = T) := by
              show _ = _
              rw [HJ.out.2.1]
              exact HSE.out j (by have := HJ.out.1; omega)
            go_wp2
            go_ret2
            exact ⟨by rw [HF.out]; rfl, HB.out⟩
      · have hcv := text1Z (48 + x) (by omega)
        have k0 : IntKind.u8.wrap (48 + x) = 48 + x := IntWalk.u8_in _ (by omega)
        replace HPN : Hid (N = 48 + x) := by show _ = _; rw [HPN.out]; simp; omega
        go_enter Try.func28, Try.ntmps28
        clear ho hb
        go_wp2_with (go_at_call 18; refine (HO.out _ rfl).mono ?_; rintro e wz ⟨rfl, rfl⟩)
        go_loopw [8, 9] (fun s i wr => ∃ (j p : Nat) (t : ByteArray), s = .string t ∧ i = .int .i64 (p : Int) ∧ p ≤ n ∧ Hid (p = 1 + 2 * j ∧ t = PS j ∧ t.size = j + 1) ∧ Hid (Below w.heap.size w wr)) (fun _ i _ => n - (intOf i).toNat)
        case atStart => exact ⟨0, 1, _, rfl, rfl, by omega, ⟨rfl, (HS0.out _ HPN.out).symm, rfl⟩, (Below.refl _ _).alloc (Nat.le_refl _) _⟩
        case round =>
          obtain ⟨j, p, t, rfl, rfl, hp, HJ, HB⟩ := hrel
          have hp0 : (0 : Int) ≤ (p : Int) := by omega
          have hp1 : (p : Int) + 1 ≤ 9223372036854775807 := by omega
          by_cases hlt : p + 1 < n
          · have hlt' : (p : Int) + 1 < (n : Int) := by omega
            obtain ⟨b1, o1, hb1, hbl1, hz1⟩ := (HA.out.on HB.out) p (by omega)
            obtain ⟨b2, o2, hb2, hbl2, hz2⟩ := (HA.out.on HB.out) (p + 1) hlt
            cases hb1
            cases hb2
            replace hz1 : wr.cell? ⟨b, off + p, none⟩ = some (.int .i64 (l.getD p 0)) := hz1
            replace hz2 : wr.cell? ⟨b, off + (p + 1), none⟩ = some (.int .i64 (l.getD (p + 1) 0)) := hz2
            obtain ⟨x0, x1⟩ := HIN.out p
            obtain ⟨y0, y1⟩ := HIN.out (p + 1)
            have HN2 : Hid (t ++ ⟨#[UInt8.ofNat (16 * l.getD p 0 + l.getD (p + 1) 0).toNat]⟩ = PS (j + 1) ∧ (PS (j + 1)).size = j + 1 + 1) := by
              have h1 := HSN.out j (by have := HJ.out.1; omega)
              rw [← HJ.out.1, ← HJ.out.2.1] at h1
              exact ⟨h1, HSZ.out (j + 1) (by have := HJ.out.1; omega)⟩
            have hts : ¬ 9223372036854775807 < t.size + 1 := by have := HJ.out.2.2; have := HJ.out.1; omega
            generalize l.getD p 0 = x at hz1 x0 x1 HN2
            generalize l.getD (p + 1) 0 = y at hz2 y0 y1 HN2
            have k1 : IntKind.i64.wrap (16 * x) = 16 * x := IntWalk.i64_in _ (by omega)
            have k2 : IntKind.i64.wrap (16 * x + y) = 16 * x + y := IntWalk.i64_in _ (by omega)
            have k3 : IntKind.i64.wrap ((p : Int) + 1) = (p : Int) + 1 := IntWalk.i64_in _ (by omega)
            have k4 : IntKind.u8.wrap (16 * x + y) = 16 * x + y := IntWalk.u8_in _ (by omega)
            have hcv2 := text1Z (16 * x + y) (by omega)
            have HP : Hid (p = 1 + 2 * j) := HJ.out.1
            clear HJ
            have hpn : p < n := by omega
            have hD : Below wr.heap.size wr wr.drew := (Below.refl _ _).drew
            have hD2 : ∀ o : Obj, Below wr.heap.size wr (wr.drew.alloc o) := fun o => hD.alloc hD.size o
            have HB3 : Hid (∀ o : Obj, Below w.heap.size w (wr.drew.alloc o)) := fun o => HB.out.drew.alloc HB.out.size o
            have hl1 : b < wr.heap.size := Nat.lt_of_lt_of_le hbl1 HB.out.size
            clear hbl1 hbl2
            go_wp2_with fail
            refine wp_region_ord [(0, false), (1, false), (2, false), (3, false), (4, false), (5, false), (6, false), (7, false), (8, false), (9, false), (10, false), (11, false), (12, false), (13, true), (14, true), (15, true), (16, true)] (fun wz => Below wr.heap.size wr wz) mixes (by kernel_rfl) hD ?_
            repeat (refine ord_float rfl rfl (fun K hK => ⟨_, (fun w' hw => by have q0 := (hw.cell (p := ⟨b, off + p, none⟩) hl1).trans hz1; have q1 :=  (hw.cell (p := ⟨b, off + (p + 1), none⟩) hl1).trans hz2; go_simp; exact rfl), ?_⟩); go_simp; refine hK _ ?_; clear hK K)
            clear hz1 hz2 hD
            generalize wr.drew = w0 at *
            refine ord_op rfl rfl (fun K hK => ⟨.slice (some ⟨w0.heap.size, 0, none⟩) 1 1, w0.alloc (.cells #[.int .u8 (16 * x + y)] 5), (by go_simp <;> rfl), hD2 _, ?_⟩)
            go_simp
            refine hK _ _ ?_
            clear hK K
            have hcv3 := hcv2 w0
            refine ord_op rfl rfl (fun K hK => ⟨.string ⟨#[UInt8.ofNat (16 * x + y).toNat]⟩, w0.alloc (.cells #[.int .u8 (16 * x + y)] 5), (by go_simp <;> first | exact ⟨rfl, rfl⟩ | exact rfl), hD2 _, ?_⟩)
            go_simp
            refine hK _ _ ?_
            clear hK K hcv2 hcv3
            have hs1 : (ByteArray.mk #[UInt8.ofNat (16 * x + y).toNat]).size = 1 := rfl
            generalize (ByteArray.mk #[UInt8.ofNat (16 * x + y).toNat]) = tb at HN2 hs1 ⊢
            have hts2 : ¬ 9223372036854775807 < t.size + tb.size := by rw [hs1]; exact hts
            refine ord_op rfl rfl (fun K hK => ⟨.string (t ++ tb), w0.alloc (.cells #[.int .u8 (16 * x + y)] 5), (by go_simp <;> first | exact ⟨rfl, rfl⟩ | exact rfl), hD2 _, ?_⟩)
            go_simp
            refine hK _ _ ?_
            clear hK K
            refine ord_op rfl rfl (fun K hK => ⟨.string (t ++ tb), w0.alloc (.cells #[.int .u8 (16 * x + y)] 5), (by go_simp <;> first | exact ⟨rfl, rfl⟩ | exact rfl), hD2 _, ?_⟩)
            go_simp
            refine hK _ _ ?_
            clear hK K
            refine ord_nil ?_
            rw [HN2.out.1]
            clear k1 k2 k3 k4 hts hts2 hs1
            go_wp2
            go_roundw
            case rel => exact ⟨j + 1, p + 2, _, rfl, by go_num, by omega, ⟨by have := HP.out; omega, rfl, HN2.out.2⟩, HB3.out _⟩
            case measure => simp [intOf]; omega
          · have hlt' : ¬ (p : Int) + 1 < (n : Int) := by omega
            have HF : Hid (t = T) := by
              show _ = _
              rw [HJ.out.2.1]
              exact HSE.out j (by have := HJ.out.1; omega)
            go_wp2
            go_ret2
            exact ⟨by rw [HF.out]; rfl, HB.out⟩
    · have ht : Int.tmod (n : Int) 2 = 0 := by rw [Int.tmod_eq_emod_of_nonneg (by omega)]; omega
      rw [if_neg ho] at HPN
      rw [show n % 2 = 0 by omega] at HSN HSE HSZ
      cases leaf
      · have hcv := text1Z 0 (by omega)
        have k0 : IntKind.u8.wrap 0 = 0 := IntWalk.u8_in _ (by omega)
        replace HPN : Hid (N = 0) := by show _ = _; rw [HPN.out]; simp
        go_enter Try.func28, Try.ntmps28
        clear ho
        go_wp2_with (go_at_call 18; refine (HO.out _ rfl).mono ?_; rintro e wz ⟨rfl, rfl⟩)
        go_loopw [8, 9] (fun s i wr => ∃ (j p : Nat) (t : ByteArray), s = .string t ∧ i = .int .i64 (p : Int) ∧ p ≤ n ∧ Hid (p = 0 + 2 * j ∧ t = PS j ∧ t.size = j + 1) ∧ Hid (Below w.heap.size w wr)) (fun _ i _ => n - (intOf i).toNat)
        case atStart => exact ⟨0, 0, _, rfl, rfl, by omega, ⟨rfl, (HS0.out _ HPN.out).symm, rfl⟩, (Below.refl _ _).alloc (Nat.le_refl _) _⟩
        case round =>
          obtain ⟨j, p, t, rfl, rfl, hp, HJ, HB⟩ := hrel
          have hp0 : (0 : Int) ≤ (p : Int) := by omega
          have hp1 : (p : Int) + 1 ≤ 9223372036854775807 := by omega
          by_cases hlt : p + 1 < n
          · have hlt' : (p : Int) + 1 < (n : Int) := by omega
            obtain ⟨b, off, hb1, hbl1, hz1⟩ := (HA.out.on HB.out) p (by omega)
            obtain ⟨b2, o2, hb2, hbl2, hz2⟩ := (HA.out.on HB.out) (p + 1) hlt
            subst hb1
            cases hb2
            replace hz1 : wr.cell? ⟨b, off + p, none⟩ = some (.int .i64 (l.getD p 0)) := hz1
            replace hz2 : wr.cell? ⟨b, off + (p + 1), none⟩ = some (.int .i64 (l.getD (p + 1) 0)) := hz2
            obtain ⟨x0, x1⟩ := HIN.out p
            obtain ⟨y0, y1⟩ := HIN.out (p + 1)
            have HN2 : Hid (t ++ ⟨#[UInt8.ofNat (16 * l.getD p 0 + l.getD (p + 1) 0).toNat]⟩ = PS (j + 1) ∧ (PS (j + 1)).size = j + 1 + 1) := by
              have h1 := HSN.out j (by have := HJ.out.1; omega)
              rw [← HJ.out.1, ← HJ.out.2.1] at h1
              exact ⟨h1, HSZ.out (j + 1) (by have := HJ.out.1; omega)⟩
            have hts : ¬ 9223372036854775807 < t.size + 1 := by have := HJ.out.2.2; have := HJ.out.1; omega
            generalize l.getD p 0 = x at hz1 x0 x1 HN2
            generalize l.getD (p + 1) 0 = y at hz2 y0 y1 HN2
            have k1 : IntKind.i64.wrap (16 * x) = 16 * x := IntWalk.i64_in _ (by omega)
            have k2 : IntKind.i64.wrap (16 * x + y) = 16 * x + y := IntWalk.i64_in _ (by omega)
            have k3 : IntKind.i64.wrap ((p : Int) + 1) = (p : Int) + 1 := IntWalk.i64_in _ (by omega)
            have k4 : IntKind.u8.wrap (16 * x + y) = 16 * x + y := IntWalk.u8_in _ (by omega)
            have hcv2 := text1Z (16 * x + y) (by omega)
            have HP : Hid (p = 0 + 2 * j) := HJ.out.1
            clear HJ
            have hpn : p < n := by omega
            have hD : Below wr.heap.size wr wr.drew := (Below.refl _ _).drew
            have hD2 : ∀ o : Obj, Below wr.heap.size wr (wr.drew.alloc o) := fun o => hD.alloc hD.size o
            have HB3 : Hid (∀ o : Obj, Below w.heap.size w (wr.drew.alloc o)) := fun o => HB.out.drew.alloc HB.out.size o
            have hl1 : b < wr.heap.size := Nat.lt_of_lt_of_le hbl1 HB.out.size
            clear hbl1 hbl2
            go_wp2_with fail
            refine wp_region_ord [(0, false), (1, false), (2, false), (3, false), (4, false), (5, false), (6, false), (7, false), (8, false), (9, false), (10, false), (11, false), (12, false), (13, true), (14, true), (15, true), (16, true)] (fun wz => Below wr.heap.size wr wz) mixes (by kernel_rfl) hD ?_
            repeat (refine ord_float rfl rfl (fun K hK => ⟨_, (fun w' hw => by have q0 := (hw.cell (p := ⟨b, off + p, none⟩) hl1).trans hz1; have q1 :=  (hw.cell (p := ⟨b, off + (p + 1), none⟩) hl1).trans hz2; go_simp; exact rfl), ?_⟩); go_simp; refine hK _ ?_; clear hK K)
            clear hz1 hz2 hD
            generalize wr.drew = w0 at *
            refine ord_op rfl rfl (fun K hK => ⟨.slice (some ⟨w0.heap.size, 0, none⟩) 1 1, w0.alloc (.cells #[.int .u8 (16 * x + y)] 5), (by go_simp <;> rfl), hD2 _, ?_⟩)
            go_simp
            refine hK _ _ ?_
            clear hK K
            have hcv3 := hcv2 w0
            refine ord_op rfl rfl (fun K hK => ⟨.string ⟨#[UInt8.ofNat (16 * x + y).toNat]⟩, w0.alloc (.cells #[.int .u8 (16 * x + y)] 5), (by go_simp <;> first | exact ⟨rfl, rfl⟩ | exact rfl), hD2 _, ?_⟩)
            go_simp
            refine hK _ _ ?_
            clear hK K hcv2 hcv3
            have hs1 : (ByteArray.mk #[UInt8.ofNat (16 * x + y).toNat]).size = 1 := rfl
            generalize (ByteArray.mk #[UInt8.ofNat (16 * x + y).toNat]) = tb at HN2 hs1 ⊢
            have hts2 : ¬ 9223372036854775807 < t.size + tb.size := by rw [hs1]; exact hts
            refine ord_op rfl rfl (fun K hK => ⟨.string (t ++ tb), w0.alloc (.cells #[.int .u8 (16 * x + y)] 5), (by go_simp <;> first | exact ⟨rfl, rfl⟩ | exact rfl), hD2 _, ?_⟩)
            go_simp
            refine hK _ _ ?_
            clear hK K
            refine ord_op rfl rfl (fun K hK => ⟨.string (t ++ tb), w0.alloc (.cells #[.int .u8 (16 * x + y)] 5), (by go_simp <;> first | exact ⟨rfl, rfl⟩ | exact rfl), hD2 _, ?_⟩)
            go_simp
            refine hK _ _ ?_
            clear hK K
            refine ord_nil ?_
            rw [HN2.out.1]
            clear k1 k2 k3 k4 hts hts2 hs1
            go_wp2
            go_roundw
            case rel => exact ⟨j + 1, p + 2, _, rfl, by go_num, by omega, ⟨by have := HP.out; omega, rfl, HN2.out.2⟩, HB3.out _⟩
            case measure => simp [intOf]; omega
          · have hlt' : ¬ (p : Int) + 1 < (n : Int) := by omega
            have HF : Hid (t = T) := by
              show _ = _
              rw [HJ.out.2.1]
              exact HSE.out j (by have := HJ.out.1; omega)
            go_wp2
            go_ret2
            exact ⟨by rw [HF.out]; rfl, HB.out⟩
      · have hcv := text1Z 32 (by omega)
        have k0 : IntKind.u8.wrap 32 = 32 := IntWalk.u8_in _ (by omega)
        replace HPN : Hid (N = 32) := by show _ = _; rw [HPN.out]; simp
        go_enter Try.func28, Try.ntmps28
        clear ho
        go_wp2_with (go_at_call 18; refine (HO.out _ rfl).mono ?_; rintro e wz ⟨rfl, rfl⟩)
        go_loopw [8, 9] (fun s i wr => ∃ (j p : Nat) (t : ByteArray), s = .string t ∧ i = .int .i64 (p : Int) ∧ p ≤ n ∧ Hid (p = 0 + 2 * j ∧ t = PS j ∧ t.size = j + 1) ∧ Hid (Below w.heap.size w wr)) (fun _ i _ => n - (intOf i).toNat)
        case atStart => exact ⟨0, 0, _, rfl, rfl, by omega, ⟨rfl, (HS0.out _ HPN.out).symm, rfl⟩, (Below.refl _ _).alloc (Nat.le_refl _) _⟩
        case round =>
          obtain ⟨j, p, t, rfl, rfl, hp, HJ, HB⟩ := hrel
          have hp0 : (0 : Int) ≤ (p : Int) := by omega
          have hp1 : (p : Int) + 1 ≤ 9223372036854775807 := by omega
          by_cases hlt : p + 1 < n
          · have hlt' : (p : Int) + 1 < (n : Int) := by omega
            obtain ⟨b, off, hb1, hbl1, hz1⟩ := (HA.out.on HB.out) p (by omega)
            obtain ⟨b2, o2, hb2, hbl2, hz2⟩ := (HA.out.on HB.out) (p + 1) hlt
            subst hb1
            cases hb2
            replace hz1 : wr.cell? ⟨b, off + p, none⟩ = some (.int .i64 (l.getD p 0)) := hz1
            replace hz2 : wr.cell? ⟨b, off + (p + 1), none⟩ = some (.int .i64 (l.getD (p + 1) 0)) := hz2
            obtain ⟨x0, x1⟩ := HIN.out p
            obtain ⟨y0, y1⟩ := HIN.out (p + 1)
            have HN2 : Hid (t ++ ⟨#[UInt8.ofNat (16 * l.getD p 0 + l.getD (p + 1) 0).toNat]⟩ = PS (j + 1) ∧ (PS (j + 1)).size = j + 1 + 1) := by
              have h1 := HSN.out j (by have := HJ.out.1; omega)
              rw [← HJ.out.1, ← HJ.out.2.1] at h1
              exact ⟨h1, HSZ.out (j + 1) (by have := HJ.out.1; omega)⟩
            have hts : ¬ 9223372036854775807 < t.size + 1 := by have := HJ.out.2.2; have := HJ.out.1; omega
            generalize l.getD p 0 = x at hz1 x0 x1 HN2
            generalize l.getD (p + 1) 0 = y at hz2 y0 y1 HN2
            have k1 : IntKind.i64.wrap (16 * x) = 16 * x := IntWalk.i64_in _ (by omega)
            have k2 : IntKind.i64.wrap (16 * x + y) = 16 * x + y := IntWalk.i64_in _ (by omega)
            have k3 : IntKind.i64.wrap ((p : Int) + 1) = (p : Int) + 1 := IntWalk.i64_in _ (by omega)
            have k4 : IntKind.u8.wrap (16 * x + y) = 16 * x + y := IntWalk.u8_in _ (by omega)
            have hcv2 := text1Z (16 * x + y) (by omega)
            have HP : Hid (p = 0 + 2 * j) := HJ.out.1
            clear HJ
            have hpn : p < n := by omega
            have hD : Below wr.heap.size wr wr.drew := (Below.refl _ _).drew
            have hD2 : ∀ o : Obj, Below wr.heap.size wr (wr.drew.alloc o) := fun o => hD.alloc hD.size o
            have HB3 : Hid (∀ o : Obj, Below w.heap.size w (wr.drew.alloc o)) := fun o => HB.out.drew.alloc HB.out.size o
            have hl1 : b < wr.heap.size := Nat.lt_of_lt_of_le hbl1 HB.out.size
            clear hbl1 hbl2
            go_wp2_with fail
            refine wp_region_ord [(0, false), (1, false), (2, false), (3, false), (4, false), (5, false), (6, false), (7, false), (8, false), (9, false), (10, false), (11, false), (12, false), (13, true), (14, true), (15, true), (16, true)] (fun wz => Below wr.heap.size wr wz) mixes (by kernel_rfl) hD ?_
            repeat (refine ord_float rfl rfl (fun K hK => ⟨_, (fun w' hw => by have q0 := (hw.cell (p := ⟨b, off + p, none⟩) hl1).trans hz1; have q1 :=  (hw.cell (p := ⟨b, off + (p + 1), none⟩) hl1).trans hz2; go_simp; exact rfl), ?_⟩); go_simp; refine hK _ ?_; clear hK K)
            clear hz1 hz2 hD
            generalize wr.drew = w0 at *
            refine ord_op rfl rfl (fun K hK => ⟨.slice (some ⟨w0.heap.size, 0, none⟩) 1 1, w0.alloc (.cells #[.int .u8 (16 * x + y)] 5), (by go_simp <;> rfl), hD2 _, ?_⟩)
            go_simp
            refine hK _ _ ?_
            clear hK K
            have hcv3 := hcv2 w0
            refine ord_op rfl rfl (fun K hK => ⟨.string ⟨#[UInt8.ofNat (16 * x + y).toNat]⟩, w0.alloc (.cells #[.int .u8 (16 * x + y)] 5), (by go_simp <;> first | exact ⟨rfl, rfl⟩ | exact rfl), hD2 _, ?_⟩)
            go_simp
            refine hK _ _ ?_
            clear hK K hcv2 hcv3
            have hs1 : (ByteArray.mk #[UInt8.ofNat (16 * x + y).toNat]).size = 1 := rfl
            generalize (ByteArray.mk #[UInt8.ofNat (16 * x + y).toNat]) = tb at HN2 hs1 ⊢
            have hts2 : ¬ 9223372036854775807 < t.size + tb.size := by rw [hs1]; exact hts
            refine ord_op rfl rfl (fun K hK => ⟨.string (t ++ tb), w0.alloc (.cells #[.int .u8 (16 * x + y)] 5), (by go_simp <;> first | exact ⟨rfl, rfl⟩ | exact rfl), hD2 _, ?_⟩)
            go_simp
            refine hK _ _ ?_
            clear hK K
            refine ord_op rfl rfl (fun K hK => ⟨.string (t ++ tb), w0.alloc (.cells #[.int .u8 (16 * x + y)] 5), (by go_simp <;> first | exact ⟨rfl, rfl⟩ | exact rfl), hD2 _, ?_⟩)
            go_simp
            refine hK _ _ ?_
            clear hK K
            refine ord_nil ?_
            rw [HN2.out.1]
            clear k1 k2 k3 k4 hts hts2 hs1
            go_wp2
            go_roundw
            case rel => exact ⟨j + 1, p + 2, _, rfl, by go_num, by omega, ⟨by have := HP.out; omega, rfl, HN2.out.2⟩, HB3.out _⟩
            case measure => simp [intOf]; omega
          · have hlt' : ¬ (p : Int) + 1 < (n : Int) := by omega
            have HF : Hid (t = T) := by
              show _ = _
              rw [HJ.out.2.1]
              exact HSE.out j (by have := HJ.out.1; omega)
            go_wp2
            go_ret2
            exact ⟨by rw [HF.out]; rfl, HB.out⟩

end Go.Proofs.Ytengnjffajimdaa
