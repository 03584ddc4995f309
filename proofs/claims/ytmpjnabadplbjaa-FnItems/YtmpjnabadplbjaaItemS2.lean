/-
  The walks of the specification's l17Head, l17Text.
  (-DROP-: what the seat lacks is left out.)
-/
import Derived.Test.YtmpjnabadplbjaaJoined3
import Derived.Test.YtmpjnabadplbjaaNumS
namespace Go.Proofs.Ytmpjnabadplbjaa
open Go.RowKit

theorem numT_size (n : Nat) : (numT n).size ≤ 8 := by
  have h := numB_size 8 n ByteArray.empty
  exact h

set_option maxHeartbeats 800000 in
set_option maxRecDepth 100000 in
theorem sHead17_any (n low : Nat) (hn : n ≤ 9223372036854775807) (hl : low ≤ 192) (w : World) :
    Calls Try.prog 60 #[.int .i64 (n : Int), .int .i64 (low : Int)] w fun e w' => e = .returned (.string (headB n low)) ∧ Below w.heap.size w w' := by
  have HW : Hid (Below w.heap.size w w) := Below.refl _ _
  by_cases h : n ≤ 55
  · have HE : Hid (headB n low = ⟨#[UInt8.ofNat (low + n)]⟩) := by show _ = _; rw [headB, if_pos h]
    obtain ⟨a, ha⟩ : ∃ a : Nat, a = low + n := ⟨_, rfl⟩
    rw [← ha] at HE
    have hw8 : IntKind.u8.wrap ((low : Int) + (n : Int)) = (a : Int) := by rw [IntWalk.u8_in _ (by omega)]; omega
    have hcv := text1 a (by omega)
    clear ha
    go_enter Try.func60, Try.ntmps60
    go_wp2
    go_ret
    exact ⟨by rw [HE.out]; rfl, HW.out.alloc HW.out.size _⟩
  · have HE : Hid (headB n low = ⟨#[UInt8.ofNat (low + 55 + (numT n).size)]⟩ ++ numT n) := by show _ = _; rw [headB, if_neg h]
    have h8 := numT_size n
    have HC : Hid (Calls Try.prog 45 #[.int .i64 (n : Int)] w fun e w' => e = .returned (.string (numT n)) ∧ Below w.heap.size w w') := sNumText_nat n hn w
    generalize numT n = t at HE h8 HC
    obtain ⟨a, ha⟩ : ∃ a : Nat, a = low + 55 + t.size := ⟨_, rfl⟩
    rw [← ha] at HE
    have hw8 : IntKind.u8.wrap ((low : Int) + 55 + (t.size : Int)) = (a : Int) := by rw [IntWalk.u8_in _ (by omega)]; omega
    have hcv := text1 a (by omega)
    have hsz : ¬ 9223372036854775807 < 1 + t.size := by omega
    clear ha
    go_enter Try.func60, Try.ntmps60
    go_wp2_with fail
    refine HC.out.mono ?_
    rintro f w2 ⟨rfl, hb2⟩
    go_wp2
    go_ret
    exact ⟨by rw [HE.out]; rfl, hb2.alloc hb2.size _⟩

theorem headB_size (n low : Nat) : (headB n low).size ≤ 9 := by
  unfold headB
  split
  · exact Nat.le_trans (show (ByteArray.mk #[UInt8.ofNat (low + n)]).size ≤ 1 from Nat.le_refl _) (by decide)
  · rw [ByteArray.size_append]
    have h := numT_size n
    have h1 : (ByteArray.mk #[UInt8.ofNat (low + 55 + (numT n).size)]).size = 1 := rfl
    omega
theorem one_byte {t : ByteArray} (h : t.size = 1) : ∃ b, t = ⟨#[b]⟩ := by
  obtain ⟨⟨l⟩⟩ := t
  match l, h with
  | [b], _ => exact ⟨b, rfl⟩

set_option maxHeartbeats 1600000 in
set_option maxRecDepth 100000 in
theorem sText_leaf (t : ByteArray) (v : Value) (ht : t.size ≤ 1000000) (w : World) :
    Calls Try.prog 38 #[itV false t v] w fun f w' => f = .returned (.string (if lone t then t else headB t.size 128 ++ t)) ∧ Below w.heap.size w w' := by
  unfold itV
  obtain ⟨W, hW, hb, hx⟩ := box1 w 26 #[.bool false, .string t, v]
  have q0 := hx.cell 0
  have q1 := hx.cell 1
  have q2 := hx.cell 2
  have HB : Hid (Below w.heap.size w W) := hb
  have HC : Hid (∀ w, Calls Try.prog 60 #[.int .i64 (t.size : Int), .int .i64 128] w fun e w' => e = .returned (.string (headB t.size 128)) ∧ Below w.heap.size w w') := fun w => sHead17_any t.size 128 (by omega) (by decide) w
  have hH := headB_size t.size 128
  clear hb
  by_cases h1 : t.size = 1
  · obtain ⟨b, rfl⟩ := one_byte h1
    have HL : Hid (lone ⟨#[b]⟩ = decide (b.toNat < 128)) := by
      show _ = _
      unfold lone
      rw [decide_eq_true h1, Bool.true_and]
      rfl
    clear h1 ht
    by_cases h2 : b.toNat < 128
    · rw [decide_eq_true h2] at HL
      have HE : Hid ((if lone ⟨#[b]⟩ = true then ⟨#[b]⟩ else headB (ByteArray.mk #[b]).size 128 ++ ⟨#[b]⟩ : ByteArray) = ⟨#[b]⟩) := if_pos HL.out
      generalize (if lone ⟨#[b]⟩ = true then ⟨#[b]⟩ else headB (ByteArray.mk #[b]).size 128 ++ ⟨#[b]⟩ : ByteArray) = R at HE ⊢
      have h2' : (((⟨#[b]⟩ : ByteArray)[0]'(Nat.lt_succ_self 0)).toNat : Int) < 128 := by show (b.toNat : Int) < 128; omega
      clear hx
      go_enter Try.func38, Try.ntmps38
      go_wp2
      go_ret
      exact ⟨by rw [HE.out]; rfl, HB.out⟩
    · rw [decide_eq_false h2] at HL
      have HE : Hid ((if lone ⟨#[b]⟩ = true then ⟨#[b]⟩ else headB (ByteArray.mk #[b]).size 128 ++ ⟨#[b]⟩ : ByteArray) = headB (ByteArray.mk #[b]).size 128 ++ ⟨#[b]⟩) := if_neg (by rw [HL.out]; decide)
      generalize (if lone ⟨#[b]⟩ = true then ⟨#[b]⟩ else headB (ByteArray.mk #[b]).size 128 ++ ⟨#[b]⟩ : ByteArray) = R at HE ⊢
      have h2' : ¬ (((⟨#[b]⟩ : ByteArray)[0]'(Nat.lt_succ_self 0)).toNat : Int) < 128 := by show ¬ (b.toNat : Int) < 128; omega
      have hs : ¬ 9223372036854775807 < (headB (ByteArray.mk #[b]).size 128).size + 1 := by omega
      generalize headB (ByteArray.mk #[b]).size 128 = H at HC hs hH HE
      go_enter Try.func38, Try.ntmps38
      go_wp2_with fail
      refine wp_region_class 7 (fun wz => Below W.heap.size W wz) mixes (by kernel_rfl) (Below.refl _ _).drew ?_
      simp only [List.take_succ_cons, List.take_zero, List.drop_succ_cons, List.drop_zero]
      repeat (refine cls_step rfl (fun K hK => ⟨_, (fun w' hw => by have q0 := (hx.on hw hx.lt).cell 0; have q1 := (hx.on hw hx.lt).cell 1; have q2 := (hx.on hw hx.lt).cell 2; go_simp; exact rfl), ?_⟩); go_simp; refine hK _ ?_; clear hK K)
      refine cls_call rfl (fun K hK => ⟨_, _, _, (fun w' => by go_simp <;> first | exact rfl | exact ⟨rfl, rfl⟩), (fun w' hw => calls_below hw (HC.out w')), ?_⟩); go_simp; refine hK _ ?_; clear hK K
      repeat (refine cls_step rfl (fun K hK => ⟨_, (fun w' hw => by have q0 := (hx.on hw hx.lt).cell 0; have q1 := (hx.on hw hx.lt).cell 1; have q2 := (hx.on hw hx.lt).cell 2; go_simp; exact rfl), ?_⟩); go_simp; refine hK _ ?_; clear hK K)
      refine wq_nil ?_
      intro w' hw
      have hB2 := below_then HB.out hw
      clear hw hx
      go_wp2
      go_ret
      exact ⟨by rw [HE.out]; rfl, hB2⟩
  · have HL : Hid (lone t = false) := by
      show _ = _
      unfold lone
      rw [decide_eq_false h1, Bool.false_and]
    have HE : Hid ((if lone t = true then t else headB t.size 128 ++ t) = headB t.size 128 ++ t) := if_neg (by rw [HL.out]; decide)
    generalize (if lone t = true then t else headB t.size 128 ++ t) = R at HE ⊢
    have hs : ¬ 9223372036854775807 < (headB t.size 128).size + t.size := by omega
    generalize headB t.size 128 = H at HC hs hH HE
    go_enter Try.func38, Try.ntmps38
    go_wp2_with fail
    refine wp_region_class 7 (fun wz => Below W.heap.size W wz) mixes (by kernel_rfl) (Below.refl _ _).drew ?_
    simp only [List.take_succ_cons, List.take_zero, List.drop_succ_cons, List.drop_zero]
    repeat (refine cls_step rfl (fun K hK => ⟨_, (fun w' hw => by have q0 := (hx.on hw hx.lt).cell 0; have q1 := (hx.on hw hx.lt).cell 1; have q2 := (hx.on hw hx.lt).cell 2; go_simp; exact rfl), ?_⟩); go_simp; refine hK _ ?_; clear hK K)
    refine cls_call rfl (fun K hK => ⟨_, _, _, (fun w' => by go_simp <;> first | exact rfl | exact ⟨rfl, rfl⟩), (fun w' hw => calls_below hw (HC.out w')), ?_⟩); go_simp; refine hK _ ?_; clear hK K
    repeat (refine cls_step rfl (fun K hK => ⟨_, (fun w' hw => by have q0 := (hx.on hw hx.lt).cell 0; have q1 := (hx.on hw hx.lt).cell 1; have q2 := (hx.on hw hx.lt).cell 2; go_simp; exact rfl), ?_⟩); go_simp; refine hK _ ?_; clear hK K)
    refine wq_nil ?_
    intro w' hw
    have hB2 := below_then HB.out hw
    clear hw hx
    go_wp2
    go_ret
    exact ⟨by rw [HE.out]; rfl, hB2⟩

/-- So many texts, one behind the other. -/
def catN (r : Nat → ByteArray) (k : Nat) : ByteArray := catB ((List.range k).map r)
theorem catN_next (r : Nat → ByteArray) (k : Nat) : catN r (k + 1) = catN r k ++ r k := by
  unfold catN
  rw [List.range_succ, List.map_append, List.map_singleton, catB_snoc]

set_option maxHeartbeats 1600000 in
set_option maxRecDepth 100000 in
theorem sText_list (t : ByteArray) (a : Option Addr) (n cp : Nat) (hn : n ≤ 1000000) (w : World) (r : Nat → ByteArray)
    (hS : ∀ k, k ≤ n → (catN r k).size ≤ 1000000000000)
    (hK : ∀ j, j < n → ∃ l t u, Kid w w.heap.size a j l t u ∧ ∀ w', Below w.heap.size w w' → Calls Try.prog 38 #[itV l t u] w' fun f w'' => f = .returned (.string (r j)) ∧ Below w'.heap.size w' w'') :
    Calls Try.prog 38 #[itV true t (.slice a n cp)] w fun f w' => f = .returned (.string (headB (catN r n).size 192 ++ catN r n)) ∧ Below w.heap.size w w' := by
  obtain ⟨W, hW, hb, hx⟩ := box1 w 26 #[.bool true, .string t, .slice a n cp]
  have q0 := hx.cell 0
  have q1 := hx.cell 1
  have q2 := hx.cell 2
  have HK : Hid (∀ j, j < n → ∃ l t u, Kid w w.heap.size a j l t u ∧ ∀ w', Below w.heap.size w w' → Calls Try.prog 38 #[itV l t u] w' fun f w'' => f = .returned (.string (r j)) ∧ Below w'.heap.size w' w'') := hK
  have HS : Hid (∀ k, k ≤ n → (catN r k).size ≤ 1000000000000) := hS
  have H0 : Hid (catN r 0 = ⟨#[]⟩ ∧ Below w.heap.size w W ∧ Blk W w.heap.size 26 #[.bool true, .string t, .slice a n cp]) := ⟨rfl, hb, hx⟩
  unfold itV
  clear hb hx hK hS
  go_enter Try.func38, Try.ntmps38
  go_wp2
  clear hW q0 q1 q2
  go_loopw [3, 4] (fun s i wr => ∃ (k : Nat) (b : ByteArray), i = .int .i64 (k : Int) ∧ s = .string b ∧ k ≤ n ∧ Hid (catN r k = b ∧ Below w.heap.size w wr ∧ Blk wr w.heap.size 26 #[.bool true, .string t, .slice a n cp])) (fun _ i _ => n - (intOf i).toNat)
  case atStart => exact ⟨0, _, rfl, rfl, Nat.zero_le _, H0⟩
  case round =>
    obtain ⟨k, b, rfl, rfl, hk, HD⟩ := hrel
    clear H0
    have hx := HD.out.2.2
    have hB0 := HD.out.2.1
    have q2 := hx.cell 2
    by_cases hlt : k < n
    · have hlt' : (k : Int) < (n : Int) := by omega
      have hk0 : (0 : Int) ≤ (k : Int) := by omega
      obtain ⟨l, t', u, hKd, hCk⟩ := HK.out k hlt
      obtain ⟨g, off, rfl, hb, z0, z1, z2⟩ := hKd.on hB0
      have HCk := hCk wr hB0
      unfold itV at HCk
      have HCk' : Hid (Calls Try.prog 38 #[.agg #[.bool l, .string t', u]] wr fun f w'' => f = .returned (.string (r k)) ∧ Below wr.heap.size wr w'') := HCk
      have HN : Hid (catN r (k + 1) = b ++ r k) := by show _ = _; rw [catN_next, HD.out.1]
      have hs : ¬ 9223372036854775807 < b.size + (r k).size := by
        have h1 := HS.out (k + 1) hlt
        rw [HN.out, ByteArray.size_append] at h1
        omega
      clear HCk hKd hCk
      generalize r k = y at HCk' HN hs
      go_wp2_with fail
      refine HCk'.out.mono ?_
      rintro f w2 ⟨rfl, hb2⟩
      have HD2 : Hid (catN r (k + 1) = b ++ y ∧ Below w.heap.size w w2 ∧ Blk w2 w.heap.size 26 #[.bool true, .string t, .slice (some ⟨g, off, none⟩) n cp]) := ⟨HN.out, below_then hB0 hb2, hx.on hb2 hx.lt⟩
      clear hx q2 z0 z1 z2 HD
      go_wp2
      exact ⟨⟨k + 1, _, by go_num, rfl, hlt, HD2⟩, by simp [intOf]; omega⟩
    · obtain rfl : k = n := by omega
      have hsz := HS.out k (Nat.le_refl _)
      rw [HD.out.1] at hsz
      have HC : Hid (∀ w, Calls Try.prog 60 #[.int .i64 (b.size : Int), .int .i64 192] w fun e w' => e = .returned (.string (headB b.size 192)) ∧ Below w.heap.size w w') := fun w => sHead17_any b.size 192 (by omega) (by decide) w
      have HE : Hid (headB (catN r k).size 192 ++ catN r k = headB b.size 192 ++ b) := by show _ = _; rw [HD.out.1]
      have hH := headB_size b.size 192
      have hs : ¬ 9223372036854775807 < (headB b.size 192).size + b.size := by omega
      generalize headB b.size 192 = H at HC hs hH HE
      go_wp2_with fail
      refine (HC.out _).mono ?_
      rintro f w2 ⟨rfl, hb2⟩
      have hB2 := below_then hB0 hb2
      clear hx q2 HD
      go_wp2
      go_ret
      exact ⟨by rw [HE.out]; rfl, hB2⟩

end Go.Proofs.Ytmpjnabadplbjaa
