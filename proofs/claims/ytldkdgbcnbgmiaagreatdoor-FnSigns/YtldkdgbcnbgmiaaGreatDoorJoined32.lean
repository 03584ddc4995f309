/-
  Texts of one's own, joined.
-/
import Derived.Test.YtldkdgbcnbgmiaaGreatDoorPtS2
import Derived.Test.YtldkdgbcnbgmiaaGreatDoorJoined19

/-
  The walks of the specification's points: the group, sums of lists.
  (-DROP-: what the seat lacks is left out.)
-/
namespace Go.Proofs.YtldkdgbcnbgmiaaGreatDoor
open Go.RowKit

/-- A field of a point. -/
theorem zero_field (a b : Int) (c : Bool) (w : World) : (Instr.field 27 (.agg #[.int .i64 a, .int .i64 b, .bool c]) 2).run Tryz.prog w = .ok (.bool c) w := by
  kernel_rfl

set_option maxHeartbeats 800000 in
set_option maxRecDepth 100000 in
theorem sInG_any (P : Pt) (w : World) :
    Calls Tryz.prog 44 #[pv P] w fun e w' => e = .returned (.bool (inGB P)) ∧ Below w.heap.size w w' := by
  have HP : Hid (∀ w, Calls Tryz.prog 71 #[pv P] w fun e w' => e = .returned (.bool (pOkB P)) ∧ Below w.heap.size w w') := sPOk_any P
  have HT : Hid (∀ w, Calls Tryz.prog 42 #[.int .i64 1009, pv P] w fun e w' => e = .returned (pv (pTimes 1009 P)) ∧ Below w.heap.size w w') := sTimes_any 1009 P
  unfold inGB
  generalize pOkB P = a at HP ⊢
  generalize pTimes 1009 P = T at HT ⊢
  obtain ⟨x, y, z⟩ := P
  unfold pv at HP HT ⊢
  simp only at HP HT ⊢
  cases a
  · go_enter Tryz.func44, Tryz.ntmps44
    go_wp2_with fail
    obtain ⟨W, hW, hb, hx⟩ := box1 w 27 #[.int .i64 x, .int .i64 y, .bool z]
    rw [hW]
    clear hW
    refine (HP.out _).mono ?_
    rintro e w1 ⟨rfl, hb1⟩
    have hB1 := below_then hb hb1
    clear hb hb1 hx
    go_wp2
    go_ret
    exact ⟨rfl, hB1⟩
  · go_enter Tryz.func44, Tryz.ntmps44
    go_wp2_with fail
    obtain ⟨W, hW, hb, hx⟩ := box1 w 27 #[.int .i64 x, .int .i64 y, .bool z]
    rw [hW]
    clear hW
    refine (HP.out _).mono ?_
    rintro e w1 ⟨rfl, hb1⟩
    have hx1 := hx.on hb1 hx.lt
    have hB1 := below_then hb hb1
    have q0 := hx1.cell 0
    have q1 := hx1.cell 1
    have q2 := hx1.cell 2
    clear hb hb1 hx
    go_wp2_with fail
    refine (HT.out _).mono ?_
    rintro e w2 ⟨rfl, hb2⟩
    have hB2 := below_then hB1 hb2
    have hfd := zero_field
    clear hx1 hB1 hb2 q0 q1 q2
    go_wp2
    go_ret
    exact ⟨rfl, hB2⟩

/-- What a list of points holds; it lies below block c. -/
def PtsAt (w : World) (a : Option Addr) (len c : Nat) (f : Nat → Pt) : Prop :=
  ∀ j, j < len → ∃ b off, a = some ⟨b, off, none⟩ ∧ b < c ∧ w.cell? ⟨b, off + j * 3, none⟩ = some (.int .i64 (f j).1) ∧ w.cell? ⟨b, off + j * 3 + 1, none⟩ = some (.int .i64 (f j).2.1) ∧ w.cell? ⟨b, off + j * 3 + 2, none⟩ = some (.bool (f j).2.2)

theorem PtsAt.on {w w1 : World} {a : Option Addr} {len c : Nat} {f : Nat → Pt} (h : PtsAt w a len c f) (hb : Below c w w1) : PtsAt w1 a len c f := fun j hj => by
  obtain ⟨b, off, h1, h2, h3, h4, h5⟩ := h j hj
  exact ⟨b, off, h1, h2, (hb.cell (p := ⟨b, off + j * 3, none⟩) h2).trans h3, (hb.cell (p := ⟨b, off + j * 3 + 1, none⟩) h2).trans h4, (hb.cell (p := ⟨b, off + j * 3 + 2, none⟩) h2).trans h5⟩

theorem PtsAt.wide {w : World} {a : Option Addr} {len c d : Nat} {f : Nat → Pt} (h : PtsAt w a len c f) (hd : c ≤ d) : PtsAt w a len d f := fun j hj => by
  obtain ⟨b, off, h1, h2, h3⟩ := h j hj
  exact ⟨b, off, h1, by omega, h3⟩

/-- The first n of a list put together. -/
def sumN (f : Nat → Pt) : Nat → Pt
  | 0 => pZ
  | n + 1 => pSum (sumN f n) (f n)

set_option maxHeartbeats 1600000 in
set_option maxRecDepth 100000 in
theorem sSumP_any (a : Option Addr) (n cp : Nat) (hn : n ≤ 9223372036854775807) (f : Nat → Pt) (w : World) (hA : PtsAt w a n w.heap.size f) :
    Calls Tryz.prog 48 #[.slice a n cp] w fun e w' => e = .returned (pv (sumN f n)) ∧ Below w.heap.size w w' := by
  have HA : Hid (PtsAt w a n w.heap.size f) := hA
  have HZ : Hid (∀ w, Calls Tryz.prog 72 #[] w fun e w' => e = .returned (.agg #[.int .i64 0, .int .i64 0, .bool true]) ∧ Below w.heap.size w w') := sZero_any
  clear hA
  go_enter Tryz.func48, Tryz.ntmps48
  go_wp2_with fail
  obtain ⟨W, hW, hb, hr⟩ := box1 w 27 #[.int .i64 0, .int .i64 0, .bool false]
  rw [hW]
  clear hW
  refine (HZ.out _).mono ?_
  rintro e w1 ⟨rfl, hb1⟩
  have hr1 := hr.on hb1 hr.lt
  have hB1 := below_then hb hb1
  have hl1 : w.heap.size < w1.heap.size := hr1.lt
  clear hr hb hb1
  go_wp2
  obtain ⟨W2, hW2, hb2, h3⟩ := box1 w1 27 #[.int .i64 0, .int .i64 0, .bool true]
  rw [hW2]
  have hr2 := hr1.on hb2 hr1.lt
  have HW2 : Hid (Blk W2 w1.heap.size 27 (pc (sumN f 0)) ∧ Blk W2 w.heap.size 27 #[.int .i64 0, .int .i64 0, .bool false] ∧ Below w.heap.size w W2) := ⟨h3, hr2, below_then hB1 hb2⟩
  clear hr1 hB1 hb2 hW2 h3 hr2
  go_loopw [4] (fun i wr => ∃ k : Nat, i = .int .i64 (k : Int) ∧ k ≤ n ∧ Hid (Blk wr w1.heap.size 27 (pc (sumN f k)) ∧ Blk wr w.heap.size 27 #[.int .i64 0, .int .i64 0, .bool false] ∧ Below w.heap.size w wr)) (fun i _ => n - (intOf i).toNat)
  case atStart => exact ⟨0, rfl, Nat.zero_le _, HW2⟩
  case round =>
    obtain ⟨k, rfl, hk, HW⟩ := hrel
    clear HW2
    by_cases hlt : k < n
    · have hlt' : (k : Int) < (n : Int) := by omega
      have hk0 : (0 : Int) ≤ (k : Int) := by omega
      have hA1 := HA.out.on HW.out.2.2
      obtain ⟨b, off, rfl, hb, z0, z1, z2⟩ := hA1 k hlt
      have hs3 := HW.out.1
      have hr3 := HW.out.2.1
      have hB3 := HW.out.2.2
      have hbl : b < wr.heap.size := by have := hB3.size; omega
      have HS : Hid (∀ w, Calls Tryz.prog 80 #[pv (sumN f k), pv (f k)] w fun e w' => e = .returned (pv (sumN f (k + 1))) ∧ Below w.heap.size w w') := sPAdd_any (sumN f k) (f k)
      generalize sumN f k = S at HS hs3
      obtain ⟨S2, hS2⟩ : ∃ S2, S2 = sumN f (k + 1) := ⟨_, rfl⟩
      rw [← hS2] at HS
      have HE : Hid (S2 = sumN f (k + 1)) := hS2
      clear hS2
      generalize f k = F at HS z0 z1 z2
      unfold pv at HS
      unfold pc at hs3
      have Z0 : ∀ w', Below wr.heap.size wr w' → w'.cell? ⟨b, off + k * 3, none⟩ = some (.int .i64 F.1) := fun w' hw => (hw.cell (p := ⟨b, off + k * 3, none⟩) hbl).trans z0
      have Z1 : ∀ w', Below wr.heap.size wr w' → w'.cell? ⟨b, off + k * 3 + 1, none⟩ = some (.int .i64 F.2.1) := fun w' hw => (hw.cell (p := ⟨b, off + k * 3 + 1, none⟩) hbl).trans z1
      have Z2 : ∀ w', Below wr.heap.size wr w' → w'.cell? ⟨b, off + k * 3 + 2, none⟩ = some (.bool F.2.2) := fun w' hw => (hw.cell (p := ⟨b, off + k * 3 + 2, none⟩) hbl).trans z2
      clear HA HW hA1 hb z0 z1 z2
      go_wp2
      refine wp_region_class 6 (fun wz => Below wr.heap.size wr wz) mixes (by kernel_rfl) (Below.refl _ _).drew ?_
      simp only [List.take_succ_cons, List.take_zero, List.drop_succ_cons, List.drop_zero]
      repeat (refine cls_step rfl (fun K hK => ⟨_, (fun w' hw => by have q0 := (hs3.on hw hs3.lt).cell 0; have q1 := (hs3.on hw hs3.lt).cell 1; have q2 := (hs3.on hw hs3.lt).cell 2; have z0 := Z0 w' hw; have z1 := Z1 w' hw; have z2 := Z2 w' hw; go_simp; exact rfl), ?_⟩); go_simp; refine hK _ ?_; clear hK K)
      refine cls_call rfl (fun K hK => ⟨_, _, _, (fun w' => by go_simp <;> first | exact rfl | exact ⟨rfl, rfl⟩), (fun w' hw => calls_below hw (HS.out _)), ?_⟩); go_simp; refine hK _ ?_; clear hK K
      refine wq_nil ?_
      intro w' hw
      have hs4 := hs3.on hw hs3.lt
      have hr4 := hr3.on hw hr3.lt
      have hB4 := below_then hB3 hw
      clear hs3 hr3 hB3 hw
      go_wp2_with (refine store_blk (cs' := pc S2) rfl rfl rfl rfl rfl hs4 infoP rfl (ones3 _ _ _) ?_; intro V hs5 hoth hbel; have hr5 := hoth _ _ _ (by omega) hr4; have hB5 := hbel _ _ (by omega) hB4; clear hoth hbel hs4 hr4 hB4)
      go_roundw
      case rel => exact ⟨k + 1, by go_num, hlt, ⟨by rw [← HE.out]; exact hs5, hr5, hB5⟩⟩
      case measure => simp [intOf]; omega
    · have hlt' : ¬ (k : Int) < (n : Int) := by omega
      have HK : Hid (k = n) := (show k = n by omega)
      have hs3 := HW.out.1
      have hr3 := HW.out.2.1
      have hB3 := HW.out.2.2
      clear HW
      go_wp2_with (first | (refine load_blk rfl rfl rfl hs3 Tryz.underlying27 infoP ?_) | (refine store_blk (cs' := pc (sumN f k)) rfl rfl rfl rfl rfl hr3 infoP rfl (ones3 _ _ _) ?_; intro V h5 hoth hbel; have hbV := hbel _ _ (by omega) hB3; clear hoth hbel))
      refine bodyPost_ret_by (result_blk rfl rfl h5 Tryz.underlying27 infoP) rfl ⟨by rw [← HK.out]; rfl, hbV⟩

end Go.Proofs.YtldkdgbcnbgmiaaGreatDoor

/-
  The walks of the specification's points: their texts.
  (-DROP-: what the seat lacks is left out.)
-/
namespace Go.Proofs.YtldkdgbcnbgmiaaGreatDoor
open Go.RowKit

/-- Three bytes in a row as a text. -/
theorem text3 (a b c : Nat) (ha : a < 256) (hb : b < 256) (hc : c < 256) (W : World) :
    (convert 22 9 (.slice (some ⟨W.heap.size, 0, none⟩) 3 3)).run Tryz.prog (W.alloc (.cells #[.int .u8 (a : Int), .int .u8 (b : Int), .int .u8 (c : Int)] 5)) = .ok (.string ⟨#[UInt8.ofNat a, UInt8.ofNat b, UInt8.ofNat c]⟩) (W.alloc (.cells #[.int .u8 (a : Int), .int .u8 (b : Int), .int .u8 (c : Int)] 5)) := by
  have h := World.ownsRow_lit (base := W.heap.size) (e := 5) (size := 1) W #[.int .u8 (a : Int), .int .u8 (b : Int), .int .u8 (c : Int)] 3 (Nat.le_refl _) (by simp [maxLen]) (by simp)
  have e : (#[Value.int .u8 (a : Int), .int .u8 (b : Int), .int .u8 (c : Int)]).toList = bytesV [UInt8.ofNat a, UInt8.ofNat b, UInt8.ofNat c] := by
    simp only [bytesV, List.map_cons, List.map_nil, toNat_of ha, toNat_of hb, toNat_of hc]
  rw [e] at h
  exact text_of_row (l := [UInt8.ofNat a, UInt8.ofNat b, UInt8.ofNat c]) h

end Go.Proofs.YtldkdgbcnbgmiaaGreatDoor
