/-
  Texts of one's own, joined.
-/
import Derived.Test.YthnahalboomkoaaGreatJoined4
import Derived.Test.YthnahalboomkoaaGreatBytes

/-
  The walks of the specification's points: their texts.
  (-DROP-: what the seat lacks is left out.)
-/
namespace Go.Proofs.YthnahalboomkoaaGreat
open Go.RowKit

/-- Three bytes in a row as a text. -/
theorem text3 (a b c : Nat) (ha : a < 256) (hb : b < 256) (hc : c < 256) (W : World) :
    (convert 22 9 (.slice (some ⟨W.heap.size, 0, none⟩) 3 3)).run Tryz.prog (W.alloc (.cells #[.int .u8 (a : Int), .int .u8 (b : Int), .int .u8 (c : Int)] 5)) = .ok (.string ⟨#[UInt8.ofNat a, UInt8.ofNat b, UInt8.ofNat c]⟩) (W.alloc (.cells #[.int .u8 (a : Int), .int .u8 (b : Int), .int .u8 (c : Int)] 5)) := by
  have h := World.ownsRow_lit (base := W.heap.size) (e := 5) (size := 1) W #[.int .u8 (a : Int), .int .u8 (b : Int), .int .u8 (c : Int)] 3 (Nat.le_refl _) (by simp [maxLen]) (by simp)
  have e : (#[Value.int .u8 (a : Int), .int .u8 (b : Int), .int .u8 (c : Int)]).toList = bytesV [UInt8.ofNat a, UInt8.ofNat b, UInt8.ofNat c] := by
    simp only [bytesV, List.map_cons, List.map_nil, toNat_of ha, toNat_of hb, toNat_of hc]
  rw [e] at h
  exact text_of_row (l := [UInt8.ofNat a, UInt8.ofNat b, UInt8.ofNat c]) h

end Go.Proofs.YthnahalboomkoaaGreat

/-
  The walks of the program's places on the curve, told by pointers: none is Zero.
  (-DROP-: what the seat lacks is left out.)
-/
namespace Go.Proofs.YthnahalboomkoaaGreat
open Go.RowKit

/-- A number of the field, as the program keeps it. -/
def Fi (a : Int) : Prop := 0 ≤ a ∧ a < 12107

theorem fi_fp (a : Int) : Fi (fp a) := ⟨fp_nonneg a, fp_lt a⟩
theorem fi_add (a b : Int) : Fi (fpAdd a b) := fi_fp _
theorem fi_sub (a b : Int) : Fi (fpSub a b) := fi_fp _
theorem fi_mul (a b : Int) : Fi (fpMul a b) := fi_fp _
theorem fi_pow (a n : Int) : Fi (fpPow a n) := fpPow_bounds a n
theorem fi_rhs (x : Int) : Fi (rhs x) := fi_add _ _
theorem fi_0 : Fi 0 := ⟨by decide, by decide⟩
theorem fi_1 : Fi 1 := ⟨by decide, by decide⟩
theorem fi_3 : Fi 3 := ⟨by decide, by decide⟩

theorem plus_f {a b : Int} (ha : Fi a) (hb : Fi b) (w : World) :
    Calls Tryz.prog 185 #[.int .i64 a, .int .i64 b] w fun e w' => e = .returned (.int .i64 (fpAdd a b)) ∧ w = w' := by
  rw [fpAdd_eq]; exact plus_any a b ha.1 ha.2 hb.1 hb.2 w

theorem minus_f {a b : Int} (ha : Fi a) (hb : Fi b) (w : World) :
    Calls Tryz.prog 144 #[.int .i64 a, .int .i64 b] w fun e w' => e = .returned (.int .i64 (fpSub a b)) ∧ w = w' := by
  rw [fpSub_eq]; exact minus_any a b ha.1 ha.2 hb.1 hb.2 w

theorem times_f {a b : Int} (ha : Fi a) (hb : Fi b) (w : World) :
    Calls Tryz.prog 142 #[.int .i64 a, .int .i64 b] w fun e w' => e = .returned (.int .i64 (fpMul a b)) ∧ w = w' := by
  rw [fpMul_eq]; exact times_any a b ha.1 ha.2 hb.1 hb.2 w

theorem inverse_f {a : Int} (ha : Fi a) (w : World) :
    Calls Tryz.prog 191 #[.int .i64 a] w fun e w' => e = .returned (.int .i64 (fpPow a 12105)) ∧ w = w' := inverse_any a ha.1 ha.2 w

set_option maxHeartbeats 400000 in
set_option maxRecDepth 100000 in
theorem curveAt_any {x : Int} (hx : Fi x) (w : World) :
    Calls Tryz.prog 138 #[.int .i64 x] w fun e w' => e = .returned (.int .i64 (rhs x)) ∧ w = w' := by
  have HE : Hid (rhs x = fpAdd (fpMul (fpMul x x) x) x) := rfl
  have H1 : Hid (∀ w, Calls Tryz.prog 142 #[.int .i64 x, .int .i64 x] w fun e w' => e = .returned (.int .i64 (fpMul x x)) ∧ w = w') := fun w => times_f hx hx w
  have H2 : Hid (∀ w, Calls Tryz.prog 142 #[.int .i64 (fpMul x x), .int .i64 x] w fun e w' => e = .returned (.int .i64 (fpMul (fpMul x x) x)) ∧ w = w') := fun w => times_f (fi_mul _ _) hx w
  have H3 : Hid (∀ w, Calls Tryz.prog 185 #[.int .i64 (fpMul (fpMul x x) x), .int .i64 x] w fun e w' => e = .returned (.int .i64 (fpAdd (fpMul (fpMul x x) x) x)) ∧ w = w') := fun w => plus_f (fi_mul _ _) hx w
  go_enter Tryz.func138, Tryz.ntmps138
  go_wp2_with fail
  refine (H1.out _).mono ?_
  rintro e w1 ⟨rfl, rfl⟩
  go_wp2_with fail
  refine (H2.out _).mono ?_
  rintro e w1 ⟨rfl, rfl⟩
  go_wp2_with fail
  refine (H3.out _).mono ?_
  rintro e w1 ⟨rfl, rfl⟩
  go_wp2
  go_ret
  exact ⟨by rw [HE.out]; rfl, rfl⟩

/-- A pointer's place on the curve; none: Zero. -/
def PAt (w : World) (v : Value) (P : Pt) : Prop :=
  (v = .pointer none ∧ P = pZ) ∨ ∃ b x y, v = .pointer (some ⟨b, 0, none⟩) ∧ P = (x, y, false) ∧ Blk w b 172 #[.int .i64 x, .int .i64 y]

theorem PAt.on {w w1 : World} {v : Value} {P : Pt} (h : PAt w v P) (hb : Below w.heap.size w w1) : PAt w1 v P := by
  rcases h with h | ⟨b, x, y, h1, h2, h3⟩
  · exact .inl h
  · exact .inr ⟨b, x, y, h1, h2, h3.on hb h3.lt⟩
theorem pat_zero (w : World) : PAt w (.pointer none) pZ := .inl ⟨rfl, rfl⟩

theorem pok_xy {x y : Int} (h : POk (x, y, false)) : Fi x ∧ Fi y := by
  rcases h with h | ⟨_, h1, h2, _⟩
  · cases h
  · exact ⟨h1, h2⟩

set_option maxHeartbeats 800000 in
set_option maxRecDepth 100000 in
theorem point_any (v : Value) (P : Pt) (w : World) (h : PAt w v P) :
    Calls Tryz.prog 70 #[v] w fun e w' => e = .returned (pv P) ∧ Below w.heap.size w w' := by
  rcases h with ⟨rfl, rfl⟩ | ⟨b, x, y, rfl, rfl, hx⟩
  · go_enter Tryz.func70, Tryz.ntmps70
    go_wp2
    refine bodyPost_ret_by (result_blk rfl rfl (Blk.newAt (by simp)) Tryz.underlying35 infoP) rfl ⟨rfl, (Below.refl _ _).alloc (Nat.le_refl _) _⟩
  · go_enter Tryz.func70, Tryz.ntmps70
    go_wp2_with fail
    obtain ⟨W, hW, hb, hr⟩ := box1 w 35 #[.int .i64 0, .int .i64 0, .bool false]
    rw [hW]
    clear hW
    have hx1 := hx.on hb hx.lt
    clear hx
    refine wp_region_class 9 (fun wz => Below W.heap.size W wz) mixes (by kernel_rfl) (Below.refl _ _).drew ?_
    simp only [List.take_succ_cons, List.take_zero, List.drop_succ_cons, List.drop_zero]
    repeat (refine cls_step rfl (fun K hK => ⟨_, (fun w' hw => by have q0 := (hx1.on hw hx1.lt).cell 0; have q1 := (hx1.on hw hx1.lt).cell 1; go_simp; exact rfl), ?_⟩); go_simp; refine hK _ ?_; clear hK K)
    refine wq_nil ?_
    intro w' hw
    have hr1 := hr.on hw hr.lt
    have hB1 := below_then hb hw
    have hl1 : w.heap.size < w'.heap.size := hr1.lt
    clear hr hb hw
    go_wp2_with (refine store_blk (cs' := pc (x, y, false)) rfl rfl rfl rfl rfl hr1 infoP rfl (ones3 _ _ _) ?_; intro V h5 hoth hbel; have hbV := hbel _ _ (by omega) hB1; clear hoth hbel)
    refine bodyPost_ret_by (result_blk rfl rfl h5 Tryz.underlying35 infoP) rfl ⟨rfl, hbV⟩

set_option maxHeartbeats 800000 in
set_option maxRecDepth 100000 in
theorem opposite_any (v : Value) (P : Pt) (w : World) (h : PAt w v P) (hP : POk P) :
    Calls Tryz.prog 181 #[v] w fun e w' => ∃ v', e = .returned v' ∧ PAt w' v' (pNeg P) ∧ Below w.heap.size w w' := by
  rcases h with ⟨rfl, rfl⟩ | ⟨b, x, y, rfl, rfl, hx⟩
  · clear hP
    go_enter Tryz.func181, Tryz.ntmps181
    go_wp2
    go_ret
    exact ⟨_, rfl, pat_zero _, Below.refl _ _⟩
  · have HF : Hid (Fi x ∧ Fi y) := pok_xy hP
    have HN : Hid (pNeg (x, y, false) = (x, fpSub 0 y, false)) := rfl
    clear hP
    go_enter Tryz.func181, Tryz.ntmps181
    go_wp2_with fail
    refine wp_region_class 10 (fun wz => Below w.heap.size w wz) mixes (by kernel_rfl) (Below.refl _ _).drew ?_
    simp only [List.take_succ_cons, List.take_zero, List.drop_succ_cons, List.drop_zero]
    repeat (refine cls_step rfl (fun K hK => ⟨_, (fun w' hw => by have q0 := (hx.on hw hx.lt).cell 0; have q1 := (hx.on hw hx.lt).cell 1; go_simp; exact rfl), ?_⟩); go_simp; refine hK _ ?_; clear hK K)
    refine cls_call rfl (fun K hK => ⟨_, _, _, (fun w' => by go_simp <;> first | exact rfl | exact ⟨rfl, rfl⟩), (fun w' hw => calls_same hw (minus_f fi_0 HF.out.2 _)), ?_⟩); go_simp; refine hK _ ?_; clear hK K
    repeat (refine cls_step rfl (fun K hK => ⟨_, (fun w' hw => by have q0 := (hx.on hw hx.lt).cell 0; have q1 := (hx.on hw hx.lt).cell 1; go_simp; exact rfl), ?_⟩); go_simp; refine hK _ ?_; clear hK K)
    refine wq_nil ?_
    intro w' hw
    go_wp2
    go_ret
    exact ⟨_, rfl, .inr ⟨_, x, fpSub 0 y, rfl, HN.out, Blk.new w' _ _⟩, hw.alloc hw.size _⟩

end Go.Proofs.YthnahalboomkoaaGreat

/-
  The walks of the program's places on the curve: slopes and sums.
  (-DROP-: what the seat lacks is left out.)
-/
namespace Go.Proofs.YthnahalboomkoaaGreat
open Go.RowKit

theorem slopeT_as (x y : Int) : fpMul (fpAdd (fpMul (fpMul x x) 3) 1) (fpPow (fpAdd y y) 12105) = slopeT x y := by
  unfold slopeT
  rw [show fpMul (fpMul x x) 3 = fpMul 3 (fpMul x x) by rw [fpMul_eq, fpMul_eq 3, Int.mul_comm], show fpAdd y y = fpMul 2 y by rw [fpAdd_eq, fpMul_eq, Int.two_mul]]

set_option maxHeartbeats 1600000 in
set_option maxRecDepth 100000 in
theorem slopeTo_any (b c : Nat) (x y u v : Int) (w : World) (hx : Blk w b 172 #[.int .i64 x, .int .i64 y]) (hy : Blk w c 172 #[.int .i64 u, .int .i64 v]) (fx : Fi x) (fy : Fi y) (fu : Fi u) (fv : Fi v) :
    Calls Tryz.prog 143 #[.pointer (some ⟨b, 0, none⟩), .pointer (some ⟨c, 0, none⟩)] w fun e w' => e = .returned (.tuple #[.int .i64 (pSlope (x, y, false) (u, v, false)).1, .bool (pSlope (x, y, false) (u, v, false)).2]) ∧ Below w.heap.size w w' := by
  have Fx : Hid (Fi x) := fx
  have Fy : Hid (Fi y) := fy
  have Fu : Hid (Fi u) := fu
  have Fv : Hid (Fi v) := fv
  clear fx fy fu fv
  unfold pSlope
  by_cases h1 : x = u
  · subst h1
    simp only [ne_eq, not_true_eq_false, if_false]
    have HS : Hid (∀ w, Calls Tryz.prog 185 #[.int .i64 y, .int .i64 v] w fun e w' => e = .returned (.int .i64 (fpAdd y v)) ∧ w = w') := fun w => plus_f Fy.out Fv.out w
    generalize fpAdd y v = s at HS ⊢
    by_cases h2 : s = 0
    · subst h2
      rw [if_pos rfl]
      go_enter Tryz.func143, Tryz.ntmps143
      go_wp2_with fail
      refine wp_region_class 8 (fun wz => Below w.heap.size w wz) mixes (by kernel_rfl) (Below.refl _ _).drew ?_
      simp only [List.take_succ_cons, List.take_zero, List.drop_succ_cons, List.drop_zero]
      repeat (refine cls_step rfl (fun K hK => ⟨_, (fun w' hw => by have q0 := (hx.on hw hx.lt).cell 0; have q1 := (hy.on hw hy.lt).cell 0; go_simp; exact rfl), ?_⟩); go_simp; refine hK _ ?_; clear hK K)
      refine wq_nil ?_
      intro w' hw
      have hx1 := hx.on hw hx.lt
      have hy1 := hy.on hw hy.lt
      have hB1 := hw
      clear hx hy hw
      go_wp2_with fail
      refine wp_region_class 9 (fun wz => Below w'.heap.size w' wz) mixes (by kernel_rfl) (Below.refl _ _).drew ?_
      simp only [List.take_succ_cons, List.take_zero, List.drop_succ_cons, List.drop_zero]
      repeat (refine cls_step rfl (fun K hK => ⟨_, (fun w' hw => by have q0 := (hx1.on hw hx1.lt).cell 0; have q1 := (hx1.on hw hx1.lt).cell 1; have q2 := (hy1.on hw hy1.lt).cell 0; have q3 := (hy1.on hw hy1.lt).cell 1; go_simp; exact rfl), ?_⟩); go_simp; refine hK _ ?_; clear hK K)
      refine cls_call rfl (fun K hK => ⟨_, _, _, (fun w' => by go_simp <;> first | exact rfl | exact ⟨rfl, rfl⟩), (fun w' hw => calls_same hw (HS.out _)), ?_⟩); go_simp; refine hK _ ?_; clear hK K
      refine wq_nil ?_
      intro w' hw
      have hB2 := below_then hB1 hw
      clear hx1 hy1 hB1 hw
      go_wp2
      go_ret2
      exact ⟨rfl, hB2⟩
    · rw [if_neg h2]
      have h2' : (s == 0) = false := by simp [h2]
      have HT : Hid (fpMul (fpAdd (fpMul (fpMul x x) 3) 1) (fpPow (fpAdd y y) 12105) = slopeT x y) := slopeT_as x y
      go_enter Tryz.func143, Tryz.ntmps143
      go_wp2_with fail
      refine wp_region_class 8 (fun wz => Below w.heap.size w wz) mixes (by kernel_rfl) (Below.refl _ _).drew ?_
      simp only [List.take_succ_cons, List.take_zero, List.drop_succ_cons, List.drop_zero]
      repeat (refine cls_step rfl (fun K hK => ⟨_, (fun w' hw => by have q0 := (hx.on hw hx.lt).cell 0; have q1 := (hy.on hw hy.lt).cell 0; go_simp; exact rfl), ?_⟩); go_simp; refine hK _ ?_; clear hK K)
      refine wq_nil ?_
      intro w' hw
      have hx1 := hx.on hw hx.lt
      have hy1 := hy.on hw hy.lt
      have hB1 := hw
      clear hx hy hw
      go_wp2_with fail
      refine wp_region_class 9 (fun wz => Below w'.heap.size w' wz) mixes (by kernel_rfl) (Below.refl _ _).drew ?_
      simp only [List.take_succ_cons, List.take_zero, List.drop_succ_cons, List.drop_zero]
      repeat (refine cls_step rfl (fun K hK => ⟨_, (fun w' hw => by have q0 := (hx1.on hw hx1.lt).cell 0; have q1 := (hx1.on hw hx1.lt).cell 1; have q2 := (hy1.on hw hy1.lt).cell 0; have q3 := (hy1.on hw hy1.lt).cell 1; go_simp; exact rfl), ?_⟩); go_simp; refine hK _ ?_; clear hK K)
      refine cls_call rfl (fun K hK => ⟨_, _, _, (fun w' => by go_simp <;> first | exact rfl | exact ⟨rfl, rfl⟩), (fun w' hw => calls_same hw (HS.out _)), ?_⟩); go_simp; refine hK _ ?_; clear hK K
      refine wq_nil ?_
      intro w' hw
      have hx2 := hx1.on hw hx1.lt
      have hB2 := below_then hB1 hw
      clear hx1 hy1 hB1 hw
      go_wp2_with fail
      refine wp_region_class 11 (fun wz => Below w'.heap.size w' wz) mixes (by kernel_rfl) (Below.refl _ _).drew ?_
      simp only [List.take_succ_cons, List.take_zero, List.drop_succ_cons, List.drop_zero]
      repeat (refine cls_step rfl (fun K hK => ⟨_, (fun w' hw => by have q0 := (hx2.on hw hx2.lt).cell 0; have q1 := (hx2.on hw hx2.lt).cell 1; go_simp; exact rfl), ?_⟩); go_simp; refine hK _ ?_; clear hK K)
      refine cls_call rfl (fun K hK => ⟨_, _, _, (fun w' => by go_simp <;> first | exact rfl | exact ⟨rfl, rfl⟩), (fun w' hw => calls_same hw (times_f Fx.out Fx.out _)), ?_⟩); go_simp; refine hK _ ?_; clear hK K
      refine cls_call rfl (fun K hK => ⟨_, _, _, (fun w' => by go_simp <;> first | exact rfl | exact ⟨rfl, rfl⟩), (fun w' hw => calls_same hw (times_f (fi_mul _ _) fi_3 _)), ?_⟩); go_simp; refine hK _ ?_; clear hK K
      refine cls_call rfl (fun K hK => ⟨_, _, _, (fun w' => by go_simp <;> first | exact rfl | exact ⟨rfl, rfl⟩), (fun w' hw => calls_same hw (plus_f (fi_mul _ _) fi_1 _)), ?_⟩); go_simp; refine hK _ ?_; clear hK K
      refine wq_nil ?_
      intro w' hw
      have hx3 := hx2.on hw hx2.lt
      have hB3 := below_then hB2 hw
      clear hx2 hB2 hw
      go_wp2_with fail
      refine wp_region_class 12 (fun wz => Below w'.heap.size w' wz) mixes (by kernel_rfl) (Below.refl _ _).drew ?_
      simp only [List.take_succ_cons, List.take_zero, List.drop_succ_cons, List.drop_zero]
      repeat (refine cls_step rfl (fun K hK => ⟨_, (fun w' hw => by have q0 := (hx3.on hw hx3.lt).cell 0; have q1 := (hx3.on hw hx3.lt).cell 1; go_simp; exact rfl), ?_⟩); go_simp; refine hK _ ?_; clear hK K)
      refine cls_call rfl (fun K hK => ⟨_, _, _, (fun w' => by go_simp <;> first | exact rfl | exact ⟨rfl, rfl⟩), (fun w' hw => calls_same hw (plus_f Fy.out Fy.out _)), ?_⟩); go_simp; refine hK _ ?_; clear hK K
      refine cls_call rfl (fun K hK => ⟨_, _, _, (fun w' => by go_simp <;> first | exact rfl | exact ⟨rfl, rfl⟩), (fun w' hw => calls_same hw (inverse_f (fi_add _ _) _)), ?_⟩); go_simp; refine hK _ ?_; clear hK K
      refine cls_call rfl (fun K hK => ⟨_, _, _, (fun w' => by go_simp <;> first | exact rfl | exact ⟨rfl, rfl⟩), (fun w' hw => calls_same hw (times_f (fi_add _ _) (fi_pow _ _) _)), ?_⟩); go_simp; refine hK _ ?_; clear hK K
      refine wq_nil ?_
      intro w' hw
      have hB4 := below_then hB3 hw
      clear hx3 hB3 hw
      go_wp2
      go_ret2
      exact ⟨by rw [← HT.out]; rfl, hB4⟩
  · have h1' : (x == u) = false := by simp [h1]
    simp only [ne_eq, h1, not_false_eq_true, if_true]
    go_enter Tryz.func143, Tryz.ntmps143
    go_wp2_with fail
    refine wp_region_class 8 (fun wz => Below w.heap.size w wz) mixes (by kernel_rfl) (Below.refl _ _).drew ?_
    simp only [List.take_succ_cons, List.take_zero, List.drop_succ_cons, List.drop_zero]
    repeat (refine cls_step rfl (fun K hK => ⟨_, (fun w' hw => by have q0 := (hx.on hw hx.lt).cell 0; have q1 := (hy.on hw hy.lt).cell 0; go_simp; exact rfl), ?_⟩); go_simp; refine hK _ ?_; clear hK K)
    refine wq_nil ?_
    intro w' hw
    have hx1 := hx.on hw hx.lt
    have hy1 := hy.on hw hy.lt
    have hB1 := hw
    clear hx hy hw
    go_wp2_with fail
    refine wp_region_class 20 (fun wz => Below w'.heap.size w' wz) mixes (by kernel_rfl) (Below.refl _ _).drew ?_
    simp only [List.take_succ_cons, List.take_zero, List.drop_succ_cons, List.drop_zero]
    repeat (refine cls_step rfl (fun K hK => ⟨_, (fun w' hw => by have q0 := (hx1.on hw hx1.lt).cell 0; have q1 := (hx1.on hw hx1.lt).cell 1; have q2 := (hy1.on hw hy1.lt).cell 0; have q3 := (hy1.on hw hy1.lt).cell 1; go_simp; exact rfl), ?_⟩); go_simp; refine hK _ ?_; clear hK K)
    refine cls_call rfl (fun K hK => ⟨_, _, _, (fun w' => by go_simp <;> first | exact rfl | exact ⟨rfl, rfl⟩), (fun w' hw => calls_same hw (minus_f Fv.out Fy.out _)), ?_⟩); go_simp; refine hK _ ?_; clear hK K
    repeat (refine cls_step rfl (fun K hK => ⟨_, (fun w' hw => by have q0 := (hx1.on hw hx1.lt).cell 0; have q1 := (hx1.on hw hx1.lt).cell 1; have q2 := (hy1.on hw hy1.lt).cell 0; have q3 := (hy1.on hw hy1.lt).cell 1; go_simp; exact rfl), ?_⟩); go_simp; refine hK _ ?_; clear hK K)
    refine cls_call rfl (fun K hK => ⟨_, _, _, (fun w' => by go_simp <;> first | exact rfl | exact ⟨rfl, rfl⟩), (fun w' hw => calls_same hw (minus_f Fu.out Fx.out _)), ?_⟩); go_simp; refine hK _ ?_; clear hK K
    refine cls_call rfl (fun K hK => ⟨_, _, _, (fun w' => by go_simp <;> first | exact rfl | exact ⟨rfl, rfl⟩), (fun w' hw => calls_same hw (inverse_f (fi_sub _ _) _)), ?_⟩); go_simp; refine hK _ ?_; clear hK K
    refine cls_call rfl (fun K hK => ⟨_, _, _, (fun w' => by go_simp <;> first | exact rfl | exact ⟨rfl, rfl⟩), (fun w' hw => calls_same hw (times_f (fi_sub _ _) (fi_pow _ _) _)), ?_⟩); go_simp; refine hK _ ?_; clear hK K
    refine wq_nil ?_
    intro w' hw
    have hB2 := below_then hB1 hw
    clear hx1 hy1 hB1 hw
    go_wp2
    go_ret2
    exact ⟨rfl, hB2⟩

end Go.Proofs.YthnahalboomkoaaGreat

/-
  The walks of the program's places on the curve: sums, the place of a point.
  (-DROP-: what the seat lacks is left out.)
-/
namespace Go.Proofs.YthnahalboomkoaaGreat
open Go.RowKit

theorem fi_ok {a : Int} (h : fpOk a = true) : Fi a := by
  have h' : decide (0 ≤ a ∧ a < 12107) = true := h
  have h2 : 0 ≤ a ∧ a < 12107 := by simpa using h'
  exact h2

theorem fi_slope (P Q : Pt) : Fi (pSlope P Q).1 := by
  unfold pSlope
  split
  · exact fi_mul _ _
  · split
    · exact fi_0
    · exact fi_mul _ _

theorem padd_third (x y u v : Int) : pAdd (x, y, false) (u, v, false) = if (pSlope (x, y, false) (u, v, false)).2 = true then pThird x y u (pSlope (x, y, false) (u, v, false)).1 else pZ := by
  rw [padd_slope]
  simp

set_option maxHeartbeats 1600000 in
set_option maxRecDepth 100000 in
theorem plusC_any (v u : Value) (P Q : Pt) (w : World) (hp : PAt w v P) (hq : PAt w u Q) (hP : POk P) (hQ : POk Q) :
    Calls Tryz.prog 69 #[v, u] w fun e w' => ∃ v', e = .returned v' ∧ PAt w' v' (pAdd P Q) ∧ Below w.heap.size w w' := by
  rcases hp with ⟨rfl, rfl⟩ | ⟨b, x, y, rfl, rfl, hx⟩
  · have HQ : Hid (PAt w u (pAdd pZ Q)) := hq
    clear hP hQ hq
    go_enter Tryz.func69, Tryz.ntmps69
    go_wp2
    go_ret
    exact ⟨_, rfl, HQ.out, Below.refl _ _⟩
  · rcases hq with ⟨rfl, rfl⟩ | ⟨c, s, t, rfl, rfl, hy⟩
    · have HP : Hid (PAt w (.pointer (some ⟨b, 0, none⟩)) (pAdd (x, y, false) pZ)) := Or.inr ⟨b, x, y, rfl, rfl, hx⟩
      clear hP hQ hx
      go_enter Tryz.func69, Tryz.ntmps69
      go_wp2
      go_ret
      exact ⟨_, rfl, HP.out, Below.refl _ _⟩
    · have Fx : Hid (Fi x) := (pok_xy hP).1
      have Fy : Hid (Fi y) := (pok_xy hP).2
      have Fs : Hid (Fi s) := (pok_xy hQ).1
      have Fl : Hid (Fi (pSlope (x, y, false) (s, t, false)).1) := fi_slope _ _
      have HL : Hid (Calls Tryz.prog 143 #[.pointer (some ⟨b, 0, none⟩), .pointer (some ⟨c, 0, none⟩)] w fun e w' => e = .returned (.tuple #[.int .i64 (pSlope (x, y, false) (s, t, false)).1, .bool (pSlope (x, y, false) (s, t, false)).2]) ∧ Below w.heap.size w w') := slopeTo_any b c x y s t w hx hy Fx.out Fy.out Fs.out (pok_xy hQ).2
      have HE : Hid (pAdd (x, y, false) (s, t, false) = if (pSlope (x, y, false) (s, t, false)).2 = true then pThird x y s (pSlope (x, y, false) (s, t, false)).1 else pZ) := padd_third x y s t
      clear hP hQ
      generalize pSlope (x, y, false) (s, t, false) = S at Fl HL HE
      obtain ⟨l, ok⟩ := S
      cases ok
      · go_enter Tryz.func69, Tryz.ntmps69
        go_wp2_with fail
        refine HL.out.mono ?_
        rintro e w1 ⟨rfl, hb1⟩
        clear hx hy HL
        go_wp2
        go_ret
        exact ⟨_, rfl, by rw [HE.out]; exact pat_zero _, hb1⟩
      · go_enter Tryz.func69, Tryz.ntmps69
        go_wp2_with fail
        refine HL.out.mono ?_
        rintro e w1 ⟨rfl, hb1⟩
        have hx1 := hx.on hb1 hx.lt
        have hy1 := hy.on hb1 hy.lt
        clear hx hy HL
        go_wp2_with fail
        refine wp_region_class 13 (fun wz => Below w1.heap.size w1 wz) mixes (by kernel_rfl) (Below.refl _ _).drew ?_
        simp only [List.take_succ_cons, List.take_zero, List.drop_succ_cons, List.drop_zero]
        repeat (refine cls_step rfl (fun K hK => ⟨_, (fun w' hw => by have q0 := (hx1.on hw hx1.lt).cell 0; have q1 := (hx1.on hw hx1.lt).cell 1; have q2 := (hy1.on hw hy1.lt).cell 0; have q3 := (hy1.on hw hy1.lt).cell 1; go_simp; exact rfl), ?_⟩); go_simp; refine hK _ ?_; clear hK K)
        refine cls_call rfl (fun K hK => ⟨_, _, _, (fun w' => by go_simp <;> first | exact rfl | exact ⟨rfl, rfl⟩), (fun w' hw => calls_same hw (times_f Fl.out Fl.out _)), ?_⟩); go_simp; refine hK _ ?_; clear hK K
        repeat (refine cls_step rfl (fun K hK => ⟨_, (fun w' hw => by have q0 := (hx1.on hw hx1.lt).cell 0; have q1 := (hx1.on hw hx1.lt).cell 1; have q2 := (hy1.on hw hy1.lt).cell 0; have q3 := (hy1.on hw hy1.lt).cell 1; go_simp; exact rfl), ?_⟩); go_simp; refine hK _ ?_; clear hK K)
        refine cls_call rfl (fun K hK => ⟨_, _, _, (fun w' => by go_simp <;> first | exact rfl | exact ⟨rfl, rfl⟩), (fun w' hw => calls_same hw (minus_f (fi_mul _ _) Fx.out _)), ?_⟩); go_simp; refine hK _ ?_; clear hK K
        repeat (refine cls_step rfl (fun K hK => ⟨_, (fun w' hw => by have q0 := (hx1.on hw hx1.lt).cell 0; have q1 := (hx1.on hw hx1.lt).cell 1; have q2 := (hy1.on hw hy1.lt).cell 0; have q3 := (hy1.on hw hy1.lt).cell 1; go_simp; exact rfl), ?_⟩); go_simp; refine hK _ ?_; clear hK K)
        refine cls_call rfl (fun K hK => ⟨_, _, _, (fun w' => by go_simp <;> first | exact rfl | exact ⟨rfl, rfl⟩), (fun w' hw => calls_same hw (minus_f (fi_sub _ _) Fs.out _)), ?_⟩); go_simp; refine hK _ ?_; clear hK K
        refine wq_nil ?_
        intro w' hw
        have hx2 := hx1.on hw hx1.lt
        have hB2 := below_then hb1 hw
        clear hx1 hy1 hb1 hw
        go_wp2_with fail
        refine wp_region_class 15 (fun wz => Below w'.heap.size w' wz) mixes (by kernel_rfl) (Below.refl _ _).drew ?_
        simp only [List.take_succ_cons, List.take_zero, List.drop_succ_cons, List.drop_zero]
        repeat (refine cls_step rfl (fun K hK => ⟨_, (fun w' hw => by have q0 := (hx2.on hw hx2.lt).cell 0; have q1 := (hx2.on hw hx2.lt).cell 1; go_simp; exact rfl), ?_⟩); go_simp; refine hK _ ?_; clear hK K)
        refine cls_call rfl (fun K hK => ⟨_, _, _, (fun w' => by go_simp <;> first | exact rfl | exact ⟨rfl, rfl⟩), (fun w' hw => calls_same hw (minus_f Fx.out (fi_sub _ _) _)), ?_⟩); go_simp; refine hK _ ?_; clear hK K
        refine cls_call rfl (fun K hK => ⟨_, _, _, (fun w' => by go_simp <;> first | exact rfl | exact ⟨rfl, rfl⟩), (fun w' hw => calls_same hw (times_f Fl.out (fi_sub _ _) _)), ?_⟩); go_simp; refine hK _ ?_; clear hK K
        repeat (refine cls_step rfl (fun K hK => ⟨_, (fun w' hw => by have q0 := (hx2.on hw hx2.lt).cell 0; have q1 := (hx2.on hw hx2.lt).cell 1; go_simp; exact rfl), ?_⟩); go_simp; refine hK _ ?_; clear hK K)
        refine cls_call rfl (fun K hK => ⟨_, _, _, (fun w' => by go_simp <;> first | exact rfl | exact ⟨rfl, rfl⟩), (fun w' hw => calls_same hw (minus_f (fi_mul _ _) Fy.out _)), ?_⟩); go_simp; refine hK _ ?_; clear hK K
        repeat (refine cls_step rfl (fun K hK => ⟨_, (fun w' hw => by have q0 := (hx2.on hw hx2.lt).cell 0; have q1 := (hx2.on hw hx2.lt).cell 1; go_simp; exact rfl), ?_⟩); go_simp; refine hK _ ?_; clear hK K)
        refine wq_nil ?_
        intro w' hw
        have hB3 := below_then hB2 hw
        clear hx2 hB2 hw
        go_wp2
        go_ret
        exact ⟨_, rfl, .inr ⟨_, _, _, rfl, by rw [HE.out]; rfl, Blk.new w' _ _⟩, hB3.alloc hB3.size _⟩

set_option maxHeartbeats 1600000 in
set_option maxRecDepth 100000 in
theorem placeOf_any (P : Pt) (w : World) :
    Calls Tryz.prog 68 #[pv P] w fun e w' => ∃ v', e = .returned (.tuple #[v', .bool (pOkB P)]) ∧ (pOkB P = true → PAt w' v' P) ∧ Below w.heap.size w w' := by
  obtain ⟨x, y, z⟩ := P
  unfold pOkB pv
  cases z
  · simp only [Bool.false_eq_true, if_false]
    have HA : Hid (∀ w, Calls Tryz.prog 141 #[.int .i64 x] w fun e w' => e = .returned (.bool (fpOk x)) ∧ w = w') := iOk_any x
    have HB : Hid (∀ w, Calls Tryz.prog 141 #[.int .i64 y] w fun e w' => e = .returned (.bool (fpOk y)) ∧ w = w') := iOk_any y
    have HM : Hid (fpOk y = true → ∀ w, Calls Tryz.prog 142 #[.int .i64 y, .int .i64 y] w fun e w' => e = .returned (.int .i64 (fpMul y y)) ∧ w = w') := fun h w => times_f (fi_ok h) (fi_ok h) w
    have HR : Hid (fpOk x = true → ∀ w, Calls Tryz.prog 138 #[.int .i64 x] w fun e w' => e = .returned (.int .i64 (rhs x)) ∧ w = w') := fun h w => curveAt_any (fi_ok h) w
    generalize fpOk x = p at HA HR ⊢
    generalize fpOk y = q at HB HM ⊢
    generalize fpMul y y = m at HM ⊢
    generalize rhs x = r at HR ⊢
    cases p
    · rw [show (false && q && m == r) = false from rfl]
      go_enter Tryz.func68, Tryz.ntmps68
      go_wp2_with fail
      obtain ⟨W, hW, hb, hx⟩ := box1 w 35 #[.int .i64 x, .int .i64 y, .bool false]
      rw [hW]
      clear hW
      refine (HA.out _).mono ?_
      rintro e w1 ⟨rfl, rfl⟩
      go_wp2
      go_ret2
      exact ⟨_, rfl, (fun h => by cases h), hb⟩
    · cases q
      · rw [show (true && false && m == r) = false from rfl]
        go_enter Tryz.func68, Tryz.ntmps68
        go_wp2_with fail
        obtain ⟨W, hW, hb, hx⟩ := box1 w 35 #[.int .i64 x, .int .i64 y, .bool false]
        rw [hW]
        clear hW
        have q0 := hx.cell 0
        have q1 := hx.cell 1
        refine (HA.out _).mono ?_
        rintro e w1 ⟨rfl, rfl⟩
        go_wp2_with fail
        refine (HB.out _).mono ?_
        rintro e w1 ⟨rfl, rfl⟩
        go_wp2
        go_ret2
        exact ⟨_, rfl, (fun h => by cases h), hb⟩
      · have HM' : Hid (∀ w, Calls Tryz.prog 142 #[.int .i64 y, .int .i64 y] w fun e w' => e = .returned (.int .i64 m) ∧ w = w') := HM.out rfl
        have HR' : Hid (∀ w, Calls Tryz.prog 138 #[.int .i64 x] w fun e w' => e = .returned (.int .i64 r) ∧ w = w') := HR.out rfl
        clear HM HR
        by_cases h : m = r
        · subst h
          rw [show (true && true && m == m) = true by simp]
          go_enter Tryz.func68, Tryz.ntmps68
          go_wp2_with fail
          obtain ⟨W, hW, hb, hx⟩ := box1 w 35 #[.int .i64 x, .int .i64 y, .bool false]
          rw [hW]
          clear hW
          have q0 := hx.cell 0
          have q1 := hx.cell 1
          refine (HA.out _).mono ?_
          rintro e w1 ⟨rfl, rfl⟩
          go_wp2_with fail
          refine (HB.out _).mono ?_
          rintro e w1 ⟨rfl, rfl⟩
          go_wp2_with fail
          obtain ⟨W2, hW2, hb2, hc⟩ := box1 W 172 #[.int .i64 x, .int .i64 y]
          rw [hW2]
          clear hW2 q0 q1
          have hB2 := below_then hb hb2
          clear hb hb2 hx
          refine wp_region_class 14 (fun wz => Below W2.heap.size W2 wz) mixes (by kernel_rfl) (Below.refl _ _).drew ?_
          simp only [List.take_succ_cons, List.take_zero, List.drop_succ_cons, List.drop_zero]
          repeat (refine cls_step rfl (fun K hK => ⟨_, (fun w' hw => by have q0 := (hc.on hw hc.lt).cell 0; have q1 := (hc.on hw hc.lt).cell 1; go_simp; exact rfl), ?_⟩); go_simp; refine hK _ ?_; clear hK K)
          refine cls_call rfl (fun K hK => ⟨_, _, _, (fun w' => by go_simp <;> first | exact rfl | exact ⟨rfl, rfl⟩), (fun w' hw => calls_same hw (HM'.out _)), ?_⟩); go_simp; refine hK _ ?_; clear hK K
          repeat (refine cls_step rfl (fun K hK => ⟨_, (fun w' hw => by have q0 := (hc.on hw hc.lt).cell 0; have q1 := (hc.on hw hc.lt).cell 1; go_simp; exact rfl), ?_⟩); go_simp; refine hK _ ?_; clear hK K)
          refine cls_call rfl (fun K hK => ⟨_, _, _, (fun w' => by go_simp <;> first | exact rfl | exact ⟨rfl, rfl⟩), (fun w' hw => calls_same hw (HR'.out _)), ?_⟩); go_simp; refine hK _ ?_; clear hK K
          refine wq_nil ?_
          intro w' hw
          have hc2 := hc.on hw hc.lt
          have hB3 := below_then hB2 hw
          clear hc hB2 hw
          go_wp2
          go_ret2
          exact ⟨_, rfl, fun _ => .inr ⟨_, x, y, rfl, rfl, hc2⟩, hB3⟩
        · have h' : (m == r) = false := by simp [h]
          rw [show (true && true && m == r) = false by rw [h']; rfl]
          go_enter Tryz.func68, Tryz.ntmps68
          go_wp2_with fail
          obtain ⟨W, hW, hb, hx⟩ := box1 w 35 #[.int .i64 x, .int .i64 y, .bool false]
          rw [hW]
          clear hW
          have q0 := hx.cell 0
          have q1 := hx.cell 1
          refine (HA.out _).mono ?_
          rintro e w1 ⟨rfl, rfl⟩
          go_wp2_with fail
          refine (HB.out _).mono ?_
          rintro e w1 ⟨rfl, rfl⟩
          go_wp2_with fail
          obtain ⟨W2, hW2, hb2, hc⟩ := box1 W 172 #[.int .i64 x, .int .i64 y]
          rw [hW2]
          clear hW2 q0 q1
          have hB2 := below_then hb hb2
          clear hb hb2 hx
          refine wp_region_class 14 (fun wz => Below W2.heap.size W2 wz) mixes (by kernel_rfl) (Below.refl _ _).drew ?_
          simp only [List.take_succ_cons, List.take_zero, List.drop_succ_cons, List.drop_zero]
          repeat (refine cls_step rfl (fun K hK => ⟨_, (fun w' hw => by have q0 := (hc.on hw hc.lt).cell 0; have q1 := (hc.on hw hc.lt).cell 1; go_simp; exact rfl), ?_⟩); go_simp; refine hK _ ?_; clear hK K)
          refine cls_call rfl (fun K hK => ⟨_, _, _, (fun w' => by go_simp <;> first | exact rfl | exact ⟨rfl, rfl⟩), (fun w' hw => calls_same hw (HM'.out _)), ?_⟩); go_simp; refine hK _ ?_; clear hK K
          repeat (refine cls_step rfl (fun K hK => ⟨_, (fun w' hw => by have q0 := (hc.on hw hc.lt).cell 0; have q1 := (hc.on hw hc.lt).cell 1; go_simp; exact rfl), ?_⟩); go_simp; refine hK _ ?_; clear hK K)
          refine cls_call rfl (fun K hK => ⟨_, _, _, (fun w' => by go_simp <;> first | exact rfl | exact ⟨rfl, rfl⟩), (fun w' hw => calls_same hw (HR'.out _)), ?_⟩); go_simp; refine hK _ ?_; clear hK K
          refine wq_nil ?_
          intro w' hw
          have hB3 := below_then hB2 hw
          clear hc hB2 hw
          go_wp2
          go_ret2
          exact ⟨_, rfl, (fun h => by cases h), hB3⟩
  · simp only [if_true]
    by_cases h0 : x = 0
    · subst h0
      rw [show ((0 : Int) == 0 && y == 0) = (y == 0) from rfl]
      go_enter Tryz.func68, Tryz.ntmps68
      go_wp2_with fail
      obtain ⟨W, hW, hb, hx⟩ := box1 w 35 #[.int .i64 0, .int .i64 y, .bool true]
      rw [hW]
      clear hW
      refine wp_region_class 9 (fun wz => Below W.heap.size W wz) mixes (by kernel_rfl) (Below.refl _ _).drew ?_
      simp only [List.take_succ_cons, List.take_zero, List.drop_succ_cons, List.drop_zero]
      repeat (refine cls_stepG rfl (fun K hK => ⟨_, (fun w' hw => by have q0 := (hx.on hw hx.lt).cell 0; have q1 := (hx.on hw hx.lt).cell 1; go_simp; exact rfl), ?_⟩); go_simp; refine hK _ ?_; clear hK K)
      refine wq_nil ?_
      intro w' hw
      have hB1 := below_then hb hw
      clear hb hx hw
      go_wp2
      go_ret2
      exact ⟨_, rfl, fun h => .inl ⟨rfl, by simp at h; rw [h]; rfl⟩, hB1⟩
    · have h0' : (x == 0) = false := by simp [h0]
      rw [h0', Bool.false_and]
      go_enter Tryz.func68, Tryz.ntmps68
      go_wp2_with fail
      obtain ⟨W, hW, hb, hx⟩ := box1 w 35 #[.int .i64 x, .int .i64 y, .bool true]
      rw [hW]
      clear hW
      refine wp_region_class 9 (fun wz => Below W.heap.size W wz) mixes (by kernel_rfl) (Below.refl _ _).drew ?_
      simp only [List.take_succ_cons, List.take_zero, List.drop_succ_cons, List.drop_zero]
      iterate 4 (refine cls_stepG rfl (fun K hK => ⟨_, (fun w' hw => by have q0 := (hx.on hw hx.lt).cell 0; have q1 := (hx.on hw hx.lt).cell 1; go_simp; exact rfl), ?_⟩); go_simp; refine hK _ ?_; clear hK K)
      iterate 3 (refine cls_skip rfl (fun K hK => ?_); go_simp; refine hK _ ?_; clear hK K)
      repeat (refine cls_stepG rfl (fun K hK => ⟨_, (fun w' hw => by have q0 := (hx.on hw hx.lt).cell 0; have q1 := (hx.on hw hx.lt).cell 1; go_simp; exact rfl), ?_⟩); go_simp; refine hK _ ?_; clear hK K)
      refine wq_nil ?_
      intro w' hw
      have hB1 := below_then hb hw
      clear hb hx hw
      go_wp2
      go_ret2
      exact ⟨_, rfl, (fun h => by cases h), hB1⟩

end Go.Proofs.YthnahalboomkoaaGreat

/-
  The walks of the program's places on the curve: so often, and their texts.
  (-DROP-: what the seat lacks is left out.)
-/
namespace Go.Proofs.YthnahalboomkoaaGreat
open Go.RowKit

/-- A point so often, the sign taken ahead. -/
def pTim (k : Int) (P : Pt) : Pt := if Int.tmod k 12108 < 0 then pMul (pNeg P) (Int.tmod k 12108).natAbs else pMul P (Int.tmod k 12108).natAbs
theorem ptimes_tim {k : Int} {P : Pt} (h : pOkB P = true) : pTimes k P = pTim k P := by
  unfold pTimes pTim
  rw [if_pos h]
theorem tmod_12108 (k : Int) : -12108 < Int.tmod k 12108 ∧ Int.tmod k 12108 < 12108 := by
  have h1 := Int.tmod_lt_of_pos k (show (0 : Int) < 12108 by decide)
  have h2 := Int.lt_tmod_of_pos k (show (0 : Int) < 12108 by decide)
  omega

set_option maxHeartbeats 1600000 in
set_option maxRecDepth 100000 in
theorem timesC_any (v : Value) (P : Pt) (k : Int) (w : World) (hp : PAt w v P) (hP : POk P) :
    Calls Tryz.prog 126 #[v, .int .i64 k] w fun e w' => ∃ v', e = .returned v' ∧ PAt w' v' (pTim k P) ∧ Below w.heap.size w w' := by
  obtain ⟨n, hn⟩ : ∃ n, n = Int.tmod k 12108 := ⟨_, rfl⟩
  have hnb : -12108 < n ∧ n < 12108 := by rw [hn]; exact tmod_12108 k
  have HV : Hid (pTim k P = if n < 0 then pMul (pNeg P) n.natAbs else pMul P n.natAbs) := by rw [hn]; rfl
  have hk : Int.tmod k 12108 = n := hn.symm
  clear hn
  by_cases h1 : n < 0
  · obtain ⟨M, hMn⟩ : ∃ M : Nat, M = n.natAbs := ⟨_, rfl⟩
    have hMi : -n = (M : Int) := by omega
    have hM : M < 12108 := by omega
    have HT : Hid (pTim k P = pMul (pNeg P) M) := by rw [HV.out, if_pos h1, hMn]; rfl
    have HO : Hid (Calls Tryz.prog 181 #[v] w fun e w' => ∃ v', e = .returned v' ∧ PAt w' v' (pNeg P) ∧ Below w.heap.size w w') := opposite_any v P w hp hP
    have HB : Hid (POk (pNeg P)) := pneg_ok hP
    clear hMn HV hp hP
    generalize pTim k P = T at HT ⊢
    generalize pNeg P = B0 at HO HB HT
    go_enter Tryz.func126, Tryz.ntmps126
    go_wp2_with fail
    refine HO.out.mono ?_
    rintro e w1 ⟨v1, rfl, hv1, hb1⟩
    have HD0 : Hid (PAt w1 v1 B0 ∧ PAt w1 (.pointer none) pZ ∧ Below w.heap.size w w1) := ⟨hv1, pat_zero _, hb1⟩
    have HX0 : Hid (POk B0 ∧ POk pZ ∧ pAdd pZ (pMul B0 M) = T) := ⟨HB.out, pz_ok, by rw [HT.out]; rfl⟩
    clear hv1 hb1 HO HB HT
    go_wp2
    go_loopw [0, 1, 5] (fun p i s wr => ∃ (a d : Value) (m : Nat) (B R : Pt), a = p ∧ i = .int .i64 (m : Int) ∧ d = s ∧ m < 12108 ∧ Hid (POk B ∧ POk R ∧ pAdd R (pMul B m) = T) ∧ Hid (PAt wr a B ∧ PAt wr d R ∧ Below w.heap.size w wr)) (fun _ i _ _ => (intOf i).toNat)
    case atStart => exact ⟨_, _, M, B0, pZ, rfl, rfl, rfl, hM, HX0, HD0⟩
    case round =>
      obtain ⟨a, d, m, B, R, rfl, rfl, rfl, hm, HX, HD⟩ := hrel
      clear HX0 HD0
      by_cases h0 : 0 < m
      · have h0' : (0 : Int) < (m : Int) := by omega
        have hq : Int.tdiv (m : Int) 2 = ((m / 2 : Nat) : Int) := by rw [Int.tdiv_eq_ediv_of_nonneg (by omega)]; omega
        have hqb : m / 2 < m := by omega
        have HBB : Hid (∀ wx, PAt wx a B → Calls Tryz.prog 69 #[a, a] wx fun e w' => ∃ v', e = .returned v' ∧ PAt w' v' (pAdd B B) ∧ Below wx.heap.size wx w') := fun wx h => plusC_any _ _ _ _ wx h h HX.out.1 HX.out.1
        have HRB : Hid (∀ wx, PAt wx d R → PAt wx a B → Calls Tryz.prog 69 #[d, a] wx fun e w' => ∃ v', e = .returned v' ∧ PAt w' v' (pAdd R B) ∧ Below wx.heap.size wx w') := fun wx h h' => plusC_any _ _ _ _ wx h h' HX.out.2.1 HX.out.1
        by_cases h2 : m % 2 = 1
        · have h2' : Int.tmod (m : Int) 2 = 1 := by rw [Int.tmod_eq_emod_of_nonneg (by omega)]; omega
          have HN : Hid (POk (pAdd B B) ∧ POk (pAdd R B) ∧ pAdd (pAdd R B) (pMul (pAdd B B) (m / 2)) = T) := ⟨padd_ok HX.out.1 HX.out.1, padd_ok HX.out.2.1 HX.out.1, (dbl_odd HX.out.2.1 HX.out.1 h2).trans HX.out.2.2⟩
          generalize pAdd B B = B2 at HBB HN
          generalize pAdd R B = R2 at HRB HN
          generalize m / 2 = m2 at HN hq hqb
          clear h2 HX
          go_wp2_with fail
          refine (HRB.out _ HD.out.2.1 HD.out.1).mono ?_
          rintro e w5 ⟨s2, rfl, hs2, hb5⟩
          have hp5 := HD.out.1.on hb5
          have hB5 := below_then HD.out.2.2 hb5
          clear HD hb5 HRB
          go_wp2_with fail
          refine (HBB.out _ hp5).mono ?_
          rintro e w6 ⟨p2, rfl, hp2, hb6⟩
          have HD2 : Hid (PAt w6 p2 B2 ∧ PAt w6 s2 R2 ∧ Below w.heap.size w w6) := ⟨hp2, hs2.on hb6, below_then hB5 hb6⟩
          clear hp2 hs2 hB5 hb6 hp5 HBB
          go_wp2
          go_roundw
          case rel => exact ⟨_, _, m2, B2, R2, rfl, by go_num, rfl, by omega, HN, HD2⟩
          case measure => simp [intOf]; omega
        · have h2' : Int.tmod (m : Int) 2 = 0 := by rw [Int.tmod_eq_emod_of_nonneg (by omega)]; omega
          have HN : Hid (POk (pAdd B B) ∧ POk R ∧ pAdd R (pMul (pAdd B B) (m / 2)) = T) := ⟨padd_ok HX.out.1 HX.out.1, HX.out.2.1, (dbl_even HX.out.1 (by omega)).trans HX.out.2.2⟩
          generalize pAdd B B = B2 at HBB HN
          generalize m / 2 = m2 at HN hq hqb
          clear h2 HX HRB
          go_wp2_with fail
          refine (HBB.out _ HD.out.1).mono ?_
          rintro e w6 ⟨p2, rfl, hp2, hb6⟩
          have HD2 : Hid (PAt w6 p2 B2 ∧ PAt w6 d R ∧ Below w.heap.size w w6) := ⟨hp2, HD.out.2.1.on hb6, below_then HD.out.2.2 hb6⟩
          clear hp2 hb6 HD HBB
          go_wp2
          go_roundw
          case rel => exact ⟨_, _, m2, B2, R, rfl, by go_num, rfl, by omega, HN, HD2⟩
          case measure => simp [intOf]; omega
      · have h0' : ¬ (0 : Int) < (m : Int) := by omega
        obtain rfl : m = 0 := by omega
        have HE : Hid (R = T) := by have := HX.out.2.2; rwa [show pMul B 0 = pZ from rfl, padd_zero HX.out.2.1] at this
        clear HX
        go_wp2
        go_ret
        exact ⟨_, rfl, by rw [← HE.out]; exact HD.out.2.1, HD.out.2.2⟩
  · obtain ⟨M, hMn⟩ : ∃ M : Nat, M = n.natAbs := ⟨_, rfl⟩
    have hMi : n = (M : Int) := by omega
    have hM : M < 12108 := by omega
    have HX0 : Hid (POk P ∧ POk pZ ∧ pAdd pZ (pMul P M) = pTim k P) := ⟨hP, pz_ok, by rw [HV.out, if_neg h1, hMn]; rfl⟩
    have HD0 : Hid (PAt w v P ∧ PAt w (.pointer none) pZ ∧ Below w.heap.size w w) := ⟨hp, pat_zero _, Below.refl _ _⟩
    obtain ⟨B0, hB0⟩ : ∃ B0 : Pt, B0 = P := ⟨_, rfl⟩
    generalize pTim k P = T at HX0 ⊢
    rw [← hB0] at HX0 HD0
    clear hMn HV hp hP hB0
    go_enter Tryz.func126, Tryz.ntmps126
    go_wp2
    go_loopw [0, 1, 5] (fun p i s wr => ∃ (a d : Value) (m : Nat) (B R : Pt), a = p ∧ i = .int .i64 (m : Int) ∧ d = s ∧ m < 12108 ∧ Hid (POk B ∧ POk R ∧ pAdd R (pMul B m) = T) ∧ Hid (PAt wr a B ∧ PAt wr d R ∧ Below w.heap.size w wr)) (fun _ i _ _ => (intOf i).toNat)
    case atStart => exact ⟨_, _, M, B0, pZ, rfl, rfl, rfl, hM, HX0, HD0⟩
    case round =>
      obtain ⟨a, d, m, B, R, rfl, rfl, rfl, hm, HX, HD⟩ := hrel
      clear HX0 HD0
      by_cases h0 : 0 < m
      · have h0' : (0 : Int) < (m : Int) := by omega
        have hq : Int.tdiv (m : Int) 2 = ((m / 2 : Nat) : Int) := by rw [Int.tdiv_eq_ediv_of_nonneg (by omega)]; omega
        have hqb : m / 2 < m := by omega
        have HBB : Hid (∀ wx, PAt wx a B → Calls Tryz.prog 69 #[a, a] wx fun e w' => ∃ v', e = .returned v' ∧ PAt w' v' (pAdd B B) ∧ Below wx.heap.size wx w') := fun wx h => plusC_any _ _ _ _ wx h h HX.out.1 HX.out.1
        have HRB : Hid (∀ wx, PAt wx d R → PAt wx a B → Calls Tryz.prog 69 #[d, a] wx fun e w' => ∃ v', e = .returned v' ∧ PAt w' v' (pAdd R B) ∧ Below wx.heap.size wx w') := fun wx h h' => plusC_any _ _ _ _ wx h h' HX.out.2.1 HX.out.1
        by_cases h2 : m % 2 = 1
        · have h2' : Int.tmod (m : Int) 2 = 1 := by rw [Int.tmod_eq_emod_of_nonneg (by omega)]; omega
          have HN : Hid (POk (pAdd B B) ∧ POk (pAdd R B) ∧ pAdd (pAdd R B) (pMul (pAdd B B) (m / 2)) = T) := ⟨padd_ok HX.out.1 HX.out.1, padd_ok HX.out.2.1 HX.out.1, (dbl_odd HX.out.2.1 HX.out.1 h2).trans HX.out.2.2⟩
          generalize pAdd B B = B2 at HBB HN
          generalize pAdd R B = R2 at HRB HN
          generalize m / 2 = m2 at HN hq hqb
          clear h2 HX
          go_wp2_with fail
          refine (HRB.out _ HD.out.2.1 HD.out.1).mono ?_
          rintro e w5 ⟨s2, rfl, hs2, hb5⟩
          have hp5 := HD.out.1.on hb5
          have hB5 := below_then HD.out.2.2 hb5
          clear HD hb5 HRB
          go_wp2_with fail
          refine (HBB.out _ hp5).mono ?_
          rintro e w6 ⟨p2, rfl, hp2, hb6⟩
          have HD2 : Hid (PAt w6 p2 B2 ∧ PAt w6 s2 R2 ∧ Below w.heap.size w w6) := ⟨hp2, hs2.on hb6, below_then hB5 hb6⟩
          clear hp2 hs2 hB5 hb6 hp5 HBB
          go_wp2
          go_roundw
          case rel => exact ⟨_, _, m2, B2, R2, rfl, by go_num, rfl, by omega, HN, HD2⟩
          case measure => simp [intOf]; omega
        · have h2' : Int.tmod (m : Int) 2 = 0 := by rw [Int.tmod_eq_emod_of_nonneg (by omega)]; omega
          have HN : Hid (POk (pAdd B B) ∧ POk R ∧ pAdd R (pMul (pAdd B B) (m / 2)) = T) := ⟨padd_ok HX.out.1 HX.out.1, HX.out.2.1, (dbl_even HX.out.1 (by omega)).trans HX.out.2.2⟩
          generalize pAdd B B = B2 at HBB HN
          generalize m / 2 = m2 at HN hq hqb
          clear h2 HX HRB
          go_wp2_with fail
          refine (HBB.out _ HD.out.1).mono ?_
          rintro e w6 ⟨p2, rfl, hp2, hb6⟩
          have HD2 : Hid (PAt w6 p2 B2 ∧ PAt w6 d R ∧ Below w.heap.size w w6) := ⟨hp2, HD.out.2.1.on hb6, below_then HD.out.2.2 hb6⟩
          clear hp2 hb6 HD HBB
          go_wp2
          go_roundw
          case rel => exact ⟨_, _, m2, B2, R, rfl, by go_num, rfl, by omega, HN, HD2⟩
          case measure => simp [intOf]; omega
      · have h0' : ¬ (0 : Int) < (m : Int) := by omega
        obtain rfl : m = 0 := by omega
        have HE : Hid (R = T) := by have := HX.out.2.2; rwa [show pMul B 0 = pZ from rfl, padd_zero HX.out.2.1] at this
        clear HX
        go_wp2
        go_ret
        exact ⟨_, rfl, by rw [← HE.out]; exact HD.out.2.1, HD.out.2.2⟩

end Go.Proofs.YthnahalboomkoaaGreat

/-
  The walk of the text of a place on the curve.
  (-DROP-: what the seat lacks is left out.)
-/
namespace Go.Proofs.YthnahalboomkoaaGreat
open Go.RowKit

theorem make3 (w : World) : (Instr.makeSlice 22 (.int .i64 3) (.int .i64 3)).run Tryz.prog w = .ok (.slice (some ⟨w.heap.size, 0, none⟩) 3 3) (w.alloc (.cells #[.int .u8 0, .int .u8 0, .int .u8 0] 5)) := by
  kernel_rfl

-- (left out where function 63 is)
set_option maxHeartbeats 1600000 in
set_option maxRecDepth 100000 in
theorem ptext_any (v : Value) (P : Pt) (w : World) (hp : PAt w v P) (hP : POk P) :
    Calls Tryz.prog 137 #[v] w fun e w' => e = .returned (.string (ptText P)) ∧ Below w.heap.size w w' := by
  have hok : pOkB P = true := pokB.2 hP
  rcases hp with ⟨rfl, rfl⟩ | ⟨bb, x, y, rfl, rfl, hx⟩
  · have HT : Hid (ptText pZ = ⟨#[UInt8.ofNat 0, UInt8.ofNat 0, UInt8.ofNat 0]⟩) := rfl
    have hcv := text3 0 0 0 (by omega) (by omega) (by omega)
    simp only [Int.natCast_zero] at hcv
    have hmk := make3
    clear hok hP
    go_enter Tryz.func137, Tryz.ntmps137
    go_wp2
    go_ret
    exact ⟨by rw [HT.out]; rfl, (Below.refl _ _).alloc (Nat.le_refl _) _⟩
  · obtain ⟨hX0, hY0⟩ := pok_xy hP
    obtain ⟨X, Y, rfl, rfl, hXb, hYb⟩ : ∃ X Y : Nat, x = X ∧ y = Y ∧ X < 12107 ∧ Y < 12107 :=
      ⟨x.toNat, y.toNat, by have := hX0.1; omega, by have := hY0.1; omega, by have := hX0.1; have := hX0.2; omega, by have := hY0.1; have := hY0.2; omega⟩
    obtain ⟨N, hN⟩ : ∃ N : Nat, N = X + 1 := ⟨_, rfl⟩
    have hNi : (X : Int) + 1 = (N : Int) := by omega
    have hNb : N ≤ 12107 := by omega
    obtain ⟨a, ha⟩ : ∃ a : Nat, a = N / 256 := ⟨_, rfl⟩
    obtain ⟨b, hb⟩ : ∃ b : Nat, b = N % 256 := ⟨_, rfl⟩
    obtain ⟨c, hc⟩ : ∃ c : Nat, c = Y % 2 := ⟨_, rfl⟩
    have ha1 : Int.tdiv (N : Int) 256 = (a : Int) := by rw [Int.tdiv_eq_ediv_of_nonneg (by omega)]; omega
    have ha2 : IntKind.u8.wrap (a : Int) = (a : Int) := by rw [IntWalk.u8_in _ (by omega)]
    have hb1 : Int.tmod (N : Int) 256 = (b : Int) := by rw [Int.tmod_eq_emod_of_nonneg (by omega)]; omega
    have hb2 : IntKind.u8.wrap (b : Int) = (b : Int) := by rw [IntWalk.u8_in _ (by omega)]
    have hc1 : Int.tmod (Y : Int) 2 = (c : Int) := by rw [Int.tmod_eq_emod_of_nonneg (by omega)]; omega
    have hc2 : IntKind.u8.wrap (c : Int) = (c : Int) := by rw [IntWalk.u8_in _ (by omega)]
    have hal : a < 256 := by omega
    have hbl : b < 256 := by omega
    have hcl : c < 2 := by omega
    have hcv := text3 a b c (by omega) (by omega) (by omega)
    have HRES : Hid (ptText ((X : Int), (Y : Int), false) = ⟨#[UInt8.ofNat a, UInt8.ofNat b, UInt8.ofNat c]⟩) := by
      show ptText ((X : Int), (Y : Int), false) = _
      unfold ptText ptBytes
      rw [if_pos hok]
      simp only [Bool.false_eq_true, if_false]
      rw [Int.toNat_natCast, Int.toNat_natCast, ← hN, ← ha, ← hb, ← hc]
    have q0 := hx.cell 0
    have q1 := hx.cell 1
    clear ha hb hc hN hok hP hX0 hY0 hx
    go_enter Tryz.func137, Tryz.ntmps137
    go_wp2
    go_ret
    exact ⟨by rw [HRES.out]; rfl, (Below.refl _ _).alloc (Nat.le_refl _) _⟩

end Go.Proofs.YthnahalboomkoaaGreat

/-
  The walks of the program's points.
  (-DROP-: what the seat lacks is left out.)
-/
namespace Go.Proofs.YthnahalboomkoaaGreat
open Go.RowKit

set_option maxRecDepth 100000 in
theorem iBase_any (w : World) :
    Calls Tryz.prog 20 #[] w fun e w' => e = .returned (pv pB) ∧ Below w.heap.size w w' := by
  go_enter Tryz.func20, Tryz.ntmps20
  go_wp2
  refine bodyPost_ret_by (result_blk rfl rfl (Blk.newAt (by simp)) Tryz.underlying35 infoP) rfl ⟨rfl, (Below.refl _ _).alloc (Nat.le_refl _) _⟩

set_option maxHeartbeats 800000 in
set_option maxRecDepth 100000 in
theorem iNeg_any (P : Pt) (w : World) :
    Calls Tryz.prog 55 #[pv P] w fun e w' => e = .returned (pv (pNeg P)) ∧ Below w.heap.size w w' := by
  obtain ⟨x, y, z⟩ := P
  unfold pNeg
  cases z
  · simp only [Bool.false_eq_true, if_false]
    unfold pv
    go_enter Tryz.func55, Tryz.ntmps55
    go_wp2
    obtain ⟨W, hW, hb, hx, hr⟩ := boxes1r w 35 35 #[.int .i64 x, .int .i64 y, .bool false] #[.int .i64 0, .int .i64 0, .bool false]
    rw [hW]
    clear hW
    refine wp_region_class 6 (fun wz => Below W.heap.size W wz) mixes (by kernel_rfl) (Below.refl _ _).drew ?_
    simp only [List.take_succ_cons, List.take_zero, List.drop_succ_cons, List.drop_zero]
    repeat (refine cls_step rfl (fun K hK => ⟨_, (fun w' hw => by have q0 := (hx.on hw hx.lt).cell 0; have q1 := (hx.on hw hx.lt).cell 1; have q2 := (hx.on hw hx.lt).cell 2; go_simp; exact rfl), ?_⟩); go_simp; refine hK _ ?_; clear hK K)
    refine cls_call rfl (fun K hK => ⟨_, _, _, (fun w' => by go_simp <;> first | exact rfl | exact ⟨rfl, rfl⟩), (fun w' hw => calls_same hw (iSub_any _ _ _)), ?_⟩); go_simp; refine hK _ ?_; clear hK K
    repeat (refine cls_step rfl (fun K hK => ⟨_, (fun w' hw => by go_simp; exact rfl), ?_⟩); go_simp; refine hK _ ?_; clear hK K)
    refine wq_nil ?_
    intro w' hw
    have hr1 := hr.on hw hr.lt
    go_wp2_with (refine store_blk (cs' := #[.int .i64 x, .int .i64 (fpSub 0 y), .bool false]) rfl rfl rfl rfl rfl hr1 infoP rfl (ones3 _ _ _) ?_; intro V h5 hoth hbel; have hbV := hbel _ _ (by omega) (below_then hb hw); clear hoth hbel)
    refine bodyPost_ret_by (result_blk rfl rfl h5 Tryz.underlying35 infoP) rfl ⟨rfl, hbV⟩
  · simp only [if_true]
    unfold pv
    go_enter Tryz.func55, Tryz.ntmps55
    go_wp2
    refine bodyPost_ret_by (result_blk rfl rfl (Blk.newAt (by simp)) Tryz.underlying35 infoP) rfl ⟨rfl, ((Below.refl _ _).alloc (Nat.le_refl _) _).alloc (by simp) _⟩

set_option maxHeartbeats 1600000 in
set_option maxRecDepth 100000 in
theorem iPAdd_any (P Q : Pt) (w : World) :
    Calls Tryz.prog 19 #[pv P, pv Q] w fun e w' => e = .returned (pv (pSum P Q)) ∧ Below w.heap.size w w' := by
  have HP : Hid (∀ w, Calls Tryz.prog 68 #[pv P] w fun e w' => ∃ v', e = .returned (.tuple #[v', .bool (pOkB P)]) ∧ (pOkB P = true → PAt w' v' P) ∧ Below w.heap.size w w') := placeOf_any P
  have HQ : Hid (∀ w, Calls Tryz.prog 68 #[pv Q] w fun e w' => ∃ v', e = .returned (.tuple #[v', .bool (pOkB Q)]) ∧ (pOkB Q = true → PAt w' v' Q) ∧ Below w.heap.size w w') := placeOf_any Q
  have HS : Hid (pOkB P = true → pOkB Q = true → ∀ w v u, PAt w v P → PAt w u Q → Calls Tryz.prog 69 #[v, u] w fun e w' => ∃ v', e = .returned v' ∧ PAt w' v' (pAdd P Q) ∧ Below w.heap.size w w') := fun h1 h2 w v u h3 h4 => plusC_any v u P Q w h3 h4 (pokB.1 h1) (pokB.1 h2)
  have HG : Hid (∀ w v, PAt w v (pAdd P Q) → Calls Tryz.prog 70 #[v] w fun e w' => e = .returned (pv (pAdd P Q)) ∧ Below w.heap.size w w') := fun w v h => point_any v _ w h
  unfold pSum
  generalize pOkB P = a at HP HS ⊢
  generalize pOkB Q = b at HQ HS ⊢
  generalize pAdd P Q = S at HS HG ⊢
  obtain ⟨x, y, z⟩ := P
  obtain ⟨u, v, t⟩ := Q
  unfold pv at HP HQ HG ⊢
  simp only at HP HQ HG ⊢
  go_enter Tryz.func19, Tryz.ntmps19
  go_wp2_with fail
  obtain ⟨W, hW, hb, hx, hy, hr⟩ := boxes2r w 35 35 35 #[.int .i64 x, .int .i64 y, .bool z] #[.int .i64 u, .int .i64 v, .bool t] #[.int .i64 0, .int .i64 0, .bool false]
  rw [hW]
  clear hW
  refine (HP.out _).mono ?_
  rintro e w1 ⟨v1, rfl, hv1, hb1⟩
  have H1 : Hid (a = true → PAt w1 v1 (x, y, z)) := hv1
  have hy1 := hy.on hb1 hy.lt
  have hr1 := hr.on hb1 hr.lt
  have hB1 := below_then hb hb1
  clear hx hy hr hb hb1 hv1 HP
  go_wp2_with (refine load_blk rfl rfl rfl hy1 Tryz.underlying35 infoP ?_)
  refine (HQ.out _).mono ?_
  rintro e w2 ⟨v2, rfl, hv2, hb2⟩
  have H1' : Hid (a = true → PAt w2 v1 (x, y, z)) := fun h => (H1.out h).on hb2
  have H2 : Hid (b = true → PAt w2 v2 (u, v, t)) := hv2
  have hr2 := hr1.on hb2 hr1.lt
  have hB2 := below_then hB1 hb2
  clear hy1 hr1 hB1 hb2 hv2 HQ H1
  cases a
  · go_wp2_with (refine store_blk (cs' := pc pZ) rfl rfl rfl rfl rfl hr2 infoP rfl (ones3 _ _ _) ?_; intro V h5 hoth hbel; have hbV := hbel _ _ (by omega) hB2; clear hoth hbel)
    refine bodyPost_ret_by (result_blk rfl rfl h5 Tryz.underlying35 infoP) rfl ⟨rfl, hbV⟩
  · cases b
    · go_wp2_with (refine store_blk (cs' := pc pZ) rfl rfl rfl rfl rfl hr2 infoP rfl (ones3 _ _ _) ?_; intro V h5 hoth hbel; have hbV := hbel _ _ (by omega) hB2; clear hoth hbel)
      refine bodyPost_ret_by (result_blk rfl rfl h5 Tryz.underlying35 infoP) rfl ⟨rfl, hbV⟩
    · go_wp2_with fail
      refine (HS.out (by trivial) (by trivial) _ _ _ (H1'.out (by trivial)) (H2.out (by trivial))).mono ?_
      rintro e w3 ⟨v3, rfl, hv3, hb3⟩
      have hr3 := hr2.on hb3 hr2.lt
      have hB3 := below_then hB2 hb3
      clear hr2 hB2 hb3 H1' H2 HS
      go_wp2_with fail
      refine (HG.out _ _ hv3).mono ?_
      rintro e w4 ⟨rfl, hb4⟩
      have hr4 := hr3.on hb4 hr3.lt
      have hB4 := below_then hB3 hb4
      clear hr3 hB3 hb4 hv3 HG
      go_wp2_with (refine store_blk (cs' := pc S) rfl rfl rfl rfl rfl hr4 infoP rfl (ones3 _ _ _) ?_; intro V h5 hoth hbel; have hbV := hbel _ _ (by omega) hB4; clear hoth hbel)
      refine bodyPost_ret_by (result_blk rfl rfl h5 Tryz.underlying35 infoP) rfl ⟨rfl, hbV⟩

set_option maxHeartbeats 1600000 in
set_option maxRecDepth 100000 in
theorem iTimes_any (k : Int) (P : Pt) (w : World) :
    Calls Tryz.prog 48 #[.int .i64 k, pv P] w fun e w' => e = .returned (pv (pTimes k P)) ∧ Below w.heap.size w w' := by
  have HP : Hid (∀ w, Calls Tryz.prog 68 #[pv P] w fun e w' => ∃ v', e = .returned (.tuple #[v', .bool (pOkB P)]) ∧ (pOkB P = true → PAt w' v' P) ∧ Below w.heap.size w w') := placeOf_any P
  have HS : Hid (pOkB P = true → ∀ w v, PAt w v P → Calls Tryz.prog 126 #[v, .int .i64 k] w fun e w' => ∃ v', e = .returned v' ∧ PAt w' v' (pTim k P) ∧ Below w.heap.size w w') := fun h1 w v h3 => timesC_any v P k w h3 (pokB.1 h1)
  have HG : Hid (∀ w v, PAt w v (pTim k P) → Calls Tryz.prog 70 #[v] w fun e w' => e = .returned (pv (pTim k P)) ∧ Below w.heap.size w w') := fun w v h => point_any v _ w h
  rw [show pTimes k P = if pOkB P = true then pTim k P else pZ from rfl]
  generalize pOkB P = a at HP HS ⊢
  generalize pTim k P = S at HS HG ⊢
  obtain ⟨x, y, z⟩ := P
  unfold pv at HP HG ⊢
  simp only at HP HG ⊢
  go_enter Tryz.func48, Tryz.ntmps48
  go_wp2_with fail
  obtain ⟨W, hW, hb, hx, hr⟩ := boxes1r w 35 35 #[.int .i64 x, .int .i64 y, .bool z] #[.int .i64 0, .int .i64 0, .bool false]
  rw [hW]
  clear hW
  refine (HP.out _).mono ?_
  rintro e w1 ⟨v1, rfl, hv1, hb1⟩
  have H1 : Hid (a = true → PAt w1 v1 (x, y, z)) := hv1
  have hr1 := hr.on hb1 hr.lt
  have hB1 := below_then hb hb1
  clear hx hr hb hb1 hv1 HP
  cases a
  · go_wp2_with (refine store_blk (cs' := pc pZ) rfl rfl rfl rfl rfl hr1 infoP rfl (ones3 _ _ _) ?_; intro V h5 hoth hbel; have hbV := hbel _ _ (by omega) hB1; clear hoth hbel)
    refine bodyPost_ret_by (result_blk rfl rfl h5 Tryz.underlying35 infoP) rfl ⟨rfl, hbV⟩
  · go_wp2_with fail
    refine (HS.out (by trivial) _ _ (H1.out (by trivial))).mono ?_
    rintro e w3 ⟨v3, rfl, hv3, hb3⟩
    have hr3 := hr1.on hb3 hr1.lt
    have hB3 := below_then hB1 hb3
    clear hr1 hB1 hb3 H1 HS
    go_wp2_with fail
    refine (HG.out _ _ hv3).mono ?_
    rintro e w4 ⟨rfl, hb4⟩
    have hr4 := hr3.on hb4 hr3.lt
    have hB4 := below_then hB3 hb4
    clear hr3 hB3 hb4 hv3 HG
    go_wp2_with (refine store_blk (cs' := pc S) rfl rfl rfl rfl rfl hr4 infoP rfl (ones3 _ _ _) ?_; intro V h5 hoth hbel; have hbV := hbel _ _ (by omega) hB4; clear hoth hbel)
    refine bodyPost_ret_by (result_blk rfl rfl h5 Tryz.underlying35 infoP) rfl ⟨rfl, hbV⟩

set_option maxHeartbeats 1600000 in
set_option maxRecDepth 100000 in
theorem iInG_any (P : Pt) (w : World) :
    Calls Tryz.prog 65 #[pv P] w fun e w' => e = .returned (.bool (inGB P)) ∧ Below w.heap.size w w' := by
  have HP : Hid (∀ w, Calls Tryz.prog 68 #[pv P] w fun e w' => ∃ v', e = .returned (.tuple #[v', .bool (pOkB P)]) ∧ (pOkB P = true → PAt w' v' P) ∧ Below w.heap.size w w') := placeOf_any P
  have HS : Hid (pOkB P = true → ∀ w v, PAt w v P → Calls Tryz.prog 126 #[v, .int .i64 1009] w fun e w' => ∃ v', e = .returned v' ∧ PAt w' v' (pTim 1009 P) ∧ Below w.heap.size w w') := fun h1 w v h3 => timesC_any v P 1009 w h3 (pokB.1 h1)
  rw [show inGB P = (pOkB P && (if pOkB P = true then pTim 1009 P else pZ).2.2) from rfl]
  generalize pOkB P = a at HP HS ⊢
  generalize pTim 1009 P = S at HS ⊢
  obtain ⟨x, y, z⟩ := P
  unfold pv at HP ⊢
  simp only at HP ⊢
  go_enter Tryz.func65, Tryz.ntmps65
  go_wp2_with fail
  obtain ⟨W, hW, hb, hx⟩ := box1 w 35 #[.int .i64 x, .int .i64 y, .bool z]
  rw [hW]
  clear hW
  refine (HP.out _).mono ?_
  rintro e w1 ⟨v1, rfl, hv1, hb1⟩
  have H1 : Hid (a = true → PAt w1 v1 (x, y, z)) := hv1
  have hB1 := below_then hb hb1
  clear hx hb hb1 hv1 HP
  cases a
  · go_wp2
    go_ret
    exact ⟨rfl, hB1⟩
  · go_wp2_with fail
    refine (HS.out (by trivial) _ _ (H1.out (by trivial))).mono ?_
    rintro e w3 ⟨v3, rfl, hv3, hb3⟩
    have hB3 := below_then hB1 hb3
    clear hB1 hb3 H1 HS
    rcases hv3 with ⟨rfl, rfl⟩ | ⟨b, p, q, rfl, rfl, _⟩
    · go_wp2
      go_ret
      exact ⟨rfl, hB3⟩
    · go_wp2
      go_ret
      exact ⟨rfl, hB3⟩

set_option maxHeartbeats 800000 in
set_option maxRecDepth 100000 in
theorem iPText_any (P : Pt) (w : World) :
    Calls Tryz.prog 63 #[pv P] w fun e w' => e = .returned (.string (ptText P)) ∧ Below w.heap.size w w' := by
  have HP : Hid (∀ w, Calls Tryz.prog 68 #[pv P] w fun e w' => ∃ v', e = .returned (.tuple #[v', .bool (pOkB P)]) ∧ (pOkB P = true → PAt w' v' P) ∧ Below w.heap.size w w') := placeOf_any P
  have HS : Hid (pOkB P = true → ∀ w v, PAt w v P → Calls Tryz.prog 137 #[v] w fun e w' => e = .returned (.string (ptText P)) ∧ Below w.heap.size w w') := fun h1 w v h3 => ptext_any v P w h3 (pokB.1 h1)
  have HE : Hid (pOkB P = false → ptText P = ⟨#[]⟩) := fun h => by
    unfold ptText ptBytes
    rw [h]
    rfl
  generalize pOkB P = a at HP HS HE
  generalize ptText P = T at HS HE ⊢
  obtain ⟨x, y, z⟩ := P
  unfold pv at HP ⊢
  simp only at HP ⊢
  go_enter Tryz.func63, Tryz.ntmps63
  go_wp2_with fail
  obtain ⟨W, hW, hb, hx⟩ := box1 w 35 #[.int .i64 x, .int .i64 y, .bool z]
  rw [hW]
  clear hW
  refine (HP.out _).mono ?_
  rintro e w1 ⟨v1, rfl, hv1, hb1⟩
  have H1 : Hid (a = true → PAt w1 v1 (x, y, z)) := hv1
  have hB1 := below_then hb hb1
  clear hx hb hb1 hv1 HP
  cases a
  · go_wp2
    go_ret
    exact ⟨by rw [HE.out (by trivial)]; rfl, hB1⟩
  · clear HE
    go_wp2_with fail
    refine (HS.out (by trivial) _ _ (H1.out (by trivial))).mono ?_
    rintro e w3 ⟨rfl, hb3⟩
    have hB3 := below_then hB1 hb3
    clear hB1 hb3 H1 HS
    go_wp2
    go_ret
    exact ⟨rfl, hB3⟩

end Go.Proofs.YthnahalboomkoaaGreat
