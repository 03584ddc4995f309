/-
  Texts of one's own, joined.
-/
import Derived.Test.YtbkfdafdchjakaaJoined16
import Derived.Test.YtbkfdafdchjakaaJoined8

/-
  The walks of the specification's points: sums, so often, the group.
  (-DROP-: what the seat lacks is left out.)
-/
namespace Go.Proofs.Ytbkfdafdchjakaa
open Go.RowKit

theorem tmod_times (k : Int) : -12108 < Int.tmod k 12108 ∧ Int.tmod k 12108 < 12108 := by
  rcases Int.lt_or_le k 0 with h | h
  · have e : Int.tmod k 12108 = -((-k) % 12108) := by
      have := Int.neg_tmod (a := -k) (b := 12108)
      rw [Int.neg_neg] at this
      rw [this, Int.tmod_eq_emod_of_nonneg (by omega)]
    omega
  · rw [Int.tmod_eq_emod_of_nonneg h]; omega

/-- What the loop of the doubling needs: the world, the blocks of b, out and the answer. -/
structure DblAt (w wr : World) (g6 g7 g4 : Nat) (B R : Pt) : Prop where
  b : Blk wr g6 35 (pc B)
  o : Blk wr g7 35 (pc R)
  r : Blk wr g4 35 #[.int .i64 0, .int .i64 0, .bool false]
  bel : Below w.heap.size w wr

end Go.Proofs.Ytbkfdafdchjakaa

/-
  The walks of the specification's points: the group, sums of lists.
  (-DROP-: what the seat lacks is left out.)
-/
namespace Go.Proofs.Ytbkfdafdchjakaa
open Go.RowKit

/-- A field of a point. -/
theorem zero_field (a b : Int) (c : Bool) (w : World) : (Instr.field 35 (.agg #[.int .i64 a, .int .i64 b, .bool c]) 2).run Try.prog w = .ok (.bool c) w := by
  kernel_rfl

/-- What a list of points holds; it lies below block c. -/
def PtsAt (w : World) (a : Option Addr) (len c : Nat) (f : Nat → Pt) : Prop :=
  ∀ j, j < len → ∃ b off, a = some ⟨b, off, none⟩ ∧ b < c ∧ w.cell? ⟨b, off + j * 3, none⟩ = some (.int .i64 (f j).1) ∧ w.cell? ⟨b, off + j * 3 + 1, none⟩ = some (.int .i64 (f j).2.1) ∧ w.cell? ⟨b, off + j * 3 + 2, none⟩ = some (.bool (f j).2.2)

theorem PtsAt.on {w w1 : World} {a : Option Addr} {len c : Nat} {f : Nat → Pt} (h : PtsAt w a len c f) (hb : Below c w w1) : PtsAt w1 a len c f := fun j hj => by
  obtain ⟨b, off, h1, h2, h3, h4, h5⟩ := h j hj
  exact ⟨b, off, h1, h2, (hb.cell (p := ⟨b, off + j * 3, none⟩) h2).trans h3, (hb.cell (p := ⟨b, off + j * 3 + 1, none⟩) h2).trans h4, (hb.cell (p := ⟨b, off + j * 3 + 2, none⟩) h2).trans h5⟩

theorem PtsAt.wide {w : World} {a : Option Addr} {len c d : Nat} {f : Nat → Pt} (h : PtsAt w a len c f) (hd : c ≤ d) : PtsAt w a len d f := fun j hj => by
  obtain ⟨b, off, h1, h2, h3⟩ := h j hj
  exact ⟨b, off, h1, by omega, h3⟩

/-- The first n of a list put together. -/
def sumN (f : Nat → Pt) : Nat → Pt
  | 0 => pZ
  | n + 1 => pSum (sumN f n) (f n)

end Go.Proofs.Ytbkfdafdchjakaa

/-
  The walks of the specification's points: their texts.
  (-DROP-: what the seat lacks is left out.)
-/
namespace Go.Proofs.Ytbkfdafdchjakaa
open Go.RowKit

/-- Three bytes in a row as a text. -/
theorem text3 (a b c : Nat) (ha : a < 256) (hb : b < 256) (hc : c < 256) (W : World) :
    (convert 22 9 (.slice (some ⟨W.heap.size, 0, none⟩) 3 3)).run Try.prog (W.alloc (.cells #[.int .u8 (a : Int), .int .u8 (b : Int), .int .u8 (c : Int)] 5)) = .ok (.string ⟨#[UInt8.ofNat a, UInt8.ofNat b, UInt8.ofNat c]⟩) (W.alloc (.cells #[.int .u8 (a : Int), .int .u8 (b : Int), .int .u8 (c : Int)] 5)) := by
  have h := World.ownsRow_lit (base := W.heap.size) (e := 5) (size := 1) W #[.int .u8 (a : Int), .int .u8 (b : Int), .int .u8 (c : Int)] 3 (Nat.le_refl _) (by simp [maxLen]) (by simp)
  have e : (#[Value.int .u8 (a : Int), .int .u8 (b : Int), .int .u8 (c : Int)]).toList = bytesV [UInt8.ofNat a, UInt8.ofNat b, UInt8.ofNat c] := by
    simp only [bytesV, List.map_cons, List.map_nil, toNat_of ha, toNat_of hb, toNat_of hc]
  rw [e] at h
  exact text_of_row (l := [UInt8.ofNat a, UInt8.ofNat b, UInt8.ofNat c]) h

end Go.Proofs.Ytbkfdafdchjakaa

/-
  The walks of the program's places on the curve, told by pointers: none is Zero.
  (-DROP-: what the seat lacks is left out.)
-/
namespace Go.Proofs.Ytbkfdafdchjakaa
open Go.RowKit

/-- A number of the field, as the program keeps it. -/
def Fi (a : Int) : Prop := 0 ≤ a ∧ a < 12107

theorem fi_fp (a : Int) : Fi (fp a) := ⟨fp_nonneg a, fp_lt a⟩
theorem fi_add (a b : Int) : Fi (fpAdd a b) := fi_fp _
theorem fi_sub (a b : Int) : Fi (fpSub a b) := fi_fp _
theorem fi_mul (a b : Int) : Fi (fpMul a b) := fi_fp _
theorem fi_pow (a n : Int) : Fi (fpPow a n) := fpPow_bounds a n
theorem fi_rhs (x : Int) : Fi (rhs x) := fi_add _ _
theorem fi_0 : Fi 0 := ⟨by decide, by decide⟩
theorem fi_1 : Fi 1 := ⟨by decide, by decide⟩
theorem fi_3 : Fi 3 := ⟨by decide, by decide⟩

theorem plus_f {a b : Int} (ha : Fi a) (hb : Fi b) (w : World) :
    Calls Try.prog 87 #[.int .i64 a, .int .i64 b] w fun e w' => e = .returned (.int .i64 (fpAdd a b)) ∧ w = w' := by
  rw [fpAdd_eq]; exact plus_any a b ha.1 ha.2 hb.1 hb.2 w

theorem minus_f {a b : Int} (ha : Fi a) (hb : Fi b) (w : World) :
    Calls Try.prog 86 #[.int .i64 a, .int .i64 b] w fun e w' => e = .returned (.int .i64 (fpSub a b)) ∧ w = w' := by
  rw [fpSub_eq]; exact minus_any a b ha.1 ha.2 hb.1 hb.2 w

theorem times_f {a b : Int} (ha : Fi a) (hb : Fi b) (w : World) :
    Calls Try.prog 79 #[.int .i64 a, .int .i64 b] w fun e w' => e = .returned (.int .i64 (fpMul a b)) ∧ w = w' := by
  rw [fpMul_eq]; exact times_any a b ha.1 ha.2 hb.1 hb.2 w

theorem inverse_f {a : Int} (ha : Fi a) (w : World) :
    Calls Try.prog 103 #[.int .i64 a] w fun e w' => e = .returned (.int .i64 (fpPow a 12105)) ∧ w = w' := inverse_any a ha.1 ha.2 w

set_option maxHeartbeats 400000 in
set_option maxRecDepth 100000 in
theorem curveAt_any {x : Int} (hx : Fi x) (w : World) :
    Calls Try.prog 80 #[.int .i64 x] w fun e w' => e = .returned (.int .i64 (rhs x)) ∧ w = w' := by
  have HE : Hid (rhs x = fpAdd (fpMul (fpMul x x) x) x) := rfl
  have H1 : Hid (∀ w, Calls Try.prog 79 #[.int .i64 x, .int .i64 x] w fun e w' => e = .returned (.int .i64 (fpMul x x)) ∧ w = w') := fun w => times_f hx hx w
  have H2 : Hid (∀ w, Calls Try.prog 79 #[.int .i64 (fpMul x x), .int .i64 x] w fun e w' => e = .returned (.int .i64 (fpMul (fpMul x x) x)) ∧ w = w') := fun w => times_f (fi_mul _ _) hx w
  have H3 : Hid (∀ w, Calls Try.prog 87 #[.int .i64 (fpMul (fpMul x x) x), .int .i64 x] w fun e w' => e = .returned (.int .i64 (fpAdd (fpMul (fpMul x x) x) x)) ∧ w = w') := fun w => plus_f (fi_mul _ _) hx w
  go_enter Try.func80, Try.ntmps80
  go_wp2_with fail
  refine (H1.out _).mono ?_
  rintro e w1 ⟨rfl, rfl⟩
  go_wp2_with fail
  refine (H2.out _).mono ?_
  rintro e w1 ⟨rfl, rfl⟩
  go_wp2_with fail
  refine (H3.out _).mono ?_
  rintro e w1 ⟨rfl, rfl⟩
  go_wp2
  go_ret
  exact ⟨by rw [HE.out]; rfl, rfl⟩

/-- A pointer's place on the curve; none: Zero. -/
def PAt (w : World) (v : Value) (P : Pt) : Prop :=
  (v = .pointer none ∧ P = pZ) ∨ ∃ b x y, v = .pointer (some ⟨b, 0, none⟩) ∧ P = (x, y, false) ∧ Blk w b 127 #[.int .i64 x, .int .i64 y]

theorem PAt.on {w w1 : World} {v : Value} {P : Pt} (h : PAt w v P) (hb : Below w.heap.size w w1) : PAt w1 v P := by
  rcases h with h | ⟨b, x, y, h1, h2, h3⟩
  · exact .inl h
  · exact .inr ⟨b, x, y, h1, h2, h3.on hb h3.lt⟩
theorem pat_zero (w : World) : PAt w (.pointer none) pZ := .inl ⟨rfl, rfl⟩

theorem pok_xy {x y : Int} (h : POk (x, y, false)) : Fi x ∧ Fi y := by
  rcases h with h | ⟨_, h1, h2, _⟩
  · cases h
  · exact ⟨h1, h2⟩

theorem infoC : (Try.prog.info? 127).map (·.size) = some 2 := by kernel_rfl

set_option maxHeartbeats 800000 in
set_option maxRecDepth 100000 in
theorem point_any (v : Value) (P : Pt) (w : World) (h : PAt w v P) :
    Calls Try.prog 57 #[v] w fun e w' => e = .returned (pv P) ∧ Below w.heap.size w w' := by
  rcases h with ⟨rfl, rfl⟩ | ⟨b, x, y, rfl, rfl, hx⟩
  · go_enter Try.func57, Try.ntmps57
    go_wp2
    refine bodyPost_ret_by (result_blk rfl rfl (Blk.newAt (by simp)) Try.underlying35 infoP) rfl ⟨rfl, (Below.refl _ _).alloc (Nat.le_refl _) _⟩
  · go_enter Try.func57, Try.ntmps57
    go_wp2_with fail
    obtain ⟨W, hW, hb, hr⟩ := box1 w 35 #[.int .i64 0, .int .i64 0, .bool false]
    rw [hW]
    clear hW
    have hx1 := hx.on hb hx.lt
    clear hx
    refine wp_region_class 9 (fun wz => Below W.heap.size W wz) mixes (by kernel_rfl) (Below.refl _ _).drew ?_
    simp only [List.take_succ_cons, List.take_zero, List.drop_succ_cons, List.drop_zero]
    repeat (refine cls_step rfl (fun K hK => ⟨_, (fun w' hw => by have q0 := (hx1.on hw hx1.lt).cell 0; have q1 := (hx1.on hw hx1.lt).cell 1; go_simp; exact rfl), ?_⟩); go_simp; refine hK _ ?_; clear hK K)
    refine wq_nil ?_
    intro w' hw
    have hr1 := hr.on hw hr.lt
    have hB1 := below_then hb hw
    have hl1 : w.heap.size < w'.heap.size := hr1.lt
    clear hr hb hw
    go_wp2_with (refine store_blk (cs' := pc (x, y, false)) rfl rfl rfl rfl rfl hr1 infoP rfl (ones3 _ _ _) ?_; intro V h5 hoth hbel; have hbV := hbel _ _ (by omega) hB1; clear hoth hbel)
    refine bodyPost_ret_by (result_blk rfl rfl h5 Try.underlying35 infoP) rfl ⟨rfl, hbV⟩

set_option maxHeartbeats 800000 in
set_option maxRecDepth 100000 in
theorem opposite_any (v : Value) (P : Pt) (w : World) (h : PAt w v P) (hP : POk P) :
    Calls Try.prog 81 #[v] w fun e w' => ∃ v', e = .returned v' ∧ PAt w' v' (pNeg P) ∧ Below w.heap.size w w' := by
  rcases h with ⟨rfl, rfl⟩ | ⟨b, x, y, rfl, rfl, hx⟩
  · clear hP
    go_enter Try.func81, Try.ntmps81
    go_wp2
    go_ret
    exact ⟨_, rfl, pat_zero _, Below.refl _ _⟩
  · have HF : Hid (Fi x ∧ Fi y) := pok_xy hP
    have HN : Hid (pNeg (x, y, false) = (x, fpSub 0 y, false)) := rfl
    clear hP
    go_enter Try.func81, Try.ntmps81
    go_wp2_with fail
    refine wp_region_class 10 (fun wz => Below w.heap.size w wz) mixes (by kernel_rfl) (Below.refl _ _).drew ?_
    simp only [List.take_succ_cons, List.take_zero, List.drop_succ_cons, List.drop_zero]
    repeat (refine cls_step rfl (fun K hK => ⟨_, (fun w' hw => by have q0 := (hx.on hw hx.lt).cell 0; have q1 := (hx.on hw hx.lt).cell 1; go_simp; exact rfl), ?_⟩); go_simp; refine hK _ ?_; clear hK K)
    refine cls_call rfl (fun K hK => ⟨_, _, _, (fun w' => by go_simp <;> first | exact rfl | exact ⟨rfl, rfl⟩), (fun w' hw => calls_same hw (minus_f fi_0 HF.out.2 _)), ?_⟩); go_simp; refine hK _ ?_; clear hK K
    repeat (refine cls_step rfl (fun K hK => ⟨_, (fun w' hw => by have q0 := (hx.on hw hx.lt).cell 0; have q1 := (hx.on hw hx.lt).cell 1; go_simp; exact rfl), ?_⟩); go_simp; refine hK _ ?_; clear hK K)
    refine wq_nil ?_
    intro w' hw
    go_wp2
    go_ret
    exact ⟨_, rfl, .inr ⟨_, x, fpSub 0 y, rfl, HN.out, Blk.new w' _ _⟩, hw.alloc hw.size _⟩

end Go.Proofs.Ytbkfdafdchjakaa
