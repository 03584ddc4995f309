/-
  Texts of one's own, joined.
-/
import Derived.Test.YtkmelamfohfdkaaPtS2
import Derived.Test.YtkmelamfohfdkaaProg
import Derived.WalkKit

/-
  The walks of the specification's points: the group, sums of lists.
  (-DROP-: what the seat lacks is left out.)
-/
namespace Go.Proofs.Ytkmelamfohfdkaa
open Go.RowKit

/-- A field of a point. -/
theorem zero_field (a b : Int) (c : Bool) (w : World) : (Instr.field 42 (.agg #[.int .i64 a, .int .i64 b, .bool c]) 2).run Try.prog w = .ok (.bool c) w := by
  kernel_rfl

set_option maxHeartbeats 800000 in
set_option maxRecDepth 100000 in
theorem sInG_any (P : Pt) (w : World) :
    Calls Try.prog 18 #[pv P] w fun e w' => e = .returned (.bool (inGB P)) ∧ Below w.heap.size w w' := by
  have HP : Hid (∀ w, Calls Try.prog 32 #[pv P] w fun e w' => e = .returned (.bool (pOkB P)) ∧ Below w.heap.size w w') := sPOk_any P
  have HT : Hid (∀ w, Calls Try.prog 33 #[.int .i64 1009, pv P] w fun e w' => e = .returned (pv (pTimes 1009 P)) ∧ Below w.heap.size w w') := sTimes_any 1009 P
  unfold inGB
  generalize pOkB P = a at HP ⊢
  generalize pTimes 1009 P = T at HT ⊢
  obtain ⟨x, y, z⟩ := P
  unfold pv at HP HT ⊢
  simp only at HP HT ⊢
  cases a
  · go_enter Try.func18, Try.ntmps18
    go_wp2_with fail
    obtain ⟨W, hW, hb, hx⟩ := box1 w 42 #[.int .i64 x, .int .i64 y, .bool z]
    rw [hW]
    clear hW
    refine (HP.out _).mono ?_
    rintro e w1 ⟨rfl, hb1⟩
    have hB1 := below_then hb hb1
    clear hb hb1 hx
    go_wp2
    go_ret
    exact ⟨rfl, hB1⟩
  · go_enter Try.func18, Try.ntmps18
    go_wp2_with fail
    obtain ⟨W, hW, hb, hx⟩ := box1 w 42 #[.int .i64 x, .int .i64 y, .bool z]
    rw [hW]
    clear hW
    refine (HP.out _).mono ?_
    rintro e w1 ⟨rfl, hb1⟩
    have hx1 := hx.on hb1 hx.lt
    have hB1 := below_then hb hb1
    have q0 := hx1.cell 0
    have q1 := hx1.cell 1
    have q2 := hx1.cell 2
    clear hb hb1 hx
    go_wp2_with fail
    refine (HT.out _).mono ?_
    rintro e w2 ⟨rfl, hb2⟩
    have hB2 := below_then hB1 hb2
    have hfd := zero_field
    clear hx1 hB1 hb2 q0 q1 q2
    go_wp2
    go_ret
    exact ⟨rfl, hB2⟩

/-- What a list of points holds; it lies below block c. -/
def PtsAt (w : World) (a : Option Addr) (len c : Nat) (f : Nat → Pt) : Prop :=
  ∀ j, j < len → ∃ b off, a = some ⟨b, off, none⟩ ∧ b < c ∧ w.cell? ⟨b, off + j * 3, none⟩ = some (.int .i64 (f j).1) ∧ w.cell? ⟨b, off + j * 3 + 1, none⟩ = some (.int .i64 (f j).2.1) ∧ w.cell? ⟨b, off + j * 3 + 2, none⟩ = some (.bool (f j).2.2)

theorem PtsAt.on {w w1 : World} {a : Option Addr} {len c : Nat} {f : Nat → Pt} (h : PtsAt w a len c f) (hb : Below c w w1) : PtsAt w1 a len c f := fun j hj => by
  obtain ⟨b, off, h1, h2, h3, h4, h5⟩ := h j hj
  exact ⟨b, off, h1, h2, (hb.cell (p := ⟨b, off + j * 3, none⟩) h2).trans h3, (hb.cell (p := ⟨b, off + j * 3 + 1, none⟩) h2).trans h4, (hb.cell (p := ⟨b, off + j * 3 + 2, none⟩) h2).trans h5⟩

theorem PtsAt.wide {w : World} {a : Option Addr} {len c d : Nat} {f : Nat → Pt} (h : PtsAt w a len c f) (hd : c ≤ d) : PtsAt w a len d f := fun j hj => by
  obtain ⟨b, off, h1, h2, h3⟩ := h j hj
  exact ⟨b, off, h1, by omega, h3⟩

/-- The first n of a list put together. -/
def sumN (f : Nat → Pt) : Nat → Pt
  | 0 => pZ
  | n + 1 => pSum (sumN f n) (f n)

set_option maxHeartbeats 1600000 in
set_option maxRecDepth 100000 in
theorem sSumP_any (a : Option Addr) (n cp : Nat) (hn : n ≤ 9223372036854775807) (f : Nat → Pt) (w : World) (hA : PtsAt w a n w.heap.size f) :
    Calls Try.prog 23 #[.slice a n cp] w fun e w' => e = .returned (pv (sumN f n)) ∧ Below w.heap.size w w' := by
  have HA : Hid (PtsAt w a n w.heap.size f) := hA
  have HZ : Hid (∀ w, Calls Try.prog 38 #[] w fun e w' => e = .returned (.agg #[.int .i64 0, .int .i64 0, .bool true]) ∧ Below w.heap.size w w') := sZero_any
  clear hA
  go_enter Try.func23, Try.ntmps23
  go_wp2_with fail
  obtain ⟨W, hW, hb, hr⟩ := box1 w 42 #[.int .i64 0, .int .i64 0, .bool false]
  rw [hW]
  clear hW
  refine (HZ.out _).mono ?_
  rintro e w1 ⟨rfl, hb1⟩
  have hr1 := hr.on hb1 hr.lt
  have hB1 := below_then hb hb1
  have hl1 : w.heap.size < w1.heap.size := hr1.lt
  clear hr hb hb1
  go_wp2
  obtain ⟨W2, hW2, hb2, h3⟩ := box1 w1 42 #[.int .i64 0, .int .i64 0, .bool true]
  rw [hW2]
  have hr2 := hr1.on hb2 hr1.lt
  have HW2 : Hid (Blk W2 w1.heap.size 42 (pc (sumN f 0)) ∧ Blk W2 w.heap.size 42 #[.int .i64 0, .int .i64 0, .bool false] ∧ Below w.heap.size w W2) := ⟨h3, hr2, below_then hB1 hb2⟩
  clear hr1 hB1 hb2 hW2 h3 hr2
  go_loopw [4] (fun i wr => ∃ k : Nat, i = .int .i64 (k : Int) ∧ k ≤ n ∧ Hid (Blk wr w1.heap.size 42 (pc (sumN f k)) ∧ Blk wr w.heap.size 42 #[.int .i64 0, .int .i64 0, .bool false] ∧ Below w.heap.size w wr)) (fun i _ => n - (intOf i).toNat)
  case atStart => exact ⟨0, rfl, Nat.zero_le _, HW2⟩
  case round =>
    obtain ⟨k, rfl, hk, HW⟩ := hrel
    clear HW2
    by_cases hlt : k < n
    · have hlt' : (k : Int) < (n : Int) := by omega
      have hk0 : (0 : Int) ≤ (k : Int) := by omega
      have hA1 := HA.out.on HW.out.2.2
      obtain ⟨b, off, rfl, hb, z0, z1, z2⟩ := hA1 k hlt
      have hs3 := HW.out.1
      have hr3 := HW.out.2.1
      have hB3 := HW.out.2.2
      have hbl : b < wr.heap.size := by have := hB3.size; omega
      have HS : Hid (∀ w, Calls Try.prog 39 #[pv (sumN f k), pv (f k)] w fun e w' => e = .returned (pv (sumN f (k + 1))) ∧ Below w.heap.size w w') := sPAdd_any (sumN f k) (f k)
      generalize sumN f k = S at HS hs3
      obtain ⟨S2, hS2⟩ : ∃ S2, S2 = sumN f (k + 1) := ⟨_, rfl⟩
      rw [← hS2] at HS
      have HE : Hid (S2 = sumN f (k + 1)) := hS2
      clear hS2
      generalize f k = F at HS z0 z1 z2
      unfold pv at HS
      unfold pc at hs3
      have Z0 : ∀ w', Below wr.heap.size wr w' → w'.cell? ⟨b, off + k * 3, none⟩ = some (.int .i64 F.1) := fun w' hw => (hw.cell (p := ⟨b, off + k * 3, none⟩) hbl).trans z0
      have Z1 : ∀ w', Below wr.heap.size wr w' → w'.cell? ⟨b, off + k * 3 + 1, none⟩ = some (.int .i64 F.2.1) := fun w' hw => (hw.cell (p := ⟨b, off + k * 3 + 1, none⟩) hbl).trans z1
      have Z2 : ∀ w', Below wr.heap.size wr w' → w'.cell? ⟨b, off + k * 3 + 2, none⟩ = some (.bool F.2.2) := fun w' hw => (hw.cell (p := ⟨b, off + k * 3 + 2, none⟩) hbl).trans z2
      clear HA HW hA1 hb z0 z1 z2
      go_wp2
      refine wp_region_class 6 (fun wz => Below wr.heap.size wr wz) mixes (by kernel_rfl) (Below.refl _ _).drew ?_
      simp only [List.take_succ_cons, List.take_zero, List.drop_succ_cons, List.drop_zero]
      repeat (refine cls_step rfl (fun K hK => ⟨_, (fun w' hw => by have q0 := (hs3.on hw hs3.lt).cell 0; have q1 := (hs3.on hw hs3.lt).cell 1; have q2 := (hs3.on hw hs3.lt).cell 2; have z0 := Z0 w' hw; have z1 := Z1 w' hw; have z2 := Z2 w' hw; go_simp; exact rfl), ?_⟩); go_simp; refine hK _ ?_; clear hK K)
      refine cls_call rfl (fun K hK => ⟨_, _, _, (fun w' => by go_simp <;> first | exact rfl | exact ⟨rfl, rfl⟩), (fun w' hw => calls_below hw (HS.out _)), ?_⟩); go_simp; refine hK _ ?_; clear hK K
      refine wq_nil ?_
      intro w' hw
      have hs4 := hs3.on hw hs3.lt
      have hr4 := hr3.on hw hr3.lt
      have hB4 := below_then hB3 hw
      clear hs3 hr3 hB3 hw
      go_wp2_with (refine store_blk (cs' := pc S2) rfl rfl rfl rfl rfl hs4 infoP rfl (ones3 _ _ _) ?_; intro V hs5 hoth hbel; have hr5 := hoth _ _ _ (by omega) hr4; have hB5 := hbel _ _ (by omega) hB4; clear hoth hbel hs4 hr4 hB4)
      go_roundw
      case rel => exact ⟨k + 1, by go_num, hlt, ⟨by rw [← HE.out]; exact hs5, hr5, hB5⟩⟩
      case measure => simp [intOf]; omega
    · have hlt' : ¬ (k : Int) < (n : Int) := by omega
      have HK : Hid (k = n) := (show k = n by omega)
      have hs3 := HW.out.1
      have hr3 := HW.out.2.1
      have hB3 := HW.out.2.2
      clear HW
      go_wp2_with (first | (refine load_blk rfl rfl rfl hs3 Try.underlying42 infoP ?_) | (refine store_blk (cs' := pc (sumN f k)) rfl rfl rfl rfl rfl hr3 infoP rfl (ones3 _ _ _) ?_; intro V h5 hoth hbel; have hbV := hbel _ _ (by omega) hB3; clear hoth hbel))
      refine bodyPost_ret_by (result_blk rfl rfl h5 Try.underlying42 infoP) rfl ⟨by rw [← HK.out]; rfl, hbV⟩

end Go.Proofs.Ytkmelamfohfdkaa

/-
  Rows of bytes.
-/
namespace Go.Proofs.Ytkmelamfohfdkaa
open Go.RowKit

def bytesV (l : List UInt8) : List Value := l.map fun c => .int .u8 (c.toNat : Int)
theorem bytesV_append (a b : List UInt8) : bytesV (a ++ b) = bytesV a ++ bytesV b := by simp [bytesV]
theorem bytesV_length (a : List UInt8) : (bytesV a).length = a.length := by simp [bytesV]
theorem toNat_of {n : Nat} (h : n < 256) : (UInt8.ofNat n).toNat = n := by simp; omega
theorem bytesV_one {n : Nat} (h : n < 256) : bytesV [UInt8.ofNat n] = [.int .u8 (n : Int)] := by simp only [bytesV, List.map_cons, List.map_nil, toNat_of h]

theorem row_form {w : World} {B e sz n : Nat} {v : Value} {xs : List Value} (h : w.ownsRow B e sz v n xs) : ∃ a cap, v = .slice a n cap := by
  rcases h.2 with ⟨rfl, h0⟩ | ⟨g, cap, cur, rfl, _⟩
  · subst h0; exact ⟨_, _, rfl⟩
  · exact ⟨_, _, rfl⟩

theorem one_cell (k : IntKind) (z : Int) : ∀ u ∈ [Value.int k z], u.oneCell' = true := by
  intro u hu; simp at hu; subst hu; rfl
theorem room_for {B : Nat} {w : World} (h : B ≤ w.heap.size) (o : Obj) : B ≤ (w.alloc o).heap.size := by simp; omega

theorem cells_of_row {w : World} {B e g cap : Nat} {l : List UInt8} (h : w.ownsRow B e 1 (.slice (some ⟨g, 0, none⟩) l.length cap) l.length (bytesV l)) :
    ∀ j (hj : j < l.length), w.cell? ((⟨g, 0, none⟩ : Addr).add j) = some (.int .u8 (l[j].toNat : Int)) := fun j hj => by
  rw [Addr.add_lit, Nat.zero_add, h.cellAt j (by omega)]
  simp [bytesV, hj]

theorem info5 : (Try.prog.info? 5).map (fun i => (i.zero, i.size, i.bytes)) = some (some (.int .u8 0), 1, 1) := by kernel_rfl

theorem text_of_nil (w : World) : (convert 62 9 (.slice none 0 0)).run Try.prog w = .ok (.string ⟨#[]⟩) w := by
  rw [run_convert_bytes_string w 62 9 5 none 0 0 Try.underlying62 Try.underlying5 Try.underlying9]
  rfl
theorem text_of_row {w : World} {B : Nat} {v : Value} {l : List UInt8} (h : w.ownsRow B 5 1 v l.length (bytesV l)) :
    (convert 62 9 v).run Try.prog w = .ok (.string ⟨l.toArray⟩) w := by
  rcases h.2 with ⟨rfl, h0⟩ | ⟨g, cap, cur, rfl, hg, hh, hnc, hcp, hcs, htake⟩
  · obtain rfl : l = [] := List.length_eq_zero_iff.1 h0
    exact text_of_nil w
  · exact run_convert_bytes_back (P := Try.prog) w 62 9 5 ⟨g, 0, none⟩ cap l Try.underlying62 Try.underlying5 Try.underlying9 (cells_of_row h)

/-- A value is a row of these bytes, owned from B on. -/
def RowB (B : Nat) (w : World) (v : Value) (l : List UInt8) : Prop := w.ownsRow B 5 1 v l.length (bytesV l)

/-- What one append of a byte leaves. -/
theorem push_b {w wr w1 W : World} {B e : Nat} {v v' : Value} {pre : List UInt8} {b : UInt8} {z : Int} (hz : z = (b.toNat : Int)) (hB : B ≤ W.heap.size) (hbel : Below B w W) (hown : wr.ownsRow B e 1 v pre.length (bytesV pre))
    (hown' : w1.ownsRow B e 1 v' (pre.length + 1) (bytesV pre ++ [Value.int .u8 z])) (hgrow : W.grownBy w1 v.ownBlock) :
    w1.ownsRow B e 1 v' (pre ++ [b]).length (bytesV (pre ++ [b])) ∧ Below B w w1 := by
  refine ⟨?_, hbel.grown hgrow hB (fun k hk => (hown.lt k hk).1)⟩
  rw [bytesV_append, List.length_append]
  subst hz
  exact hown'

/-- A row of bytes as the cells of a block. -/
def bCells (l : List UInt8) : Array Value := (bytesV l).toArray
theorem bCells_size (l : List UInt8) : (bCells l).size = l.length := by simp [bCells, bytesV]
theorem bCells_at (l : List UInt8) (i : Nat) (h : i < l.length) : (bCells l)[i]? = some (.int .u8 ((l.getD i 0).toNat : Int)) := by
  simp [bCells, bytesV, List.getD_eq_getElem?_getD, h]
theorem bCells_set (l : List UInt8) (i : Nat) (b : UInt8) : (bCells l).setIfInBounds i (.int .u8 (b.toNat : Int)) = bCells (l.set i b) := by
  simp [bCells, bytesV, List.map_set]
theorem bCells_zero (n : Nat) : (Array.replicate n (Value.int .u8 0)) = bCells (List.replicate n 0) := by
  simp [bCells, bytesV]
theorem owns_cells (w : World) (l : List UInt8) (h : l.length ≤ 4611686018427387904) :
    (w.alloc (.cells (bCells l) 5)).ownsRow w.heap.size 5 1 (.slice (some ⟨w.heap.size, 0, none⟩) l.length l.length) l.length (bytesV l) := by
  have := World.ownsRow_lit (base := w.heap.size) (e := 5) (size := 1) w (bCells l) l.length (Nat.le_refl _) (by unfold maxLen; omega) (by simp [bCells_size])
  simpa [bCells] using this

/-- make([]byte, n, m). -/
theorem make_bytes (n m : Nat) (h1 : n ≤ m) (h2 : m ≤ 1073741824) (W : World) :
    (Instr.makeSlice 62 (.int .i64 (n : Int)) (.int .i64 (m : Int))).run Try.prog W = .ok (.slice (some ⟨W.heap.size, 0, none⟩) n m) (W.alloc (.cells (bCells (List.replicate m 0)) 5)) := by
  obtain ⟨i0, hi, hz0, hz1, hz2⟩ := info_parts info5
  have hM : madeCells (Value.int .u8 0).cells ((m : Int).toNat * i0.size) = bCells (List.replicate m 0) := by
    rw [hz1]
    have h3 := toList_madeCells_one (.int .u8 0) m
    apply Array.toList_inj.1
    simpa [bytesV, bCells, Value.cells] using h3
  have h := run_make (P := Try.prog) W 62 5 i0 (.int .u8 0) Try.underlying62 hi hz0 .i64 .i64 (n : Int) (m : Int) (by omega) (by omega) (by rw [hz2]; omega) (by omega)
  rw [hM] at h
  simpa using h

end Go.Proofs.Ytkmelamfohfdkaa

/-
  The walks of the specification's points: their texts.
  (-DROP-: what the seat lacks is left out.)
-/
namespace Go.Proofs.Ytkmelamfohfdkaa
open Go.RowKit

/-- Three bytes in a row as a text. -/
theorem text3 (a b c : Nat) (ha : a < 256) (hb : b < 256) (hc : c < 256) (W : World) :
    (convert 62 9 (.slice (some ⟨W.heap.size, 0, none⟩) 3 3)).run Try.prog (W.alloc (.cells #[.int .u8 (a : Int), .int .u8 (b : Int), .int .u8 (c : Int)] 5)) = .ok (.string ⟨#[UInt8.ofNat a, UInt8.ofNat b, UInt8.ofNat c]⟩) (W.alloc (.cells #[.int .u8 (a : Int), .int .u8 (b : Int), .int .u8 (c : Int)] 5)) := by
  have h := World.ownsRow_lit (base := W.heap.size) (e := 5) (size := 1) W #[.int .u8 (a : Int), .int .u8 (b : Int), .int .u8 (c : Int)] 3 (Nat.le_refl _) (by simp [maxLen]) (by simp)
  have e : (#[Value.int .u8 (a : Int), .int .u8 (b : Int), .int .u8 (c : Int)]).toList = bytesV [UInt8.ofNat a, UInt8.ofNat b, UInt8.ofNat c] := by
    simp only [bytesV, List.map_cons, List.map_nil, toNat_of ha, toNat_of hb, toNat_of hc]
  rw [e] at h
  exact text_of_row (l := [UInt8.ofNat a, UInt8.ofNat b, UInt8.ofNat c]) h

set_option maxHeartbeats 800000 in
set_option maxRecDepth 100000 in
theorem sPText_any (P : Pt) (w : World) :
    Calls Try.prog 22 #[pv P] w fun e w' => e = .returned (.string (ptText P)) ∧ Below w.heap.size w w' := by
  have HP : Hid (∀ w, Calls Try.prog 32 #[pv P] w fun e w' => e = .returned (.bool (pOkB P)) ∧ Below w.heap.size w w') := sPOk_any P
  have HO : Hid (pOkB P = true → POk P) := fun h => pokB.1 h
  unfold ptText ptBytes
  generalize pOkB P = a at HP HO ⊢
  obtain ⟨x, y, z⟩ := P
  unfold pv at HP ⊢
  simp only at HP ⊢
  cases a
  · simp only [Bool.false_eq_true, if_false]
    go_enter Try.func22, Try.ntmps22
    go_wp2_with fail
    obtain ⟨W, hW, hb, hx⟩ := box1 w 42 #[.int .i64 x, .int .i64 y, .bool z]
    rw [hW]
    clear hW
    refine (HP.out _).mono ?_
    rintro e w1 ⟨rfl, hb1⟩
    have hB1 := below_then hb hb1
    clear hb hb1 hx
    go_wp2
    go_ret
    exact ⟨rfl, hB1⟩
  · simp only [if_true]
    cases z
    · simp only [Bool.false_eq_true, if_false]
      obtain ⟨X, Y, hX, hY, hXb, hYb⟩ : ∃ X Y : Nat, x = X ∧ y = Y ∧ X < 12107 ∧ Y < 12107 := by
        rcases HO.out rfl with h | ⟨_, h2, h3, _⟩
        · cases h
        · exact ⟨x.toNat, y.toNat, by simp only at h2; omega, by simp only at h3; omega, by simp only at h2; omega, by simp only at h3; omega⟩
      subst hX hY
      obtain ⟨N, hN⟩ : ∃ N : Nat, N = X + 1 := ⟨_, rfl⟩
      have hNi : (X : Int) + 1 = (N : Int) := by omega
      have hNb : N ≤ 12107 := by omega
      obtain ⟨a, ha⟩ : ∃ a : Nat, a = N / 256 := ⟨_, rfl⟩
      obtain ⟨b, hb⟩ : ∃ b : Nat, b = N % 256 := ⟨_, rfl⟩
      obtain ⟨c, hc⟩ : ∃ c : Nat, c = Y % 2 := ⟨_, rfl⟩
      have ha1 : (N : Int) / 256 = (a : Int) := by omega
      have ha2 : IntKind.u8.wrap (a : Int) = (a : Int) := by rw [IntWalk.u8_in _ (by omega)]
      have hb1 : IntKind.u8.wrap (N : Int) = (b : Int) := by show (N : Int) % 256 = _; omega
      have hc1 : Int.tmod (Y : Int) 2 = (c : Int) := by rw [Int.tmod_eq_emod_of_nonneg (by omega)]; omega
      have hc2 : IntKind.u8.wrap (c : Int) = (c : Int) := by rw [IntWalk.u8_in _ (by omega)]
      have hcv := text3 a b c (by omega) (by omega) (by omega)
      have hres : (#[UInt8.ofNat a, UInt8.ofNat b, UInt8.ofNat c] : Array UInt8) = [UInt8.ofNat (((X : Int).toNat + 1) / 256), UInt8.ofNat (((X : Int).toNat + 1) % 256), UInt8.ofNat ((Y : Int).toNat % 2)].toArray := by
        rw [Int.toNat_natCast, Int.toNat_natCast, ← hN, ← ha, ← hb, ← hc]
      have HRES : Hid _ := hres
      clear hres ha hb hc hN HO
      go_enter Try.func22, Try.ntmps22
      go_wp2_with fail
      obtain ⟨W, hW, hb, hx⟩ := box1 w 42 #[.int .i64 (X : Int), .int .i64 (Y : Int), .bool false]
      rw [hW]
      clear hW
      refine (HP.out _).mono ?_
      rintro e w1 ⟨rfl, hb1'⟩
      have hB1 := below_then hb hb1'
      have hx1 := hx.on hb1' hx.lt
      have q0 := hx1.cell 0
      have q1 := hx1.cell 1
      have q2 := hx1.cell 2
      clear hb hb1' hx hx1
      go_wp2
      go_ret
      exact ⟨by rw [← HRES.out]; rfl, hB1.alloc hB1.size _⟩
    · simp only [if_true]
      go_enter Try.func22, Try.ntmps22
      go_wp2_with fail
      obtain ⟨W, hW, hb, hx⟩ := box1 w 42 #[.int .i64 x, .int .i64 y, .bool true]
      rw [hW]
      clear hW
      refine (HP.out _).mono ?_
      rintro e w1 ⟨rfl, hb1⟩
      have hB1 := below_then hb hb1
      have hx1 := hx.on hb1 hx.lt
      have q2 := hx1.cell 2
      clear hb hb1 hx hx1
      go_wp2
      go_ret
      exact ⟨rfl, hB1⟩

end Go.Proofs.Ytkmelamfohfdkaa
