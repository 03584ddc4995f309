/-
  Texts of one's own, joined.
-/
import Derived.Test.YtbkfdafdchjakaaJoined17
import Derived.Test.YtbkfdafdchjakaaJoined9
import Derived.Test.YtbkfdafdchjakaaJoined18
import Derived.Test.YtbkfdafdchjakaaJoined12

/-
  The walk of the specification's text of a proof.
  (-DROP-: what the seat lacks is left out.)
-/
namespace Go.Proofs.Ytbkfdafdchjakaa
open Go.RowKit

theorem ptText_small (P : Pt) : (ptText P).size ≤ 3 := by
  show (ptBytes P).toArray.size ≤ 3
  unfold ptBytes
  split
  · split <;> simp
  · simp
/-- The cells of a proof. -/
def prfC (A B C : Pt) : Array Value := #[.int .i64 A.1, .int .i64 A.2.1, .bool A.2.2, .int .i64 B.1, .int .i64 B.2.1, .bool B.2.2, .int .i64 C.1, .int .i64 C.2.1, .bool C.2.2]
def prfIn (A B C : Pt) : Bool := inGB A && (inGB B && inGB C)
def prfText (A B C : Pt) : ByteArray := if prfIn A B C then ptText A ++ ptText B ++ ptText C else ByteArray.empty

end Go.Proofs.Ytbkfdafdchjakaa

/-
  The walk of the program's word on whether all points of a list are in the group.
  (-DROP-: what the seat lacks is left out.)
-/
namespace Go.Proofs.Ytbkfdafdchjakaa
open Go.RowKit

/-- Whether the first n are in the group. -/
def allI (f : Nat → Pt) : Nat → Bool
  | 0 => true
  | n + 1 => allI f n && inGB (f n)
theorem allI_more (f : Nat → Pt) {k : Nat} (h : allI f k = false) : ∀ n, k ≤ n → allI f n = false
  | 0, hk => by rw [show (0 : Nat) = k by omega]; exact h
  | n + 1, hk => by
    by_cases e : k = n + 1
    · rw [← e]; exact h
    · show (allI f n && _) = false
      rw [allI_more f h n (by omega), Bool.false_and]

set_option maxHeartbeats 1600000 in
set_option maxRecDepth 100000 in
theorem allIn_any (a : Option Addr) (n c : Nat) (hm : n ≤ 9223372036854775807) (f : Nat → Pt) (w : World) (hA : PtsAt w a n w.heap.size f) :
    Calls Try.prog 33 #[.slice a n c] w fun e w' => e = .returned (.bool (allI f n)) ∧ Below w.heap.size w w' := by
  have HA : Hid (PtsAt w a n w.heap.size f) := hA
  clear hA
  go_enter Try.func33, Try.ntmps33
  go_wp2
  have H0 : Hid (allI f 0 = true ∧ Below w.heap.size w w) := ⟨rfl, Below.refl _ _⟩
  go_loopw [7] (fun i wr => ∃ k : Nat, i = .int .i64 (k : Int) ∧ k ≤ n ∧ Hid (allI f k = true ∧ Below w.heap.size w wr)) (fun i _ => n - (intOf i).toNat)
  case atStart => exact ⟨0, rfl, Nat.zero_le _, H0⟩
  case round =>
    obtain ⟨k, rfl, hk, HD⟩ := hrel
    clear H0
    by_cases hlt : k < n
    · have hlt' : (k : Int) < (n : Int) := by omega
      have hk0 : (0 : Int) ≤ (k : Int) := by omega
      have hB0 := HD.out.2
      obtain ⟨b, off, rfl, hb, z0, z1, z2⟩ := (HA.out.on hB0) k hlt
      have HG : Hid (allI f (k + 1) = inGB (f k)) := by show (allI f k && _) = _; rw [HD.out.1, Bool.true_and]
      have HG2 : Hid (allI f (k + 1) = false → allI f n = false) := fun h => allI_more f h n (by omega)
      have HI : Hid (∀ w, Calls Try.prog 60 #[pv (f k)] w fun e w' => e = .returned (.bool (inGB (f k))) ∧ Below w.heap.size w w') := iInG_any _
      generalize inGB (f k) = ga at HI HG
      generalize f k = F at z0 z1 z2 HI
      obtain ⟨x, y, z⟩ := F
      simp only at z0 z1 z2
      unfold pv at HI
      simp only at HI
      clear HD
      go_wp2_with fail
      obtain ⟨V, hV, hbV, h5⟩ := box1 wr 35 #[.int .i64 x, .int .i64 y, .bool z]
      rw [hV]
      refine (HI.out _).mono ?_
      rintro e w1 ⟨rfl, hb1⟩
      have hB1 : Below w.heap.size w w1 := hB0.trans ((below_then hbV hb1).mono hB0.size)
      clear hb1 hbV hV h5 hB0 z0 z1 z2 HI
      cases ga
      · have HF : Hid (allI f n = false) := HG2.out HG.out
        go_wp2
        go_ret
        exact ⟨by rw [HF.out]; rfl, hB1⟩
      · go_wp2
        go_roundw
        case rel => exact ⟨k + 1, by go_num, hlt, ⟨HG.out, hB1⟩⟩
        case measure => simp [intOf]; omega
    · have hlt' : ¬ (k : Int) < (n : Int) := by omega
      have HF : Hid (allI f n = true) := by
        show allI f n = true
        rw [show n = k by omega]; exact HD.out.1
      have hB0 := HD.out.2
      clear HD HA
      go_wp2
      go_ret
      exact ⟨by rw [HF.out]; rfl, hB0⟩

end Go.Proofs.Ytbkfdafdchjakaa

/-
  Whole arrays out of their blocks, and as results.
-/
namespace Go.Proofs.Ytbkfdafdchjakaa
open Go.RowKit

theorem Blk.loadA {P : Program} {w : World} {g n : Nat} {t ty e : TypeId} {cs : Array Value} (h : Blk w g t cs) (hu : P.underlying ty = some (.array n e)) (hi : (P.info? ty).map (·.size) = some cs.size) :
    (loadVar ty ⟨g, 0, none⟩).run P w = .ok (.agg cs) w := run_loadVar_row w g t ty cs (0, 0) _ h hu rfl hi

theorem result_blkA {P : Program} {fn : Func} {p : Tmp} {ty t e : TypeId} {n : Nat} (h : fn.results = #[.cell p ty]) {tmps : Array Value} {w : World} {g : Nat} {cs : Array Value} (hp : tmps.getD p undef = .pointer (some ⟨g, 0, none⟩))
    (hA : Blk w g t cs) (hu : P.underlying ty = some (.array n e)) (hi : (P.info? ty).map (·.size) = some cs.size) : (results fn tmps).run P w = .ok (.agg cs) w := by
  have hl := hA.loadA hu hi
  have hp' : tmps[p]?.getD undef = .pointer (some ⟨g, 0, none⟩) := by simpa using hp
  simp [results, h, hp', asAddr, hl]

theorem load_blkA {P : Program} {w : World} {ops : Array Oper} {rest : List Oper} {o : Oper} {a : Act} {Q : Exit → Act → World → Prop} (hg : o.guard = none) {t : TypeId} {p : Operand} (hop : o.op = Op.load t p)
    {g n : Nat} {t' e : TypeId} {cs : Array Value} (hp : a.eval p = .pointer (some ⟨g, 0, none⟩)) (h : Blk w g t' cs) (hu : P.underlying t = some (.array n e)) (hi : (P.info? t).map (·.size) = some cs.size)
    (K : wpList P ops Q rest (a.put o.dst (.agg cs)) w) : wpList P ops Q (o :: rest) a w := by
  refine wpList_plain hg fun K' hK' => ?_
  have hrun : (Instr.loadAt t (.pointer (some ⟨g, 0, none⟩))).run P w = .ok (.agg cs) w := by
    simp only [Instr.loadAt, Instr.sureAddr, Sem.run_bind, Sem.run_pure, Result.andThen]
    exact h.loadA hu hi
  unfold Oper.wp
  simp [execOp, hop, hp, hrun, Result.andThen]
  exact hK' _ _ K

end Go.Proofs.Ytbkfdafdchjakaa

/-
  The walks of the program's points of a proof, and of its text.
  (-DROP-: what the seat lacks is left out.)
-/
namespace Go.Proofs.Ytbkfdafdchjakaa
open Go.RowKit

theorem infoPr : (Try.prog.info? 44).map (·.size) = some 9 := by kernel_rfl
theorem infoPp : (Try.prog.info? 76).map (·.size) = some 9 := by kernel_rfl
theorem ones9 (A B C : Pt) : (prfC A B C).all (·.oneCell') = true := by simp [prfC, Value.oneCell']
/-- Three points, by place. -/
def three (A B C : Pt) : Nat → Pt
  | 0 => A
  | 1 => B
  | _ => C
theorem three_all (A B C : Pt) : allI (three A B C) 3 = prfIn A B C := by
  show (((true && inGB A) && inGB B) && inGB C) = (inGB A && (inGB B && inGB C))
  rw [Bool.true_and, Bool.and_assoc]
theorem pts3 {w : World} {g t c : Nat} (hc : g < c) {A B C : Pt} (h : Blk w g t (prfC A B C)) : PtsAt w (some ⟨g, 0, none⟩) 3 c (three A B C) := fun j hj => by
  refine ⟨g, 0, rfl, hc, ?_⟩
  match j, hj with
  | 0, _ => exact ⟨h.cell 0, h.cell 1, h.cell 2⟩
  | 1, _ => exact ⟨h.cell 3, h.cell 4, h.cell 5⟩
  | 2, _ => exact ⟨h.cell 6, h.cell 7, h.cell 8⟩

set_option maxHeartbeats 800000 in
set_option maxRecDepth 100000 in
theorem points_any (A B C : Pt) (w : World) : Calls Try.prog 32 #[.agg (prfC A B C)] w fun e w' => e = .returned (.agg (prfC A B C)) ∧ Below w.heap.size w w' := by
  unfold prfC
  go_enter Try.func32, Try.ntmps32
  go_wp2
  obtain ⟨W, hW, hb, hs, hr⟩ := boxes1r w 44 76 (prfC A B C) (prfC A B C)
  unfold prfC at hW
  rw [hW]
  refine bodyPost_ret_by (result_blkA rfl rfl hr Try.underlying76 infoPp) rfl ⟨rfl, hb⟩

/-- A place of a row of three points. -/
theorem point_at (A B C : Pt) (m : Nat) (hm : m < 3) (w : World) :
    (Instr.index 76 (.agg (prfC A B C)) (.int .i64 (m : Int))).run Try.prog w = .ok (pv (three A B C m)) w := by
  match m, hm with
  | 0, _ => simp [Instr.index, asIntOf, run_underlying Try.underlying76, part, Try.isAgg35, Try.sizeOf35]; rfl
  | 1, _ => simp [Instr.index, asIntOf, run_underlying Try.underlying76, part, Try.isAgg35, Try.sizeOf35]; rfl
  | 2, _ => simp [Instr.index, asIntOf, run_underlying Try.underlying76, part, Try.isAgg35, Try.sizeOf35]; rfl

/-- The texts of the first k of three points. -/
def txtN (A B C : Pt) : Nat → ByteArray
  | 0 => ByteArray.empty
  | k + 1 => txtN A B C k ++ ptText (three A B C k)
theorem txtN_three (A B C : Pt) : txtN A B C 3 = ptText A ++ ptText B ++ ptText C := by
  show ByteArray.empty ++ ptText A ++ ptText B ++ ptText C = _
  rw [ByteArray.empty_append]
theorem txtN_small (A B C : Pt) : ∀ k, (txtN A B C k).size ≤ 3 * k
  | 0 => by show (0 : Nat) ≤ 0; omega
  | k + 1 => by
    have h1 := txtN_small A B C k
    have h2 := ptText_small (three A B C k)
    show (txtN A B C k ++ ptText (three A B C k)).size ≤ _
    rw [ByteArray.size_append]
    omega

end Go.Proofs.Ytbkfdafdchjakaa
