/-
  The walks of the four bytes of a sum, of SumMore, SumOf, Sealed.
-/
import Derived.Test.YtpehnhmbkhlmaaaDoorSum
import Derived.Test.YtpehnhmbkhlmaaaDoorSumS
import Derived.Test.YtpehnhmbkhlmaaaDoorBytes
import Derived.Test.YtpehnhmbkhlmaaaDoorShelf
namespace Go.Proofs.YtpehnhmbkhlmaaaDoor
open Go.RowKit

/-- A sum as a text. -/
def fourT (x : Nat) : ByteArray := ⟨(four x).toArray⟩

theorem four_conv (x : Nat) (hx : x < 4294967296) (W : World) :
    (convert 22 9 (.slice (some ⟨W.heap.size, 0, none⟩) 4 4)).run Tryd.prog (W.alloc (.cells #[.int .u8 ((x : Int) / 16777216), .int .u8 ((x : Int) / 65536 % 256), .int .u8 ((x : Int) / 256 % 256), .int .u8 ((x : Int) % 256)] 5)) =
      .ok (.string (fourT x)) (W.alloc (.cells #[.int .u8 ((x : Int) / 16777216), .int .u8 ((x : Int) / 65536 % 256), .int .u8 ((x : Int) / 256 % 256), .int .u8 ((x : Int) % 256)] 5)) := by
  have hb : ∀ n : Nat, ((UInt8.ofNat n).toNat : Int) = (n : Int) % 256 := fun n => by simp
  have h := World.ownsRow_lit (base := W.heap.size) (e := 5) (size := 1) W #[.int .u8 ((x : Int) / 16777216), .int .u8 ((x : Int) / 65536 % 256), .int .u8 ((x : Int) / 256 % 256), .int .u8 ((x : Int) % 256)] 4 (Nat.le_refl _) (by unfold maxLen; omega) rfl
  have h2 : bytesV (four x) = (#[.int .u8 ((x : Int) / 16777216), .int .u8 ((x : Int) / 65536 % 256), .int .u8 ((x : Int) / 256 % 256), .int .u8 ((x : Int) % 256)] : Array Value).toList := by
    simp only [bytesV, four, List.map_cons, List.map_nil, hb]
    rw [show ((x / 16777216 : Nat) : Int) % 256 = (x : Int) / 16777216 by omega, show ((x / 65536 : Nat) : Int) = (x : Int) / 65536 by omega, show ((x / 256 : Nat) : Int) = (x : Int) / 256 by omega]
  exact text_of_row (l := four x) (by rw [h2]; exact h)

set_option maxHeartbeats 800000 in
set_option maxRecDepth 100000 in
theorem seal_any (x : Nat) (hx : x < 4294967296) (w : World) :
    Calls Tryd.prog 23 #[.int .u32 (x : Int)] w fun e w' => e = .returned (.string (fourT x)) ∧ Below w.heap.size w w' := by
  have hcv := four_conv x hx
  go_enter Tryd.func23, Tryd.ntmps23
  go_wp2
  go_ret
  exact ⟨rfl, (Below.refl _ _).alloc (Nat.le_refl _) _⟩

set_option maxHeartbeats 800000 in
set_option maxRecDepth 100000 in
theorem sFour_any (x : Nat) (hx : x < 4294967296) (w : World) :
    Calls Tryd.prog 26 #[.int .u32 (x : Int)] w fun e w' => e = .returned (.string (fourT x)) ∧ Below w.heap.size w w' := by
  have hcv := four_conv x hx
  go_enter Tryd.func26, Tryd.ntmps26
  go_wp2
  go_ret
  exact ⟨rfl, (Below.refl _ _).alloc (Nat.le_refl _) _⟩

/-- A text and its sum. -/
def sealT (s : ByteArray) : ByteArray := s ++ fourT (sumL 4294967295 s.data.toList)
/-- What Sealed answers. -/
def sealOf (s : ByteArray) : Value := if s.size ≤ 20000 then .tuple #[.string (sealT s), .bool true] else .tuple #[.string ⟨#[]⟩, .bool false]
theorem sum_lt (l : List UInt8) : sumL 4294967295 l < 4294967296 := sumL_lt l (by omega)

set_option maxRecDepth 100000 in
theorem iMore_any (x : Nat) (hx : x < 4294967296) (s : ByteArray) (hs : s.size ≤ 1048580) (w : World) (hT : Tab w) :
    Calls Tryd.prog 13 #[.int .u32 (x : Int), .string s] w fun e w' => e = .returned (.int .u32 ((sumL x s.data.toList : Nat) : Int)) ∧ w = w' := by
  have HT : Hid (Tab w) := hT
  have HX : Hid (x < 4294967296) := hx
  clear hT hx
  go_enter Tryd.func13, Tryd.ntmps13
  go_wp2_with fail
  refine (more_any x HX.out s hs _ HT.out).mono ?_
  rintro e w1 ⟨rfl, rfl⟩
  go_wp2
  go_ret
  exact ⟨rfl, rfl⟩

set_option maxRecDepth 100000 in
theorem iSum_any (s : ByteArray) (hs : s.size ≤ 1048580) (w : World) (hT : Tab w) :
    Calls Tryd.prog 14 #[.string s] w fun e w' => e = .returned (.int .u32 ((sumL 4294967295 s.data.toList : Nat) : Int)) ∧ w = w' := by
  have HT : Hid (Tab w) := hT
  clear hT
  go_enter Tryd.func14, Tryd.ntmps14
  go_wp2_with fail
  refine (iMore_any 4294967295 (by omega) s hs _ HT.out).mono ?_
  rintro e w1 ⟨rfl, rfl⟩
  go_wp2
  go_ret
  exact ⟨rfl, rfl⟩

set_option maxRecDepth 100000 in
theorem sSum_any (s : ByteArray) (hs : s.size ≤ 1048580) (w : World) :
    Calls Tryd.prog 16 #[.string s] w fun e w' => e = .returned (.int .u32 ((sumL 4294967295 s.data.toList : Nat) : Int)) ∧ w = w' := by
  go_enter Tryd.func16, Tryd.ntmps16
  go_wp2_with fail
  refine (sMore_any 4294967295 (by omega) s hs _).mono ?_
  rintro e w1 ⟨rfl, rfl⟩
  go_wp2
  go_ret
  exact ⟨rfl, rfl⟩

theorem sealT_list (s : ByteArray) : (sealT s).data.toList = s.data.toList ++ four (sumL 4294967295 s.data.toList) := by
  simp [sealT, fourT]
theorem sealT_size (s : ByteArray) : (sealT s).size = s.size + 4 := by
  have h := congrArg List.length (sealT_list s)
  simpa [four_length] using h
theorem joins (s : ByteArray) (hs : s.size ≤ 20000) (w : World) :
    (Op.stringOp .add s (fourT (sumL 4294967295 s.data.toList))).run Tryd.prog w = .ok (.string (sealT s)) w :=
  run_string_add_sum (P := Tryd.prog) w _ _ (by have : (fourT (sumL 4294967295 s.data.toList)).size = 4 := rfl; omega)

set_option maxRecDepth 100000 in
theorem iSealed_any (s : ByteArray) (hs : s.size ≤ 1048580) (w : World) (hT : Tab w) :
    Calls Tryd.prog 11 #[.string s] w fun e w' => e = .returned (sealOf s) ∧ Below w.heap.size w w' := by
  have HT : Hid (Tab w) := hT
  clear hT
  by_cases h : s.size ≤ 20000
  · have h' : ¬ (20000 : Int) < (s.size : Int) := by omega
    have HS : Hid (sealOf s = .tuple #[.string (sealT s), .bool true]) := if_pos h
    have hj := joins s h
    clear h
    go_enter Tryd.func11, Tryd.ntmps11
    go_wp2_with fail
    refine (iSum_any s hs _ HT.out).mono ?_
    rintro e w1 ⟨rfl, rfl⟩
    go_wp2_with fail
    refine (seal_any _ (sum_lt _) _).mono ?_
    rintro e w1 ⟨rfl, hb⟩
    go_wp2
    go_ret2
    exact ⟨by rw [HS.out]; rfl, hb⟩
  · have h' : (20000 : Int) < (s.size : Int) := by omega
    have HS : Hid (sealOf s = .tuple #[.string ⟨#[]⟩, .bool false]) := if_neg h
    clear h
    go_enter Tryd.func11, Tryd.ntmps11
    go_wp2
    go_ret2
    exact ⟨by rw [HS.out]; rfl, Below.refl _ _⟩

set_option maxRecDepth 100000 in
theorem sSealed_any (s : ByteArray) (hs : s.size ≤ 1048580) (w : World) :
    Calls Tryd.prog 17 #[.string s] w fun e w' => e = .returned (sealOf s) ∧ Below w.heap.size w w' := by
  by_cases h : s.size ≤ 20000
  · have h' : ¬ (20000 : Int) < (s.size : Int) := by omega
    have HS : Hid (sealOf s = .tuple #[.string (sealT s), .bool true]) := if_pos h
    have hj := joins s h
    clear h
    go_enter Tryd.func17, Tryd.ntmps17
    go_wp2_with fail
    refine (sSum_any s hs _).mono ?_
    rintro e w1 ⟨rfl, rfl⟩
    go_wp2_with fail
    refine (sFour_any _ (sum_lt _) _).mono ?_
    rintro e w1 ⟨rfl, hb⟩
    go_wp2
    go_ret2
    exact ⟨by rw [HS.out]; rfl, hb⟩
  · have h' : (20000 : Int) < (s.size : Int) := by omega
    have HS : Hid (sealOf s = .tuple #[.string ⟨#[]⟩, .bool false]) := if_neg h
    clear h
    go_enter Tryd.func17, Tryd.ntmps17
    go_wp2
    go_ret2
    exact ⟨by rw [HS.out]; rfl, Below.refl _ _⟩

end Go.Proofs.YtpehnhmbkhlmaaaDoor
