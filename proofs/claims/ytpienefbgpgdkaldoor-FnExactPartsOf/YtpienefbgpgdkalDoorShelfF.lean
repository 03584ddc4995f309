/-
  The contract of the library on strings.Fields, laid at this program in plain words.
-/
import Derived.Shelf.Strings.Fields
import Derived.Shelf.Lays
import Derived.Test.YtpienefbgpgdkalDoorProg
namespace Go.Proofs
open Go.Shelf
def Tryd.lays157_ren : Go.Shelf.Ren := ⟨fun | 157 => 19 | 229 => 23 | 199 => 24 | 261 => 27 | 311 => 32 | 312 => 33 | n => n, fun | 9 => 9 | 31 => 27 | 3 => 3 | 5 => 5 | 4 => 4 | 119 => 39 | 0 => 0 | 40 => 41 | 152 => 43 | 21 => 21 | 154 => 45 | 51 => 46 | 141 => 48 | 196 => 59 | 193 => 56 | 198 => 62 | 49 => 60 | 194 => 57 | 201 => 65 | 226 => 73 | 46 => 71 | 227 => 74 | n => n, fun | 0 => 0 | 6 => 1 | n => n⟩
theorem Tryd.lays157 : Go.Proofs.Lays.n157 Tryd.prog Tryd.lays157_ren := {
  mixed := by kernel_rfl
  f157 := Tryd.func19.trans (congrArg some (by kernel_rfl))
  f199 := Tryd.func24.trans (congrArg some (by kernel_rfl))
  f229 := Tryd.func23.trans (congrArg some (by kernel_rfl))
  f261 := Tryd.func27.trans (congrArg some (by kernel_rfl))
  f311 := Tryd.func32.trans (congrArg some (by kernel_rfl))
  f312 := Tryd.func33.trans (congrArg some (by kernel_rfl))
  t0 := Tryd.underlying0
  a0 := Tryd.isAgg0
  z0 := Tryd.sizeOf0
  v0 := Tryd.zeroValue0
  t3 := Tryd.underlying3
  a3 := Tryd.isAgg3
  z3 := Tryd.sizeOf3
  v3 := Tryd.zeroValue3
  t4 := Tryd.underlying4
  a4 := Tryd.isAgg4
  z4 := Tryd.sizeOf4
  v4 := Tryd.zeroValue4
  t5 := Tryd.underlying5
  a5 := Tryd.isAgg5
  z5 := Tryd.sizeOf5
  v5 := Tryd.zeroValue5
  t9 := Tryd.underlying9
  a9 := Tryd.isAgg9
  z9 := Tryd.sizeOf9
  v9 := Tryd.zeroValue9
  t21 := Tryd.underlying21
  a21 := Tryd.isAgg21
  z21 := Tryd.sizeOf21
  v21 := Tryd.zeroValue21
  t31 := Tryd.underlying27
  a31 := Tryd.isAgg27
  z31 := Tryd.sizeOf27
  v31 := Tryd.zeroValue27
  t40 := Tryd.underlying41
  a40 := Tryd.isAgg41
  z40 := Tryd.sizeOf41
  v40 := Tryd.zeroValue41
  t46 := Tryd.underlying71
  a46 := Tryd.isAgg71
  z46 := Tryd.sizeOf71
  v46 := Tryd.zeroValue71
  t49 := Tryd.underlying60
  a49 := Tryd.isAgg60
  z49 := Tryd.sizeOf60
  v49 := Tryd.zeroValue60
  t51 := Tryd.underlying46
  a51 := Tryd.isAgg46
  z51 := Tryd.sizeOf46
  v51 := Tryd.zeroValue46
  t119 := Tryd.underlying39
  a119 := Tryd.isAgg39
  z119 := Tryd.sizeOf39
  t141 := Tryd.underlying48
  a141 := Tryd.isAgg48
  z141 := Tryd.sizeOf48
  v141 := Tryd.zeroValue48
  t152 := Tryd.underlying43
  a152 := Tryd.isAgg43
  z152 := Tryd.sizeOf43
  v152 := Tryd.zeroValue43
  t154 := Tryd.underlying45
  a154 := Tryd.isAgg45
  z154 := Tryd.sizeOf45
  v154 := Tryd.zeroValue45
  t193 := Tryd.underlying56
  a193 := Tryd.isAgg56
  z193 := Tryd.sizeOf56
  v193 := Tryd.zeroValue56
  t194 := Tryd.underlying57
  a194 := Tryd.isAgg57
  z194 := Tryd.sizeOf57
  v194 := Tryd.zeroValue57
  t196 := Tryd.underlying59
  a196 := Tryd.isAgg59
  z196 := Tryd.sizeOf59
  v196 := Tryd.zeroValue59
  t198 := Tryd.underlying62
  a198 := Tryd.isAgg62
  z198 := Tryd.sizeOf62
  v198 := Tryd.zeroValue62
  t201 := Tryd.underlying65
  a201 := Tryd.isAgg65
  z201 := Tryd.sizeOf65
  v201 := Tryd.zeroValue65
  t226 := Tryd.underlying73
  a226 := Tryd.isAgg73
  z226 := Tryd.sizeOf73
  v226 := Tryd.zeroValue73
  t227 := Tryd.underlying74
  a227 := Tryd.isAgg74
  z227 := Tryd.sizeOf74
  v227 := Tryd.zeroValue74
  g0 := by kernel_rfl
  g6 := by kernel_rfl }
open Go.RowKit Go.Lib in
/-- strings.Fields, the table by 'Lib.TabIs' (as strings.TrimSpace's contract). 'hg': the table's number, by its name: at a dump 'by kernel_rfl'. (LAID: no walk: one application.) -/
theorem Tryd.strings_Fields (s : ByteArray) (w : World) (hs : s.size < 4294967281) (hascii : ∀ (j : Nat) b, s.data.toList[j]? = some b → b.toNat < 128) (htab : Lib.TabIs Tryd.prog w "strings.asciiSpace" .u8 Lib.asciiSpaceTab) :
    Calls Tryd.prog 19 #[.string s] w fun e w' =>
      e = .returned (.slice (some ⟨w.heap.size, 0, none⟩) (Lib.fields s.data.toList).length (Lib.fields s.data.toList).length) ∧ w' = w.alloc (.cells ((Lib.fields s.data.toList).map fun l => Value.string ⟨l.toArray⟩).toArray 9) := Any.strings_Fields Tryd.lays157 (by kernel_rfl) (by kernel_rfl) s w hs hascii htab
end Go.Proofs
