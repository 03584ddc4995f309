/-
  The walk of the mark that a text is given.
  (-DROP-: what the seat lacks is left out.)
-/
import Derived.Test.YtmpjnabadplbjaaJoined3
import Derived.Test.YtmpjnabadplbjaaJoined8
import Derived.WalkLawsBesides
import Derived.WalkSpells
import Derived.Lib.ConvBytes
namespace Go.Proofs.Ytmpjnabadplbjaa
open Go.RowKit

/-- The figures of a number, laid ahead of a text. -/
def mtf : Nat → Nat → List UInt8 → List UInt8
  | 0, _, t => t
  | f + 1, u, t => if u = 0 then t else mtf f (u / 10) (UInt8.ofNat (48 + u % 10) :: t)
def mtL (k : Nat) : List UInt8 := mtf 20 k []
/-- A mark. -/
def mt (k : Nat) : ByteArray := ⟨(109 :: mtL k).toArray⟩

theorem mtf_zero : ∀ (f : Nat) (t : List UInt8), mtf f 0 t = t
  | 0, _ => rfl
  | _ + 1, _ => if_pos rfl
theorem mtf_next {f u : Nat} (t : List UInt8) (h : u ≠ 0) : mtf (f + 1) u t = mtf f (u / 10) (UInt8.ofNat (48 + u % 10) :: t) := if_neg h

theorem cat_b (a b : List UInt8) : (⟨a.toArray⟩ : ByteArray) ++ ⟨b.toArray⟩ = ⟨(a ++ b).toArray⟩ := by
  apply ByteArray.ext
  simp

theorem cats_t (b : UInt8) (t : List UInt8) (ht : t.length ≤ 20) (w : World) : (Op.stringOp .add ⟨#[b]⟩ ⟨t.toArray⟩).run Try.prog w = .ok (.string ⟨(b :: t).toArray⟩) w := by
  have h := run_string_add_sum (P := Try.prog) w ⟨#[b]⟩ ⟨t.toArray⟩ (by simp [ByteArray.size]; omega)
  rw [h]
  exact congrArg (fun x => Result.ok (Value.string x) w) (cat_b [b] t)

theorem one_t (w : World) (b : UInt8) (z : Int) (hz : z = (b.toNat : Int)) : (convert 22 9 (.slice (some ⟨w.heap.size, 0, none⟩) 1 1)).run Try.prog (w.alloc (.cells #[.int .u8 z] 5)) = .ok (.string ⟨#[b]⟩) (w.alloc (.cells #[.int .u8 z] 5)) := by
  have h := run_convert_bytes_back (P := Try.prog) (w.alloc (.cells #[.int .u8 z] 5)) 22 9 5 ⟨w.heap.size, 0, none⟩ 1 [b] Try.underlying22 Try.underlying5 Try.underlying9 (by
    intro j hj
    have : j = 0 := by simp at hj; omega
    subst this
    rw [hz]
    simp [Addr.add])
  simpa using h

set_option maxHeartbeats 800000 in
set_option maxRecDepth 100000 in
theorem markText_any (n : Nat) (hn : n ≠ 0) (hm : n ≤ 1000000000000) (w : World) :
    Calls Try.prog 63 #[.int .i64 (n : Int)] w fun e w' => e = .returned (.string (mt n)) ∧ Below w.heap.size w w' := by
  have h0 : ¬ (n : Int) ≤ 0 := by omega
  go_enter Try.func63, Try.ntmps63
  go_wp2
  go_loopw [0, 3] (fun x v wr => ∃ (u f : Nat) (t : List UInt8), x = .int .i64 (u : Int) ∧ v = .string ⟨t.toArray⟩ ∧ Hid (mtL n = mtf f u t ∧ t.length + f = 20 ∧ u < 10 ^ f) ∧ u ≤ n ∧ Below w.heap.size w wr) (fun x _ _ => (RowKit.intOf x).toNat)
  case atStart => exact ⟨n, 20, [], rfl, rfl, ⟨rfl, rfl, by omega⟩, Nat.le_refl _, Below.refl _ _⟩
  case round =>
    obtain ⟨u, f, t, rfl, rfl, hinv, hun, hbel⟩ := hrel
    have htl : t.length ≤ 20 := by have := hinv.out.2.1; omega
    have hsz := hbel.size
    by_cases hu : u = 0
    · subst hu
      have HE : Hid (mt n = ⟨(109 :: t).toArray⟩) := by
        show mt n = _
        unfold mt
        rw [hinv.out.1, mtf_zero]
      have hda := cats_t 109 t htl
      clear hinv
      go_wp2
      go_ret
      exact ⟨by rw [HE.out]; rfl, hbel⟩
    · have hu0 : (0 : Int) < (u : Int) := by omega
      obtain ⟨g, rfl⟩ : ∃ g, f = g + 1 := by
        cases f with
        | zero => have := hinv.out.2.2; omega
        | succ g => exact ⟨g, rfl⟩
      obtain ⟨c, hc⟩ : ∃ c, c = UInt8.ofNat (48 + u % 10) := ⟨_, rfl⟩
      have hn2 : Hid (mtL n = mtf g (u / 10) (c :: t) ∧ (c :: t).length + g = 20 ∧ u / 10 < 10 ^ g) := by
        refine ⟨by rw [hinv.out.1, mtf_next t hu, ← hc], by have := hinv.out.2.1; simp; omega, ?_⟩
        have := hinv.out.2.2
        rw [Nat.pow_succ] at this
        omega
      have hfz : 48 + (u : Int) % 10 = (c.toNat : Int) := by rw [hc]; simp; omega
      clear hc hinv
      have hone := fun W => one_t W c (48 + (u : Int) % 10) hfz
      have hcat := cats_t c t htl
      clear hfz
      go_wp2
      go_roundw
      case rel => exact ⟨u / 10, g, c :: t, by go_num, by simp, hn2, by omega, (hbel.alloc hsz _)⟩
      case measure => simp [RowKit.intOf]; omega


theorem mtf_size : ∀ (f u : Nat) (t : List UInt8), (mtf f u t).length ≤ f + t.length
  | 0, _, t => by rw [mtf]; omega
  | f + 1, u, t => by
    rw [mtf]
    split
    · omega
    · have := mtf_size f (u / 10) (UInt8.ofNat (48 + u % 10) :: t)
      rw [List.length_cons] at this
      omega
theorem mt_size (k : Nat) : (mt k).size ≤ 1000000 := by
  have h := mtf_size 20 k []
  show (109 :: mtf 20 k []).toArray.size ≤ _
  simp at h ⊢
  omega

end Go.Proofs.Ytmpjnabadplbjaa
