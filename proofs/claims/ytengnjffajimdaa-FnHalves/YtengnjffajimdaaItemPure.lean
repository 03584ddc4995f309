/-
  Items: trees of texts, with a bound of their depth.
-/
import Derived.Test.YtengnjffajimdaaNumPure
import Derived.Test.YtengnjffajimdaaBlk
namespace Go.Proofs.Ytengnjffajimdaa
open Go.RowKit

/-- An item of at most so many levels: whether it is a list, its text, its kids. -/
def It : Nat → Type
  | 0 => Empty
  | d + 1 => Bool × ByteArray × List (It d)
def itL {d : Nat} (x : It (d + 1)) : Bool := x.1
def itT {d : Nat} (x : It (d + 1)) : ByteArray := x.2.1
def itK {d : Nat} (x : It (d + 1)) : List (It d) := x.2.2
/-- Kids of no level: there are none. -/
theorem no_kids (K : List (It 0)) : K = [] := by
  cases K with
  | nil => rfl
  | cons x t => exact x.elim

/-- A value of the program's. -/
def itV (l : Bool) (t : ByteArray) (v : Value) : Value := .agg #[.bool l, .string t, v]
/-- The kid at this place of a list lies in memory below c. -/
def Kid (w : World) (c : Nat) (a : Option Addr) (j : Nat) (l : Bool) (t : ByteArray) (u : Value) : Prop :=
  ∃ b off, a = some ⟨b, off, none⟩ ∧ b < c ∧ w.cell? ⟨b, off + j * 3, none⟩ = some (.bool l) ∧ w.cell? ⟨b, off + j * 3 + 1, none⟩ = some (.string t) ∧ w.cell? ⟨b, off + j * 3 + 2, none⟩ = some u
theorem Kid.on {w w1 : World} {c : Nat} {a : Option Addr} {j : Nat} {l : Bool} {t : ByteArray} {u : Value} (h : Kid w c a j l t u) (hb : Below c w w1) : Kid w1 c a j l t u := by
  obtain ⟨b, off, h1, h2, h3, h4, h5⟩ := h
  exact ⟨b, off, h1, h2, (hb.cell (p := ⟨b, off + j * 3, none⟩) h2).trans h3, (hb.cell (p := ⟨b, off + j * 3 + 1, none⟩) h2).trans h4, (hb.cell (p := ⟨b, off + j * 3 + 2, none⟩) h2).trans h5⟩
theorem Kid.wide {w : World} {c e : Nat} {a : Option Addr} {j : Nat} {l : Bool} {t : ByteArray} {u : Value} (h : Kid w c a j l t u) (he : c ≤ e) : Kid w e a j l t u := by
  obtain ⟨b, off, h1, h2, h3⟩ := h
  exact ⟨b, off, h1, by omega, h3⟩
/-- Kids in memory below c, with all that they hold. -/
def KAt : (d : Nat) → World → Nat → Value → List (It d) → Prop
  | 0, _, _, v, K => ∃ a cp, v = .slice a K.length cp ∧ K.length ≤ 9223372036854775807
  | d + 1, w, c, v, K => ∃ a cp, v = .slice a K.length cp ∧ K.length ≤ 9223372036854775807 ∧ ∀ (j : Nat) (h : j < K.length), ∃ u, Kid w c a j (itL K[j]) (itT K[j]) u ∧ (itT K[j]).size ≤ 9223372036854775807 ∧ KAt d w c u (itK K[j])
theorem KAt.on : ∀ {d : Nat} {w w1 : World} {c : Nat} {v : Value} {K : List (It d)}, KAt d w c v K → Below c w w1 → KAt d w1 c v K
  | 0, _, _, _, _, _, h, _ => h
  | d + 1, _, _, _, _, _, ⟨a, cp, h1, h2, h3⟩, hb => ⟨a, cp, h1, h2, fun j hj => by
    obtain ⟨u, h4, h5, h6⟩ := h3 j hj
    exact ⟨u, h4.on hb, h5, KAt.on h6 hb⟩⟩
theorem KAt.wide : ∀ {d : Nat} {w : World} {c e : Nat} {v : Value} {K : List (It d)}, KAt d w c v K → c ≤ e → KAt d w e v K
  | 0, _, _, _, _, _, h, _ => h
  | d + 1, _, _, _, _, _, ⟨a, cp, h1, h2, h3⟩, he => ⟨a, cp, h1, h2, fun j hj => by
    obtain ⟨u, h4, h5, h6⟩ := h3 j hj
    exact ⟨u, h4.wide he, h5, KAt.wide h6 he⟩⟩

/-- Whether an item at this depth is right. -/
def okD : (d : Nat) → Nat → It d → Bool
  | 0, _, x => x.elim
  | d + 1, e, x => if itL x then decide (itT x = ⟨#[]⟩) && (decide ((itK x).length ≤ 17) && (decide (e < 4) && (itK x).all (okD d (e + 1)))) else decide ((itK x).length = 0) && decide ((itT x).size ≤ 600)
/-- What stands ahead of so many bytes. -/
def headB (n low : Nat) : ByteArray := if n ≤ 55 then ⟨#[UInt8.ofNat (low + n)]⟩ else ⟨#[UInt8.ofNat (low + 55 + (numT n).size)]⟩ ++ numT n
/-- Whether a text stands for itself. -/
def lone (t : ByteArray) : Bool := decide (t.size = 1) && decide ((t.get! 0).toNat < 128)
def catB (l : List ByteArray) : ByteArray := l.foldl (· ++ ·) ⟨#[]⟩
/-- The text of an item. -/
def textD : (d : Nat) → It d → ByteArray
  | 0, x => x.elim
  | d + 1, x => if itL x then headB (catB ((itK x).map (textD d))).size 192 ++ catB ((itK x).map (textD d)) else if lone (itT x) then itT x else headB (itT x).size 128 ++ itT x
/-- Whether two items are the same. -/
def sameD : (d e : Nat) → It d → It e → Bool
  | 0, _, x, _ => x.elim
  | _ + 1, 0, _, y => y.elim
  | d + 1, e + 1, x, y => decide (itL x = itL y) && (decide (itT x = itT y) && (decide ((itK x).length = (itK y).length) && ((itK x).zip (itK y)).all fun p => sameD d e p.1 p.2))

theorem catB_snoc (l : List ByteArray) (t : ByteArray) : catB (l ++ [t]) = catB l ++ t := by
  unfold catB
  rw [List.foldl_append]
  rfl
theorem allN_next {α : Type} (p : α → Bool) (l : List α) {k : Nat} (h : k < l.length) : (l.take (k + 1)).all p = ((l.take k).all p && p l[k]) := by
  rw [List.take_succ_eq_append_getElem h, List.all_append]
  simp
theorem allN_false {α : Type} (p : α → Bool) (l : List α) {k : Nat} (h : (l.take k).all p = false) : l.all p = false := by
  rw [List.all_eq_false] at h ⊢
  obtain ⟨x, hx, hp⟩ := h
  exact ⟨x, List.mem_of_mem_take hx, hp⟩

end Go.Proofs.Ytengnjffajimdaa
