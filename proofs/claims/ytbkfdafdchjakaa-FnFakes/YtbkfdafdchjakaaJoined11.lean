/-
  Texts of one's own, joined.
-/
import Derived.Test.YtbkfdafdchjakaaJoined10
import Derived.Test.YtbkfdafdchjakaaPolyAddS
import Derived.Test.YtbkfdafdchjakaaJoined7
import Derived.Test.YtbkfdafdchjakaaJoined9
import Derived.Test.YtbkfdafdchjakaaJoined8

/-
  The walks of the specification's polynomial with given zeros and of its polynomial through given values.
  (-DROP-: what the seat lacks is left out.)
-/
namespace Go.Proofs.Ytbkfdafdchjakaa
open Go.RowKit

set_option maxHeartbeats 800000 in
set_option maxRecDepth 100000 in
theorem in16_any (n : Int) (w : World) : Calls Try.prog 67 #[.int .i64 n, .int .i64 0, .int .i64 16] w fun e w' => e = .returned (.bool (decide (0 ≤ n ∧ n ≤ 16))) ∧ w = w' := by
  by_cases h1 : n ≥ 0
  · by_cases h2 : n ≤ 16
    · have e : decide (0 ≤ n ∧ n ≤ 16) = true := by simp; omega
      rw [e]
      go_enter Try.func67, Try.ntmps67
      go_wp2
      go_ret
      exact ⟨rfl, rfl⟩
    · have e : decide (0 ≤ n ∧ n ≤ 16) = false := by simp; omega
      rw [e]
      go_enter Try.func67, Try.ntmps67
      go_wp2
      go_ret
      exact ⟨rfl, rfl⟩
  · have e : decide (0 ≤ n ∧ n ≤ 16) = false := by simp; omega
    rw [e]
    go_enter Try.func67, Try.ntmps67
    go_wp2
    go_ret
    exact ⟨rfl, rfl⟩

end Go.Proofs.Ytbkfdafdchjakaa

/-
  The walk of the specification's division.
  (-DROP-: what the seat lacks is left out.)
-/
namespace Go.Proofs.Ytbkfdafdchjakaa
open Go.RowKit

theorem slit0 (w : World) : RowZs w.heap.size (w.alloc (.cells #[] 3)) (.slice (some ⟨w.heap.size, 0, none⟩) 0 0) [] := own_lit w [] (by simp)
theorem slit0n (w : World) (g : Nat) (hg : g = w.heap.size) : RowZs g (w.alloc (.cells #[] 3)) (.slice (some ⟨g, 0, none⟩) 0 0) [] := by
  subst hg
  exact slit0 w
theorem rep_sets (i : Nat) (x : Int) (t : List Int) : (List.replicate (i + 1) 0 ++ t).set i x = List.replicate i 0 ++ (x :: t) := by
  rw [List.replicate_succ', List.append_assoc, List.set_append_right _ _ (by simp)]
  simp
theorem pTrim_sc {l : List Int} (h : ∀ j, Sc (l.getD j 0)) : pTrim l = trimZ l := can_eq (pTrim_can l) (Can.of_trim l h) fun j => by rw [pTrim_at, trimZ_at]; exact dp_sca _

end Go.Proofs.Ytbkfdafdchjakaa

/-
  The walks of the specification's rows as one product: what is mixed.
  (-DROP-: what the seat lacks is left out.)
-/
namespace Go.Proofs.Ytbkfdafdchjakaa
open Go.RowKit

end Go.Proofs.Ytbkfdafdchjakaa

/-
  Three lists of lists beside one another.
-/
namespace Go.Proofs.Ytbkfdafdchjakaa
open Go.RowKit

/-- The blocks of a list of lists. -/
def OwnB (v : Value) (n : Nat) (vs : List Value) (k : Nat) : Prop := v.ownBlock = some k ∨ ∃ i, i < n ∧ (vs.getD i undef).ownBlock = some k
theorem NOwnV.range {e lo hi n : Nat} {w : World} {v : Value} {vs : List Value} {ls : List (List Int)} (h : NOwnV 1 e lo hi w v n vs ls) {k : Nat} (hk : OwnB v n vs k) : lo ≤ k ∧ k < hi := by
  rcases hk with hk | ⟨i, hi, hk⟩
  · exact ⟨(h.row.lt k hk).1, h.top k hk⟩
  · exact (h.each i (by omega)).in k hk
theorem kps_grown {w w' : World} {r : Option Nat} (hg : w.grownBy w' r) : Kps (fun k => r = some k) w w' := ⟨hg.os, hg.tape, hg.output, hg.size, fun k hk hs => hg.block k hk fun e => hs e.symm⟩
theorem NOwnV.kept1 {e lo hi n : Nat} {w w' : World} {v : Value} {vs : List Value} {ls : List (List Int)} {S : Nat → Prop} (h : NOwnV 1 e lo hi w v n vs ls) (hk : Kps S w w') (hS : ∀ k, OwnB v n vs k → ¬ S k) : NOwnV 1 e lo hi w' v n vs ls :=
  ⟨hk.row h.row fun k hv => hS k (.inl hv), h.len, h.top, fun j hj => ⟨hk.row (h.each j hj).1 fun k hv => hS k (.inr ⟨j, by omega, hv⟩), (h.each j hj).2⟩, h.apart, h.off⟩
theorem NOwnV.wide1 {sz e lo hi hi' n : Nat} {w : World} {v : Value} {vs : List Value} {ls : List (List Int)} (h : NOwnV sz e lo hi w v n vs ls) (h2 : hi ≤ hi') : NOwnV sz e lo hi' w v n vs ls := h.wide h2

/-- Three of them, no block of one is another's. -/
structure Tri (e lo hi : Nat) (w : World) (U : Value) (nu : Nat) (us : List Value) (LU : List (List Int)) (V : Value) (nv : Nat) (vs : List Value) (LV : List (List Int)) (X : Value) (nx : Nat) (xs : List Value) (LX : List (List Int)) : Prop where
  u : NOwnV 1 e lo hi w U nu us LU
  v : NOwnV 1 e lo hi w V nv vs LV
  x : NOwnV 1 e lo hi w X nx xs LX
  uv : ∀ k, OwnB U nu us k → ¬ OwnB V nv vs k
  ux : ∀ k, OwnB U nu us k → ¬ OwnB X nx xs k
  vx : ∀ k, OwnB V nv vs k → ¬ OwnB X nx xs k
theorem Tri.rot {e lo hi : Nat} {w : World} {U V X : Value} {nu nv nx : Nat} {us vs xs : List Value} {LU LV LX : List (List Int)} (h : Tri e lo hi w U nu us LU V nv vs LV X nx xs LX) : Tri e lo hi w V nv vs LV X nx xs LX U nu us LU :=
  ⟨h.v, h.x, h.u, h.vx, fun k h1 h2 => h.uv k h2 h1, fun k h1 h2 => h.ux k h2 h1⟩
theorem Tri.same {e lo hi : Nat} {w w' : World} {U V X : Value} {nu nv nx : Nat} {us vs xs : List Value} {LU LV LX : List (List Int)} (h : Tri e lo hi w U nu us LU V nv vs LV X nx xs LX) (hs : Same lo hi w w') : Tri e lo hi w' U nu us LU V nv vs LV X nx xs LX :=
  ⟨h.u.same hs, h.v.same hs, h.x.same hs, h.uv, h.ux, h.vx⟩
theorem Tri.wide {e lo hi hi' : Nat} {w : World} {U V X : Value} {nu nv nx : Nat} {us vs xs : List Value} {LU LV LX : List (List Int)} (h : Tri e lo hi w U nu us LU V nv vs LV X nx xs LX) (h2 : hi ≤ hi') : Tri e lo hi' w U nu us LU V nv vs LV X nx xs LX :=
  ⟨h.u.wide h2, h.v.wide h2, h.x.wide h2, h.uv, h.ux, h.vx⟩
theorem NOwnV.low1 {sz e lo lo' hi n : Nat} {w : World} {v : Value} {vs : List Value} {ls : List (List Int)} (h : NOwnV sz e lo hi w v n vs ls) (h2 : lo' ≤ lo) : NOwnV sz e lo' hi w v n vs ls :=
  ⟨owns_low h.row h2, h.len, h.top, fun j hj => (h.each j hj).wide h2 (Nat.le_refl _), h.apart, h.off⟩
theorem Tri.low {e lo lo' hi : Nat} {w : World} {U V X : Value} {nu nv nx : Nat} {us vs xs : List Value} {LU LV LX : List (List Int)} (h : Tri e lo hi w U nu us LU V nv vs LV X nx xs LX) (h2 : lo' ≤ lo) : Tri e lo' hi w U nu us LU V nv vs LV X nx xs LX :=
  ⟨h.u.low1 h2, h.v.low1 h2, h.x.low1 h2, h.uv, h.ux, h.vx⟩
/-- The first of them grows by one list. -/
theorem Tri.app {e lo hi : Nat} {w w' : World} {U V X U' x : Value} {nu nv nx : Nat} {us vs xs : List Value} {LU LV LX : List (List Int)} {l : List Int} (h : Tri e lo hi w U nu us LU V nv vs LV X nx xs LX) (hr : w'.ownsRow lo e 1 U' (nu + 1) (us ++ [x])) (hg : w.grownBy w' U.ownBlock) (hv : U'.ownBlock = U.ownBlock ∨ U'.ownBlock = some w.heap.size) (hx : ZOwn hi w.heap.size w x l) (hw : hi ≤ w.heap.size) (hlo : lo ≤ hi) : Tri e lo w'.heap.size w' U' (nu + 1) (us ++ [x]) (LU ++ [l]) V nv vs LV X nx xs LX := by
  have hul : us.length = nu := by have := h.u.vlen; omega
  have hsz := hg.size
  have hnew : NOwnV 1 e lo w'.heap.size w' U' (nu + 1) (us ++ [x]) (LU ++ [l]) := h.u.app hr hg hv rfl (fun j hj => by
      have e0 : j = 0 := by omega
      subst e0
      exact hx) (fun i j k hi hj hij => by omega) hw hlo hsz (fun k hk => (hr.lt k hk).2)
  have hsub : ∀ k, OwnB U' (nu + 1) (us ++ [x]) k → OwnB U nu us k ∨ hi ≤ k := fun k hk => by
    rcases hk with hk | ⟨i, hi', hk⟩
    · rcases hv with hv | hv
      · exact .inl (.inl (hv ▸ hk))
      · rw [hv] at hk
        have := Option.some.inj hk
        exact .inr (by omega)
    · by_cases e1 : i < nu
      · rw [getD_app_left _ _ _ _ (by omega)] at hk
        exact .inl (.inr ⟨i, e1, hk⟩)
      · rw [getD_app_right _ _ _ _ (by omega), hul, show i - nu = 0 by omega] at hk
        exact .inr (hx.in k hk).1
  have hK := kps_grown hg
  have keepV := h.v.kept1 hK fun k hk hs => h.uv k (.inl hs) hk
  have keepX := h.x.kept1 hK fun k hk hs => h.ux k (.inl hs) hk
  refine ⟨hnew, keepV.wide (by omega), keepX.wide (by omega), fun k h1 h2 => ?_, fun k h1 h2 => ?_, h.vx⟩
  · rcases hsub k h1 with h3 | h3
    · exact h.uv k h3 h2
    · have := h.v.range h2; omega
  · rcases hsub k h1 with h3 | h3
    · exact h.ux k h3 h2
    · have := h.x.range h2; omega

/-- Three rows of numbers beside one another. -/
structure Row3s (lo : Nat) (w : World) (a b c : Value) (la lb lc : List Int) : Prop where
  ra : RowZs lo w a la
  rb : RowZs lo w b lb
  rc : RowZs lo w c lc
  ab : ∀ k, a.ownBlock = some k → b.ownBlock ≠ some k
  ac : ∀ k, a.ownBlock = some k → c.ownBlock ≠ some k
  bc : ∀ k, b.ownBlock = some k → c.ownBlock ≠ some k
theorem Row3s.rot {lo : Nat} {w : World} {a b c : Value} {la lb lc : List Int} (h : Row3s lo w a b c la lb lc) : Row3s lo w b c a lb lc la :=
  ⟨h.rb, h.rc, h.ra, h.bc, fun k h1 h2 => h.ab k h2 h1, fun k h1 h2 => h.ac k h2 h1⟩
theorem Row3s.alloc {lo : Nat} {w : World} {a b c : Value} {la lb lc : List Int} (h : Row3s lo w a b c la lb lc) (o : Obj) : Row3s lo (w.alloc o) a b c la lb lc :=
  ⟨World.ownsRow.alloc h.ra o, World.ownsRow.alloc h.rb o, World.ownsRow.alloc h.rc o, h.ab, h.ac, h.bc⟩
theorem Row3s.app {lo : Nat} {w w' : World} {a b c a' : Value} {la lb lc la' : List Int} (h : Row3s lo w a b c la lb lc) (hr : RowZs lo w' a' la') (hg : w.grownBy w' a.ownBlock) (hv : a'.ownBlock = a.ownBlock ∨ a'.ownBlock = some w.heap.size) : Row3s lo w' a' b c la' lb lc := by
  have hK := kps_grown hg
  refine ⟨hr, hK.row h.rb fun k hk hs => h.ab k hs hk, hK.row h.rc fun k hk hs => h.ac k hs hk, fun k h1 h2 => ?_, fun k h1 h2 => ?_, h.bc⟩
  · rcases hv with hv | hv
    · exact h.ab k (hv ▸ h1) h2
    · rw [hv] at h1
      have := Option.some.inj h1
      have := (h.rb.lt k h2).2
      omega
  · rcases hv with hv | hv
    · exact h.ac k (hv ▸ h1) h2
    · rw [hv] at h1
      have := Option.some.inj h1
      have := (h.rc.lt k h2).2
      omega

end Go.Proofs.Ytbkfdafdchjakaa

/-
  The walk of the specification's polynomial through given values.
  (-DROP-: what the seat lacks is left out.)
-/
namespace Go.Proofs.Ytbkfdafdchjakaa
open Go.RowKit

end Go.Proofs.Ytbkfdafdchjakaa
