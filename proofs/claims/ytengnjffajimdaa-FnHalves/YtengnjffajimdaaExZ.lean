/-
  What the exact laws need of lists of numbers: copies, whether two are the same, marks; in terms of what is read and what is owned.
  (-DROP-: what the seat lacks is left out.)
-/
import Derived.Test.YtengnjffajimdaaNest
namespace Go.Proofs.Ytengnjffajimdaa
open Go.RowKit

theorem toZ_any (v : Value) (l : List Int) (hl : l.length ≤ 1048576) (w : World) (h : ZAt w w.heap.size v l) :
    Calls Try.prog 27 #[v] w fun e w' => ∃ g, e = .returned (.slice (some ⟨g, 0, none⟩) l.length l.length) ∧ ZOwn w.heap.size w'.heap.size w' (.slice (some ⟨g, 0, none⟩) l.length l.length) l ∧ Below w.heap.size w w' := by
  obtain ⟨a, cp, rfl, hA⟩ := h
  refine (toIntS_any a l.length cp hl _ w hA).mono ?_
  rintro e w' ⟨rfl, hR, hb⟩
  refine ⟨_, rfl, ⟨?_, fun k hk => ?_⟩, hb⟩
  · have h1 := hR.rowZ (Nat.le_refl _) hl
    rw [zls_getD] at h1
    exact h1
  · have e1 : some w.heap.size = some k := hk
    injection e1 with e1
    have := hR.lt
    omega

theorem eqZW_any (v u : Value) (l : List Int) (hl : l.length ≤ 4194304) (w : World) (h : ZAt w w.heap.size v l) (h2 : ZAt w w.heap.size u l) :
    Calls Try.prog 24 #[v, u] w fun e w' => e = .returned (.bool true) ∧ Below w.heap.size w w' := by
  obtain ⟨a, cp, rfl, hA⟩ := h
  obtain ⟨b, cq, rfl, hB⟩ := h2
  exact eqIntSW_any a b l.length cp cq hl _ w hA hB

theorem eqZ_any (v u : Value) (l : List Int) (hl : l.length ≤ 1048576) (w : World) (h : ZAt w w.heap.size v l) (h2 : ZAt w w.heap.size u l) :
    Calls Try.prog 24 #[v, u] w fun e w' => e = .returned (.bool true) ∧ Below w.heap.size w w' :=
  eqZW_any v u l (Nat.le_trans hl (by decide)) w h h2

theorem markZoW_any (v : Value) (l : List Int) (k lo hi : Nat) (hkb : k ≤ 1099511627776) (hl : l.length ≤ 4194304) (w : World) (h : ZOwn lo hi w v l) :
    Calls Try.prog 25 #[v, .int .i64 (k : Int)] w fun e w' => e = .returned (.int .i64 ((k + l.length : Nat) : Int)) ∧ ZOwn lo hi w' v (mkz k l.length) ∧ Kps (fun b => lo ≤ b ∧ b < hi) w w' := by
  refine (markZW_any v l k lo hkb hl w h.1).mono ?_
  rintro e w' ⟨rfl, hR, hK⟩
  exact ⟨rfl, ⟨hR, h.2⟩, hK.more fun b hb => h.in b hb⟩

theorem markZo_any (v : Value) (l : List Int) (k lo hi : Nat) (hkb : k ≤ 1099511627776) (hl : l.length ≤ 1048576) (w : World) (h : ZOwn lo hi w v l) :
    Calls Try.prog 25 #[v, .int .i64 (k : Int)] w fun e w' => e = .returned (.int .i64 ((k + l.length : Nat) : Int)) ∧ ZOwn lo hi w' v (mkz k l.length) ∧ Kps (fun b => lo ≤ b ∧ b < hi) w w' :=
  markZoW_any v l k lo hi hkb (Nat.le_trans hl (by decide)) w h

theorem heldZoW_any (v : Value) (n k lo hi : Nat) (hkb : k ≤ 1099511627776) (hl : n ≤ 4194304) (w : World) (h : ZOwn lo hi w v (mkz k n)) :
    Calls Try.prog 26 #[v, .int .i64 (k : Int)] w fun e w' => e = .returned (.int .i64 ((k + n : Nat) : Int)) ∧ Below w.heap.size w w' :=
  (heldZW_any v n k lo hkb hl w h.1).mono fun _ _ h => ⟨h.1, h.2 ▸ Below.refl _ _⟩

theorem heldZo_any (v : Value) (n k lo hi : Nat) (hkb : k ≤ 1099511627776) (hl : n ≤ 1048576) (w : World) (h : ZOwn lo hi w v (mkz k n)) :
    Calls Try.prog 26 #[v, .int .i64 (k : Int)] w fun e w' => e = .returned (.int .i64 ((k + n : Nat) : Int)) ∧ Below w.heap.size w w' :=
  heldZoW_any v n k lo hi hkb (Nat.le_trans hl (by decide)) w h

end Go.Proofs.Ytengnjffajimdaa
