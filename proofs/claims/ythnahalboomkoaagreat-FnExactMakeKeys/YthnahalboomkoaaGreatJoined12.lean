/-
  Texts of one's own, joined.
-/
import Derived.Test.YthnahalboomkoaaGreatPolyMulS
import Derived.Test.YthnahalboomkoaaGreatPolyAddS
import Derived.Test.YthnahalboomkoaaGreatJoined7
import Derived.Test.YthnahalboomkoaaGreatJoined10
import Derived.Test.YthnahalboomkoaaGreatJoined8

/-
  The walks of the specification's polynomial with given zeros and of its polynomial through given values.
  (-DROP-: what the seat lacks is left out.)
-/
namespace Go.Proofs.YthnahalboomkoaaGreat
open Go.RowKit

set_option maxHeartbeats 800000 in
set_option maxRecDepth 100000 in
theorem in16_any (n : Int) (w : World) : Calls Tryz.prog 87 #[.int .i64 n, .int .i64 0, .int .i64 16] w fun e w' => e = .returned (.bool (decide (0 ≤ n ∧ n ≤ 16))) ∧ w = w' := by
  by_cases h1 : n ≥ 0
  · by_cases h2 : n ≤ 16
    · have e : decide (0 ≤ n ∧ n ≤ 16) = true := by simp; omega
      rw [e]
      go_enter Tryz.func87, Tryz.ntmps87
      go_wp2
      go_ret
      exact ⟨rfl, rfl⟩
    · have e : decide (0 ≤ n ∧ n ≤ 16) = false := by simp; omega
      rw [e]
      go_enter Tryz.func87, Tryz.ntmps87
      go_wp2
      go_ret
      exact ⟨rfl, rfl⟩
  · have e : decide (0 ≤ n ∧ n ≤ 16) = false := by simp; omega
    rw [e]
    go_enter Tryz.func87, Tryz.ntmps87
    go_wp2
    go_ret
    exact ⟨rfl, rfl⟩

set_option maxHeartbeats 1600000 in
set_option maxRecDepth 100000 in
theorem sZer_any (n : Int) (w : World) : Calls Tryz.prog 84 #[.int .i64 n] w fun e w' => ∃ u, e = .returned u ∧ ZOwn w.heap.size w'.heap.size w' u (pZer n) ∧ Below w.heap.size w w' := by
  have CI : Hid (∀ w, Calls Tryz.prog 87 #[.int .i64 n, .int .i64 0, .int .i64 16] w fun e w' => e = .returned (.bool (decide (0 ≤ n ∧ n ≤ 16))) ∧ w = w') := in16_any n
  by_cases h0 : n < 0 ∨ n > 16
  · have HE : Hid (pZer n = []) := by show _ = _; unfold pZer; rw [if_pos h0]
    have e : decide (0 ≤ n ∧ n ≤ 16) = false := by simp; omega
    rw [e] at CI
    clear e h0
    go_enter Tryz.func84, Tryz.ntmps84
    go_wp2_with (go_at_call 87; refine (CI.out _).mono ?_; rintro e wz ⟨rfl, rfl⟩)
    go_ret
    exact ⟨_, rfl, by rw [HE.out]; exact ZOwn.of (World.ownsRow_lit _ _ _ (Nat.le_refl _) (by simp [maxLen]) (by simp)), (Below.refl _ _).alloc (Nat.le_refl _) _⟩
  · obtain ⟨m, rfl⟩ : ∃ m : Nat, n = (m : Int) := ⟨n.toNat, by omega⟩
    have HE : Hid (pZer (m : Int) = zerL m) := by show _ = _; exact pZer_nat (by omega)
    have hm : m ≤ 16 := by omega
    have e : decide (0 ≤ (m : Int) ∧ (m : Int) ≤ 16) = true := by simp; omega
    rw [e] at CI
    clear e h0
    go_enter Tryz.func84, Tryz.ntmps84
    go_wp2_with (go_at_call 87; refine (CI.out _).mono ?_; rintro e wz ⟨rfl, rfl⟩)
    go_loopw [3, 4] (fun u i wr => ∃ (k : Nat), i = .int .i64 ((k : Int) + 1) ∧ k ≤ m ∧ Hid (ZOwn w.heap.size wr.heap.size wr u (zerL k)) ∧ Hid (Below w.heap.size w wr)) (fun _ i _ => m + 1 - (intOf i).toNat)
    case atStart => exact ⟨0, rfl, Nat.zero_le _, ZOwn.of (own_lit w [1] (by simp)), (Below.refl _ _).alloc (Nat.le_refl _) _⟩
    case round =>
      obtain ⟨k, rfl, hk, HU, HB⟩ := hrel
      obtain ⟨xa, xc, hxv⟩ := row_form HU.out.1
      subst hxv
      generalize hzl : (zerL k).length = zn at HU
      clear hzl
      by_cases hlt : k < m
      · have hlt' : (k : Int) + 1 ≤ (m : Int) := by omega
        have hwn : IntKind.i64.wrap (-((k : Int) + 1)) = -((k : Int) + 1) := IntWalk.i64_in _ (by omega)
        have CM : Hid (∀ V : World, V = wr.alloc (.cells #[.int .i64 (-((k : Int) + 1)), .int .i64 1] 3) → Calls Tryz.prog 152 #[.slice xa zn xc, .slice (some ⟨wr.heap.size, 0, none⟩) 2 2] V fun e w' => ∃ x, e = .returned x ∧ ZOwn V.heap.size w'.heap.size w' x (zerL (k + 1)) ∧ Below V.heap.size V w') := fun V hV => by
          subst hV
          have hb : Below wr.heap.size wr (wr.alloc (.cells #[.int .i64 (-((k : Int) + 1)), .int .i64 1] 3)) := (Below.refl _ _).alloc (Nat.le_refl _) _
          refine sQMul_any _ _ (zerL k) [-((k : Int) + 1), 1] (zerL_len k) (by simp) _ (((HU.out.at).on hb).wide hb.size) ?_
          exact (ZOwn.of (own_lit wr [-((k : Int) + 1), 1] (by simp))).at
        clear HU
        go_wp2_with (go_at_call 152; refine (CM.out _ rfl).mono ?_; rintro e w2 ⟨x, rfl, hx, hb2⟩)
        have hs : wr.heap.size ≤ (wr.alloc (.cells #[.int .i64 (-((k : Int) + 1)), .int .i64 1] 3)).heap.size := by simp
        have HX : Hid (ZOwn w.heap.size w2.heap.size w2 x (zerL (k + 1))) := hx.wide (Nat.le_trans HB.out.size hs) (Nat.le_refl _)
        have HB2 : Hid (Below w.heap.size w w2) := (HB.out.alloc HB.out.size _).trans (hb2.mono (Nat.le_trans HB.out.size hs))
        clear hx hb2 hs CM
        go_wp2
        go_roundw
        case rel => exact ⟨k + 1, by go_num, hlt, HX, HB2⟩
        case measure => simp [intOf]; omega
      · have hlt' : ¬ (k : Int) + 1 ≤ (m : Int) := by omega
        obtain rfl : m = k := by omega
        go_wp2
        go_ret
        exact ⟨_, rfl, by rw [HE.out]; exact HU.out, HB.out⟩

set_option maxHeartbeats 1600000 in
set_option maxRecDepth 100000 in
theorem sScl_any (v : Value) (l : List Int) (c : Int) (hl : l.length ≤ 1048576) (w : World) (h : ZAt w w.heap.size v l) :
    Calls Tryz.prog 156 #[v, .int .i64 c] w fun e w' => ∃ u, e = .returned u ∧ ZOwn w.heap.size w'.heap.size w' u (scl l c) ∧ Below w.heap.size w w' := by
  obtain ⟨i0, hi, hz0, hz1, hz2⟩ := info_parts info3I
  obtain ⟨a, cp, rfl, hA⟩ := h
  have HA : Hid (IntsAt w a l.length w.heap.size (fun j => l.getD j 0)) := hA
  obtain ⟨n, hn⟩ : ∃ n, n = l.length := ⟨_, rfl⟩
  have HN : Hid (n = l.length) := hn
  rw [← hn] at HA hl ⊢
  clear hn hA
  go_enter Tryz.func156, Tryz.ntmps156
  go_wp2
  go_loopw [5, 6] (fun u i wr => ∃ (k : Nat) (m : List Int), i = .int .i64 (k : Int) ∧ k ≤ n ∧ Hid (m = scl (l.take k) c) ∧ m.length = k ∧ wr.ownsRow w.heap.size 3 1 u k (zsV m) ∧ Hid (Below w.heap.size w wr)) (fun _ i _ => n - (intOf i).toNat)
  case atStart => exact ⟨0, [], rfl, by omega, rfl, rfl, World.ownsRow_lit _ _ _ (Nat.le_refl _) (by simp [maxLen]) (by simp), (Below.refl _ _).alloc (Nat.le_refl _) _⟩
  case round =>
    obtain ⟨k, m, rfl, hk, HM, hml, hown, HB⟩ := hrel
    have hsz : w.heap.size ≤ wr.heap.size := HB.out.size
    by_cases hlt : k < n
    · have hlt' : (k : Int) < (n : Int) := by omega
      have hk0 : (0 : Int) ≤ (k : Int) := by omega
      have hm63 : k + 1 ≤ maxLen := by unfold maxLen; omega
      have hm47 : (k + 1) * 8 ≤ 140737488355328 := by omega
      obtain ⟨b, off, rfl, hb, hz⟩ := (HA.out.on HB.out) k hlt
      replace hz : wr.cell? ⟨b, off + k, none⟩ = some (.int .i64 (l.getD k 0)) := hz
      have HS : Hid (∀ w, Calls Tryz.prog 81 #[.int .i64 (l.getD k 0), .int .i64 c] w fun e w' => e = .returned (.int .i64 (scMul (l.getD k 0) c)) ∧ w = w') := sScMul_any _ _
      have HM2 : Hid (m ++ [scMul (l.getD k 0) c] = scl (l.take (k + 1)) c) := by
        show _ = _
        have hkl : k < l.length := by have := HN.out; omega
        rw [HM.out, List.take_succ_eq_append_getElem hkl]
        unfold scl
        rw [List.map_append]
        simp [hkl]
      generalize scMul (l.getD k 0) c = y at HS HM2
      generalize l.getD k 0 = x at hz HS
      clear hb HA HM
      go_wp2_with (first
        | (go_at_call 81; refine (HS.out _).mono ?_; rintro e wz ⟨rfl, rfl⟩)
        | (at_builtin; refine wpList_append_own _ rfl _ _ 27 rfl w.heap.size 3 i0 (.int .i64 0) 1 8 Tryz.underlying27 hi hz0 hz1 hz2 rfl (by decide) _ _ _ rfl (hown.alloc _) ⟨wr.heap.size, 0, none⟩ 1 1 [.int .i64 y] rfl rfl (cell_one_new _ _ _) (one_cell _ _) hm63 hm47 (room_for hsz _) ?_))
      intro v' w4 hown' hgrow _
      have R : w4.ownsRow w.heap.size 3 1 v' (k + 1) (zsV (m ++ [y])) := by rw [zsV_append]; exact hown'
      have HB2 : Hid (Below w.heap.size w w4) := (HB.out.alloc hsz _).grown hgrow (by simp; omega) (fun k hk => (hown.lt k hk).1)
      have hml2 : (m ++ [y]).length = k + 1 := by simp [hml]
      clear hown' hgrow hown
      go_wp2
      go_roundw
      case rel => exact ⟨k + 1, _, by go_num, hlt, HM2, hml2, R, HB2⟩
      case measure => simp [intOf]; omega
    · have hlt' : ¬ (k : Int) < (n : Int) := by omega
      obtain rfl : n = k := by omega
      have HM2 : Hid (m = scl l c) := by
        show _ = _
        rw [HM.out, HN.out, List.take_length]
      obtain ⟨ra, rc, hv⟩ := row_form hown
      subst hv
      have HR : Hid (RowZs w.heap.size wr (.slice ra n rc) (scl l c)) := by
        show wr.ownsRow w.heap.size 3 1 _ (scl l c).length (zsV (scl l c))
        rw [← HM2.out, hml]
        exact hown
      clear HM hown HM2
      go_wp2
      go_ret
      exact ⟨_, rfl, ZOwn.of HR.out, HB.out⟩

end Go.Proofs.YthnahalboomkoaaGreat

/-
  Three lists of lists beside one another.
-/
namespace Go.Proofs.YthnahalboomkoaaGreat
open Go.RowKit

/-- The blocks of a list of lists. -/
def OwnB (v : Value) (n : Nat) (vs : List Value) (k : Nat) : Prop := v.ownBlock = some k ∨ ∃ i, i < n ∧ (vs.getD i undef).ownBlock = some k
theorem NOwnV.range {e lo hi n : Nat} {w : World} {v : Value} {vs : List Value} {ls : List (List Int)} (h : NOwnV 1 e lo hi w v n vs ls) {k : Nat} (hk : OwnB v n vs k) : lo ≤ k ∧ k < hi := by
  rcases hk with hk | ⟨i, hi, hk⟩
  · exact ⟨(h.row.lt k hk).1, h.top k hk⟩
  · exact (h.each i (by omega)).in k hk
theorem kps_grown {w w' : World} {r : Option Nat} (hg : w.grownBy w' r) : Kps (fun k => r = some k) w w' := ⟨hg.os, hg.tape, hg.output, hg.size, fun k hk hs => hg.block k hk fun e => hs e.symm⟩
theorem NOwnV.kept1 {e lo hi n : Nat} {w w' : World} {v : Value} {vs : List Value} {ls : List (List Int)} {S : Nat → Prop} (h : NOwnV 1 e lo hi w v n vs ls) (hk : Kps S w w') (hS : ∀ k, OwnB v n vs k → ¬ S k) : NOwnV 1 e lo hi w' v n vs ls :=
  ⟨hk.row h.row fun k hv => hS k (.inl hv), h.len, h.top, fun j hj => ⟨hk.row (h.each j hj).1 fun k hv => hS k (.inr ⟨j, by omega, hv⟩), (h.each j hj).2⟩, h.apart, h.off⟩
theorem NOwnV.wide1 {sz e lo hi hi' n : Nat} {w : World} {v : Value} {vs : List Value} {ls : List (List Int)} (h : NOwnV sz e lo hi w v n vs ls) (h2 : hi ≤ hi') : NOwnV sz e lo hi' w v n vs ls := h.wide h2

/-- Three of them, no block of one is another's. -/
structure Tri (e lo hi : Nat) (w : World) (U : Value) (nu : Nat) (us : List Value) (LU : List (List Int)) (V : Value) (nv : Nat) (vs : List Value) (LV : List (List Int)) (X : Value) (nx : Nat) (xs : List Value) (LX : List (List Int)) : Prop where
  u : NOwnV 1 e lo hi w U nu us LU
  v : NOwnV 1 e lo hi w V nv vs LV
  x : NOwnV 1 e lo hi w X nx xs LX
  uv : ∀ k, OwnB U nu us k → ¬ OwnB V nv vs k
  ux : ∀ k, OwnB U nu us k → ¬ OwnB X nx xs k
  vx : ∀ k, OwnB V nv vs k → ¬ OwnB X nx xs k
theorem Tri.rot {e lo hi : Nat} {w : World} {U V X : Value} {nu nv nx : Nat} {us vs xs : List Value} {LU LV LX : List (List Int)} (h : Tri e lo hi w U nu us LU V nv vs LV X nx xs LX) : Tri e lo hi w V nv vs LV X nx xs LX U nu us LU :=
  ⟨h.v, h.x, h.u, h.vx, fun k h1 h2 => h.uv k h2 h1, fun k h1 h2 => h.ux k h2 h1⟩
theorem Tri.same {e lo hi : Nat} {w w' : World} {U V X : Value} {nu nv nx : Nat} {us vs xs : List Value} {LU LV LX : List (List Int)} (h : Tri e lo hi w U nu us LU V nv vs LV X nx xs LX) (hs : Same lo hi w w') : Tri e lo hi w' U nu us LU V nv vs LV X nx xs LX :=
  ⟨h.u.same hs, h.v.same hs, h.x.same hs, h.uv, h.ux, h.vx⟩
theorem Tri.wide {e lo hi hi' : Nat} {w : World} {U V X : Value} {nu nv nx : Nat} {us vs xs : List Value} {LU LV LX : List (List Int)} (h : Tri e lo hi w U nu us LU V nv vs LV X nx xs LX) (h2 : hi ≤ hi') : Tri e lo hi' w U nu us LU V nv vs LV X nx xs LX :=
  ⟨h.u.wide h2, h.v.wide h2, h.x.wide h2, h.uv, h.ux, h.vx⟩
theorem NOwnV.low1 {sz e lo lo' hi n : Nat} {w : World} {v : Value} {vs : List Value} {ls : List (List Int)} (h : NOwnV sz e lo hi w v n vs ls) (h2 : lo' ≤ lo) : NOwnV sz e lo' hi w v n vs ls :=
  ⟨owns_low h.row h2, h.len, h.top, fun j hj => (h.each j hj).wide h2 (Nat.le_refl _), h.apart, h.off⟩
theorem Tri.low {e lo lo' hi : Nat} {w : World} {U V X : Value} {nu nv nx : Nat} {us vs xs : List Value} {LU LV LX : List (List Int)} (h : Tri e lo hi w U nu us LU V nv vs LV X nx xs LX) (h2 : lo' ≤ lo) : Tri e lo' hi w U nu us LU V nv vs LV X nx xs LX :=
  ⟨h.u.low1 h2, h.v.low1 h2, h.x.low1 h2, h.uv, h.ux, h.vx⟩
/-- The first of them grows by one list. -/
theorem Tri.app {e lo hi : Nat} {w w' : World} {U V X U' x : Value} {nu nv nx : Nat} {us vs xs : List Value} {LU LV LX : List (List Int)} {l : List Int} (h : Tri e lo hi w U nu us LU V nv vs LV X nx xs LX) (hr : w'.ownsRow lo e 1 U' (nu + 1) (us ++ [x])) (hg : w.grownBy w' U.ownBlock) (hv : U'.ownBlock = U.ownBlock ∨ U'.ownBlock = some w.heap.size) (hx : ZOwn hi w.heap.size w x l) (hw : hi ≤ w.heap.size) (hlo : lo ≤ hi) : Tri e lo w'.heap.size w' U' (nu + 1) (us ++ [x]) (LU ++ [l]) V nv vs LV X nx xs LX := by
  have hul : us.length = nu := by have := h.u.vlen; omega
  have hsz := hg.size
  have hnew : NOwnV 1 e lo w'.heap.size w' U' (nu + 1) (us ++ [x]) (LU ++ [l]) := h.u.app hr hg hv rfl (fun j hj => by
      have e0 : j = 0 := by omega
      subst e0
      exact hx) (fun i j k hi hj hij => by omega) hw hlo hsz (fun k hk => (hr.lt k hk).2)
  have hsub : ∀ k, OwnB U' (nu + 1) (us ++ [x]) k → OwnB U nu us k ∨ hi ≤ k := fun k hk => by
    rcases hk with hk | ⟨i, hi', hk⟩
    · rcases hv with hv | hv
      · exact .inl (.inl (hv ▸ hk))
      · rw [hv] at hk
        have := Option.some.inj hk
        exact .inr (by omega)
    · by_cases e1 : i < nu
      · rw [getD_app_left _ _ _ _ (by omega)] at hk
        exact .inl (.inr ⟨i, e1, hk⟩)
      · rw [getD_app_right _ _ _ _ (by omega), hul, show i - nu = 0 by omega] at hk
        exact .inr (hx.in k hk).1
  have hK := kps_grown hg
  have keepV := h.v.kept1 hK fun k hk hs => h.uv k (.inl hs) hk
  have keepX := h.x.kept1 hK fun k hk hs => h.ux k (.inl hs) hk
  refine ⟨hnew, keepV.wide (by omega), keepX.wide (by omega), fun k h1 h2 => ?_, fun k h1 h2 => ?_, h.vx⟩
  · rcases hsub k h1 with h3 | h3
    · exact h.uv k h3 h2
    · have := h.v.range h2; omega
  · rcases hsub k h1 with h3 | h3
    · exact h.ux k h3 h2
    · have := h.x.range h2; omega

/-- Three rows of numbers beside one another. -/
structure Row3s (lo : Nat) (w : World) (a b c : Value) (la lb lc : List Int) : Prop where
  ra : RowZs lo w a la
  rb : RowZs lo w b lb
  rc : RowZs lo w c lc
  ab : ∀ k, a.ownBlock = some k → b.ownBlock ≠ some k
  ac : ∀ k, a.ownBlock = some k → c.ownBlock ≠ some k
  bc : ∀ k, b.ownBlock = some k → c.ownBlock ≠ some k
theorem Row3s.rot {lo : Nat} {w : World} {a b c : Value} {la lb lc : List Int} (h : Row3s lo w a b c la lb lc) : Row3s lo w b c a lb lc la :=
  ⟨h.rb, h.rc, h.ra, h.bc, fun k h1 h2 => h.ab k h2 h1, fun k h1 h2 => h.ac k h2 h1⟩
theorem Row3s.alloc {lo : Nat} {w : World} {a b c : Value} {la lb lc : List Int} (h : Row3s lo w a b c la lb lc) (o : Obj) : Row3s lo (w.alloc o) a b c la lb lc :=
  ⟨World.ownsRow.alloc h.ra o, World.ownsRow.alloc h.rb o, World.ownsRow.alloc h.rc o, h.ab, h.ac, h.bc⟩
theorem Row3s.app {lo : Nat} {w w' : World} {a b c a' : Value} {la lb lc la' : List Int} (h : Row3s lo w a b c la lb lc) (hr : RowZs lo w' a' la') (hg : w.grownBy w' a.ownBlock) (hv : a'.ownBlock = a.ownBlock ∨ a'.ownBlock = some w.heap.size) : Row3s lo w' a' b c la' lb lc := by
  have hK := kps_grown hg
  refine ⟨hr, hK.row h.rb fun k hk hs => h.ab k hs hk, hK.row h.rc fun k hk hs => h.ac k hs hk, fun k h1 h2 => ?_, fun k h1 h2 => ?_, h.bc⟩
  · rcases hv with hv | hv
    · exact h.ab k (hv ▸ h1) h2
    · rw [hv] at h1
      have := Option.some.inj h1
      have := (h.rb.lt k h2).2
      omega
  · rcases hv with hv | hv
    · exact h.ac k (hv ▸ h1) h2
    · rw [hv] at h1
      have := Option.some.inj h1
      have := (h.rc.lt k h2).2
      omega

end Go.Proofs.YthnahalboomkoaaGreat
