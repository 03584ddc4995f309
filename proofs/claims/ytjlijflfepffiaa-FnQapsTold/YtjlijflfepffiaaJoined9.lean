/-
  Texts of one's own, joined.
-/
import Derived.Test.YtjlijflfepffiaaJoined4
import Derived.Test.YtjlijflfepffiaaPolyI3
import Derived.Test.YtjlijflfepffiaaJoined5

/-
  The walks of the program's mixture of polynomials.
  (-DROP-: what the seat lacks is left out.)
-/
namespace Go.Proofs.Ytjlijflfepffiaa
open Go.RowKit

set_option maxHeartbeats 3200000 in
set_option maxRecDepth 100000 in
theorem iMix_any (a : Option Addr) (cp : Nat) (u : Value) (L : List (List Int)) (m : List Int) (hL : L.length ≤ 1048576) (hz : ∀ j, (L.getD j []).length ≤ 1048576) (hm : m.length ≤ 1048576) (hcp : L.length ≤ cp) (w : World) (h : NAt 1 w w.heap.size (.slice a L.length cp) L.length L) (h2 : ZAt w w.heap.size u m) :
    Calls Try.prog 68 #[u, .slice a L.length cp] w fun e w' => ∃ x, e = .returned x ∧ ZOwn w.heap.size w'.heap.size w' x (pMix L m) ∧ Below w.heap.size w w' := by
  obtain ⟨hlen, a', cp', hva, hA⟩ := h
  have haa : a = a' := by injection hva
  subst haa
  obtain ⟨b, cq, rfl, hB⟩ := h2
  have HA : Hid (∀ j, j < L.length * 1 → ∃ b off u, a = some ⟨b, off, none⟩ ∧ b < w.heap.size ∧ w.cell? ⟨b, off + j, none⟩ = some u ∧ ZAt w w.heap.size u (L.getD j [])) := hA
  have HB : Hid (IntsAt w b m.length w.heap.size (fun j => m.getD j 0)) := hB
  have HZ : Hid (∀ j, (L.getD j []).length ≤ 1048576) := hz
  obtain ⟨K, hK⟩ : ∃ K, K = min L.length m.length := ⟨_, rfl⟩
  have HE : Hid (trimZ (mixS L m (maxLn L K) K) = pMix L m) := by show _ = _; rw [hK]; exact pMix_same L m
  have HMX : Hid (maxLn L K ≤ 1048576) := maxLn_big L _ hz K
  clear hA hB hlen hz hva
  generalize L.length = la at *
  generalize m.length = lb at *
  have hmin : min (lb : Int) (la : Int) = (K : Int) := by omega
  have hKa : K ≤ la := by omega
  have hKb : K ≤ lb := by omega
  have hKc : (K : Int) ≤ (cp : Int) := by omega
  have hK0 : (0 : Int) ≤ (K : Int) := by omega
  clear hK
  go_enter Try.func68, Try.ntmps68
  go_wp2
  go_loopw [5, 20] (fun o i wr => ∃ (k : Nat), i = .int .i64 (k : Int) ∧ k ≤ K ∧ o = .int .i64 ((maxLn L k : Nat) : Int) ∧ w = wr) (fun _ i _ => K - (intOf i).toNat)
  case atStart => exact ⟨0, rfl, Nat.zero_le _, rfl, rfl⟩
  case round =>
    obtain ⟨k, rfl, hk, rfl, rfl⟩ := hrel
    by_cases hlt : k < K
    · have hlt' : (k : Int) < (K : Int) := by omega
      have hk0 : (0 : Int) ≤ (k : Int) := by omega
      obtain ⟨b1, o1, v1, rfl, hb1, c1, z1⟩ := HA.out k (by omega)
      obtain ⟨v1a, v1c, rfl, _⟩ := z1
      have hmx : max ((maxLn L k : Nat) : Int) ((L.getD k []).length : Int) = ((maxLn L (k + 1) : Nat) : Int) := by rw [maxLn]; omega
      obtain ⟨q2, hq2⟩ : ∃ q2, q2 = maxLn L (k + 1) := ⟨_, rfl⟩
      have HQ2 : Hid (q2 = maxLn L (k + 1)) := hq2
      rw [← hq2] at hmx
      clear hq2
      generalize maxLn L k = q1 at *
      generalize (L.getD k []).length = l1 at *
      go_wp2
      go_roundw
      case rel => exact ⟨k + 1, by go_num, hlt, by rw [← HQ2.out], trivial⟩
      case measure => simp [intOf]; omega
    · have hlt' : ¬ (k : Int) < (K : Int) := by omega
      obtain rfl : K = k := by omega
      obtain ⟨n, hn⟩ : ∃ n, n = maxLn L K := ⟨_, rfl⟩
      have hn1 : n ≤ 1048576 := by rw [hn]; exact HMX.out
      have HN : Hid (∀ i, i < K → (L.getD i []).length ≤ n) := by rw [hn]; exact maxLn_le L K
      rw [← hn] at HE ⊢
      clear hn HMX hmin
      have hmk : ∀ W : World, (Instr.makeSlice 105 (.int .i64 (n : Int)) (.int .i64 (n : Int))).run Try.prog W = .ok (.slice (some ⟨W.heap.size, 0, none⟩) n n) (W.alloc (.cells (ic (fun _ => 0) n) 3)) := fun W => make_nums n n (Nat.le_refl _) (by omega) W
      have H0 : Hid (RowZs w.heap.size (w.alloc (.cells (ic (fun _ => 0) n) 3)) (.slice (some ⟨w.heap.size, 0, none⟩) n n) (mixS L m n 0)) := rowZ_zero w n hn1
      generalize ic (fun _ => 0) n = M at hmk H0
      go_wp2
      go_loopw [33] (fun i wr => ∃ (k : Nat), i = .int .i64 (k : Int) ∧ k ≤ K ∧ Hid (RowZs w.heap.size wr (.slice (some ⟨w.heap.size, 0, none⟩) n n) (mixS L m n k)) ∧ Hid (Below w.heap.size w wr)) (fun i _ => K - (intOf i).toNat)
      case atStart => exact ⟨0, rfl, Nat.zero_le _, H0, (Below.refl _ _).alloc (Nat.le_refl _) _⟩
      case round =>
        obtain ⟨k, rfl, hk, HR, HW⟩ := hrel
        clear hmk H0 hlt'
        by_cases hlt : k < K
        · have hlt' : (k : Int) < (K : Int) := by omega
          have hlb' : (k : Int) < (lb : Int) := by omega
          have hk0 : (0 : Int) ≤ (k : Int) := by omega
          obtain ⟨b1, o1, v1, rfl, hb1, c1, z1⟩ := HA.out k (by omega)
          obtain ⟨b2, o2, rfl, hb2, c2⟩ := HB.out k (by omega)
          replace c2 : w.cell? ⟨b2, o2 + k, none⟩ = some (.int .i64 (m.getD k 0)) := c2
          have d1 : wr.cell? ⟨b1, o1 + k, none⟩ = some v1 := (HW.out.cell (p := ⟨b1, o1 + k, none⟩) hb1).trans c1
          have d2 : wr.cell? ⟨b2, o2 + k, none⟩ = some (.int .i64 (m.getD k 0)) := (HW.out.cell (p := ⟨b2, o2 + k, none⟩) hb2).trans c2
          have CS : Hid (Calls Try.prog 97 #[.slice (some ⟨w.heap.size, 0, none⟩) n n, .int .i64 0, .int .i64 (m.getD k 0), v1] wr fun e w' => e = .returned (.tuple #[]) ∧ RowZs w.heap.size w' (.slice (some ⟨w.heap.size, 0, none⟩) n n) (mixS L m n (k + 1)) ∧ Kps (fun x => x = w.heap.size) wr w') := by
            refine iSh_any _ _ (mixS L m n k) (L.getD k []) 0 _ w.heap.size w.heap.size wr HR.out (fun _ => rfl) (ZFar.of_at (z1.on HW.out) (Nat.le_refl _)) ?_ ?_
            · rw [mixS_len]; have := HN.out k hlt; omega
            · rw [mixS_len]; exact hn1
          obtain ⟨v1a, v1c, rfl, _⟩ := z1
          generalize (L.getD k []).length = l1 at *
          generalize m.getD k 0 = y at *
          clear c1 c2 hb1 hb2 HR
          go_wp2_with (go_at_call 97; refine CS.out.mono ?_; rintro e w2 ⟨rfl, hr2, hk2⟩)
          have HR2 : Hid (RowZs w.heap.size w2 (.slice (some ⟨w.heap.size, 0, none⟩) n n) (mixS L m n (k + 1))) := hr2
          have HW2 : Hid (Below w.heap.size w w2) := hk2.bel HW.out HW.out.size (fun k hk => by omega)
          clear hr2 hk2 CS
          go_wp2
          go_roundw
          case rel => exact ⟨k + 1, by go_num, hlt, HR2, HW2⟩
          case measure => simp [intOf]; omega
        · have hlt' : ¬ (k : Int) < (K : Int) := by omega
          obtain rfl : K = k := by omega
          have CT : Hid (Calls Try.prog 98 #[.slice (some ⟨w.heap.size, 0, none⟩) n n] wr fun e w' => ∃ x, e = .returned x ∧ RowZs w.heap.size wr x (pMix L m) ∧ wr = w') := by
            refine (trimmed_any _ (mixS L m n K) (by rw [mixS_len]; exact hn1) w.heap.size wr HR.out).mono ?_
            rintro e w' ⟨a, n, c, h1, h2, h3, h4⟩
            refine ⟨_, h2, ?_, h4⟩
            rw [← HE.out]
            exact h3
          clear HR HE
          go_wp2_with (go_at_call 98; refine CT.out.mono ?_; rintro e w3 ⟨x, rfl, hx, rfl⟩)
          go_ret
          exact ⟨_, rfl, ZOwn.of hx, HW.out⟩

theorem iMixed_any (a : Option Addr) (cp : Nat) (u : Value) (L : List (List Int)) (m : List Int) (hL : L.length ≤ 1048576) (hz : ∀ j, (L.getD j []).length ≤ 1048576) (hm : m.length ≤ 1048576) (hcp : L.length ≤ cp) (w : World) (h : NAt 1 w w.heap.size (.slice a L.length cp) L.length L) (h2 : ZAt w w.heap.size u m) :
    Calls Try.prog 26 #[.slice a L.length cp, u] w fun e w' => ∃ x, e = .returned x ∧ ZOwn w.heap.size w'.heap.size w' x (pMix L m) ∧ Below w.heap.size w w' := by
  have CM : Hid (Calls Try.prog 68 #[u, .slice a L.length cp] w fun e w' => ∃ x, e = .returned x ∧ ZOwn w.heap.size w'.heap.size w' x (pMix L m) ∧ Below w.heap.size w w') := iMix_any a cp u L m hL hz hm hcp w h h2
  clear h h2 hz hL hm hcp
  generalize L.length = la at *
  go_enter Try.func26, Try.ntmps26
  go_wp2_with (go_at_call 68; refine CM.out.mono ?_; rintro e w2 ⟨x, rfl, hx, hb⟩)
  go_ret
  exact ⟨_, rfl, hx, hb⟩

end Go.Proofs.Ytjlijflfepffiaa

/-
  Three lists of lists beside one another.
-/
namespace Go.Proofs.Ytjlijflfepffiaa
open Go.RowKit

/-- The blocks of a list of lists. -/
def OwnB (v : Value) (n : Nat) (vs : List Value) (k : Nat) : Prop := v.ownBlock = some k ∨ ∃ i, i < n ∧ (vs.getD i undef).ownBlock = some k
theorem NOwnV.range {e lo hi n : Nat} {w : World} {v : Value} {vs : List Value} {ls : List (List Int)} (h : NOwnV 1 e lo hi w v n vs ls) {k : Nat} (hk : OwnB v n vs k) : lo ≤ k ∧ k < hi := by
  rcases hk with hk | ⟨i, hi, hk⟩
  · exact ⟨(h.row.lt k hk).1, h.top k hk⟩
  · exact (h.each i (by omega)).in k hk
theorem kps_grown {w w' : World} {r : Option Nat} (hg : w.grownBy w' r) : Kps (fun k => r = some k) w w' := ⟨hg.os, hg.tape, hg.output, hg.size, fun k hk hs => hg.block k hk fun e => hs e.symm⟩
theorem NOwnV.kept1 {e lo hi n : Nat} {w w' : World} {v : Value} {vs : List Value} {ls : List (List Int)} {S : Nat → Prop} (h : NOwnV 1 e lo hi w v n vs ls) (hk : Kps S w w') (hS : ∀ k, OwnB v n vs k → ¬ S k) : NOwnV 1 e lo hi w' v n vs ls :=
  ⟨hk.row h.row fun k hv => hS k (.inl hv), h.len, h.top, fun j hj => ⟨hk.row (h.each j hj).1 fun k hv => hS k (.inr ⟨j, by omega, hv⟩), (h.each j hj).2⟩, h.apart, h.off⟩
theorem NOwnV.wide1 {sz e lo hi hi' n : Nat} {w : World} {v : Value} {vs : List Value} {ls : List (List Int)} (h : NOwnV sz e lo hi w v n vs ls) (h2 : hi ≤ hi') : NOwnV sz e lo hi' w v n vs ls := h.wide h2

/-- Three of them, no block of one is another's. -/
structure Tri (e lo hi : Nat) (w : World) (U : Value) (nu : Nat) (us : List Value) (LU : List (List Int)) (V : Value) (nv : Nat) (vs : List Value) (LV : List (List Int)) (X : Value) (nx : Nat) (xs : List Value) (LX : List (List Int)) : Prop where
  u : NOwnV 1 e lo hi w U nu us LU
  v : NOwnV 1 e lo hi w V nv vs LV
  x : NOwnV 1 e lo hi w X nx xs LX
  uv : ∀ k, OwnB U nu us k → ¬ OwnB V nv vs k
  ux : ∀ k, OwnB U nu us k → ¬ OwnB X nx xs k
  vx : ∀ k, OwnB V nv vs k → ¬ OwnB X nx xs k
theorem Tri.rot {e lo hi : Nat} {w : World} {U V X : Value} {nu nv nx : Nat} {us vs xs : List Value} {LU LV LX : List (List Int)} (h : Tri e lo hi w U nu us LU V nv vs LV X nx xs LX) : Tri e lo hi w V nv vs LV X nx xs LX U nu us LU :=
  ⟨h.v, h.x, h.u, h.vx, fun k h1 h2 => h.uv k h2 h1, fun k h1 h2 => h.ux k h2 h1⟩
theorem Tri.same {e lo hi : Nat} {w w' : World} {U V X : Value} {nu nv nx : Nat} {us vs xs : List Value} {LU LV LX : List (List Int)} (h : Tri e lo hi w U nu us LU V nv vs LV X nx xs LX) (hs : Same lo hi w w') : Tri e lo hi w' U nu us LU V nv vs LV X nx xs LX :=
  ⟨h.u.same hs, h.v.same hs, h.x.same hs, h.uv, h.ux, h.vx⟩
theorem Tri.wide {e lo hi hi' : Nat} {w : World} {U V X : Value} {nu nv nx : Nat} {us vs xs : List Value} {LU LV LX : List (List Int)} (h : Tri e lo hi w U nu us LU V nv vs LV X nx xs LX) (h2 : hi ≤ hi') : Tri e lo hi' w U nu us LU V nv vs LV X nx xs LX :=
  ⟨h.u.wide h2, h.v.wide h2, h.x.wide h2, h.uv, h.ux, h.vx⟩
theorem NOwnV.low1 {sz e lo lo' hi n : Nat} {w : World} {v : Value} {vs : List Value} {ls : List (List Int)} (h : NOwnV sz e lo hi w v n vs ls) (h2 : lo' ≤ lo) : NOwnV sz e lo' hi w v n vs ls :=
  ⟨owns_low h.row h2, h.len, h.top, fun j hj => (h.each j hj).wide h2 (Nat.le_refl _), h.apart, h.off⟩
theorem Tri.low {e lo lo' hi : Nat} {w : World} {U V X : Value} {nu nv nx : Nat} {us vs xs : List Value} {LU LV LX : List (List Int)} (h : Tri e lo hi w U nu us LU V nv vs LV X nx xs LX) (h2 : lo' ≤ lo) : Tri e lo' hi w U nu us LU V nv vs LV X nx xs LX :=
  ⟨h.u.low1 h2, h.v.low1 h2, h.x.low1 h2, h.uv, h.ux, h.vx⟩
/-- The first of them grows by one list. -/
theorem Tri.app {e lo hi : Nat} {w w' : World} {U V X U' x : Value} {nu nv nx : Nat} {us vs xs : List Value} {LU LV LX : List (List Int)} {l : List Int} (h : Tri e lo hi w U nu us LU V nv vs LV X nx xs LX) (hr : w'.ownsRow lo e 1 U' (nu + 1) (us ++ [x])) (hg : w.grownBy w' U.ownBlock) (hv : U'.ownBlock = U.ownBlock ∨ U'.ownBlock = some w.heap.size) (hx : ZOwn hi w.heap.size w x l) (hw : hi ≤ w.heap.size) (hlo : lo ≤ hi) : Tri e lo w'.heap.size w' U' (nu + 1) (us ++ [x]) (LU ++ [l]) V nv vs LV X nx xs LX := by
  have hul : us.length = nu := by have := h.u.vlen; omega
  have hsz := hg.size
  have hnew : NOwnV 1 e lo w'.heap.size w' U' (nu + 1) (us ++ [x]) (LU ++ [l]) := h.u.app hr hg hv rfl (fun j hj => by
      have e0 : j = 0 := by omega
      subst e0
      exact hx) (fun i j k hi hj hij => by omega) hw hlo hsz (fun k hk => (hr.lt k hk).2)
  have hsub : ∀ k, OwnB U' (nu + 1) (us ++ [x]) k → OwnB U nu us k ∨ hi ≤ k := fun k hk => by
    rcases hk with hk | ⟨i, hi', hk⟩
    · rcases hv with hv | hv
      · exact .inl (.inl (hv ▸ hk))
      · rw [hv] at hk
        have := Option.some.inj hk
        exact .inr (by omega)
    · by_cases e1 : i < nu
      · rw [getD_app_left _ _ _ _ (by omega)] at hk
        exact .inl (.inr ⟨i, e1, hk⟩)
      · rw [getD_app_right _ _ _ _ (by omega), hul, show i - nu = 0 by omega] at hk
        exact .inr (hx.in k hk).1
  have hK := kps_grown hg
  have keepV := h.v.kept1 hK fun k hk hs => h.uv k (.inl hs) hk
  have keepX := h.x.kept1 hK fun k hk hs => h.ux k (.inl hs) hk
  refine ⟨hnew, keepV.wide (by omega), keepX.wide (by omega), fun k h1 h2 => ?_, fun k h1 h2 => ?_, h.vx⟩
  · rcases hsub k h1 with h3 | h3
    · exact h.uv k h3 h2
    · have := h.v.range h2; omega
  · rcases hsub k h1 with h3 | h3
    · exact h.ux k h3 h2
    · have := h.x.range h2; omega

/-- Three rows of numbers beside one another. -/
structure Row3s (lo : Nat) (w : World) (a b c : Value) (la lb lc : List Int) : Prop where
  ra : RowZs lo w a la
  rb : RowZs lo w b lb
  rc : RowZs lo w c lc
  ab : ∀ k, a.ownBlock = some k → b.ownBlock ≠ some k
  ac : ∀ k, a.ownBlock = some k → c.ownBlock ≠ some k
  bc : ∀ k, b.ownBlock = some k → c.ownBlock ≠ some k
theorem Row3s.rot {lo : Nat} {w : World} {a b c : Value} {la lb lc : List Int} (h : Row3s lo w a b c la lb lc) : Row3s lo w b c a lb lc la :=
  ⟨h.rb, h.rc, h.ra, h.bc, fun k h1 h2 => h.ab k h2 h1, fun k h1 h2 => h.ac k h2 h1⟩
theorem Row3s.alloc {lo : Nat} {w : World} {a b c : Value} {la lb lc : List Int} (h : Row3s lo w a b c la lb lc) (o : Obj) : Row3s lo (w.alloc o) a b c la lb lc :=
  ⟨World.ownsRow.alloc h.ra o, World.ownsRow.alloc h.rb o, World.ownsRow.alloc h.rc o, h.ab, h.ac, h.bc⟩
theorem Row3s.app {lo : Nat} {w w' : World} {a b c a' : Value} {la lb lc la' : List Int} (h : Row3s lo w a b c la lb lc) (hr : RowZs lo w' a' la') (hg : w.grownBy w' a.ownBlock) (hv : a'.ownBlock = a.ownBlock ∨ a'.ownBlock = some w.heap.size) : Row3s lo w' a' b c la' lb lc := by
  have hK := kps_grown hg
  refine ⟨hr, hK.row h.rb fun k hk hs => h.ab k hs hk, hK.row h.rc fun k hk hs => h.ac k hs hk, fun k h1 h2 => ?_, fun k h1 h2 => ?_, h.bc⟩
  · rcases hv with hv | hv
    · exact h.ab k (hv ▸ h1) h2
    · rw [hv] at h1
      have := Option.some.inj h1
      have := (h.rb.lt k h2).2
      omega
  · rcases hv with hv | hv
    · exact h.ac k (hv ▸ h1) h2
    · rw [hv] at h1
      have := Option.some.inj h1
      have := (h.rc.lt k h2).2
      omega

end Go.Proofs.Ytjlijflfepffiaa
