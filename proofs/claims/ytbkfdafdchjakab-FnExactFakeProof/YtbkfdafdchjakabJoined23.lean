/-
  Texts of one's own, joined.
-/
import Derived.Test.YtbkfdafdchjakabJoined11
import Derived.Test.YtbkfdafdchjakabJoined16

/-
  Three lists of lists beside one another.
-/
namespace Go.Proofs.Ytbkfdafdchjakab
open Go.RowKit

/-- The blocks of a list of lists. -/
def OwnB (v : Value) (n : Nat) (vs : List Value) (k : Nat) : Prop := v.ownBlock = some k ∨ ∃ i, i < n ∧ (vs.getD i undef).ownBlock = some k
theorem NOwnV.range {e lo hi n : Nat} {w : World} {v : Value} {vs : List Value} {ls : List (List Int)} (h : NOwnV 1 e lo hi w v n vs ls) {k : Nat} (hk : OwnB v n vs k) : lo ≤ k ∧ k < hi := by
  rcases hk with hk | ⟨i, hi, hk⟩
  · exact ⟨(h.row.lt k hk).1, h.top k hk⟩
  · exact (h.each i (by omega)).in k hk
theorem kps_grown {w w' : World} {r : Option Nat} (hg : w.grownBy w' r) : Kps (fun k => r = some k) w w' := ⟨hg.os, hg.tape, hg.output, hg.size, fun k hk hs => hg.block k hk fun e => hs e.symm⟩
theorem NOwnV.kept1 {e lo hi n : Nat} {w w' : World} {v : Value} {vs : List Value} {ls : List (List Int)} {S : Nat → Prop} (h : NOwnV 1 e lo hi w v n vs ls) (hk : Kps S w w') (hS : ∀ k, OwnB v n vs k → ¬ S k) : NOwnV 1 e lo hi w' v n vs ls :=
  ⟨hk.row h.row fun k hv => hS k (.inl hv), h.len, h.top, fun j hj => ⟨hk.row (h.each j hj).1 fun k hv => hS k (.inr ⟨j, by omega, hv⟩), (h.each j hj).2⟩, h.apart, h.off⟩
theorem NOwnV.wide1 {sz e lo hi hi' n : Nat} {w : World} {v : Value} {vs : List Value} {ls : List (List Int)} (h : NOwnV sz e lo hi w v n vs ls) (h2 : hi ≤ hi') : NOwnV sz e lo hi' w v n vs ls := h.wide h2

/-- Three of them, no block of one is another's. -/
structure Tri (e lo hi : Nat) (w : World) (U : Value) (nu : Nat) (us : List Value) (LU : List (List Int)) (V : Value) (nv : Nat) (vs : List Value) (LV : List (List Int)) (X : Value) (nx : Nat) (xs : List Value) (LX : List (List Int)) : Prop where
  u : NOwnV 1 e lo hi w U nu us LU
  v : NOwnV 1 e lo hi w V nv vs LV
  x : NOwnV 1 e lo hi w X nx xs LX
  uv : ∀ k, OwnB U nu us k → ¬ OwnB V nv vs k
  ux : ∀ k, OwnB U nu us k → ¬ OwnB X nx xs k
  vx : ∀ k, OwnB V nv vs k → ¬ OwnB X nx xs k
theorem Tri.rot {e lo hi : Nat} {w : World} {U V X : Value} {nu nv nx : Nat} {us vs xs : List Value} {LU LV LX : List (List Int)} (h : Tri e lo hi w U nu us LU V nv vs LV X nx xs LX) : Tri e lo hi w V nv vs LV X nx xs LX U nu us LU :=
  ⟨h.v, h.x, h.u, h.vx, fun k h1 h2 => h.uv k h2 h1, fun k h1 h2 => h.ux k h2 h1⟩
theorem Tri.same {e lo hi : Nat} {w w' : World} {U V X : Value} {nu nv nx : Nat} {us vs xs : List Value} {LU LV LX : List (List Int)} (h : Tri e lo hi w U nu us LU V nv vs LV X nx xs LX) (hs : Same lo hi w w') : Tri e lo hi w' U nu us LU V nv vs LV X nx xs LX :=
  ⟨h.u.same hs, h.v.same hs, h.x.same hs, h.uv, h.ux, h.vx⟩
theorem Tri.wide {e lo hi hi' : Nat} {w : World} {U V X : Value} {nu nv nx : Nat} {us vs xs : List Value} {LU LV LX : List (List Int)} (h : Tri e lo hi w U nu us LU V nv vs LV X nx xs LX) (h2 : hi ≤ hi') : Tri e lo hi' w U nu us LU V nv vs LV X nx xs LX :=
  ⟨h.u.wide h2, h.v.wide h2, h.x.wide h2, h.uv, h.ux, h.vx⟩
theorem NOwnV.low1 {sz e lo lo' hi n : Nat} {w : World} {v : Value} {vs : List Value} {ls : List (List Int)} (h : NOwnV sz e lo hi w v n vs ls) (h2 : lo' ≤ lo) : NOwnV sz e lo' hi w v n vs ls :=
  ⟨owns_low h.row h2, h.len, h.top, fun j hj => (h.each j hj).wide h2 (Nat.le_refl _), h.apart, h.off⟩
theorem Tri.low {e lo lo' hi : Nat} {w : World} {U V X : Value} {nu nv nx : Nat} {us vs xs : List Value} {LU LV LX : List (List Int)} (h : Tri e lo hi w U nu us LU V nv vs LV X nx xs LX) (h2 : lo' ≤ lo) : Tri e lo' hi w U nu us LU V nv vs LV X nx xs LX :=
  ⟨h.u.low1 h2, h.v.low1 h2, h.x.low1 h2, h.uv, h.ux, h.vx⟩
/-- The first of them grows by one list. -/
theorem Tri.app {e lo hi : Nat} {w w' : World} {U V X U' x : Value} {nu nv nx : Nat} {us vs xs : List Value} {LU LV LX : List (List Int)} {l : List Int} (h : Tri e lo hi w U nu us LU V nv vs LV X nx xs LX) (hr : w'.ownsRow lo e 1 U' (nu + 1) (us ++ [x])) (hg : w.grownBy w' U.ownBlock) (hv : U'.ownBlock = U.ownBlock ∨ U'.ownBlock = some w.heap.size) (hx : ZOwn hi w.heap.size w x l) (hw : hi ≤ w.heap.size) (hlo : lo ≤ hi) : Tri e lo w'.heap.size w' U' (nu + 1) (us ++ [x]) (LU ++ [l]) V nv vs LV X nx xs LX := by
  have hul : us.length = nu := by have := h.u.vlen; omega
  have hsz := hg.size
  have hnew : NOwnV 1 e lo w'.heap.size w' U' (nu + 1) (us ++ [x]) (LU ++ [l]) := h.u.app hr hg hv rfl (fun j hj => by
      have e0 : j = 0 := by omega
      subst e0
      exact hx) (fun i j k hi hj hij => by omega) hw hlo hsz (fun k hk => (hr.lt k hk).2)
  have hsub : ∀ k, OwnB U' (nu + 1) (us ++ [x]) k → OwnB U nu us k ∨ hi ≤ k := fun k hk => by
    rcases hk with hk | ⟨i, hi', hk⟩
    · rcases hv with hv | hv
      · exact .inl (.inl (hv ▸ hk))
      · rw [hv] at hk
        have := Option.some.inj hk
        exact .inr (by omega)
    · by_cases e1 : i < nu
      · rw [getD_app_left _ _ _ _ (by omega)] at hk
        exact .inl (.inr ⟨i, e1, hk⟩)
      · rw [getD_app_right _ _ _ _ (by omega), hul, show i - nu = 0 by omega] at hk
        exact .inr (hx.in k hk).1
  have hK := kps_grown hg
  have keepV := h.v.kept1 hK fun k hk hs => h.uv k (.inl hs) hk
  have keepX := h.x.kept1 hK fun k hk hs => h.ux k (.inl hs) hk
  refine ⟨hnew, keepV.wide (by omega), keepX.wide (by omega), fun k h1 h2 => ?_, fun k h1 h2 => ?_, h.vx⟩
  · rcases hsub k h1 with h3 | h3
    · exact h.uv k h3 h2
    · have := h.v.range h2; omega
  · rcases hsub k h1 with h3 | h3
    · exact h.ux k h3 h2
    · have := h.x.range h2; omega

/-- Three rows of numbers beside one another. -/
structure Row3s (lo : Nat) (w : World) (a b c : Value) (la lb lc : List Int) : Prop where
  ra : RowZs lo w a la
  rb : RowZs lo w b lb
  rc : RowZs lo w c lc
  ab : ∀ k, a.ownBlock = some k → b.ownBlock ≠ some k
  ac : ∀ k, a.ownBlock = some k → c.ownBlock ≠ some k
  bc : ∀ k, b.ownBlock = some k → c.ownBlock ≠ some k
theorem Row3s.rot {lo : Nat} {w : World} {a b c : Value} {la lb lc : List Int} (h : Row3s lo w a b c la lb lc) : Row3s lo w b c a lb lc la :=
  ⟨h.rb, h.rc, h.ra, h.bc, fun k h1 h2 => h.ab k h2 h1, fun k h1 h2 => h.ac k h2 h1⟩
theorem Row3s.alloc {lo : Nat} {w : World} {a b c : Value} {la lb lc : List Int} (h : Row3s lo w a b c la lb lc) (o : Obj) : Row3s lo (w.alloc o) a b c la lb lc :=
  ⟨World.ownsRow.alloc h.ra o, World.ownsRow.alloc h.rb o, World.ownsRow.alloc h.rc o, h.ab, h.ac, h.bc⟩
theorem Row3s.app {lo : Nat} {w w' : World} {a b c a' : Value} {la lb lc la' : List Int} (h : Row3s lo w a b c la lb lc) (hr : RowZs lo w' a' la') (hg : w.grownBy w' a.ownBlock) (hv : a'.ownBlock = a.ownBlock ∨ a'.ownBlock = some w.heap.size) : Row3s lo w' a' b c la' lb lc := by
  have hK := kps_grown hg
  refine ⟨hr, hK.row h.rb fun k hk hs => h.ab k hs hk, hK.row h.rc fun k hk hs => h.ac k hs hk, fun k h1 h2 => ?_, fun k h1 h2 => ?_, h.bc⟩
  · rcases hv with hv | hv
    · exact h.ab k (hv ▸ h1) h2
    · rw [hv] at h1
      have := Option.some.inj h1
      have := (h.rb.lt k h2).2
      omega
  · rcases hv with hv | hv
    · exact h.ac k (hv ▸ h1) h2
    · rw [hv] at h1
      have := Option.some.inj h1
      have := (h.rc.lt k h2).2
      omega

end Go.Proofs.Ytbkfdafdchjakab

/-
  The walk of the specification's polynomial through given values.
  (-DROP-: what the seat lacks is left out.)
-/
namespace Go.Proofs.Ytbkfdafdchjakab
open Go.RowKit

set_option maxHeartbeats 3200000 in
set_option maxRecDepth 100000 in
theorem sThr_any (v : Value) (l : List Int) (hl : l.length ≤ 1048576) (w : World) (h : ZAt w w.heap.size v l) : Calls Try.prog 89 #[v] w fun e w' => ∃ u, e = .returned u ∧ ZOwn w.heap.size w'.heap.size w' u (pThr l) ∧ Below w.heap.size w w' := by
  obtain ⟨a, cp, rfl, hA⟩ := h
  have HA : Hid (IntsAt w a l.length w.heap.size (fun j => l.getD j 0)) := hA
  clear hA
  by_cases hbig : 16 < l.length
  · have HE : Hid (pThr l = []) := by show _ = _; unfold pThr; rw [if_pos hbig]
    have hb' : (l.length : Int) > 16 := by omega
    generalize l.length = n at *
    go_enter Try.func89, Try.ntmps89
    go_wp2
    go_ret
    exact ⟨_, rfl, by rw [HE.out]; exact ZOwn.of (World.ownsRow_lit _ _ _ (Nat.le_refl _) (by simp [maxLen]) (by simp)), (Below.refl _ _).alloc (Nat.le_refl _) _⟩
  · have HE : Hid (lagL l l.length l.length = pThr l) := thr_lag l (by omega)
    have hb' : ¬ (l.length : Int) > 16 := by omega
    generalize l.length = n at *
    go_enter Try.func89, Try.ntmps89
    go_wp2
    go_loopw [3, 4] (fun u i wr => ∃ (k : Nat), i = .int .i64 (k : Int) ∧ k ≤ n ∧ Hid (ZOwn w.heap.size wr.heap.size wr u (lagL l n k)) ∧ Hid (Below w.heap.size w wr)) (fun _ i _ => n - (intOf i).toNat)
    case atStart => exact ⟨0, rfl, Nat.zero_le _, ZOwn.of (World.ownsRow_lit _ _ _ (Nat.le_refl _) (by simp [maxLen]) (by simp)), (Below.refl _ _).alloc (Nat.le_refl _) _⟩
    case round =>
      obtain ⟨i, rfl, hi, HU, HB⟩ := hrel
      obtain ⟨xa, xc, hxv⟩ := row_form HU.out.1
      subst hxv
      have hlag := lagL_small l n i hi
      generalize hzl : (lagL l n i).length = zn at HU
      by_cases hlt : i < n
      · have hlt' : (i : Int) < (n : Int) := by omega
        have hi0 : (0 : Int) ≤ (i : Int) := by omega
        generalize wr = w0 at *
        go_wp2
        go_loopw [5, 6, 7] (fun ov lv kv wr => ∃ (k : Nat), kv = .int .i64 (k : Int) ∧ k ≤ n ∧ lv = .int .i64 (lowL i k) ∧ Hid (ZOwn w0.heap.size wr.heap.size wr ov (oneL i k)) ∧ Hid (Below w0.heap.size w0 wr)) (fun _ _ kv _ => n - (intOf kv).toNat)
        case atStart => exact ⟨0, rfl, Nat.zero_le _, rfl, ZOwn.of (own_lit w0 [1] (by simp)), (Below.refl _ _).alloc (Nat.le_refl _) _⟩
        case round =>
          obtain ⟨k, rfl, hk, rfl, HO, HV⟩ := hrel
          obtain ⟨oa, oc, hov⟩ := row_form HO.out.1
          subst hov
          generalize hol : (oneL i k).length = on at HO
          by_cases hkn : k < n
          · have hkn' : (k : Int) < (n : Int) := by omega
            by_cases hki : k = i
            · subst hki
              have HO2 : Hid (oneL k (k + 1) = oneL k k) := by show _ = _; rw [oneL, if_pos rfl]
              have HL2 : Hid (lowL k (k + 1) = lowL k k) := by show _ = _; rw [lowL, if_pos rfl]
              clear hol hzl hlag
              go_wp2
              go_roundw
              case rel => exact ⟨k + 1, by go_num, hkn, by rw [HL2.out], by rw [HO2.out]; exact HO, HV⟩
              case measure => simp [intOf]; omega
            · have hne : ((k : Int) == (i : Int)) = false := by rw [beq_eq_false_iff_ne]; omega
              have HO2 : Hid (oneL i (k + 1) = qMul (oneL i k) [-((k : Int) + 1), 1]) := by show _ = _; rw [oneL, if_neg hki]
              have HL2 : Hid (lowL i (k + 1) = scMul (lowL i k) ((i : Int) - (k : Int))) := by show _ = _; rw [lowL, if_neg hki]
              have hwr : IntKind.i64.wrap ((k : Int) + 1) = (k : Int) + 1 := IntWalk.i64_in _ (by omega)
              have hwn : IntKind.i64.wrap (-((k : Int) + 1)) = -((k : Int) + 1) := IntWalk.i64_in _ (by omega)
              obtain ⟨dd, hdd⟩ : ∃ dd : Int, (i : Int) - (k : Int) = dd := ⟨_, rfl⟩
              have hws : IntKind.i64.wrap dd = dd := IntWalk.i64_in _ (by omega)
              have CM : Hid (∀ V : World, V = wr.alloc (.cells #[.int .i64 (-((k : Int) + 1)), .int .i64 1] 3) → Calls Try.prog 125 #[.slice oa on oc, .slice (some ⟨wr.heap.size, 0, none⟩) 2 2] V fun e w' => ∃ x, e = .returned x ∧ ZOwn V.heap.size w'.heap.size w' x (oneL i (k + 1)) ∧ Below V.heap.size V w') := fun V hV => by
                subst hV
                rw [HO2.out]
                have hb : Below wr.heap.size wr (wr.alloc (.cells #[.int .i64 (-((k : Int) + 1)), .int .i64 1] 3)) := (Below.refl _ _).alloc (Nat.le_refl _) _
                refine sQMul_any _ _ (oneL i k) [-((k : Int) + 1), 1] (by have := oneL_127 i k; omega) (by simp) _ (((HO.out.at).on hb).wide hb.size) ?_
                exact (ZOwn.of (own_lit wr [-((k : Int) + 1), 1] (by simp))).at
              have CL : Hid (∀ w, Calls Try.prog 48 #[.int .i64 (lowL i k), .int .i64 dd] w fun e w' => e = .returned (.int .i64 (lowL i (k + 1))) ∧ w = w') := fun w => by rw [HL2.out, hdd]; exact sScMul_any _ _ w
              clear HO hol HO2 HL2 hzl hlag
              generalize hlow : lowL i (k + 1) = low2 at CL
              have HLW : Hid (lowL i (k + 1) = low2) := hlow
              generalize lowL i k = low at CL ⊢
              have hne3 : ((k : Int) != (i : Int)) = true := by simp; omega
              clear hlow hki
              go_wp2_with (first
                | (go_at_call 125; refine (CM.out _ rfl).mono ?_; rintro e w2 ⟨x, rfl, hx, hb2⟩)
                | (go_at_call 48; refine (CL.out _).mono ?_; rintro e wz ⟨rfl, rfl⟩))
              have hs : wr.heap.size ≤ (wr.alloc (.cells #[.int .i64 (-((k : Int) + 1)), .int .i64 1] 3)).heap.size := by simp
              have HX : Hid (ZOwn w0.heap.size w2.heap.size w2 x (oneL i (k + 1))) := hx.wide (Nat.le_trans HV.out.size hs) (Nat.le_refl _)
              have HV2 : Hid (Below w0.heap.size w0 w2) := (HV.out.alloc HV.out.size _).trans (hb2.mono (Nat.le_trans HV.out.size hs))
              clear hx hb2 hs CM CL
              go_roundw
              case rel => exact ⟨k + 1, by go_num, hkn, by rw [HLW.out], HX, HV2⟩
              case measure => simp [intOf]; omega
          · have hkn' : ¬ (k : Int) < (n : Int) := by omega
            obtain rfl : n = k := by omega
            obtain ⟨ba, off, rfl, hba, hz⟩ := (HA.out.on HB.out) i hlt
            replace hz : w0.cell? ⟨ba, off + i, none⟩ = some (.int .i64 (l.getD i 0)) := hz
            have s0 := HB.out.size
            have HC : Hid (∀ wz, Below wr.heap.size wr wz → wz.cell? ⟨ba, off + i, none⟩ = some (.int .i64 (l.getD i 0))) := fun wz hwz => ((HV.out.trans (hwz.mono HV.out.size)).cell (p := ⟨ba, off + i, none⟩) (by show ba < _; omega)).trans hz
            have CI : Hid (∀ w, Calls Try.prog 51 #[.int .i64 (lowL i n)] w fun e w' => e = .returned (.int .i64 (scInv (lowL i n))) ∧ w = w') := sScInv_any _
            have CM : Hid (∀ w, Calls Try.prog 48 #[.int .i64 (l.getD i 0), .int .i64 (scInv (lowL i n))] w fun e w' => e = .returned (.int .i64 (scMul (l.getD i 0) (scInv (lowL i n)))) ∧ w = w') := sScMul_any _ _
            have CS : Hid (∀ W (v : Value), ZAt W W.heap.size v (oneL i n) → Calls Try.prog 127 #[v, .int .i64 (scMul (l.getD i 0) (scInv (lowL i n)))] W fun e w' => ∃ u, e = .returned u ∧ ZOwn W.heap.size w'.heap.size w' u (scl (oneL i n) (scMul (l.getD i 0) (scInv (lowL i n)))) ∧ Below W.heap.size W w') := fun W v hv => sScl_any v _ _ (by have := oneL_127 i n; omega) W hv
            have CA : Hid (∀ W (u v : Value), ZAt W W.heap.size u (lagL l n i) → ZAt W W.heap.size v (scl (oneL i n) (scMul (l.getD i 0) (scInv (lowL i n)))) → Calls Try.prog 126 #[u, v] W fun e w' => ∃ u, e = .returned u ∧ ZOwn W.heap.size w'.heap.size w' u (lagL l n (i + 1)) ∧ Below W.heap.size W w') := fun W u v h1 h2 => sQAdd_any u v _ _ (by omega) (by rw [scl_len]; have := oneL_127 i n; omega) W h1 h2
            have HOW : Hid (ZAt wr wr.heap.size (.slice oa on oc) (oneL i n)) := HO.out.at
            have HUW : Hid (ZAt wr wr.heap.size (.slice xa zn xc) (lagL l n i)) := (HU.out.at.on HV.out).wide HV.out.size
            have s1 := HV.out.size
            clear hz hol hzl hlag hba
            generalize scl (oneL i n) (scMul (l.getD i 0) (scInv (lowL i n))) = sc at CS CA
            generalize scMul (l.getD i 0) (scInv (lowL i n)) = q1 at CM CS
            generalize scInv (lowL i n) = q2 at CI CM
            generalize lowL i n = low at CI ⊢
            generalize l.getD i 0 = y at HC CM
            generalize hnx : lagL l n (i + 1) = nx at CA
            have HNX : Hid (lagL l n (i + 1) = nx) := hnx
            generalize lagL l n i = ln at CA HUW
            generalize oneL i n = on1 at CS HOW
            clear hnx HO HU
            go_wp2_with fail
            refine wp_region_ord [(0, false), (1, false), (2, false), (3, false), (4, false), (5, false), (6, false), (7, true), (8, true), (9, true), (10, true), (11, false)] (fun wz => Below wr.heap.size wr wz) mixesSc (by kernel_rfl) (Below.refl _ _).drew ?_
            repeat (refine ord_float rfl rfl (fun K hK => ⟨_, (fun w' hw => by have q0 := HC.out w' hw; go_simp; exact rfl), ?_⟩); go_simp; refine hK _ ?_; clear hK K)
            refine ord_call rfl rfl (fun K hK => ⟨_, _, (by go_simp <;> first | exact rfl | exact ⟨rfl, rfl⟩), ?_⟩)
            refine (CI.out _).mono ?_
            rintro e u1 ⟨rfl, hu1⟩
            have T1 : Below wr.heap.size wr u1 := hu1 ▸ (Below.refl _ _).drew
            refine ⟨_, rfl, T1, ?_⟩
            go_simp
            refine hK _ _ ?_
            clear hK K
            repeat (refine ord_float rfl rfl (fun K hK => ⟨_, (fun w' hw => by have q0 := HC.out w' hw; go_simp; exact rfl), ?_⟩); go_simp; refine hK _ ?_; clear hK K)
            refine ord_call rfl rfl (fun K hK => ⟨_, _, (by go_simp <;> first | exact rfl | exact ⟨rfl, rfl⟩), ?_⟩)
            refine (CM.out _).mono ?_
            rintro e u2 ⟨rfl, hu2⟩
            have T2 : Below wr.heap.size wr u2 := hu2 ▸ T1
            refine ⟨_, rfl, T2, ?_⟩
            go_simp
            refine hK _ _ ?_
            clear hK K
            repeat (refine ord_float rfl rfl (fun K hK => ⟨_, (fun w' hw => by have q0 := HC.out w' hw; go_simp; exact rfl), ?_⟩); go_simp; refine hK _ ?_; clear hK K)
            refine ord_call rfl rfl (fun K hK => ⟨_, _, (by go_simp <;> first | exact rfl | exact ⟨rfl, rfl⟩), ?_⟩)
            refine (CS.out _ _ ((HOW.out.on T2).wide T2.size)).mono ?_
            rintro e u3 ⟨sv, rfl, hsv, hb3⟩
            have T3 := T2.trans (hb3.mono T2.size)
            refine ⟨_, rfl, T3, ?_⟩
            go_simp
            refine hK _ _ ?_
            clear hK K
            repeat (refine ord_float rfl rfl (fun K hK => ⟨_, (fun w' hw => by have q0 := HC.out w' hw; go_simp; exact rfl), ?_⟩); go_simp; refine hK _ ?_; clear hK K)
            refine ord_call rfl rfl (fun K hK => ⟨_, _, (by go_simp <;> first | exact rfl | exact ⟨rfl, rfl⟩), ?_⟩)
            refine (CA.out _ _ _ ((HUW.out.on T3).wide T3.size) hsv.at).mono ?_
            rintro e u4 ⟨nv, rfl, hnv, hb4⟩
            have T4 := T3.trans (hb4.mono T3.size)
            refine ⟨_, rfl, T4, ?_⟩
            go_simp
            refine hK _ _ ?_
            clear hK K
            repeat (refine ord_float rfl rfl (fun K hK => ⟨_, (fun w' hw => by have q0 := HC.out w' hw; go_simp; exact rfl), ?_⟩); go_simp; refine hK _ ?_; clear hK K)
            refine ord_nil ?_
            have HN4 : Hid (ZOwn w.heap.size u4.heap.size u4 nv nx) := hnv.wide (Nat.le_trans (Nat.le_trans s0 s1) T3.size) (Nat.le_refl _)
            have HB4 : Hid (Below w.heap.size w u4) := (HB.out.trans (HV.out.mono s0)).trans (T4.mono (Nat.le_trans s0 s1))
            clear hnv hb4 T4 hsv hb3 T3 T2 T1 hu1 hu2 CA CS CM CI HC HOW HUW HV HB s0 s1
            go_wp2
            go_roundw
            case rel => exact ⟨i + 1, by go_num, hlt, by rw [HNX.out]; exact HN4, HB4⟩
            case measure => simp [intOf]; omega
      · have hlt' : ¬ (i : Int) < (n : Int) := by omega
        obtain rfl : n = i := by omega
        clear hzl hlag
        go_wp2
        go_ret
        exact ⟨_, rfl, by rw [← HE.out]; exact HU.out, HB.out⟩

end Go.Proofs.Ytbkfdafdchjakab
