/-
  Texts of one's own, joined.
-/
import Derived.Test.YtldkdgbcnbgmiaaGreatDoorSignDraw2
import Derived.Test.YtldkdgbcnbgmiaaGreatDoorJoined42
import Derived.Test.YtldkdgbcnbgmiaaGreatDoorJoined40
import Derived.Test.YtldkdgbcnbgmiaaGreatDoorJoined52
import Derived.Test.YtldkdgbcnbgmiaaGreatDoorJoined38
import Derived.Maps.AppendAt
import Derived.Test.YtldkdgbcnbgmiaaGreatDoorRows
import Derived.Test.YtldkdgbcnbgmiaaGreatDoorJoined23
import Derived.Lib.LaidTab
import Derived.LaidSub
import Derived.MakeChecks
import Derived.OpenShut
import Derived.Carry
import Derived.ChangeVars
import Derived.ChangeStays
import Derived.WideKeyArgs
import Derived.ChangeOld

/-
  The walk of the law that what many sign is right for all of them together.
-/
namespace Go.Proofs.YtldkdgbcnbgmiaaGreatDoor
open Go.RowKit

/-- The keys of the first n secrets. -/
def keysL (x : Nat → Int) (n : Nat) : List Pt := (List.range n).map fun j => keyP (x j)
theorem keysL_next (x : Nat → Int) (n : Nat) : keysL x (n + 1) = keysL x n ++ [keyP (x n)] := by
  unfold keysL
  rw [List.range_succ, List.map_append]
  rfl
theorem keysL_length (x : Nat → Int) (n : Nat) : (keysL x n).length = n := by simp [keysL]
theorem sumN_congr {f g : Nat → Pt} : ∀ n, (∀ j, j < n → f j = g j) → sumN f n = sumN g n
  | 0, _ => rfl
  | n + 1, h => by
    show pSum (sumN f n) (f n) = pSum (sumN g n) (g n)
    rw [sumN_congr n fun j hj => h j (by omega), h n (by omega)]
theorem keysL_sum (x : Nat → Int) (n : Nat) : sumN (fun j => (keysL x n).getD j pZ) n = sumN (fun j => keyP (x j)) n :=
  sumN_congr n fun j hj => by
    unfold keysL
    simp [hj]

theorem together_all (x : Nat → Int) {m : Nat} (h0 : 0 < m) (hm : m < 1009) {n : Nat} (hn : 0 < n) :
    allB (fun j => (keysL x n).getD j pZ) n (sigN (pMul pB m) x n) (pMul pB m) = !decide (sumI x n = 0) ∧ signP (sumI x n) (pMul pB m) = sigN (pMul pB m) x n := by
  obtain ⟨h1, h2⟩ := together_facts x h0 hm n
  refine ⟨?_, h2⟩
  unfold allB
  rw [keysL_sum, h1, decide_eq_true hn, Bool.true_and]

set_option maxHeartbeats 6400000 in
set_option maxRecDepth 100000 in
theorem lawTogether (a : Option Addr) (len cap : Nat) (w : World) (hm : len ≤ 9223372036854775807) (hA : ArgAt w a len w.heap.size) (hT : Tab w) :
    Calls Tryz.prog 4 #[.slice a len cap] w fun e w' => e = .returned (.bool true) ∧ Below w.heap.size w w' := by
  obtain ⟨i0, hi, hz0, hz1, hz2⟩ := info_parts infoPz
  have HA : Hid (ArgAt w a len w.heap.size) := hA
  have HTB : Hid (Tab w) := hT
  clear hA hT
  by_cases hb : 1048576 < len
  · have hd : decide (1048576 < len) = true := decide_eq_true hb
    go_enter Tryz.func4, Tryz.ntmps4
    go_wp2_with (go_at_call 5; refine (big_any _ _ _ hm _).mono ?_; rintro e w0 ⟨rfl, rfl⟩)
    go_ret
    exact ⟨rfl, Below.refl _ _⟩
  have hd : decide (1048576 < len) = false := decide_eq_false hb
  have hm1 : len ≤ 1048576 := by omega
  go_enter Tryz.func4, Tryz.ntmps4
  go_wp2_with (go_at_call 5; refine (big_any _ _ _ hm _).mono ?_; rintro e w0 ⟨rfl, rfl⟩)
  refine (places_any len cap a hm1 _ HA.out).mono ?_
  rintro e w1 ⟨gp, cpp, xs, rfl, hgp, hgl, hxs, hb1⟩
  have HA1 : Hid (ArgAt w1 a len w1.heap.size) := HA.out.up hb1
  have HT1 : Hid (Tab w1) := HTB.out.on hb1 HTB.out.1
  have HB1 : Hid (Below w.heap.size w w1) := hb1
  have HXS : Hid (∀ i, i < 12 → xs i < 10000 ∧ w1.cell? ⟨gp, i, none⟩ = some (.int .i64 (xs i : Int))) := hxs
  clear hb hd HA HTB hb1 hxs
  obtain ⟨r, hr⟩ : ∃ r : Nat, r = xs 0 % 5 := ⟨_, rfl⟩
  have hr5 : r < 5 := by omega
  have hrt : Int.tmod (xs 0 : Int) 5 = (r : Int) := by rw [Int.tmod_eq_emod_of_nonneg (by omega)]; omega
  obtain ⟨x, hx⟩ : ∃ x : Nat → Int, x = fun j => (xs j : Int) := ⟨_, rfl⟩
  have hxk : ∀ j, x j = (xs j : Int) := fun j => by rw [hx]
  obtain ⟨H, hH, hF⟩ : ∃ H : Pt, H = hashPt ⟨#[97, 108, 108]⟩ ∧ (∀ n, 0 < n → allB (fun j => (keysL x n).getD j pZ) n (sigN H x n) H = !decide (sumI x n = 0) ∧ signP (sumI x n) H = sigN H x n) := by
    refine ⟨_, rfl, ?_⟩
    obtain ⟨m, m0, m1, e⟩ := hash_gp ⟨#[97, 108, 108]⟩
    rw [e]
    exact fun n hn => together_all x m0 m1 hn
  have hsz3 : (ByteArray.mk #[97, 108, 108]).size ≤ 1048576 := by decide
  have HI : Hid (∀ k w, Tab w → Calls Tryz.prog 7 #[.int .i64 k, .string ⟨#[97, 108, 108]⟩] w fun e w' => e = .returned (pv (signP k H)) ∧ Below w.heap.size w w') := by rw [hH]; exact fun k w h => iSign_any k _ hsz3 w h
  have HG : Hid (∀ a n cp (_ : n ≤ 9223372036854775807) f S w, PtsAt w a n w.heap.size f → Tab w → Calls Tryz.prog 21 #[.slice a n cp, .string ⟨#[97, 108, 108]⟩, pv S] w fun e w' => e = .returned (.bool (allB f n S H)) ∧ Below w.heap.size w w') := by rw [hH]; exact fun a n cp hn f S w hA hT => iAllSig_any a n cp hn f _ hsz3 S w hA hT
  have HF : Hid _ := hF
  clear hH hF hx hsz3 hr
  go_wp2
  obtain ⟨W2, hW2, hb2, _, hs2⟩ := boxes1r w1 27 27 #[] #[.int .i64 0, .int .i64 0, .bool true]
  have hrow0 : ((w1.alloc (.cells #[] 27)).alloc (.cells #[.int .i64 0, .int .i64 0, .bool true] 27)).ownsRow w1.heap.size 27 3 (.slice (some ⟨w1.heap.size, 0, none⟩) 0 0) 0 (ptsV []) := (World.ownsRow_lit w1 #[] 0 (Nat.le_refl _) (by simp [maxLen]) (by simp)).alloc _
  rw [hW2] at hrow0 ⊢
  have HR2 : Hid (W2.ownsRow w1.heap.size 27 3 (.slice (some ⟨w1.heap.size, 0, none⟩) 0 0) 0 (ptsV []) ∧ Blk W2 (w1.heap.size + 1) 27 (pc (sigN H x 0)) ∧ Below w1.heap.size w1 W2) := ⟨hrow0, hs2, hb2⟩
  clear hW2 hb2 hs2 hrow0
  go_loopw [4, 6, 7] (fun v s i wr => ∃ (u : Value) (k : Nat), u = v ∧ s = .int .i64 (sumI x k) ∧ i = .int .i64 (k : Int) ∧ k ≤ r + 1 ∧ wr.ownsRow w1.heap.size 27 3 u (keysL x k).length (ptsV (keysL x k)) ∧ Hid (u.ownBlock ≠ some (w1.heap.size + 1)) ∧ Hid (Blk wr (w1.heap.size + 1) 27 (pc (sigN H x k)) ∧ Below w1.heap.size w1 wr)) (fun _ _ i _ => 6 - (intOf i).toNat)
  case atStart => exact ⟨_, 0, rfl, rfl, rfl, by omega, HR2.out.1, fun e => by have := Option.some.inj e; simp at this, HR2.out.2⟩
  case round =>
    obtain ⟨v, k, rfl, rfl, rfl, hk, hown, HV, HS⟩ := hrel
    clear HR2
    have hB := HS.out.2
    have hsz1 : w1.heap.size ≤ wr.heap.size := hB.size
    have c0 := (hB.cell (p := ⟨gp, 0, none⟩) hgp).trans (HXS.out 0 (by omega)).2
    have b0 := (HXS.out 0 (by omega)).1
    by_cases hlt : k < r + 1
    · have hlt' : (k : Int) < 1 + (r : Int) := by omega
      have hk0 : (0 : Int) ≤ (k : Int) := by omega
      have hk12 : (k : Int) < 12 := by omega
      have hXk := HXS.out k (by omega)
      have ck := (hB.cell (p := ⟨gp, k, none⟩) hgp).trans hXk.2
      have bk := hXk.1
      have hm63 : (keysL x k).length + 1 ≤ maxLen := by rw [keysL_length]; unfold maxLen; omega
      have hm47 : ((keysL x k).length + 1) * 24 ≤ 140737488355328 := by rw [keysL_length]; omega
      have HK : Hid (∀ w, Calls Tryz.prog 8 #[.int .i64 (xs k : Int)] w fun e w' => e = .returned (pv (keyP (x k))) ∧ Below w.heap.size w w') := by rw [hxk k]; exact iKey_any _
      have HI2 : Hid (∀ w, Tab w → Calls Tryz.prog 7 #[.int .i64 (xs k : Int), .string ⟨#[97, 108, 108]⟩] w fun e w' => e = .returned (pv (signP (x k) H)) ∧ Below w.heap.size w w') := by rw [hxk k]; exact HI.out _
      have HPA : Hid (∀ w, Calls Tryz.prog 13 #[pv (sigN H x k), pv (signP (x k) H)] w fun e w' => e = .returned (pv (sigN H x (k + 1))) ∧ Below w.heap.size w w') := iPAdd_any _ _
      have HSA : Hid (∀ w, Calls Tryz.prog 19 #[.int .i64 (sumI x k), .int .i64 (xs k : Int)] w fun e w' => e = .returned (.int .i64 (sumI x (k + 1))) ∧ w = w') := by
        have h := sScAdd_any (sumI x k) (x k)
        rw [hxk k] at h
        rw [show sumI x (k + 1) = scAdd (sumI x k) (xs k : Int) by show scAdd (sumI x k) (x k) = _; rw [hxk k]]
        exact h
      have HKN : Hid (keysL x (k + 1) = keysL x k ++ [keyP (x k)]) := keysL_next x k
      generalize keyP (x k) = P at HK HKN
      generalize signP (x k) H = S at HI2 HPA
      have hs := HS.out.1
      obtain ⟨G2, hG2⟩ : ∃ G, G = sigN H x (k + 1) := ⟨_, rfl⟩
      have HGE : Hid (G2 = sigN H x (k + 1)) := hG2
      rw [← hG2] at HPA
      obtain ⟨s2, hs2⟩ : ∃ s, s = sumI x (k + 1) := ⟨_, rfl⟩
      have HSE : Hid (s2 = sumI x (k + 1)) := hs2
      rw [← hs2] at HSA
      clear hG2 hs2 hXk HS
      generalize sigN H x k = G at HPA hs
      generalize sumI x k = s1 at HSA
      unfold pc at hs
      go_wp2_with fail
      refine (HK.out _).mono ?_
      rintro e w5 ⟨rfl, hb5⟩
      have hown5 := owns_on hown hb5
      have hs5 := hs.on hb5 hs.lt
      have hB5 := hB.trans (hb5.mono hB.size)
      have hsz : w1.heap.size ≤ w5.heap.size := hB5.size
      clear hown hs hB hb5 HK
      go_wp2_with (at_builtin; refine wpList_append_own_at _ rfl _ _ 40 rfl w1.heap.size 27 i0 (.agg #[.int .i64 0, .int .i64 0, .bool false]) 3 24 Tryz.underlying40 hi hz0 hz1 hz2 rfl (by decide) _ _ _ rfl (hown5.alloc _) ⟨w5.heap.size, 0, none⟩ 1 1 [.int .i64 P.1, .int .i64 P.2.1, .bool P.2.2] rfl rfl (cell_three_new _ _ _ _ _) (three_cell _ _ _) hm63 hm47 (room_for hsz _) ?_)
      intro v' w7 hown' hgrow _ hat
      have R7 : w7.ownsRow w1.heap.size 27 3 v' (keysL x (k + 1)).length (ptsV (keysL x (k + 1))) := by
        rw [HKN.out, ptsV_append, List.length_append]; exact hown'
      have hl5 := (hs5.alloc (.cells #[.int .i64 P.1, .int .i64 P.2.1, .bool P.2.2] 27)).lt
      have hs7 : Blk w7 (w1.heap.size + 1) 27 #[.int .i64 G.1, .int .i64 G.2.1, .bool G.2.2] := (hgrow.block _ hl5 (fun e => HV.out e.symm)).trans (hs5.alloc _)
      have hB7 : Below w1.heap.size w1 w7 := (hB5.alloc hB5.size _).grown hgrow (by simp; omega) (fun k hk => (hown5.lt k hk).1)
      have HV7 : Hid (v'.ownBlock ≠ some (w1.heap.size + 1)) := by
        rcases hat with h | h
        · rw [h]; exact HV.out
        · rw [h]
          intro e
          have := Option.some.inj e
          have := hs5.lt
          (try simp at *)
          omega
      clear hown' hgrow hat hown5 hs5 hB5 hl5 hm63 hm47 HV
      have Z : ∀ w', Below w7.heap.size w7 w' → w'.cell? ⟨gp, k, none⟩ = some (.int .i64 (xs k : Int)) := fun w' hw => (hw.cell (p := ⟨gp, k, none⟩) (Nat.lt_of_lt_of_le hgp hB7.size)).trans ((hB7.cell (p := ⟨gp, k, none⟩) hgp).trans (HXS.out k (by omega)).2)
      have HT7 : Hid (Tab w7) := HT1.out.on hB7 HT1.out.1
      clear c0 ck
      go_wp2_with fail
      refine wp_region_class 7 (fun wz => Below w7.heap.size w7 wz) mixes (by kernel_rfl) (Below.refl _ _).drew ?_
      simp only [List.take_succ_cons, List.take_zero, List.drop_succ_cons, List.drop_zero]
      repeat (refine cls_step rfl (fun K hK => ⟨_, (fun w' hw => by have q0 := (hs7.on hw hs7.lt).cell 0; have q1 := (hs7.on hw hs7.lt).cell 1; have q2 := (hs7.on hw hs7.lt).cell 2; have z0 := Z w' hw; go_simp; exact rfl), ?_⟩); go_simp; refine hK _ ?_; clear hK K)
      refine cls_call rfl (fun K hK => ⟨_, _, _, (fun w' => by go_simp <;> first | exact rfl | exact ⟨rfl, rfl⟩), (fun w' hw => calls_below hw (HI2.out _ (HT7.out.on hw HT7.out.1))), ?_⟩); go_simp; refine hK _ ?_; clear hK K
      refine cls_call rfl (fun K hK => ⟨_, _, _, (fun w' => by go_simp <;> first | exact rfl | exact ⟨rfl, rfl⟩), (fun w' hw => calls_below hw (HPA.out _)), ?_⟩); go_simp; refine hK _ ?_; clear hK K
      refine wq_nil ?_
      intro w' hw
      have hs8 := hs7.on hw hs7.lt
      have R8 := owns_on R7 hw
      have hB8 := hB7.trans (hw.mono hB7.size)
      clear hs7 R7 hB7 hw HT7 HI2 HPA Z
      go_wp2_with (refine store_blk (cs' := pc G2) rfl rfl rfl rfl rfl hs8 infoP rfl (ones3 _ _ _) ?_; intro V9 hs9 hoth hbel; have R9 := owns_apart R8 hoth HV7.out; have hB9 := hbel _ _ (by omega) hB8; have ck9 := (hB9.cell (p := ⟨gp, k, none⟩) hgp).trans (HXS.out k (by omega)).2; clear hoth hbel hs8 R8 hB8)
      refine (HSA.out _).mono ?_
      rintro e w10 ⟨rfl, rfl⟩
      clear ck9
      have HS9 : Hid (Blk V9 (w1.heap.size + 1) 27 (pc (sigN H x (k + 1))) ∧ Below w1.heap.size w1 V9) := by rw [← HGE.out]; exact ⟨hs9, hB9⟩
      clear hs9 hB9
      go_wp2
      go_roundw
      case rel => exact ⟨_, k + 1, rfl, by rw [← HSE.out], by go_num, by omega, R9, HV7, HS9⟩
      case measure => simp [intOf]; omega
    · have hlt' : ¬ (k : Int) < 1 + (r : Int) := by omega
      obtain rfl : k = r + 1 := by omega
      obtain ⟨F1, F2⟩ := HF.out (r + 1) (by omega)
      have HO : Hid (RowP w1.heap.size wr v (keysL x (r + 1))) := hown
      obtain ⟨a', cp, hv, hP⟩ := HO.out.pts
      subst hv
      have hNK : (keysL x (r + 1)).length = r + 1 := keysL_length _ _
      rw [hNK] at hP ⊢
      obtain ⟨fk, hfk⟩ : ∃ f : Nat → Pt, f = fun j => (keysL x (r + 1)).getD j pZ := ⟨_, rfl⟩
      rw [← hfk] at hP F1
      have hs := HS.out.1
      have HG1 : Hid (∀ w, PtsAt w a' (r + 1) w.heap.size fk → Tab w → Calls Tryz.prog 21 #[.slice a' (r + 1) cp, .string ⟨#[97, 108, 108]⟩, pv (sigN H x (r + 1))] w fun e w' => e = .returned (.bool (!decide (sumI x (r + 1) = 0))) ∧ Below w.heap.size w w') := by
        rw [← F1]
        exact fun w h1 h2 => HG.out a' (r + 1) cp (by omega) fk _ w h1 h2
      have HS1 : Hid (∀ w, Tab w → Calls Tryz.prog 7 #[.int .i64 (sumI x (r + 1)), .string ⟨#[97, 108, 108]⟩] w fun e w' => e = .returned (pv (sigN H x (r + 1))) ∧ Below w.heap.size w w') := by
        rw [← F2]
        exact HI.out _
      have HE0 : Hid (∀ g w, Tab w → Calls Tryz.prog 21 #[.slice (some ⟨g, 0, none⟩) 0 0, .string ⟨#[97, 108, 108]⟩, pv (sigN H x (r + 1))] w fun e w' => e = .returned (.bool false) ∧ Below w.heap.size w w') := fun g w h => HG.out _ 0 0 (by omega) (fun _ => pZ) _ w (fun j hj => by omega) h
      generalize sigN H x (r + 1) = G at HG1 HS1 HE0 hs
      have hne : (sumI x (r + 1) != 0) = !decide (sumI x (r + 1) = 0) := by
        by_cases h : sumI x (r + 1) = 0 <;> simp [h]
      generalize (!decide (sumI x (r + 1) = 0)) = b1 at HG1 hne
      generalize sumI x (r + 1) = s1 at HS1 hne ⊢
      have HPK : Hid (PtsAt wr a' (r + 1) wr.heap.size fk) := hP
      have HAr : Hid (ArgAt wr a len wr.heap.size) := HA1.out.up hB
      have HTr : Hid (Tab wr) := HT1.out.on hB HT1.out.1
      unfold pc at hs
      clear F1 F2 hP hown HO HF HG HI hfk HV HS HA1 HT1 HXS hNK
      go_wp2_with fail
      refine (drawAllSig_any len cap a hm1 _ HAr.out).mono ?_
      rintro e w5 ⟨a2, n2, c2, f2, t2, S2, rfl, hn2, ht2, hP2, hb5⟩
      obtain ⟨W5, hE5, hbW5, h10⟩ := box1 w5 27 #[.int .i64 S2.1, .int .i64 S2.2.1, .bool S2.2.2]
      have hb45 := below_then hb5 hbW5
      have hs5 := hs.on hb45 hs.lt
      have hB5 := hB.trans (hb45.mono hB.size)
      have HPK5 : Hid (PtsAt W5 a' (r + 1) W5.heap.size fk) := (HPK.out.on hb45).wide hb45.size
      have HP25 : Hid (PtsAt W5 a2 n2 W5.heap.size f2) := (hP2.on hbW5).wide hbW5.size
      have HT5 : Hid (Tab W5) := HTr.out.on hb45 HTr.out.1
      obtain ⟨bq, hq1, hq2⟩ : ∃ b : Bool, (∀ w, PtsAt w a2 n2 w.heap.size f2 → Tab w → Calls Tryz.prog 21 #[.slice a2 n2 c2, .string t2, pv S2] w fun e w' => e = .returned (.bool b) ∧ Below w.heap.size w w') ∧ (∀ w, PtsAt w a2 n2 w.heap.size f2 → Calls Tryz.prog 22 #[.slice a2 n2 c2, .string t2, pv S2] w fun e w' => e = .returned (.bool b) ∧ Below w.heap.size w w') := ⟨_, fun w h1 h2 => iAllSig_any a2 n2 c2 (by omega) f2 t2 (by omega) S2 w h1 h2, fun w h1 => sAllSig_any a2 n2 c2 (by omega) f2 t2 (by omega) S2 w h1⟩
      have HQ1 : Hid _ := hq1
      have HQ2 : Hid _ := hq2
      clear hq1 hq2 ht2 hn2 hP2 hb5 hbW5 hb45 hs hB HPK HTr HAr c0 b0 hlt hlt'
      go_wp2_with fail
      clear hE5
      have hD : Below W5.heap.size W5 W5.drew := (Below.refl _ _).drew
      have y1 := (HPK5.out.on hD).wide hD.size
      have z1 := HT5.out.on hD HT5.out.1
      refine wp_region_ord [(0, false), (1, false), (3, false), (4, false), (2, true), (5, false), (6, false), (7, false), (8, false), (9, false), (11, false), (12, false), (13, false), (10, true), (14, true), (15, false), (16, false), (17, false), (19, false), (18, true), (20, true), (21, false), (22, false), (23, false), (24, false), (25, false), (26, true), (27, false), (28, false), (29, false)] (fun wz => Below W5.heap.size W5 wz) mixes (by kernel_rfl) hD ?_
      repeat (refine ord_float rfl rfl (fun K hK => ⟨_, (fun w' hw => by have q0 := (hs5.on hw hs5.lt).cell 0; have q1 :=  (hs5.on hw hs5.lt).cell 1; have q2 :=  (hs5.on hw hs5.lt).cell 2; go_simp; exact rfl), ?_⟩); go_simp; refine hK _ ?_; clear hK K)
      refine ord_call rfl rfl (fun K hK => ⟨_, _, (by go_simp <;> first | exact rfl | exact ⟨rfl, rfl⟩), ?_⟩)
      refine (HG1.out _ y1 z1).mono ?_
      rintro e w6 ⟨rfl, hb6⟩
      have hB6 := below_then hD hb6
      have y2 := (HP25.out.on hB6).wide hB6.size
      have z2 := HT5.out.on hB6 HT5.out.1
      clear hb6 y1 z1 hD HG1
      refine ⟨_, rfl, hB6, ?_⟩
      go_simp
      refine hK _ _ ?_
      clear hK K
      repeat (refine ord_float rfl rfl (fun K hK => ⟨_, (fun w' hw => by have q0 := (h10.on hw h10.lt).cell 0; have q1 :=  (h10.on hw h10.lt).cell 1; have q2 :=  (h10.on hw h10.lt).cell 2; go_simp; exact rfl), ?_⟩); go_simp; refine hK _ ?_; clear hK K)
      refine ord_call rfl rfl (fun K hK => ⟨_, _, (by go_simp <;> first | exact rfl | exact ⟨rfl, rfl⟩), ?_⟩)
      refine (HQ1.out _ y2 z2).mono ?_
      rintro e w7 ⟨rfl, hb7⟩
      have hB7 := below_then hB6 hb7
      have y3 := (HP25.out.on hB7).wide hB7.size
      clear hb7 y2 z2 hB6 HQ1
      refine ⟨_, rfl, hB7, ?_⟩
      go_simp
      refine hK _ _ ?_
      clear hK K
      refine ord_call rfl rfl (fun K hK => ⟨_, _, (by go_simp <;> first | exact rfl | exact ⟨rfl, rfl⟩), ?_⟩)
      refine (HQ2.out _ y3).mono ?_
      rintro e w8 ⟨rfl, hb8⟩
      have hB8 := below_then hB7 hb8
      clear hb8 y3 hB7 HQ2
      refine ⟨_, rfl, hB8, ?_⟩
      go_simp
      refine hK _ _ ?_
      clear hK K
      repeat (refine ord_float rfl rfl (fun K hK => ⟨_, (fun w' hw => by have q0 := (hs5.on hw hs5.lt).cell 0; have q1 :=  (hs5.on hw hs5.lt).cell 1; have q2 :=  (hs5.on hw hs5.lt).cell 2; go_simp; exact rfl), ?_⟩); go_simp; refine hK _ ?_; clear hK K)
      refine ord_op rfl rfl (fun K hK => ⟨_, _, (by go_simp <;> first | exact ⟨rfl, rfl⟩ | exact rfl), hB8.alloc hB8.size _, ?_⟩)
      go_simp
      refine hK _ _ ?_
      clear hK K
      have hB9 := hB8.alloc hB8.size (.cells #[] 27)
      have z3 := HT5.out.on hB9 HT5.out.1
      refine ord_call rfl rfl (fun K hK => ⟨_, _, (by go_simp <;> first | exact rfl | exact ⟨rfl, rfl⟩), ?_⟩)
      refine (HE0.out _ _ z3).mono ?_
      rintro e w10 ⟨rfl, hb10⟩
      have hB10 := below_then hB9 hb10
      have z4 := HT5.out.on hB10 HT5.out.1
      clear hb10 hB9 hB8 z3 HE0
      refine ⟨_, rfl, hB10, ?_⟩
      go_simp
      refine hK _ _ ?_
      clear hK K
      repeat (refine ord_float rfl rfl (fun K hK => ⟨_, (fun w' hw => by have q0 := (hs5.on hw hs5.lt).cell 0; have q1 :=  (hs5.on hw hs5.lt).cell 1; have q2 :=  (hs5.on hw hs5.lt).cell 2; go_simp; exact rfl), ?_⟩); go_simp; refine hK _ ?_; clear hK K)
      refine ord_call rfl rfl (fun K hK => ⟨_, _, (by go_simp <;> first | exact rfl | exact ⟨rfl, rfl⟩), ?_⟩)
      refine (HS1.out _ z4).mono ?_
      rintro e w11 ⟨rfl, hb11⟩
      have hB11 := below_then hB10 hb11
      clear hb11 hB10 z4 HS1
      refine ⟨_, rfl, hB11, ?_⟩
      go_simp
      refine hK _ _ ?_
      clear hK K
      repeat (refine ord_float rfl rfl (fun K hK => ⟨_, (fun w' hw => by have q0 := (hs5.on hw hs5.lt).cell 0; have q1 :=  (hs5.on hw hs5.lt).cell 1; have q2 :=  (hs5.on hw hs5.lt).cell 2; go_simp; exact rfl), ?_⟩); go_simp; refine hK _ ?_; clear hK K)
      refine ord_nil ?_
      have hBw := HB1.out.trans (hB5.mono HB1.out.size)
      have hBz := below_then hBw hB11
      clear hBw hB11 hB5 HB1
      go_wp2
      all_goals go_ret
      all_goals exact ⟨rfl, hBz⟩

end Go.Proofs.YtldkdgbcnbgmiaaGreatDoor

/-
  What the rows list of the table of the rounds.
-/
namespace Go.Proofs.YtldkdgbcnbgmiaaGreatDoor
open Go.RowKit

theorem gTab : Tryz.prog.globalNamed "loop.example/g00321/impl.roundWords" = some 0 := by kernel_rfl
theorem gTabType : (Tryz.prog.globals[0]?).map (·.type) = some 99 := by kernel_rfl
theorem cellsT : Tryz.prog.cellsOf 99 = 24 := by kernel_rfl
theorem cellsW : Tryz.prog.cellsOf 83 = 1 := by kernel_rfl
theorem rcL_val : ∀ i, i < 24 → wv (rcW i) = ((rcL.getD i 0 : Nat) : Int) := by decide

theorem fnSigns_tab {W : World} (h : laidMetH Tryz.prog Rows.fnSignsRow.laid W) : Tab W := by
  rw [MakeChecks.laidMetH_plain _ _ _ (by kernel_rfl)] at h
  have e : Rows.fnSignsRow.laid = [("loop.example/g00321/impl.roundWords", Lib.tabData .u64 (rcL.map Int.ofNat))] := by kernel_rfl
  rw [e] at h
  have t := Lib.tabIs_of_head (rest := []) gTab gTabType Tryz.underlying99 Tryz.underlying83 cellsW cellsT h
  have c : ∀ i, i < 24 → W.cell? ⟨0, i, none⟩ = some (.int .u64 (wv (rcW i))) := fun i hi => by
    have := t.cell gTab i (by simpa [rcL] using hi)
    rw [this, rcL_val i hi]
    have hl : i < rcL.length := by simpa [rcL] using hi
    simp only [List.getD_eq_getElem?_getD, List.getElem?_map, List.getElem?_eq_getElem hl, Option.map_some, Option.getD_some]
    rfl
  exact ⟨Nat.lt_of_le_of_lt (Nat.zero_le _) (World.block_lt_of_cell? W _ (c 0 (by omega))), c⟩

theorem fnSignsTogether_tab {W : World} (h : laidMetH Tryz.prog Rows.fnSignsTogetherRow.laid W) : Tab W := by
  rw [MakeChecks.laidMetH_plain _ _ _ (by kernel_rfl)] at h
  have e : Rows.fnSignsTogetherRow.laid = [("loop.example/g00321/impl.roundWords", Lib.tabData .u64 (rcL.map Int.ofNat))] := by kernel_rfl
  rw [e] at h
  have t := Lib.tabIs_of_head (rest := []) gTab gTabType Tryz.underlying99 Tryz.underlying83 cellsW cellsT h
  have c : ∀ i, i < 24 → W.cell? ⟨0, i, none⟩ = some (.int .u64 (wv (rcW i))) := fun i hi => by
    have := t.cell gTab i (by simpa [rcL] using hi)
    rw [this, rcL_val i hi]
    have hl : i < rcL.length := by simpa [rcL] using hi
    simp only [List.getD_eq_getElem?_getD, List.getElem?_map, List.getElem?_eq_getElem hl, Option.map_some, Option.getD_some]
    rfl
  exact ⟨Nat.lt_of_le_of_lt (Nat.zero_le _) (World.block_lt_of_cell? W _ (c 0 (by omega))), c⟩

end Go.Proofs.YtldkdgbcnbgmiaaGreatDoor

/-
  Listed variables read behind a call as they read before, where nothing below the old memory's end has changed.
-/
namespace Go.Proofs.YtldkdgbcnbgmiaaGreatDoor
open Go.RowKit Go.ChangeShapes

/-- Each named variable is of a type that can be read. -/
def varsOk (P : Program) (ns : List String) : Bool := ns.all fun n => match (P.globalNamed n).bind fun g => (P.globals[g]?).map (·.type) with
  | some t => P.readableRec t && decide (t < P.types.size)
  | none => true

theorem trodVars_step {H : Type} {enc : TypeId × Value → H} {P : Program} {w : World} {spare : Nat → Bool} {n : String} {ns : List String} {gs : List (DataW H)} {ps : List MemPlace} (h : DataW.TrodVars enc P w spare (n :: ns) gs ps) :
    ∃ d ds q, gs = d :: ds ∧ DataW.TrodVars enc P w spare ns ds q := by
  cases gs with
  | nil => simp [DataW.TrodVars] at h
  | cons d ds =>
    obtain ⟨g, t, cs, fuel, p, q, _, _, _, _, hs, _⟩ := h
    exact ⟨d, ds, q, rfl, hs⟩

theorem var_below {P : Program} {W W' : World} (hb : Below W.heap.size W W') {n : String} {cs : Array Value} (h : W.var? P n = some cs) : W'.var? P n = some cs := by
  unfold World.var? at h ⊢
  cases hg : P.globalNamed n with
  | none => rw [hg] at h; cases h
  | some g =>
    rw [hg] at h
    simp only [Option.bind_some] at h ⊢
    have hlt : g < W.heap.size := by
      rcases Nat.lt_or_ge g W.heap.size with x | x
      · exact x
      · rw [Array.getElem?_eq_none x] at h; cases h
    rw [hb.block g hlt]
    exact h

theorem vars_below {H : Type} {enc : TypeId × Value → H} {P : Program} (hl : laidOutB P = true) {W W' : World} (hb : Below W.heap.size W W') : ∀ {ns : List String} {gs : List (DataW H)} {ps : List MemPlace},
    varsOk P ns = true → DataW.TrodVars enc P W (fun _ => true) ns gs ps → DataW.TrodVars enc P W' (fun b => decide (b < W.heap.size)) ns gs ps
  | [], [], _, _, h => h
  | [], _ :: _, _, _, h => h.elim
  | _ :: _, [], _, _, h => h.elim
  | n :: ns, d :: ds, ps, ho, h => by
    have hlt := DataW.TrodVars.lt h
    obtain ⟨g, t, cs, fuel, p, q, h1, h2, h3, h4, hs, rfl⟩ := h
    unfold varsOk at ho
    rw [List.all_cons, Bool.and_eq_true] at ho
    obtain ⟨ho1, ho2⟩ := ho
    rw [h1, Option.bind_some, h2] at ho1
    simp only [Bool.and_eq_true, decide_eq_true_eq] at ho1
    refine ⟨g, t, cs, fuel, p, q, h1, h2, var_below hb h3, ?_, vars_below hl hb ho2 hs, rfl⟩
    have hp : ∀ x ∈ p, x.block < W.heap.size := fun x hx => hlt x (by simp [hx])
    exact DataW.trod_stays (Go.kids_book hl ho1.1) (Go.book_sized ho1.1) (fun h => by cases h) ⟨ho1.2, Go.book_self t⟩ h4 (fun x hx => hb.same (hp x hx)) (fun x hx => by simpa using hp x hx)

end Go.Proofs.YtldkdgbcnbgmiaaGreatDoor
