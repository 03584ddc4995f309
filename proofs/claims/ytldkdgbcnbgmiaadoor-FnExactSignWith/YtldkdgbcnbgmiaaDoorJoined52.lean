/-
  Texts of one's own, joined.
-/
import Derived.Test.YtldkdgbcnbgmiaaDoorJoined40
import Derived.Test.YtldkdgbcnbgmiaaDoorPairI4
import Derived.Test.YtldkdgbcnbgmiaaDoorJoined45
import Derived.Test.YtldkdgbcnbgmiaaDoorProg
import Derived.Test.YtldkdgbcnbgmiaaDoorJoined18
import Derived.WalkLawsBesides
import Derived.WalkSpells
import Derived.Test.YtldkdgbcnbgmiaaDoorHashI
import Derived.OpenShut

/-
  The walk of the specification's PairsRight.
  (-DROP-: what the seat lacks is left out.)
-/
namespace Go.Proofs.YtldkdgbcnbgmiaaDoor
open Go.RowKit

/-- Whether pairs of two lists are right. -/
def rightL (f g : Nat → Pt) (n m : Nat) : Bool := if n = m then rightN f g n else false

theorem one_dec (v : Int × Int) : decide (v = (1, 0)) = (v.1 == 1 && v.2 == 0) := by
  obtain ⟨a, b⟩ := v
  by_cases h1 : a = 1
  · by_cases h2 : b = 0
    · simp [h1, h2]
    · simp [h1, h2]
  · simp [h1]

end Go.Proofs.YtldkdgbcnbgmiaaDoor

/-
  The walks of the program's pairs: many pairs.
  (-DROP-: what the seat lacks is left out.)
-/
namespace Go.Proofs.YtldkdgbcnbgmiaaDoor
open Go.RowKit

/-- Whether the first n are in the group. -/
def allI (f : Nat → Pt) : Nat → Bool
  | 0 => true
  | n + 1 => allI f n && inGB (f n)
theorem allI_more (f : Nat → Pt) {k : Nat} (h : allI f k = false) : ∀ n, k ≤ n → allI f n = false
  | 0, hk => by rw [show (0 : Nat) = k by omega]; exact h
  | n + 1, hk => by
    by_cases e : k = n + 1
    · rw [← e]; exact h
    · show (allI f n && _) = false
      rw [allI_more f h n (by omega), Bool.false_and]
theorem allG_eq (f g : Nat → Pt) : ∀ n, allG f g n = (allI f n && allI g n)
  | 0 => rfl
  | n + 1 => by
    show (allG f g n && (inGB (f n) && inGB (g n))) = ((allI f n && inGB (f n)) && (allI g n && inGB (g n)))
    rw [allG_eq f g n]
    cases allI f n <;> cases allI g n <;> cases inGB (f n) <;> cases inGB (g n) <;> rfl

end Go.Proofs.YtldkdgbcnbgmiaaDoor

/-
  The walks of the program's scalars.
  (-DROP-: what the seat lacks is left out.)
-/
namespace Go.Proofs.YtldkdgbcnbgmiaaDoor
open Go.RowKit

set_option maxHeartbeats 400000 in
set_option maxRecDepth 100000 in
theorem iScOf_any (n : Int) (w : World) :
    Calls Tryd.prog 25 #[.int .i64 n] w fun e w' => e = .returned (.int .i64 (sca n)) ∧ w = w' := by
  have hb := tmod_bounds_sca n
  by_cases h : Int.tmod n 1009 < 0
  · have he := tmod_neg_sca h
    go_enter Tryd.func25, Tryd.ntmps25
    go_wp2
    go_ret
    exact ⟨rfl, rfl⟩
  · have he := tmod_nonneg_sca h
    go_enter Tryd.func25, Tryd.ntmps25
    go_wp2
    go_ret
    exact ⟨rfl, rfl⟩

set_option maxHeartbeats 800000 in
set_option maxRecDepth 100000 in
theorem len64_any (w : World) :
    Calls Tryd.prog 94 #[.int .u64 1007] w fun e w' => e = .returned (.int .i64 10) ∧ w = w' := by
  go_enter Tryd.func94, Tryd.ntmps94
  go_wp2
  go_ret
  exact ⟨by kernel_rfl, rfl⟩

set_option maxHeartbeats 800000 in
set_option maxRecDepth 100000 in
theorem len_any (w : World) :
    Calls Tryd.prog 89 #[.int .u64 1007] w fun e w' => e = .returned (.int .i64 10) ∧ w = w' := by
  go_enter Tryd.func89, Tryd.ntmps89
  go_wp2_with (go_at_call 94; refine (len64_any _).mono ?_; rintro e w1 ⟨rfl, rfl⟩)
  go_ret
  exact ⟨rfl, rfl⟩

end Go.Proofs.YtldkdgbcnbgmiaaDoor

/-
  The walks of the program's signatures.
  (-DROP-: what the seat lacks is left out.)
-/
namespace Go.Proofs.YtldkdgbcnbgmiaaDoor
open Go.RowKit

set_option maxHeartbeats 800000 in
set_option maxRecDepth 100000 in
theorem iSign_any (k : Int) (t : ByteArray) (ht : t.size ≤ 1048576) (w : World) (hT : Tab w) :
    Calls Tryd.prog 10 #[.int .i64 k, .string t] w fun e w' => e = .returned (pv (signP k (hashPt t))) ∧ Below w.heap.size w w' := by
  have HTB : Hid (Tab w) := hT
  clear hT
  obtain ⟨H, hH⟩ : ∃ H, H = hashPt t := ⟨_, rfl⟩
  have HB : Hid (∀ w, Tab w → Calls Tryd.prog 7 #[.string t] w fun e w' => e = .returned (pv H) ∧ Below w.heap.size w w') := by rw [hH]; exact fun w h => iHash_any t ht w h
  rw [← hH]
  clear hH
  have HO : Hid (∀ w, Calls Tryd.prog 25 #[.int .i64 k] w fun e w' => e = .returned (.int .i64 (sca k)) ∧ w = w') := iScOf_any k
  have HT : Hid (∀ w, Calls Tryd.prog 24 #[.int .i64 (sca k), pv H] w fun e w' => e = .returned (pv (signP k H)) ∧ Below w.heap.size w w') := iTimes_any (sca k) H
  generalize signP k H = K at HT ⊢
  generalize sca k = s at HO HT
  go_enter Tryd.func10, Tryd.ntmps10
  go_wp2_with fail
  obtain ⟨W, hW, hb, hr⟩ := box1 w 23 #[.int .i64 0, .int .i64 0, .bool false]
  rw [hW]
  clear hW
  refine (HO.out _).mono ?_
  rintro e w1 ⟨rfl, rfl⟩
  go_wp2_with fail
  refine (HB.out _ (HTB.out.on hb HTB.out.1)).mono ?_
  rintro e w2 ⟨rfl, hb2⟩
  go_wp2_with fail
  refine (HT.out _).mono ?_
  rintro e w3 ⟨rfl, hb3⟩
  have hr3 := (hr.on hb2 hr.lt).on hb3 (by have := hb2.size; have := hr.lt; omega)
  have hB3 := below_then (below_then hb hb2) hb3
  clear hb hb2 hb3 hr
  go_wp2_with (refine store_blk (cs' := pc K) rfl rfl rfl rfl rfl hr3 infoP rfl (ones3 _ _ _) ?_; intro V h5 hoth hbel; have hbV := hbel _ _ (by omega) hB3; clear hoth hbel)
  refine bodyPost_ret_by (result_blk rfl rfl h5 Tryd.underlying23 infoP) rfl ⟨rfl, hbV⟩

set_option maxHeartbeats 1600000 in
set_option maxRecDepth 100000 in
theorem iSigOk_any (K S : Pt) (t : ByteArray) (ht : t.size ≤ 1048576) (w : World) (hT : Tab w) :
    Calls Tryd.prog 13 #[pv K, .string t, pv S] w fun e w' => e = .returned (.bool (sigB K S (hashPt t))) ∧ Below w.heap.size w w' := by
  have HTB : Hid (Tab w) := hT
  clear hT
  obtain ⟨H, hH⟩ : ∃ H, H = hashPt t := ⟨_, rfl⟩
  have HH : Hid (∀ w, Tab w → Calls Tryd.prog 7 #[.string t] w fun e w' => e = .returned (pv H) ∧ Below w.heap.size w w') := by rw [hH]; exact fun w h => iHash_any t ht w h
  rw [← hH]
  clear hH
  have HK : Hid (∀ w, Calls Tryd.prog 28 #[pv K] w fun e w' => e = .returned (.bool (inGB K)) ∧ Below w.heap.size w w') := iInG_any K
  have HS : Hid (∀ w, Calls Tryd.prog 28 #[pv S] w fun e w' => e = .returned (.bool (inGB S)) ∧ Below w.heap.size w w') := iInG_any S
  have HP1 : Hid (∀ w, Calls Tryd.prog 29 #[pv S, pv pB] w fun e w' => e = .returned (tv (pairS S pB)) ∧ Below w.heap.size w w') := iPairing_any S pB
  have HP2 : Hid (∀ w, Calls Tryd.prog 29 #[pv H, pv K] w fun e w' => e = .returned (tv (pairS H K)) ∧ Below w.heap.size w w') := iPairing_any H K
  have HB : Hid (∀ w, Calls Tryd.prog 21 #[] w fun e w' => e = .returned (pv pB) ∧ Below w.heap.size w w') := iBase_any
  unfold sigB
  generalize inGB K = a at HK ⊢
  generalize inGB S = b at HS ⊢
  generalize pairS S pB = X at HP1 ⊢
  generalize pairS H K = Y at HP2 ⊢
  generalize pB = B at HP1 HB
  obtain ⟨x, y, z⟩ := K
  obtain ⟨u, v, q⟩ := S
  unfold pv at HK HS HH HP1 HP2 HB ⊢
  simp only at HK HS HP1 HP2 ⊢
  cases z
  · cases q
    · cases a
      · rw [if_neg (by simp)]
        go_enter Tryd.func13, Tryd.ntmps13
        go_wp2_with fail
        obtain ⟨W, hW, hb, hx, hy⟩ := boxes1r w 23 23 #[.int .i64 x, .int .i64 y, .bool false] #[.int .i64 u, .int .i64 v, .bool false]
        rw [hW]
        clear hW
        refine (HK.out _).mono ?_
        rintro e w1 ⟨rfl, hb1⟩
        have hB1 := below_then hb hb1
        clear hb hb1 hx hy
        go_wp2
        go_ret
        exact ⟨rfl, hB1⟩
      · have HR : Hid ((if (true = true ∧ b = true ∧ false = false ∧ false = false) then decide (X = Y) else false) = (b && decide (X = Y))) := by cases b <;> simp [Hid]
        generalize (if (true = true ∧ b = true ∧ false = false ∧ false = false) then decide (X = Y) else false) = RS at HR ⊢
        go_enter Tryd.func13, Tryd.ntmps13
        go_wp2_with fail
        obtain ⟨W, hW, hb, hx, hy⟩ := boxes1r w 23 23 #[.int .i64 x, .int .i64 y, .bool false] #[.int .i64 u, .int .i64 v, .bool false]
        rw [hW]
        clear hW
        refine (HK.out _).mono ?_
        rintro e w1 ⟨rfl, hb1⟩
        have hB1 := below_then hb hb1
        have hx1 := hx.on hb1 hx.lt
        have hy1 := hy.on hb1 hy.lt
        clear hb hb1 hx hy
        have c0 := hy1.cell 0
        have c1 := hy1.cell 1
        have c2 := hy1.cell 2
        go_wp2_with fail
        refine (HS.out _).mono ?_
        rintro e w2 ⟨rfl, hb2⟩
        have hB2 := below_then hB1 hb2
        have hx2 := hx1.on hb2 hx1.lt
        have hy2 := hy1.on hb2 hy1.lt
        clear hB1 hb2 hx1 hy1 c0 c1 c2
        cases b
        · have HR2 : Hid (RS = false) := HR.out
          clear HR
          go_wp2
          go_ret
          exact ⟨by rw [HR2.out]; rfl, hB2⟩
        · have HR1 : Hid (RS = decide (X = Y)) := HR.out
          clear HR
          go_wp2_with fail
          refine wp_region_class 7 (fun wz => Below w2.heap.size w2 wz) mixes (by kernel_rfl) (Below.refl _ _).drew ?_
          simp only [List.take_succ_cons, List.take_zero, List.drop_succ_cons, List.drop_zero]
          repeat (refine cls_step rfl (fun K hK => ⟨_, (fun w' hw => by have q0 := (hx2.on hw hx2.lt).cell 0; have q1 := (hx2.on hw hx2.lt).cell 1; have q2 := (hx2.on hw hx2.lt).cell 2; have q3 := (hy2.on hw hy2.lt).cell 0; have q4 := (hy2.on hw hy2.lt).cell 1; have q5 := (hy2.on hw hy2.lt).cell 2; go_simp; exact rfl), ?_⟩); go_simp; refine hK _ ?_; clear hK K)
          refine cls_call rfl (fun K hK => ⟨_, _, _, (fun w' => by go_simp <;> first | exact rfl | exact ⟨rfl, rfl⟩), (fun w' hw => calls_below hw (HB.out _)), ?_⟩); go_simp; refine hK _ ?_; clear hK K
          refine cls_call rfl (fun K hK => ⟨_, _, _, (fun w' => by go_simp <;> first | exact rfl | exact ⟨rfl, rfl⟩), (fun w' hw => calls_below hw (HP1.out _)), ?_⟩); go_simp; refine hK _ ?_; clear hK K
          repeat (refine cls_step rfl (fun K hK => ⟨_, (fun w' hw => by have q0 := (hx2.on hw hx2.lt).cell 0; have q1 := (hx2.on hw hx2.lt).cell 1; have q2 := (hx2.on hw hx2.lt).cell 2; have q3 := (hy2.on hw hy2.lt).cell 0; have q4 := (hy2.on hw hy2.lt).cell 1; have q5 := (hy2.on hw hy2.lt).cell 2; go_simp; exact rfl), ?_⟩); go_simp; refine hK _ ?_; clear hK K)
          refine cls_call rfl (fun K hK => ⟨_, _, _, (fun w' => by go_simp <;> first | exact rfl | exact ⟨rfl, rfl⟩), (fun w' hw => calls_below hw (HH.out _ (HTB.out.on (below_then hB2 hw) HTB.out.1))), ?_⟩); go_simp; refine hK _ ?_; clear hK K
          repeat (refine cls_step rfl (fun K hK => ⟨_, (fun w' hw => by have q0 := (hx2.on hw hx2.lt).cell 0; have q1 := (hx2.on hw hx2.lt).cell 1; have q2 := (hx2.on hw hx2.lt).cell 2; have q3 := (hy2.on hw hy2.lt).cell 0; have q4 := (hy2.on hw hy2.lt).cell 1; have q5 := (hy2.on hw hy2.lt).cell 2; go_simp; exact rfl), ?_⟩); go_simp; refine hK _ ?_; clear hK K)
          refine cls_call rfl (fun K hK => ⟨_, _, _, (fun w' => by go_simp <;> first | exact rfl | exact ⟨rfl, rfl⟩), (fun w' hw => calls_below hw (HP2.out _)), ?_⟩); go_simp; refine hK _ ?_; clear hK K
          refine wq_nil ?_
          intro w' hw
          have hB3 := below_then hB2 hw
          clear hB2 hw hx2 hy2
          by_cases hXY : X = Y
          · have HR2 : Hid (RS = true) := HR1.out.trans (decide_eq_true hXY)
            subst hXY
            clear HR1
            go_wp2
            go_ret
            exact ⟨by rw [HR2.out]; rfl, hB3⟩
          · have HR2 : Hid (RS = false) := HR1.out.trans (decide_eq_false hXY)
            clear HR1
            rcases two_ne hXY with h1 | ⟨h1, h2⟩
            · have h1' : ¬ X.1 = Y.1 := by rw [beq_eq_false_iff_ne] at h1; exact h1
              go_wp2
              go_ret
              exact ⟨by rw [HR2.out]; rfl, hB3⟩
            · have h2' : ¬ X.2 = Y.2 := by rw [beq_eq_false_iff_ne] at h2; exact h2
              go_wp2
              go_ret
              exact ⟨by rw [HR2.out]; rfl, hB3⟩
    · rw [if_neg (by simp)]
      go_enter Tryd.func13, Tryd.ntmps13
      go_wp2
      go_ret
      exact ⟨rfl, ((Below.refl _ _).alloc (Nat.le_refl _) _).alloc (by simp) _⟩
  · rw [if_neg (by simp)]
    go_enter Tryd.func13, Tryd.ntmps13
    go_wp2
    go_ret
    exact ⟨rfl, ((Below.refl _ _).alloc (Nat.le_refl _) _).alloc (by simp) _⟩

theorem sig_none (S H : Pt) : sigB pZ S H = false := if_neg (by intro h; cases h.2.2.1)

end Go.Proofs.YtldkdgbcnbgmiaaDoor

/-
  The walks of the laws on the functions of points.
  (-DROP-: what the seat lacks is left out.)
-/
namespace Go.Proofs.YtldkdgbcnbgmiaaDoor
open Go.RowKit Go.ChangeShapes Go.WideShapes

theorem infoLP : (Tryd.prog.info? 29).map (·.size) = some 3 := by kernel_rfl

set_option maxHeartbeats 800000 in
set_option maxRecDepth 100000 in
theorem toPoint_any (P : Pt) (w : World) :
    Calls Tryd.prog 12 #[pv P] w fun e w' => e = .returned (pv P) ∧ Below w.heap.size w w' := by
  go_enter Tryd.func12, Tryd.ntmps12
  go_wp2
  obtain ⟨W, hW, hb, hx, hr, hv⟩ := boxes2r w 29 23 23 #[.int .i64 P.1, .int .i64 P.2.1, .bool P.2.2] #[.int .i64 P.1, .int .i64 P.2.1, .bool P.2.2] #[.int .i64 P.1, .int .i64 P.2.1, .bool P.2.2]
  rw [hW]
  refine bodyPost_ret_by (result_blk rfl rfl hr Tryd.underlying23 infoP) rfl ⟨rfl, hb⟩

set_option maxHeartbeats 800000 in
set_option maxRecDepth 100000 in
theorem eqPoint_same (P : Pt) (w : World) :
    Calls Tryd.prog 8 #[pv P, pv P] w fun e w' => e = .returned (.bool true) ∧ Below w.heap.size w w' := by
  go_enter Tryd.func8, Tryd.ntmps8
  go_wp2
  go_ret
  exact ⟨rfl, ((Below.refl _ _).alloc (Nat.le_refl _) _).alloc (by simp) _⟩

end Go.Proofs.YtldkdgbcnbgmiaaDoor
