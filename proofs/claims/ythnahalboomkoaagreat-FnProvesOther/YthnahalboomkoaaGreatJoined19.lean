/-
  Texts of one's own, joined.
-/
import Derived.Test.YthnahalboomkoaaGreatJoined16
import Derived.Test.YthnahalboomkoaaGreatJoined11
import Derived.Test.YthnahalboomkoaaGreatJoined12
import Derived.Test.YthnahalboomkoaaGreatJoined3
import Derived.Test.YthnahalboomkoaaGreatJoined10
import Derived.Lib.MinMax
import Derived.Test.YthnahalboomkoaaGreatJoined6
import Derived.Test.YthnahalboomkoaaGreatJoined13
import Derived.Test.YthnahalboomkoaaGreatJoined14

/-
  The walks of the program's word on the numbers of keys.
  (-DROP-: what the seat lacks is left out.)
-/
namespace Go.Proofs.YthnahalboomkoaaGreat
open Go.RowKit

theorem scal_of {x : Int} (h0 : x ≠ 0) : scalB x = decide (x = sca x) := by
  unfold scalB
  rw [Bool.eq_iff_iff, decide_eq_true_eq, decide_eq_true_eq, sca_id]
  omega

set_option maxHeartbeats 800000 in
set_option maxRecDepth 100000 in
theorem iFactor_any (x : Int) (w : World) : Calls Tryz.prog 58 #[.int .i64 x] w fun e w' => e = .returned (.bool (scalB x)) ∧ w = w' := by
  by_cases h0 : x = 0
  · subst h0
    go_enter Tryz.func58, Tryz.ntmps58
    go_wp2
    go_ret
    exact ⟨rfl, rfl⟩
  · have HI : Hid (∀ w, Calls Tryz.prog 128 #[.int .i64 x] w fun e w' => e = .returned (.int .i64 (sca x)) ∧ w = w') := iScOf_any _
    have HE : Hid (scalB x = decide (x = sca x)) := scal_of h0
    have h1 : (x == 0) = false := by rw [beq_eq_false_iff_ne]; exact h0
    have h2 : (x != 0) = true := by rw [bne_iff_ne]; exact h0
    generalize sca x = y at HI HE
    clear h0
    by_cases hxy : x = y
    · have HX : Hid (scalB x = true) := by show _ = _; rw [HE.out, decide_eq_true hxy]
      subst hxy
      go_enter Tryz.func58, Tryz.ntmps58
      go_wp2_with (go_at_call 128; refine (HI.out _).mono ?_; rintro e w1 ⟨rfl, rfl⟩)
      go_ret
      exact ⟨by rw [HX.out]; rfl, rfl⟩
    · have HX : Hid (scalB x = false) := by show _ = _; rw [HE.out, decide_eq_false hxy]
      have hxy' : (x == y) = false := by rw [beq_eq_false_iff_ne]; exact hxy
      go_enter Tryz.func58, Tryz.ntmps58
      go_wp2_with (go_at_call 128; refine (HI.out _).mono ?_; rintro e w1 ⟨rfl, rfl⟩)
      go_ret
      exact ⟨by rw [HX.out]; rfl, rfl⟩

/-- So many of the first are scalars that are not 0. -/
def fN (l : List Int) (k : Nat) : Bool := (l.take k).all scalB
theorem fN_next (l : List Int) {k : Nat} (h : k < l.length) : fN l (k + 1) = (fN l k && scalB (l.getD k 0)) := by
  have e : l.getD k 0 = l[k] := by simp [h]
  unfold fN
  rw [List.take_succ_eq_append_getElem h, List.all_append, e]
  simp
theorem fN_false (l : List Int) {k : Nat} (h : fN l k = false) : l.all scalB = false := by
  have e : l.all scalB = (fN l k && (l.drop k).all scalB) := by
    unfold fN
    rw [← List.all_append, List.take_append_drop]
  rw [e, h]
  rfl
theorem infoTxI : (Tryz.prog.info? 31).map (·.size) = some 5 := by kernel_rfl
theorem blk_at5 {w : World} {g t : Nat} {l : List Int} (h : Blk w g t #[.int .i64 (l.getD 0 0), .int .i64 (l.getD 1 0), .int .i64 (l.getD 2 0), .int .i64 (l.getD 3 0), .int .i64 (l.getD 4 0)]) : ∀ k, k < 5 → w.cell? ⟨g, k, none⟩ = some (.int .i64 (l.getD k 0)) := fun k hk => by
  match k, hk with
  | 0, _ => exact h.cell 0
  | 1, _ => exact h.cell 1
  | 2, _ => exact h.cell 2
  | 3, _ => exact h.cell 3
  | 4, _ => exact h.cell 4

set_option maxHeartbeats 3200000 in
set_option maxRecDepth 100000 in
theorem iToxic_any (wi pu : Int) (hwf : (Lit.int .i64 wi).wf = true) (a : Option Addr) (n c : Nat) (hn : n ≤ 9223372036854775807) (ls : List (List Int)) (hz : ∀ j, (ls.getD j []).length ≤ 9223372036854775807) (ta al be ga de : Int) (w : World) (hA : NAt 3 w w.heap.size (.slice a n c) n ls) :
    Calls Tryz.prog 13 #[.agg #[.int .i64 wi, .int .i64 pu, .slice a n c], .agg #[.int .i64 ta, .int .i64 al, .int .i64 be, .int .i64 ga, .int .i64 de]] w fun e w' => e = .returned (.bool (toxB wi pu n ls ta al be ga de)) ∧ Below w.heap.size w w' := by
  obtain ⟨W, hW, hb, hs, hr⟩ := boxes1r w 26 31 #[.int .i64 wi, .int .i64 pu, .slice a n c] #[.int .i64 ta, .int .i64 al, .int .i64 be, .int .i64 ga, .int .i64 de]
  have CS : Hid (∀ V, Below w.heap.size w V → Calls Tryz.prog 57 #[.agg #[.int .i64 wi, .int .i64 pu, .slice a n c]] V fun e w' => e = .returned (.bool (sysOk wi pu n ls)) ∧ Below V.heap.size V w') := fun V hV => iSysOk_any wi pu hwf a n c hn ls hz V ((hA.on hV).wide hV.size)
  have HT : Hid (toxB wi pu n ls ta al be ga de = (sysOk wi pu n ls && ([ta, al, be, ga, de].all scalB && decide ((n : Int) < ta)))) := by
    show _ = _
    unfold toxB
    simp [Bool.and_assoc]
  have HB : Hid (Below w.heap.size w W) := hb
  clear hA hz hwf
  go_enter Tryz.func13, Tryz.ntmps13
  go_wp2_with (refine load_blk rfl rfl rfl hs Tryz.underlying26 infoSy ?_)
  clear hW
  refine (CS.out _ HB.out).mono ?_
  rintro e w1 ⟨rfl, hb1⟩
  have hs1 := hs.on hb1 hs.lt
  have hr1 := hr.on hb1 hr.lt
  have HB1 : Hid (Below w.heap.size w w1) := HB.out.trans (hb1.mono HB.out.size)
  have q0 : w1.cell? ⟨w.heap.size + 1, 0, none⟩ = some (.int .i64 ta) := hr1.cell 0
  have q1 : w1.cell? ⟨w.heap.size + 1, 1, none⟩ = some (.int .i64 al) := hr1.cell 1
  have q2 : w1.cell? ⟨w.heap.size + 1, 2, none⟩ = some (.int .i64 be) := hr1.cell 2
  have q3 : w1.cell? ⟨w.heap.size + 1, 3, none⟩ = some (.int .i64 ga) := hr1.cell 3
  have q4 : w1.cell? ⟨w.heap.size + 1, 4, none⟩ = some (.int .i64 de) := hr1.cell 4
  have qs : w1.cell? ⟨w.heap.size, 2, none⟩ = some (.slice a n c) := hs1.cell 2
  clear hb1 hs hr hs1 hr1 CS HB
  cases h0 : sysOk wi pu n ls
  · have HE : Hid (toxB wi pu n ls ta al be ga de = false) := by show _ = _; rw [HT.out, h0]; rfl
    go_wp2
    go_ret
    exact ⟨by rw [HE.out]; rfl, HB1.out⟩
  · rw [h0, Bool.true_and] at HT
    by_cases hta : ta ≤ (n : Int)
    · have HE : Hid (toxB wi pu n ls ta al be ga de = false) := by show _ = _; rw [HT.out, decide_eq_false (show ¬ (n : Int) < ta by omega), Bool.and_false]
      go_wp2
      go_ret
      exact ⟨by rw [HE.out]; rfl, HB1.out⟩
    · rw [decide_eq_true (show (n : Int) < ta by omega), Bool.and_true] at HT
      obtain ⟨l, hl⟩ : ∃ l : List Int, l = [ta, al, be, ga, de] := ⟨_, rfl⟩
      have HL : Hid (l.length = 5) := by show _ = _; rw [hl]; rfl
      obtain ⟨V0, hV0, hb0, hs0⟩ := box1 w1 3 #[.int .i64 ta, .int .i64 al, .int .i64 be, .int .i64 ga, .int .i64 de]
      have HC : Hid (∀ k, k < 5 → V0.cell? ⟨w1.heap.size, k, none⟩ = some (.int .i64 (l.getD k 0))) := blk_at5 (by rw [hl]; exact hs0)
      rw [← hl] at HT
      have HBV : Hid (Below w.heap.size w V0) := HB1.out.trans (hb0.mono HB1.out.size)
      have HF : Hid (∀ x w, Calls Tryz.prog 58 #[.int .i64 x] w fun e w' => e = .returned (.bool (scalB x)) ∧ w = w') := iFactor_any
      clear hl hs0 hb0
      go_wp2
      clear q0 q1 q2 q3 q4 qs hV0
      go_loopw [30] (fun i wr => ∃ k : Nat, i = .int .i64 (k : Int) ∧ k ≤ 5 ∧ Hid (fN l k = true) ∧ V0 = wr) (fun i _ => 5 - (intOf i).toNat)
      case atStart => exact ⟨0, rfl, Nat.zero_le _, rfl, rfl⟩
      case round =>
        obtain ⟨k, rfl, hk, HS, rfl⟩ := hrel
        by_cases hlt : k < 5
        · have hlt' : (k : Int) < 5 := by omega
          have hk0 : (0 : Int) ≤ (k : Int) := by omega
          have hz := HC.out k hlt
          have HX : Hid (fN l (k + 1) = scalB (l.getD k 0)) := by show _ = _; rw [fN_next l (by rw [HL.out]; exact hlt), HS.out, Bool.true_and]
          have HI : Hid (∀ w, Calls Tryz.prog 58 #[.int .i64 (l.getD k 0)] w fun e w' => e = .returned (.bool (scalB (l.getD k 0))) ∧ w = w') := HF.out _
          generalize scalB (l.getD k 0) = b at HX HI
          generalize l.getD k 0 = x at hz HI
          cases b
          · have HE : Hid (toxB wi pu n ls ta al be ga de = false) := by show _ = _; rw [HT.out]; exact fN_false l HX.out
            go_wp2_with (go_at_call 58; refine (HI.out _).mono ?_; rintro e w2 ⟨rfl, rfl⟩)
            go_ret
            exact ⟨by rw [HE.out]; rfl, HBV.out⟩
          · go_wp2_with (go_at_call 58; refine (HI.out _).mono ?_; rintro e w2 ⟨rfl, rfl⟩)
            go_roundw
            case rel => exact ⟨k + 1, by go_num, hlt, HX, by trivial⟩
            case measure => simp [intOf]; omega
        · have hlt' : ¬ (k : Int) < 5 := by omega
          have HE : Hid (toxB wi pu n ls ta al be ga de = true) := by
            show _ = _
            have h := HS.out
            unfold fN at h
            rw [show k = 5 by omega, ← HL.out, List.take_length] at h
            rw [HT.out, h]
          go_wp2
          go_ret
          exact ⟨by rw [HE.out]; rfl, HBV.out⟩

end Go.Proofs.YthnahalboomkoaaGreat

/-
  What is mixed in one list from the first to the last: no program in here.
-/
namespace Go.Proofs.YthnahalboomkoaaGreat

/-- In one list, each so often. -/
def mixS (L : List (List Int)) (w : List Int) (n : Nat) : Nat → List Int
  | 0 => List.replicate n 0
  | k + 1 => addSh (mixS L w n k) 0 (w.getD k 0) (L.getD k [])
theorem mixS_len (L : List (List Int)) (w : List Int) (n : Nat) : ∀ k, (mixS L w n k).length = n
  | 0 => by rw [mixS, List.length_replicate]
  | k + 1 => by rw [mixS, addSh_len, mixS_len L w n k]
theorem mixS_sc (L : List (List Int)) (w : List Int) (n : Nat) : ∀ k, (∀ i, i < k → (L.getD i []).length ≤ n) → ∀ j, Sc ((mixS L w n k).getD j 0)
  | 0, _, j => by rw [mixS, rep_at]; exact sc_zero
  | k + 1, h, j => by
    rw [mixS]
    exact addSh_sc 0 _ (by rw [mixS_len]; have := h k (by omega); omega) (mixS_sc L w n k fun i hi => h i (by omega)) j
theorem mixS_at (j : Nat) (L : List (List Int)) (w : List Int) (n : Nat) : ∀ k, (∀ i, i < k → (L.getD i []).length ≤ n) → Dp ((mixS L w n k).getD j 0 - sumZ (fun i => w.getD i 0 * (L.getD i []).getD j 0) k)
  | 0, _ => by
    rw [mixS, rep_at]
    exact dp_zero.of (by show (0 : Int) - 0 = 0; omega)
  | k + 1, h => by
    have ih := mixS_at j L w n k fun i hi => h i (by omega)
    have hl : 0 + (L.getD k []).length ≤ (mixS L w n k).length := by rw [mixS_len]; have := h k (by omega); omega
    rw [mixS, addSh_at _ 0 _ _ hl j, sumZ]
    unfold shF
    by_cases hj : j < (L.getD k []).length
    · rw [if_pos (by omega), Nat.sub_zero]
      exact ((dp_scAdd ((mixS L w n k).getD j 0) (scMul (w.getD k 0) ((L.getD k []).getD j 0))).add ((dp_scMul (w.getD k 0) ((L.getD k []).getD j 0)).add ih)).of (by omega)
    · rw [if_neg (by omega), getD_out (l := L.getD k []) (by omega)]
      exact ih.of (by omega)
theorem mix_same (L : List (List Int)) (w : List Int) (n k : Nat) (h : ∀ i, i < k → (L.getD i []).length ≤ n) : trimZ (mixS L w n k) = mixN L w k :=
  can_eq (Can.of_trim _ (mixS_sc L w n k h)) (mixN_can L w k) fun j => by
    rw [trimZ_at]
    exact ((mixS_at j L w n k h).sub (mixN_at j L w k)).of (by omega)

/-- The greatest length of the first so many. -/
def maxLn (L : List (List Int)) : Nat → Nat
  | 0 => 0
  | k + 1 => max (maxLn L k) (L.getD k []).length
theorem maxLn_le (L : List (List Int)) : ∀ k i, i < k → (L.getD i []).length ≤ maxLn L k
  | 0, _, h => by omega
  | k + 1, i, h => by
    rw [maxLn]
    by_cases e : i = k
    · subst e; omega
    · have := maxLn_le L k i (by omega); omega
theorem maxLn_big (L : List (List Int)) (b : Nat) (h : ∀ j, (L.getD j []).length ≤ b) : ∀ k, maxLn L k ≤ b
  | 0 => Nat.zero_le _
  | k + 1 => by rw [maxLn]; have := maxLn_big L b h k; have := h k; omega
theorem pMix_same (L : List (List Int)) (w : List Int) : trimZ (mixS L w (maxLn L (min L.length w.length)) (min L.length w.length)) = pMix L w := mix_same L w _ _ (maxLn_le L _)

/-- One less another. -/
theorem mix_less (p c : List Int) : pMix [p, c] [1, -1] = qAdd p (scl c (-1)) := can_eq (mixN_can _ _ _) (qAdd_can _ _) fun j => by
  have h1 := mixN_at j [p, c] [1, -1] 2
  have h2 := qAdd_at p (scl c (-1)) j
  have h3 := scl_at c (-1) j
  have e : sumZ (fun i => ([1, -1] : List Int).getD i 0 * (([p, c] : List (List Int)).getD i []).getD j 0) 2 = 0 + 1 * p.getD j 0 + -1 * c.getD j 0 := rfl
  rw [e] at h1
  exact ((h1.sub h2).sub h3).of (by show (mixN [p, c] [1, -1] 2).getD j 0 - _ = _; omega)

end Go.Proofs.YthnahalboomkoaaGreat

/-
  The walks of the program's sum and of its values.
  (-DROP-: what the seat lacks is left out.)
-/
namespace Go.Proofs.YthnahalboomkoaaGreat
open Go.RowKit

set_option maxHeartbeats 800000 in
set_option maxRecDepth 100000 in
theorem at_any (v : Value) (l : List Int) (k : Nat) (c : Nat) (w : World) (h : ZAt w c v l) :
    Calls Tryz.prog 214 #[v, .int .i64 (k : Int)] w fun e w' => e = .returned (.int .i64 (l.getD k 0)) ∧ w = w' := by
  obtain ⟨a, cp, rfl, hA⟩ := h
  have hk0 : (0 : Int) ≤ (k : Int) := by omega
  by_cases hlt : k < l.length
  · obtain ⟨b, off, rfl, hb, hz⟩ := hA k hlt
    replace hz : w.cell? ⟨b, off + k, none⟩ = some (.int .i64 (l.getD k 0)) := hz
    generalize l.getD k 0 = z at hz ⊢
    have hlt' : (k : Int) < (l.length : Int) := by omega
    clear hA
    generalize l.length = n at *
    go_enter Tryz.func214, Tryz.ntmps214
    go_wp2
    go_ret
    exact ⟨rfl, rfl⟩
  · have hz : l.getD k 0 = 0 := getD_out (by omega)
    rw [hz]
    have hlt' : ¬ (k : Int) < (l.length : Int) := by omega
    clear hA hz
    generalize l.length = n at *
    go_enter Tryz.func214, Tryz.ntmps214
    go_wp2
    go_ret
    exact ⟨rfl, rfl⟩

set_option maxHeartbeats 1600000 in
set_option maxRecDepth 100000 in
theorem with_any (v u : Value) (l m : List Int) (hl : l.length ≤ 1048576) (hm : m.length ≤ 1048576) (w : World) (h : ZAt w w.heap.size v l) (h2 : ZAt w w.heap.size u m) :
    Calls Tryz.prog 212 #[v, u, .func (Fn.func 94) #[] #[]] w fun e w' => ∃ x, e = .returned x ∧ RowZs w.heap.size w' x (zls (fun j => scAdd (l.getD j 0) (m.getD j 0)) (max l.length m.length)) ∧ Below w.heap.size w w' := by
  have HA : Hid (ZAt w w.heap.size v l) := h
  have HB : Hid (ZAt w w.heap.size u m) := h2
  obtain ⟨a, cp, rfl, hA⟩ := h
  obtain ⟨b, cq, rfl, hB⟩ := h2
  clear hA hB
  obtain ⟨n, hn⟩ : ∃ n, n = max l.length m.length := ⟨_, rfl⟩
  rw [← hn]
  have hnl : l.length ≤ n ∧ m.length ≤ n ∧ n ≤ 1048576 := by omega
  have hmax : max (l.length : Int) (m.length : Int) = (n : Int) := by omega
  obtain ⟨f, hf⟩ : ∃ f : Nat → Int, f = fun j => scAdd (l.getD j 0) (m.getD j 0) := ⟨_, rfl⟩
  have HF : Hid (∀ j, f j = scAdd (l.getD j 0) (m.getD j 0)) := fun j => by rw [hf]
  rw [← hf]
  have hmk : ∀ W : World, (Instr.makeSlice 206 (.int .i64 (n : Int)) (.int .i64 (n : Int))).run Tryz.prog W = .ok (.slice (some ⟨W.heap.size, 0, none⟩) n n) (W.alloc (.cells (ic (fun _ => 0) n) 3)) := fun W => make_nums n n (Nat.le_refl _) (by omega) W
  have H0 : Hid (RowI (w.alloc (.cells (ic (fun _ => 0) n) 3)) w.heap.size n (upTo f 0)) := (rowI_new w (fun _ => 0) n).congr fun j _ => by unfold upTo; rw [if_neg (by omega)]
  generalize ic (fun _ => 0) n = M at hmk H0
  have HLA : Hid (∃ la, la = l.length) := ⟨_, rfl⟩
  clear hn hf
  generalize hla : l.length = la at *
  generalize hlb : m.length = lb at *
  have HLa : Hid (l.length = la) := hla
  have HLb : Hid (m.length = lb) := hlb
  clear hla hlb HLA
  go_enter Tryz.func212, Tryz.ntmps212
  go_wp2
  go_loopw [17] (fun i wr => ∃ k : Nat, i = .int .i64 (k : Int) ∧ k ≤ n ∧ Hid (RowI wr w.heap.size n (upTo f k)) ∧ Hid (Below w.heap.size w wr)) (fun i _ => n - (intOf i).toNat)
  case atStart => exact ⟨0, rfl, Nat.zero_le _, H0, (Below.refl _ _).alloc (Nat.le_refl _) _⟩
  case round =>
    obtain ⟨k, rfl, hk, HR, HW⟩ := hrel
    clear hmk H0 hmax
    by_cases hlt : k < n
    · have hlt' : (k : Int) < (n : Int) := by omega
      have hk0 : (0 : Int) ≤ (k : Int) := by omega
      have C1 : Hid (Calls Tryz.prog 214 #[.slice a la cp, .int .i64 (k : Int)] wr fun e w' => e = .returned (.int .i64 (l.getD k 0)) ∧ wr = w') := at_any _ _ _ w.heap.size _ (HA.out.on HW.out)
      have C2 : Hid (Calls Tryz.prog 214 #[.slice b lb cq, .int .i64 (k : Int)] wr fun e w' => e = .returned (.int .i64 (m.getD k 0)) ∧ wr = w') := at_any _ _ _ w.heap.size _ (HB.out.on HW.out)
      have C3 : Hid (∀ w, Calls Tryz.prog 94 #[.int .i64 (l.getD k 0), .int .i64 (m.getD k 0)] w fun e w' => e = .returned (.int .i64 (f k)) ∧ w = w') := fun w => by rw [HF.out k]; exact iScAdd_any _ _ w
      have hc := HR.out.cell hlt
      have hf := HR.out.free k
      have N := HR.out.set k (f k)
      have NB := HW.out.setCell (p := ⟨w.heap.size, k, none⟩) (Nat.le_refl _) (.int .i64 (f k))
      have hu : (fun i => if i = k then f k else upTo f k i) = upTo f (k + 1) := upTo_next _ _
      rw [hu] at N
      have HN2 : Hid (RowI (wr.setCell ⟨w.heap.size, k, none⟩ (.int .i64 (f k))) w.heap.size n (upTo f (k + 1)) ∧ Below w.heap.size w (wr.setCell ⟨w.heap.size, k, none⟩ (.int .i64 (f k)))) := ⟨N, NB⟩
      obtain ⟨F, hF⟩ : ∃ F, F = upTo f (k + 1) := ⟨_, rfl⟩
      have HFF : Hid (F = upTo f (k + 1)) := hF
      rw [← hF] at HN2
      clear hF hu N NB
      generalize upTo f k k = old at hc
      generalize f k = y at C3 HN2
      generalize l.getD k 0 = x1 at C1 C3
      generalize m.getD k 0 = x2 at C2 C3
      clear HA HB HR HW HF HLa HLb
      go_wp2_with fail
      go_at_call 214
      refine C1.out.mono ?_
      rintro e wz ⟨rfl, rfl⟩
      go_wp2_with fail
      go_at_call 214
      refine C2.out.mono ?_
      rintro e wz ⟨rfl, rfl⟩
      go_wp2_with (go_at_call 94; refine (C3.out _).mono ?_; rintro e wz ⟨rfl, rfl⟩)
      go_roundw
      case rel => exact ⟨k + 1, by go_num, hlt, HFF.out ▸ HN2.out.1, HN2.out.2⟩
      case measure => simp [intOf]; omega
    · have hlt' : ¬ (k : Int) < (n : Int) := by omega
      obtain rfl : n = k := by omega
      go_wp2
      go_ret
      refine ⟨_, rfl, ?_, HW.out⟩
      exact (HR.out.congr fun j hj => upTo_in _ hj).rowZ (Nat.le_refl _) hnl.2.2

theorem add_same (l m : List Int) : trimZ (zls (fun j => scAdd (l.getD j 0) (m.getD j 0)) (max l.length m.length)) = qAdd l m := by
  have hz : ∀ (f : Nat → Int) (n j : Nat), (∀ j, n ≤ j → f j = 0) → (zls f n).getD j 0 = f j := fun f n j h => by
    by_cases hj : j < n
    · exact zls_at f hj
    · rw [getD_out (by rw [zls_length]; omega), h j (by omega)]
  have h1 : ∀ j, max l.length m.length ≤ j → scAdd (l.getD j 0) (m.getD j 0) = 0 := fun j hj => by
    rw [getD_out (l := l) (by omega), getD_out (l := m) (by omega)]; rfl
  have h2 : ∀ j, max l.length m.length ≤ j → padF l m j = 0 := fun j hj => by
    unfold padF
    rw [if_neg (by omega), if_neg (by omega)]
  refine can_eq (Can.of_trim _ fun j => ?_) (pTrim_can _) fun j => ?_
  · rw [hz _ _ _ h1]
    exact sc_add _ _
  · unfold qAdd
    rw [trimZ_at, hz _ _ _ h1, pTrim_at]
    have e : (List.map (padF l m) (List.range (max l.length m.length))).getD j 0 = padF l m j := hz _ _ _ h2
    rw [e]
    have e2 : sca (padF l m j) = scAdd (l.getD j 0) (m.getD j 0) := by
      unfold padF
      by_cases hb : j < m.length <;> by_cases ha : j < l.length
      · simp only [if_pos hb, if_pos ha, scAdd_eq, sca_sca, Int.zero_add, sca_add_left]
      · simp only [if_pos hb, if_neg ha, scAdd_eq, sca_sca]
        rw [getD_out (l := l) (by omega)]
      · simp only [if_neg hb, if_pos ha, scAdd_eq, sca_sca, Int.zero_add]
        rw [getD_out (l := m) (by omega), Int.add_zero]
      · simp only [if_neg hb, if_neg ha]
        rw [getD_out (l := l) (by omega), getD_out (l := m) (by omega)]
        rfl
    rw [e2]
    exact dp_zero.of (by omega)

theorem iQAdd_any (v u : Value) (l m : List Int) (hl : l.length ≤ 1048576) (hm : m.length ≤ 1048576) (w : World) (h : ZAt w w.heap.size v l) (h2 : ZAt w w.heap.size u m) : Calls Tryz.prog 205 #[v, u] w fun e w' => ∃ u, e = .returned u ∧ ZOwn w.heap.size w'.heap.size w' u (qAdd l m) ∧ Below w.heap.size w w' := by
  have HE : Hid (Calls Tryz.prog 212 #[v, u, .func (Fn.func 94) #[] #[]] w fun e w' => ∃ x, e = .returned x ∧ RowZs w.heap.size w' x (zls (fun j => scAdd (l.getD j 0) (m.getD j 0)) (max l.length m.length)) ∧ Below w.heap.size w w') := with_any v u l m hl hm w h h2
  have HT : Hid (∀ (x : Value) (B : Nat) (W : World), RowZs B W x (zls (fun j => scAdd (l.getD j 0) (m.getD j 0)) (max l.length m.length)) → Calls Tryz.prog 207 #[x] W fun e w' => ∃ x, e = .returned x ∧ RowZs B W x (qAdd l m) ∧ W = w') := fun x B W hu => (trimmed_any x _ (by rw [zls_length]; omega) B W hu).mono fun e w' ⟨a, n, c, h1, h2, h3, h4⟩ => ⟨_, h2, by rw [← add_same]; exact h3, h4⟩
  clear h h2 hl hm
  go_enter Tryz.func205, Tryz.ntmps205
  go_wp2_with (first
    | (go_at_call 212; refine (HE.out).mono ?_; rintro e w2 ⟨x, rfl, hu, hb⟩)
    | (go_at_call 207; refine (HT.out _ _ _ hu).mono ?_; rintro e w3 ⟨x, rfl, hx, rfl⟩))
  go_ret
  exact ⟨_, rfl, ZOwn.of hx, hb⟩

end Go.Proofs.YthnahalboomkoaaGreat

/-
  The walks of the program's product.
  (-DROP-: what the seat lacks is left out.)
-/
namespace Go.Proofs.YthnahalboomkoaaGreat
open Go.RowKit

/-- A list of numbers that lies elsewhere. -/
def ZFar (w : World) (g : Nat) (u : Value) (b : List Int) : Prop := ∃ a cp, u = .slice a b.length cp ∧ ∀ j, j < b.length → ∃ k off, a = some ⟨k, off, none⟩ ∧ k ≠ g ∧ w.cell? ⟨k, off + j, none⟩ = some (.int .i64 (b.getD j 0))
theorem ZFar.of_at {w : World} {c g : Nat} {u : Value} {b : List Int} (h : ZAt w c u b) (hc : c ≤ g) : ZFar w g u b := by
  obtain ⟨a, cp, rfl, hA⟩ := h
  refine ⟨a, cp, rfl, fun j hj => ?_⟩
  obtain ⟨k, off, h1, h2, h3⟩ := hA j hj
  exact ⟨k, off, h1, by omega, h3⟩
theorem ZFar.of_row {w : World} {B g : Nat} {u : Value} {b : List Int} (h : RowZs B w u b) (hg : u.ownBlock ≠ some g) : ZFar w g u b := by
  obtain ⟨a, cp, hv⟩ := row_form h
  refine ⟨a, cp, hv, fun j hj => ?_⟩
  obtain ⟨k, c, h1, h2, h3, h4, _⟩ := h.cellZ hj
  rw [hv] at h1
  injection h1 with e1
  refine ⟨k, 0, e1, ?_, by rw [Nat.zero_add]; exact h4⟩
  intro e
  subst e
  exact hg (by rw [hv, e1]; rfl)
theorem ZFar.set {w : World} {g : Nat} {u : Value} {b : List Int} (h : ZFar w g u b) (j : Nat) (x : Value) : ZFar (w.setCell ⟨g, j, none⟩ x) g u b := by
  obtain ⟨a, cp, rfl, hA⟩ := h
  refine ⟨a, cp, rfl, fun i hi => ?_⟩
  obtain ⟨k, off, h1, h2, h3⟩ := hA i hi
  exact ⟨k, off, h1, h2, (World.cell?_of_block (a := ⟨k, off + i, none⟩) (Below.heap_setCell w ⟨g, j, none⟩ x k h2)).trans h3⟩
theorem ZFar.drew {w : World} {g : Nat} {u : Value} {b : List Int} (h : ZFar w g u b) : ZFar w.drew g u b := h
theorem ZFar.kps {w w' : World} {g : Nat} {u : Value} {b : List Int} (h : ZFar w g u b) (hk : Kps (fun x => x = g) w w') (hs : ∀ j, j < b.length → ∀ k off, (∃ c, u = .slice (some ⟨k, off, none⟩) b.length c) → k < w.heap.size) : ZFar w' g u b := by
  obtain ⟨a, cp, rfl, hA⟩ := h
  refine ⟨a, cp, rfl, fun i hi => ?_⟩
  obtain ⟨k, off, h1, h2, h3⟩ := hA i hi
  subst h1
  exact ⟨k, off, rfl, h2, (World.cell?_of_block (a := ⟨k, off + i, none⟩) (hk.block k (hs i hi k off ⟨cp, rfl⟩) h2)).trans h3⟩

set_option maxHeartbeats 1600000 in
set_option maxRecDepth 100000 in
theorem iSh_any (v u : Value) (p b : List Int) (s : Nat) (k : Int) (B g : Nat) (w : World) (hp : RowZs B w v p) (hg : 0 < p.length → v.ownBlock = some g) (hu : ZFar w g u b) (hs : s + b.length ≤ p.length) (hl : p.length ≤ 1048576) :
    Calls Tryz.prog 206 #[v, .int .i64 (s : Int), .int .i64 k, u] w fun e w' => e = .returned (.tuple #[]) ∧ RowZs B w' v (addSh p s k b) ∧ Kps (fun x => x = g) w w' := by
  obtain ⟨ra, rc, hv⟩ := row_form hp
  subst hv
  have HP : Hid (RowZs B w (.slice ra p.length rc) (addSh p s k (b.take 0))) := by
    show RowZs _ _ _ _
    rw [List.take_zero, addSh_nil]
    exact hp
  have HG : Hid (0 < p.length → (Value.slice ra p.length rc).ownBlock = some g) := hg
  have HU : Hid (ZFar w g u b) := hu
  obtain ⟨a, cp, rfl, hA⟩ := hu
  have HX : Hid (∀ t, t < b.length → (addSh p s k (b.take t)).getD (s + t) 0 = p.getD (s + t) 0) := fun t ht => addSh_new p s k b hs ht
  have HY : Hid (∀ t, t < b.length → (addSh p s k (b.take t)).set (s + t) (scAdd (p.getD (s + t) 0) (scMul k (b.getD t 0))) = addSh p s k (b.take (t + 1))) := fun t ht => addSh_next p s k b hs ht
  have HZ : Hid (addSh p s k (b.take b.length) = addSh p s k b) := by show _ = _; rw [List.take_length]
  have HL : Hid (∀ t, (addSh p s k (b.take t)).length = p.length) := fun t => addSh_len _ _ _ _
  generalize hnp : p.length = np at *
  generalize hnb : b.length = nb at *
  have HNB : Hid (b.length = nb) := hnb
  clear hA hp hg hnp hnb
  go_enter Tryz.func206, Tryz.ntmps206
  go_wp2
  go_loopw [12] (fun i wr => ∃ t : Nat, i = .int .i64 (t : Int) ∧ t ≤ nb ∧ Hid (RowZs B wr (.slice ra np rc) (addSh p s k (b.take t))) ∧ Hid (ZFar wr g (.slice a nb cp) b) ∧ Hid (Kps (fun x => x = g) w wr)) (fun i _ => nb - (intOf i).toNat)
  case atStart => exact ⟨0, rfl, Nat.zero_le _, HP, HU, Kps.refl _ _⟩
  case round =>
    obtain ⟨t, rfl, ht, HR, HF, HK⟩ := hrel
    clear HP HU
    by_cases hlt : t < nb
    · have hlt' : (t : Int) < (nb : Int) := by omega
      have ht0 : (0 : Int) ≤ (t : Int) := by omega
      have hxt := HX.out t hlt
      have hyt := HY.out t hlt
      generalize hii : s + t = i at hxt hyt
      have hst : (s : Int) + (t : Int) = (i : Int) := by omega
      have hst0 : (0 : Int) ≤ (i : Int) := by omega
      have hst1 : (i : Int) < (np : Int) := by omega
      have hst2 : (i : Int) ≤ 1048576 := by omega
      have hiL : i < np := by omega
      have hwr : IntKind.i64.wrap (i : Int) = (i : Int) := IntWalk.i64_in _ (by omega)
      clear hii
      obtain ⟨g', c', hv, hg1, hg2, hz, hf⟩ := HR.out.cellZ (j := i) (by rw [HL.out]; omega)
      rw [hxt] at hz
      have hra : ra = some ⟨g', 0, none⟩ := by injection hv
      subst hra
      have hgg : g' = g := by have := HG.out (by omega); injection this
      subst hgg
      obtain ⟨a', cp', hv2, hF⟩ := HF.out
      obtain ⟨kb, off, h1, h2, h3⟩ := hF t (by have := HNB.out; omega)
      have haa : a = a' := by injection hv2
      rw [h1] at haa
      subst haa
      have CM : Hid (∀ w, Calls Tryz.prog 56 #[.int .i64 k, .int .i64 (b.getD t 0)] w fun e w' => e = .returned (.int .i64 (scMul k (b.getD t 0))) ∧ w = w') := iScMul_any _ _
      have CA : Hid (∀ w, Calls Tryz.prog 94 #[.int .i64 (p.getD (i) 0), .int .i64 (scMul k (b.getD t 0))] w fun e w' => e = .returned (.int .i64 (scAdd (p.getD (i) 0) (scMul k (b.getD t 0)))) ∧ w = w') := iScAdd_any _ _
      have HNX := hyt
      obtain ⟨L, hL⟩ : ∃ L, L = addSh p s k (b.take t) := ⟨_, rfl⟩
      have HR2 : Hid (∀ wz : World, wz.heap = wr.heap → RowZs B wz (.slice (some ⟨g', 0, none⟩) np rc) L) := fun wz hwz => by
        rw [hL]
        exact owns_same (lo := 0) (hi := wr.heap.size) HR.out (fun k _ _ => by rw [hwz]) (fun k hk => ⟨Nat.zero_le _, (HR.out.lt k hk).2⟩)
      rw [← hL] at HNX
      have HNY : Hid (L.set (i) (scAdd (p.getD (i) 0) (scMul k (b.getD t 0))) = addSh p s k (b.take (t + 1))) := HNX
      have HC : Hid (∀ wz : World, wz.heap = wr.heap → wz.cell? ⟨g', i, none⟩ = some (.int .i64 (p.getD (i) 0)) ∧ wz.frozen? ⟨g', i, none⟩ = false) := fun wz hwz => by
        refine ⟨(World.cell?_of_block (a := ⟨g', i, none⟩) (by rw [hwz])).trans hz, ?_⟩
        rw [← hf]
        unfold World.frozen?
        rw [hwz]
      clear HNX hL hF hv2 HX HY hz hf HR hxt hyt hv hg1 hg2
      generalize hyy : scAdd (p.getD (i) 0) (scMul k (b.getD t 0)) = y at CA HNY
      clear hyy
      generalize scMul k (b.getD t 0) = q at CM CA
      generalize p.getD (i) 0 = x at HC CA
      generalize b.getD t 0 = z at CM h3
      go_wp2_with fail
      refine wp_region_last [(0, false), (1, false), (2, false), (3, false), (4, false), (5, false), (6, false), (7, false), (8, false), (9, false), (10, false), (11, false), (12, true), (13, true), (14, false)] 15 (fun wz => wz.heap = wr.heap) mixesSc (by kernel_rfl) rfl ?_
      repeat (refine ord_float rfl rfl (fun K hK => ⟨_, (fun w' hw => by have q0 := (HC.out w' hw).1; go_simp; exact rfl), ?_⟩); go_simp; refine hK _ ?_; clear hK K)
      refine ord_call rfl rfl (fun K hK => ⟨_, _, (by go_simp <;> first | exact rfl | exact ⟨rfl, rfl⟩), ?_⟩)
      refine (CM.out _).mono ?_
      rintro e u1 ⟨rfl, hu1⟩
      have T1 : u1.heap = wr.heap := (by rw [← hu1]; rfl)
      refine ⟨_, rfl, T1, ?_⟩
      go_simp
      refine hK _ _ ?_
      clear hK K
      repeat (refine ord_float rfl rfl (fun K hK => ⟨_, (fun w' hw => by have q0 := (HC.out w' hw).1; go_simp; exact rfl), ?_⟩); go_simp; refine hK _ ?_; clear hK K)
      refine ord_call rfl rfl (fun K hK => ⟨_, _, (by go_simp <;> first | exact rfl | exact ⟨rfl, rfl⟩), ?_⟩)
      refine (CA.out _).mono ?_
      rintro e u2 ⟨rfl, hu2⟩
      have T2 : u2.heap = wr.heap := (congrArg World.heap hu2.symm).trans T1
      refine ⟨_, rfl, T2, ?_⟩
      go_simp
      refine hK _ _ ?_
      clear hK K
      repeat (refine ord_float rfl rfl (fun K hK => ⟨_, (fun w' hw => by have q0 := (HC.out w' hw).1; go_simp; exact rfl), ?_⟩); go_simp; refine hK _ ?_; clear hK K)
      refine ord_nil ?_
      have hc2 := (HC.out u2 T2).1
      have hf2 := (HC.out u2 T2).2
      refine last_store rfl rfl rfl (u2.setCell ⟨g', i, none⟩ (.int .i64 y)) (by go_simp <;> rfl) ?_
      have HR3 : Hid (RowZs B (u2.setCell ⟨g', i, none⟩ (.int .i64 y)) (.slice (some ⟨g', 0, none⟩) np rc) (addSh p s k (b.take (t + 1)))) := by
        show RowZs _ _ _ _
        rw [← HNY.out]
        exact (HR2.out u2 T2).put i y
      have HF3 : Hid (ZFar (u2.setCell ⟨g', i, none⟩ (.int .i64 y)) g' (.slice (some ⟨kb, off, none⟩) nb cp) b) := by
        subst hu1 hu2
        exact HF.out.drew.set i _
      have HK3 : Hid (Kps (fun x => x = g') w (u2.setCell ⟨g', i, none⟩ (.int .i64 y))) := by
        subst hu1 hu2
        exact HK.out.drew.setCell rfl _
      generalize u2.setCell ⟨g', i, none⟩ (.int .i64 y) = V at HR3 HF3 HK3 ⊢
      clear hu1 hu2 T1 T2 hc2 hf2 HC HR2 HNY HF HK
      go_wp2
      go_roundw
      case rel => exact ⟨t + 1, by go_num, hlt, HR3, HF3, HK3⟩
      case measure => simp [intOf]; omega
    · have hlt' : ¬ (t : Int) < (nb : Int) := by omega
      obtain rfl : nb = t := by omega
      go_wp2
      go_end0
      refine ⟨rfl, ?_, HK.out⟩
      rw [← HZ.out]
      exact HR.out

theorem rowZ_zero (w : World) (n : Nat) (hn : n ≤ 1048576) : RowZs w.heap.size (w.alloc (.cells (ic (fun _ => 0) n) 3)) (.slice (some ⟨w.heap.size, 0, none⟩) n n) (List.replicate n 0) := by
  have h := (rowI_new w (fun _ => 0) n).rowZ (Nat.le_refl _) hn
  have e : zls (fun _ => 0) n = List.replicate n 0 := by simp [zls, List.map_const']
  rwa [e] at h

set_option maxHeartbeats 1600000 in
set_option maxRecDepth 100000 in
theorem iQMul_any (v u : Value) (l m : List Int) (hl : l.length ≤ 1048576) (hm : m.length ≤ 1048576) (w : World) (h : ZAt w w.heap.size v l) (h2 : ZAt w w.heap.size u m) : Calls Tryz.prog 180 #[v, u] w fun e w' => ∃ u, e = .returned u ∧ ZOwn w.heap.size w'.heap.size w' u (qMul l m) ∧ Below w.heap.size w w' := by
  have HB : Hid (ZAt w w.heap.size u m) := h2
  obtain ⟨a, cp, rfl, hA⟩ := h
  obtain ⟨b, cq, rfl, hB⟩ := h2
  have HA : Hid (IntsAt w a l.length w.heap.size (fun j => l.getD j 0)) := hA
  clear hA hB
  by_cases hbig : 64 < l.length ∨ 64 < m.length
  · have HE : Hid (qMul l m = []) := by show _ = _; unfold qMul; rw [if_pos hbig]
    generalize hla : l.length = la at *
    generalize hlb : m.length = lb at *
    clear hla hlb HA HB
    by_cases h1 : 64 < la
    · have h1' : (la : Int) > 64 := by omega
      clear hbig
      go_enter Tryz.func180, Tryz.ntmps180
      go_wp2
      go_ret
      exact ⟨_, rfl, by rw [HE.out]; exact ZOwn.of (World.ownsRow_lit _ _ _ (Nat.le_refl _) (by simp [maxLen]) (by simp)), (Below.refl _ _).alloc (Nat.le_refl _) _⟩
    · have h1' : ¬ (la : Int) > 64 := by omega
      have h2' : (lb : Int) > 64 := by omega
      clear hbig
      go_enter Tryz.func180, Tryz.ntmps180
      go_wp2
      go_ret
      exact ⟨_, rfl, by rw [HE.out]; exact ZOwn.of (World.ownsRow_lit _ _ _ (Nat.le_refl _) (by simp [maxLen]) (by simp)), (Below.refl _ _).alloc (Nat.le_refl _) _⟩
  · have hl64 : ¬ (l.length : Int) > 64 := by omega
    have hm64 : ¬ (m.length : Int) > 64 := by omega
    have hlm : l.length ≤ 64 ∧ m.length ≤ 64 := by omega
    obtain ⟨n, hn⟩ : ∃ n, n = l.length + m.length := ⟨_, rfl⟩
    have HE : Hid (qMul l m = trimZ (mulR m (l.drop 0) 0 (List.replicate n 0))) := by show _ = _; unfold qMul; rw [if_neg hbig, hn]; rfl
    have HD : Hid (∀ k, k < l.length → l.drop k = l.getD k 0 :: l.drop (k + 1)) := fun k hk => by rw [List.drop_eq_getElem_cons hk]; simp [hk]
    have HD0 : Hid (l.drop l.length = []) := by show _ = _; simp
    have hmk : ∀ W : World, (Instr.makeSlice 206 (.int .i64 (n : Int)) (.int .i64 (n : Int))).run Tryz.prog W = .ok (.slice (some ⟨W.heap.size, 0, none⟩) n n) (W.alloc (.cells (ic (fun _ => 0) n) 3)) := fun W => make_nums n n (Nat.le_refl _) (by omega) W
    have H0 : Hid (RowZs w.heap.size (w.alloc (.cells (ic (fun _ => 0) n) 3)) (.slice (some ⟨w.heap.size, 0, none⟩) n n) (List.replicate n 0)) := rowZ_zero w n (by omega)
    generalize ic (fun _ => 0) n = M at hmk H0
    generalize hla : l.length = la at *
    generalize hlb : m.length = lb at *
    have hsum : (la : Int) + (lb : Int) = (n : Int) := by omega
    have HLB : Hid (m.length = lb) := hlb
    have HN : Hid (n = la + lb) := hn
    clear hla hlb hbig hn
    go_enter Tryz.func180, Tryz.ntmps180
    go_wp2
    go_loopw [25] (fun i wr => ∃ (k : Nat) (p : List Int), i = .int .i64 (k : Int) ∧ k ≤ la ∧ Hid (p.length = n) ∧ Hid (qMul l m = trimZ (mulR m (l.drop k) k p)) ∧ Hid (RowZs w.heap.size wr (.slice (some ⟨w.heap.size, 0, none⟩) n n) p) ∧ Hid (Below w.heap.size w wr)) (fun i _ => la - (intOf i).toNat)
    case atStart => exact ⟨0, _, rfl, Nat.zero_le _, by show _ = _; simp, HE, H0, (Below.refl _ _).alloc (Nat.le_refl _) _⟩
    case round =>
      obtain ⟨k, p, rfl, hk, HPL, HQ, HR, HW⟩ := hrel
      clear hmk H0 HE hsum
      by_cases hlt : k < la
      · have hlt' : (k : Int) < (la : Int) := by omega
        have hk0 : (0 : Int) ≤ (k : Int) := by omega
        obtain ⟨ba, off, rfl, hba, hz⟩ := (HA.out.on HW.out) k hlt
        replace hz : wr.cell? ⟨ba, off + k, none⟩ = some (.int .i64 (l.getD k 0)) := hz
        have HQ2 : Hid (qMul l m = trimZ (mulR m (l.drop (k + 1)) (k + 1) (addSh p k (l.getD k 0) m))) := by
          show _ = _
          rw [HQ.out, HD.out k hlt, mulR]
        have CS : Hid (Calls Tryz.prog 206 #[.slice (some ⟨w.heap.size, 0, none⟩) n n, .int .i64 (k : Int), .int .i64 (l.getD k 0), .slice b lb cq] wr fun e w' => e = .returned (.tuple #[]) ∧ RowZs w.heap.size w' (.slice (some ⟨w.heap.size, 0, none⟩) n n) (addSh p k (l.getD k 0) m) ∧ Kps (fun x => x = w.heap.size) wr w') := by
          refine iSh_any _ _ p m k _ w.heap.size w.heap.size wr HR.out (fun _ => rfl) (ZFar.of_at (HB.out.on HW.out) (Nat.le_refl _)) ?_ ?_
          · rw [HPL.out, HLB.out, HN.out]; omega
          · rw [HPL.out, HN.out]; omega
        have HPL2 : Hid ((addSh p k (l.getD k 0) m).length = n) := by show _ = _; rw [addSh_len, HPL.out]
        generalize addSh p k (l.getD k 0) m = p2 at CS HQ2 HPL2
        generalize l.getD k 0 = z at hz CS
        clear hba HQ HR HPL
        go_wp2_with (go_at_call 206; refine CS.out.mono ?_; rintro e w2 ⟨rfl, hr2, hk2⟩)
        have HR2 : Hid (RowZs w.heap.size w2 (.slice (some ⟨w.heap.size, 0, none⟩) n n) p2) := hr2
        have HW2 : Hid (Below w.heap.size w w2) := hk2.bel HW.out HW.out.size (fun k hk => by omega)
        clear hr2 hk2
        go_wp2
        go_roundw
        case rel => exact ⟨k + 1, p2, by go_num, hlt, HPL2, HQ2, HR2, HW2⟩
        case measure => simp [intOf]; omega
      · have hlt' : ¬ (k : Int) < (la : Int) := by omega
        obtain rfl : la = k := by omega
        have CT : Hid (Calls Tryz.prog 207 #[.slice (some ⟨w.heap.size, 0, none⟩) n n] wr fun e w' => ∃ x, e = .returned x ∧ RowZs w.heap.size wr x (qMul l m) ∧ wr = w') := by
          refine (trimmed_any _ p (by rw [HPL.out, HN.out]; omega) w.heap.size wr HR.out).mono ?_
          rintro e w' ⟨a, n, c, h1, h2, h3, h4⟩
          refine ⟨_, h2, ?_, h4⟩
          rw [HQ.out, HD0.out]
          exact h3
        clear HQ HR
        go_wp2_with (go_at_call 207; refine CT.out.mono ?_; rintro e w3 ⟨x, rfl, hx, rfl⟩)
        go_ret
        exact ⟨_, rfl, ZOwn.of hx, HW.out⟩

end Go.Proofs.YthnahalboomkoaaGreat

/-
  The walks of the program's mixture of polynomials.
  (-DROP-: what the seat lacks is left out.)
-/
namespace Go.Proofs.YthnahalboomkoaaGreat
open Go.RowKit

set_option maxHeartbeats 3200000 in
set_option maxRecDepth 100000 in
theorem iMix_any (a : Option Addr) (cp : Nat) (u : Value) (L : List (List Int)) (m : List Int) (hL : L.length ≤ 1048576) (hz : ∀ j, (L.getD j []).length ≤ 1048576) (hm : m.length ≤ 1048576) (hcp : L.length ≤ cp) (w : World) (h : NAt 1 w w.heap.size (.slice a L.length cp) L.length L) (h2 : ZAt w w.heap.size u m) :
    Calls Tryz.prog 183 #[u, .slice a L.length cp] w fun e w' => ∃ x, e = .returned x ∧ ZOwn w.heap.size w'.heap.size w' x (pMix L m) ∧ Below w.heap.size w w' := by
  obtain ⟨hlen, a', cp', hva, hA⟩ := h
  have haa : a = a' := by injection hva
  subst haa
  obtain ⟨b, cq, rfl, hB⟩ := h2
  have HA : Hid (∀ j, j < L.length * 1 → ∃ b off u, a = some ⟨b, off, none⟩ ∧ b < w.heap.size ∧ w.cell? ⟨b, off + j, none⟩ = some u ∧ ZAt w w.heap.size u (L.getD j [])) := hA
  have HB : Hid (IntsAt w b m.length w.heap.size (fun j => m.getD j 0)) := hB
  have HZ : Hid (∀ j, (L.getD j []).length ≤ 1048576) := hz
  obtain ⟨K, hK⟩ : ∃ K, K = min L.length m.length := ⟨_, rfl⟩
  have HE : Hid (trimZ (mixS L m (maxLn L K) K) = pMix L m) := by show _ = _; rw [hK]; exact pMix_same L m
  have HMX : Hid (maxLn L K ≤ 1048576) := maxLn_big L _ hz K
  clear hA hB hlen hz hva
  generalize L.length = la at *
  generalize m.length = lb at *
  have hmin : min (lb : Int) (la : Int) = (K : Int) := by omega
  have hKa : K ≤ la := by omega
  have hKb : K ≤ lb := by omega
  have hKc : (K : Int) ≤ (cp : Int) := by omega
  have hK0 : (0 : Int) ≤ (K : Int) := by omega
  clear hK
  go_enter Tryz.func183, Tryz.ntmps183
  go_wp2
  go_loopw [5, 20] (fun o i wr => ∃ (k : Nat), i = .int .i64 (k : Int) ∧ k ≤ K ∧ o = .int .i64 ((maxLn L k : Nat) : Int) ∧ w = wr) (fun _ i _ => K - (intOf i).toNat)
  case atStart => exact ⟨0, rfl, Nat.zero_le _, rfl, rfl⟩
  case round =>
    obtain ⟨k, rfl, hk, rfl, rfl⟩ := hrel
    by_cases hlt : k < K
    · have hlt' : (k : Int) < (K : Int) := by omega
      have hk0 : (0 : Int) ≤ (k : Int) := by omega
      obtain ⟨b1, o1, v1, rfl, hb1, c1, z1⟩ := HA.out k (by omega)
      obtain ⟨v1a, v1c, rfl, _⟩ := z1
      have hmx : max ((maxLn L k : Nat) : Int) ((L.getD k []).length : Int) = ((maxLn L (k + 1) : Nat) : Int) := by rw [maxLn]; omega
      obtain ⟨q2, hq2⟩ : ∃ q2, q2 = maxLn L (k + 1) := ⟨_, rfl⟩
      have HQ2 : Hid (q2 = maxLn L (k + 1)) := hq2
      rw [← hq2] at hmx
      clear hq2
      generalize maxLn L k = q1 at *
      generalize (L.getD k []).length = l1 at *
      go_wp2
      go_roundw
      case rel => exact ⟨k + 1, by go_num, hlt, by rw [← HQ2.out], trivial⟩
      case measure => simp [intOf]; omega
    · have hlt' : ¬ (k : Int) < (K : Int) := by omega
      obtain rfl : K = k := by omega
      obtain ⟨n, hn⟩ : ∃ n, n = maxLn L K := ⟨_, rfl⟩
      have hn1 : n ≤ 1048576 := by rw [hn]; exact HMX.out
      have HN : Hid (∀ i, i < K → (L.getD i []).length ≤ n) := by rw [hn]; exact maxLn_le L K
      rw [← hn] at HE ⊢
      clear hn HMX hmin
      have hmk : ∀ W : World, (Instr.makeSlice 206 (.int .i64 (n : Int)) (.int .i64 (n : Int))).run Tryz.prog W = .ok (.slice (some ⟨W.heap.size, 0, none⟩) n n) (W.alloc (.cells (ic (fun _ => 0) n) 3)) := fun W => make_nums n n (Nat.le_refl _) (by omega) W
      have H0 : Hid (RowZs w.heap.size (w.alloc (.cells (ic (fun _ => 0) n) 3)) (.slice (some ⟨w.heap.size, 0, none⟩) n n) (mixS L m n 0)) := rowZ_zero w n hn1
      generalize ic (fun _ => 0) n = M at hmk H0
      go_wp2
      go_loopw [33] (fun i wr => ∃ (k : Nat), i = .int .i64 (k : Int) ∧ k ≤ K ∧ Hid (RowZs w.heap.size wr (.slice (some ⟨w.heap.size, 0, none⟩) n n) (mixS L m n k)) ∧ Hid (Below w.heap.size w wr)) (fun i _ => K - (intOf i).toNat)
      case atStart => exact ⟨0, rfl, Nat.zero_le _, H0, (Below.refl _ _).alloc (Nat.le_refl _) _⟩
      case round =>
        obtain ⟨k, rfl, hk, HR, HW⟩ := hrel
        clear hmk H0 hlt'
        by_cases hlt : k < K
        · have hlt' : (k : Int) < (K : Int) := by omega
          have hlb' : (k : Int) < (lb : Int) := by omega
          have hk0 : (0 : Int) ≤ (k : Int) := by omega
          obtain ⟨b1, o1, v1, rfl, hb1, c1, z1⟩ := HA.out k (by omega)
          obtain ⟨b2, o2, rfl, hb2, c2⟩ := HB.out k (by omega)
          replace c2 : w.cell? ⟨b2, o2 + k, none⟩ = some (.int .i64 (m.getD k 0)) := c2
          have d1 : wr.cell? ⟨b1, o1 + k, none⟩ = some v1 := (HW.out.cell (p := ⟨b1, o1 + k, none⟩) hb1).trans c1
          have d2 : wr.cell? ⟨b2, o2 + k, none⟩ = some (.int .i64 (m.getD k 0)) := (HW.out.cell (p := ⟨b2, o2 + k, none⟩) hb2).trans c2
          have CS : Hid (Calls Tryz.prog 206 #[.slice (some ⟨w.heap.size, 0, none⟩) n n, .int .i64 0, .int .i64 (m.getD k 0), v1] wr fun e w' => e = .returned (.tuple #[]) ∧ RowZs w.heap.size w' (.slice (some ⟨w.heap.size, 0, none⟩) n n) (mixS L m n (k + 1)) ∧ Kps (fun x => x = w.heap.size) wr w') := by
            refine iSh_any _ _ (mixS L m n k) (L.getD k []) 0 _ w.heap.size w.heap.size wr HR.out (fun _ => rfl) (ZFar.of_at (z1.on HW.out) (Nat.le_refl _)) ?_ ?_
            · rw [mixS_len]; have := HN.out k hlt; omega
            · rw [mixS_len]; exact hn1
          obtain ⟨v1a, v1c, rfl, _⟩ := z1
          generalize (L.getD k []).length = l1 at *
          generalize m.getD k 0 = y at *
          clear c1 c2 hb1 hb2 HR
          go_wp2_with (go_at_call 206; refine CS.out.mono ?_; rintro e w2 ⟨rfl, hr2, hk2⟩)
          have HR2 : Hid (RowZs w.heap.size w2 (.slice (some ⟨w.heap.size, 0, none⟩) n n) (mixS L m n (k + 1))) := hr2
          have HW2 : Hid (Below w.heap.size w w2) := hk2.bel HW.out HW.out.size (fun k hk => by omega)
          clear hr2 hk2 CS
          go_wp2
          go_roundw
          case rel => exact ⟨k + 1, by go_num, hlt, HR2, HW2⟩
          case measure => simp [intOf]; omega
        · have hlt' : ¬ (k : Int) < (K : Int) := by omega
          obtain rfl : K = k := by omega
          have CT : Hid (Calls Tryz.prog 207 #[.slice (some ⟨w.heap.size, 0, none⟩) n n] wr fun e w' => ∃ x, e = .returned x ∧ RowZs w.heap.size wr x (pMix L m) ∧ wr = w') := by
            refine (trimmed_any _ (mixS L m n K) (by rw [mixS_len]; exact hn1) w.heap.size wr HR.out).mono ?_
            rintro e w' ⟨a, n, c, h1, h2, h3, h4⟩
            refine ⟨_, h2, ?_, h4⟩
            rw [← HE.out]
            exact h3
          clear HR HE
          go_wp2_with (go_at_call 207; refine CT.out.mono ?_; rintro e w3 ⟨x, rfl, hx, rfl⟩)
          go_ret
          exact ⟨_, rfl, ZOwn.of hx, HW.out⟩

theorem iMixed_any (a : Option Addr) (cp : Nat) (u : Value) (L : List (List Int)) (m : List Int) (hL : L.length ≤ 1048576) (hz : ∀ j, (L.getD j []).length ≤ 1048576) (hm : m.length ≤ 1048576) (hcp : L.length ≤ cp) (w : World) (h : NAt 1 w w.heap.size (.slice a L.length cp) L.length L) (h2 : ZAt w w.heap.size u m) :
    Calls Tryz.prog 182 #[.slice a L.length cp, u] w fun e w' => ∃ x, e = .returned x ∧ ZOwn w.heap.size w'.heap.size w' x (pMix L m) ∧ Below w.heap.size w w' := by
  have CM : Hid (Calls Tryz.prog 183 #[u, .slice a L.length cp] w fun e w' => ∃ x, e = .returned x ∧ ZOwn w.heap.size w'.heap.size w' x (pMix L m) ∧ Below w.heap.size w w') := iMix_any a cp u L m hL hz hm hcp w h h2
  clear h h2 hz hL hm hcp
  generalize L.length = la at *
  go_enter Tryz.func182, Tryz.ntmps182
  go_wp2_with (go_at_call 183; refine CM.out.mono ?_; rintro e w2 ⟨x, rfl, hx, hb⟩)
  go_ret
  exact ⟨_, rfl, hx, hb⟩

end Go.Proofs.YthnahalboomkoaaGreat

/-
  The walk of the program's column: what the rows, in order, have of one wire.
  (-DROP-: what the seat lacks is left out.)
-/
namespace Go.Proofs.YthnahalboomkoaaGreat
open Go.RowKit

theorem Row3s.kept {S : Nat → Prop} {lo : Nat} {w w' : World} {a b c : Value} {la lb lc : List Int} (h : Row3s lo w a b c la lb lc) (hk : Kps S w w') (hS : ∀ k, lo ≤ k → ¬ S k) : Row3s lo w' a b c la lb lc :=
  ⟨hk.row h.ra fun k hv => hS k (h.ra.lt k hv).1, hk.row h.rb fun k hv => hS k (h.rb.lt k hv).1, hk.row h.rc fun k hv => hS k (h.rc.lt k hv).1, h.ab, h.ac, h.bc⟩
theorem row3_nil (lo : Nat) (w : World) : Row3s lo w (.slice none 0 0) (.slice none 0 0) (.slice none 0 0) [] [] [] := by
  have h : RowZs lo w (.slice none 0 0) [] := ⟨rfl, .inl ⟨rfl, rfl⟩⟩
  exact ⟨h, h, h, (fun k e => by cases e), (fun k e => by cases e), (fun k e => by cases e)⟩
theorem onesRw (a : Option Addr) (n c : Nat) (a1 : Option Addr) (n1 c1 : Nat) (a2 : Option Addr) (n2 c2 : Nat) : (#[Value.slice a n c, .slice a1 n1 c1, .slice a2 n2 c2]).all (·.oneCell') = true := by simp [Value.oneCell']

set_option maxHeartbeats 6400000 in
set_option maxRecDepth 100000 in
theorem iCol_any (wi pu : Int) (a : Option Addr) (n c wn j : Nat) (hn : n ≤ 16) (hj : j < wn) (ls : List (List Int)) (hwd : ∀ k, k < n * 3 → (ls.getD k []).length = wn) (w : World) (hA : NAt 3 w w.heap.size (.slice a n c) n ls) :
    Calls Tryz.prog 178 #[.agg #[.int .i64 wi, .int .i64 pu, .slice a n c], .int .i64 (j : Int)] w fun e w' => ∃ x y z, e = .returned (.agg #[x, y, z]) ∧ Row3s w.heap.size w' x y z (colL ls n 0 j) (colL ls n 1 j) (colL ls n 2 j) ∧ Below w.heap.size w w' := by
  obtain ⟨i0, hi, hz0, hz1, hz2⟩ := info_parts info3I
  obtain ⟨W, hW, hb, hs, hr⟩ := boxes1r w 26 146 #[.int .i64 wi, .int .i64 pu, .slice a n c] #[.slice none 0 0, .slice none 0 0, .slice none 0 0]
  have HA : Hid (NAt 3 w w.heap.size (.slice a n c) n ls) := hA
  have HWD : Hid (∀ k, k < n * 3 → (ls.getD k []).length = wn) := hwd
  have H0 : Hid (Below w.heap.size w W ∧ Blk W w.heap.size 26 #[.int .i64 wi, .int .i64 pu, .slice a n c] ∧ Blk W (w.heap.size + 1) 146 #[.slice none 0 0, .slice none 0 0, .slice none 0 0]) := ⟨hb, hs, hr⟩
  have hs1 : w.heap.size + 1 < W.heap.size := hr.lt
  have hj0 : (0 : Int) ≤ (j : Int) := by omega
  have hjw : (j : Int) < (wn : Int) := by omega
  clear hA hb hr hs hwd
  obtain ⟨V0, hV0, hb0, hs0⟩ := box1 W 146 #[.slice none 0 0, .slice none 0 0, .slice none 0 0]
  go_enter Tryz.func178, Tryz.ntmps178
  go_wp2_with (refine store_blkS (cs' := #[.slice none 0 0, .slice none 0 0, .slice none 0 0]) rfl rfl rfl rfl rfl hs0 infoRw rfl (onesRw _ _ _ _ _ _ _ _ _) ?_; intro V4 hq4 hheap hoth hbel; have hb4 := hbel _ _ (Nat.le_refl _) hb0; clear hoth hbel hheap; have hcs : V4.cell? ⟨w.heap.size, 2, none⟩ = some (.slice a n c) := (H0.out.2.1.on hb4 H0.out.2.1.lt).cell 2)
  have hs4 : W.heap.size < V4.heap.size := hq4.lt
  have H4 : Hid (Below w.heap.size w V4 ∧ Blk V4 w.heap.size 26 #[.int .i64 wi, .int .i64 pu, .slice a n c] ∧ Blk V4 (w.heap.size + 1) 146 #[.slice none 0 0, .slice none 0 0, .slice none 0 0] ∧ Blk V4 W.heap.size 146 #[.slice none 0 0, .slice none 0 0, .slice none 0 0]) := ⟨H0.out.1.trans (hb4.mono (by omega)), H0.out.2.1.on hb4 H0.out.2.1.lt, H0.out.2.2.on hb4 H0.out.2.2.lt, hq4⟩
  clear hV0 hb0 hs0 hb4 hq4 H0 hW
  go_loopw [12] (fun iv wr => ∃ (i : Nat) (X Y Z : Value), iv = .int .i64 (i : Int) ∧ i ≤ n ∧ Hid (Below w.heap.size w wr ∧ Blk wr w.heap.size 26 #[.int .i64 wi, .int .i64 pu, .slice a n c] ∧ Blk wr (w.heap.size + 1) 146 #[.slice none 0 0, .slice none 0 0, .slice none 0 0] ∧ Blk wr W.heap.size 146 #[X, Y, Z]) ∧ Hid (Row3s V4.heap.size wr X Y Z (colL ls i 0 j) (colL ls i 1 j) (colL ls i 2 j)) ∧ V4.heap.size ≤ wr.heap.size) (fun iv _ => n - (intOf iv).toNat)
  case atStart => exact ⟨0, _, _, _, rfl, Nat.zero_le _, H4, row3_nil _ _, Nat.le_refl _⟩
  case round =>
    obtain ⟨i, X, Y, Z, rfl, hin, HB, HR, hsr⟩ := hrel
    clear H4 hcs
    obtain ⟨aa, ac, hav⟩ := row_form HR.out.ra
    subst hav
    obtain ⟨ba, bc, hbv⟩ := row_form HR.out.rb
    subst hbv
    obtain ⟨ca, cc, hcv⟩ := row_form HR.out.rc
    subst hcv
    rw [colL_len, colL_len, colL_len] at *
    by_cases hil : i < n
    · have hil' : (i : Int) < (n : Int) := by omega
      have hi0 : (0 : Int) ≤ (i : Int) := by omega
      have hm63 : i + 1 ≤ maxLen := by unfold maxLen; omega
      have hm47 : (i + 1) * 8 ≤ 140737488355328 := by omega
      obtain ⟨b, off, a0, c0, a1, c1, a2, c2, rfl, hbb, z0, z1, z2, y0, y1, y2⟩ := (HA.out.on HB.out.1).row3 hil
      have l0 : (ls.getD (i * 3) []).length = wn := HWD.out (i * 3) (by omega)
      have l1 : (ls.getD (i * 3 + 1) []).length = wn := HWD.out (i * 3 + 1) (by omega)
      have l2 : (ls.getD (i * 3 + 2) []).length = wn := HWD.out (i * 3 + 2) (by omega)
      rw [l0] at z0 y0
      rw [l1] at z1 y1
      rw [l2] at z2 y2
      obtain ⟨b0, o0, rfl, hb0, e0⟩ := y0 j hj
      obtain ⟨b1, o1, rfl, hb1, e1⟩ := y1 j hj
      obtain ⟨b2, o2, rfl, hb2, e2⟩ := y2 j hj
      replace e0 : wr.cell? ⟨b0, o0 + j, none⟩ = some (.int .i64 ((ls.getD (i * 3) []).getD j 0)) := e0
      replace e1 : wr.cell? ⟨b1, o1 + j, none⟩ = some (.int .i64 ((ls.getD (i * 3 + 1) []).getD j 0)) := e1
      replace e2 : wr.cell? ⟨b2, o2 + j, none⟩ = some (.int .i64 ((ls.getD (i * 3 + 2) []).getD j 0)) := e2
      have HN0 : Hid (colL ls (i + 1) 0 j = colL ls i 0 j ++ [(ls.getD (i * 3) []).getD j 0]) := zls_next _ _
      have HN1 : Hid (colL ls (i + 1) 1 j = colL ls i 1 j ++ [(ls.getD (i * 3 + 1) []).getD j 0]) := zls_next _ _
      have HN2 : Hid (colL ls (i + 1) 2 j = colL ls i 2 j ++ [(ls.getD (i * 3 + 2) []).getD j 0]) := zls_next _ _
      generalize (ls.getD (i * 3) []).getD j 0 = x0 at e0 HN0
      generalize (ls.getD (i * 3 + 1) []).getD j 0 = x1 at e1 HN1
      generalize (ls.getD (i * 3 + 2) []).getD j 0 = x2 at e2 HN2
      have hws := HB.out.1.size
      have HO0 : Hid (∀ k, (Value.slice aa i ac).ownBlock = some k → V4.heap.size ≤ k ∧ k < wr.heap.size) := fun k hk => ⟨(HR.out.ra.lt k hk).1, (HR.out.ra.lt k hk).2⟩
      have HO1 : Hid (∀ k, (Value.slice ba i bc).ownBlock = some k → V4.heap.size ≤ k ∧ k < wr.heap.size) := fun k hk => ⟨(HR.out.rb.lt k hk).1, (HR.out.rb.lt k hk).2⟩
      have HO2 : Hid (∀ k, (Value.slice ca i cc).ownBlock = some k → V4.heap.size ≤ k ∧ k < wr.heap.size) := fun k hk => ⟨(HR.out.rc.lt k hk).1, (HR.out.rc.lt k hk).2⟩
      have HE : Hid (wr.cell? ⟨b0, o0 + j, none⟩ = some (.int .i64 x0) ∧ wr.cell? ⟨b1, o1 + j, none⟩ = some (.int .i64 x1) ∧ wr.cell? ⟨b2, o2 + j, none⟩ = some (.int .i64 x2)) := ⟨e0, e1, e2⟩
      clear e0 e1 e2 y0 y1 y2 l0 l1 l2
      go_wp2
      obtain ⟨Y0, hY0, hbY, hrY⟩ := box1 wr 146 #[.slice (some ⟨b0, o0, none⟩) wn c0, .slice (some ⟨b1, o1, none⟩) wn c1, .slice (some ⟨b2, o2, none⟩) wn c2]
      rw [hY0]
      clear hY0 z0 z1 z2
      have hY0s : wr.heap.size < Y0.heap.size := hrY.lt
      have HK0 : Hid (Kps (fun k => V4.heap.size ≤ k ∧ k ≠ wr.heap.size ∨ k = W.heap.size) Y0 Y0) := Kps.refl _ _
      have HB0 : Hid (Below w.heap.size w Y0 ∧ Blk Y0 W.heap.size 146 #[.slice aa i ac, .slice ba i bc, .slice ca i cc]) := ⟨HB.out.1.trans (hbY.mono hws), HB.out.2.2.2.on hbY HB.out.2.2.2.lt⟩
      have HQ : Hid (Blk Y0 w.heap.size 26 #[.int .i64 wi, .int .i64 pu, .slice (some ⟨b, off, none⟩) n c] ∧ Blk Y0 (w.heap.size + 1) 146 #[.slice none 0 0, .slice none 0 0, .slice none 0 0] ∧ Blk Y0 wr.heap.size 146 #[.slice (some ⟨b0, o0, none⟩) wn c0, .slice (some ⟨b1, o1, none⟩) wn c1, .slice (some ⟨b2, o2, none⟩) wn c2]) := ⟨HB.out.2.1.on hbY HB.out.2.1.lt, HB.out.2.2.1.on hbY HB.out.2.2.1.lt, hrY⟩
      have HCE : Hid (Y0.cell? ⟨b0, o0 + j, none⟩ = some (.int .i64 x0) ∧ Y0.cell? ⟨b1, o1 + j, none⟩ = some (.int .i64 x1) ∧ Y0.cell? ⟨b2, o2 + j, none⟩ = some (.int .i64 x2)) := ⟨(hbY.cell (p := ⟨b0, o0 + j, none⟩) (by show b0 < _; omega)).trans HE.out.1, (hbY.cell (p := ⟨b1, o1 + j, none⟩) (by show b1 < _; omega)).trans HE.out.2.1, (hbY.cell (p := ⟨b2, o2 + j, none⟩) (by show b2 < _; omega)).trans HE.out.2.2⟩
      have HR0 : Hid (Row3s V4.heap.size Y0 (.slice aa i ac) (.slice ba i bc) (.slice ca i cc) (colL ls i 0 j) (colL ls i 1 j) (colL ls i 2 j)) := HR.out.kept (Kps.of_below (S := fun _ => False) hbY) (fun _ _ h => h)
      have hy00 : Y0.heap.size ≤ Y0.heap.size := Nat.le_refl _
      clear HB HR HE hbY hrY
      have HS0 : Hid (∀ wz, Kps (fun k => (Value.slice aa i ac).ownBlock = some k) Y0 wz → Blk wz W.heap.size 146 #[.slice aa i ac, .slice ba i bc, .slice ca i cc] ∧ Blk wz wr.heap.size 146 #[.slice (some ⟨b0, o0, none⟩) wn c0, .slice (some ⟨b1, o1, none⟩) wn c1, .slice (some ⟨b2, o2, none⟩) wn c2] ∧ wz.cell? ⟨b0, o0 + j, none⟩ = some (.int .i64 x0)) := fun wz hk => by
        refine ⟨hk.blk HB0.out.2 (fun e => by have := (HO0.out _ e).1; omega), hk.blk (HK0.out.blk HQ.out.2.2 (by omega)) (fun e => by have := (HO0.out _ e).2; omega), ?_⟩
        refine (World.cell?_of_block (a := ⟨b0, o0 + j, none⟩) ((hk.block b0 (by omega) (fun e => by have := (HO0.out _ e).1; omega)).trans (HK0.out.block b0 (by omega) (by omega)))).trans HCE.out.1
      refine wp_region_last [(0, false), (1, false), (2, false), (3, false), (4, false), (5, false), (6, false), (7, true), (8, true), (9, false)] 10 (fun wz => Kps (fun k => (Value.slice aa i ac).ownBlock = some k) Y0 wz) mixes (by kernel_rfl) (Kps.refl _ _).drew ?_
      repeat (refine ord_float rfl rfl (fun K hK => ⟨_, (fun w' hw => by have q0 := (HS0.out _ hw).1.cell 0; have q1 :=  (HS0.out _ hw).2.1.cell 0; have q2 :=  (HS0.out _ hw).2.2; go_simp; exact rfl), ?_⟩); go_simp; refine hK _ ?_; clear hK K)
      have HA0 : Kps (fun k => (Value.slice aa i ac).ownBlock = some k) Y0 (Y0.drew.alloc (.cells #[.int .i64 x0] 3)) := Kps.of_below ((Below.refl _ _).drew.alloc (Nat.le_refl _) _)
      refine ord_op rfl rfl (fun K hK => ⟨.slice (some ⟨Y0.heap.size, 0, none⟩) 1 1, Y0.drew.alloc (.cells #[.int .i64 x0] 3), (by go_simp <;> rfl), HA0, ?_⟩)
      go_simp
      refine hK _ _ ?_
      clear hK K
      repeat (refine ord_float rfl rfl (fun K hK => ⟨_, (fun w' hw => by have q0 := (HS0.out _ hw).1.cell 0; have q1 :=  (HS0.out _ hw).2.1.cell 0; have q2 :=  (HS0.out _ hw).2.2; go_simp; exact rfl), ?_⟩); go_simp; refine hK _ ?_; clear hK K)
      have HP0 : Hid (Row3s V4.heap.size (Y0.drew.alloc (.cells #[.int .i64 x0] 3)) (.slice aa i ac) (.slice ba i bc) (.slice ca i cc) (colL ls i 0 j) (colL ls i 1 j) (colL ls i 2 j)) := (show Row3s V4.heap.size Y0.drew _ _ _ _ _ _ from ⟨HR0.out.ra, HR0.out.rb, HR0.out.rc, HR0.out.ab, HR0.out.ac, HR0.out.bc⟩).alloc _
      have hP0 : (Y0.drew.alloc (.cells #[.int .i64 x0] 3)).ownsRow V4.heap.size 3 1 (.slice aa i ac) i (zsV (colL ls i 0 j)) := by have h := HP0.out.ra; unfold RowZs at h; rwa [colL_len] at h
      have hsa0 : (Y0.drew.alloc (.cells #[.int .i64 x0] 3)).heap.size = Y0.heap.size + 1 := by simp
      refine ord_append rfl rfl _ _ 27 rfl V4.heap.size 3 i0 (.int .i64 0) 1 8 Tryz.underlying27 hi hz0 hz1 hz2 rfl (by decide) _ _ _ rfl hP0 ⟨Y0.heap.size, 0, none⟩ 1 1 [.int .i64 x0] rfl rfl (cell_one_new _ _ _) (one_cell _ _) hm63 hm47 (by simp; omega) ?_
      intro n0 y0 hrn hgn hat
      have HAg0 : Kps (fun k => (Value.slice aa i ac).ownBlock = some k) Y0 y0 := HA0.trans (kps_grown hgn)
      have hrow : RowZs V4.heap.size y0 n0 (colL ls (i + 1) 0 j) := by
        unfold RowZs
        rw [HN0.out, zsV_append, List.length_append, colL_len]
        exact hrn
      have HPn : Row3s V4.heap.size y0 n0 (.slice ba i bc) (.slice ca i cc) (colL ls (i + 1) 0 j) (colL ls i 1 j) (colL ls i 2 j) := HP0.out.app hrow hgn hat
      refine ⟨HAg0, fun K hK => ?_⟩
      go_simp
      refine hK _ ?_
      clear hK K
      repeat (refine ord_float rfl rfl (fun K hK => ⟨_, (fun w' hw => by have q0 := (HS0.out _ hw).1.cell 0; go_simp; exact rfl), ?_⟩); go_simp; refine hK _ ?_; clear hK K)
      refine ord_nil ?_
      obtain ⟨na0, nc0, hNv⟩ := row_form hrow
      rw [colL_len] at hNv
      subst hNv
      have hqy := (HS0.out _ HAg0).1
      have hcy := hqy.cell 0
      have hfy := hqy.free 0
      refine last_store rfl rfl rfl (y0.setCell ⟨W.heap.size, 0, none⟩ (.slice na0 (i + 1) nc0)) (by go_simp <;> rfl) ?_
      have HK1 : Hid (Kps (fun k => V4.heap.size ≤ k ∧ k ≠ wr.heap.size ∨ k = W.heap.size) Y0 (y0.setCell ⟨W.heap.size, 0, none⟩ (.slice na0 (i + 1) nc0))) := (HK0.out.trans (HAg0.more (fun k e => by have := HO0.out _ e; omega))).setCell (.inr rfl) _
      have HB1 : Hid (Below w.heap.size w (y0.setCell ⟨W.heap.size, 0, none⟩ (.slice na0 (i + 1) nc0)) ∧ Blk (y0.setCell ⟨W.heap.size, 0, none⟩ (.slice na0 (i + 1) nc0)) W.heap.size 146 #[.slice na0 (i + 1) nc0, .slice ba i bc, .slice ca i cc]) := ⟨(HAg0.bel HB0.out.1 (by omega) (fun k e => by have := (HO0.out _ e).1; omega)).setCell (by show w.heap.size ≤ W.heap.size; omega) _, hqy.set 0 _⟩
      have HR1 : Hid (Row3s V4.heap.size (y0.setCell ⟨W.heap.size, 0, none⟩ (.slice na0 (i + 1) nc0)) (.slice ba i bc) (.slice ca i cc) (.slice na0 (i + 1) nc0) (colL ls i 1 j) (colL ls i 2 j) (colL ls (i + 1) 0 j)) := (HPn.kept ((Kps.refl (fun k => k = W.heap.size) y0).setCell (p := ⟨W.heap.size, 0, none⟩) rfl _) (fun k h1 h2 => by omega)).rot
      have hy01 : Y0.heap.size ≤ (y0.setCell ⟨W.heap.size, 0, none⟩ (.slice na0 (i + 1) nc0)).heap.size := HK1.out.size
      generalize y0.setCell ⟨W.heap.size, 0, none⟩ (.slice na0 (i + 1) nc0) = Y1 at HK1 HB1 HR1 hy01 ⊢
      clear hcy hfy hqy HPn hrow HAg0 hrn hgn hat hsa0 hP0 HP0 HA0 HS0 HR0 HB0 HK0 hy00
      have HS1 : Hid (∀ wz, Kps (fun k => (Value.slice ba i bc).ownBlock = some k) Y1 wz → Blk wz W.heap.size 146 #[.slice na0 (i + 1) nc0, .slice ba i bc, .slice ca i cc] ∧ Blk wz wr.heap.size 146 #[.slice (some ⟨b0, o0, none⟩) wn c0, .slice (some ⟨b1, o1, none⟩) wn c1, .slice (some ⟨b2, o2, none⟩) wn c2] ∧ wz.cell? ⟨b1, o1 + j, none⟩ = some (.int .i64 x1)) := fun wz hk => by
        refine ⟨hk.blk HB1.out.2 (fun e => by have := (HO1.out _ e).1; omega), hk.blk (HK1.out.blk HQ.out.2.2 (by omega)) (fun e => by have := (HO1.out _ e).2; omega), ?_⟩
        refine (World.cell?_of_block (a := ⟨b1, o1 + j, none⟩) ((hk.block b1 (by omega) (fun e => by have := (HO1.out _ e).1; omega)).trans (HK1.out.block b1 (by omega) (by omega)))).trans HCE.out.2.1
      go_wp2_with fail
      refine wp_region_last [(0, false), (1, false), (2, false), (3, false), (4, false), (5, false), (6, false), (7, true), (8, true), (9, false)] 10 (fun wz => Kps (fun k => (Value.slice ba i bc).ownBlock = some k) Y1 wz) mixes (by kernel_rfl) (Kps.refl _ _).drew ?_
      repeat (refine ord_float rfl rfl (fun K hK => ⟨_, (fun w' hw => by have q0 := (HS1.out _ hw).1.cell 1; have q1 :=  (HS1.out _ hw).2.1.cell 1; have q2 :=  (HS1.out _ hw).2.2; go_simp; exact rfl), ?_⟩); go_simp; refine hK _ ?_; clear hK K)
      have HA1 : Kps (fun k => (Value.slice ba i bc).ownBlock = some k) Y1 (Y1.drew.alloc (.cells #[.int .i64 x1] 3)) := Kps.of_below ((Below.refl _ _).drew.alloc (Nat.le_refl _) _)
      refine ord_op rfl rfl (fun K hK => ⟨.slice (some ⟨Y1.heap.size, 0, none⟩) 1 1, Y1.drew.alloc (.cells #[.int .i64 x1] 3), (by go_simp <;> rfl), HA1, ?_⟩)
      go_simp
      refine hK _ _ ?_
      clear hK K
      repeat (refine ord_float rfl rfl (fun K hK => ⟨_, (fun w' hw => by have q0 := (HS1.out _ hw).1.cell 1; have q1 :=  (HS1.out _ hw).2.1.cell 1; have q2 :=  (HS1.out _ hw).2.2; go_simp; exact rfl), ?_⟩); go_simp; refine hK _ ?_; clear hK K)
      have HP1 : Hid (Row3s V4.heap.size (Y1.drew.alloc (.cells #[.int .i64 x1] 3)) (.slice ba i bc) (.slice ca i cc) (.slice na0 (i + 1) nc0) (colL ls i 1 j) (colL ls i 2 j) (colL ls (i + 1) 0 j)) := (show Row3s V4.heap.size Y1.drew _ _ _ _ _ _ from ⟨HR1.out.ra, HR1.out.rb, HR1.out.rc, HR1.out.ab, HR1.out.ac, HR1.out.bc⟩).alloc _
      have hP1 : (Y1.drew.alloc (.cells #[.int .i64 x1] 3)).ownsRow V4.heap.size 3 1 (.slice ba i bc) i (zsV (colL ls i 1 j)) := by have h := HP1.out.ra; unfold RowZs at h; rwa [colL_len] at h
      have hsa1 : (Y1.drew.alloc (.cells #[.int .i64 x1] 3)).heap.size = Y1.heap.size + 1 := by simp
      refine ord_append rfl rfl _ _ 27 rfl V4.heap.size 3 i0 (.int .i64 0) 1 8 Tryz.underlying27 hi hz0 hz1 hz2 rfl (by decide) _ _ _ rfl hP1 ⟨Y1.heap.size, 0, none⟩ 1 1 [.int .i64 x1] rfl rfl (cell_one_new _ _ _) (one_cell _ _) hm63 hm47 (by simp; omega) ?_
      intro n1 y1 hrn hgn hat
      have HAg1 : Kps (fun k => (Value.slice ba i bc).ownBlock = some k) Y1 y1 := HA1.trans (kps_grown hgn)
      have hrow : RowZs V4.heap.size y1 n1 (colL ls (i + 1) 1 j) := by
        unfold RowZs
        rw [HN1.out, zsV_append, List.length_append, colL_len]
        exact hrn
      have HPn : Row3s V4.heap.size y1 n1 (.slice ca i cc) (.slice na0 (i + 1) nc0) (colL ls (i + 1) 1 j) (colL ls i 2 j) (colL ls (i + 1) 0 j) := HP1.out.app hrow hgn hat
      refine ⟨HAg1, fun K hK => ?_⟩
      go_simp
      refine hK _ ?_
      clear hK K
      repeat (refine ord_float rfl rfl (fun K hK => ⟨_, (fun w' hw => by have q0 := (HS1.out _ hw).1.cell 1; go_simp; exact rfl), ?_⟩); go_simp; refine hK _ ?_; clear hK K)
      refine ord_nil ?_
      obtain ⟨na1, nc1, hNv⟩ := row_form hrow
      rw [colL_len] at hNv
      subst hNv
      have hqy := (HS1.out _ HAg1).1
      have hcy := hqy.cell 1
      have hfy := hqy.free 1
      refine last_store rfl rfl rfl (y1.setCell ⟨W.heap.size, 1, none⟩ (.slice na1 (i + 1) nc1)) (by go_simp <;> rfl) ?_
      have HK2 : Hid (Kps (fun k => V4.heap.size ≤ k ∧ k ≠ wr.heap.size ∨ k = W.heap.size) Y0 (y1.setCell ⟨W.heap.size, 1, none⟩ (.slice na1 (i + 1) nc1))) := (HK1.out.trans (HAg1.more (fun k e => by have := HO1.out _ e; omega))).setCell (.inr rfl) _
      have HB2 : Hid (Below w.heap.size w (y1.setCell ⟨W.heap.size, 1, none⟩ (.slice na1 (i + 1) nc1)) ∧ Blk (y1.setCell ⟨W.heap.size, 1, none⟩ (.slice na1 (i + 1) nc1)) W.heap.size 146 #[.slice na0 (i + 1) nc0, .slice na1 (i + 1) nc1, .slice ca i cc]) := ⟨(HAg1.bel HB1.out.1 (by omega) (fun k e => by have := (HO1.out _ e).1; omega)).setCell (by show w.heap.size ≤ W.heap.size; omega) _, hqy.set 1 _⟩
      have HR2 : Hid (Row3s V4.heap.size (y1.setCell ⟨W.heap.size, 1, none⟩ (.slice na1 (i + 1) nc1)) (.slice ca i cc) (.slice na0 (i + 1) nc0) (.slice na1 (i + 1) nc1) (colL ls i 2 j) (colL ls (i + 1) 0 j) (colL ls (i + 1) 1 j)) := (HPn.kept ((Kps.refl (fun k => k = W.heap.size) y1).setCell (p := ⟨W.heap.size, 1, none⟩) rfl _) (fun k h1 h2 => by omega)).rot
      have hy02 : Y0.heap.size ≤ (y1.setCell ⟨W.heap.size, 1, none⟩ (.slice na1 (i + 1) nc1)).heap.size := HK2.out.size
      generalize y1.setCell ⟨W.heap.size, 1, none⟩ (.slice na1 (i + 1) nc1) = Y2 at HK2 HB2 HR2 hy02 ⊢
      clear hcy hfy hqy HPn hrow HAg1 hrn hgn hat hsa1 hP1 HP1 HA1 HS1 HR1 HB1 HK1 hy01
      have HS2 : Hid (∀ wz, Kps (fun k => (Value.slice ca i cc).ownBlock = some k) Y2 wz → Blk wz W.heap.size 146 #[.slice na0 (i + 1) nc0, .slice na1 (i + 1) nc1, .slice ca i cc] ∧ Blk wz wr.heap.size 146 #[.slice (some ⟨b0, o0, none⟩) wn c0, .slice (some ⟨b1, o1, none⟩) wn c1, .slice (some ⟨b2, o2, none⟩) wn c2] ∧ wz.cell? ⟨b2, o2 + j, none⟩ = some (.int .i64 x2)) := fun wz hk => by
        refine ⟨hk.blk HB2.out.2 (fun e => by have := (HO2.out _ e).1; omega), hk.blk (HK2.out.blk HQ.out.2.2 (by omega)) (fun e => by have := (HO2.out _ e).2; omega), ?_⟩
        refine (World.cell?_of_block (a := ⟨b2, o2 + j, none⟩) ((hk.block b2 (by omega) (fun e => by have := (HO2.out _ e).1; omega)).trans (HK2.out.block b2 (by omega) (by omega)))).trans HCE.out.2.2
      go_wp2_with fail
      refine wp_region_last [(0, false), (1, false), (2, false), (3, false), (4, false), (5, false), (6, false), (7, true), (8, true), (9, false)] 10 (fun wz => Kps (fun k => (Value.slice ca i cc).ownBlock = some k) Y2 wz) mixes (by kernel_rfl) (Kps.refl _ _).drew ?_
      repeat (refine ord_float rfl rfl (fun K hK => ⟨_, (fun w' hw => by have q0 := (HS2.out _ hw).1.cell 2; have q1 :=  (HS2.out _ hw).2.1.cell 2; have q2 :=  (HS2.out _ hw).2.2; go_simp; exact rfl), ?_⟩); go_simp; refine hK _ ?_; clear hK K)
      have HA2 : Kps (fun k => (Value.slice ca i cc).ownBlock = some k) Y2 (Y2.drew.alloc (.cells #[.int .i64 x2] 3)) := Kps.of_below ((Below.refl _ _).drew.alloc (Nat.le_refl _) _)
      refine ord_op rfl rfl (fun K hK => ⟨.slice (some ⟨Y2.heap.size, 0, none⟩) 1 1, Y2.drew.alloc (.cells #[.int .i64 x2] 3), (by go_simp <;> rfl), HA2, ?_⟩)
      go_simp
      refine hK _ _ ?_
      clear hK K
      repeat (refine ord_float rfl rfl (fun K hK => ⟨_, (fun w' hw => by have q0 := (HS2.out _ hw).1.cell 2; have q1 :=  (HS2.out _ hw).2.1.cell 2; have q2 :=  (HS2.out _ hw).2.2; go_simp; exact rfl), ?_⟩); go_simp; refine hK _ ?_; clear hK K)
      have HP2 : Hid (Row3s V4.heap.size (Y2.drew.alloc (.cells #[.int .i64 x2] 3)) (.slice ca i cc) (.slice na0 (i + 1) nc0) (.slice na1 (i + 1) nc1) (colL ls i 2 j) (colL ls (i + 1) 0 j) (colL ls (i + 1) 1 j)) := (show Row3s V4.heap.size Y2.drew _ _ _ _ _ _ from ⟨HR2.out.ra, HR2.out.rb, HR2.out.rc, HR2.out.ab, HR2.out.ac, HR2.out.bc⟩).alloc _
      have hP2 : (Y2.drew.alloc (.cells #[.int .i64 x2] 3)).ownsRow V4.heap.size 3 1 (.slice ca i cc) i (zsV (colL ls i 2 j)) := by have h := HP2.out.ra; unfold RowZs at h; rwa [colL_len] at h
      have hsa2 : (Y2.drew.alloc (.cells #[.int .i64 x2] 3)).heap.size = Y2.heap.size + 1 := by simp
      refine ord_append rfl rfl _ _ 27 rfl V4.heap.size 3 i0 (.int .i64 0) 1 8 Tryz.underlying27 hi hz0 hz1 hz2 rfl (by decide) _ _ _ rfl hP2 ⟨Y2.heap.size, 0, none⟩ 1 1 [.int .i64 x2] rfl rfl (cell_one_new _ _ _) (one_cell _ _) hm63 hm47 (by simp; omega) ?_
      intro n2 y2 hrn hgn hat
      have HAg2 : Kps (fun k => (Value.slice ca i cc).ownBlock = some k) Y2 y2 := HA2.trans (kps_grown hgn)
      have hrow : RowZs V4.heap.size y2 n2 (colL ls (i + 1) 2 j) := by
        unfold RowZs
        rw [HN2.out, zsV_append, List.length_append, colL_len]
        exact hrn
      have HPn : Row3s V4.heap.size y2 n2 (.slice na0 (i + 1) nc0) (.slice na1 (i + 1) nc1) (colL ls (i + 1) 2 j) (colL ls (i + 1) 0 j) (colL ls (i + 1) 1 j) := HP2.out.app hrow hgn hat
      refine ⟨HAg2, fun K hK => ?_⟩
      go_simp
      refine hK _ ?_
      clear hK K
      repeat (refine ord_float rfl rfl (fun K hK => ⟨_, (fun w' hw => by have q0 := (HS2.out _ hw).1.cell 2; go_simp; exact rfl), ?_⟩); go_simp; refine hK _ ?_; clear hK K)
      refine ord_nil ?_
      obtain ⟨na2, nc2, hNv⟩ := row_form hrow
      rw [colL_len] at hNv
      subst hNv
      have hqy := (HS2.out _ HAg2).1
      have hcy := hqy.cell 2
      have hfy := hqy.free 2
      refine last_store rfl rfl rfl (y2.setCell ⟨W.heap.size, 2, none⟩ (.slice na2 (i + 1) nc2)) (by go_simp <;> rfl) ?_
      have HK3 : Hid (Kps (fun k => V4.heap.size ≤ k ∧ k ≠ wr.heap.size ∨ k = W.heap.size) Y0 (y2.setCell ⟨W.heap.size, 2, none⟩ (.slice na2 (i + 1) nc2))) := (HK2.out.trans (HAg2.more (fun k e => by have := HO2.out _ e; omega))).setCell (.inr rfl) _
      have HB3 : Hid (Below w.heap.size w (y2.setCell ⟨W.heap.size, 2, none⟩ (.slice na2 (i + 1) nc2)) ∧ Blk (y2.setCell ⟨W.heap.size, 2, none⟩ (.slice na2 (i + 1) nc2)) W.heap.size 146 #[.slice na0 (i + 1) nc0, .slice na1 (i + 1) nc1, .slice na2 (i + 1) nc2]) := ⟨(HAg2.bel HB2.out.1 (by omega) (fun k e => by have := (HO2.out _ e).1; omega)).setCell (by show w.heap.size ≤ W.heap.size; omega) _, hqy.set 2 _⟩
      have HR3 : Hid (Row3s V4.heap.size (y2.setCell ⟨W.heap.size, 2, none⟩ (.slice na2 (i + 1) nc2)) (.slice na0 (i + 1) nc0) (.slice na1 (i + 1) nc1) (.slice na2 (i + 1) nc2) (colL ls (i + 1) 0 j) (colL ls (i + 1) 1 j) (colL ls (i + 1) 2 j)) := (HPn.kept ((Kps.refl (fun k => k = W.heap.size) y2).setCell (p := ⟨W.heap.size, 2, none⟩) rfl _) (fun k h1 h2 => by omega)).rot
      have hy03 : Y0.heap.size ≤ (y2.setCell ⟨W.heap.size, 2, none⟩ (.slice na2 (i + 1) nc2)).heap.size := HK3.out.size
      generalize y2.setCell ⟨W.heap.size, 2, none⟩ (.slice na2 (i + 1) nc2) = Y3 at HK3 HB3 HR3 hy03 ⊢
      clear hcy hfy hqy HPn hrow HAg2 hrn hgn hat hsa2 hP2 HP2 HA2 HS2 HR2 HB2 HK2 hy02
      have HF : Hid (Below w.heap.size w Y3 ∧ Blk Y3 w.heap.size 26 #[.int .i64 wi, .int .i64 pu, .slice (some ⟨b, off, none⟩) n c] ∧ Blk Y3 (w.heap.size + 1) 146 #[.slice none 0 0, .slice none 0 0, .slice none 0 0] ∧ Blk Y3 W.heap.size 146 #[.slice na0 (i + 1) nc0, .slice na1 (i + 1) nc1, .slice na2 (i + 1) nc2]) := ⟨HB3.out.1, HK3.out.blk HQ.out.1 (by omega), HK3.out.blk HQ.out.2.1 (by omega), HB3.out.2⟩
      have hs3 : V4.heap.size ≤ Y3.heap.size := by omega
      clear HK3 HB3 HQ HCE
      go_wp2
      go_roundw
      case rel => exact ⟨i + 1, _, _, _, by go_num, hil, HF, HR3, hs3⟩
      case measure => simp [intOf]; omega
    · have hil' : ¬ (i : Int) < (n : Int) := by omega
      obtain rfl : n = i := by omega
      have hsys := HB.out.2.2.2
      have hres := HB.out.2.2.1
      have HBB : Hid (Below w.heap.size w wr) := HB.out.1
      have hws := HB.out.1.size
      clear HB HA HWD
      go_wp2_with (first | (refine load_blk rfl rfl rfl hsys Tryz.underlying146 infoRw ?_) | (refine store_blkS (cs' := #[.slice aa n ac, .slice ba n bc, .slice ca n cc]) rfl rfl rfl rfl rfl hres infoRw rfl (onesRw _ _ _ _ _ _ _ _ _) ?_; intro V8 h8 hheap hoth hbel; have hb8 := hbel _ _ (by omega) HBB.out; have hb9 := hbel 0 wr (Nat.zero_le _) (Below.refl _ _); clear hoth hbel))
      have hk8 : Kps (fun k => k = w.heap.size + 1) wr V8 := ⟨hb9.os, hb9.tape, hb9.output, hb9.size, fun k _ h => hheap k h⟩
      have hRR := HR.out.kept hk8 (fun k h1 h2 => by omega)
      refine bodyPost_ret_by (result_blk rfl rfl h8 Tryz.underlying146 infoRw) rfl ⟨_, _, _, rfl, ⟨owns_low hRR.ra (by omega), owns_low hRR.rb (by omega), owns_low hRR.rc (by omega), hRR.ab, hRR.ac, hRR.bc⟩, hb8⟩

end Go.Proofs.YthnahalboomkoaaGreat

/-
  The walks of the program's values and of its polynomial with given zeros.
  (-DROP-: what the seat lacks is left out.)
-/
namespace Go.Proofs.YthnahalboomkoaaGreat
open Go.RowKit

theorem drop_here {l : List Int} {k : Nat} (h : k < l.length) : l.drop k = l.getD k 0 :: l.drop (k + 1) := by
  rw [List.drop_eq_getElem_cons h]
  simp [h]

set_option maxHeartbeats 1600000 in
set_option maxRecDepth 100000 in
theorem iAt_any (v : Value) (l : List Int) (x : Int) (hl : l.length ≤ 1048576) (w : World) (h : ZAt w w.heap.size v l) :
    Calls Tryz.prog 124 #[v, .int .i64 x] w fun e w' => e = .returned (.int .i64 (pAt l x)) ∧ Below w.heap.size w w' := by
  obtain ⟨a, cp, rfl, hA⟩ := h
  have HA : Hid (IntsAt w a l.length w.heap.size (fun j => l.getD j 0)) := hA
  clear hA
  obtain ⟨n, hn⟩ : ∃ n, n = l.length := ⟨_, rfl⟩
  have HN : Hid (n = l.length) := hn
  rw [← hn] at HA hl ⊢
  clear hn
  go_enter Tryz.func124, Tryz.ntmps124
  go_wp2
  go_loopw [5, 6] (fun y i wr => ∃ (k : Nat), i = .int .i64 ((k : Int) - 1) ∧ k ≤ n ∧ y = .int .i64 (pAt (l.drop k) x) ∧ Hid (Below w.heap.size w wr)) (fun _ i _ => (intOf i + 1).toNat)
  case atStart => exact ⟨n, rfl, Nat.le_refl _, by rw [HN.out, List.drop_length]; rfl, Below.refl _ _⟩
  case round =>
    obtain ⟨k, rfl, hk, rfl, HB⟩ := hrel
    by_cases h0 : 0 < k
    · obtain ⟨j, rfl⟩ : ∃ j, k = j + 1 := ⟨k - 1, by omega⟩
      have hi1 : ((j + 1 : Nat) : Int) - 1 = (j : Int) := by omega
      have hi2 : (0 : Int) ≤ (j : Int) := by omega
      have hi3 : (j : Int) < (n : Int) := by omega
      obtain ⟨b, off, rfl, hb, hz⟩ := (HA.out.on HB.out) j (by omega)
      replace hz : wr.cell? ⟨b, off + j, none⟩ = some (.int .i64 (l.getD j 0)) := hz
      have HP : Hid (pAt (l.drop j) x = scAdd (scMul (pAt (l.drop (j + 1)) x) x) (l.getD j 0)) := by
        show _ = _
        rw [drop_here (l := l) (k := j) (by have := HN.out; omega)]
        rfl
      have HC : Hid (∀ w, Calls Tryz.prog 56 #[.int .i64 (pAt (l.drop (j + 1)) x), .int .i64 x] w fun e w' => e = .returned (.int .i64 (scMul (pAt (l.drop (j + 1)) x) x)) ∧ w' = w) := fun w => (iScMul_any _ _ w).mono fun e w' h => ⟨h.1, h.2.symm⟩
      have HD : Hid (∀ w, Calls Tryz.prog 94 #[.int .i64 (scMul (pAt (l.drop (j + 1)) x) x), .int .i64 (l.getD j 0)] w fun e w' => e = .returned (.int .i64 (pAt (l.drop j) x)) ∧ w' = w) := fun w => by
        rw [HP.out]
        exact (iScAdd_any _ _ w).mono fun e w' h => ⟨h.1, h.2.symm⟩
      obtain ⟨r, hr⟩ : ∃ r, r = pAt (l.drop j) x := ⟨_, rfl⟩
      have HR : Hid (r = pAt (l.drop j) x) := hr
      rw [← hr] at HD
      clear hr HP
      generalize scMul (pAt (l.drop (j + 1)) x) x = p at HC HD
      generalize pAt (l.drop (j + 1)) x = q at HC
      generalize l.getD j 0 = z at HD hz
      clear hb HA
      go_wp2
      refine wp_region_still_tail 8 mixesSc (by kernel_rfl) ?_
      simp only [List.take_succ_cons, List.take_zero, List.drop_succ_cons, List.drop_zero]
      repeat still_step
      still_call (HC.out _)
      repeat still_step
      still_call (HD.out _)
      repeat still_step
      refine wpStill_nil ?_
      go_wp2
      go_roundw
      case rel => exact ⟨j, by go_num, by omega, by rw [HR.out], HB.out.drew⟩
      case measure => simp [intOf]
    · obtain rfl : k = 0 := by omega
      go_wp2
      go_ret
      exact ⟨by simp, HB.out⟩

set_option maxHeartbeats 1600000 in
set_option maxRecDepth 100000 in
theorem iZer_any (n : Int) (w : World) : Calls Tryz.prog 125 #[.int .i64 n] w fun e w' => ∃ u, e = .returned u ∧ ZOwn w.heap.size w'.heap.size w' u (pZer n) ∧ Below w.heap.size w w' := by
  by_cases h0 : n < 0
  · have HE : Hid (pZer n = []) := by show _ = _; unfold pZer; rw [if_pos (Or.inl h0)]
    go_enter Tryz.func125, Tryz.ntmps125
    go_wp2
    go_ret
    exact ⟨_, rfl, by rw [HE.out]; exact ZOwn.of (World.ownsRow_lit _ _ _ (Nat.le_refl _) (by simp [maxLen]) (by simp)), (Below.refl _ _).alloc (Nat.le_refl _) _⟩
  · by_cases h1 : n > 16
    · have HE : Hid (pZer n = []) := by show _ = _; unfold pZer; rw [if_pos (Or.inr h1)]
      go_enter Tryz.func125, Tryz.ntmps125
      go_wp2
      go_ret
      exact ⟨_, rfl, by rw [HE.out]; exact ZOwn.of (World.ownsRow_lit _ _ _ (Nat.le_refl _) (by simp [maxLen]) (by simp)), (Below.refl _ _).alloc (Nat.le_refl _) _⟩
    · obtain ⟨m, rfl⟩ : ∃ m : Nat, n = (m : Int) := ⟨n.toNat, by omega⟩
      have HE : Hid (pZer (m : Int) = zerL m) := by show _ = _; exact pZer_nat (by omega)
      have hm : m ≤ 16 := by omega
      have h0' : ¬ (m : Int) < 0 := by omega
      go_enter Tryz.func125, Tryz.ntmps125
      go_wp2
      go_loopw [3, 14] (fun u i wr => ∃ (k : Nat), i = .int .i64 (k : Int) ∧ k ≤ m ∧ Hid (ZOwn w.heap.size wr.heap.size wr u (zerL k)) ∧ Hid (Below w.heap.size w wr)) (fun _ i _ => m - (intOf i).toNat)
      case atStart => exact ⟨0, rfl, Nat.zero_le _, ZOwn.of (own_lit w [1] (by simp)), (Below.refl _ _).alloc (Nat.le_refl _) _⟩
      case round =>
        obtain ⟨k, rfl, hk, HU, HB⟩ := hrel
        obtain ⟨xa, xc, hxv⟩ := row_form HU.out.1
        subst hxv
        generalize hzl : (zerL k).length = zn at HU
        clear hzl
        by_cases hlt : k < m
        · have hlt' : (k : Int) < (m : Int) := by omega
          have hwr : IntKind.i64.wrap ((k : Int) + 1) = (k : Int) + 1 := IntWalk.i64_in _ (by omega)
          have hwn : IntKind.i64.wrap (-((k : Int) + 1)) = -((k : Int) + 1) := IntWalk.i64_in _ (by omega)
          have CM : Hid (∀ V : World, V = wr.alloc (.cells #[.int .i64 (-((k : Int) + 1)), .int .i64 1] 3) → Calls Tryz.prog 180 #[.slice xa zn xc, .slice (some ⟨wr.heap.size, 0, none⟩) 2 2] V fun e w' => ∃ x, e = .returned x ∧ ZOwn V.heap.size w'.heap.size w' x (zerL (k + 1)) ∧ Below V.heap.size V w') := fun V hV => by
            subst hV
            have hb : Below wr.heap.size wr (wr.alloc (.cells #[.int .i64 (-((k : Int) + 1)), .int .i64 1] 3)) := (Below.refl _ _).alloc (Nat.le_refl _) _
            refine iQMul_any _ _ (zerL k) [-((k : Int) + 1), 1] (zerL_len k) (by simp) _ (((HU.out.at).on hb).wide hb.size) ?_
            exact (ZOwn.of (own_lit wr [-((k : Int) + 1), 1] (by simp))).at
          clear HU
          go_wp2_with (go_at_call 180; refine (CM.out _ rfl).mono ?_; rintro e w2 ⟨x, rfl, hx, hb2⟩)
          have hs : wr.heap.size ≤ (wr.alloc (.cells #[.int .i64 (-((k : Int) + 1)), .int .i64 1] 3)).heap.size := by simp
          have HX : Hid (ZOwn w.heap.size w2.heap.size w2 x (zerL (k + 1))) := hx.wide (Nat.le_trans HB.out.size hs) (Nat.le_refl _)
          have HB2 : Hid (Below w.heap.size w w2) := (HB.out.alloc HB.out.size _).trans (hb2.mono (Nat.le_trans HB.out.size hs))
          clear hx hb2 hs CM
          go_wp2
          go_roundw
          case rel => exact ⟨k + 1, by go_num, hlt, HX, HB2⟩
          case measure => simp [intOf]; omega
        · have hlt' : ¬ (k : Int) < (m : Int) := by omega
          obtain rfl : m = k := by omega
          go_wp2
          go_ret
          exact ⟨_, rfl, by rw [HE.out]; exact HU.out, HB.out⟩

end Go.Proofs.YthnahalboomkoaaGreat

/-
  The walk of the program's polynomial through given values.
  (-DROP-: what the seat lacks is left out.)
-/
namespace Go.Proofs.YthnahalboomkoaaGreat
open Go.RowKit

theorem lit1_at (w : World) (x : Int) : ZAt (w.alloc (.cells #[.int .i64 x] 3)) (w.alloc (.cells #[.int .i64 x] 3)).heap.size (.slice (some ⟨w.heap.size, 0, none⟩) 1 1) [x] := (ZOwn.of (own_lit w [x] (by simp))).at

set_option maxHeartbeats 3200000 in
set_option maxRecDepth 100000 in
theorem iThr_any (v : Value) (l : List Int) (hl : l.length ≤ 1048576) (w : World) (h : ZAt w w.heap.size v l) : Calls Tryz.prog 179 #[v] w fun e w' => ∃ u, e = .returned u ∧ ZOwn w.heap.size w'.heap.size w' u (pThr l) ∧ Below w.heap.size w w' := by
  obtain ⟨a, cp, rfl, hA⟩ := h
  have HA : Hid (IntsAt w a l.length w.heap.size (fun j => l.getD j 0)) := hA
  clear hA
  by_cases hbig : 16 < l.length
  · have HE : Hid (pThr l = []) := by show _ = _; unfold pThr; rw [if_pos hbig]
    have hb' : (l.length : Int) > 16 := by omega
    generalize l.length = n at *
    go_enter Tryz.func179, Tryz.ntmps179
    go_wp2
    go_ret
    exact ⟨_, rfl, by rw [HE.out]; exact ZOwn.of (World.ownsRow_lit _ _ _ (Nat.le_refl _) (by simp [maxLen]) (by simp)), (Below.refl _ _).alloc (Nat.le_refl _) _⟩
  · have HE : Hid (pThr l = thrL l l.length) := by show _ = _; unfold pThr; rw [if_neg hbig]
    have hb' : ¬ (l.length : Int) > 16 := by omega
    generalize l.length = n at *
    go_enter Tryz.func179, Tryz.ntmps179
    go_wp2
    go_loopw [3, 17] (fun u i wr => ∃ (k : Nat), i = .int .i64 (k : Int) ∧ k ≤ n ∧ Hid (ZOwn w.heap.size wr.heap.size wr u (thrL l k)) ∧ Hid (Below w.heap.size w wr)) (fun _ i _ => n - (intOf i).toNat)
    case atStart => exact ⟨0, rfl, Nat.zero_le _, ZOwn.of (World.ownsRow_lit _ _ _ (Nat.le_refl _) (by simp [maxLen]) (by simp)), (Below.refl _ _).alloc (Nat.le_refl _) _⟩
    case round =>
      obtain ⟨k, rfl, hk, HU, HB⟩ := hrel
      obtain ⟨xa, xc, hxv⟩ := row_form HU.out.1
      subst hxv
      have hthr := thrL_small l k
      generalize hzl : (thrL l k).length = zn at HU
      by_cases hlt : k < n
      · have hlt' : (k : Int) < (n : Int) := by omega
        have hk0 : (0 : Int) ≤ (k : Int) := by omega
        have hwr : IntKind.i64.wrap ((k : Int) + 1) = (k : Int) + 1 := IntWalk.i64_in _ (by omega)
        obtain ⟨ba, off, rfl, hba, hz⟩ := (HA.out.on HB.out) k hlt
        replace hz : wr.cell? ⟨ba, off + k, none⟩ = some (.int .i64 (l.getD k 0)) := hz
        have CZ : Hid (∀ w, Calls Tryz.prog 125 #[.int .i64 (k : Int)] w fun e w' => ∃ u, e = .returned u ∧ ZOwn w.heap.size w'.heap.size w' u (zerL k) ∧ Below w.heap.size w w') := fun w => by
          have := iZer_any (k : Int) w
          rwa [pZer_nat (by omega)] at this
        have CT : Hid (∀ w (v : Value), ZAt w w.heap.size v (thrL l k) → Calls Tryz.prog 124 #[v, .int .i64 ((k : Int) + 1)] w fun e w' => e = .returned (.int .i64 (pAt (thrL l k) ((k : Int) + 1))) ∧ Below w.heap.size w w') := fun w v hv => iAt_any v _ _ (by omega) w hv
        have CE : Hid (∀ w (v : Value), ZAt w w.heap.size v (zerL k) → Calls Tryz.prog 124 #[v, .int .i64 ((k : Int) + 1)] w fun e w' => e = .returned (.int .i64 (pAt (zerL k) ((k : Int) + 1))) ∧ Below w.heap.size w w') := fun w v hv => iAt_any v _ _ (zerL_len k) w hv
        have CN : Hid (∀ w, Calls Tryz.prog 204 #[.int .i64 (pAt (thrL l k) ((k : Int) + 1))] w fun e w' => e = .returned (.int .i64 (scNeg (pAt (thrL l k) ((k : Int) + 1)))) ∧ w = w') := iScNeg_any _
        have CA : Hid (∀ w, Calls Tryz.prog 94 #[.int .i64 (l.getD k 0), .int .i64 (scNeg (pAt (thrL l k) ((k : Int) + 1)))] w fun e w' => e = .returned (.int .i64 (scAdd (l.getD k 0) (scNeg (pAt (thrL l k) ((k : Int) + 1))))) ∧ w = w') := iScAdd_any _ _
        have CI : Hid (∀ w, Calls Tryz.prog 96 #[.int .i64 (pAt (zerL k) ((k : Int) + 1))] w fun e w' => e = .returned (.int .i64 (scInv (pAt (zerL k) ((k : Int) + 1)))) ∧ w = w') := iScInv_any _
        have CM : Hid (∀ w, Calls Tryz.prog 56 #[.int .i64 (scAdd (l.getD k 0) (scNeg (pAt (thrL l k) ((k : Int) + 1)))), .int .i64 (scInv (pAt (zerL k) ((k : Int) + 1)))] w fun e w' => e = .returned (.int .i64 (thrF l (thrL l k) k)) ∧ w = w') := iScMul_any _ _
        have CP : Hid (∀ w (u v : Value), ZAt w w.heap.size u [thrF l (thrL l k) k] → ZAt w w.heap.size v (zerL k) → Calls Tryz.prog 180 #[u, v] w fun e w' => ∃ u, e = .returned u ∧ ZOwn w.heap.size w'.heap.size w' u (qMul [thrF l (thrL l k) k] (zerL k)) ∧ Below w.heap.size w w') := fun w u v h1 h2 => iQMul_any u v _ _ (by simp) (zerL_len k) w h1 h2
        have CS : Hid (∀ w (u v : Value), ZAt w w.heap.size u (thrL l k) → ZAt w w.heap.size v (qMul [thrF l (thrL l k) k] (zerL k)) → Calls Tryz.prog 205 #[u, v] w fun e w' => ∃ u, e = .returned u ∧ ZOwn w.heap.size w'.heap.size w' u (thrL l (k + 1)) ∧ Below w.heap.size w w') := fun w u v h1 h2 => iQAdd_any u v _ _ (by omega) (qMul_len _ _) w h1 h2
        clear hzl hthr hba
        generalize thrF l (thrL l k) k = fac at CM CP CS
        generalize qMul [fac] (zerL k) = pm at CP CS
        generalize scAdd (l.getD k 0) (scNeg (pAt (thrL l k) ((k : Int) + 1))) = q1 at CA CM
        generalize scNeg (pAt (thrL l k) ((k : Int) + 1)) = q2 at CN CA
        generalize pAt (thrL l k) ((k : Int) + 1) = q3 at CT CN
        generalize scInv (pAt (zerL k) ((k : Int) + 1)) = q4 at CI CM
        generalize pAt (zerL k) ((k : Int) + 1) = q5 at CE CI
        generalize l.getD k 0 = y at hz CA
        generalize ht2 : thrL l (k + 1) = t2 at CS
        have HT2 : Hid (thrL l (k + 1) = t2) := ht2
        clear ht2
        generalize thrL l k = t1 at HU CT CS
        generalize zerL k = z1 at CZ CE CP
        go_wp2_with fail
        go_at_call 125
        refine (CZ.out _).mono ?_
        rintro e w1 ⟨zv, rfl, hzv, hb1⟩
        have HZ1 : Hid (ZOwn wr.heap.size w1.heap.size w1 zv z1 ∧ Below wr.heap.size wr w1) := ⟨hzv, hb1⟩
        clear hzv hb1
        go_wp2_with fail
        go_at_call 124
        refine (CT.out _ _ ((HU.out.at.on HZ1.out.2).wide HZ1.out.2.size)).mono ?_
        rintro e w2 ⟨rfl, hb2⟩
        have HB2 : Hid (Below w1.heap.size w1 w2) := hb2
        clear hb2
        go_wp2_with fail
        go_at_call 204
        refine (CN.out _).mono ?_
        rintro e wz ⟨rfl, rfl⟩
        go_wp2_with fail
        go_at_call 94
        refine (CA.out _).mono ?_
        rintro e wz ⟨rfl, rfl⟩
        go_wp2_with fail
        go_at_call 124
        refine (CE.out _ _ ((HZ1.out.1.at.on HB2.out).wide HB2.out.size)).mono ?_
        rintro e w3 ⟨rfl, hb3⟩
        have HB3 : Hid (Below w1.heap.size w1 w3) := HB2.out.trans (hb3.mono HB2.out.size)
        clear hb3
        go_wp2_with fail
        go_at_call 96
        refine (CI.out _).mono ?_
        rintro e wz ⟨rfl, rfl⟩
        go_wp2_with fail
        go_at_call 56
        refine (CM.out _).mono ?_
        rintro e wz ⟨rfl, rfl⟩
        go_wp2_with fail
        have HB4 : Hid (Below w1.heap.size w1 (w3.alloc (.cells #[.int .i64 fac] 3))) := HB3.out.alloc HB3.out.size _
        have HL4 : Hid (ZAt (w3.alloc (.cells #[.int .i64 fac] 3)) (w3.alloc (.cells #[.int .i64 fac] 3)).heap.size (.slice (some ⟨w3.heap.size, 0, none⟩) 1 1) [fac]) := lit1_at w3 fac
        generalize w3.alloc (.cells #[.int .i64 fac] 3) = w4 at HB4 HL4 ⊢
        go_at_call 180
        refine (CP.out _ _ _ HL4.out ((HZ1.out.1.at.on HB4.out).wide HB4.out.size)).mono ?_
        rintro e w5 ⟨pv, rfl, hpv, hb5⟩
        have HB5 : Hid (Below wr.heap.size wr w5) := HZ1.out.2.trans ((HB4.out.trans (hb5.mono HB4.out.size)).mono HZ1.out.2.size)
        have HP5 : Hid (ZAt w5 w5.heap.size pv pm) := hpv.at
        clear hpv hb5
        go_wp2_with fail
        go_at_call 205
        refine (CS.out _ _ _ ((HU.out.at.on HB5.out).wide HB5.out.size) HP5.out).mono ?_
        rintro e w6 ⟨nv, rfl, hnv, hb6⟩
        have hws : w.heap.size ≤ w5.heap.size := Nat.le_trans HB.out.size HB5.out.size
        have HB6 : Hid (Below w.heap.size w w6) := (HB.out.trans (HB5.out.mono HB.out.size)).trans (hb6.mono hws)
        have HN6 : Hid (ZOwn w.heap.size w6.heap.size w6 nv t2) := hnv.wide hws (Nat.le_refl _)
        clear hnv hb6 hws HP5 HB5 HB4 HL4 HB3 HB2 HZ1 CS CP CM CI CA CN CE CT CZ HU
        go_wp2
        go_roundw
        case rel => exact ⟨k + 1, by go_num, hlt, by rw [HT2.out]; exact HN6, HB6⟩
        case measure => simp [intOf]; omega
      · have hlt' : ¬ (k : Int) < (n : Int) := by omega
        obtain rfl : n = k := by omega
        clear hzl hthr
        go_wp2
        go_ret
        exact ⟨_, rfl, by rw [HE.out]; exact HU.out, HB.out⟩

end Go.Proofs.YthnahalboomkoaaGreat
