/-
  Texts of one's own, joined.
-/
import Derived.Test.YtbkfdafdchjakaaJoined14
import Derived.Test.YtbkfdafdchjakaaJoined8
import Derived.Test.YtbkfdafdchjakaaJoined9
import Derived.Test.YtbkfdafdchjakaaJoined6
import Derived.Test.YtbkfdafdchjakaaJoined7
import Derived.Test.YtbkfdafdchjakaaJoined10
import Derived.Lib.MinMax

/-
  The walks of the program's word on the numbers of keys.
  (-DROP-: what the seat lacks is left out.)
-/
namespace Go.Proofs.Ytbkfdafdchjakaa
open Go.RowKit

theorem scal_of {x : Int} (h0 : x ≠ 0) : scalB x = decide (x = sca x) := by
  unfold scalB
  rw [Bool.eq_iff_iff, decide_eq_true_eq, decide_eq_true_eq, sca_id]
  omega

set_option maxHeartbeats 800000 in
set_option maxRecDepth 100000 in
theorem iFactor_any (x : Int) (w : World) : Calls Try.prog 27 #[.int .i64 x] w fun e w' => e = .returned (.bool (scalB x)) ∧ w = w' := by
  by_cases h0 : x = 0
  · subst h0
    go_enter Try.func27, Try.ntmps27
    go_wp2
    go_ret
    exact ⟨rfl, rfl⟩
  · have HI : Hid (∀ w, Calls Try.prog 58 #[.int .i64 x] w fun e w' => e = .returned (.int .i64 (sca x)) ∧ w = w') := iScOf_any _
    have HE : Hid (scalB x = decide (x = sca x)) := scal_of h0
    have h1 : (x == 0) = false := by rw [beq_eq_false_iff_ne]; exact h0
    have h2 : (x != 0) = true := by rw [bne_iff_ne]; exact h0
    generalize sca x = y at HI HE
    clear h0
    by_cases hxy : x = y
    · have HX : Hid (scalB x = true) := by show _ = _; rw [HE.out, decide_eq_true hxy]
      subst hxy
      go_enter Try.func27, Try.ntmps27
      go_wp2_with (go_at_call 58; refine (HI.out _).mono ?_; rintro e w1 ⟨rfl, rfl⟩)
      go_ret
      exact ⟨by rw [HX.out]; rfl, rfl⟩
    · have HX : Hid (scalB x = false) := by show _ = _; rw [HE.out, decide_eq_false hxy]
      have hxy' : (x == y) = false := by rw [beq_eq_false_iff_ne]; exact hxy
      go_enter Try.func27, Try.ntmps27
      go_wp2_with (go_at_call 58; refine (HI.out _).mono ?_; rintro e w1 ⟨rfl, rfl⟩)
      go_ret
      exact ⟨by rw [HX.out]; rfl, rfl⟩

/-- So many of the first are scalars that are not 0. -/
def fN (l : List Int) (k : Nat) : Bool := (l.take k).all scalB
theorem fN_next (l : List Int) {k : Nat} (h : k < l.length) : fN l (k + 1) = (fN l k && scalB (l.getD k 0)) := by
  have e : l.getD k 0 = l[k] := by simp [h]
  unfold fN
  rw [List.take_succ_eq_append_getElem h, List.all_append, e]
  simp
theorem fN_false (l : List Int) {k : Nat} (h : fN l k = false) : l.all scalB = false := by
  have e : l.all scalB = (fN l k && (l.drop k).all scalB) := by
    unfold fN
    rw [← List.all_append, List.take_append_drop]
  rw [e, h]
  rfl
theorem infoTxI : (Try.prog.info? 31).map (·.size) = some 5 := by kernel_rfl
theorem blk_at5 {w : World} {g t : Nat} {l : List Int} (h : Blk w g t #[.int .i64 (l.getD 0 0), .int .i64 (l.getD 1 0), .int .i64 (l.getD 2 0), .int .i64 (l.getD 3 0), .int .i64 (l.getD 4 0)]) : ∀ k, k < 5 → w.cell? ⟨g, k, none⟩ = some (.int .i64 (l.getD k 0)) := fun k hk => by
  match k, hk with
  | 0, _ => exact h.cell 0
  | 1, _ => exact h.cell 1
  | 2, _ => exact h.cell 2
  | 3, _ => exact h.cell 3
  | 4, _ => exact h.cell 4

set_option maxHeartbeats 3200000 in
set_option maxRecDepth 100000 in
theorem iToxic_any (wi pu : Int) (hwf : (Lit.int .i64 wi).wf = true) (a : Option Addr) (n c : Nat) (hn : n ≤ 9223372036854775807) (ls : List (List Int)) (hz : ∀ j, (ls.getD j []).length ≤ 9223372036854775807) (ta al be ga de : Int) (w : World) (hA : NAt 3 w w.heap.size (.slice a n c) n ls) :
    Calls Try.prog 16 #[.agg #[.int .i64 wi, .int .i64 pu, .slice a n c], .agg #[.int .i64 ta, .int .i64 al, .int .i64 be, .int .i64 ga, .int .i64 de]] w fun e w' => e = .returned (.bool (toxB wi pu n ls ta al be ga de)) ∧ Below w.heap.size w w' := by
  obtain ⟨W, hW, hb, hs, hr⟩ := boxes1r w 26 31 #[.int .i64 wi, .int .i64 pu, .slice a n c] #[.int .i64 ta, .int .i64 al, .int .i64 be, .int .i64 ga, .int .i64 de]
  have CS : Hid (∀ V, Below w.heap.size w V → Calls Try.prog 42 #[.agg #[.int .i64 wi, .int .i64 pu, .slice a n c]] V fun e w' => e = .returned (.bool (sysOk wi pu n ls)) ∧ Below V.heap.size V w') := fun V hV => iSysOk_any wi pu hwf a n c hn ls hz V ((hA.on hV).wide hV.size)
  have HT : Hid (toxB wi pu n ls ta al be ga de = (sysOk wi pu n ls && ([ta, al, be, ga, de].all scalB && decide ((n : Int) < ta)))) := by
    show _ = _
    unfold toxB
    simp [Bool.and_assoc]
  have HB : Hid (Below w.heap.size w W) := hb
  clear hA hz hwf
  go_enter Try.func16, Try.ntmps16
  go_wp2_with (refine load_blk rfl rfl rfl hs Try.underlying26 infoSy ?_)
  clear hW
  refine (CS.out _ HB.out).mono ?_
  rintro e w1 ⟨rfl, hb1⟩
  have hs1 := hs.on hb1 hs.lt
  have hr1 := hr.on hb1 hr.lt
  have HB1 : Hid (Below w.heap.size w w1) := HB.out.trans (hb1.mono HB.out.size)
  have q0 : w1.cell? ⟨w.heap.size + 1, 0, none⟩ = some (.int .i64 ta) := hr1.cell 0
  have q1 : w1.cell? ⟨w.heap.size + 1, 1, none⟩ = some (.int .i64 al) := hr1.cell 1
  have q2 : w1.cell? ⟨w.heap.size + 1, 2, none⟩ = some (.int .i64 be) := hr1.cell 2
  have q3 : w1.cell? ⟨w.heap.size + 1, 3, none⟩ = some (.int .i64 ga) := hr1.cell 3
  have q4 : w1.cell? ⟨w.heap.size + 1, 4, none⟩ = some (.int .i64 de) := hr1.cell 4
  have qs : w1.cell? ⟨w.heap.size, 2, none⟩ = some (.slice a n c) := hs1.cell 2
  clear hb1 hs hr hs1 hr1 CS HB
  cases h0 : sysOk wi pu n ls
  · have HE : Hid (toxB wi pu n ls ta al be ga de = false) := by show _ = _; rw [HT.out, h0]; rfl
    go_wp2
    go_ret
    exact ⟨by rw [HE.out]; rfl, HB1.out⟩
  · rw [h0, Bool.true_and] at HT
    by_cases hta : ta ≤ (n : Int)
    · have HE : Hid (toxB wi pu n ls ta al be ga de = false) := by show _ = _; rw [HT.out, decide_eq_false (show ¬ (n : Int) < ta by omega), Bool.and_false]
      go_wp2
      go_ret
      exact ⟨by rw [HE.out]; rfl, HB1.out⟩
    · rw [decide_eq_true (show (n : Int) < ta by omega), Bool.and_true] at HT
      obtain ⟨l, hl⟩ : ∃ l : List Int, l = [ta, al, be, ga, de] := ⟨_, rfl⟩
      have HL : Hid (l.length = 5) := by show _ = _; rw [hl]; rfl
      obtain ⟨V0, hV0, hb0, hs0⟩ := box1 w1 3 #[.int .i64 ta, .int .i64 al, .int .i64 be, .int .i64 ga, .int .i64 de]
      have HC : Hid (∀ k, k < 5 → V0.cell? ⟨w1.heap.size, k, none⟩ = some (.int .i64 (l.getD k 0))) := blk_at5 (by rw [hl]; exact hs0)
      rw [← hl] at HT
      have HBV : Hid (Below w.heap.size w V0) := HB1.out.trans (hb0.mono HB1.out.size)
      have HF : Hid (∀ x w, Calls Try.prog 27 #[.int .i64 x] w fun e w' => e = .returned (.bool (scalB x)) ∧ w = w') := iFactor_any
      clear hl hs0 hb0
      go_wp2
      clear q0 q1 q2 q3 q4 qs hV0
      go_loopw [30] (fun i wr => ∃ k : Nat, i = .int .i64 (k : Int) ∧ k ≤ 5 ∧ Hid (fN l k = true) ∧ V0 = wr) (fun i _ => 5 - (intOf i).toNat)
      case atStart => exact ⟨0, rfl, Nat.zero_le _, rfl, rfl⟩
      case round =>
        obtain ⟨k, rfl, hk, HS, rfl⟩ := hrel
        by_cases hlt : k < 5
        · have hlt' : (k : Int) < 5 := by omega
          have hk0 : (0 : Int) ≤ (k : Int) := by omega
          have hz := HC.out k hlt
          have HX : Hid (fN l (k + 1) = scalB (l.getD k 0)) := by show _ = _; rw [fN_next l (by rw [HL.out]; exact hlt), HS.out, Bool.true_and]
          have HI : Hid (∀ w, Calls Try.prog 27 #[.int .i64 (l.getD k 0)] w fun e w' => e = .returned (.bool (scalB (l.getD k 0))) ∧ w = w') := HF.out _
          generalize scalB (l.getD k 0) = b at HX HI
          generalize l.getD k 0 = x at hz HI
          cases b
          · have HE : Hid (toxB wi pu n ls ta al be ga de = false) := by show _ = _; rw [HT.out]; exact fN_false l HX.out
            go_wp2_with (go_at_call 27; refine (HI.out _).mono ?_; rintro e w2 ⟨rfl, rfl⟩)
            go_ret
            exact ⟨by rw [HE.out]; rfl, HBV.out⟩
          · go_wp2_with (go_at_call 27; refine (HI.out _).mono ?_; rintro e w2 ⟨rfl, rfl⟩)
            go_roundw
            case rel => exact ⟨k + 1, by go_num, hlt, HX, by trivial⟩
            case measure => simp [intOf]; omega
        · have hlt' : ¬ (k : Int) < 5 := by omega
          have HE : Hid (toxB wi pu n ls ta al be ga de = true) := by
            show _ = _
            have h := HS.out
            unfold fN at h
            rw [show k = 5 by omega, ← HL.out, List.take_length] at h
            rw [HT.out, h]
          go_wp2
          go_ret
          exact ⟨by rw [HE.out]; rfl, HBV.out⟩

end Go.Proofs.Ytbkfdafdchjakaa

/-
  What is mixed in one list from the first to the last: no program in here.
-/
namespace Go.Proofs.Ytbkfdafdchjakaa

/-- In one list, each so often. -/
def mixS (L : List (List Int)) (w : List Int) (n : Nat) : Nat → List Int
  | 0 => List.replicate n 0
  | k + 1 => addSh (mixS L w n k) 0 (w.getD k 0) (L.getD k [])
theorem mixS_len (L : List (List Int)) (w : List Int) (n : Nat) : ∀ k, (mixS L w n k).length = n
  | 0 => by rw [mixS, List.length_replicate]
  | k + 1 => by rw [mixS, addSh_len, mixS_len L w n k]
theorem mixS_sc (L : List (List Int)) (w : List Int) (n : Nat) : ∀ k, (∀ i, i < k → (L.getD i []).length ≤ n) → ∀ j, Sc ((mixS L w n k).getD j 0)
  | 0, _, j => by rw [mixS, rep_at]; exact sc_zero
  | k + 1, h, j => by
    rw [mixS]
    exact addSh_sc 0 _ (by rw [mixS_len]; have := h k (by omega); omega) (mixS_sc L w n k fun i hi => h i (by omega)) j
theorem mixS_at (j : Nat) (L : List (List Int)) (w : List Int) (n : Nat) : ∀ k, (∀ i, i < k → (L.getD i []).length ≤ n) → Dp ((mixS L w n k).getD j 0 - sumZ (fun i => w.getD i 0 * (L.getD i []).getD j 0) k)
  | 0, _ => by
    rw [mixS, rep_at]
    exact dp_zero.of (by show (0 : Int) - 0 = 0; omega)
  | k + 1, h => by
    have ih := mixS_at j L w n k fun i hi => h i (by omega)
    have hl : 0 + (L.getD k []).length ≤ (mixS L w n k).length := by rw [mixS_len]; have := h k (by omega); omega
    rw [mixS, addSh_at _ 0 _ _ hl j, sumZ]
    unfold shF
    by_cases hj : j < (L.getD k []).length
    · rw [if_pos (by omega), Nat.sub_zero]
      exact ((dp_scAdd ((mixS L w n k).getD j 0) (scMul (w.getD k 0) ((L.getD k []).getD j 0))).add ((dp_scMul (w.getD k 0) ((L.getD k []).getD j 0)).add ih)).of (by omega)
    · rw [if_neg (by omega), getD_out (l := L.getD k []) (by omega)]
      exact ih.of (by omega)
theorem mix_same (L : List (List Int)) (w : List Int) (n k : Nat) (h : ∀ i, i < k → (L.getD i []).length ≤ n) : trimZ (mixS L w n k) = mixN L w k :=
  can_eq (Can.of_trim _ (mixS_sc L w n k h)) (mixN_can L w k) fun j => by
    rw [trimZ_at]
    exact ((mixS_at j L w n k h).sub (mixN_at j L w k)).of (by omega)

/-- The greatest length of the first so many. -/
def maxLn (L : List (List Int)) : Nat → Nat
  | 0 => 0
  | k + 1 => max (maxLn L k) (L.getD k []).length
theorem maxLn_le (L : List (List Int)) : ∀ k i, i < k → (L.getD i []).length ≤ maxLn L k
  | 0, _, h => by omega
  | k + 1, i, h => by
    rw [maxLn]
    by_cases e : i = k
    · subst e; omega
    · have := maxLn_le L k i (by omega); omega
theorem maxLn_big (L : List (List Int)) (b : Nat) (h : ∀ j, (L.getD j []).length ≤ b) : ∀ k, maxLn L k ≤ b
  | 0 => Nat.zero_le _
  | k + 1 => by rw [maxLn]; have := maxLn_big L b h k; have := h k; omega
theorem pMix_same (L : List (List Int)) (w : List Int) : trimZ (mixS L w (maxLn L (min L.length w.length)) (min L.length w.length)) = pMix L w := mix_same L w _ _ (maxLn_le L _)

/-- One less another. -/
theorem mix_less (p c : List Int) : pMix [p, c] [1, -1] = qAdd p (scl c (-1)) := can_eq (mixN_can _ _ _) (qAdd_can _ _) fun j => by
  have h1 := mixN_at j [p, c] [1, -1] 2
  have h2 := qAdd_at p (scl c (-1)) j
  have h3 := scl_at c (-1) j
  have e : sumZ (fun i => ([1, -1] : List Int).getD i 0 * (([p, c] : List (List Int)).getD i []).getD j 0) 2 = 0 + 1 * p.getD j 0 + -1 * c.getD j 0 := rfl
  rw [e] at h1
  exact ((h1.sub h2).sub h3).of (by show (mixN [p, c] [1, -1] 2).getD j 0 - _ = _; omega)

end Go.Proofs.Ytbkfdafdchjakaa

/-
  The walks of the program's sum and of its values.
  (-DROP-: what the seat lacks is left out.)
-/
namespace Go.Proofs.Ytbkfdafdchjakaa
open Go.RowKit

set_option maxHeartbeats 800000 in
set_option maxRecDepth 100000 in
theorem at_any (v : Value) (l : List Int) (k : Nat) (c : Nat) (w : World) (h : ZAt w c v l) :
    Calls Try.prog 106 #[v, .int .i64 (k : Int)] w fun e w' => e = .returned (.int .i64 (l.getD k 0)) ∧ w = w' := by
  obtain ⟨a, cp, rfl, hA⟩ := h
  have hk0 : (0 : Int) ≤ (k : Int) := by omega
  by_cases hlt : k < l.length
  · obtain ⟨b, off, rfl, hb, hz⟩ := hA k hlt
    replace hz : w.cell? ⟨b, off + k, none⟩ = some (.int .i64 (l.getD k 0)) := hz
    generalize l.getD k 0 = z at hz ⊢
    have hlt' : (k : Int) < (l.length : Int) := by omega
    clear hA
    generalize l.length = n at *
    go_enter Try.func106, Try.ntmps106
    go_wp2
    go_ret
    exact ⟨rfl, rfl⟩
  · have hz : l.getD k 0 = 0 := getD_out (by omega)
    rw [hz]
    have hlt' : ¬ (k : Int) < (l.length : Int) := by omega
    clear hA hz
    generalize l.length = n at *
    go_enter Try.func106, Try.ntmps106
    go_wp2
    go_ret
    exact ⟨rfl, rfl⟩

set_option maxHeartbeats 1600000 in
set_option maxRecDepth 100000 in
theorem with_any (v u : Value) (l m : List Int) (hl : l.length ≤ 1048576) (hm : m.length ≤ 1048576) (w : World) (h : ZAt w w.heap.size v l) (h2 : ZAt w w.heap.size u m) :
    Calls Try.prog 104 #[v, u, .func (Fn.func 28) #[] #[]] w fun e w' => ∃ x, e = .returned x ∧ RowZs w.heap.size w' x (zls (fun j => scAdd (l.getD j 0) (m.getD j 0)) (max l.length m.length)) ∧ Below w.heap.size w w' := by
  have HA : Hid (ZAt w w.heap.size v l) := h
  have HB : Hid (ZAt w w.heap.size u m) := h2
  obtain ⟨a, cp, rfl, hA⟩ := h
  obtain ⟨b, cq, rfl, hB⟩ := h2
  clear hA hB
  obtain ⟨n, hn⟩ : ∃ n, n = max l.length m.length := ⟨_, rfl⟩
  rw [← hn]
  have hnl : l.length ≤ n ∧ m.length ≤ n ∧ n ≤ 1048576 := by omega
  have hmax : max (l.length : Int) (m.length : Int) = (n : Int) := by omega
  obtain ⟨f, hf⟩ : ∃ f : Nat → Int, f = fun j => scAdd (l.getD j 0) (m.getD j 0) := ⟨_, rfl⟩
  have HF : Hid (∀ j, f j = scAdd (l.getD j 0) (m.getD j 0)) := fun j => by rw [hf]
  rw [← hf]
  have hmk : ∀ W : World, (Instr.makeSlice 140 (.int .i64 (n : Int)) (.int .i64 (n : Int))).run Try.prog W = .ok (.slice (some ⟨W.heap.size, 0, none⟩) n n) (W.alloc (.cells (ic (fun _ => 0) n) 3)) := fun W => make_nums n n (Nat.le_refl _) (by omega) W
  have H0 : Hid (RowI (w.alloc (.cells (ic (fun _ => 0) n) 3)) w.heap.size n (upTo f 0)) := (rowI_new w (fun _ => 0) n).congr fun j _ => by unfold upTo; rw [if_neg (by omega)]
  generalize ic (fun _ => 0) n = M at hmk H0
  have HLA : Hid (∃ la, la = l.length) := ⟨_, rfl⟩
  clear hn hf
  generalize hla : l.length = la at *
  generalize hlb : m.length = lb at *
  have HLa : Hid (l.length = la) := hla
  have HLb : Hid (m.length = lb) := hlb
  clear hla hlb HLA
  go_enter Try.func104, Try.ntmps104
  go_wp2
  go_loopw [17] (fun i wr => ∃ k : Nat, i = .int .i64 (k : Int) ∧ k ≤ n ∧ Hid (RowI wr w.heap.size n (upTo f k)) ∧ Hid (Below w.heap.size w wr)) (fun i _ => n - (intOf i).toNat)
  case atStart => exact ⟨0, rfl, Nat.zero_le _, H0, (Below.refl _ _).alloc (Nat.le_refl _) _⟩
  case round =>
    obtain ⟨k, rfl, hk, HR, HW⟩ := hrel
    clear hmk H0 hmax
    by_cases hlt : k < n
    · have hlt' : (k : Int) < (n : Int) := by omega
      have hk0 : (0 : Int) ≤ (k : Int) := by omega
      have C1 : Hid (Calls Try.prog 106 #[.slice a la cp, .int .i64 (k : Int)] wr fun e w' => e = .returned (.int .i64 (l.getD k 0)) ∧ wr = w') := at_any _ _ _ w.heap.size _ (HA.out.on HW.out)
      have C2 : Hid (Calls Try.prog 106 #[.slice b lb cq, .int .i64 (k : Int)] wr fun e w' => e = .returned (.int .i64 (m.getD k 0)) ∧ wr = w') := at_any _ _ _ w.heap.size _ (HB.out.on HW.out)
      have C3 : Hid (∀ w, Calls Try.prog 28 #[.int .i64 (l.getD k 0), .int .i64 (m.getD k 0)] w fun e w' => e = .returned (.int .i64 (f k)) ∧ w = w') := fun w => by rw [HF.out k]; exact iScAdd_any _ _ w
      have hc := HR.out.cell hlt
      have hf := HR.out.free k
      have N := HR.out.set k (f k)
      have NB := HW.out.setCell (p := ⟨w.heap.size, k, none⟩) (Nat.le_refl _) (.int .i64 (f k))
      have hu : (fun i => if i = k then f k else upTo f k i) = upTo f (k + 1) := upTo_next _ _
      rw [hu] at N
      have HN2 : Hid (RowI (wr.setCell ⟨w.heap.size, k, none⟩ (.int .i64 (f k))) w.heap.size n (upTo f (k + 1)) ∧ Below w.heap.size w (wr.setCell ⟨w.heap.size, k, none⟩ (.int .i64 (f k)))) := ⟨N, NB⟩
      obtain ⟨F, hF⟩ : ∃ F, F = upTo f (k + 1) := ⟨_, rfl⟩
      have HFF : Hid (F = upTo f (k + 1)) := hF
      rw [← hF] at HN2
      clear hF hu N NB
      generalize upTo f k k = old at hc
      generalize f k = y at C3 HN2
      generalize l.getD k 0 = x1 at C1 C3
      generalize m.getD k 0 = x2 at C2 C3
      clear HA HB HR HW HF HLa HLb
      go_wp2_with fail
      go_at_call 106
      refine C1.out.mono ?_
      rintro e wz ⟨rfl, rfl⟩
      go_wp2_with fail
      go_at_call 106
      refine C2.out.mono ?_
      rintro e wz ⟨rfl, rfl⟩
      go_wp2_with (go_at_call 28; refine (C3.out _).mono ?_; rintro e wz ⟨rfl, rfl⟩)
      go_roundw
      case rel => exact ⟨k + 1, by go_num, hlt, HFF.out ▸ HN2.out.1, HN2.out.2⟩
      case measure => simp [intOf]; omega
    · have hlt' : ¬ (k : Int) < (n : Int) := by omega
      obtain rfl : n = k := by omega
      go_wp2
      go_ret
      refine ⟨_, rfl, ?_, HW.out⟩
      exact (HR.out.congr fun j hj => upTo_in _ hj).rowZ (Nat.le_refl _) hnl.2.2

theorem add_same (l m : List Int) : trimZ (zls (fun j => scAdd (l.getD j 0) (m.getD j 0)) (max l.length m.length)) = qAdd l m := by
  have hz : ∀ (f : Nat → Int) (n j : Nat), (∀ j, n ≤ j → f j = 0) → (zls f n).getD j 0 = f j := fun f n j h => by
    by_cases hj : j < n
    · exact zls_at f hj
    · rw [getD_out (by rw [zls_length]; omega), h j (by omega)]
  have h1 : ∀ j, max l.length m.length ≤ j → scAdd (l.getD j 0) (m.getD j 0) = 0 := fun j hj => by
    rw [getD_out (l := l) (by omega), getD_out (l := m) (by omega)]; rfl
  have h2 : ∀ j, max l.length m.length ≤ j → padF l m j = 0 := fun j hj => by
    unfold padF
    rw [if_neg (by omega), if_neg (by omega)]
  refine can_eq (Can.of_trim _ fun j => ?_) (pTrim_can _) fun j => ?_
  · rw [hz _ _ _ h1]
    exact sc_add _ _
  · unfold qAdd
    rw [trimZ_at, hz _ _ _ h1, pTrim_at]
    have e : (List.map (padF l m) (List.range (max l.length m.length))).getD j 0 = padF l m j := hz _ _ _ h2
    rw [e]
    have e2 : sca (padF l m j) = scAdd (l.getD j 0) (m.getD j 0) := by
      unfold padF
      by_cases hb : j < m.length <;> by_cases ha : j < l.length
      · simp only [if_pos hb, if_pos ha, scAdd_eq, sca_sca, Int.zero_add, sca_add_left]
      · simp only [if_pos hb, if_neg ha, scAdd_eq, sca_sca]
        rw [getD_out (l := l) (by omega)]
      · simp only [if_neg hb, if_pos ha, scAdd_eq, sca_sca, Int.zero_add]
        rw [getD_out (l := m) (by omega), Int.add_zero]
      · simp only [if_neg hb, if_neg ha]
        rw [getD_out (l := l) (by omega), getD_out (l := m) (by omega)]
        rfl
    rw [e2]
    exact dp_zero.of (by omega)

theorem iQAdd_any (v u : Value) (l m : List Int) (hl : l.length ≤ 1048576) (hm : m.length ≤ 1048576) (w : World) (h : ZAt w w.heap.size v l) (h2 : ZAt w w.heap.size u m) : Calls Try.prog 97 #[v, u] w fun e w' => ∃ u, e = .returned u ∧ ZOwn w.heap.size w'.heap.size w' u (qAdd l m) ∧ Below w.heap.size w w' := by
  have HE : Hid (Calls Try.prog 104 #[v, u, .func (Fn.func 28) #[] #[]] w fun e w' => ∃ x, e = .returned x ∧ RowZs w.heap.size w' x (zls (fun j => scAdd (l.getD j 0) (m.getD j 0)) (max l.length m.length)) ∧ Below w.heap.size w w') := with_any v u l m hl hm w h h2
  have HT : Hid (∀ (x : Value) (B : Nat) (W : World), RowZs B W x (zls (fun j => scAdd (l.getD j 0) (m.getD j 0)) (max l.length m.length)) → Calls Try.prog 99 #[x] W fun e w' => ∃ x, e = .returned x ∧ RowZs B W x (qAdd l m) ∧ W = w') := fun x B W hu => (trimmed_any x _ (by rw [zls_length]; omega) B W hu).mono fun e w' ⟨a, n, c, h1, h2, h3, h4⟩ => ⟨_, h2, by rw [← add_same]; exact h3, h4⟩
  clear h h2 hl hm
  go_enter Try.func97, Try.ntmps97
  go_wp2_with (first
    | (go_at_call 104; refine (HE.out).mono ?_; rintro e w2 ⟨x, rfl, hu, hb⟩)
    | (go_at_call 99; refine (HT.out _ _ _ hu).mono ?_; rintro e w3 ⟨x, rfl, hx, rfl⟩))
  go_ret
  exact ⟨_, rfl, ZOwn.of hx, hb⟩

end Go.Proofs.Ytbkfdafdchjakaa

/-
  The walks of the program's product.
  (-DROP-: what the seat lacks is left out.)
-/
namespace Go.Proofs.Ytbkfdafdchjakaa
open Go.RowKit

/-- A list of numbers that lies elsewhere. -/
def ZFar (w : World) (g : Nat) (u : Value) (b : List Int) : Prop := ∃ a cp, u = .slice a b.length cp ∧ ∀ j, j < b.length → ∃ k off, a = some ⟨k, off, none⟩ ∧ k ≠ g ∧ w.cell? ⟨k, off + j, none⟩ = some (.int .i64 (b.getD j 0))
theorem ZFar.of_at {w : World} {c g : Nat} {u : Value} {b : List Int} (h : ZAt w c u b) (hc : c ≤ g) : ZFar w g u b := by
  obtain ⟨a, cp, rfl, hA⟩ := h
  refine ⟨a, cp, rfl, fun j hj => ?_⟩
  obtain ⟨k, off, h1, h2, h3⟩ := hA j hj
  exact ⟨k, off, h1, by omega, h3⟩
theorem ZFar.of_row {w : World} {B g : Nat} {u : Value} {b : List Int} (h : RowZs B w u b) (hg : u.ownBlock ≠ some g) : ZFar w g u b := by
  obtain ⟨a, cp, hv⟩ := row_form h
  refine ⟨a, cp, hv, fun j hj => ?_⟩
  obtain ⟨k, c, h1, h2, h3, h4, _⟩ := h.cellZ hj
  rw [hv] at h1
  injection h1 with e1
  refine ⟨k, 0, e1, ?_, by rw [Nat.zero_add]; exact h4⟩
  intro e
  subst e
  exact hg (by rw [hv, e1]; rfl)
theorem ZFar.set {w : World} {g : Nat} {u : Value} {b : List Int} (h : ZFar w g u b) (j : Nat) (x : Value) : ZFar (w.setCell ⟨g, j, none⟩ x) g u b := by
  obtain ⟨a, cp, rfl, hA⟩ := h
  refine ⟨a, cp, rfl, fun i hi => ?_⟩
  obtain ⟨k, off, h1, h2, h3⟩ := hA i hi
  exact ⟨k, off, h1, h2, (World.cell?_of_block (a := ⟨k, off + i, none⟩) (Below.heap_setCell w ⟨g, j, none⟩ x k h2)).trans h3⟩
theorem ZFar.drew {w : World} {g : Nat} {u : Value} {b : List Int} (h : ZFar w g u b) : ZFar w.drew g u b := h
theorem ZFar.kps {w w' : World} {g : Nat} {u : Value} {b : List Int} (h : ZFar w g u b) (hk : Kps (fun x => x = g) w w') (hs : ∀ j, j < b.length → ∀ k off, (∃ c, u = .slice (some ⟨k, off, none⟩) b.length c) → k < w.heap.size) : ZFar w' g u b := by
  obtain ⟨a, cp, rfl, hA⟩ := h
  refine ⟨a, cp, rfl, fun i hi => ?_⟩
  obtain ⟨k, off, h1, h2, h3⟩ := hA i hi
  subst h1
  exact ⟨k, off, rfl, h2, (World.cell?_of_block (a := ⟨k, off + i, none⟩) (hk.block k (hs i hi k off ⟨cp, rfl⟩) h2)).trans h3⟩

set_option maxHeartbeats 1600000 in
set_option maxRecDepth 100000 in
theorem iSh_any (v u : Value) (p b : List Int) (s : Nat) (k : Int) (B g : Nat) (w : World) (hp : RowZs B w v p) (hg : 0 < p.length → v.ownBlock = some g) (hu : ZFar w g u b) (hs : s + b.length ≤ p.length) (hl : p.length ≤ 1048576) :
    Calls Try.prog 98 #[v, .int .i64 (s : Int), .int .i64 k, u] w fun e w' => e = .returned (.tuple #[]) ∧ RowZs B w' v (addSh p s k b) ∧ Kps (fun x => x = g) w w' := by
  obtain ⟨ra, rc, hv⟩ := row_form hp
  subst hv
  have HP : Hid (RowZs B w (.slice ra p.length rc) (addSh p s k (b.take 0))) := by
    show RowZs _ _ _ _
    rw [List.take_zero, addSh_nil]
    exact hp
  have HG : Hid (0 < p.length → (Value.slice ra p.length rc).ownBlock = some g) := hg
  have HU : Hid (ZFar w g u b) := hu
  obtain ⟨a, cp, rfl, hA⟩ := hu
  have HX : Hid (∀ t, t < b.length → (addSh p s k (b.take t)).getD (s + t) 0 = p.getD (s + t) 0) := fun t ht => addSh_new p s k b hs ht
  have HY : Hid (∀ t, t < b.length → (addSh p s k (b.take t)).set (s + t) (scAdd (p.getD (s + t) 0) (scMul k (b.getD t 0))) = addSh p s k (b.take (t + 1))) := fun t ht => addSh_next p s k b hs ht
  have HZ : Hid (addSh p s k (b.take b.length) = addSh p s k b) := by show _ = _; rw [List.take_length]
  have HL : Hid (∀ t, (addSh p s k (b.take t)).length = p.length) := fun t => addSh_len _ _ _ _
  generalize hnp : p.length = np at *
  generalize hnb : b.length = nb at *
  have HNB : Hid (b.length = nb) := hnb
  clear hA hp hg hnp hnb
  go_enter Try.func98, Try.ntmps98
  go_wp2
  go_loopw [12] (fun i wr => ∃ t : Nat, i = .int .i64 (t : Int) ∧ t ≤ nb ∧ Hid (RowZs B wr (.slice ra np rc) (addSh p s k (b.take t))) ∧ Hid (ZFar wr g (.slice a nb cp) b) ∧ Hid (Kps (fun x => x = g) w wr)) (fun i _ => nb - (intOf i).toNat)
  case atStart => exact ⟨0, rfl, Nat.zero_le _, HP, HU, Kps.refl _ _⟩
  case round =>
    obtain ⟨t, rfl, ht, HR, HF, HK⟩ := hrel
    clear HP HU
    by_cases hlt : t < nb
    · have hlt' : (t : Int) < (nb : Int) := by omega
      have ht0 : (0 : Int) ≤ (t : Int) := by omega
      have hxt := HX.out t hlt
      have hyt := HY.out t hlt
      generalize hii : s + t = i at hxt hyt
      have hst : (s : Int) + (t : Int) = (i : Int) := by omega
      have hst0 : (0 : Int) ≤ (i : Int) := by omega
      have hst1 : (i : Int) < (np : Int) := by omega
      have hst2 : (i : Int) ≤ 1048576 := by omega
      have hiL : i < np := by omega
      have hwr : IntKind.i64.wrap (i : Int) = (i : Int) := IntWalk.i64_in _ (by omega)
      clear hii
      obtain ⟨g', c', hv, hg1, hg2, hz, hf⟩ := HR.out.cellZ (j := i) (by rw [HL.out]; omega)
      rw [hxt] at hz
      have hra : ra = some ⟨g', 0, none⟩ := by injection hv
      subst hra
      have hgg : g' = g := by have := HG.out (by omega); injection this
      subst hgg
      obtain ⟨a', cp', hv2, hF⟩ := HF.out
      obtain ⟨kb, off, h1, h2, h3⟩ := hF t (by have := HNB.out; omega)
      have haa : a = a' := by injection hv2
      rw [h1] at haa
      subst haa
      have CM : Hid (∀ w, Calls Try.prog 30 #[.int .i64 k, .int .i64 (b.getD t 0)] w fun e w' => e = .returned (.int .i64 (scMul k (b.getD t 0))) ∧ w = w') := iScMul_any _ _
      have CA : Hid (∀ w, Calls Try.prog 28 #[.int .i64 (p.getD (i) 0), .int .i64 (scMul k (b.getD t 0))] w fun e w' => e = .returned (.int .i64 (scAdd (p.getD (i) 0) (scMul k (b.getD t 0)))) ∧ w = w') := iScAdd_any _ _
      have HNX := hyt
      obtain ⟨L, hL⟩ : ∃ L, L = addSh p s k (b.take t) := ⟨_, rfl⟩
      have HR2 : Hid (∀ wz : World, wz.heap = wr.heap → RowZs B wz (.slice (some ⟨g', 0, none⟩) np rc) L) := fun wz hwz => by
        rw [hL]
        exact owns_same (lo := 0) (hi := wr.heap.size) HR.out (fun k _ _ => by rw [hwz]) (fun k hk => ⟨Nat.zero_le _, (HR.out.lt k hk).2⟩)
      rw [← hL] at HNX
      have HNY : Hid (L.set (i) (scAdd (p.getD (i) 0) (scMul k (b.getD t 0))) = addSh p s k (b.take (t + 1))) := HNX
      have HC : Hid (∀ wz : World, wz.heap = wr.heap → wz.cell? ⟨g', i, none⟩ = some (.int .i64 (p.getD (i) 0)) ∧ wz.frozen? ⟨g', i, none⟩ = false) := fun wz hwz => by
        refine ⟨(World.cell?_of_block (a := ⟨g', i, none⟩) (by rw [hwz])).trans hz, ?_⟩
        rw [← hf]
        unfold World.frozen?
        rw [hwz]
      clear HNX hL hF hv2 HX HY hz hf HR hxt hyt hv hg1 hg2
      generalize hyy : scAdd (p.getD (i) 0) (scMul k (b.getD t 0)) = y at CA HNY
      clear hyy
      generalize scMul k (b.getD t 0) = q at CM CA
      generalize p.getD (i) 0 = x at HC CA
      generalize b.getD t 0 = z at CM h3
      go_wp2_with fail
      refine wp_region_last [(0, false), (1, false), (2, false), (3, false), (4, false), (5, false), (6, false), (7, false), (8, false), (9, false), (10, false), (11, false), (12, true), (13, true), (14, false)] 15 (fun wz => wz.heap = wr.heap) mixesSc (by kernel_rfl) rfl ?_
      repeat (refine ord_float rfl rfl (fun K hK => ⟨_, (fun w' hw => by have q0 := (HC.out w' hw).1; go_simp; exact rfl), ?_⟩); go_simp; refine hK _ ?_; clear hK K)
      refine ord_call rfl rfl (fun K hK => ⟨_, _, (by go_simp <;> first | exact rfl | exact ⟨rfl, rfl⟩), ?_⟩)
      refine (CM.out _).mono ?_
      rintro e u1 ⟨rfl, hu1⟩
      have T1 : u1.heap = wr.heap := (by rw [← hu1]; rfl)
      refine ⟨_, rfl, T1, ?_⟩
      go_simp
      refine hK _ _ ?_
      clear hK K
      repeat (refine ord_float rfl rfl (fun K hK => ⟨_, (fun w' hw => by have q0 := (HC.out w' hw).1; go_simp; exact rfl), ?_⟩); go_simp; refine hK _ ?_; clear hK K)
      refine ord_call rfl rfl (fun K hK => ⟨_, _, (by go_simp <;> first | exact rfl | exact ⟨rfl, rfl⟩), ?_⟩)
      refine (CA.out _).mono ?_
      rintro e u2 ⟨rfl, hu2⟩
      have T2 : u2.heap = wr.heap := (congrArg World.heap hu2.symm).trans T1
      refine ⟨_, rfl, T2, ?_⟩
      go_simp
      refine hK _ _ ?_
      clear hK K
      repeat (refine ord_float rfl rfl (fun K hK => ⟨_, (fun w' hw => by have q0 := (HC.out w' hw).1; go_simp; exact rfl), ?_⟩); go_simp; refine hK _ ?_; clear hK K)
      refine ord_nil ?_
      have hc2 := (HC.out u2 T2).1
      have hf2 := (HC.out u2 T2).2
      refine last_store rfl rfl rfl (u2.setCell ⟨g', i, none⟩ (.int .i64 y)) (by go_simp <;> rfl) ?_
      have HR3 : Hid (RowZs B (u2.setCell ⟨g', i, none⟩ (.int .i64 y)) (.slice (some ⟨g', 0, none⟩) np rc) (addSh p s k (b.take (t + 1)))) := by
        show RowZs _ _ _ _
        rw [← HNY.out]
        exact (HR2.out u2 T2).put i y
      have HF3 : Hid (ZFar (u2.setCell ⟨g', i, none⟩ (.int .i64 y)) g' (.slice (some ⟨kb, off, none⟩) nb cp) b) := by
        subst hu1 hu2
        exact HF.out.drew.set i _
      have HK3 : Hid (Kps (fun x => x = g') w (u2.setCell ⟨g', i, none⟩ (.int .i64 y))) := by
        subst hu1 hu2
        exact HK.out.drew.setCell rfl _
      generalize u2.setCell ⟨g', i, none⟩ (.int .i64 y) = V at HR3 HF3 HK3 ⊢
      clear hu1 hu2 T1 T2 hc2 hf2 HC HR2 HNY HF HK
      go_wp2
      go_roundw
      case rel => exact ⟨t + 1, by go_num, hlt, HR3, HF3, HK3⟩
      case measure => simp [intOf]; omega
    · have hlt' : ¬ (t : Int) < (nb : Int) := by omega
      obtain rfl : nb = t := by omega
      go_wp2
      go_end0
      refine ⟨rfl, ?_, HK.out⟩
      rw [← HZ.out]
      exact HR.out

theorem rowZ_zero (w : World) (n : Nat) (hn : n ≤ 1048576) : RowZs w.heap.size (w.alloc (.cells (ic (fun _ => 0) n) 3)) (.slice (some ⟨w.heap.size, 0, none⟩) n n) (List.replicate n 0) := by
  have h := (rowI_new w (fun _ => 0) n).rowZ (Nat.le_refl _) hn
  have e : zls (fun _ => 0) n = List.replicate n 0 := by simp [zls, List.map_const']
  rwa [e] at h

set_option maxHeartbeats 1600000 in
set_option maxRecDepth 100000 in
theorem iQMul_any (v u : Value) (l m : List Int) (hl : l.length ≤ 1048576) (hm : m.length ≤ 1048576) (w : World) (h : ZAt w w.heap.size v l) (h2 : ZAt w w.heap.size u m) : Calls Try.prog 77 #[v, u] w fun e w' => ∃ u, e = .returned u ∧ ZOwn w.heap.size w'.heap.size w' u (qMul l m) ∧ Below w.heap.size w w' := by
  have HB : Hid (ZAt w w.heap.size u m) := h2
  obtain ⟨a, cp, rfl, hA⟩ := h
  obtain ⟨b, cq, rfl, hB⟩ := h2
  have HA : Hid (IntsAt w a l.length w.heap.size (fun j => l.getD j 0)) := hA
  clear hA hB
  by_cases hbig : 64 < l.length ∨ 64 < m.length
  · have HE : Hid (qMul l m = []) := by show _ = _; unfold qMul; rw [if_pos hbig]
    generalize hla : l.length = la at *
    generalize hlb : m.length = lb at *
    clear hla hlb HA HB
    by_cases h1 : 64 < la
    · have h1' : (la : Int) > 64 := by omega
      clear hbig
      go_enter Try.func77, Try.ntmps77
      go_wp2
      go_ret
      exact ⟨_, rfl, by rw [HE.out]; exact ZOwn.of (World.ownsRow_lit _ _ _ (Nat.le_refl _) (by simp [maxLen]) (by simp)), (Below.refl _ _).alloc (Nat.le_refl _) _⟩
    · have h1' : ¬ (la : Int) > 64 := by omega
      have h2' : (lb : Int) > 64 := by omega
      clear hbig
      go_enter Try.func77, Try.ntmps77
      go_wp2
      go_ret
      exact ⟨_, rfl, by rw [HE.out]; exact ZOwn.of (World.ownsRow_lit _ _ _ (Nat.le_refl _) (by simp [maxLen]) (by simp)), (Below.refl _ _).alloc (Nat.le_refl _) _⟩
  · have hl64 : ¬ (l.length : Int) > 64 := by omega
    have hm64 : ¬ (m.length : Int) > 64 := by omega
    have hlm : l.length ≤ 64 ∧ m.length ≤ 64 := by omega
    obtain ⟨n, hn⟩ : ∃ n, n = l.length + m.length := ⟨_, rfl⟩
    have HE : Hid (qMul l m = trimZ (mulR m (l.drop 0) 0 (List.replicate n 0))) := by show _ = _; unfold qMul; rw [if_neg hbig, hn]; rfl
    have HD : Hid (∀ k, k < l.length → l.drop k = l.getD k 0 :: l.drop (k + 1)) := fun k hk => by rw [List.drop_eq_getElem_cons hk]; simp [hk]
    have HD0 : Hid (l.drop l.length = []) := by show _ = _; simp
    have hmk : ∀ W : World, (Instr.makeSlice 140 (.int .i64 (n : Int)) (.int .i64 (n : Int))).run Try.prog W = .ok (.slice (some ⟨W.heap.size, 0, none⟩) n n) (W.alloc (.cells (ic (fun _ => 0) n) 3)) := fun W => make_nums n n (Nat.le_refl _) (by omega) W
    have H0 : Hid (RowZs w.heap.size (w.alloc (.cells (ic (fun _ => 0) n) 3)) (.slice (some ⟨w.heap.size, 0, none⟩) n n) (List.replicate n 0)) := rowZ_zero w n (by omega)
    generalize ic (fun _ => 0) n = M at hmk H0
    generalize hla : l.length = la at *
    generalize hlb : m.length = lb at *
    have hsum : (la : Int) + (lb : Int) = (n : Int) := by omega
    have HLB : Hid (m.length = lb) := hlb
    have HN : Hid (n = la + lb) := hn
    clear hla hlb hbig hn
    go_enter Try.func77, Try.ntmps77
    go_wp2
    go_loopw [25] (fun i wr => ∃ (k : Nat) (p : List Int), i = .int .i64 (k : Int) ∧ k ≤ la ∧ Hid (p.length = n) ∧ Hid (qMul l m = trimZ (mulR m (l.drop k) k p)) ∧ Hid (RowZs w.heap.size wr (.slice (some ⟨w.heap.size, 0, none⟩) n n) p) ∧ Hid (Below w.heap.size w wr)) (fun i _ => la - (intOf i).toNat)
    case atStart => exact ⟨0, _, rfl, Nat.zero_le _, by show _ = _; simp, HE, H0, (Below.refl _ _).alloc (Nat.le_refl _) _⟩
    case round =>
      obtain ⟨k, p, rfl, hk, HPL, HQ, HR, HW⟩ := hrel
      clear hmk H0 HE hsum
      by_cases hlt : k < la
      · have hlt' : (k : Int) < (la : Int) := by omega
        have hk0 : (0 : Int) ≤ (k : Int) := by omega
        obtain ⟨ba, off, rfl, hba, hz⟩ := (HA.out.on HW.out) k hlt
        replace hz : wr.cell? ⟨ba, off + k, none⟩ = some (.int .i64 (l.getD k 0)) := hz
        have HQ2 : Hid (qMul l m = trimZ (mulR m (l.drop (k + 1)) (k + 1) (addSh p k (l.getD k 0) m))) := by
          show _ = _
          rw [HQ.out, HD.out k hlt, mulR]
        have CS : Hid (Calls Try.prog 98 #[.slice (some ⟨w.heap.size, 0, none⟩) n n, .int .i64 (k : Int), .int .i64 (l.getD k 0), .slice b lb cq] wr fun e w' => e = .returned (.tuple #[]) ∧ RowZs w.heap.size w' (.slice (some ⟨w.heap.size, 0, none⟩) n n) (addSh p k (l.getD k 0) m) ∧ Kps (fun x => x = w.heap.size) wr w') := by
          refine iSh_any _ _ p m k _ w.heap.size w.heap.size wr HR.out (fun _ => rfl) (ZFar.of_at (HB.out.on HW.out) (Nat.le_refl _)) ?_ ?_
          · rw [HPL.out, HLB.out, HN.out]; omega
          · rw [HPL.out, HN.out]; omega
        have HPL2 : Hid ((addSh p k (l.getD k 0) m).length = n) := by show _ = _; rw [addSh_len, HPL.out]
        generalize addSh p k (l.getD k 0) m = p2 at CS HQ2 HPL2
        generalize l.getD k 0 = z at hz CS
        clear hba HQ HR HPL
        go_wp2_with (go_at_call 98; refine CS.out.mono ?_; rintro e w2 ⟨rfl, hr2, hk2⟩)
        have HR2 : Hid (RowZs w.heap.size w2 (.slice (some ⟨w.heap.size, 0, none⟩) n n) p2) := hr2
        have HW2 : Hid (Below w.heap.size w w2) := hk2.bel HW.out HW.out.size (fun k hk => by omega)
        clear hr2 hk2
        go_wp2
        go_roundw
        case rel => exact ⟨k + 1, p2, by go_num, hlt, HPL2, HQ2, HR2, HW2⟩
        case measure => simp [intOf]; omega
      · have hlt' : ¬ (k : Int) < (la : Int) := by omega
        obtain rfl : la = k := by omega
        have CT : Hid (Calls Try.prog 99 #[.slice (some ⟨w.heap.size, 0, none⟩) n n] wr fun e w' => ∃ x, e = .returned x ∧ RowZs w.heap.size wr x (qMul l m) ∧ wr = w') := by
          refine (trimmed_any _ p (by rw [HPL.out, HN.out]; omega) w.heap.size wr HR.out).mono ?_
          rintro e w' ⟨a, n, c, h1, h2, h3, h4⟩
          refine ⟨_, h2, ?_, h4⟩
          rw [HQ.out, HD0.out]
          exact h3
        clear HQ HR
        go_wp2_with (go_at_call 99; refine CT.out.mono ?_; rintro e w3 ⟨x, rfl, hx, rfl⟩)
        go_ret
        exact ⟨_, rfl, ZOwn.of hx, HW.out⟩

end Go.Proofs.Ytbkfdafdchjakaa

/-
  The walks of the program's mixture of polynomials.
  (-DROP-: what the seat lacks is left out.)
-/
namespace Go.Proofs.Ytbkfdafdchjakaa
open Go.RowKit

end Go.Proofs.Ytbkfdafdchjakaa
