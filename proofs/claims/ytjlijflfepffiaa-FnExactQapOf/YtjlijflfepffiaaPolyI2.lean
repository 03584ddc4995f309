/-
  The walks of the program's sum and of its values.
  (-DROP-: what the seat lacks is left out.)
-/
import Derived.Test.YtjlijflfepffiaaJoined13
import Derived.Lib.MinMax

namespace Go.Proofs.Ytjlijflfepffiaa
open Go.RowKit

set_option maxHeartbeats 800000 in
set_option maxRecDepth 100000 in
theorem at_any (v : Value) (l : List Int) (k : Nat) (c : Nat) (w : World) (h : ZAt w c v l) :
    Calls Try.prog 111 #[v, .int .i64 (k : Int)] w fun e w' => e = .returned (.int .i64 (l.getD k 0)) ∧ w = w' := by
  obtain ⟨a, cp, rfl, hA⟩ := h
  have hk0 : (0 : Int) ≤ (k : Int) := by omega
  by_cases hlt : k < l.length
  · obtain ⟨b, off, rfl, hb, hz⟩ := hA k hlt
    replace hz : w.cell? ⟨b, off + k, none⟩ = some (.int .i64 (l.getD k 0)) := hz
    generalize l.getD k 0 = z at hz ⊢
    have hlt' : (k : Int) < (l.length : Int) := by omega
    clear hA
    generalize l.length = n at *
    go_enter Try.func111, Try.ntmps111
    go_wp2
    go_ret
    exact ⟨rfl, rfl⟩
  · have hz : l.getD k 0 = 0 := getD_out (by omega)
    rw [hz]
    have hlt' : ¬ (k : Int) < (l.length : Int) := by omega
    clear hA hz
    generalize l.length = n at *
    go_enter Try.func111, Try.ntmps111
    go_wp2
    go_ret
    exact ⟨rfl, rfl⟩

set_option maxHeartbeats 1600000 in
set_option maxRecDepth 100000 in
theorem with_any (v u : Value) (l m : List Int) (hl : l.length ≤ 1048576) (hm : m.length ≤ 1048576) (w : World) (h : ZAt w w.heap.size v l) (h2 : ZAt w w.heap.size u m) :
    Calls Try.prog 107 #[v, u, .func (Fn.func 86) #[] #[]] w fun e w' => ∃ x, e = .returned x ∧ RowZs w.heap.size w' x (zls (fun j => scAdd (l.getD j 0) (m.getD j 0)) (max l.length m.length)) ∧ Below w.heap.size w w' := by
  have HA : Hid (ZAt w w.heap.size v l) := h
  have HB : Hid (ZAt w w.heap.size u m) := h2
  obtain ⟨a, cp, rfl, hA⟩ := h
  obtain ⟨b, cq, rfl, hB⟩ := h2
  clear hA hB
  obtain ⟨n, hn⟩ : ∃ n, n = max l.length m.length := ⟨_, rfl⟩
  rw [← hn]
  have hnl : l.length ≤ n ∧ m.length ≤ n ∧ n ≤ 1048576 := by omega
  have hmax : max (l.length : Int) (m.length : Int) = (n : Int) := by omega
  obtain ⟨f, hf⟩ : ∃ f : Nat → Int, f = fun j => scAdd (l.getD j 0) (m.getD j 0) := ⟨_, rfl⟩
  have HF : Hid (∀ j, f j = scAdd (l.getD j 0) (m.getD j 0)) := fun j => by rw [hf]
  rw [← hf]
  have hmk : ∀ W : World, (Instr.makeSlice 105 (.int .i64 (n : Int)) (.int .i64 (n : Int))).run Try.prog W = .ok (.slice (some ⟨W.heap.size, 0, none⟩) n n) (W.alloc (.cells (ic (fun _ => 0) n) 3)) := fun W => make_nums n n (Nat.le_refl _) (by omega) W
  have H0 : Hid (RowI (w.alloc (.cells (ic (fun _ => 0) n) 3)) w.heap.size n (upTo f 0)) := (rowI_new w (fun _ => 0) n).congr fun j _ => by unfold upTo; rw [if_neg (by omega)]
  generalize ic (fun _ => 0) n = M at hmk H0
  have HLA : Hid (∃ la, la = l.length) := ⟨_, rfl⟩
  clear hn hf
  generalize hla : l.length = la at *
  generalize hlb : m.length = lb at *
  have HLa : Hid (l.length = la) := hla
  have HLb : Hid (m.length = lb) := hlb
  clear hla hlb HLA
  go_enter Try.func107, Try.ntmps107
  go_wp2
  go_loopw [17] (fun i wr => ∃ k : Nat, i = .int .i64 (k : Int) ∧ k ≤ n ∧ Hid (RowI wr w.heap.size n (upTo f k)) ∧ Hid (Below w.heap.size w wr)) (fun i _ => n - (intOf i).toNat)
  case atStart => exact ⟨0, rfl, Nat.zero_le _, H0, (Below.refl _ _).alloc (Nat.le_refl _) _⟩
  case round =>
    obtain ⟨k, rfl, hk, HR, HW⟩ := hrel
    clear hmk H0 hmax
    by_cases hlt : k < n
    · have hlt' : (k : Int) < (n : Int) := by omega
      have hk0 : (0 : Int) ≤ (k : Int) := by omega
      have C1 : Hid (Calls Try.prog 111 #[.slice a la cp, .int .i64 (k : Int)] wr fun e w' => e = .returned (.int .i64 (l.getD k 0)) ∧ wr = w') := at_any _ _ _ w.heap.size _ (HA.out.on HW.out)
      have C2 : Hid (Calls Try.prog 111 #[.slice b lb cq, .int .i64 (k : Int)] wr fun e w' => e = .returned (.int .i64 (m.getD k 0)) ∧ wr = w') := at_any _ _ _ w.heap.size _ (HB.out.on HW.out)
      have C3 : Hid (∀ w, Calls Try.prog 86 #[.int .i64 (l.getD k 0), .int .i64 (m.getD k 0)] w fun e w' => e = .returned (.int .i64 (f k)) ∧ w = w') := fun w => by rw [HF.out k]; exact iScAdd_any _ _ w
      have hc := HR.out.cell hlt
      have hf := HR.out.free k
      have N := HR.out.set k (f k)
      have NB := HW.out.setCell (p := ⟨w.heap.size, k, none⟩) (Nat.le_refl _) (.int .i64 (f k))
      have hu : (fun i => if i = k then f k else upTo f k i) = upTo f (k + 1) := upTo_next _ _
      rw [hu] at N
      have HN2 : Hid (RowI (wr.setCell ⟨w.heap.size, k, none⟩ (.int .i64 (f k))) w.heap.size n (upTo f (k + 1)) ∧ Below w.heap.size w (wr.setCell ⟨w.heap.size, k, none⟩ (.int .i64 (f k)))) := ⟨N, NB⟩
      obtain ⟨F, hF⟩ : ∃ F, F = upTo f (k + 1) := ⟨_, rfl⟩
      have HFF : Hid (F = upTo f (k + 1)) := hF
      rw [← hF] at HN2
      clear hF hu N NB
      generalize upTo f k k = old at hc
      generalize f k = y at C3 HN2
      generalize l.getD k 0 = x1 at C1 C3
      generalize m.getD k 0 = x2 at C2 C3
      clear HA HB HR HW HF HLa HLb
      go_wp2_with fail
      go_at_call 111
      refine C1.out.mono ?_
      rintro e wz ⟨rfl, rfl⟩
      go_wp2_with fail
      go_at_call 111
      refine C2.out.mono ?_
      rintro e wz ⟨rfl, rfl⟩
      go_wp2_with (go_at_call 86; refine (C3.out _).mono ?_; rintro e wz ⟨rfl, rfl⟩)
      go_roundw
      case rel => exact ⟨k + 1, by go_num, hlt, HFF.out ▸ HN2.out.1, HN2.out.2⟩
      case measure => simp [intOf]; omega
    · have hlt' : ¬ (k : Int) < (n : Int) := by omega
      obtain rfl : n = k := by omega
      go_wp2
      go_ret
      refine ⟨_, rfl, ?_, HW.out⟩
      exact (HR.out.congr fun j hj => upTo_in _ hj).rowZ (Nat.le_refl _) hnl.2.2

theorem add_same (l m : List Int) : trimZ (zls (fun j => scAdd (l.getD j 0) (m.getD j 0)) (max l.length m.length)) = qAdd l m := by
  have hz : ∀ (f : Nat → Int) (n j : Nat), (∀ j, n ≤ j → f j = 0) → (zls f n).getD j 0 = f j := fun f n j h => by
    by_cases hj : j < n
    · exact zls_at f hj
    · rw [getD_out (by rw [zls_length]; omega), h j (by omega)]
  have h1 : ∀ j, max l.length m.length ≤ j → scAdd (l.getD j 0) (m.getD j 0) = 0 := fun j hj => by
    rw [getD_out (l := l) (by omega), getD_out (l := m) (by omega)]; rfl
  have h2 : ∀ j, max l.length m.length ≤ j → padF l m j = 0 := fun j hj => by
    unfold padF
    rw [if_neg (by omega), if_neg (by omega)]
  refine can_eq (Can.of_trim _ fun j => ?_) (pTrim_can _) fun j => ?_
  · rw [hz _ _ _ h1]
    exact sc_add _ _
  · unfold qAdd
    rw [trimZ_at, hz _ _ _ h1, pTrim_at]
    have e : (List.map (padF l m) (List.range (max l.length m.length))).getD j 0 = padF l m j := hz _ _ _ h2
    rw [e]
    have e2 : sca (padF l m j) = scAdd (l.getD j 0) (m.getD j 0) := by
      unfold padF
      by_cases hb : j < m.length <;> by_cases ha : j < l.length
      · simp only [if_pos hb, if_pos ha, scAdd_eq, sca_sca, Int.zero_add, sca_add_left]
      · simp only [if_pos hb, if_neg ha, scAdd_eq, sca_sca]
        rw [getD_out (l := l) (by omega)]
      · simp only [if_neg hb, if_pos ha, scAdd_eq, sca_sca, Int.zero_add]
        rw [getD_out (l := m) (by omega), Int.add_zero]
      · simp only [if_neg hb, if_neg ha]
        rw [getD_out (l := l) (by omega), getD_out (l := m) (by omega)]
        rfl
    rw [e2]
    exact dp_zero.of (by omega)

theorem iQAdd_any (v u : Value) (l m : List Int) (hl : l.length ≤ 1048576) (hm : m.length ≤ 1048576) (w : World) (h : ZAt w w.heap.size v l) (h2 : ZAt w w.heap.size u m) : Calls Try.prog 91 #[v, u] w fun e w' => ∃ u, e = .returned u ∧ ZOwn w.heap.size w'.heap.size w' u (qAdd l m) ∧ Below w.heap.size w w' := by
  have HE : Hid (Calls Try.prog 107 #[v, u, .func (Fn.func 86) #[] #[]] w fun e w' => ∃ x, e = .returned x ∧ RowZs w.heap.size w' x (zls (fun j => scAdd (l.getD j 0) (m.getD j 0)) (max l.length m.length)) ∧ Below w.heap.size w w') := with_any v u l m hl hm w h h2
  have HT : Hid (∀ (x : Value) (B : Nat) (W : World), RowZs B W x (zls (fun j => scAdd (l.getD j 0) (m.getD j 0)) (max l.length m.length)) → Calls Try.prog 98 #[x] W fun e w' => ∃ x, e = .returned x ∧ RowZs B W x (qAdd l m) ∧ W = w') := fun x B W hu => (trimmed_any x _ (by rw [zls_length]; omega) B W hu).mono fun e w' ⟨a, n, c, h1, h2, h3, h4⟩ => ⟨_, h2, by rw [← add_same]; exact h3, h4⟩
  clear h h2 hl hm
  go_enter Try.func91, Try.ntmps91
  go_wp2_with (first
    | (go_at_call 107; refine (HE.out).mono ?_; rintro e w2 ⟨x, rfl, hu, hb⟩)
    | (go_at_call 98; refine (HT.out _ _ _ hu).mono ?_; rintro e w3 ⟨x, rfl, hx, rfl⟩))
  go_ret
  exact ⟨_, rfl, ZOwn.of hx, hb⟩

end Go.Proofs.Ytjlijflfepffiaa
