/-
  Texts of one's own, joined.
-/
import Derived.Test.YtbkfdafdchjakabJoined15
import Derived.Lib.MinMax
import Derived.Test.YtbkfdafdchjakabJoined11
import Derived.Test.YtbkfdafdchjakabJoined16

/-
  The walks of the program's sum and of its values.
  (-DROP-: what the seat lacks is left out.)
-/
namespace Go.Proofs.Ytbkfdafdchjakab
open Go.RowKit

set_option maxHeartbeats 800000 in
set_option maxRecDepth 100000 in
theorem at_any (v : Value) (l : List Int) (k : Nat) (c : Nat) (w : World) (h : ZAt w c v l) :
    Calls Try.prog 151 #[v, .int .i64 (k : Int)] w fun e w' => e = .returned (.int .i64 (l.getD k 0)) ∧ w = w' := by
  obtain ⟨a, cp, rfl, hA⟩ := h
  have hk0 : (0 : Int) ≤ (k : Int) := by omega
  by_cases hlt : k < l.length
  · obtain ⟨b, off, rfl, hb, hz⟩ := hA k hlt
    replace hz : w.cell? ⟨b, off + k, none⟩ = some (.int .i64 (l.getD k 0)) := hz
    generalize l.getD k 0 = z at hz ⊢
    have hlt' : (k : Int) < (l.length : Int) := by omega
    clear hA
    generalize l.length = n at *
    go_enter Try.func151, Try.ntmps151
    go_wp2
    go_ret
    exact ⟨rfl, rfl⟩
  · have hz : l.getD k 0 = 0 := getD_out (by omega)
    rw [hz]
    have hlt' : ¬ (k : Int) < (l.length : Int) := by omega
    clear hA hz
    generalize l.length = n at *
    go_enter Try.func151, Try.ntmps151
    go_wp2
    go_ret
    exact ⟨rfl, rfl⟩

set_option maxHeartbeats 1600000 in
set_option maxRecDepth 100000 in
theorem with_any (v u : Value) (l m : List Int) (hl : l.length ≤ 1048576) (hm : m.length ≤ 1048576) (w : World) (h : ZAt w w.heap.size v l) (h2 : ZAt w w.heap.size u m) :
    Calls Try.prog 150 #[v, u, .func (Fn.func 55) #[] #[]] w fun e w' => ∃ x, e = .returned x ∧ RowZs w.heap.size w' x (zls (fun j => scAdd (l.getD j 0) (m.getD j 0)) (max l.length m.length)) ∧ Below w.heap.size w w' := by
  have HA : Hid (ZAt w w.heap.size v l) := h
  have HB : Hid (ZAt w w.heap.size u m) := h2
  obtain ⟨a, cp, rfl, hA⟩ := h
  obtain ⟨b, cq, rfl, hB⟩ := h2
  clear hA hB
  obtain ⟨n, hn⟩ : ∃ n, n = max l.length m.length := ⟨_, rfl⟩
  rw [← hn]
  have hnl : l.length ≤ n ∧ m.length ≤ n ∧ n ≤ 1048576 := by omega
  have hmax : max (l.length : Int) (m.length : Int) = (n : Int) := by omega
  obtain ⟨f, hf⟩ : ∃ f : Nat → Int, f = fun j => scAdd (l.getD j 0) (m.getD j 0) := ⟨_, rfl⟩
  have HF : Hid (∀ j, f j = scAdd (l.getD j 0) (m.getD j 0)) := fun j => by rw [hf]
  rw [← hf]
  have hmk : ∀ W : World, (Instr.makeSlice 165 (.int .i64 (n : Int)) (.int .i64 (n : Int))).run Try.prog W = .ok (.slice (some ⟨W.heap.size, 0, none⟩) n n) (W.alloc (.cells (ic (fun _ => 0) n) 3)) := fun W => make_nums n n (Nat.le_refl _) (by omega) W
  have H0 : Hid (RowI (w.alloc (.cells (ic (fun _ => 0) n) 3)) w.heap.size n (upTo f 0)) := (rowI_new w (fun _ => 0) n).congr fun j _ => by unfold upTo; rw [if_neg (by omega)]
  generalize ic (fun _ => 0) n = M at hmk H0
  have HLA : Hid (∃ la, la = l.length) := ⟨_, rfl⟩
  clear hn hf
  generalize hla : l.length = la at *
  generalize hlb : m.length = lb at *
  have HLa : Hid (l.length = la) := hla
  have HLb : Hid (m.length = lb) := hlb
  clear hla hlb HLA
  go_enter Try.func150, Try.ntmps150
  go_wp2
  go_loopw [17] (fun i wr => ∃ k : Nat, i = .int .i64 (k : Int) ∧ k ≤ n ∧ Hid (RowI wr w.heap.size n (upTo f k)) ∧ Hid (Below w.heap.size w wr)) (fun i _ => n - (intOf i).toNat)
  case atStart => exact ⟨0, rfl, Nat.zero_le _, H0, (Below.refl _ _).alloc (Nat.le_refl _) _⟩
  case round =>
    obtain ⟨k, rfl, hk, HR, HW⟩ := hrel
    clear hmk H0 hmax
    by_cases hlt : k < n
    · have hlt' : (k : Int) < (n : Int) := by omega
      have hk0 : (0 : Int) ≤ (k : Int) := by omega
      have C1 : Hid (Calls Try.prog 151 #[.slice a la cp, .int .i64 (k : Int)] wr fun e w' => e = .returned (.int .i64 (l.getD k 0)) ∧ wr = w') := at_any _ _ _ w.heap.size _ (HA.out.on HW.out)
      have C2 : Hid (Calls Try.prog 151 #[.slice b lb cq, .int .i64 (k : Int)] wr fun e w' => e = .returned (.int .i64 (m.getD k 0)) ∧ wr = w') := at_any _ _ _ w.heap.size _ (HB.out.on HW.out)
      have C3 : Hid (∀ w, Calls Try.prog 55 #[.int .i64 (l.getD k 0), .int .i64 (m.getD k 0)] w fun e w' => e = .returned (.int .i64 (f k)) ∧ w = w') := fun w => by rw [HF.out k]; exact iScAdd_any _ _ w
      have hc := HR.out.cell hlt
      have hf := HR.out.free k
      have N := HR.out.set k (f k)
      have NB := HW.out.setCell (p := ⟨w.heap.size, k, none⟩) (Nat.le_refl _) (.int .i64 (f k))
      have hu : (fun i => if i = k then f k else upTo f k i) = upTo f (k + 1) := upTo_next _ _
      rw [hu] at N
      have HN2 : Hid (RowI (wr.setCell ⟨w.heap.size, k, none⟩ (.int .i64 (f k))) w.heap.size n (upTo f (k + 1)) ∧ Below w.heap.size w (wr.setCell ⟨w.heap.size, k, none⟩ (.int .i64 (f k)))) := ⟨N, NB⟩
      obtain ⟨F, hF⟩ : ∃ F, F = upTo f (k + 1) := ⟨_, rfl⟩
      have HFF : Hid (F = upTo f (k + 1)) := hF
      rw [← hF] at HN2
      clear hF hu N NB
      generalize upTo f k k = old at hc
      generalize f k = y at C3 HN2
      generalize l.getD k 0 = x1 at C1 C3
      generalize m.getD k 0 = x2 at C2 C3
      clear HA HB HR HW HF HLa HLb
      go_wp2_with fail
      go_at_call 151
      refine C1.out.mono ?_
      rintro e wz ⟨rfl, rfl⟩
      go_wp2_with fail
      go_at_call 151
      refine C2.out.mono ?_
      rintro e wz ⟨rfl, rfl⟩
      go_wp2_with (go_at_call 55; refine (C3.out _).mono ?_; rintro e wz ⟨rfl, rfl⟩)
      go_roundw
      case rel => exact ⟨k + 1, by go_num, hlt, HFF.out ▸ HN2.out.1, HN2.out.2⟩
      case measure => simp [intOf]; omega
    · have hlt' : ¬ (k : Int) < (n : Int) := by omega
      obtain rfl : n = k := by omega
      go_wp2
      go_ret
      refine ⟨_, rfl, ?_, HW.out⟩
      exact (HR.out.congr fun j hj => upTo_in _ hj).rowZ (Nat.le_refl _) hnl.2.2

theorem add_same (l m : List Int) : trimZ (zls (fun j => scAdd (l.getD j 0) (m.getD j 0)) (max l.length m.length)) = qAdd l m := by
  have hz : ∀ (f : Nat → Int) (n j : Nat), (∀ j, n ≤ j → f j = 0) → (zls f n).getD j 0 = f j := fun f n j h => by
    by_cases hj : j < n
    · exact zls_at f hj
    · rw [getD_out (by rw [zls_length]; omega), h j (by omega)]
  have h1 : ∀ j, max l.length m.length ≤ j → scAdd (l.getD j 0) (m.getD j 0) = 0 := fun j hj => by
    rw [getD_out (l := l) (by omega), getD_out (l := m) (by omega)]; rfl
  have h2 : ∀ j, max l.length m.length ≤ j → padF l m j = 0 := fun j hj => by
    unfold padF
    rw [if_neg (by omega), if_neg (by omega)]
  refine can_eq (Can.of_trim _ fun j => ?_) (pTrim_can _) fun j => ?_
  · rw [hz _ _ _ h1]
    exact sc_add _ _
  · unfold qAdd
    rw [trimZ_at, hz _ _ _ h1, pTrim_at]
    have e : (List.map (padF l m) (List.range (max l.length m.length))).getD j 0 = padF l m j := hz _ _ _ h2
    rw [e]
    have e2 : sca (padF l m j) = scAdd (l.getD j 0) (m.getD j 0) := by
      unfold padF
      by_cases hb : j < m.length <;> by_cases ha : j < l.length
      · simp only [if_pos hb, if_pos ha, scAdd_eq, sca_sca, Int.zero_add, sca_add_left]
      · simp only [if_pos hb, if_neg ha, scAdd_eq, sca_sca]
        rw [getD_out (l := l) (by omega)]
      · simp only [if_neg hb, if_pos ha, scAdd_eq, sca_sca, Int.zero_add]
        rw [getD_out (l := m) (by omega), Int.add_zero]
      · simp only [if_neg hb, if_neg ha]
        rw [getD_out (l := l) (by omega), getD_out (l := m) (by omega)]
        rfl
    rw [e2]
    exact dp_zero.of (by omega)

theorem iQAdd_any (v u : Value) (l m : List Int) (hl : l.length ≤ 1048576) (hm : m.length ≤ 1048576) (w : World) (h : ZAt w w.heap.size v l) (h2 : ZAt w w.heap.size u m) : Calls Try.prog 146 #[v, u] w fun e w' => ∃ u, e = .returned u ∧ ZOwn w.heap.size w'.heap.size w' u (qAdd l m) ∧ Below w.heap.size w w' := by
  have HE : Hid (Calls Try.prog 150 #[v, u, .func (Fn.func 55) #[] #[]] w fun e w' => ∃ x, e = .returned x ∧ RowZs w.heap.size w' x (zls (fun j => scAdd (l.getD j 0) (m.getD j 0)) (max l.length m.length)) ∧ Below w.heap.size w w') := with_any v u l m hl hm w h h2
  have HT : Hid (∀ (x : Value) (B : Nat) (W : World), RowZs B W x (zls (fun j => scAdd (l.getD j 0) (m.getD j 0)) (max l.length m.length)) → Calls Try.prog 148 #[x] W fun e w' => ∃ x, e = .returned x ∧ RowZs B W x (qAdd l m) ∧ W = w') := fun x B W hu => (trimmed_any x _ (by rw [zls_length]; omega) B W hu).mono fun e w' ⟨a, n, c, h1, h2, h3, h4⟩ => ⟨_, h2, by rw [← add_same]; exact h3, h4⟩
  clear h h2 hl hm
  go_enter Try.func146, Try.ntmps146
  go_wp2_with (first
    | (go_at_call 150; refine (HE.out).mono ?_; rintro e w2 ⟨x, rfl, hu, hb⟩)
    | (go_at_call 148; refine (HT.out _ _ _ hu).mono ?_; rintro e w3 ⟨x, rfl, hx, rfl⟩))
  go_ret
  exact ⟨_, rfl, ZOwn.of hx, hb⟩

end Go.Proofs.Ytbkfdafdchjakab

/-
  The walks of the program's product.
  (-DROP-: what the seat lacks is left out.)
-/
namespace Go.Proofs.Ytbkfdafdchjakab
open Go.RowKit

/-- A list of numbers that lies elsewhere. -/
def ZFar (w : World) (g : Nat) (u : Value) (b : List Int) : Prop := ∃ a cp, u = .slice a b.length cp ∧ ∀ j, j < b.length → ∃ k off, a = some ⟨k, off, none⟩ ∧ k ≠ g ∧ w.cell? ⟨k, off + j, none⟩ = some (.int .i64 (b.getD j 0))
theorem ZFar.of_at {w : World} {c g : Nat} {u : Value} {b : List Int} (h : ZAt w c u b) (hc : c ≤ g) : ZFar w g u b := by
  obtain ⟨a, cp, rfl, hA⟩ := h
  refine ⟨a, cp, rfl, fun j hj => ?_⟩
  obtain ⟨k, off, h1, h2, h3⟩ := hA j hj
  exact ⟨k, off, h1, by omega, h3⟩
theorem ZFar.of_row {w : World} {B g : Nat} {u : Value} {b : List Int} (h : RowZs B w u b) (hg : u.ownBlock ≠ some g) : ZFar w g u b := by
  obtain ⟨a, cp, hv⟩ := row_form h
  refine ⟨a, cp, hv, fun j hj => ?_⟩
  obtain ⟨k, c, h1, h2, h3, h4, _⟩ := h.cellZ hj
  rw [hv] at h1
  injection h1 with e1
  refine ⟨k, 0, e1, ?_, by rw [Nat.zero_add]; exact h4⟩
  intro e
  subst e
  exact hg (by rw [hv, e1]; rfl)
theorem ZFar.set {w : World} {g : Nat} {u : Value} {b : List Int} (h : ZFar w g u b) (j : Nat) (x : Value) : ZFar (w.setCell ⟨g, j, none⟩ x) g u b := by
  obtain ⟨a, cp, rfl, hA⟩ := h
  refine ⟨a, cp, rfl, fun i hi => ?_⟩
  obtain ⟨k, off, h1, h2, h3⟩ := hA i hi
  exact ⟨k, off, h1, h2, (World.cell?_of_block (a := ⟨k, off + i, none⟩) (Below.heap_setCell w ⟨g, j, none⟩ x k h2)).trans h3⟩
theorem ZFar.drew {w : World} {g : Nat} {u : Value} {b : List Int} (h : ZFar w g u b) : ZFar w.drew g u b := h
theorem ZFar.kps {w w' : World} {g : Nat} {u : Value} {b : List Int} (h : ZFar w g u b) (hk : Kps (fun x => x = g) w w') (hs : ∀ j, j < b.length → ∀ k off, (∃ c, u = .slice (some ⟨k, off, none⟩) b.length c) → k < w.heap.size) : ZFar w' g u b := by
  obtain ⟨a, cp, rfl, hA⟩ := h
  refine ⟨a, cp, rfl, fun i hi => ?_⟩
  obtain ⟨k, off, h1, h2, h3⟩ := hA i hi
  subst h1
  exact ⟨k, off, rfl, h2, (World.cell?_of_block (a := ⟨k, off + i, none⟩) (hk.block k (hs i hi k off ⟨cp, rfl⟩) h2)).trans h3⟩

set_option maxHeartbeats 1600000 in
set_option maxRecDepth 100000 in
theorem iSh_any (v u : Value) (p b : List Int) (s : Nat) (k : Int) (B g : Nat) (w : World) (hp : RowZs B w v p) (hg : 0 < p.length → v.ownBlock = some g) (hu : ZFar w g u b) (hs : s + b.length ≤ p.length) (hl : p.length ≤ 1048576) :
    Calls Try.prog 147 #[v, .int .i64 (s : Int), .int .i64 k, u] w fun e w' => e = .returned (.tuple #[]) ∧ RowZs B w' v (addSh p s k b) ∧ Kps (fun x => x = g) w w' := by
  obtain ⟨ra, rc, hv⟩ := row_form hp
  subst hv
  have HP : Hid (RowZs B w (.slice ra p.length rc) (addSh p s k (b.take 0))) := by
    show RowZs _ _ _ _
    rw [List.take_zero, addSh_nil]
    exact hp
  have HG : Hid (0 < p.length → (Value.slice ra p.length rc).ownBlock = some g) := hg
  have HU : Hid (ZFar w g u b) := hu
  obtain ⟨a, cp, rfl, hA⟩ := hu
  have HX : Hid (∀ t, t < b.length → (addSh p s k (b.take t)).getD (s + t) 0 = p.getD (s + t) 0) := fun t ht => addSh_new p s k b hs ht
  have HY : Hid (∀ t, t < b.length → (addSh p s k (b.take t)).set (s + t) (scAdd (p.getD (s + t) 0) (scMul k (b.getD t 0))) = addSh p s k (b.take (t + 1))) := fun t ht => addSh_next p s k b hs ht
  have HZ : Hid (addSh p s k (b.take b.length) = addSh p s k b) := by show _ = _; rw [List.take_length]
  have HL : Hid (∀ t, (addSh p s k (b.take t)).length = p.length) := fun t => addSh_len _ _ _ _
  generalize hnp : p.length = np at *
  generalize hnb : b.length = nb at *
  have HNB : Hid (b.length = nb) := hnb
  clear hA hp hg hnp hnb
  go_enter Try.func147, Try.ntmps147
  go_wp2
  go_loopw [12] (fun i wr => ∃ t : Nat, i = .int .i64 (t : Int) ∧ t ≤ nb ∧ Hid (RowZs B wr (.slice ra np rc) (addSh p s k (b.take t))) ∧ Hid (ZFar wr g (.slice a nb cp) b) ∧ Hid (Kps (fun x => x = g) w wr)) (fun i _ => nb - (intOf i).toNat)
  case atStart => exact ⟨0, rfl, Nat.zero_le _, HP, HU, Kps.refl _ _⟩
  case round =>
    obtain ⟨t, rfl, ht, HR, HF, HK⟩ := hrel
    clear HP HU
    by_cases hlt : t < nb
    · have hlt' : (t : Int) < (nb : Int) := by omega
      have ht0 : (0 : Int) ≤ (t : Int) := by omega
      have hxt := HX.out t hlt
      have hyt := HY.out t hlt
      generalize hii : s + t = i at hxt hyt
      have hst : (s : Int) + (t : Int) = (i : Int) := by omega
      have hst0 : (0 : Int) ≤ (i : Int) := by omega
      have hst1 : (i : Int) < (np : Int) := by omega
      have hst2 : (i : Int) ≤ 1048576 := by omega
      have hiL : i < np := by omega
      have hwr : IntKind.i64.wrap (i : Int) = (i : Int) := IntWalk.i64_in _ (by omega)
      clear hii
      obtain ⟨g', c', hv, hg1, hg2, hz, hf⟩ := HR.out.cellZ (j := i) (by rw [HL.out]; omega)
      rw [hxt] at hz
      have hra : ra = some ⟨g', 0, none⟩ := by injection hv
      subst hra
      have hgg : g' = g := by have := HG.out (by omega); injection this
      subst hgg
      obtain ⟨a', cp', hv2, hF⟩ := HF.out
      obtain ⟨kb, off, h1, h2, h3⟩ := hF t (by have := HNB.out; omega)
      have haa : a = a' := by injection hv2
      rw [h1] at haa
      subst haa
      have CM : Hid (∀ w, Calls Try.prog 59 #[.int .i64 k, .int .i64 (b.getD t 0)] w fun e w' => e = .returned (.int .i64 (scMul k (b.getD t 0))) ∧ w = w') := iScMul_any _ _
      have CA : Hid (∀ w, Calls Try.prog 55 #[.int .i64 (p.getD (i) 0), .int .i64 (scMul k (b.getD t 0))] w fun e w' => e = .returned (.int .i64 (scAdd (p.getD (i) 0) (scMul k (b.getD t 0)))) ∧ w = w') := iScAdd_any _ _
      have HNX := hyt
      obtain ⟨L, hL⟩ : ∃ L, L = addSh p s k (b.take t) := ⟨_, rfl⟩
      have HR2 : Hid (∀ wz : World, wz.heap = wr.heap → RowZs B wz (.slice (some ⟨g', 0, none⟩) np rc) L) := fun wz hwz => by
        rw [hL]
        exact owns_same (lo := 0) (hi := wr.heap.size) HR.out (fun k _ _ => by rw [hwz]) (fun k hk => ⟨Nat.zero_le _, (HR.out.lt k hk).2⟩)
      rw [← hL] at HNX
      have HNY : Hid (L.set (i) (scAdd (p.getD (i) 0) (scMul k (b.getD t 0))) = addSh p s k (b.take (t + 1))) := HNX
      have HC : Hid (∀ wz : World, wz.heap = wr.heap → wz.cell? ⟨g', i, none⟩ = some (.int .i64 (p.getD (i) 0)) ∧ wz.frozen? ⟨g', i, none⟩ = false) := fun wz hwz => by
        refine ⟨(World.cell?_of_block (a := ⟨g', i, none⟩) (by rw [hwz])).trans hz, ?_⟩
        rw [← hf]
        unfold World.frozen?
        rw [hwz]
      clear HNX hL hF hv2 HX HY hz hf HR hxt hyt hv hg1 hg2
      generalize hyy : scAdd (p.getD (i) 0) (scMul k (b.getD t 0)) = y at CA HNY
      clear hyy
      generalize scMul k (b.getD t 0) = q at CM CA
      generalize p.getD (i) 0 = x at HC CA
      generalize b.getD t 0 = z at CM h3
      go_wp2_with fail
      refine wp_region_last [(0, false), (1, false), (2, false), (3, false), (4, false), (5, false), (6, false), (7, false), (8, false), (9, false), (10, false), (11, false), (12, true), (13, true), (14, false)] 15 (fun wz => wz.heap = wr.heap) mixesSc (by kernel_rfl) rfl ?_
      repeat (refine ord_float rfl rfl (fun K hK => ⟨_, (fun w' hw => by have q0 := (HC.out w' hw).1; go_simp; exact rfl), ?_⟩); go_simp; refine hK _ ?_; clear hK K)
      refine ord_call rfl rfl (fun K hK => ⟨_, _, (by go_simp <;> first | exact rfl | exact ⟨rfl, rfl⟩), ?_⟩)
      refine (CM.out _).mono ?_
      rintro e u1 ⟨rfl, hu1⟩
      have T1 : u1.heap = wr.heap := (by rw [← hu1]; rfl)
      refine ⟨_, rfl, T1, ?_⟩
      go_simp
      refine hK _ _ ?_
      clear hK K
      repeat (refine ord_float rfl rfl (fun K hK => ⟨_, (fun w' hw => by have q0 := (HC.out w' hw).1; go_simp; exact rfl), ?_⟩); go_simp; refine hK _ ?_; clear hK K)
      refine ord_call rfl rfl (fun K hK => ⟨_, _, (by go_simp <;> first | exact rfl | exact ⟨rfl, rfl⟩), ?_⟩)
      refine (CA.out _).mono ?_
      rintro e u2 ⟨rfl, hu2⟩
      have T2 : u2.heap = wr.heap := (congrArg World.heap hu2.symm).trans T1
      refine ⟨_, rfl, T2, ?_⟩
      go_simp
      refine hK _ _ ?_
      clear hK K
      repeat (refine ord_float rfl rfl (fun K hK => ⟨_, (fun w' hw => by have q0 := (HC.out w' hw).1; go_simp; exact rfl), ?_⟩); go_simp; refine hK _ ?_; clear hK K)
      refine ord_nil ?_
      have hc2 := (HC.out u2 T2).1
      have hf2 := (HC.out u2 T2).2
      refine last_store rfl rfl rfl (u2.setCell ⟨g', i, none⟩ (.int .i64 y)) (by go_simp <;> rfl) ?_
      have HR3 : Hid (RowZs B (u2.setCell ⟨g', i, none⟩ (.int .i64 y)) (.slice (some ⟨g', 0, none⟩) np rc) (addSh p s k (b.take (t + 1)))) := by
        show RowZs _ _ _ _
        rw [← HNY.out]
        exact (HR2.out u2 T2).put i y
      have HF3 : Hid (ZFar (u2.setCell ⟨g', i, none⟩ (.int .i64 y)) g' (.slice (some ⟨kb, off, none⟩) nb cp) b) := by
        subst hu1 hu2
        exact HF.out.drew.set i _
      have HK3 : Hid (Kps (fun x => x = g') w (u2.setCell ⟨g', i, none⟩ (.int .i64 y))) := by
        subst hu1 hu2
        exact HK.out.drew.setCell rfl _
      generalize u2.setCell ⟨g', i, none⟩ (.int .i64 y) = V at HR3 HF3 HK3 ⊢
      clear hu1 hu2 T1 T2 hc2 hf2 HC HR2 HNY HF HK
      go_wp2
      go_roundw
      case rel => exact ⟨t + 1, by go_num, hlt, HR3, HF3, HK3⟩
      case measure => simp [intOf]; omega
    · have hlt' : ¬ (t : Int) < (nb : Int) := by omega
      obtain rfl : nb = t := by omega
      go_wp2
      go_end0
      refine ⟨rfl, ?_, HK.out⟩
      rw [← HZ.out]
      exact HR.out

theorem rowZ_zero (w : World) (n : Nat) (hn : n ≤ 1048576) : RowZs w.heap.size (w.alloc (.cells (ic (fun _ => 0) n) 3)) (.slice (some ⟨w.heap.size, 0, none⟩) n n) (List.replicate n 0) := by
  have h := (rowI_new w (fun _ => 0) n).rowZ (Nat.le_refl _) hn
  have e : zls (fun _ => 0) n = List.replicate n 0 := by simp [zls, List.map_const']
  rwa [e] at h

set_option maxHeartbeats 1600000 in
set_option maxRecDepth 100000 in
theorem iQMul_any (v u : Value) (l m : List Int) (hl : l.length ≤ 1048576) (hm : m.length ≤ 1048576) (w : World) (h : ZAt w w.heap.size v l) (h2 : ZAt w w.heap.size u m) : Calls Try.prog 131 #[v, u] w fun e w' => ∃ u, e = .returned u ∧ ZOwn w.heap.size w'.heap.size w' u (qMul l m) ∧ Below w.heap.size w w' := by
  have HB : Hid (ZAt w w.heap.size u m) := h2
  obtain ⟨a, cp, rfl, hA⟩ := h
  obtain ⟨b, cq, rfl, hB⟩ := h2
  have HA : Hid (IntsAt w a l.length w.heap.size (fun j => l.getD j 0)) := hA
  clear hA hB
  by_cases hbig : 64 < l.length ∨ 64 < m.length
  · have HE : Hid (qMul l m = []) := by show _ = _; unfold qMul; rw [if_pos hbig]
    generalize hla : l.length = la at *
    generalize hlb : m.length = lb at *
    clear hla hlb HA HB
    by_cases h1 : 64 < la
    · have h1' : (la : Int) > 64 := by omega
      clear hbig
      go_enter Try.func131, Try.ntmps131
      go_wp2
      go_ret
      exact ⟨_, rfl, by rw [HE.out]; exact ZOwn.of (World.ownsRow_lit _ _ _ (Nat.le_refl _) (by simp [maxLen]) (by simp)), (Below.refl _ _).alloc (Nat.le_refl _) _⟩
    · have h1' : ¬ (la : Int) > 64 := by omega
      have h2' : (lb : Int) > 64 := by omega
      clear hbig
      go_enter Try.func131, Try.ntmps131
      go_wp2
      go_ret
      exact ⟨_, rfl, by rw [HE.out]; exact ZOwn.of (World.ownsRow_lit _ _ _ (Nat.le_refl _) (by simp [maxLen]) (by simp)), (Below.refl _ _).alloc (Nat.le_refl _) _⟩
  · have hl64 : ¬ (l.length : Int) > 64 := by omega
    have hm64 : ¬ (m.length : Int) > 64 := by omega
    have hlm : l.length ≤ 64 ∧ m.length ≤ 64 := by omega
    obtain ⟨n, hn⟩ : ∃ n, n = l.length + m.length := ⟨_, rfl⟩
    have HE : Hid (qMul l m = trimZ (mulR m (l.drop 0) 0 (List.replicate n 0))) := by show _ = _; unfold qMul; rw [if_neg hbig, hn]; rfl
    have HD : Hid (∀ k, k < l.length → l.drop k = l.getD k 0 :: l.drop (k + 1)) := fun k hk => by rw [List.drop_eq_getElem_cons hk]; simp [hk]
    have HD0 : Hid (l.drop l.length = []) := by show _ = _; simp
    have hmk : ∀ W : World, (Instr.makeSlice 165 (.int .i64 (n : Int)) (.int .i64 (n : Int))).run Try.prog W = .ok (.slice (some ⟨W.heap.size, 0, none⟩) n n) (W.alloc (.cells (ic (fun _ => 0) n) 3)) := fun W => make_nums n n (Nat.le_refl _) (by omega) W
    have H0 : Hid (RowZs w.heap.size (w.alloc (.cells (ic (fun _ => 0) n) 3)) (.slice (some ⟨w.heap.size, 0, none⟩) n n) (List.replicate n 0)) := rowZ_zero w n (by omega)
    generalize ic (fun _ => 0) n = M at hmk H0
    generalize hla : l.length = la at *
    generalize hlb : m.length = lb at *
    have hsum : (la : Int) + (lb : Int) = (n : Int) := by omega
    have HLB : Hid (m.length = lb) := hlb
    have HN : Hid (n = la + lb) := hn
    clear hla hlb hbig hn
    go_enter Try.func131, Try.ntmps131
    go_wp2
    go_loopw [25] (fun i wr => ∃ (k : Nat) (p : List Int), i = .int .i64 (k : Int) ∧ k ≤ la ∧ Hid (p.length = n) ∧ Hid (qMul l m = trimZ (mulR m (l.drop k) k p)) ∧ Hid (RowZs w.heap.size wr (.slice (some ⟨w.heap.size, 0, none⟩) n n) p) ∧ Hid (Below w.heap.size w wr)) (fun i _ => la - (intOf i).toNat)
    case atStart => exact ⟨0, _, rfl, Nat.zero_le _, by show _ = _; simp, HE, H0, (Below.refl _ _).alloc (Nat.le_refl _) _⟩
    case round =>
      obtain ⟨k, p, rfl, hk, HPL, HQ, HR, HW⟩ := hrel
      clear hmk H0 HE hsum
      by_cases hlt : k < la
      · have hlt' : (k : Int) < (la : Int) := by omega
        have hk0 : (0 : Int) ≤ (k : Int) := by omega
        obtain ⟨ba, off, rfl, hba, hz⟩ := (HA.out.on HW.out) k hlt
        replace hz : wr.cell? ⟨ba, off + k, none⟩ = some (.int .i64 (l.getD k 0)) := hz
        have HQ2 : Hid (qMul l m = trimZ (mulR m (l.drop (k + 1)) (k + 1) (addSh p k (l.getD k 0) m))) := by
          show _ = _
          rw [HQ.out, HD.out k hlt, mulR]
        have CS : Hid (Calls Try.prog 147 #[.slice (some ⟨w.heap.size, 0, none⟩) n n, .int .i64 (k : Int), .int .i64 (l.getD k 0), .slice b lb cq] wr fun e w' => e = .returned (.tuple #[]) ∧ RowZs w.heap.size w' (.slice (some ⟨w.heap.size, 0, none⟩) n n) (addSh p k (l.getD k 0) m) ∧ Kps (fun x => x = w.heap.size) wr w') := by
          refine iSh_any _ _ p m k _ w.heap.size w.heap.size wr HR.out (fun _ => rfl) (ZFar.of_at (HB.out.on HW.out) (Nat.le_refl _)) ?_ ?_
          · rw [HPL.out, HLB.out, HN.out]; omega
          · rw [HPL.out, HN.out]; omega
        have HPL2 : Hid ((addSh p k (l.getD k 0) m).length = n) := by show _ = _; rw [addSh_len, HPL.out]
        generalize addSh p k (l.getD k 0) m = p2 at CS HQ2 HPL2
        generalize l.getD k 0 = z at hz CS
        clear hba HQ HR HPL
        go_wp2_with (go_at_call 147; refine CS.out.mono ?_; rintro e w2 ⟨rfl, hr2, hk2⟩)
        have HR2 : Hid (RowZs w.heap.size w2 (.slice (some ⟨w.heap.size, 0, none⟩) n n) p2) := hr2
        have HW2 : Hid (Below w.heap.size w w2) := hk2.bel HW.out HW.out.size (fun k hk => by omega)
        clear hr2 hk2
        go_wp2
        go_roundw
        case rel => exact ⟨k + 1, p2, by go_num, hlt, HPL2, HQ2, HR2, HW2⟩
        case measure => simp [intOf]; omega
      · have hlt' : ¬ (k : Int) < (la : Int) := by omega
        obtain rfl : la = k := by omega
        have CT : Hid (Calls Try.prog 148 #[.slice (some ⟨w.heap.size, 0, none⟩) n n] wr fun e w' => ∃ x, e = .returned x ∧ RowZs w.heap.size wr x (qMul l m) ∧ wr = w') := by
          refine (trimmed_any _ p (by rw [HPL.out, HN.out]; omega) w.heap.size wr HR.out).mono ?_
          rintro e w' ⟨a, n, c, h1, h2, h3, h4⟩
          refine ⟨_, h2, ?_, h4⟩
          rw [HQ.out, HD0.out]
          exact h3
        clear HQ HR
        go_wp2_with (go_at_call 148; refine CT.out.mono ?_; rintro e w3 ⟨x, rfl, hx, rfl⟩)
        go_ret
        exact ⟨_, rfl, ZOwn.of hx, HW.out⟩

end Go.Proofs.Ytbkfdafdchjakab

/-
  The walks of the program's values and of its polynomial with given zeros.
  (-DROP-: what the seat lacks is left out.)
-/
namespace Go.Proofs.Ytbkfdafdchjakab
open Go.RowKit

theorem drop_here {l : List Int} {k : Nat} (h : k < l.length) : l.drop k = l.getD k 0 :: l.drop (k + 1) := by
  rw [List.drop_eq_getElem_cons h]
  simp [h]

set_option maxHeartbeats 1600000 in
set_option maxRecDepth 100000 in
theorem iAt_any (v : Value) (l : List Int) (x : Int) (hl : l.length ≤ 1048576) (w : World) (h : ZAt w w.heap.size v l) :
    Calls Try.prog 96 #[v, .int .i64 x] w fun e w' => e = .returned (.int .i64 (pAt l x)) ∧ Below w.heap.size w w' := by
  obtain ⟨a, cp, rfl, hA⟩ := h
  have HA : Hid (IntsAt w a l.length w.heap.size (fun j => l.getD j 0)) := hA
  clear hA
  obtain ⟨n, hn⟩ : ∃ n, n = l.length := ⟨_, rfl⟩
  have HN : Hid (n = l.length) := hn
  rw [← hn] at HA hl ⊢
  clear hn
  go_enter Try.func96, Try.ntmps96
  go_wp2
  go_loopw [5, 6] (fun y i wr => ∃ (k : Nat), i = .int .i64 ((k : Int) - 1) ∧ k ≤ n ∧ y = .int .i64 (pAt (l.drop k) x) ∧ Hid (Below w.heap.size w wr)) (fun _ i _ => (intOf i + 1).toNat)
  case atStart => exact ⟨n, rfl, Nat.le_refl _, by rw [HN.out, List.drop_length]; rfl, Below.refl _ _⟩
  case round =>
    obtain ⟨k, rfl, hk, rfl, HB⟩ := hrel
    by_cases h0 : 0 < k
    · obtain ⟨j, rfl⟩ : ∃ j, k = j + 1 := ⟨k - 1, by omega⟩
      have hi1 : ((j + 1 : Nat) : Int) - 1 = (j : Int) := by omega
      have hi2 : (0 : Int) ≤ (j : Int) := by omega
      have hi3 : (j : Int) < (n : Int) := by omega
      obtain ⟨b, off, rfl, hb, hz⟩ := (HA.out.on HB.out) j (by omega)
      replace hz : wr.cell? ⟨b, off + j, none⟩ = some (.int .i64 (l.getD j 0)) := hz
      have HP : Hid (pAt (l.drop j) x = scAdd (scMul (pAt (l.drop (j + 1)) x) x) (l.getD j 0)) := by
        show _ = _
        rw [drop_here (l := l) (k := j) (by have := HN.out; omega)]
        rfl
      have HC : Hid (∀ w, Calls Try.prog 59 #[.int .i64 (pAt (l.drop (j + 1)) x), .int .i64 x] w fun e w' => e = .returned (.int .i64 (scMul (pAt (l.drop (j + 1)) x) x)) ∧ w' = w) := fun w => (iScMul_any _ _ w).mono fun e w' h => ⟨h.1, h.2.symm⟩
      have HD : Hid (∀ w, Calls Try.prog 55 #[.int .i64 (scMul (pAt (l.drop (j + 1)) x) x), .int .i64 (l.getD j 0)] w fun e w' => e = .returned (.int .i64 (pAt (l.drop j) x)) ∧ w' = w) := fun w => by
        rw [HP.out]
        exact (iScAdd_any _ _ w).mono fun e w' h => ⟨h.1, h.2.symm⟩
      obtain ⟨r, hr⟩ : ∃ r, r = pAt (l.drop j) x := ⟨_, rfl⟩
      have HR : Hid (r = pAt (l.drop j) x) := hr
      rw [← hr] at HD
      clear hr HP
      generalize scMul (pAt (l.drop (j + 1)) x) x = p at HC HD
      generalize pAt (l.drop (j + 1)) x = q at HC
      generalize l.getD j 0 = z at HD hz
      clear hb HA
      go_wp2
      refine wp_region_still_tail 8 mixesSc (by kernel_rfl) ?_
      simp only [List.take_succ_cons, List.take_zero, List.drop_succ_cons, List.drop_zero]
      repeat still_step
      still_call (HC.out _)
      repeat still_step
      still_call (HD.out _)
      repeat still_step
      refine wpStill_nil ?_
      go_wp2
      go_roundw
      case rel => exact ⟨j, by go_num, by omega, by rw [HR.out], HB.out.drew⟩
      case measure => simp [intOf]
    · obtain rfl : k = 0 := by omega
      go_wp2
      go_ret
      exact ⟨by simp, HB.out⟩

set_option maxHeartbeats 1600000 in
set_option maxRecDepth 100000 in
theorem iZer_any (n : Int) (w : World) : Calls Try.prog 97 #[.int .i64 n] w fun e w' => ∃ u, e = .returned u ∧ ZOwn w.heap.size w'.heap.size w' u (pZer n) ∧ Below w.heap.size w w' := by
  by_cases h0 : n < 0
  · have HE : Hid (pZer n = []) := by show _ = _; unfold pZer; rw [if_pos (Or.inl h0)]
    go_enter Try.func97, Try.ntmps97
    go_wp2
    go_ret
    exact ⟨_, rfl, by rw [HE.out]; exact ZOwn.of (World.ownsRow_lit _ _ _ (Nat.le_refl _) (by simp [maxLen]) (by simp)), (Below.refl _ _).alloc (Nat.le_refl _) _⟩
  · by_cases h1 : n > 16
    · have HE : Hid (pZer n = []) := by show _ = _; unfold pZer; rw [if_pos (Or.inr h1)]
      go_enter Try.func97, Try.ntmps97
      go_wp2
      go_ret
      exact ⟨_, rfl, by rw [HE.out]; exact ZOwn.of (World.ownsRow_lit _ _ _ (Nat.le_refl _) (by simp [maxLen]) (by simp)), (Below.refl _ _).alloc (Nat.le_refl _) _⟩
    · obtain ⟨m, rfl⟩ : ∃ m : Nat, n = (m : Int) := ⟨n.toNat, by omega⟩
      have HE : Hid (pZer (m : Int) = zerL m) := by show _ = _; exact pZer_nat (by omega)
      have hm : m ≤ 16 := by omega
      have h0' : ¬ (m : Int) < 0 := by omega
      go_enter Try.func97, Try.ntmps97
      go_wp2
      go_loopw [3, 14] (fun u i wr => ∃ (k : Nat), i = .int .i64 (k : Int) ∧ k ≤ m ∧ Hid (ZOwn w.heap.size wr.heap.size wr u (zerL k)) ∧ Hid (Below w.heap.size w wr)) (fun _ i _ => m - (intOf i).toNat)
      case atStart => exact ⟨0, rfl, Nat.zero_le _, ZOwn.of (own_lit w [1] (by simp)), (Below.refl _ _).alloc (Nat.le_refl _) _⟩
      case round =>
        obtain ⟨k, rfl, hk, HU, HB⟩ := hrel
        obtain ⟨xa, xc, hxv⟩ := row_form HU.out.1
        subst hxv
        generalize hzl : (zerL k).length = zn at HU
        clear hzl
        by_cases hlt : k < m
        · have hlt' : (k : Int) < (m : Int) := by omega
          have hwr : IntKind.i64.wrap ((k : Int) + 1) = (k : Int) + 1 := IntWalk.i64_in _ (by omega)
          have hwn : IntKind.i64.wrap (-((k : Int) + 1)) = -((k : Int) + 1) := IntWalk.i64_in _ (by omega)
          have CM : Hid (∀ V : World, V = wr.alloc (.cells #[.int .i64 (-((k : Int) + 1)), .int .i64 1] 3) → Calls Try.prog 131 #[.slice xa zn xc, .slice (some ⟨wr.heap.size, 0, none⟩) 2 2] V fun e w' => ∃ x, e = .returned x ∧ ZOwn V.heap.size w'.heap.size w' x (zerL (k + 1)) ∧ Below V.heap.size V w') := fun V hV => by
            subst hV
            have hb : Below wr.heap.size wr (wr.alloc (.cells #[.int .i64 (-((k : Int) + 1)), .int .i64 1] 3)) := (Below.refl _ _).alloc (Nat.le_refl _) _
            refine iQMul_any _ _ (zerL k) [-((k : Int) + 1), 1] (zerL_len k) (by simp) _ (((HU.out.at).on hb).wide hb.size) ?_
            exact (ZOwn.of (own_lit wr [-((k : Int) + 1), 1] (by simp))).at
          clear HU
          go_wp2_with (go_at_call 131; refine (CM.out _ rfl).mono ?_; rintro e w2 ⟨x, rfl, hx, hb2⟩)
          have hs : wr.heap.size ≤ (wr.alloc (.cells #[.int .i64 (-((k : Int) + 1)), .int .i64 1] 3)).heap.size := by simp
          have HX : Hid (ZOwn w.heap.size w2.heap.size w2 x (zerL (k + 1))) := hx.wide (Nat.le_trans HB.out.size hs) (Nat.le_refl _)
          have HB2 : Hid (Below w.heap.size w w2) := (HB.out.alloc HB.out.size _).trans (hb2.mono (Nat.le_trans HB.out.size hs))
          clear hx hb2 hs CM
          go_wp2
          go_roundw
          case rel => exact ⟨k + 1, by go_num, hlt, HX, HB2⟩
          case measure => simp [intOf]; omega
        · have hlt' : ¬ (k : Int) < (m : Int) := by omega
          obtain rfl : m = k := by omega
          go_wp2
          go_ret
          exact ⟨_, rfl, by rw [HE.out]; exact HU.out, HB.out⟩

end Go.Proofs.Ytbkfdafdchjakab

/-
  The walk of the program's polynomial through given values.
  (-DROP-: what the seat lacks is left out.)
-/
namespace Go.Proofs.Ytbkfdafdchjakab
open Go.RowKit

theorem lit1_at (w : World) (x : Int) : ZAt (w.alloc (.cells #[.int .i64 x] 3)) (w.alloc (.cells #[.int .i64 x] 3)).heap.size (.slice (some ⟨w.heap.size, 0, none⟩) 1 1) [x] := (ZOwn.of (own_lit w [x] (by simp))).at

set_option maxHeartbeats 3200000 in
set_option maxRecDepth 100000 in
theorem iThr_any (v : Value) (l : List Int) (hl : l.length ≤ 1048576) (w : World) (h : ZAt w w.heap.size v l) : Calls Try.prog 130 #[v] w fun e w' => ∃ u, e = .returned u ∧ ZOwn w.heap.size w'.heap.size w' u (pThr l) ∧ Below w.heap.size w w' := by
  obtain ⟨a, cp, rfl, hA⟩ := h
  have HA : Hid (IntsAt w a l.length w.heap.size (fun j => l.getD j 0)) := hA
  clear hA
  by_cases hbig : 16 < l.length
  · have HE : Hid (pThr l = []) := by show _ = _; unfold pThr; rw [if_pos hbig]
    have hb' : (l.length : Int) > 16 := by omega
    generalize l.length = n at *
    go_enter Try.func130, Try.ntmps130
    go_wp2
    go_ret
    exact ⟨_, rfl, by rw [HE.out]; exact ZOwn.of (World.ownsRow_lit _ _ _ (Nat.le_refl _) (by simp [maxLen]) (by simp)), (Below.refl _ _).alloc (Nat.le_refl _) _⟩
  · have HE : Hid (pThr l = thrL l l.length) := by show _ = _; unfold pThr; rw [if_neg hbig]
    have hb' : ¬ (l.length : Int) > 16 := by omega
    generalize l.length = n at *
    go_enter Try.func130, Try.ntmps130
    go_wp2
    go_loopw [3, 17] (fun u i wr => ∃ (k : Nat), i = .int .i64 (k : Int) ∧ k ≤ n ∧ Hid (ZOwn w.heap.size wr.heap.size wr u (thrL l k)) ∧ Hid (Below w.heap.size w wr)) (fun _ i _ => n - (intOf i).toNat)
    case atStart => exact ⟨0, rfl, Nat.zero_le _, ZOwn.of (World.ownsRow_lit _ _ _ (Nat.le_refl _) (by simp [maxLen]) (by simp)), (Below.refl _ _).alloc (Nat.le_refl _) _⟩
    case round =>
      obtain ⟨k, rfl, hk, HU, HB⟩ := hrel
      obtain ⟨xa, xc, hxv⟩ := row_form HU.out.1
      subst hxv
      have hthr := thrL_small l k
      generalize hzl : (thrL l k).length = zn at HU
      by_cases hlt : k < n
      · have hlt' : (k : Int) < (n : Int) := by omega
        have hk0 : (0 : Int) ≤ (k : Int) := by omega
        have hwr : IntKind.i64.wrap ((k : Int) + 1) = (k : Int) + 1 := IntWalk.i64_in _ (by omega)
        obtain ⟨ba, off, rfl, hba, hz⟩ := (HA.out.on HB.out) k hlt
        replace hz : wr.cell? ⟨ba, off + k, none⟩ = some (.int .i64 (l.getD k 0)) := hz
        have CZ : Hid (∀ w, Calls Try.prog 97 #[.int .i64 (k : Int)] w fun e w' => ∃ u, e = .returned u ∧ ZOwn w.heap.size w'.heap.size w' u (zerL k) ∧ Below w.heap.size w w') := fun w => by
          have := iZer_any (k : Int) w
          rwa [pZer_nat (by omega)] at this
        have CT : Hid (∀ w (v : Value), ZAt w w.heap.size v (thrL l k) → Calls Try.prog 96 #[v, .int .i64 ((k : Int) + 1)] w fun e w' => e = .returned (.int .i64 (pAt (thrL l k) ((k : Int) + 1))) ∧ Below w.heap.size w w') := fun w v hv => iAt_any v _ _ (by omega) w hv
        have CE : Hid (∀ w (v : Value), ZAt w w.heap.size v (zerL k) → Calls Try.prog 96 #[v, .int .i64 ((k : Int) + 1)] w fun e w' => e = .returned (.int .i64 (pAt (zerL k) ((k : Int) + 1))) ∧ Below w.heap.size w w') := fun w v hv => iAt_any v _ _ (zerL_len k) w hv
        have CN : Hid (∀ w, Calls Try.prog 145 #[.int .i64 (pAt (thrL l k) ((k : Int) + 1))] w fun e w' => e = .returned (.int .i64 (scNeg (pAt (thrL l k) ((k : Int) + 1)))) ∧ w = w') := iScNeg_any _
        have CA : Hid (∀ w, Calls Try.prog 55 #[.int .i64 (l.getD k 0), .int .i64 (scNeg (pAt (thrL l k) ((k : Int) + 1)))] w fun e w' => e = .returned (.int .i64 (scAdd (l.getD k 0) (scNeg (pAt (thrL l k) ((k : Int) + 1))))) ∧ w = w') := iScAdd_any _ _
        have CI : Hid (∀ w, Calls Try.prog 60 #[.int .i64 (pAt (zerL k) ((k : Int) + 1))] w fun e w' => e = .returned (.int .i64 (scInv (pAt (zerL k) ((k : Int) + 1)))) ∧ w = w') := iScInv_any _
        have CM : Hid (∀ w, Calls Try.prog 59 #[.int .i64 (scAdd (l.getD k 0) (scNeg (pAt (thrL l k) ((k : Int) + 1)))), .int .i64 (scInv (pAt (zerL k) ((k : Int) + 1)))] w fun e w' => e = .returned (.int .i64 (thrF l (thrL l k) k)) ∧ w = w') := iScMul_any _ _
        have CP : Hid (∀ w (u v : Value), ZAt w w.heap.size u [thrF l (thrL l k) k] → ZAt w w.heap.size v (zerL k) → Calls Try.prog 131 #[u, v] w fun e w' => ∃ u, e = .returned u ∧ ZOwn w.heap.size w'.heap.size w' u (qMul [thrF l (thrL l k) k] (zerL k)) ∧ Below w.heap.size w w') := fun w u v h1 h2 => iQMul_any u v _ _ (by simp) (zerL_len k) w h1 h2
        have CS : Hid (∀ w (u v : Value), ZAt w w.heap.size u (thrL l k) → ZAt w w.heap.size v (qMul [thrF l (thrL l k) k] (zerL k)) → Calls Try.prog 146 #[u, v] w fun e w' => ∃ u, e = .returned u ∧ ZOwn w.heap.size w'.heap.size w' u (thrL l (k + 1)) ∧ Below w.heap.size w w') := fun w u v h1 h2 => iQAdd_any u v _ _ (by omega) (qMul_len _ _) w h1 h2
        clear hzl hthr hba
        generalize thrF l (thrL l k) k = fac at CM CP CS
        generalize qMul [fac] (zerL k) = pm at CP CS
        generalize scAdd (l.getD k 0) (scNeg (pAt (thrL l k) ((k : Int) + 1))) = q1 at CA CM
        generalize scNeg (pAt (thrL l k) ((k : Int) + 1)) = q2 at CN CA
        generalize pAt (thrL l k) ((k : Int) + 1) = q3 at CT CN
        generalize scInv (pAt (zerL k) ((k : Int) + 1)) = q4 at CI CM
        generalize pAt (zerL k) ((k : Int) + 1) = q5 at CE CI
        generalize l.getD k 0 = y at hz CA
        generalize ht2 : thrL l (k + 1) = t2 at CS
        have HT2 : Hid (thrL l (k + 1) = t2) := ht2
        clear ht2
        generalize thrL l k = t1 at HU CT CS
        generalize zerL k = z1 at CZ CE CP
        go_wp2_with fail
        go_at_call 97
        refine (CZ.out _).mono ?_
        rintro e w1 ⟨zv, rfl, hzv, hb1⟩
        have HZ1 : Hid (ZOwn wr.heap.size w1.heap.size w1 zv z1 ∧ Below wr.heap.size wr w1) := ⟨hzv, hb1⟩
        clear hzv hb1
        go_wp2_with fail
        go_at_call 96
        refine (CT.out _ _ ((HU.out.at.on HZ1.out.2).wide HZ1.out.2.size)).mono ?_
        rintro e w2 ⟨rfl, hb2⟩
        have HB2 : Hid (Below w1.heap.size w1 w2) := hb2
        clear hb2
        go_wp2_with fail
        go_at_call 145
        refine (CN.out _).mono ?_
        rintro e wz ⟨rfl, rfl⟩
        go_wp2_with fail
        go_at_call 55
        refine (CA.out _).mono ?_
        rintro e wz ⟨rfl, rfl⟩
        go_wp2_with fail
        go_at_call 96
        refine (CE.out _ _ ((HZ1.out.1.at.on HB2.out).wide HB2.out.size)).mono ?_
        rintro e w3 ⟨rfl, hb3⟩
        have HB3 : Hid (Below w1.heap.size w1 w3) := HB2.out.trans (hb3.mono HB2.out.size)
        clear hb3
        go_wp2_with fail
        go_at_call 60
        refine (CI.out _).mono ?_
        rintro e wz ⟨rfl, rfl⟩
        go_wp2_with fail
        go_at_call 59
        refine (CM.out _).mono ?_
        rintro e wz ⟨rfl, rfl⟩
        go_wp2_with fail
        have HB4 : Hid (Below w1.heap.size w1 (w3.alloc (.cells #[.int .i64 fac] 3))) := HB3.out.alloc HB3.out.size _
        have HL4 : Hid (ZAt (w3.alloc (.cells #[.int .i64 fac] 3)) (w3.alloc (.cells #[.int .i64 fac] 3)).heap.size (.slice (some ⟨w3.heap.size, 0, none⟩) 1 1) [fac]) := lit1_at w3 fac
        generalize w3.alloc (.cells #[.int .i64 fac] 3) = w4 at HB4 HL4 ⊢
        go_at_call 131
        refine (CP.out _ _ _ HL4.out ((HZ1.out.1.at.on HB4.out).wide HB4.out.size)).mono ?_
        rintro e w5 ⟨pv, rfl, hpv, hb5⟩
        have HB5 : Hid (Below wr.heap.size wr w5) := HZ1.out.2.trans ((HB4.out.trans (hb5.mono HB4.out.size)).mono HZ1.out.2.size)
        have HP5 : Hid (ZAt w5 w5.heap.size pv pm) := hpv.at
        clear hpv hb5
        go_wp2_with fail
        go_at_call 146
        refine (CS.out _ _ _ ((HU.out.at.on HB5.out).wide HB5.out.size) HP5.out).mono ?_
        rintro e w6 ⟨nv, rfl, hnv, hb6⟩
        have hws : w.heap.size ≤ w5.heap.size := Nat.le_trans HB.out.size HB5.out.size
        have HB6 : Hid (Below w.heap.size w w6) := (HB.out.trans (HB5.out.mono HB.out.size)).trans (hb6.mono hws)
        have HN6 : Hid (ZOwn w.heap.size w6.heap.size w6 nv t2) := hnv.wide hws (Nat.le_refl _)
        clear hnv hb6 hws HP5 HB5 HB4 HL4 HB3 HB2 HZ1 CS CP CM CI CA CN CE CT CZ HU
        go_wp2
        go_roundw
        case rel => exact ⟨k + 1, by go_num, hlt, by rw [HT2.out]; exact HN6, HB6⟩
        case measure => simp [intOf]; omega
      · have hlt' : ¬ (k : Int) < (n : Int) := by omega
        obtain rfl : n = k := by omega
        clear hzl hthr
        go_wp2
        go_ret
        exact ⟨_, rfl, by rw [HE.out]; exact HU.out, HB.out⟩

end Go.Proofs.Ytbkfdafdchjakab
