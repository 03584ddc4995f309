/-
  Texts of one's own, joined.
-/
import Derived.Test.YthnahalboomkoaaGreatJoined11
import Derived.Lib.MinMax
import Derived.Test.YthnahalboomkoaaGreatJoined7
import Derived.Test.YthnahalboomkoaaGreatJoined8

/-
  The walks of the program's sum and of its values.
  (-DROP-: what the seat lacks is left out.)
-/
namespace Go.Proofs.YthnahalboomkoaaGreat
open Go.RowKit

set_option maxHeartbeats 800000 in
set_option maxRecDepth 100000 in
theorem at_any (v : Value) (l : List Int) (k : Nat) (c : Nat) (w : World) (h : ZAt w c v l) :
    Calls Tryz.prog 214 #[v, .int .i64 (k : Int)] w fun e w' => e = .returned (.int .i64 (l.getD k 0)) ∧ w = w' := by
  obtain ⟨a, cp, rfl, hA⟩ := h
  have hk0 : (0 : Int) ≤ (k : Int) := by omega
  by_cases hlt : k < l.length
  · obtain ⟨b, off, rfl, hb, hz⟩ := hA k hlt
    replace hz : w.cell? ⟨b, off + k, none⟩ = some (.int .i64 (l.getD k 0)) := hz
    generalize l.getD k 0 = z at hz ⊢
    have hlt' : (k : Int) < (l.length : Int) := by omega
    clear hA
    generalize l.length = n at *
    go_enter Tryz.func214, Tryz.ntmps214
    go_wp2
    go_ret
    exact ⟨rfl, rfl⟩
  · have hz : l.getD k 0 = 0 := getD_out (by omega)
    rw [hz]
    have hlt' : ¬ (k : Int) < (l.length : Int) := by omega
    clear hA hz
    generalize l.length = n at *
    go_enter Tryz.func214, Tryz.ntmps214
    go_wp2
    go_ret
    exact ⟨rfl, rfl⟩

set_option maxHeartbeats 1600000 in
set_option maxRecDepth 100000 in
theorem with_any (v u : Value) (l m : List Int) (hl : l.length ≤ 1048576) (hm : m.length ≤ 1048576) (w : World) (h : ZAt w w.heap.size v l) (h2 : ZAt w w.heap.size u m) :
    Calls Tryz.prog 212 #[v, u, .func (Fn.func 94) #[] #[]] w fun e w' => ∃ x, e = .returned x ∧ RowZs w.heap.size w' x (zls (fun j => scAdd (l.getD j 0) (m.getD j 0)) (max l.length m.length)) ∧ Below w.heap.size w w' := by
  have HA : Hid (ZAt w w.heap.size v l) := h
  have HB : Hid (ZAt w w.heap.size u m) := h2
  obtain ⟨a, cp, rfl, hA⟩ := h
  obtain ⟨b, cq, rfl, hB⟩ := h2
  clear hA hB
  obtain ⟨n, hn⟩ : ∃ n, n = max l.length m.length := ⟨_, rfl⟩
  rw [← hn]
  have hnl : l.length ≤ n ∧ m.length ≤ n ∧ n ≤ 1048576 := by omega
  have hmax : max (l.length : Int) (m.length : Int) = (n : Int) := by omega
  obtain ⟨f, hf⟩ : ∃ f : Nat → Int, f = fun j => scAdd (l.getD j 0) (m.getD j 0) := ⟨_, rfl⟩
  have HF : Hid (∀ j, f j = scAdd (l.getD j 0) (m.getD j 0)) := fun j => by rw [hf]
  rw [← hf]
  have hmk : ∀ W : World, (Instr.makeSlice 206 (.int .i64 (n : Int)) (.int .i64 (n : Int))).run Tryz.prog W = .ok (.slice (some ⟨W.heap.size, 0, none⟩) n n) (W.alloc (.cells (ic (fun _ => 0) n) 3)) := fun W => make_nums n n (Nat.le_refl _) (by omega) W
  have H0 : Hid (RowI (w.alloc (.cells (ic (fun _ => 0) n) 3)) w.heap.size n (upTo f 0)) := (rowI_new w (fun _ => 0) n).congr fun j _ => by unfold upTo; rw [if_neg (by omega)]
  generalize ic (fun _ => 0) n = M at hmk H0
  have HLA : Hid (∃ la, la = l.length) := ⟨_, rfl⟩
  clear hn hf
  generalize hla : l.length = la at *
  generalize hlb : m.length = lb at *
  have HLa : Hid (l.length = la) := hla
  have HLb : Hid (m.length = lb) := hlb
  clear hla hlb HLA
  go_enter Tryz.func212, Tryz.ntmps212
  go_wp2
  go_loopw [17] (fun i wr => ∃ k : Nat, i = .int .i64 (k : Int) ∧ k ≤ n ∧ Hid (RowI wr w.heap.size n (upTo f k)) ∧ Hid (Below w.heap.size w wr)) (fun i _ => n - (intOf i).toNat)
  case atStart => exact ⟨0, rfl, Nat.zero_le _, H0, (Below.refl _ _).alloc (Nat.le_refl _) _⟩
  case round =>
    obtain ⟨k, rfl, hk, HR, HW⟩ := hrel
    clear hmk H0 hmax
    by_cases hlt : k < n
    · have hlt' : (k : Int) < (n : Int) := by omega
      have hk0 : (0 : Int) ≤ (k : Int) := by omega
      have C1 : Hid (Calls Tryz.prog 214 #[.slice a la cp, .int .i64 (k : Int)] wr fun e w' => e = .returned (.int .i64 (l.getD k 0)) ∧ wr = w') := at_any _ _ _ w.heap.size _ (HA.out.on HW.out)
      have C2 : Hid (Calls Tryz.prog 214 #[.slice b lb cq, .int .i64 (k : Int)] wr fun e w' => e = .returned (.int .i64 (m.getD k 0)) ∧ wr = w') := at_any _ _ _ w.heap.size _ (HB.out.on HW.out)
      have C3 : Hid (∀ w, Calls Tryz.prog 94 #[.int .i64 (l.getD k 0), .int .i64 (m.getD k 0)] w fun e w' => e = .returned (.int .i64 (f k)) ∧ w = w') := fun w => by rw [HF.out k]; exact iScAdd_any _ _ w
      have hc := HR.out.cell hlt
      have hf := HR.out.free k
      have N := HR.out.set k (f k)
      have NB := HW.out.setCell (p := ⟨w.heap.size, k, none⟩) (Nat.le_refl _) (.int .i64 (f k))
      have hu : (fun i => if i = k then f k else upTo f k i) = upTo f (k + 1) := upTo_next _ _
      rw [hu] at N
      have HN2 : Hid (RowI (wr.setCell ⟨w.heap.size, k, none⟩ (.int .i64 (f k))) w.heap.size n (upTo f (k + 1)) ∧ Below w.heap.size w (wr.setCell ⟨w.heap.size, k, none⟩ (.int .i64 (f k)))) := ⟨N, NB⟩
      obtain ⟨F, hF⟩ : ∃ F, F = upTo f (k + 1) := ⟨_, rfl⟩
      have HFF : Hid (F = upTo f (k + 1)) := hF
      rw [← hF] at HN2
      clear hF hu N NB
      generalize upTo f k k = old at hc
      generalize f k = y at C3 HN2
      generalize l.getD k 0 = x1 at C1 C3
      generalize m.getD k 0 = x2 at C2 C3
      clear HA HB HR HW HF HLa HLb
      go_wp2_with fail
      go_at_call 214
      refine C1.out.mono ?_
      rintro e wz ⟨rfl, rfl⟩
      go_wp2_with fail
      go_at_call 214
      refine C2.out.mono ?_
      rintro e wz ⟨rfl, rfl⟩
      go_wp2_with (go_at_call 94; refine (C3.out _).mono ?_; rintro e wz ⟨rfl, rfl⟩)
      go_roundw
      case rel => exact ⟨k + 1, by go_num, hlt, HFF.out ▸ HN2.out.1, HN2.out.2⟩
      case measure => simp [intOf]; omega
    · have hlt' : ¬ (k : Int) < (n : Int) := by omega
      obtain rfl : n = k := by omega
      go_wp2
      go_ret
      refine ⟨_, rfl, ?_, HW.out⟩
      exact (HR.out.congr fun j hj => upTo_in _ hj).rowZ (Nat.le_refl _) hnl.2.2

theorem add_same (l m : List Int) : trimZ (zls (fun j => scAdd (l.getD j 0) (m.getD j 0)) (max l.length m.length)) = qAdd l m := by
  have hz : ∀ (f : Nat → Int) (n j : Nat), (∀ j, n ≤ j → f j = 0) → (zls f n).getD j 0 = f j := fun f n j h => by
    by_cases hj : j < n
    · exact zls_at f hj
    · rw [getD_out (by rw [zls_length]; omega), h j (by omega)]
  have h1 : ∀ j, max l.length m.length ≤ j → scAdd (l.getD j 0) (m.getD j 0) = 0 := fun j hj => by
    rw [getD_out (l := l) (by omega), getD_out (l := m) (by omega)]; rfl
  have h2 : ∀ j, max l.length m.length ≤ j → padF l m j = 0 := fun j hj => by
    unfold padF
    rw [if_neg (by omega), if_neg (by omega)]
  refine can_eq (Can.of_trim _ fun j => ?_) (pTrim_can _) fun j => ?_
  · rw [hz _ _ _ h1]
    exact sc_add _ _
  · unfold qAdd
    rw [trimZ_at, hz _ _ _ h1, pTrim_at]
    have e : (List.map (padF l m) (List.range (max l.length m.length))).getD j 0 = padF l m j := hz _ _ _ h2
    rw [e]
    have e2 : sca (padF l m j) = scAdd (l.getD j 0) (m.getD j 0) := by
      unfold padF
      by_cases hb : j < m.length <;> by_cases ha : j < l.length
      · simp only [if_pos hb, if_pos ha, scAdd_eq, sca_sca, Int.zero_add, sca_add_left]
      · simp only [if_pos hb, if_neg ha, scAdd_eq, sca_sca]
        rw [getD_out (l := l) (by omega)]
      · simp only [if_neg hb, if_pos ha, scAdd_eq, sca_sca, Int.zero_add]
        rw [getD_out (l := m) (by omega), Int.add_zero]
      · simp only [if_neg hb, if_neg ha]
        rw [getD_out (l := l) (by omega), getD_out (l := m) (by omega)]
        rfl
    rw [e2]
    exact dp_zero.of (by omega)

theorem iQAdd_any (v u : Value) (l m : List Int) (hl : l.length ≤ 1048576) (hm : m.length ≤ 1048576) (w : World) (h : ZAt w w.heap.size v l) (h2 : ZAt w w.heap.size u m) : Calls Tryz.prog 205 #[v, u] w fun e w' => ∃ u, e = .returned u ∧ ZOwn w.heap.size w'.heap.size w' u (qAdd l m) ∧ Below w.heap.size w w' := by
  have HE : Hid (Calls Tryz.prog 212 #[v, u, .func (Fn.func 94) #[] #[]] w fun e w' => ∃ x, e = .returned x ∧ RowZs w.heap.size w' x (zls (fun j => scAdd (l.getD j 0) (m.getD j 0)) (max l.length m.length)) ∧ Below w.heap.size w w') := with_any v u l m hl hm w h h2
  have HT : Hid (∀ (x : Value) (B : Nat) (W : World), RowZs B W x (zls (fun j => scAdd (l.getD j 0) (m.getD j 0)) (max l.length m.length)) → Calls Tryz.prog 207 #[x] W fun e w' => ∃ x, e = .returned x ∧ RowZs B W x (qAdd l m) ∧ W = w') := fun x B W hu => (trimmed_any x _ (by rw [zls_length]; omega) B W hu).mono fun e w' ⟨a, n, c, h1, h2, h3, h4⟩ => ⟨_, h2, by rw [← add_same]; exact h3, h4⟩
  clear h h2 hl hm
  go_enter Tryz.func205, Tryz.ntmps205
  go_wp2_with (first
    | (go_at_call 212; refine (HE.out).mono ?_; rintro e w2 ⟨x, rfl, hu, hb⟩)
    | (go_at_call 207; refine (HT.out _ _ _ hu).mono ?_; rintro e w3 ⟨x, rfl, hx, rfl⟩))
  go_ret
  exact ⟨_, rfl, ZOwn.of hx, hb⟩

end Go.Proofs.YthnahalboomkoaaGreat

/-
  The walks of the program's product.
  (-DROP-: what the seat lacks is left out.)
-/
namespace Go.Proofs.YthnahalboomkoaaGreat
open Go.RowKit

/-- A list of numbers that lies elsewhere. -/
def ZFar (w : World) (g : Nat) (u : Value) (b : List Int) : Prop := ∃ a cp, u = .slice a b.length cp ∧ ∀ j, j < b.length → ∃ k off, a = some ⟨k, off, none⟩ ∧ k ≠ g ∧ w.cell? ⟨k, off + j, none⟩ = some (.int .i64 (b.getD j 0))
theorem ZFar.of_at {w : World} {c g : Nat} {u : Value} {b : List Int} (h : ZAt w c u b) (hc : c ≤ g) : ZFar w g u b := by
  obtain ⟨a, cp, rfl, hA⟩ := h
  refine ⟨a, cp, rfl, fun j hj => ?_⟩
  obtain ⟨k, off, h1, h2, h3⟩ := hA j hj
  exact ⟨k, off, h1, by omega, h3⟩
theorem ZFar.of_row {w : World} {B g : Nat} {u : Value} {b : List Int} (h : RowZs B w u b) (hg : u.ownBlock ≠ some g) : ZFar w g u b := by
  obtain ⟨a, cp, hv⟩ := row_form h
  refine ⟨a, cp, hv, fun j hj => ?_⟩
  obtain ⟨k, c, h1, h2, h3, h4, _⟩ := h.cellZ hj
  rw [hv] at h1
  injection h1 with e1
  refine ⟨k, 0, e1, ?_, by rw [Nat.zero_add]; exact h4⟩
  intro e
  subst e
  exact hg (by rw [hv, e1]; rfl)
theorem ZFar.set {w : World} {g : Nat} {u : Value} {b : List Int} (h : ZFar w g u b) (j : Nat) (x : Value) : ZFar (w.setCell ⟨g, j, none⟩ x) g u b := by
  obtain ⟨a, cp, rfl, hA⟩ := h
  refine ⟨a, cp, rfl, fun i hi => ?_⟩
  obtain ⟨k, off, h1, h2, h3⟩ := hA i hi
  exact ⟨k, off, h1, h2, (World.cell?_of_block (a := ⟨k, off + i, none⟩) (Below.heap_setCell w ⟨g, j, none⟩ x k h2)).trans h3⟩
theorem ZFar.drew {w : World} {g : Nat} {u : Value} {b : List Int} (h : ZFar w g u b) : ZFar w.drew g u b := h
theorem ZFar.kps {w w' : World} {g : Nat} {u : Value} {b : List Int} (h : ZFar w g u b) (hk : Kps (fun x => x = g) w w') (hs : ∀ j, j < b.length → ∀ k off, (∃ c, u = .slice (some ⟨k, off, none⟩) b.length c) → k < w.heap.size) : ZFar w' g u b := by
  obtain ⟨a, cp, rfl, hA⟩ := h
  refine ⟨a, cp, rfl, fun i hi => ?_⟩
  obtain ⟨k, off, h1, h2, h3⟩ := hA i hi
  subst h1
  exact ⟨k, off, rfl, h2, (World.cell?_of_block (a := ⟨k, off + i, none⟩) (hk.block k (hs i hi k off ⟨cp, rfl⟩) h2)).trans h3⟩

set_option maxHeartbeats 1600000 in
set_option maxRecDepth 100000 in
theorem iSh_any (v u : Value) (p b : List Int) (s : Nat) (k : Int) (B g : Nat) (w : World) (hp : RowZs B w v p) (hg : 0 < p.length → v.ownBlock = some g) (hu : ZFar w g u b) (hs : s + b.length ≤ p.length) (hl : p.length ≤ 1048576) :
    Calls Tryz.prog 206 #[v, .int .i64 (s : Int), .int .i64 k, u] w fun e w' => e = .returned (.tuple #[]) ∧ RowZs B w' v (addSh p s k b) ∧ Kps (fun x => x = g) w w' := by
  obtain ⟨ra, rc, hv⟩ := row_form hp
  subst hv
  have HP : Hid (RowZs B w (.slice ra p.length rc) (addSh p s k (b.take 0))) := by
    show RowZs _ _ _ _
    rw [List.take_zero, addSh_nil]
    exact hp
  have HG : Hid (0 < p.length → (Value.slice ra p.length rc).ownBlock = some g) := hg
  have HU : Hid (ZFar w g u b) := hu
  obtain ⟨a, cp, rfl, hA⟩ := hu
  have HX : Hid (∀ t, t < b.length → (addSh p s k (b.take t)).getD (s + t) 0 = p.getD (s + t) 0) := fun t ht => addSh_new p s k b hs ht
  have HY : Hid (∀ t, t < b.length → (addSh p s k (b.take t)).set (s + t) (scAdd (p.getD (s + t) 0) (scMul k (b.getD t 0))) = addSh p s k (b.take (t + 1))) := fun t ht => addSh_next p s k b hs ht
  have HZ : Hid (addSh p s k (b.take b.length) = addSh p s k b) := by show _ = _; rw [List.take_length]
  have HL : Hid (∀ t, (addSh p s k (b.take t)).length = p.length) := fun t => addSh_len _ _ _ _
  generalize hnp : p.length = np at *
  generalize hnb : b.length = nb at *
  have HNB : Hid (b.length = nb) := hnb
  clear hA hp hg hnp hnb
  go_enter Tryz.func206, Tryz.ntmps206
  go_wp2
  go_loopw [12] (fun i wr => ∃ t : Nat, i = .int .i64 (t : Int) ∧ t ≤ nb ∧ Hid (RowZs B wr (.slice ra np rc) (addSh p s k (b.take t))) ∧ Hid (ZFar wr g (.slice a nb cp) b) ∧ Hid (Kps (fun x => x = g) w wr)) (fun i _ => nb - (intOf i).toNat)
  case atStart => exact ⟨0, rfl, Nat.zero_le _, HP, HU, Kps.refl _ _⟩
  case round =>
    obtain ⟨t, rfl, ht, HR, HF, HK⟩ := hrel
    clear HP HU
    by_cases hlt : t < nb
    · have hlt' : (t : Int) < (nb : Int) := by omega
      have ht0 : (0 : Int) ≤ (t : Int) := by omega
      have hxt := HX.out t hlt
      have hyt := HY.out t hlt
      generalize hii : s + t = i at hxt hyt
      have hst : (s : Int) + (t : Int) = (i : Int) := by omega
      have hst0 : (0 : Int) ≤ (i : Int) := by omega
      have hst1 : (i : Int) < (np : Int) := by omega
      have hst2 : (i : Int) ≤ 1048576 := by omega
      have hiL : i < np := by omega
      have hwr : IntKind.i64.wrap (i : Int) = (i : Int) := IntWalk.i64_in _ (by omega)
      clear hii
      obtain ⟨g', c', hv, hg1, hg2, hz, hf⟩ := HR.out.cellZ (j := i) (by rw [HL.out]; omega)
      rw [hxt] at hz
      have hra : ra = some ⟨g', 0, none⟩ := by injection hv
      subst hra
      have hgg : g' = g := by have := HG.out (by omega); injection this
      subst hgg
      obtain ⟨a', cp', hv2, hF⟩ := HF.out
      obtain ⟨kb, off, h1, h2, h3⟩ := hF t (by have := HNB.out; omega)
      have haa : a = a' := by injection hv2
      rw [h1] at haa
      subst haa
      have CM : Hid (∀ w, Calls Tryz.prog 56 #[.int .i64 k, .int .i64 (b.getD t 0)] w fun e w' => e = .returned (.int .i64 (scMul k (b.getD t 0))) ∧ w = w') := iScMul_any _ _
      have CA : Hid (∀ w, Calls Tryz.prog 94 #[.int .i64 (p.getD (i) 0), .int .i64 (scMul k (b.getD t 0))] w fun e w' => e = .returned (.int .i64 (scAdd (p.getD (i) 0) (scMul k (b.getD t 0)))) ∧ w = w') := iScAdd_any _ _
      have HNX := hyt
      obtain ⟨L, hL⟩ : ∃ L, L = addSh p s k (b.take t) := ⟨_, rfl⟩
      have HR2 : Hid (∀ wz : World, wz.heap = wr.heap → RowZs B wz (.slice (some ⟨g', 0, none⟩) np rc) L) := fun wz hwz => by
        rw [hL]
        exact owns_same (lo := 0) (hi := wr.heap.size) HR.out (fun k _ _ => by rw [hwz]) (fun k hk => ⟨Nat.zero_le _, (HR.out.lt k hk).2⟩)
      rw [← hL] at HNX
      have HNY : Hid (L.set (i) (scAdd (p.getD (i) 0) (scMul k (b.getD t 0))) = addSh p s k (b.take (t + 1))) := HNX
      have HC : Hid (∀ wz : World, wz.heap = wr.heap → wz.cell? ⟨g', i, none⟩ = some (.int .i64 (p.getD (i) 0)) ∧ wz.frozen? ⟨g', i, none⟩ = false) := fun wz hwz => by
        refine ⟨(World.cell?_of_block (a := ⟨g', i, none⟩) (by rw [hwz])).trans hz, ?_⟩
        rw [← hf]
        unfold World.frozen?
        rw [hwz]
      clear HNX hL hF hv2 HX HY hz hf HR hxt hyt hv hg1 hg2
      generalize hyy : scAdd (p.getD (i) 0) (scMul k (b.getD t 0)) = y at CA HNY
      clear hyy
      generalize scMul k (b.getD t 0) = q at CM CA
      generalize p.getD (i) 0 = x at HC CA
      generalize b.getD t 0 = z at CM h3
      go_wp2_with fail
      refine wp_region_last [(0, false), (1, false), (2, false), (3, false), (4, false), (5, false), (6, false), (7, false), (8, false), (9, false), (10, false), (11, false), (12, true), (13, true), (14, false)] 15 (fun wz => wz.heap = wr.heap) mixesSc (by kernel_rfl) rfl ?_
      repeat (refine ord_float rfl rfl (fun K hK => ⟨_, (fun w' hw => by have q0 := (HC.out w' hw).1; go_simp; exact rfl), ?_⟩); go_simp; refine hK _ ?_; clear hK K)
      refine ord_call rfl rfl (fun K hK => ⟨_, _, (by go_simp <;> first | exact rfl | exact ⟨rfl, rfl⟩), ?_⟩)
      refine (CM.out _).mono ?_
      rintro e u1 ⟨rfl, hu1⟩
      have T1 : u1.heap = wr.heap := (by rw [← hu1]; rfl)
      refine ⟨_, rfl, T1, ?_⟩
      go_simp
      refine hK _ _ ?_
      clear hK K
      repeat (refine ord_float rfl rfl (fun K hK => ⟨_, (fun w' hw => by have q0 := (HC.out w' hw).1; go_simp; exact rfl), ?_⟩); go_simp; refine hK _ ?_; clear hK K)
      refine ord_call rfl rfl (fun K hK => ⟨_, _, (by go_simp <;> first | exact rfl | exact ⟨rfl, rfl⟩), ?_⟩)
      refine (CA.out _).mono ?_
      rintro e u2 ⟨rfl, hu2⟩
      have T2 : u2.heap = wr.heap := (congrArg World.heap hu2.symm).trans T1
      refine ⟨_, rfl, T2, ?_⟩
      go_simp
      refine hK _ _ ?_
      clear hK K
      repeat (refine ord_float rfl rfl (fun K hK => ⟨_, (fun w' hw => by have q0 := (HC.out w' hw).1; go_simp; exact rfl), ?_⟩); go_simp; refine hK _ ?_; clear hK K)
      refine ord_nil ?_
      have hc2 := (HC.out u2 T2).1
      have hf2 := (HC.out u2 T2).2
      refine last_store rfl rfl rfl (u2.setCell ⟨g', i, none⟩ (.int .i64 y)) (by go_simp <;> rfl) ?_
      have HR3 : Hid (RowZs B (u2.setCell ⟨g', i, none⟩ (.int .i64 y)) (.slice (some ⟨g', 0, none⟩) np rc) (addSh p s k (b.take (t + 1)))) := by
        show RowZs _ _ _ _
        rw [← HNY.out]
        exact (HR2.out u2 T2).put i y
      have HF3 : Hid (ZFar (u2.setCell ⟨g', i, none⟩ (.int .i64 y)) g' (.slice (some ⟨kb, off, none⟩) nb cp) b) := by
        subst hu1 hu2
        exact HF.out.drew.set i _
      have HK3 : Hid (Kps (fun x => x = g') w (u2.setCell ⟨g', i, none⟩ (.int .i64 y))) := by
        subst hu1 hu2
        exact HK.out.drew.setCell rfl _
      generalize u2.setCell ⟨g', i, none⟩ (.int .i64 y) = V at HR3 HF3 HK3 ⊢
      clear hu1 hu2 T1 T2 hc2 hf2 HC HR2 HNY HF HK
      go_wp2
      go_roundw
      case rel => exact ⟨t + 1, by go_num, hlt, HR3, HF3, HK3⟩
      case measure => simp [intOf]; omega
    · have hlt' : ¬ (t : Int) < (nb : Int) := by omega
      obtain rfl : nb = t := by omega
      go_wp2
      go_end0
      refine ⟨rfl, ?_, HK.out⟩
      rw [← HZ.out]
      exact HR.out

theorem rowZ_zero (w : World) (n : Nat) (hn : n ≤ 1048576) : RowZs w.heap.size (w.alloc (.cells (ic (fun _ => 0) n) 3)) (.slice (some ⟨w.heap.size, 0, none⟩) n n) (List.replicate n 0) := by
  have h := (rowI_new w (fun _ => 0) n).rowZ (Nat.le_refl _) hn
  have e : zls (fun _ => 0) n = List.replicate n 0 := by simp [zls, List.map_const']
  rwa [e] at h

set_option maxHeartbeats 1600000 in
set_option maxRecDepth 100000 in
theorem iQMul_any (v u : Value) (l m : List Int) (hl : l.length ≤ 1048576) (hm : m.length ≤ 1048576) (w : World) (h : ZAt w w.heap.size v l) (h2 : ZAt w w.heap.size u m) : Calls Tryz.prog 180 #[v, u] w fun e w' => ∃ u, e = .returned u ∧ ZOwn w.heap.size w'.heap.size w' u (qMul l m) ∧ Below w.heap.size w w' := by
  have HB : Hid (ZAt w w.heap.size u m) := h2
  obtain ⟨a, cp, rfl, hA⟩ := h
  obtain ⟨b, cq, rfl, hB⟩ := h2
  have HA : Hid (IntsAt w a l.length w.heap.size (fun j => l.getD j 0)) := hA
  clear hA hB
  by_cases hbig : 64 < l.length ∨ 64 < m.length
  · have HE : Hid (qMul l m = []) := by show _ = _; unfold qMul; rw [if_pos hbig]
    generalize hla : l.length = la at *
    generalize hlb : m.length = lb at *
    clear hla hlb HA HB
    by_cases h1 : 64 < la
    · have h1' : (la : Int) > 64 := by omega
      clear hbig
      go_enter Tryz.func180, Tryz.ntmps180
      go_wp2
      go_ret
      exact ⟨_, rfl, by rw [HE.out]; exact ZOwn.of (World.ownsRow_lit _ _ _ (Nat.le_refl _) (by simp [maxLen]) (by simp)), (Below.refl _ _).alloc (Nat.le_refl _) _⟩
    · have h1' : ¬ (la : Int) > 64 := by omega
      have h2' : (lb : Int) > 64 := by omega
      clear hbig
      go_enter Tryz.func180, Tryz.ntmps180
      go_wp2
      go_ret
      exact ⟨_, rfl, by rw [HE.out]; exact ZOwn.of (World.ownsRow_lit _ _ _ (Nat.le_refl _) (by simp [maxLen]) (by simp)), (Below.refl _ _).alloc (Nat.le_refl _) _⟩
  · have hl64 : ¬ (l.length : Int) > 64 := by omega
    have hm64 : ¬ (m.length : Int) > 64 := by omega
    have hlm : l.length ≤ 64 ∧ m.length ≤ 64 := by omega
    obtain ⟨n, hn⟩ : ∃ n, n = l.length + m.length := ⟨_, rfl⟩
    have HE : Hid (qMul l m = trimZ (mulR m (l.drop 0) 0 (List.replicate n 0))) := by show _ = _; unfold qMul; rw [if_neg hbig, hn]; rfl
    have HD : Hid (∀ k, k < l.length → l.drop k = l.getD k 0 :: l.drop (k + 1)) := fun k hk => by rw [List.drop_eq_getElem_cons hk]; simp [hk]
    have HD0 : Hid (l.drop l.length = []) := by show _ = _; simp
    have hmk : ∀ W : World, (Instr.makeSlice 206 (.int .i64 (n : Int)) (.int .i64 (n : Int))).run Tryz.prog W = .ok (.slice (some ⟨W.heap.size, 0, none⟩) n n) (W.alloc (.cells (ic (fun _ => 0) n) 3)) := fun W => make_nums n n (Nat.le_refl _) (by omega) W
    have H0 : Hid (RowZs w.heap.size (w.alloc (.cells (ic (fun _ => 0) n) 3)) (.slice (some ⟨w.heap.size, 0, none⟩) n n) (List.replicate n 0)) := rowZ_zero w n (by omega)
    generalize ic (fun _ => 0) n = M at hmk H0
    generalize hla : l.length = la at *
    generalize hlb : m.length = lb at *
    have hsum : (la : Int) + (lb : Int) = (n : Int) := by omega
    have HLB : Hid (m.length = lb) := hlb
    have HN : Hid (n = la + lb) := hn
    clear hla hlb hbig hn
    go_enter Tryz.func180, Tryz.ntmps180
    go_wp2
    go_loopw [25] (fun i wr => ∃ (k : Nat) (p : List Int), i = .int .i64 (k : Int) ∧ k ≤ la ∧ Hid (p.length = n) ∧ Hid (qMul l m = trimZ (mulR m (l.drop k) k p)) ∧ Hid (RowZs w.heap.size wr (.slice (some ⟨w.heap.size, 0, none⟩) n n) p) ∧ Hid (Below w.heap.size w wr)) (fun i _ => la - (intOf i).toNat)
    case atStart => exact ⟨0, _, rfl, Nat.zero_le _, by show _ = _; simp, HE, H0, (Below.refl _ _).alloc (Nat.le_refl _) _⟩
    case round =>
      obtain ⟨k, p, rfl, hk, HPL, HQ, HR, HW⟩ := hrel
      clear hmk H0 HE hsum
      by_cases hlt : k < la
      · have hlt' : (k : Int) < (la : Int) := by omega
        have hk0 : (0 : Int) ≤ (k : Int) := by omega
        obtain ⟨ba, off, rfl, hba, hz⟩ := (HA.out.on HW.out) k hlt
        replace hz : wr.cell? ⟨ba, off + k, none⟩ = some (.int .i64 (l.getD k 0)) := hz
        have HQ2 : Hid (qMul l m = trimZ (mulR m (l.drop (k + 1)) (k + 1) (addSh p k (l.getD k 0) m))) := by
          show _ = _
          rw [HQ.out, HD.out k hlt, mulR]
        have CS : Hid (Calls Tryz.prog 206 #[.slice (some ⟨w.heap.size, 0, none⟩) n n, .int .i64 (k : Int), .int .i64 (l.getD k 0), .slice b lb cq] wr fun e w' => e = .returned (.tuple #[]) ∧ RowZs w.heap.size w' (.slice (some ⟨w.heap.size, 0, none⟩) n n) (addSh p k (l.getD k 0) m) ∧ Kps (fun x => x = w.heap.size) wr w') := by
          refine iSh_any _ _ p m k _ w.heap.size w.heap.size wr HR.out (fun _ => rfl) (ZFar.of_at (HB.out.on HW.out) (Nat.le_refl _)) ?_ ?_
          · rw [HPL.out, HLB.out, HN.out]; omega
          · rw [HPL.out, HN.out]; omega
        have HPL2 : Hid ((addSh p k (l.getD k 0) m).length = n) := by show _ = _; rw [addSh_len, HPL.out]
        generalize addSh p k (l.getD k 0) m = p2 at CS HQ2 HPL2
        generalize l.getD k 0 = z at hz CS
        clear hba HQ HR HPL
        go_wp2_with (go_at_call 206; refine CS.out.mono ?_; rintro e w2 ⟨rfl, hr2, hk2⟩)
        have HR2 : Hid (RowZs w.heap.size w2 (.slice (some ⟨w.heap.size, 0, none⟩) n n) p2) := hr2
        have HW2 : Hid (Below w.heap.size w w2) := hk2.bel HW.out HW.out.size (fun k hk => by omega)
        clear hr2 hk2
        go_wp2
        go_roundw
        case rel => exact ⟨k + 1, p2, by go_num, hlt, HPL2, HQ2, HR2, HW2⟩
        case measure => simp [intOf]; omega
      · have hlt' : ¬ (k : Int) < (la : Int) := by omega
        obtain rfl : la = k := by omega
        have CT : Hid (Calls Tryz.prog 207 #[.slice (some ⟨w.heap.size, 0, none⟩) n n] wr fun e w' => ∃ x, e = .returned x ∧ RowZs w.heap.size wr x (qMul l m) ∧ wr = w') := by
          refine (trimmed_any _ p (by rw [HPL.out, HN.out]; omega) w.heap.size wr HR.out).mono ?_
          rintro e w' ⟨a, n, c, h1, h2, h3, h4⟩
          refine ⟨_, h2, ?_, h4⟩
          rw [HQ.out, HD0.out]
          exact h3
        clear HQ HR
        go_wp2_with (go_at_call 207; refine CT.out.mono ?_; rintro e w3 ⟨x, rfl, hx, rfl⟩)
        go_ret
        exact ⟨_, rfl, ZOwn.of hx, HW.out⟩

end Go.Proofs.YthnahalboomkoaaGreat
