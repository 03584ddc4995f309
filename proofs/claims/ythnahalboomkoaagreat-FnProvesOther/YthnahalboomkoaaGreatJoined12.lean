/-
  Texts of one's own, joined.
-/
import Derived.Test.YthnahalboomkoaaGreatJoined11
import Derived.Test.YthnahalboomkoaaGreatJoined9
import Derived.Test.YthnahalboomkoaaGreatJoined6
import Derived.Maps.AppendAt
import Derived.StillTail
import Derived.StillTailTactics
import Derived.Test.YthnahalboomkoaaGreatJoined10

/-
  Numbers of keys: no program in here.
-/
namespace Go.Proofs.YthnahalboomkoaaGreat

/-- What a wire is at Tau, all together. -/
def wireA (al be u v x : Int) : Int := scAdd (scAdd (scMul be u) (scMul al v)) x
def scalB (x : Int) : Bool := decide (1 ≤ x ∧ x ≤ 1008)
/-- Whether the numbers of keys are right for a system. -/
def toxB (wi pu : Int) (n : Nat) (ls : List (List Int)) (ta al be ga de : Int) : Bool := (((((sysOk wi pu n ls && scalB ta) && scalB al) && scalB be) && scalB ga) && scalB de) && decide ((n : Int) < ta)

end Go.Proofs.YthnahalboomkoaaGreat

/-
  The walks of the specification's polynomials.
  (-DROP-: what the seat lacks is left out.)
-/
namespace Go.Proofs.YthnahalboomkoaaGreat
open Go.RowKit

/-- A list without its last number. -/
theorem RowZs.init {B : Nat} {w : World} {g n c : Nat} {l : List Int} {x : Int} (h : RowZs B w (.slice (some ⟨g, 0, none⟩) (n + 1) c) (l ++ [x])) (hn : l.length = n) : RowZs B w (.slice (some ⟨g, 0, none⟩) n c) l := by
  rcases h.2 with ⟨h0, _⟩ | ⟨g', c', cur, hv, hg, hh, h1, h2, h3, h4⟩
  · cases h0
  · injection hv with e1 e2 e3
    injection e1 with e1
    injection e1 with e1
    subst e1
    subst e3
    unfold RowZs
    rw [hn]
    refine ⟨by simp [zsV, hn], .inr ⟨g, c, cur, rfl, hg, hh, by omega, h2, h3, ?_⟩⟩
    have h5 := congrArg (List.take n) h4
    have hz : (zsV l).length = n := by simp [zsV, hn]
    have e : min n ((l ++ [x]).length * 1) = n := by rw [List.length_append]; simp; omega
    rw [List.take_take, e, zsV_append, List.take_left' hz] at h5
    rw [Nat.mul_one]
    exact h5
theorem list_init {l : List Int} (h : 0 < l.length) : ∃ t x, l = t ++ [x] := ⟨l.dropLast, l.getLast (by intro e; rw [e] at h; simp at h), (List.dropLast_concat_getLast _).symm⟩

end Go.Proofs.YthnahalboomkoaaGreat

/-
  The walks of the program's lists of numbers: each, at, with, trimmed; PolyTrim, PolyAdd.
  (-DROP-: what the seat lacks is left out.)
-/
namespace Go.Proofs.YthnahalboomkoaaGreat
open Go.RowKit

/-- The first so many of a list. -/
theorem RowZs.take {B : Nat} {w : World} {a : Option Addr} {n c : Nat} {l : List Int} (h : RowZs B w (.slice a n c) l) (k : Nat) (hk : k ≤ l.length) : RowZs B w (.slice a k c) (l.take k) := by
  rcases h.2 with ⟨h0, h1⟩ | ⟨g, c', cur, hv, hg, hh, h1, h2, h3, h4⟩
  · injection h0 with e1 e2 e3
    subst e1
    subst e3
    have e : k = 0 := by omega
    subst e
    exact ⟨rfl, .inl ⟨rfl, rfl⟩⟩
  · injection hv with e1 e2 e3
    subst e1
    subst e3
    have hl : (l.take k).length = k := by simp [hk]
    unfold RowZs
    rw [hl]
    refine ⟨by simp [zsV, hk], .inr ⟨g, c, cur, rfl, hg, hh, by omega, h2, h3, ?_⟩⟩
    have h5 := congrArg (List.take k) h4
    rw [List.take_take, Nat.mul_one, Nat.min_eq_left hk] at h5
    rw [Nat.mul_one, h5]
    simp [zsV]
theorem RowZs.cap {B : Nat} {w : World} {a : Option Addr} {n c : Nat} {l : List Int} (h : RowZs B w (.slice a n c) l) : l.length ≤ c := by
  rcases h.2 with ⟨h0, h1⟩ | ⟨g, c', cur, hv, hg, hh, h1, h2, h3, h4⟩
  · omega
  · injection hv with e1 e2 e3; omega
theorem RowZs.len {B : Nat} {w : World} {a : Option Addr} {n c : Nat} {l : List Int} (h : RowZs B w (.slice a n c) l) : n = l.length := by
  rcases h.2 with ⟨h0, h1⟩ | ⟨g, c', cur, hv, hg, hh, h1, h2, h3, h4⟩
  · injection h0 with e1 e2 e3; omega
  · injection hv with e1 e2 e3
/-- The cells of a list. -/
theorem RowZs.cellZ {B : Nat} {w : World} {v : Value} {l : List Int} (h : RowZs B w v l) {j : Nat} (hj : j < l.length) : ∃ g c, v = .slice (some ⟨g, 0, none⟩) l.length c ∧ B ≤ g ∧ g < w.heap.size ∧ w.cell? ⟨g, j, none⟩ = some (.int .i64 (l.getD j 0)) ∧ w.frozen? ⟨g, j, none⟩ = false := by
  rcases h.2 with ⟨rfl, h0⟩ | ⟨g, cp, cur, rfl, hg, hh, hrest⟩
  · omega
  · refine ⟨g, cp, rfl, hg, (Array.getElem?_eq_some_iff.1 hh).1, ?_, frozen_of_row w g j _ 3 hh⟩
    have hc := h.cellAt j (by omega)
    rw [hc]
    simp [zsV, hj]
/-- A number is stored. -/
theorem RowZs.put {B : Nat} {w : World} {g n c : Nat} {l : List Int} (h : RowZs B w (.slice (some ⟨g, 0, none⟩) n c) l) (j : Nat) (x : Int) : RowZs B (w.setCell ⟨g, j, none⟩ (.int .i64 x)) (.slice (some ⟨g, 0, none⟩) n c) (l.set j x) := by
  have e := h.len
  subst e
  have h1 := (World.ownsRow.stored h j (.int .i64 x)).1
  unfold RowZs
  rw [List.length_set]
  have e2 : zsV (l.set j x) = (zsV l).set j (.int .i64 x) := by simp [zsV, List.map_set]
  rw [e2]
  exact h1

/-- make(numbers[int], n). -/
theorem make_nums (n m : Nat) (h1 : n ≤ m) (h2 : m ≤ 1073741824) (W : World) :
    (Instr.makeSlice 206 (.int .i64 (n : Int)) (.int .i64 (m : Int))).run Tryz.prog W = .ok (.slice (some ⟨W.heap.size, 0, none⟩) n m) (W.alloc (.cells (ic (fun _ => 0) m) 3)) := by
  obtain ⟨i0, hi, hz0, hz1, hz2⟩ := info_parts info3I
  have hM : madeCells (Value.int .i64 0).cells ((m : Int).toNat * i0.size) = ic (fun _ => 0) m := by
    rw [hz1]
    have h3 := toList_madeCells_one (.int .i64 0) m
    apply Array.toList_inj.1
    have e : (ic (fun _ => 0) m).toList = List.replicate m (Value.int .i64 0) := by
      simp [ic, List.map_const', List.length_range]
    rw [e]
    simpa [Value.cells] using h3
  have h := run_make (P := Tryz.prog) W 206 3 i0 (.int .i64 0) Tryz.underlying206 hi hz0 .i64 .i64 (n : Int) (m : Int) (by omega) (by omega) (by rw [hz2]; omega) (by omega)
  rw [hM] at h
  simpa using h

set_option maxHeartbeats 1600000 in
set_option maxRecDepth 100000 in
theorem trimmed_any (v : Value) (l : List Int) (hl : l.length ≤ 1048576) (B : Nat) (w : World) (h : RowZs B w v l) :
    Calls Tryz.prog 207 #[v] w fun e w' => ∃ a n c, v = .slice a n c ∧ e = .returned (.slice a (trimZ l).length c) ∧ RowZs B w (.slice a (trimZ l).length c) (trimZ l) ∧ w = w' := by
  obtain ⟨a, c, hv⟩ := row_form h
  subst hv
  have HR : Hid (RowZs B w (.slice a l.length c) l) := h
  obtain ⟨n, hn⟩ : ∃ n, n = l.length := ⟨_, rfl⟩
  have HN : Hid (n = l.length) := hn
  have hcap : n ≤ c := by have := h.cap; omega
  rw [← hn] at HR hl ⊢
  clear hn h
  go_enter Tryz.func207, Tryz.ntmps207
  go_wp2
  go_loopw [3] (fun i wr => ∃ k : Nat, i = .int .i64 (k : Int) ∧ k ≤ n ∧ Hid (trimZ (l.take k) = trimZ l) ∧ w = wr) (fun i _ => (intOf i).toNat)
  case atStart => exact ⟨n, rfl, Nat.le_refl _, by show _ = _; rw [HN.out, List.take_length], rfl⟩
  case round =>
    obtain ⟨k, rfl, hk, HT, rfl⟩ := hrel
    have hkl : k ≤ l.length := by have := HN.out; omega
    by_cases h0 : 0 < k
    · obtain ⟨j, rfl⟩ : ∃ j, k = j + 1 := ⟨k - 1, by omega⟩
      have hj : j < l.length := by omega
      have HTK : Hid (l.take (j + 1) = l.take j ++ [l.getD j 0]) := by
        show _ = _
        rw [List.take_succ_eq_append_getElem hj]
        simp [hj]
      obtain ⟨g, c', hv, hg, hgs, hz, hf⟩ := HR.out.cellZ hj
      have ha : a = some ⟨g, 0, none⟩ := by injection hv
      subst ha
      have hi1 : ((j + 1 : Nat) : Int) - 1 = (j : Int) := by omega
      have hi2 : (0 : Int) ≤ (j : Int) := by omega
      have hi3 : (j : Int) < (n : Int) := by omega
      have hi4 : ((j + 1 : Nat) : Int) > 0 := by omega
      clear hv hg hgs hf
      by_cases hx : l.getD j 0 = 0
      · rw [hx] at hz HTK
        have HT2 : Hid (trimZ (l.take j) = trimZ l) := by
          show _ = _
          rw [← HT.out, HTK.out, trimZ_zero]
        clear HT HTK hx
        go_wp2
        go_roundw
        case rel => exact ⟨j, by go_num, by omega, HT2, trivial⟩
        case measure => simp [intOf]
      · have HE : Hid (l.take (j + 1) = trimZ l) := by
          show _ = _
          rw [← HT.out, HTK.out, trimZ_some _ hx]
        have hx' : (l.getD j 0 == 0) = false := by rw [beq_eq_false_iff_ne]; exact hx
        have HL : Hid ((trimZ l).length = j + 1) := by
          show _ = _
          rw [← HE.out, List.length_take]
          omega
        have HR2 : Hid (RowZs B w (.slice (some ⟨g, 0, none⟩) (j + 1) c) (trimZ l)) := by
          have := HR.out.take (j + 1) (by omega)
          rwa [HE.out] at this
        generalize l.getD j 0 = z at *
        have hcc : ((j + 1 : Nat) : Int) ≤ (c : Int) := by omega
        clear HT HTK
        go_wp2
        go_ret
        exact ⟨_, _, _, rfl, by rw [HL.out]; rfl, by rw [HL.out]; exact HR2.out, rfl⟩
    · obtain rfl : k = 0 := by omega
      have HE : Hid (trimZ l = []) := by show _ = _; rw [← HT.out]; rfl
      have HR2 : Hid (RowZs B w (.slice a 0 c) []) := by
        have := HR.out.take 0 (by omega)
        exact this
      have hcc : (0 : Int) ≤ (c : Int) := by omega
      clear HT
      go_wp2
      go_ret
      exact ⟨_, _, _, rfl, by rw [HE.out]; rfl, by rw [HE.out]; exact HR2.out, rfl⟩

theorem map_zls (l : List Int) : zls (fun j => sca (l.getD j 0)) l.length = l.map sca := by
  apply List.ext_getElem
  · simp [zls]
  · intro i h1 h2
    have h3 : i < l.length := by simpa using h2
    simp [zls, h3]

set_option maxHeartbeats 1600000 in
set_option maxRecDepth 100000 in
theorem each_any (v : Value) (l : List Int) (hl : l.length ≤ 1048576) (w : World) (h : ZAt w w.heap.size v l) :
    Calls Tryz.prog 213 #[v, .func (Fn.func 128) #[] #[]] w fun e w' => ∃ u, e = .returned u ∧ RowZs w.heap.size w' u (l.map sca) ∧ Below w.heap.size w w' := by
  obtain ⟨a, cp, rfl, hA⟩ := h
  have HA : Hid (IntsAt w a l.length w.heap.size (fun j => l.getD j 0)) := hA
  have HM : Hid (zls (fun j => sca (l.getD j 0)) l.length = l.map sca) := map_zls l
  obtain ⟨n, hn⟩ : ∃ n, n = l.length := ⟨_, rfl⟩
  rw [← hn] at HA HM hl ⊢
  have hmk : ∀ W : World, (Instr.makeSlice 206 (.int .i64 (n : Int)) (.int .i64 (n : Int))).run Tryz.prog W = .ok (.slice (some ⟨W.heap.size, 0, none⟩) n n) (W.alloc (.cells (ic (fun _ => 0) n) 3)) := fun W => make_nums n n (Nat.le_refl _) (by omega) W
  have H0 : Hid (RowI (w.alloc (.cells (ic (fun _ => 0) n) 3)) w.heap.size n (upTo (fun j => sca (l.getD j 0)) 0)) := (rowI_new w (fun _ => 0) n).congr fun j _ => by unfold upTo; rw [if_neg (by omega)]
  generalize ic (fun _ => 0) n = M at hmk H0
  clear hn hA
  go_enter Tryz.func213, Tryz.ntmps213
  go_wp2
  go_loopw [13] (fun i wr => ∃ k : Nat, i = .int .i64 (k : Int) ∧ k ≤ n ∧ Hid (RowI wr w.heap.size n (upTo (fun j => sca (l.getD j 0)) k)) ∧ Hid (Below w.heap.size w wr)) (fun i _ => n - (intOf i).toNat)
  case atStart => exact ⟨0, rfl, Nat.zero_le _, H0, (Below.refl _ _).alloc (Nat.le_refl _) _⟩
  case round =>
    obtain ⟨k, rfl, hk, HR, HB⟩ := hrel
    clear hmk H0
    by_cases hlt : k < n
    · have hlt' : (k : Int) < (n : Int) := by omega
      have hk0 : (0 : Int) ≤ (k : Int) := by omega
      obtain ⟨b, off, rfl, hb, hz⟩ := (HA.out.on HB.out) k hlt
      replace hz : wr.cell? ⟨b, off + k, none⟩ = some (.int .i64 (l.getD k 0)) := hz
      have HS : Hid (∀ w, Calls Tryz.prog 128 #[.int .i64 (l.getD k 0)] w fun e w' => e = .returned (.int .i64 (sca (l.getD k 0))) ∧ w = w') := iScOf_any _
      have hc := HR.out.cell hlt
      have hf := HR.out.free k
      have N := HR.out.set k (sca (l.getD k 0))
      have NB := HB.out.setCell (p := ⟨w.heap.size, k, none⟩) (Nat.le_refl _) (.int .i64 (sca (l.getD k 0)))
      have hu : (fun i => if i = k then sca (l.getD k 0) else upTo (fun j => sca (l.getD j 0)) k i) = upTo (fun j => sca (l.getD j 0)) (k + 1) := upTo_next _ _
      rw [hu] at N
      have HN2 : Hid (RowI (wr.setCell ⟨w.heap.size, k, none⟩ (.int .i64 (sca (l.getD k 0)))) w.heap.size n (upTo (fun j => sca (l.getD j 0)) (k + 1)) ∧ Below w.heap.size w (wr.setCell ⟨w.heap.size, k, none⟩ (.int .i64 (sca (l.getD k 0))))) := ⟨N, NB⟩
      obtain ⟨F, hF⟩ : ∃ F, F = upTo (fun j => sca (l.getD j 0)) (k + 1) := ⟨_, rfl⟩
      have HF : Hid (F = upTo (fun j => sca (l.getD j 0)) (k + 1)) := hF
      rw [← hF] at HN2
      clear hF hu N NB hb
      generalize upTo (fun j => sca (l.getD j 0)) k k = old at hc
      generalize sca (l.getD k 0) = y at HS HN2
      generalize l.getD k 0 = x at hz HS
      clear HA HR HB HM
      go_wp2_with (go_at_call 128; refine (HS.out _).mono ?_; rintro e wz ⟨rfl, rfl⟩)
      go_roundw
      case rel => exact ⟨k + 1, by go_num, hlt, HF.out ▸ HN2.out.1, HN2.out.2⟩
      case measure => simp [intOf]; omega
    · have hlt' : ¬ (k : Int) < (n : Int) := by omega
      obtain rfl : n = k := by omega
      go_wp2
      go_ret
      refine ⟨_, rfl, ?_, HB.out⟩
      rw [← HM.out]
      exact (HR.out.congr fun j hj => upTo_in _ hj).rowZ (Nat.le_refl _) hl

theorem iTrim_any (v : Value) (l : List Int) (hl : l.length ≤ 1048576) (w : World) (h : ZAt w w.heap.size v l) : Calls Tryz.prog 208 #[v] w fun e w' => ∃ u, e = .returned u ∧ ZOwn w.heap.size w'.heap.size w' u (pTrim l) ∧ Below w.heap.size w w' := by
  have HE : Hid (∀ W : World, W = w → Calls Tryz.prog 213 #[v, .func (Fn.func 128) #[] #[]] W fun e w' => ∃ u, e = .returned u ∧ RowZs W.heap.size w' u (l.map sca) ∧ Below W.heap.size W w') := fun W e => by subst e; exact each_any v l hl _ h
  have HT : Hid (∀ (u : Value) (B : Nat) (W : World), RowZs B W u (l.map sca) → Calls Tryz.prog 207 #[u] W fun e w' => ∃ x, e = .returned x ∧ RowZs B W x (pTrim l) ∧ W = w') := fun u B W hu => (trimmed_any u (l.map sca) (by simpa using hl) B W hu).mono fun e w' ⟨a, n, c, h1, h2, h3, h4⟩ => ⟨_, h2, h3, h4⟩
  clear h hl
  go_enter Tryz.func208, Tryz.ntmps208
  go_wp2_with (first
    | (go_at_call 213; refine (HE.out _ rfl).mono ?_; rintro e w2 ⟨u, rfl, hu, hb⟩)
    | (go_at_call 207; refine (HT.out _ _ _ hu).mono ?_; rintro e w3 ⟨x, rfl, hx, rfl⟩))
  go_ret
  exact ⟨_, rfl, ZOwn.of hx, hb⟩

end Go.Proofs.YthnahalboomkoaaGreat

/-
  The walk of the specification's product of polynomials.
  (-DROP-: what the seat lacks is left out.)
-/
namespace Go.Proofs.YthnahalboomkoaaGreat
open Go.RowKit

theorem rowZ_none (w : World) (n : Nat) (hn : n ≤ 1048576) : RowZs w.heap.size (w.alloc (.cells (ic (fun _ => 0) n) 3)) (.slice (some ⟨w.heap.size, 0, none⟩) n n) (List.replicate n 0) := by
  have h := (rowI_new w (fun _ => 0) n).rowZ (Nat.le_refl _) hn
  have e : zls (fun _ => 0) n = List.replicate n 0 := by simp [zls, List.map_const']
  rwa [e] at h
theorem RowZs.heap {B : Nat} {w w' : World} {v : Value} {l : List Int} (h : RowZs B w v l) (e : w'.heap = w.heap) : RowZs B w' v l :=
  owns_same (lo := 0) (hi := w.heap.size) h (fun k _ _ => by rw [e]) (fun k hk => ⟨Nat.zero_le _, (h.lt k hk).2⟩)
theorem cell_heap {w w' : World} {p : Addr} {x : Option Value} (h : w.cell? p = x) (e : w'.heap = w.heap) : w'.cell? p = x := (World.cell?_of_block (by rw [e])).trans h
theorem free_heap {w w' : World} {p : Addr} (h : w.frozen? p = false) (e : w'.heap = w.heap) : w'.frozen? p = false := by
  rw [← h]
  unfold World.frozen?
  rw [e]

end Go.Proofs.YthnahalboomkoaaGreat

/-
  The walk of the specification's division.
  (-DROP-: what the seat lacks is left out.)
-/
namespace Go.Proofs.YthnahalboomkoaaGreat
open Go.RowKit

theorem slit0 (w : World) : RowZs w.heap.size (w.alloc (.cells #[] 3)) (.slice (some ⟨w.heap.size, 0, none⟩) 0 0) [] := own_lit w [] (by simp)
theorem slit0n (w : World) (g : Nat) (hg : g = w.heap.size) : RowZs g (w.alloc (.cells #[] 3)) (.slice (some ⟨g, 0, none⟩) 0 0) [] := by
  subst hg
  exact slit0 w
theorem rep_sets (i : Nat) (x : Int) (t : List Int) : (List.replicate (i + 1) 0 ++ t).set i x = List.replicate i 0 ++ (x :: t) := by
  rw [List.replicate_succ', List.append_assoc, List.set_append_right _ _ (by simp)]
  simp
theorem pTrim_sc {l : List Int} (h : ∀ j, Sc (l.getD j 0)) : pTrim l = trimZ l := can_eq (pTrim_can l) (Can.of_trim l h) fun j => by rw [pTrim_at, trimZ_at]; exact dp_sca _

end Go.Proofs.YthnahalboomkoaaGreat
