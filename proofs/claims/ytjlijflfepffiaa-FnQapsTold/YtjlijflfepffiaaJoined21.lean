/-
  Texts of one's own, joined.
-/
import Derived.Test.YtjlijflfepffiaaQapS4
import Derived.Test.YtjlijflfepffiaaRwSys2
import Derived.Test.YtjlijflfepffiaaRwAny

/-
  A system holds just when its quotient leaves nothing.
  (-DROP-: what the seat lacks is left out.)
-/
namespace Go.Proofs.Ytjlijflfepffiaa
open Go.RowKit

theorem dotN_sum (f g : Nat → Int) : ∀ k, Dp (dotN f g k - sumZ (fun j => g j * f j) k)
  | 0 => dp_zero.of (by show (0 : Int) - 0 = 0; omega)
  | k + 1 => by
    have h1 := dotN_sum f g k
    have h2 := dp_scAdd (dotN f g k) (scMul (f k) (g k))
    have h3 := dp_scMul (f k) (g k)
    refine ((h1.add h2).add h3).of ?_
    show scAdd (dotN f g k) (scMul (f k) (g k)) - (sumZ (fun j => g j * f j) k + g k * f k) = _
    grind
theorem dotN_sc (f g : Nat → Int) : ∀ k, Sc (dotN f g k)
  | 0 => sc_zero
  | _ + 1 => sc_add _ _
/-- What a row makes of the numbers, as a scalar. -/
theorem zdot_row (ls : List (List Int)) (m : List Int) {wn t i : Nat} (hl : (ls.getD (i * 3 + t) []).length = wn) (hm : m.length = wn) : Dp (zdot (ls.getD (i * 3 + t) []) m - rowE ls m wn t i) ∧ Sc (zdot (ls.getD (i * 3 + t) []) m) := by
  unfold zdot rowE
  rw [hl, hm, Nat.min_self]
  exact ⟨dotN_sum _ _ _, dotN_sc _ _ _⟩
theorem rowSo_iff (ls : List (List Int)) (m : List Int) {wn i : Nat} (h0 : (ls.getD (i * 3) []).length = wn) (h1 : (ls.getD (i * 3 + 1) []).length = wn) (h2 : (ls.getD (i * 3 + 2) []).length = wn) (hm : m.length = wn) :
    rowSo (ls.getD (i * 3) []) (ls.getD (i * 3 + 1) []) (ls.getD (i * 3 + 2) []) m = true ↔ Dp (rowE ls m wn 0 i * rowE ls m wn 1 i - rowE ls m wn 2 i) := by
  obtain ⟨a0, _⟩ := zdot_row ls m (t := 0) (i := i) h0 hm
  obtain ⟨a1, _⟩ := zdot_row ls m (t := 1) (i := i) h1 hm
  obtain ⟨a2, s2⟩ := zdot_row ls m (t := 2) (i := i) h2 hm
  rw [Nat.add_zero] at a0
  unfold rowSo
  rw [decide_eq_true_eq]
  have hmul := dp_scMul (zdot (ls.getD (i * 3) []) m) (zdot (ls.getD (i * 3 + 1) []) m)
  have smul := sc_mul (zdot (ls.getD (i * 3) []) m) (zdot (ls.getD (i * 3 + 1) []) m)
  generalize scMul (zdot (ls.getD (i * 3) []) m) (zdot (ls.getD (i * 3 + 1) []) m) = P at *
  generalize zdot (ls.getD (i * 3) []) m = A at *
  generalize zdot (ls.getD (i * 3 + 1) []) m = B at *
  generalize zdot (ls.getD (i * 3 + 2) []) m = C at *
  generalize rowE ls m wn 0 i = A' at *
  generalize rowE ls m wn 1 i = B' at *
  generalize rowE ls m wn 2 i = C' at *
  constructor
  · intro h
    subst h
    exact ((((a0.mul B).add (a1.mul A')).neg.add a2).sub hmul).of (by grind)
  · intro h
    exact dp_small (((((a0.mul B).add (a1.mul A')).add h).add hmul).sub a2 |>.of (by grind)) smul s2
theorem soN_iff (ls : List (List Int)) (m : List Int) : ∀ k, soN ls m k = true ↔ ∀ i, i < k → rowSo (ls.getD (i * 3) []) (ls.getD (i * 3 + 1) []) (ls.getD (i * 3 + 2) []) m = true
  | 0 => by simp [soN]
  | k + 1 => by
    rw [soN, Bool.and_eq_true, soN_iff ls m k]
    constructor
    · intro ⟨h1, h2⟩ i hi
      by_cases e : i = k
      · subst e; exact h2
      · exact h1 i (by omega)
    · intro h
      exact ⟨fun i hi => h i (by omega), h k (by omega)⟩
/-- All rows are so just when nothing is left. -/
theorem quot_so (wi pu : Int) (n : Nat) (ls : List (List Int)) (m : List Int) (hls : ls.length = n * 3) (hok : sysOk wi pu n ls = true) (hwd : wide m wi = true) : quotB wi pu n ls m = soN ls m n := by
  have hok1 := hok
  unfold sysOk at hok1
  simp only [Bool.and_eq_true, decide_eq_true_eq] at hok1
  obtain ⟨⟨h1, h2⟩, _, ⟨h3, h4⟩, hall⟩ := hok1
  have hml : m.length = wi.toNat := by
    have h := hwd
    unfold wide at h
    rw [Bool.and_eq_true] at h
    have := of_decide_eq_true h.1
    omega
  have hw : ∀ k, k < n * 3 → (ls.getD k []).length = wi.toNat := fun k hk => by have := wide_lenQ hall (k := k) (by omega); omega
  have S0 := sideL_small ls n wi.toNat 0 m (by omega) hml
  have S1 := sideL_small ls n wi.toNat 1 m (by omega) hml
  have S2 := sideL_small ls n wi.toNat 2 m (by omega) hml
  have key := left_none (a := sideL ls n wi.toNat 0 m) (b := sideL ls n wi.toNat 1 m) (c := sideL ls n wi.toNat 2 m) (n := n) (by omega) (by omega) S0.2 S1.2 S2.2
  rw [Bool.eq_iff_iff, soN_iff]
  unfold quotB
  rw [hok, hwd, Bool.true_and, Bool.true_and, List.isEmpty_iff]
  show pRem (numL (sideL ls n wi.toNat 0 m) (sideL ls n wi.toNat 1 m) (sideL ls n wi.toNat 2 m)) (zerL n) = [] ↔ _
  rw [key]
  refine forall_congr' fun i => forall_congr' fun hi => ?_
  rw [rowSo_iff ls m (hw _ (by omega)) (hw _ (by omega)) (hw _ (by omega)) hml]
  have r0 := mix_row ls m (wi := wi.toNat) 0 (n := n) (by omega) hi
  have r1 := mix_row ls m (wi := wi.toNat) 1 (n := n) (by omega) hi
  have r2 := mix_row ls m (wi := wi.toNat) 2 (n := n) (by omega) hi
  rw [← S0.1] at r0
  rw [← S1.1] at r1
  rw [← S2.1] at r2
  generalize ev (sideL ls n wi.toNat 0 m) ((i : Int) + 1) = A at *
  generalize ev (sideL ls n wi.toNat 1 m) ((i : Int) + 1) = B at *
  generalize ev (sideL ls n wi.toNat 2 m) ((i : Int) + 1) = C at *
  generalize rowE ls m wi.toNat 0 i = A' at *
  generalize rowE ls m wi.toNat 1 i = B' at *
  generalize rowE ls m wi.toNat 2 i = C' at *
  constructor
  · intro h
    exact ((h.sub ((r0.mul B).add (r1.mul A'))).add r2).of (by grind)
  · intro h
    exact ((h.add ((r0.mul B).add (r1.mul A'))).sub r2).of (by grind)

end Go.Proofs.Ytjlijflfepffiaa

/-
  The draws of systems for what becomes of them.
  (-DROP-: what the seat lacks is left out.)
-/
namespace Go.Proofs.Ytjlijflfepffiaa
open Go.RowKit

/-- What the draw leaves. -/
def QuoEnd (w : World) (e : Ending) (w' : World) : Prop := ∃ (wi pu : Int) (v u : Value) (n : Nat) (ls : List (List Int)) (m : List Int), e = .returned (.tuple #[sysV wi pu v, u]) ∧ (Lit.int .i64 wi).wf = true ∧ n ≤ 16 ∧ (∀ j, (ls.getD j []).length ≤ 16) ∧ m.length ≤ 16 ∧ NAt 3 w' w'.heap.size v n ls ∧ ZAt w' w'.heap.size u m ∧ Below w.heap.size w w'

/-- What the draw of a system alone leaves. -/
def QapOfEnd (w : World) (e : Ending) (w' : World) : Prop := ∃ (wi pu : Int) (v : Value) (n : Nat) (ls : List (List Int)), e = .returned (sysV wi pu v) ∧ (Lit.int .i64 wi).wf = true ∧ n ≤ 16 ∧ (∀ j, (ls.getD j []).length ≤ 16) ∧ NAt 3 w' w'.heap.size v n ls ∧ Below w.heap.size w w'

set_option maxHeartbeats 1600000 in
set_option maxRecDepth 100000 in
theorem quotD_any (len cap : Nat) (a : Option Addr) (hm : len ≤ 1048576) (w : World) (hA : ArgAt w a len w.heap.size) :
    Calls Try.prog 21 #[.slice a len cap] w fun e w' => QuoEnd w e w' := by
  obtain ⟨W, hW, hb, hr⟩ := box1 w 26 #[.int .i64 0, .int .i64 0, .slice none 0 0]
  have HA : Hid (ArgAt W a len W.heap.size) := fun j hj => by
    obtain ⟨b, off, z, h1, h2, h3⟩ := (hA.on hb) j hj
    exact ⟨b, off, z, h1, Nat.lt_of_lt_of_le h2 hb.size, h3⟩
  have H0 : Hid (Below w.heap.size w W ∧ Blk W w.heap.size 26 #[.int .i64 0, .int .i64 0, .slice none 0 0]) := ⟨hb, hr⟩
  clear hA hb hr
  go_enter Try.func21, Try.ntmps21
  go_wp2_with fail
  clear hW
  refine (new_any len cap a hm _ HA.out).mono ?_
  rintro e w1 ⟨rfl, hC, hA1, hb1⟩
  have HC : Hid (CurAt w1 W.heap.size a len cap) := hC
  have HA1 : Hid (ArgAt w1 a len W.heap.size) := hA1
  have H1 : Hid (Below w.heap.size w w1 ∧ Blk w1 w.heap.size 26 #[.int .i64 0, .int .i64 0, .slice none 0 0]) := ⟨H0.out.1.trans (hb1.mono H0.out.1.size), H0.out.2.on hb1 H0.out.2.lt⟩
  have hs0 : w.heap.size < W.heap.size := H0.out.2.lt
  have hs1 : W.heap.size < w1.heap.size := hC.lt
  clear hC hA1 hb1 H0 HA
  go_wp2_with fail
  refine (sAny_any W.heap.size len cap a hm _ HC.out HA1.out).mono ?_
  rintro e w2 ⟨wi, pu, v, u, n, ls, m, rfl, hwf, hn, hls, hml, hN, hE⟩
  obtain ⟨va, vc, rfl⟩ : ∃ va vc, v = .slice va n vc := by obtain ⟨⟨_, va, vc, h, _⟩, _⟩ := hN w2 (fun _ _ _ => rfl); exact ⟨va, vc, h⟩
  have HN : Hid (∀ V, Same w1.heap.size w2.heap.size w2 V → NAt 3 V w2.heap.size (.slice va n vc) n ls ∧ ZAt V w2.heap.size u m) := hN
  have HLS : Hid (∀ j, (ls.getD j []).length ≤ 16) := hls
  have HWF : Hid ((Lit.int .i64 wi).wf = true) := hwf
  have hres : Blk w2 w.heap.size 26 #[.int .i64 0, .int .i64 0, .slice none 0 0] := H1.out.2.grown hE.grown (by omega)
  have hB2 : Below w.heap.size w w2 := H1.out.1.trans ⟨hE.grown.os, hE.grown.tape, hE.grown.output, hE.grown.size, fun k hk => hE.grown.block k (by omega) (fun e => by have := Option.some.inj e; omega)⟩
  clear hE hN hls hwf HC HA1 H1
  unfold sysV
  go_wp2_with (refine store_blkS (cs' := #[.int .i64 wi, .int .i64 pu, .slice va n vc]) rfl rfl rfl rfl rfl hres infoSy rfl (onesSy _ _ _ _ _) ?_; intro V8 h8 hheap hoth hbel; have hb8 := hbel _ _ (Nat.le_refl _) hB2; have hb9 := hbel 0 w2 (Nat.zero_le _) (Below.refl _ _); clear hoth hbel)
  have hs8 : w2.heap.size ≤ V8.heap.size := hb9.size
  have HX := HN.out V8 (fun k h1 h2 => hheap k (by omega))
  refine bodyPost_ret_by (result_Btmp rfl rfl rfl h8 Try.underlying26 infoSy) rfl ⟨wi, pu, _, u, n, ls, m, rfl, HWF.out, hn, HLS.out, hml, HX.1.wide hs8, HX.2.wide hs8, hb8⟩

set_option maxHeartbeats 1600000 in
set_option maxRecDepth 100000 in
theorem qapD_any (len cap : Nat) (a : Option Addr) (hm : len ≤ 1048576) (w : World) (hA : ArgAt w a len w.heap.size) :
    Calls Try.prog 17 #[.slice a len cap] w fun e w' => QapOfEnd w e w' := by
  obtain ⟨W, hW, hb, hr⟩ := box1 w 26 #[.int .i64 0, .int .i64 0, .slice none 0 0]
  have HA : Hid (ArgAt W a len W.heap.size) := fun j hj => by
    obtain ⟨b, off, z, h1, h2, h3⟩ := (hA.on hb) j hj
    exact ⟨b, off, z, h1, Nat.lt_of_lt_of_le h2 hb.size, h3⟩
  have H0 : Hid (Below w.heap.size w W ∧ Blk W w.heap.size 26 #[.int .i64 0, .int .i64 0, .slice none 0 0]) := ⟨hb, hr⟩
  clear hA hb hr
  go_enter Try.func17, Try.ntmps17
  go_wp2_with fail
  clear hW
  refine (new_any len cap a hm _ HA.out).mono ?_
  rintro e w1 ⟨rfl, hC, hA1, hb1⟩
  have HC : Hid (CurAt w1 W.heap.size a len cap) := hC
  have HA1 : Hid (ArgAt w1 a len W.heap.size) := hA1
  have H1 : Hid (Below w.heap.size w w1 ∧ Blk w1 w.heap.size 26 #[.int .i64 0, .int .i64 0, .slice none 0 0]) := ⟨H0.out.1.trans (hb1.mono H0.out.1.size), H0.out.2.on hb1 H0.out.2.lt⟩
  have hs0 : w.heap.size < W.heap.size := H0.out.2.lt
  have hs1 : W.heap.size < w1.heap.size := hC.lt
  clear hC hA1 hb1 H0 HA
  go_wp2_with fail
  refine (sAny_any W.heap.size len cap a hm _ HC.out HA1.out).mono ?_
  rintro e w2 ⟨wi, pu, v, u, n, ls, m, rfl, hwf, hn, hls, hml, hN, hE⟩
  obtain ⟨va, vc, rfl⟩ : ∃ va vc, v = .slice va n vc := by obtain ⟨⟨_, va, vc, h, _⟩, _⟩ := hN w2 (fun _ _ _ => rfl); exact ⟨va, vc, h⟩
  have HN : Hid (∀ V, Same w1.heap.size w2.heap.size w2 V → NAt 3 V w2.heap.size (.slice va n vc) n ls ∧ ZAt V w2.heap.size u m) := hN
  have HLS : Hid (∀ j, (ls.getD j []).length ≤ 16) := hls
  have HWF : Hid ((Lit.int .i64 wi).wf = true) := hwf
  have hres : Blk w2 w.heap.size 26 #[.int .i64 0, .int .i64 0, .slice none 0 0] := H1.out.2.grown hE.grown (by omega)
  have hB2 : Below w.heap.size w w2 := H1.out.1.trans ⟨hE.grown.os, hE.grown.tape, hE.grown.output, hE.grown.size, fun k hk => hE.grown.block k (by omega) (fun e => by have := Option.some.inj e; omega)⟩
  clear hE hN hls hwf HC HA1 H1
  unfold sysV
  obtain ⟨V0, hV0, hbv0, hsv0⟩ := box1 w2 26 #[.int .i64 0, .int .i64 0, .slice none 0 0]
  have hresV := hres.on hbv0 hres.lt
  go_wp2_with (first | (refine store_blkS (cs' := #[.int .i64 wi, .int .i64 pu, .slice va n vc]) rfl rfl rfl rfl rfl hsv0 infoSy rfl (onesSy _ _ _ _ _) ?_; intro V7 h7 hheap7 hoth7 hbel7; have hb7 := hbel7 _ _ (Nat.le_refl _) hbv0; have hres7 := hoth7 _ _ _ (by have := hres.lt; omega) hresV; clear hoth7 hbel7) | (refine load_blk rfl rfl rfl h7 Try.underlying26 infoSy ?_) | (refine store_blkS (cs' := #[.int .i64 wi, .int .i64 pu, .slice va n vc]) rfl rfl rfl rfl rfl hres7 infoSy rfl (onesSy _ _ _ _ _) ?_; intro V8 h8 hheap hoth hbel; have hb8 := hbel _ _ (Nat.le_refl _) (hB2.trans (hb7.mono hB2.size)); have hb9 := hbel 0 V7 (Nat.zero_le _) (Below.refl _ _); clear hoth hbel))
  have hs7 : w2.heap.size ≤ V7.heap.size := hb7.size
  have hs8 : V7.heap.size ≤ V8.heap.size := hb9.size
  have HX := HN.out V8 (fun k h1 h2 => (hheap k (by omega)).trans (hb7.block k h2))
  refine bodyPost_ret_by (result_blk rfl rfl h8 Try.underlying26 infoSy) rfl ⟨wi, pu, _, n, ls, rfl, HWF.out, hn, HLS.out, HX.1.wide (by omega), hb8⟩

end Go.Proofs.Ytjlijflfepffiaa
