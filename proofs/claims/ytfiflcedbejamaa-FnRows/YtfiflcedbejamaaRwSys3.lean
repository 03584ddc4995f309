/-
  The walks of what satisfies a system, the program's and the specification's.
  (-DROP-: what the seat lacks is left out.)
-/
import Derived.Test.YtfiflcedbejamaaRwSys2
namespace Go.Proofs.Ytfiflcedbejamaa
open Go.RowKit

theorem sysOk_wires {wi pu : Int} {n : Nat} {ls : List (List Int)} (h : sysOk wi pu n ls = true) : 1 ≤ wi := by
  unfold sysOk at h
  simp only [Bool.and_eq_true, decide_eq_true_eq] at h
  exact h.1.1
theorem wide_len {l : List Int} {m : Int} (h : wide l m = true) : (l.length : Int) = m := by
  unfold wide at h
  simp only [Bool.and_eq_true, decide_eq_true_eq] at h
  exact h.1

set_option maxHeartbeats 1600000 in
set_option maxRecDepth 100000 in
theorem iSat_any (wi pu : Int) (hw0 : (Lit.int .i64 wi).wf = true) (a : Option Addr) (n c : Nat) (hn : n ≤ 9223372036854775807) (ls : List (List Int)) (hz : ∀ j, (ls.getD j []).length ≤ 9223372036854775807) (am : Option Addr) (cm : Nat) (m : List Int) (hm : m.length ≤ 9223372036854775807) (w : World) (hA : NAt 3 w w.heap.size (.slice a n c) n ls) (AM : IntsAt w am m.length w.heap.size (fun j => m.getD j 0)) :
    Calls Try.prog 14 #[sysV wi pu (.slice a n c), .slice am m.length cm] w fun e w' => e = .returned (.bool (sysSo wi pu n ls m)) ∧ Below w.heap.size w w' := by
  have HA : Hid (NAt 3 w w.heap.size (.slice a n c) n ls) := hA
  have HM : Hid (IntsAt w am m.length w.heap.size (fun j => m.getD j 0)) := AM
  have hlen : Hid (ls.length = n * 3) := hA.1
  have HZ : Hid (∀ j, (ls.getD j []).length ≤ 9223372036854775807) := hz
  obtain ⟨W, hW, hb, hx⟩ := box1 w 28 #[.int .i64 wi, .int .i64 pu, .slice a n c]
  have CO : Hid (Calls Try.prog 13 #[sysV wi pu (.slice a n c)] W fun e w' => e = .returned (.bool (sysOk wi pu n ls)) ∧ Below W.heap.size W w') := iSysOk_any wi pu hw0 a n c hn ls hz W ((hA.on hb).wide hb.size)
  have CW : Hid (∀ w', Below W.heap.size W w' → Calls Try.prog 48 #[.slice am m.length cm, .int .i64 wi] w' fun e w'' => e = .returned (.bool (wide m wi)) ∧ Below w'.heap.size w' w'') := fun w' hw => iWide_any am cm m wi hm w' ((AM.on (hb.trans (hw.mono hb.size))).wide (Nat.le_trans hb.size hw.size))
  have HE : Hid (sysSo wi pu n ls m = (sysOk wi pu n ls && (wide m wi && (decide (m.getD 0 0 = 1) && soN ls m n)))) := rfl
  unfold sysV at CO ⊢
  have HS1 : Hid (sysOk wi pu n ls = true → 1 ≤ wi) := sysOk_wires
  have HS2 : Hid (wide m wi = true → (m.length : Int) = wi) := wide_len
  generalize sysOk wi pu n ls = ok at CO HE HS1
  generalize wide m wi = wd at CW HE HS2
  obtain ⟨nm, hnm⟩ : ∃ nm, nm = m.length := ⟨_, rfl⟩
  have HNM : Hid (nm = m.length) := hnm
  rw [← hnm] at HM CW HS2 hm ⊢
  clear hnm hA AM hz
  cases ok
  · have HF : Hid (sysSo wi pu n ls m = false) := HE
    go_enter Try.func14, Try.ntmps14
    go_wp2_with (refine load_blk rfl rfl rfl hx Try.underlying28 infoSy ?_)
    clear hW
    refine CO.out.mono ?_
    rintro e w1 ⟨rfl, b1⟩
    have hB1 := below_then hb b1
    go_wp2
    go_ret
    exact ⟨by rw [HF.out]; rfl, hB1⟩
  have gw : 1 ≤ wi := HS1.out rfl
  cases wd
  · have HF : Hid (sysSo wi pu n ls m = false) := HE
    go_enter Try.func14, Try.ntmps14
    go_wp2_with (refine load_blk rfl rfl rfl hx Try.underlying28 infoSy ?_)
    clear hW
    refine CO.out.mono ?_
    rintro e w1 ⟨rfl, b1⟩
    have hB1 := below_then hb b1
    have q0 := (hx.on b1 hx.lt).cell 0
    go_wp2_with fail
    refine (CW.out _ b1).mono ?_
    rintro e w2 ⟨rfl, b2⟩
    have hB2 := below_then hB1 b2
    go_wp2
    go_ret
    exact ⟨by rw [HF.out]; rfl, hB2⟩
  have gl : 0 < nm := by have := HS2.out rfl; omega
  obtain ⟨bm, offm, rfl, hbm, zm⟩ := HM.out 0 gl
  replace zm : w.cell? ⟨bm, offm + 0, none⟩ = some (.int .i64 (m.getD 0 0)) := zm
  have HX0 : Hid (sysSo wi pu n ls m = (decide (m.getD 0 0 = 1) && soN ls m n)) := HE
  have ZM : ∀ w', Below w.heap.size w w' → w'.cell? ⟨bm, offm, none⟩ = some (.int .i64 (m.getD 0 0)) := fun w' hw => (hw.cell (p := ⟨bm, offm, none⟩) hbm).trans zm
  generalize m.getD 0 0 = x0 at ZM HX0
  clear zm hbm HS1 HS2 HE
  by_cases hx1 : x0 = 1
  · subst hx1
    have HE2 : Hid (sysSo wi pu n ls m = soN ls m n) := HX0
    clear HX0
    go_enter Try.func14, Try.ntmps14
    go_wp2_with (refine load_blk rfl rfl rfl hx Try.underlying28 infoSy ?_)
    clear hW
    refine CO.out.mono ?_
    rintro e w1 ⟨rfl, b1⟩
    have hB1 := below_then hb b1
    have q0 := (hx.on b1 hx.lt).cell 0
    go_wp2_with fail
    refine (CW.out _ b1).mono ?_
    rintro e w2 ⟨rfl, b2⟩
    have hB2 := below_then hB1 b2
    have hW2 := (hx.on b1 hx.lt).on b2 (hx.on b1 hx.lt).lt
    have zm := ZM _ hB2
    have q2 := hW2.cell 2
    have H0 : Hid (soN ls m 0 = true ∧ Below w.heap.size w w2 ∧ Blk w2 w.heap.size 28 #[.int .i64 wi, .int .i64 pu, .slice a n c]) := ⟨rfl, hB2, hW2⟩
    clear hB1 b1 b2 hB2 hW2 q0 CO CW hb hx
    go_wp2
    clear q2 zm ZM
    go_loopw [26] (fun i wr => ∃ k : Nat, i = .int .i64 (k : Int) ∧ k ≤ n ∧ Hid (soN ls m k = true ∧ Below w.heap.size w wr ∧ Blk wr w.heap.size 28 #[.int .i64 wi, .int .i64 pu, .slice a n c])) (fun i _ => n - (intOf i).toNat)
    case atStart => exact ⟨0, rfl, Nat.zero_le _, H0⟩
    case round =>
      obtain ⟨k, rfl, hk, HD⟩ := hrel
      clear H0
      have hx := HD.out.2.2
      have q2 := hx.cell 2
      by_cases hlt : k < n
      · have hlt' : (k : Int) < (n : Int) := by omega
        have hk0 : (0 : Int) ≤ (k : Int) := by omega
        have hB0 := HD.out.2.1
        have hws : w.heap.size ≤ wr.heap.size := hB0.size
        obtain ⟨b, off, a0, c0, a1, c1, a2, c2, rfl, hbb, z0, z1, z2, i0, i1, i2⟩ := (HA.out.on hB0).row3 hlt
        have IM := HM.out.on hB0
        have HR : Hid (∀ w', Below wr.heap.size wr w' → Calls Try.prog 49 #[.agg #[.slice a0 (ls.getD (k * 3) []).length c0, .slice a1 (ls.getD (k * 3 + 1) []).length c1, .slice a2 (ls.getD (k * 3 + 2) []).length c2], .slice (some ⟨bm, offm, none⟩) nm cm] w' fun e w'' => e = .returned (.bool (rowSo (ls.getD (k * 3) []) (ls.getD (k * 3 + 1) []) (ls.getD (k * 3 + 2) []) m)) ∧ Below w'.heap.size w' w'') := fun w' hw => by
          have h := HNM.out
          subst h
          exact iHolds_any a0 c0 _ (HZ.out _) a1 c1 _ (HZ.out _) a2 c2 _ (HZ.out _) _ cm m w' (((i0.wide hws).on hw).wide hw.size) (((i1.wide hws).on hw).wide hw.size) (((i2.wide hws).on hw).wide hw.size) (((IM.wide hws).on hw).wide hw.size)
        have HX : Hid (soN ls m (k + 1) = rowSo (ls.getD (k * 3) []) (ls.getD (k * 3 + 1) []) (ls.getD (k * 3 + 2) []) m) := by
          show (soN ls m k && _) = _
          rw [HD.out.1, Bool.true_and]
        generalize rowSo (ls.getD (k * 3) []) (ls.getD (k * 3 + 1) []) (ls.getD (k * 3 + 2) []) m = p at HR HX
        generalize (ls.getD (k * 3) []).length = m0 at HR z0
        generalize (ls.getD (k * 3 + 1) []).length = m1 at HR z1
        generalize (ls.getD (k * 3 + 2) []).length = m2 at HR z2
        have hB5 : Below wr.heap.size wr (wr.alloc (.cells #[.slice a0 m0 c0, .slice a1 m1 c1, .slice a2 m2 c2] 56)) := (Below.refl _ _).alloc (Nat.le_refl _) _
        clear HA HM hbb i0 i1 i2 HZ hlen HD IM HNM
        cases p
        · skip
          go_wp2_with (refine load_blk rfl rfl rfl (Blk.new _ _ _) Try.underlying56 infoRw ?_)
          refine (HR.out _ hB5).mono ?_
          rintro e w1 ⟨rfl, hb1⟩
          have hB1 := below_then hB5 hb1
          clear hb1 HR
          have HF : Hid (sysSo wi pu n ls m = false) := by
            show _ = _
            rw [HE2.out]
            exact soN_false ls m HX.out n (by omega)
          have hB3 : Below w.heap.size w w1 := hB0.trans (hB1.mono hws)
          clear hB0 hB5 z0 z1 z2 hx q2 hB1
          go_wp2
          go_ret
          exact ⟨by rw [HF.out]; rfl, hB3⟩
        · skip
          go_wp2_with (refine load_blk rfl rfl rfl (Blk.new _ _ _) Try.underlying56 infoRw ?_)
          refine (HR.out _ hB5).mono ?_
          rintro e w1 ⟨rfl, hb1⟩
          have hB1 := below_then hB5 hb1
          clear hb1 HR
          have HD2 : Hid (soN ls m (k + 1) = true ∧ Below w.heap.size w w1 ∧ Blk w1 w.heap.size 28 #[.int .i64 wi, .int .i64 pu, .slice (some ⟨b, off, none⟩) n c]) := ⟨HX.out, hB0.trans (hB1.mono hws), hx.on hB1 hx.lt⟩
          clear hB0 hB5 z0 z1 z2 hx q2 hB1
          go_wp2
          go_roundw
          case rel => exact ⟨k + 1, by go_num, hlt, HD2⟩
          case measure => simp [intOf]; omega
      · have hlt' : ¬ (k : Int) < (n : Int) := by omega
        have HF : Hid (sysSo wi pu n ls m = true) := by
          show _ = _
          rw [HE2.out, show n = k by omega]
          exact HD.out.1
        go_wp2
        go_ret
        exact ⟨by rw [HF.out]; rfl, HD.out.2.1⟩
  · have HF : Hid (sysSo wi pu n ls m = false) := by
      show _ = _
      rw [HX0.out, decide_eq_false hx1]
      rfl
    have hx1' : (x0 == 1) = false := by rw [beq_eq_false_iff_ne]; exact hx1
    have hx2' : (x0 != 1) = true := by rw [bne_iff_ne]; exact hx1
    go_enter Try.func14, Try.ntmps14
    go_wp2_with (refine load_blk rfl rfl rfl hx Try.underlying28 infoSy ?_)
    clear hW
    refine CO.out.mono ?_
    rintro e w1 ⟨rfl, b1⟩
    have hB1 := below_then hb b1
    have q0 := (hx.on b1 hx.lt).cell 0
    go_wp2_with fail
    refine (CW.out _ b1).mono ?_
    rintro e w2 ⟨rfl, b2⟩
    have hB2 := below_then hB1 b2
    have zm := ZM _ hB2
    go_wp2
    go_ret
    exact ⟨by rw [HF.out]; rfl, hB2⟩

set_option maxHeartbeats 1600000 in
set_option maxRecDepth 100000 in
theorem sSat_any (wi pu : Int) (hw0 : (Lit.int .i64 wi).wf = true) (a : Option Addr) (n c : Nat) (hn : n ≤ 9223372036854775807) (ls : List (List Int)) (hz : ∀ j, (ls.getD j []).length ≤ 9223372036854775807) (am : Option Addr) (cm : Nat) (m : List Int) (hm : m.length ≤ 9223372036854775807) (w : World) (hA : NAt 3 w w.heap.size (.slice a n c) n ls) (AM : IntsAt w am m.length w.heap.size (fun j => m.getD j 0)) :
    Calls Try.prog 19 #[sysV wi pu (.slice a n c), .slice am m.length cm] w fun e w' => e = .returned (.bool (sysSo wi pu n ls m)) ∧ Below w.heap.size w w' := by
  have HA : Hid (NAt 3 w w.heap.size (.slice a n c) n ls) := hA
  have HM : Hid (IntsAt w am m.length w.heap.size (fun j => m.getD j 0)) := AM
  have hlen : Hid (ls.length = n * 3) := hA.1
  have HZ : Hid (∀ j, (ls.getD j []).length ≤ 9223372036854775807) := hz
  obtain ⟨W, hW, hb, hx⟩ := box1 w 28 #[.int .i64 wi, .int .i64 pu, .slice a n c]
  have CO : Hid (Calls Try.prog 20 #[sysV wi pu (.slice a n c)] W fun e w' => e = .returned (.bool (sysOk wi pu n ls)) ∧ Below W.heap.size W w') := sSysOk_any wi pu hw0 a n c hn ls hz W ((hA.on hb).wide hb.size)
  have CW : Hid (∀ w', Below W.heap.size W w' → Calls Try.prog 52 #[.slice am m.length cm, .int .i64 wi] w' fun e w'' => e = .returned (.bool (wide m wi)) ∧ Below w'.heap.size w' w'') := fun w' hw => sWide_any am cm m wi hm w' ((AM.on (hb.trans (hw.mono hb.size))).wide (Nat.le_trans hb.size hw.size))
  have HE : Hid (sysSo wi pu n ls m = (sysOk wi pu n ls && (wide m wi && (decide (m.getD 0 0 = 1) && soN ls m n)))) := rfl
  unfold sysV at CO ⊢
  have HS1 : Hid (sysOk wi pu n ls = true → 1 ≤ wi) := sysOk_wires
  have HS2 : Hid (wide m wi = true → (m.length : Int) = wi) := wide_len
  generalize sysOk wi pu n ls = ok at CO HE HS1
  generalize wide m wi = wd at CW HE HS2
  obtain ⟨nm, hnm⟩ : ∃ nm, nm = m.length := ⟨_, rfl⟩
  have HNM : Hid (nm = m.length) := hnm
  rw [← hnm] at HM CW HS2 hm ⊢
  clear hnm hA AM hz
  cases ok
  · have HF : Hid (sysSo wi pu n ls m = false) := HE
    go_enter Try.func19, Try.ntmps19
    go_wp2_with (refine load_blk rfl rfl rfl hx Try.underlying28 infoSy ?_)
    clear hW
    refine CO.out.mono ?_
    rintro e w1 ⟨rfl, b1⟩
    have hB1 := below_then hb b1
    go_wp2
    go_ret
    exact ⟨by rw [HF.out]; rfl, hB1⟩
  have gw : 1 ≤ wi := HS1.out rfl
  cases wd
  · have HF : Hid (sysSo wi pu n ls m = false) := HE
    go_enter Try.func19, Try.ntmps19
    go_wp2_with (refine load_blk rfl rfl rfl hx Try.underlying28 infoSy ?_)
    clear hW
    refine CO.out.mono ?_
    rintro e w1 ⟨rfl, b1⟩
    have hB1 := below_then hb b1
    have q0 := (hx.on b1 hx.lt).cell 0
    go_wp2_with fail
    refine (CW.out _ b1).mono ?_
    rintro e w2 ⟨rfl, b2⟩
    have hB2 := below_then hB1 b2
    go_wp2
    go_ret
    exact ⟨by rw [HF.out]; rfl, hB2⟩
  have gl : 0 < nm := by have := HS2.out rfl; omega
  obtain ⟨bm, offm, rfl, hbm, zm⟩ := HM.out 0 gl
  replace zm : w.cell? ⟨bm, offm + 0, none⟩ = some (.int .i64 (m.getD 0 0)) := zm
  have HX0 : Hid (sysSo wi pu n ls m = (decide (m.getD 0 0 = 1) && soN ls m n)) := HE
  have ZM : ∀ w', Below w.heap.size w w' → w'.cell? ⟨bm, offm, none⟩ = some (.int .i64 (m.getD 0 0)) := fun w' hw => (hw.cell (p := ⟨bm, offm, none⟩) hbm).trans zm
  generalize m.getD 0 0 = x0 at ZM HX0
  clear zm hbm HS1 HS2 HE
  by_cases hx1 : x0 = 1
  · subst hx1
    have HE2 : Hid (sysSo wi pu n ls m = soN ls m n) := HX0
    clear HX0
    go_enter Try.func19, Try.ntmps19
    go_wp2_with (refine load_blk rfl rfl rfl hx Try.underlying28 infoSy ?_)
    clear hW
    refine CO.out.mono ?_
    rintro e w1 ⟨rfl, b1⟩
    have hB1 := below_then hb b1
    have q0 := (hx.on b1 hx.lt).cell 0
    go_wp2_with fail
    refine (CW.out _ b1).mono ?_
    rintro e w2 ⟨rfl, b2⟩
    have hB2 := below_then hB1 b2
    have hW2 := (hx.on b1 hx.lt).on b2 (hx.on b1 hx.lt).lt
    have zm := ZM _ hB2
    have q2 := hW2.cell 2
    have H0 : Hid (soN ls m 0 = true ∧ Below w.heap.size w w2 ∧ Blk w2 w.heap.size 28 #[.int .i64 wi, .int .i64 pu, .slice a n c]) := ⟨rfl, hB2, hW2⟩
    clear hB1 b1 b2 hB2 hW2 q0 CO CW hb hx
    go_wp2
    clear q2 zm ZM
    go_loopw [5] (fun i wr => ∃ k : Nat, i = .int .i64 (k : Int) ∧ k ≤ n ∧ Hid (soN ls m k = true ∧ Below w.heap.size w wr ∧ Blk wr w.heap.size 28 #[.int .i64 wi, .int .i64 pu, .slice a n c])) (fun i _ => n - (intOf i).toNat)
    case atStart => exact ⟨0, rfl, Nat.zero_le _, H0⟩
    case round =>
      obtain ⟨k, rfl, hk, HD⟩ := hrel
      clear H0
      have hx := HD.out.2.2
      have q2 := hx.cell 2
      by_cases hlt : k < n
      · have hlt' : (k : Int) < (n : Int) := by omega
        have hk0 : (0 : Int) ≤ (k : Int) := by omega
        have hB0 := HD.out.2.1
        have hws : w.heap.size ≤ wr.heap.size := hB0.size
        obtain ⟨b, off, a0, c0, a1, c1, a2, c2, rfl, hbb, z0, z1, z2, i0, i1, i2⟩ := (HA.out.on hB0).row3 hlt
        have IM := HM.out.on hB0
        have D0 : Hid (∀ w', Below wr.heap.size wr w' → Calls Try.prog 54 #[.slice a0 (ls.getD (k * 3) []).length c0, .slice (some ⟨bm, offm, none⟩) nm cm] w' fun e w'' => e = .returned (.int .i64 (zdot (ls.getD (k * 3) []) m)) ∧ Below w'.heap.size w' w'') := fun w' hw => by
          have h := HNM.out
          subst h
          exact sDot_any a0 _ _ c0 _ cm (HZ.out _) _ _ w' (((i0.wide hws).on hw).wide hw.size) (((IM.wide hws).on hw).wide hw.size)
        have D1 : Hid (∀ w', Below wr.heap.size wr w' → Calls Try.prog 54 #[.slice a1 (ls.getD (k * 3 + 1) []).length c1, .slice (some ⟨bm, offm, none⟩) nm cm] w' fun e w'' => e = .returned (.int .i64 (zdot (ls.getD (k * 3 + 1) []) m)) ∧ Below w'.heap.size w' w'') := fun w' hw => by
          have h := HNM.out
          subst h
          exact sDot_any a1 _ _ c1 _ cm (HZ.out _) _ _ w' (((i1.wide hws).on hw).wide hw.size) (((IM.wide hws).on hw).wide hw.size)
        have D2 : Hid (∀ w', Below wr.heap.size wr w' → Calls Try.prog 54 #[.slice a2 (ls.getD (k * 3 + 2) []).length c2, .slice (some ⟨bm, offm, none⟩) nm cm] w' fun e w'' => e = .returned (.int .i64 (zdot (ls.getD (k * 3 + 2) []) m)) ∧ Below w'.heap.size w' w'') := fun w' hw => by
          have h := HNM.out
          subst h
          exact sDot_any a2 _ _ c2 _ cm (HZ.out _) _ _ w' (((i2.wide hws).on hw).wide hw.size) (((IM.wide hws).on hw).wide hw.size)
        have DM : Hid (∀ w, Calls Try.prog 53 #[.int .i64 (zdot (ls.getD (k * 3) []) m), .int .i64 (zdot (ls.getD (k * 3 + 1) []) m)] w fun e w' => e = .returned (.int .i64 (scMul (zdot (ls.getD (k * 3) []) m) (zdot (ls.getD (k * 3 + 1) []) m))) ∧ w = w') := sScMul_any _ _
        have HX : Hid (soN ls m (k + 1) = rowSo (ls.getD (k * 3) []) (ls.getD (k * 3 + 1) []) (ls.getD (k * 3 + 2) []) m) := by
          show (soN ls m k && _) = _
          rw [HD.out.1, Bool.true_and]
        replace HX : Hid (soN ls m (k + 1) = decide (scMul (zdot (ls.getD (k * 3) []) m) (zdot (ls.getD (k * 3 + 1) []) m) = zdot (ls.getD (k * 3 + 2) []) m)) := HX
        generalize scMul (zdot (ls.getD (k * 3) []) m) (zdot (ls.getD (k * 3 + 1) []) m) = p at DM HX
        generalize zdot (ls.getD (k * 3) []) m = d0 at D0 DM
        generalize zdot (ls.getD (k * 3 + 1) []) m = d1 at D1 DM
        generalize zdot (ls.getD (k * 3 + 2) []) m = d2 at D2 HX
        generalize (ls.getD (k * 3) []).length = m0 at D0 z0
        generalize (ls.getD (k * 3 + 1) []).length = m1 at D1 z1
        generalize (ls.getD (k * 3 + 2) []).length = m2 at D2 z2
        have hB5 : Below wr.heap.size wr (wr.alloc (.cells #[.slice a0 m0 c0, .slice a1 m1 c1, .slice a2 m2 c2] 56)) := (Below.refl _ _).alloc (Nat.le_refl _) _
        clear HA HM hbb i0 i1 i2 HZ hlen HD IM HNM
        by_cases hpd : p = d2
        · have hdd : decide (p = d2) = true := decide_eq_true hpd
          subst hpd
          rw [hdd] at HX
          clear hdd
          go_wp2
          obtain ⟨V, hV, hbV, hxV⟩ := box1 wr 56 #[.slice a0 m0 c0, .slice a1 m1 c1, .slice a2 m2 c2]
          rw [hV] at hB5 ⊢
          clear hV
          refine wp_region_class 13 (fun wz => Below V.heap.size V wz) mixes (by kernel_rfl) (Below.refl _ _).drew ?_
          simp only [List.take_succ_cons, List.take_zero, List.drop_succ_cons, List.drop_zero]
          repeat (refine cls_step rfl (fun K hK => ⟨_, (fun w' hw => by have q0 := (hxV.on hw hxV.lt).cell 0; have q1 := (hxV.on hw hxV.lt).cell 1; have q2 := (hxV.on hw hxV.lt).cell 2; go_simp; exact rfl), ?_⟩); go_simp; refine hK _ ?_; clear hK K)
          refine cls_call rfl (fun K hK => ⟨_, _, _, (fun w' => by go_simp <;> first | exact rfl | exact ⟨rfl, rfl⟩), (fun w' hw => calls_below hw (D0.out _ (hB5.trans (hw.mono hB5.size)))), ?_⟩); go_simp; refine hK _ ?_; clear hK K
          repeat (refine cls_step rfl (fun K hK => ⟨_, (fun w' hw => by have q0 := (hxV.on hw hxV.lt).cell 0; have q1 := (hxV.on hw hxV.lt).cell 1; have q2 := (hxV.on hw hxV.lt).cell 2; go_simp; exact rfl), ?_⟩); go_simp; refine hK _ ?_; clear hK K)
          refine cls_call rfl (fun K hK => ⟨_, _, _, (fun w' => by go_simp <;> first | exact rfl | exact ⟨rfl, rfl⟩), (fun w' hw => calls_below hw (D1.out _ (hB5.trans (hw.mono hB5.size)))), ?_⟩); go_simp; refine hK _ ?_; clear hK K
          repeat (refine cls_step rfl (fun K hK => ⟨_, (fun w' hw => by have q0 := (hxV.on hw hxV.lt).cell 0; have q1 := (hxV.on hw hxV.lt).cell 1; have q2 := (hxV.on hw hxV.lt).cell 2; go_simp; exact rfl), ?_⟩); go_simp; refine hK _ ?_; clear hK K)
          refine cls_call rfl (fun K hK => ⟨_, _, _, (fun w' => by go_simp <;> first | exact rfl | exact ⟨rfl, rfl⟩), (fun w' hw => calls_same hw (DM.out _)), ?_⟩); go_simp; refine hK _ ?_; clear hK K
          repeat (refine cls_step rfl (fun K hK => ⟨_, (fun w' hw => by have q0 := (hxV.on hw hxV.lt).cell 0; have q1 := (hxV.on hw hxV.lt).cell 1; have q2 := (hxV.on hw hxV.lt).cell 2; go_simp; exact rfl), ?_⟩); go_simp; refine hK _ ?_; clear hK K)
          refine cls_call rfl (fun K hK => ⟨_, _, _, (fun w' => by go_simp <;> first | exact rfl | exact ⟨rfl, rfl⟩), (fun w' hw => calls_below hw (D2.out _ (hB5.trans (hw.mono hB5.size)))), ?_⟩); go_simp; refine hK _ ?_; clear hK K
          refine wq_nil ?_
          intro w' hw
          have hB1 : Below wr.heap.size wr w' := hB5.trans (hw.mono hB5.size)
          clear hw D0 D1 D2 DM hbV hxV
          have HD2 : Hid (soN ls m (k + 1) = true ∧ Below w.heap.size w w' ∧ Blk w' w.heap.size 28 #[.int .i64 wi, .int .i64 pu, .slice (some ⟨b, off, none⟩) n c]) := ⟨HX.out, hB0.trans (hB1.mono hws), hx.on hB1 hx.lt⟩
          clear hB0 hB5 z0 z1 z2 hx q2 hB1
          go_wp2
          go_roundw
          case rel => exact ⟨k + 1, by go_num, hlt, HD2⟩
          case measure => simp [intOf]; omega
        · have hpd' : (p == d2) = false := by rw [beq_eq_false_iff_ne]; exact hpd
          have hpd2 : (p != d2) = true := by rw [bne_iff_ne]; exact hpd
          rw [decide_eq_false hpd] at HX
          go_wp2
          obtain ⟨V, hV, hbV, hxV⟩ := box1 wr 56 #[.slice a0 m0 c0, .slice a1 m1 c1, .slice a2 m2 c2]
          rw [hV] at hB5 ⊢
          clear hV
          refine wp_region_class 13 (fun wz => Below V.heap.size V wz) mixes (by kernel_rfl) (Below.refl _ _).drew ?_
          simp only [List.take_succ_cons, List.take_zero, List.drop_succ_cons, List.drop_zero]
          repeat (refine cls_step rfl (fun K hK => ⟨_, (fun w' hw => by have q0 := (hxV.on hw hxV.lt).cell 0; have q1 := (hxV.on hw hxV.lt).cell 1; have q2 := (hxV.on hw hxV.lt).cell 2; go_simp; exact rfl), ?_⟩); go_simp; refine hK _ ?_; clear hK K)
          refine cls_call rfl (fun K hK => ⟨_, _, _, (fun w' => by go_simp <;> first | exact rfl | exact ⟨rfl, rfl⟩), (fun w' hw => calls_below hw (D0.out _ (hB5.trans (hw.mono hB5.size)))), ?_⟩); go_simp; refine hK _ ?_; clear hK K
          repeat (refine cls_step rfl (fun K hK => ⟨_, (fun w' hw => by have q0 := (hxV.on hw hxV.lt).cell 0; have q1 := (hxV.on hw hxV.lt).cell 1; have q2 := (hxV.on hw hxV.lt).cell 2; go_simp; exact rfl), ?_⟩); go_simp; refine hK _ ?_; clear hK K)
          refine cls_call rfl (fun K hK => ⟨_, _, _, (fun w' => by go_simp <;> first | exact rfl | exact ⟨rfl, rfl⟩), (fun w' hw => calls_below hw (D1.out _ (hB5.trans (hw.mono hB5.size)))), ?_⟩); go_simp; refine hK _ ?_; clear hK K
          repeat (refine cls_step rfl (fun K hK => ⟨_, (fun w' hw => by have q0 := (hxV.on hw hxV.lt).cell 0; have q1 := (hxV.on hw hxV.lt).cell 1; have q2 := (hxV.on hw hxV.lt).cell 2; go_simp; exact rfl), ?_⟩); go_simp; refine hK _ ?_; clear hK K)
          refine cls_call rfl (fun K hK => ⟨_, _, _, (fun w' => by go_simp <;> first | exact rfl | exact ⟨rfl, rfl⟩), (fun w' hw => calls_same hw (DM.out _)), ?_⟩); go_simp; refine hK _ ?_; clear hK K
          repeat (refine cls_step rfl (fun K hK => ⟨_, (fun w' hw => by have q0 := (hxV.on hw hxV.lt).cell 0; have q1 := (hxV.on hw hxV.lt).cell 1; have q2 := (hxV.on hw hxV.lt).cell 2; go_simp; exact rfl), ?_⟩); go_simp; refine hK _ ?_; clear hK K)
          refine cls_call rfl (fun K hK => ⟨_, _, _, (fun w' => by go_simp <;> first | exact rfl | exact ⟨rfl, rfl⟩), (fun w' hw => calls_below hw (D2.out _ (hB5.trans (hw.mono hB5.size)))), ?_⟩); go_simp; refine hK _ ?_; clear hK K
          refine wq_nil ?_
          intro w' hw
          have hB1 : Below wr.heap.size wr w' := hB5.trans (hw.mono hB5.size)
          clear hw D0 D1 D2 DM hbV hxV
          have HF : Hid (sysSo wi pu n ls m = false) := by
            show _ = _
            rw [HE2.out]
            exact soN_false ls m HX.out n (by omega)
          have hB3 : Below w.heap.size w w' := hB0.trans (hB1.mono hws)
          clear hB0 hB5 z0 z1 z2 hx q2 hB1
          go_wp2
          go_ret
          exact ⟨by rw [HF.out]; rfl, hB3⟩
      · have hlt' : ¬ (k : Int) < (n : Int) := by omega
        have HF : Hid (sysSo wi pu n ls m = true) := by
          show _ = _
          rw [HE2.out, show n = k by omega]
          exact HD.out.1
        go_wp2
        go_ret
        exact ⟨by rw [HF.out]; rfl, HD.out.2.1⟩
  · have HF : Hid (sysSo wi pu n ls m = false) := by
      show _ = _
      rw [HX0.out, decide_eq_false hx1]
      rfl
    have hx1' : (x0 == 1) = false := by rw [beq_eq_false_iff_ne]; exact hx1
    have hx2' : (x0 != 1) = true := by rw [bne_iff_ne]; exact hx1
    go_enter Try.func19, Try.ntmps19
    go_wp2_with (refine load_blk rfl rfl rfl hx Try.underlying28 infoSy ?_)
    clear hW
    refine CO.out.mono ?_
    rintro e w1 ⟨rfl, b1⟩
    have hB1 := below_then hb b1
    have q0 := (hx.on b1 hx.lt).cell 0
    go_wp2_with fail
    refine (CW.out _ b1).mono ?_
    rintro e w2 ⟨rfl, b2⟩
    have hB2 := below_then hB1 b2
    have zm := ZM _ hB2
    go_wp2
    go_ret
    exact ⟨by rw [HF.out]; rfl, hB2⟩

end Go.Proofs.Ytfiflcedbejamaa
