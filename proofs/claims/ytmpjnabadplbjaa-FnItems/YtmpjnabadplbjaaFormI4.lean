/-
  The walks of the program's cutBody, readForms, readForm.
  (-DROP-: what the seat lacks is left out.)
-/
import Derived.Test.YtmpjnabadplbjaaFormI3
import Derived.Test.YtmpjnabadplbjaaNumI
import Derived.BigQuiet
namespace Go.Proofs.Ytmpjnabadplbjaa
open Go.RowKit

/-- What cutBody answers. -/
def CutEnd (w : World) (r : Option (ByteArray × ByteArray)) (e : Ending) (w' : World) : Prop := Below w.heap.size w w' ∧ match r with
  | none => e = .returned (.tuple #[.string ⟨#[]⟩, .string ⟨#[]⟩, .bool false])
  | some (a, b) => e = .returned (.tuple #[.string a, .string b, .bool true])

set_option maxHeartbeats 1600000 in
set_option maxRecDepth 100000 in
theorem iCut_any (t : ByteArray) (told : Nat) (hn : told ≤ 1000) (w : World) :
    Calls Try.prog 58 #[.string t, .int .i64 (told : Int)] w (CutEnd w (cutF t told)) := by
  have HW : Hid (Below w.heap.size w w) := Below.refl _ _
  by_cases h : told ≤ 55
  · have h' : ¬ (55 : Int) < (told : Int) := by omega
    have H0 : Hid (cutF t told = cutA t told) := by show _ = _; rw [cutF, if_pos h]
    by_cases h2 : told ≤ t.size
    · have h2' : ¬ (t.size : Int) < (told : Int) := by omega
      have h3 : (told : Int) ≤ (t.size : Int) := by omega
      have HE : Hid (cutF t told = some (t.extract 0 told, t.extract told t.size)) := by show _ = _; rw [H0.out, cutA, if_pos h2]
      generalize cutF t told = R at HE ⊢
      clear H0
      go_enter Try.func58, Try.ntmps58
      go_wp2_with fail
      go_quiet (fail)
      go_wp2
      go_ret3
      exact ⟨below_drewN HW.out _, by rw [HE.out]; rfl⟩
    · have h2' : (t.size : Int) < (told : Int) := by omega
      have HE : Hid (cutF t told = none) := by show _ = _; rw [H0.out, cutA, if_neg h2]
      generalize cutF t told = R at HE ⊢
      clear H0
      go_enter Try.func58, Try.ntmps58
      go_wp2
      go_ret3
      exact ⟨HW.out, by rw [HE.out]; rfl⟩
  · have h' : (55 : Int) < (told : Int) := by omega
    obtain ⟨m, hm⟩ : ∃ m : Nat, told - 55 = m := ⟨_, rfl⟩
    have hmi : (told : Int) - 55 = (m : Int) := by omega
    have H0 : Hid (cutF t told = if m ≤ t.size ∧ (rdN (t.extract 0 m)).2 = true then cutA (t.extract m t.size) (rdN (t.extract 0 m)).1 else none) := by show _ = _; rw [cutF, if_neg h, hm]
    by_cases h2 : m ≤ t.size
    · have h2' : ¬ (t.size : Int) < (m : Int) := by omega
      have h2i : (m : Int) ≤ (t.size : Int) := by omega
      have hm0 : (0 : Int) ≤ (m : Int) := by omega
      have HC : Hid (Calls Try.prog 18 #[.string (t.extract 0 m)] w fun e w' => e = .returned (.tuple #[.int .i64 ((rdN (t.extract 0 m)).1 : Int), .bool (rdN (t.extract 0 m)).2]) ∧ Below w.heap.size w w') := iReadNum_any _ (by rw [ByteArray.size_extract]; omega) w
      have hnl := rdN_le (t.extract 0 m)
      generalize (rdN (t.extract 0 m)).1 = n at HC H0 hnl
      generalize (rdN (t.extract 0 m)).2 = o at HC H0
      clear hm
      cases o
      · have HE : Hid (cutF t told = none) := by show _ = _; rw [H0.out, if_neg (fun q => Bool.noConfusion q.2)]
        generalize cutF t told = R at HE ⊢
        clear H0
        go_enter Try.func58, Try.ntmps58
        go_wp2_with fail
        refine HC.out.mono ?_
        rintro e w2 ⟨rfl, hb2⟩
        go_wp2
        go_ret3
        exact ⟨hb2, by rw [HE.out]; rfl⟩
      · have hux : (t.extract m t.size).size = t.size - m := by rw [ByteArray.size_extract]; omega
        have H1 : Hid (cutF t told = cutA (t.extract m t.size) n) := by show _ = _; rw [H0.out, if_pos ⟨h2, rfl⟩]
        clear H0
        by_cases h4 : n ≤ t.size - m
        · have HE : Hid (cutF t told = some ((t.extract m t.size).extract 0 n, (t.extract m t.size).extract n (t.extract m t.size).size)) := by show _ = _; rw [H1.out, cutA, if_pos (by omega)]
          have h4a : ¬ ((t.extract m t.size).size : Int) < (n : Int) := by omega
          have h4b : (n : Int) ≤ ((t.extract m t.size).size : Int) := by omega
          have hn0 : (0 : Int) ≤ (n : Int) := by omega
          generalize cutF t told = R at HE ⊢
          clear H1 hux
          go_enter Try.func58, Try.ntmps58
          go_wp2_with fail
          refine HC.out.mono ?_
          rintro e w2 ⟨rfl, hb2⟩
          go_wp2_with fail
          go_quiet (fail)
          generalize t.extract m t.size = u at HE h4a h4b ⊢
          go_wp2_with fail
          go_quiet (fail)
          go_wp2
          go_ret3
          exact ⟨below_drewN (below_drewN hb2 _) _, by rw [HE.out]; rfl⟩
        · have HE : Hid (cutF t told = none) := by show _ = _; rw [H1.out, cutA, if_neg (by omega)]
          have h4a : ((t.extract m t.size).size : Int) < (n : Int) := by omega
          generalize cutF t told = R at HE ⊢
          clear H1 hux
          go_enter Try.func58, Try.ntmps58
          go_wp2_with fail
          refine HC.out.mono ?_
          rintro e w2 ⟨rfl, hb2⟩
          go_wp2_with fail
          go_quiet (fail)
          generalize t.extract m t.size = u at HE h4a ⊢
          go_wp2
          go_ret3
          exact ⟨below_drewN hb2 _, by rw [HE.out]; rfl⟩
    · have h2' : (t.size : Int) < (m : Int) := by omega
      have HE : Hid (cutF t told = none) := by show _ = _; rw [H0.out, if_neg (fun q => h2 q.1)]
      generalize cutF t told = R at HE ⊢
      clear H0 hm
      go_enter Try.func58, Try.ntmps58
      go_wp2
      go_ret3
      exact ⟨HW.out, by rw [HE.out]; rfl⟩

theorem kidsF_some {α : Type} {rd : ByteArray → Option (α × ByteArray)} {g : Nat} {t : ByteArray} {acc : List α} {x : α} {r : ByteArray} (h0 : ¬ t.size = 0) (h : rd t = some (x, r)) : kidsF rd (g + 1) t acc = kidsF rd g r (acc ++ [x]) := by rw [kidsF, if_neg h0, h]
theorem kidsF_none {α : Type} {rd : ByteArray → Option (α × ByteArray)} {g : Nat} {t : ByteArray} {acc : List α} (h0 : ¬ t.size = 0) (h : rd t = none) : kidsF rd (g + 1) t acc = none := by rw [kidsF, if_neg h0, h]
theorem rdF_text {f : Nat} {t : ByteArray} (h0 : 0 < t.size) (h : t[0].toNat < 128) : rdF (f + 1) t = some ((false, t.extract 0 1, []), t.extract 1 t.size) := by rw [rdF, dif_pos h0]; exact if_pos h
theorem rdF_leaf {f : Nat} {t : ByteArray} (h0 : 0 < t.size) (h : ¬ t[0].toNat < 128) (h2 : t[0].toNat < 192) : rdF (f + 1) t = leafO (cutF (t.extract 1 t.size) (t[0].toNat - 128)) := by rw [rdF, dif_pos h0]; exact (if_neg h).trans (if_pos h2)
theorem rdF_list {f : Nat} {t : ByteArray} (h0 : 0 < t.size) (h : ¬ t[0].toNat < 128) (h2 : ¬ t[0].toNat < 192) : rdF (f + 1) t = listO (rdF f) (cutF (t.extract 1 t.size) (t[0].toNat - 192)) := by rw [rdF, dif_pos h0]; exact (if_neg h).trans (if_neg h2)
theorem empty_no {t : ByteArray} (h0 : ¬ t.toList = []) : t.toList.isEmpty = false := by
  cases h : t.toList.isEmpty with
  | false => rfl
  | true => exact absurd (List.isEmpty_iff.1 h) h0

/-- A text's length. -/
def txtLen (v : Value) : Nat := match v with
  | .string t => t.size
  | _ => 0

/-- What readForm answers. -/
def RfEnd (f : Nat) (w : World) (r : Option (It (f + 1) × ByteArray)) (e : Ending) (w' : World) : Prop := Below w.heap.size w w' ∧ match r with
  | none => ∃ u s, e = .returned (.tuple #[u, .string s, .bool false])
  | some (x, s) => ∃ u, e = .returned (.tuple #[u, .string s, .bool true]) ∧ FIn (fun b => w.heap.size ≤ b ∧ b < w'.heap.size) (f + 1) w' u x

/-- What readForms answers. -/
def RfsEnd (f : Nat) (w : World) (r : Option (List (It (f + 1)))) (e : Ending) (w' : World) : Prop := Below w.heap.size w w' ∧ match r with
  | none => e = .returned (.tuple #[.slice none 0 0, .bool false])
  | some K => ∃ v, e = .returned (.tuple #[v, .bool true]) ∧ K.length ≤ 1000 ∧ FKids (fun b => w.heap.size ≤ b ∧ b < w'.heap.size) (f + 1) w' v K

/-- What stands at the loop's head. -/
structure RsInv (f : Nat) (w : World) (R : Option (List (It (f + 1)))) (rd : ByteArray → Option (It (f + 1) × ByteArray)) (g : Nat) (t : ByteArray) (acc : List (It (f + 1))) (v : Value) (vs : List Value) (wr : World) : Prop where
  fold : kidsF rd g t acc = R
  small : t.size < g
  few : acc.length + t.size ≤ 1000
  bel : Below w.heap.size w wr
  own : FOwn (f + 1) w.heap.size wr.heap.size wr v acc vs

set_option maxHeartbeats 3200000 in
set_option maxRecDepth 100000 in
theorem iForms_of (f : Nat) (hf : f ≤ 1000) (rd : ByteArray → Option (It (f + 1) × ByteArray)) (hrl : ∀ (t : ByteArray) (x : It (f + 1)) (r : ByteArray), rd t = some (x, r) → r.size < t.size)
    (hR : ∀ (t : ByteArray), t.size ≤ f → ∀ w : World, Calls Try.prog 36 #[.string t] w (RfEnd f w (rd t))) (t : ByteArray) (ht : t.size ≤ f) (w : World) :
    Calls Try.prog 59 #[.string t] w (RfsEnd f w (kidsF rd (t.size + 1) t [])) := by
  obtain ⟨i0, hi, hz0, hz1, hz2⟩ := info_parts infoFm
  have HRL : Hid (∀ (t : ByteArray) (x : It (f + 1)) (r : ByteArray), rd t = some (x, r) → r.size < t.size) := hrl
  have HR : Hid (∀ (t : ByteArray), t.size ≤ f → ∀ w : World, Calls Try.prog 36 #[.string t] w (RfEnd f w (rd t))) := hR
  clear hrl hR
  have H0 : Hid (RsInv f w (kidsF rd (t.size + 1) t []) rd (t.size + 1) t [] (.slice (some ⟨w.heap.size, 0, none⟩) 0 0) [] (w.alloc (.cells #[] 56))) :=
    ⟨rfl, Nat.lt_succ_self _, by simp; omega, (Below.refl _ _).alloc (Nat.le_refl _) _, ⟨World.ownsRow_lit _ _ _ (Nat.le_refl _) (by simp [maxLen]) (by simp), fun g hg => (by injection hg with hg; subst hg; simp), fun j hj => absurd hj (Nat.not_lt_zero _)⟩⟩
  generalize kidsF rd (t.size + 1) t [] = R at H0 ⊢
  have HF : Hid (t.size ≤ f) := ht
  clear ht
  go_enter Try.func59, Try.ntmps59
  go_wp2
  go_loopw [4, 0] (fun v t wr => ∃ (g : Nat) (tt : ByteArray) (acc : List (It (f + 1))) (vs : List Value), t = .string tt ∧ Hid (tt.size ≤ f) ∧ Hid (RsInv f w R rd g tt acc v vs wr)) (fun _ t _ => txtLen t)
  case atStart => exact ⟨_, t, [], [], rfl, HF, H0⟩
  case round =>
    obtain ⟨g, tt, acc, vs, rfl, htf, HI⟩ := hrel
    clear H0 HF
    have hB0 := HI.out.bel
    by_cases h0 : tt.size = 0
    · obtain rfl : tt = ⟨#[]⟩ := ByteArray.ext (Array.eq_empty_of_size_eq_zero h0)
      have HF : Hid (R = some acc) := by
        have h := HI.out.fold
        obtain ⟨g, rfl⟩ : ∃ g', g = g' + 1 := ⟨g - 1, by have := HI.out.small; omega⟩
        rw [kidsF, if_pos h0] at h
        exact h.symm
      have HIN : Hid (FKids (fun b => w.heap.size ≤ b ∧ b < wr.heap.size) (f + 1) wr _ acc ∧ acc.length ≤ 1000) := ⟨HI.out.own.kids, by have := HI.out.few; omega⟩
      clear HI htf h0
      go_wp2
      go_ret2
      exact ⟨hB0, by rw [HF.out]; exact ⟨_, rfl, HIN.out.2, HIN.out.1⟩⟩
    · have h0' : ¬ tt.toList = [] := fun h => h0 (by rw [no_bytes h]; rfl)
      have h0e := empty_no h0'
      obtain ⟨g, rfl⟩ : ∃ g', g = g' + 1 := ⟨g - 1, by have := HI.out.small; omega⟩
      have HC0 := HR.out tt htf.out wr
      have HL := HRL.out tt
      cases hrd : rd tt with
      | none =>
        rw [hrd] at HC0
        have HE : Hid (R = none) := HI.out.fold.symm.trans (kidsF_none h0 hrd)
        have HC : Hid (Calls Try.prog 36 #[.string tt] wr (RfEnd f wr none)) := HC0
        clear HI HC0 htf HL hrd h0
        go_wp2_with fail
        refine HC.out.mono ?_
        rintro e w2 ⟨hb2, u, s, rfl⟩
        have hB2 := below_then hB0 hb2
        go_wp2
        go_ret2
        exact ⟨hB2, by rw [HE.out]; rfl⟩
      | some p =>
        obtain ⟨x, r⟩ := p
        have hless := HL x r hrd
        rw [hrd] at HC0
        have HE : Hid (R = kidsF rd g r (acc ++ [x])) := HI.out.fold.symm.trans (kidsF_some h0 hrd)
        have HC : Hid (Calls Try.prog 36 #[.string tt] wr (RfEnd f wr (some (x, r)))) := HC0
        have HLS : Hid (r.size < tt.size) := hless
        clear HC0 HL hrd h0 hless
        go_wp2_with fail
        refine HC.out.mono ?_
        rintro e w2 ⟨hb2, u, rfl, hin⟩
        obtain ⟨T2, u3, rfl⟩ := hin.shape
        have hB2 := below_then hB0 hb2
        have hsz : w.heap.size ≤ w2.heap.size := hB2.size
        have HO2 : Hid (FOwn (f + 1) w.heap.size wr.heap.size w2 _ acc vs) := HI.out.own.same (Same.of_below hb2 (Nat.le_refl _)) (Nat.le_refl _)
        have HIN : Hid (FIn (fun b => wr.heap.size ≤ b ∧ b < w2.heap.size) (f + 1) w2 (.iface T2 u3) x) := hin
        have hown := HO2.out.row
        have hm63 : acc.length + 1 ≤ maxLen := by unfold maxLen; have := HI.out.few; omega
        have hm47 : (acc.length + 1) * 16 ≤ 140737488355328 := by have := HI.out.few; omega
        clear hin
        go_wp2_with (at_builtin; refine wpList_append_own_at _ rfl _ _ 94 rfl w.heap.size 56 i0 .nilIface 1 16 Try.underlying94 hi hz0 hz1 hz2 rfl (by decide) _ _ _ rfl (hown.alloc _) ⟨w2.heap.size, 0, none⟩ 1 1 [.iface T2 u3] rfl rfl (cell_one_new _ _ _) (one_iface _ _) hm63 hm47 (room_for hsz _) ?_)
        intro v' w4 hown' hgrow _ hat
        have hAl : (w2.alloc (.cells #[.iface T2 u3] 56)).heap.size = w2.heap.size + 1 := by simp
        have hA2 : Below w2.heap.size w2 (w2.alloc (.cells #[.iface T2 u3] 56)) := (Below.refl _ _).alloc (Nat.le_refl _) _
        have hlow4 := hgrow.size
        have own4 := FOwn.app (hi' := w4.heap.size) (HO2.out.same (Same.of_below hA2 hb2.size) (Nat.le_refl _)) hown' hgrow (by rw [hAl]; exact hat) ((HIN.out.kept (fun b hb => hA2.block b hb.2)).more (fun b hb => ⟨hb.1, by have := hb.2; omega⟩)) (by have := hb2.size; omega) hB0.size hgrow.size (fun k hk => (hown'.lt k hk).2)
        have HI4 : Hid (RsInv f w R rd g r (acc ++ [x]) v' (vs ++ [.iface T2 u3]) w4) := ⟨HE.out.symm, by have := HI.out.small; have := HLS.out; omega, by have := HI.out.few; have := HLS.out; rw [List.length_append, List.length_singleton]; omega, (hB2.alloc hB2.size _).grown hgrow (by have := hB2.size; omega) (fun k hk => by have := (hown.lt k hk).1; omega), own4⟩
        have HTF : Hid (r.size ≤ f) := by have := htf.out; have := HLS.out; show _ ≤ _; omega
        clear hown' hgrow hat own4 hA2 hAl hlow4 hB2 hown HIN HO2 HI HC HE hb2 hB0 htf
        go_wp2
        go_roundw
        case rel => exact ⟨g, r, acc ++ [x], _, rfl, HTF, HI4⟩
        case measure => simp [txtLen]; exact HLS.out

theorem leaf_none {f : Nat} : leafO (f := f) none = none := rfl
theorem list_none {f : Nat} (rd : ByteArray → Option (It (f + 1) × ByteArray)) : listO rd none = none := rfl
theorem list_some {f : Nat} (rd : ByteArray → Option (It (f + 1) × ByteArray)) (a b : ByteArray) : listO rd (some (a, b)) = (kidsF rd (a.size + 1) a []).map fun K => ((true, ⟨#[]⟩, K), b) := rfl
theorem cutA_left {t a b : ByteArray} {n : Nat} (h : cutA t n = some (a, b)) : a.size ≤ t.size := by have := cutA_size h; omega

set_option maxHeartbeats 3200000 in
set_option maxRecDepth 100000 in
theorem iRead_of (f : Nat) (hf : f + 1 ≤ 1000) (hR : ∀ (t : ByteArray), t.size ≤ f → ∀ w : World, Calls Try.prog 59 #[.string t] w (RfsEnd f w (kidsF (rdF f) (t.size + 1) t []))) (t : ByteArray) (ht : t.size ≤ f + 1) (w : World) :
    Calls Try.prog 36 #[.string t] w (RfEnd (f + 1) w (rdF (f + 1) t)) := by
  have HW : Hid (Below w.heap.size w w) := Below.refl _ _
  by_cases h0 : 0 < t.size
  · have h0' : ¬ t.toList = [] := fun h => by rw [no_bytes h] at h0; exact absurd h0 (by decide)
    have h1 : (1 : Int) ≤ (t.size : Int) := by omega
    have he : (t.extract 1 t.size).size = t.size - 1 := by rw [ByteArray.size_extract]; omega
    have hlt := t[0].toNat_lt
    have h0e := empty_no h0'
    have k1 := @rdF_text f t h0
    have k2 := @rdF_leaf f t h0
    have k3 := @rdF_list f t h0
    obtain ⟨b, hb⟩ : ∃ b, t[0] = b := ⟨_, rfl⟩
    rw [hb] at k1 k2 k3 hlt
    by_cases h2 : b.toNat < 128
    · have h2' : (b.toNat : Int) < 128 := by omega
      have HE : Hid (rdF (f + 1) t = some ((false, t.extract 0 1, []), t.extract 1 t.size)) := k1 h2
      have HX : Hid ((t.extract 0 1).size ≤ 1000000) := by show _ ≤ _; rw [ByteArray.size_extract]; omega
      generalize rdF (f + 1) t = R at HE ⊢
      clear k1 k2 k3 hR he
      go_enter Try.func36, Try.ntmps36
      go_wp2_with fail
      go_quiet (fail)
      go_wp2
      go_ret3
      exact ⟨below_drewN HW.out _, by rw [HE.out]; exact ⟨_, rfl, FIn.ofText rfl rfl HX.out⟩⟩
    · have h2' : ¬ (b.toNat : Int) < 128 := by omega
      by_cases h3 : b.toNat < 192
      · have h3' : (b.toNat : Int) < 192 := by omega
        obtain ⟨m, hm⟩ : ∃ m : Nat, b.toNat - 128 = m := ⟨_, rfl⟩
        have hmi : (b.toNat : Int) - 128 = (m : Int) := by omega
        have HE0 : Hid (rdF (f + 1) t = leafO (cutF (t.extract 1 t.size) m)) := by show _ = _; rw [← hm]; exact k2 h2 h3
        have hsz := @cutF_size (t.extract 1 t.size)
        have HC : Hid (Calls Try.prog 58 #[.string (t.extract 1 t.size), .int .i64 (m : Int)] w (CutEnd w (cutF (t.extract 1 t.size) m))) := iCut_any _ m (by omega) w
        generalize rdF (f + 1) t = R at HE0 ⊢
        clear k1 k2 k3 hR hm
        cases hc : cutF (t.extract 1 t.size) m with
        | none =>
          have HE : Hid (R = none) := by have := HE0.out; rw [hc, leaf_none] at this; exact this
          rw [hc] at HC
          clear HE0 hsz hc
          go_enter Try.func36, Try.ntmps36
          go_wp2_with fail
          refine HC.out.mono ?_
          rintro e w2 ⟨hb2, rfl⟩
          go_wp2
          go_ret3
          exact ⟨hb2, by rw [HE.out]; exact ⟨_, _, rfl⟩⟩
        | some p =>
          obtain ⟨x, y⟩ := p
          have HE : Hid (R = some ((false, x, []), y)) := by have := HE0.out; rw [hc] at this; exact this
          rw [hc] at HC
          have HX : Hid (x.size ≤ 1000000) := by have := hsz hc; show _ ≤ _; omega
          clear HE0 hsz hc
          go_enter Try.func36, Try.ntmps36
          go_wp2_with fail
          refine HC.out.mono ?_
          rintro e w2 ⟨hb2, rfl⟩
          go_wp2
          go_ret3
          exact ⟨hb2, by rw [HE.out]; exact ⟨_, rfl, FIn.ofText rfl rfl HX.out⟩⟩
      · have h3' : ¬ (b.toNat : Int) < 192 := by omega
        obtain ⟨m, hm⟩ : ∃ m : Nat, b.toNat - 192 = m := ⟨_, rfl⟩
        have hmi : (b.toNat : Int) - 192 = (m : Int) := by omega
        have HE0 : Hid (rdF (f + 1) t = listO (rdF f) (cutF (t.extract 1 t.size) m)) := by show _ = _; rw [← hm]; exact k3 h2 h3
        have hsz := @cutF_size (t.extract 1 t.size)
        have HC : Hid (Calls Try.prog 58 #[.string (t.extract 1 t.size), .int .i64 (m : Int)] w (CutEnd w (cutF (t.extract 1 t.size) m))) := iCut_any _ m (by omega) w
        generalize rdF (f + 1) t = R at HE0 ⊢
        clear k1 k2 k3 hm
        cases hc : cutF (t.extract 1 t.size) m with
        | none =>
          have HE : Hid (R = none) := by have := HE0.out; rw [hc, list_none] at this; exact this
          rw [hc] at HC
          clear HE0 hsz hc hR
          go_enter Try.func36, Try.ntmps36
          go_wp2_with fail
          refine HC.out.mono ?_
          rintro e w2 ⟨hb2, rfl⟩
          go_wp2
          go_ret3
          exact ⟨hb2, by rw [HE.out]; exact ⟨_, _, rfl⟩⟩
        | some p =>
          obtain ⟨x, y⟩ := p
          have HE1 : Hid (R = (kidsF (rdF f) (x.size + 1) x []).map fun K => ((true, ⟨#[]⟩, K), y)) := by have := HE0.out; rw [hc, list_some] at this; exact this
          rw [hc] at HC
          have HF : Hid (∀ w : World, Calls Try.prog 59 #[.string x] w (RfsEnd f w (kidsF (rdF f) (x.size + 1) x []))) := hR x (by have := hsz hc; omega)
          generalize kidsF (rdF f) (x.size + 1) x [] = Q at HE1 HF
          clear HE0 hsz hc hR
          go_enter Try.func36, Try.ntmps36
          go_wp2_with fail
          refine HC.out.mono ?_
          rintro e w2 ⟨hb2, rfl⟩
          go_wp2_with fail
          cases Q with
          | none =>
            have HE : Hid (R = none) := HE1.out
            refine (HF.out _).mono ?_
            rintro e w3 ⟨hb3, rfl⟩
            have hB3 := below_then hb2 hb3
            go_wp2
            go_ret3
            exact ⟨hB3, by rw [HE.out]; exact ⟨_, _, rfl⟩⟩
          | some K =>
            have HE : Hid (R = some ((true, ⟨#[]⟩, K), y)) := HE1.out
            refine (HF.out _).mono ?_
            rintro e w3 ⟨hb3, v, rfl, hk, hin⟩
            have hB3 := below_then hb2 hb3
            have HIN : Hid (FKids (fun b => w.heap.size ≤ b ∧ b < w3.heap.size) (f + 1) w3 v K) := hin.more fun b hb => ⟨by have := hb2.size; omega, hb.2⟩
            clear hin
            go_wp2
            go_ret3
            exact ⟨hB3, by rw [HE.out]; exact ⟨_, rfl, FIn.ofList rfl rfl (by show K.length ≤ _; omega) HIN.out⟩⟩
  · obtain rfl : t = ⟨#[]⟩ := ByteArray.ext (Array.eq_empty_of_size_eq_zero (by have : t.data.size = t.size := rfl; omega))
    have HE : Hid (rdF (f + 1) (⟨#[]⟩ : ByteArray) = none) := by show _ = _; rw [rdF, dif_neg h0]
    generalize rdF (f + 1) (⟨#[]⟩ : ByteArray) = R at HE ⊢
    clear hR
    go_enter Try.func36, Try.ntmps36
    go_wp2
    go_ret3
    exact ⟨HW.out, by rw [HE.out]; exact ⟨_, _, rfl⟩⟩

set_option maxHeartbeats 800000 in
set_option maxRecDepth 100000 in
theorem iRead_none (w : World) : Calls Try.prog 36 #[.string ⟨#[]⟩] w (RfEnd 0 w none) := by
  have HW : Hid (Below w.heap.size w w) := Below.refl _ _
  go_enter Try.func36, Try.ntmps36
  go_wp2
  go_ret3
  exact ⟨HW.out, _, _, rfl⟩

/-- The form that stands at a text's beginning. -/
theorem iReadForm_any : ∀ (f : Nat), f ≤ 1000 → ∀ (t : ByteArray), t.size ≤ f → ∀ w : World, Calls Try.prog 36 #[.string t] w (RfEnd f w (rdF f t))
  | 0, _, t, ht, w => by
    obtain rfl : t = ⟨#[]⟩ := ByteArray.ext (Array.eq_empty_of_size_eq_zero (by have : t.data.size = t.size := rfl; omega))
    exact iRead_none w
  | f + 1, hf, t, ht, w => iRead_of f hf (fun t ht w => iForms_of f (by omega) (rdF f) (rdF_less f) (fun t ht w => iReadForm_any f (by omega) t ht w) t ht w) t ht w

end Go.Proofs.Ytmpjnabadplbjaa
