/-
  The walks of the program's formOf, ItemOk.
  (-DROP-: what the seat lacks is left out.)
-/
import Derived.Test.YtmpjnabadplbjaaFormMem
import Derived.Test.YtmpjnabadplbjaaJoined18
namespace Go.Proofs.Ytmpjnabadplbjaa
open Go.RowKit

theorem infoFm : (Try.prog.info? 56).map (fun i => (i.zero, i.size, i.bytes)) = some (some .nilIface, 1, 16) := by kernel_rfl

theorem FIn.shape {S : Nat → Prop} {d : Nat} {w : World} {f : Value} {x : It d} (h : FIn S d w f x) : ∃ T v, f = .iface T v := by
  cases d with
  | zero => exact x.elim
  | succ d =>
    cases hl : itL x
    · obtain ⟨_, _, e⟩ := h.text hl
      exact ⟨_, _, e⟩
    · obtain ⟨_, _, v, e, _⟩ := h.list hl
      exact ⟨_, _, e⟩
theorem one_iface (T : TypeId) (v : Value) : ∀ u ∈ [Value.iface T v], u.oneCell' = true := by
  intro u hu; simp at hu; subst hu; rfl

/-- What formOf answers. -/
def FoEnd (d : Nat) (w : World) (x : It (d + 1)) (r : Bool) (f : Ending) (w' : World) : Prop := Below w.heap.size w w' ∧ ∃ u, f = .returned (.tuple #[u, .bool r]) ∧ (r = true → FIn (fun b => w.heap.size ≤ b ∧ b < w'.heap.size) (d + 1) w' u x)

set_option maxHeartbeats 1600000 in
set_option maxRecDepth 100000 in
theorem iForm_leaf (t : ByteArray) (a : Option Addr) (n cp : Nat) (hn : n ≤ 9223372036854775807) (ht : t.size ≤ 9223372036854775807) (e : Int) (w : World) :
    Calls Try.prog 34 #[itV false t (.slice a n cp), .int .i64 e] w fun f w' => f = .returned (.tuple #[.iface 92 (.string t), .bool (decide (n = 0) && decide (t.size ≤ 600))]) ∧ Below w.heap.size w w' := by
  obtain ⟨W, hW, hb, hx⟩ := box1 w 26 #[.bool false, .string t, .slice a n cp]
  have q0 := hx.cell 0
  have q1 := hx.cell 1
  have q2 := hx.cell 2
  have HB : Hid (Below w.heap.size w W) := hb
  unfold itV
  clear hb hx
  by_cases h6 : t.size ≤ 600
  · have h6' : (t.size : Int) ≤ 600 := by omega
    by_cases h0 : n = 0
    · subst h0
      have HE : Hid ((decide (0 = 0) && decide (t.size ≤ 600)) = true) := by show _ = _; simp [h6]
      generalize (decide (0 = 0) && decide (t.size ≤ 600)) = R at HE ⊢
      go_enter Try.func34, Try.ntmps34
      go_wp2_with fail
      go_quiet (fail)
      go_wp2
      go_ret2
      exact ⟨by rw [HE.out]; rfl, below_drewN HB.out _⟩
    · have HE : Hid ((decide (n = 0) && decide (t.size ≤ 600)) = false) := by show _ = _; simp [h0]
      have h0' : ((n : Int) == 0) = false := by rw [beq_eq_false_iff_ne]; omega
      generalize (decide (n = 0) && decide (t.size ≤ 600)) = R at HE ⊢
      go_enter Try.func34, Try.ntmps34
      go_wp2_with fail
      go_quiet (fail)
      go_wp2
      go_ret2
      exact ⟨by rw [HE.out]; rfl, below_drewN HB.out _⟩
  · have h6' : ¬ (t.size : Int) ≤ 600 := by omega
    have h6'' : decide ((t.size : Int) ≤ 600) = false := decide_eq_false h6'
    have HE : Hid ((decide (n = 0) && decide (t.size ≤ 600)) = false) := by show _ = _; simp [h6]
    generalize (decide (n = 0) && decide (t.size ≤ 600)) = R at HE ⊢
    go_enter Try.func34, Try.ntmps34
    go_wp2_with fail
    go_quiet (fail)
    go_wp2
    go_ret2
    exact ⟨by rw [HE.out]; rfl, below_drewN HB.out _⟩

/-- What stands at the loop's head. -/
structure FoInv (d : Nat) (w : World) (K : List (It (d + 1))) (k : Nat) (v : Value) (vs : List Value) (r : It (d + 1) → Bool) (wr : World) : Prop where
  all : (K.take k).all r = true
  bel : Below w.heap.size w wr
  low : w.heap.size + 1 ≤ wr.heap.size
  own : FOwn (d + 1) (w.heap.size + 1) wr.heap.size wr v (K.take k) vs

set_option maxHeartbeats 3200000 in
set_option maxRecDepth 100000 in
theorem iForm_list (d : Nat) (x0 : It (d + 1 + 1)) (t : ByteArray) (a : Option Addr) (cp : Nat) (K : List (It (d + 1))) (hX0 : itL x0 = true ∧ itT x0 = t ∧ itK x0 = K) (hn : K.length ≤ 9223372036854775807) (ht : t.size ≤ 9223372036854775807) (m : Nat) (hm : m ≤ 4) (w : World) (r : It (d + 1) → Bool)
    (hK : ∀ (j : Nat) (hj : j < K.length), ∃ l t a1 n1 c1, Kid w w.heap.size a j l t (.slice a1 n1 c1) ∧ (0 < m → ∀ w', Below w.heap.size w w' → Calls Try.prog 34 #[itV l t (.slice a1 n1 c1), .int .i64 (((m - 1 : Nat) : Int))] w' (FoEnd d w' K[j] (r K[j])))) :
    Calls Try.prog 34 #[itV true t (.slice a K.length cp), .int .i64 (m : Int)] w (FoEnd (d + 1) w x0 (decide (t = ⟨#[]⟩) && (decide (K.length ≤ 17) && (decide (0 < m) && K.all r)))) := by
  obtain ⟨i0, hi, hz0, hz1, hz2⟩ := info_parts infoFm
  obtain ⟨W, hW, hb, hx⟩ := box1 w 26 #[.bool true, .string t, .slice a K.length cp]
  have q0 := hx.cell 0
  have q1 := hx.cell 1
  have q2 := hx.cell 2
  have HB : Hid (Below w.heap.size w W) := hb
  have HX : Hid (Blk W w.heap.size 26 #[.bool true, .string t, .slice a K.length cp]) := hx
  have HK : Hid (∀ (j : Nat) (hj : j < K.length), ∃ l t a1 n1 c1, Kid w w.heap.size a j l t (.slice a1 n1 c1) ∧ (0 < m → ∀ w', Below w.heap.size w w' → Calls Try.prog 34 #[itV l t (.slice a1 n1 c1), .int .i64 (((m - 1 : Nat) : Int))] w' (FoEnd d w' K[j] (r K[j])))) := hK
  have HX0 : Hid (itL x0 = true ∧ itT x0 = t ∧ itK x0 = K) := hX0
  unfold itV
  clear hb hx hK hX0
  by_cases h2 : m = 0
  · subst h2
    have HE : Hid ((decide (t = ⟨#[]⟩) && (decide (K.length ≤ 17) && (decide (0 < 0) && K.all r))) = false) := by show _ = _; simp
    generalize (decide (t = ⟨#[]⟩) && (decide (K.length ≤ 17) && (decide (0 < 0) && K.all r))) = R at HE ⊢
    clear HK HX
    go_enter Try.func34, Try.ntmps34
    go_wp2
    go_ret2
    exact ⟨HB.out, _, by rw [HE.out]; rfl, by rw [HE.out]; exact fun h => Bool.noConfusion h⟩
  · have h2' : ((m : Int) == 0) = false := by rw [beq_eq_false_iff_ne]; omega
    by_cases h0 : t = ⟨#[]⟩
    · subst h0
      by_cases h1 : K.length ≤ 17
      · have h1' : ¬ (17 : Int) < (K.length : Int) := by omega
        have HE : Hid ((decide ((⟨#[]⟩ : ByteArray) = ⟨#[]⟩) && (decide (K.length ≤ 17) && (decide (0 < m) && K.all r))) = K.all r) := by show _ = _; simp [h1]; omega
        generalize (decide ((⟨#[]⟩ : ByteArray) = ⟨#[]⟩) && (decide (K.length ≤ 17) && (decide (0 < m) && K.all r))) = R at HE ⊢
        have q3 := (HX.out.alloc (.cells #[] 56)).cell 2
        go_enter Try.func34, Try.ntmps34
        go_wp2
        have H0 : Hid (FoInv d w K 0 (.slice (some ⟨W.heap.size, 0, none⟩) 0 0) [] r (W.alloc (.cells #[] 56))) := by
          have hlt := HX.out.lt
          refine ⟨rfl, HB.out.alloc HB.out.size _, by simp; omega, ⟨World.ownsRow_lit _ _ _ (by omega) (by simp [maxLen]) (by simp), fun g hg => (by injection hg with hg; subst hg; simp), fun j hj => absurd hj (Nat.not_lt_zero _)⟩⟩
        have HM : Hid (0 < m) := Nat.pos_of_ne_zero h2
        have HKl : Hid (K.length ≤ 17) := h1
        clear hW q0 q1 q2 q3 HB HX ht h2 h1
        go_loopw [6, 44] (fun v i wr => ∃ (k : Nat) (vs : List Value), i = .int .i64 (k : Int) ∧ k ≤ K.length ∧ Hid (FoInv d w K k v vs r wr)) (fun _ i _ => K.length - (intOf i).toNat)
        case atStart => exact ⟨0, [], rfl, Nat.zero_le _, H0⟩
        case round =>
          obtain ⟨k, vs, rfl, hk, HI⟩ := hrel
          clear H0
          have hB0 := HI.out.bel
          by_cases hlt : k < K.length
          · have hlt' : (k : Int) < (K.length : Int) := by omega
            have hk0 : (0 : Int) ≤ (k : Int) := by omega
            have hkK : k < K.length := hlt
            obtain ⟨l, t, a1, n1, c1, hKd, hCk⟩ := HK.out k hlt
            obtain ⟨b, off, rfl, hb, z0, z1, z2⟩ := hKd.on hB0
            have hAb : Below w.heap.size w (wr.alloc (.cells #[.bool l, .string t, .slice a1 n1 c1] 26)) := hB0.alloc hB0.size _
            have HCk0 := hCk HM.out (wr.alloc (.cells #[.bool l, .string t, .slice a1 n1 c1] 26)) hAb
            unfold itV at HCk0
            have hm1 : (m : Int) - 1 = ((m - 1 : Nat) : Int) := by have := HM.out; omega
            have hwm : wrap64 ((m : Int) - 1) = ((m - 1 : Nat) : Int) := by have := HM.out; rw [IntWalk.wrap64_in _ (by omega)]; omega
            generalize ((m - 1 : Nat) : Int) = m1 at HCk0 hm1 hwm
            obtain ⟨x, hx⟩ : ∃ x, K[k] = x := ⟨_, rfl⟩
            have HT : Hid (K.take (k + 1) = K.take k ++ [x]) := by show _ = _; rw [List.take_succ_eq_append_getElem hkK, hx]
            rw [hx] at HCk0
            have HRF : Hid (r x = false → K.all r = false) := fun hf => List.all_eq_false.2 ⟨x, by rw [← hx]; exact List.getElem_mem hkK, by simp [hf]⟩
            have HCk : Hid (Calls Try.prog 34 #[.agg #[.bool l, .string t, .slice a1 n1 c1], .int .i64 m1] (wr.alloc (.cells #[.bool l, .string t, .slice a1 n1 c1] 26)) (FoEnd d (wr.alloc (.cells #[.bool l, .string t, .slice a1 n1 c1] 26)) x (r x))) := HCk0
            have HAb : Hid (Below w.heap.size w (wr.alloc (.cells #[.bool l, .string t, .slice a1 n1 c1] 26))) := hAb
            clear HCk0 hKd hCk hx hAb hb
            obtain ⟨rx, hrx⟩ : ∃ rx, r x = rx := ⟨_, rfl⟩
            rw [hrx] at HCk HRF
            cases rx
            · have HF : Hid (K.all r = false) := HRF.out rfl
              clear HRF hrx
              go_wp2_with fail
              refine HCk.out.mono ?_
              rintro f w2 ⟨hb2, u2, rfl, _⟩
              have hB2 := below_then HAb.out hb2
              clear z0 z1 z2 HI hB0 hb2
              go_wp2
              go_ret2
              exact ⟨hB2, _, by rw [HE.out, HF.out]; rfl, by rw [HE.out, HF.out]; exact fun h => Bool.noConfusion h⟩
            · have HRx : Hid (r x = true) := hrx
              clear HRF hrx
              go_wp2_with fail
              refine HCk.out.mono ?_
              rintro f w2 ⟨hb2, u2, rfl, hin⟩
              obtain ⟨T2, u3, rfl⟩ := (hin rfl).shape
              have hB2 := below_then HAb.out hb2
              have hsz : w.heap.size + 1 ≤ w2.heap.size := by have h1 := HI.out.low; have h2 := hb2.size; rw [show (wr.alloc (.cells #[.bool l, .string t, .slice a1 n1 c1] 26)).heap.size = wr.heap.size + 1 by simp] at h2; omega
              have hW1 : Below wr.heap.size wr w2 := ((Below.refl wr.heap.size wr).alloc (Nat.le_refl _) (.cells #[.bool l, .string t, .slice a1 n1 c1] 26)).trans (hb2.mono (by simp))
              have HO2 : Hid (FOwn (d + 1) (w.heap.size + 1) wr.heap.size w2 _ (K.take k) vs) := HI.out.own.same (Same.of_below hW1 (Nat.le_refl _)) (Nat.le_refl _)
              have HIN : Hid (FIn (fun b => wr.heap.size ≤ b ∧ b < w2.heap.size) (d + 1) w2 (.iface T2 u3) x) := (hin rfl).more fun b hb => ⟨by have := hb.1; simp at this; omega, hb.2⟩
              have hHl : (K.take k).length = k := by rw [List.length_take]; omega
              have hown := HO2.out.row
              rw [hHl] at hown
              have hm63 : k + 1 ≤ maxLen := by unfold maxLen; omega
              have hm47 : (k + 1) * 16 ≤ 140737488355328 := by have := HKl.out; omega
              clear z0 z1 z2 hB0 hb2 hin
              go_wp2_with (at_builtin; refine wpList_append_own_at _ rfl _ _ 94 rfl (w.heap.size + 1) 56 i0 .nilIface 1 16 Try.underlying94 hi hz0 hz1 hz2 rfl (by decide) _ _ _ rfl (hown.alloc _) ⟨w2.heap.size, 0, none⟩ 1 1 [.iface T2 u3] rfl rfl (cell_one_new _ _ _) (one_iface _ _) hm63 hm47 (room_for hsz _) ?_)
              intro v' w4 hown' hgrow _ hat
              have hAl : (w2.alloc (.cells #[.iface T2 u3] 56)).heap.size = w2.heap.size + 1 := by simp
              have hA2 : Below w2.heap.size w2 (w2.alloc (.cells #[.iface T2 u3] 56)) := (Below.refl _ _).alloc (Nat.le_refl _) _
              have hlow4 := hgrow.size
              have own4 := FOwn.app (hi' := w4.heap.size) (HO2.out.same (Same.of_below hA2 hW1.size) (Nat.le_refl _)) (by rw [hHl]; exact hown') hgrow (by rw [hAl]; exact hat) ((HIN.out.kept (fun b hb => hA2.block b hb.2)).more (fun b hb => ⟨hb.1, by have := hb.2; omega⟩)) (by have := hW1.size; omega) HI.out.low hgrow.size (fun k hk => (hown'.lt k hk).2)
              have HI4 : Hid (FoInv d w K (k + 1) v' (vs ++ [.iface T2 u3]) r w4) := ⟨by rw [HT.out, List.all_append, HI.out.all]; simp [HRx.out], (hB2.alloc hB2.size _).grown hgrow (by have := hB2.size; omega) (fun k hk => by have := (hown.lt k hk).1; omega), by omega, by rw [HT.out]; exact own4⟩
              clear hown' hgrow hat own4 hA2 hAl hlow4 hW1 hB2 hown HIN HO2 HI
              go_wp2
              go_roundw
              case rel => exact ⟨k + 1, _, by go_num, hlt, HI4⟩
              case measure => simp [intOf]; omega
          · obtain rfl : k = K.length := by omega
            have hlt' : ¬ (K.length : Int) < (K.length : Int) := by omega
            have HF : Hid (K.all r = true) := by
              have h := HI.out.all
              rw [List.take_of_length_le (Nat.le_refl _)] at h
              exact h
            have hin := HI.out.own.kids
            rw [List.take_of_length_le (Nat.le_refl _)] at hin
            have HIN : Hid (FKids (fun b => w.heap.size + 1 ≤ b ∧ b < wr.heap.size) (d + 1) wr _ K) := hin
            clear hin
            go_wp2
            go_ret2
            exact ⟨hB0, _, by rw [HE.out, HF.out]; rfl, fun _ => FIn.ofList HX0.out.1 HX0.out.2.1 (by rw [HX0.out.2.2]; have := HKl.out; omega) (by rw [HX0.out.2.2]; exact HIN.out.more fun b hb => ⟨by have := hb.1; omega, hb.2⟩)⟩
      · have h1' : (17 : Int) < (K.length : Int) := by omega
        have HE : Hid ((decide ((⟨#[]⟩ : ByteArray) = ⟨#[]⟩) && (decide (K.length ≤ 17) && (decide (0 < m) && K.all r))) = false) := by show _ = _; simp [h1]
        generalize (decide ((⟨#[]⟩ : ByteArray) = ⟨#[]⟩) && (decide (K.length ≤ 17) && (decide (0 < m) && K.all r))) = R at HE ⊢
        clear HK HX
        go_enter Try.func34, Try.ntmps34
        go_wp2
        go_ret2
        exact ⟨HB.out, _, by rw [HE.out]; rfl, by rw [HE.out]; exact fun h => Bool.noConfusion h⟩
    · have h0' : ¬ t.toList = [] := fun h => h0 (no_bytes h)
      have HE : Hid ((decide (t = ⟨#[]⟩) && (decide (K.length ≤ 17) && (decide (0 < m) && K.all r))) = false) := by show _ = _; simp [h0]
      generalize (decide (t = ⟨#[]⟩) && (decide (K.length ≤ 17) && (decide (0 < m) && K.all r))) = R at HE ⊢
      clear HK HX
      go_enter Try.func34, Try.ntmps34
      go_wp2
      go_ret2
      exact ⟨HB.out, _, by rw [HE.out]; rfl, by rw [HE.out]; exact fun h => Bool.noConfusion h⟩

theorem KAt.slice {d : Nat} {w : World} {c : Nat} {v : Value} {K : List (It d)} (h : KAt d w c v K) : ∃ a cp, v = .slice a K.length cp := by
  cases d with
  | zero => obtain ⟨a, cp, h, _⟩ := h; exact ⟨a, cp, h⟩
  | succ d => obtain ⟨a, cp, h, _⟩ := h; exact ⟨a, cp, h⟩
theorem KAt.len {d : Nat} {w : World} {c : Nat} {v : Value} {K : List (It d)} (h : KAt d w c v K) : K.length ≤ 9223372036854775807 := by
  cases d with
  | zero => rw [no_kids K]; decide
  | succ d => obtain ⟨a, cp, _, h, _⟩ := h; exact h
theorem iForm_leaf2 (d : Nat) (x : It (d + 1)) (hl : itL x = false) (v : Value) (m : Nat) (w : World) (ht : (itT x).size ≤ 9223372036854775807) (hK : KAt d w w.heap.size v (itK x)) :
    Calls Try.prog 34 #[itV (itL x) (itT x) v, .int .i64 (m : Int)] w (FoEnd d w x (okD (d + 1) (4 - m) x)) := by
  have hn := hK.len
  obtain ⟨a, cp, rfl⟩ := hK.slice
  rw [hl]
  refine (iForm_leaf (itT x) a (itK x).length cp hn ht (m : Int) w).mono ?_
  rintro e w' ⟨rfl, hb⟩
  have he : okD (d + 1) (4 - m) x = (decide ((itK x).length = 0) && decide ((itT x).size ≤ 600)) := by rw [okD, if_neg (by rw [hl]; decide)]
  refine ⟨hb, _, by rw [he], fun h => ?_⟩
  rw [he] at h
  simp only [Bool.and_eq_true, decide_eq_true_eq] at h
  exact FIn.ofText hl (List.eq_nil_of_length_eq_zero h.1) (by omega)
theorem four_less (m : Nat) (hm : m ≤ 4) : decide (4 - m < 4) = decide (0 < m) := decide_eq_decide.2 (by omega)
/-- Of a right item its form, and whether it is one. -/
theorem iForm_any : ∀ (d m : Nat), m ≤ 4 → ∀ (x : It (d + 1)) (v : Value) (w : World), (itT x).size ≤ 9223372036854775807 → KAt d w w.heap.size v (itK x) →
    Calls Try.prog 34 #[itV (itL x) (itT x) v, .int .i64 (m : Int)] w (FoEnd d w x (okD (d + 1) (4 - m) x))
  | 0, m, hm, x, v, w, ht, hK => by
    cases hl : itL x
    · rw [← hl]
      exact iForm_leaf2 0 x hl v m w ht hK
    · obtain ⟨a, cp, rfl, hn⟩ := hK
      have h0 := no_kids (itK x)
      have he : okD (0 + 1) (4 - m) x = (decide (itT x = ⟨#[]⟩) && (decide (([] : List (It 1)).length ≤ 17) && (decide (0 < m) && ([] : List (It 1)).all fun x => okD 1 (4 - m + 1) x))) := by
        rw [okD, if_pos hl, h0, four_less m hm]
        rfl
      have h1 := iForm_list 0 ((true, itT x, []) : It (0 + 1 + 1)) (itT x) a cp [] ⟨rfl, rfl, rfl⟩ (Nat.zero_le _) ht m hm w (fun x => okD 1 (4 - m + 1) x) (fun j hj => absurd hj (Nat.not_lt_zero _))
      rw [he, h0]
      refine h1.mono ?_
      rintro e w' ⟨hb, u, rfl, h⟩
      refine ⟨hb, u, rfl, fun hr => ?_⟩
      obtain ⟨h1, h2, vv, h3, a9, cp9, h4, h5⟩ := (h hr).list rfl
      rw [h3]
      exact FIn.ofList hl h1 (by rw [h0]; exact Nat.zero_le _) ⟨a9, cp9, by rw [h4, h0]; rfl, fun j hj => by rw [h0] at hj; exact absurd hj (Nat.not_lt_zero _)⟩
  | d + 1, m, hm, x, v, w, ht, hK => by
    cases hl : itL x
    · rw [← hl]
      exact iForm_leaf2 (d + 1) x hl v m w ht hK
    · obtain ⟨a, cp, rfl, hn, hk⟩ := hK
      have he : okD (d + 1 + 1) (4 - m) x = (decide (itT x = ⟨#[]⟩) && (decide ((itK x).length ≤ 17) && (decide (0 < m) && (itK x).all (okD (d + 1) (4 - m + 1))))) := by
        rw [okD, if_pos hl, four_less m hm]
      rw [he]
      refine iForm_list d x (itT x) a cp (itK x) ⟨hl, rfl, rfl⟩ hn ht m hm w (okD (d + 1) (4 - m + 1)) fun j hj => ?_
      obtain ⟨u, h2, h3, h4⟩ := hk j hj
      obtain ⟨a1, c1, rfl⟩ := h4.slice
      refine ⟨_, _, a1, _, c1, h2, fun h5 w' hb => ?_⟩
      have e1 : 4 - m + 1 = 4 - (m - 1) := by omega
      rw [e1]
      exact iForm_any d (m - 1) (by omega) _ _ w' h3 ((h4.on hb).wide hb.size)

set_option maxHeartbeats 1600000 in
set_option maxRecDepth 100000 in
theorem iItemOk_any (d : Nat) (x : It (d + 1)) (v : Value) (w : World) (ht : (itT x).size ≤ 9223372036854775807) (hK : KAt d w w.heap.size v (itK x)) :
    Calls Try.prog 22 #[itV (itL x) (itT x) v] w fun f w' => f = .returned (.bool (okI x)) ∧ Below w.heap.size w w' := by
  obtain ⟨W, hW, hb, hx⟩ := box1 w 26 #[.bool (itL x), .string (itT x), v]
  have q0 := hx.cell 0
  have q1 := hx.cell 1
  have q2 := hx.cell 2
  have HB : Hid (Below w.heap.size w W) := hb
  have HC : Hid (Calls Try.prog 34 #[.agg #[.bool (itL x), .string (itT x), v], .int .i64 4] W (FoEnd d W x (okI x))) := iForm_any d 4 (Nat.le_refl _) x v W ht ((hK.on hb).wide hb.size)
  obtain ⟨a, cp, rfl⟩ := hK.slice
  generalize okI x = R at HC ⊢
  unfold itV
  clear hb hx hK
  go_enter Try.func22, Try.ntmps22
  go_wp2_with fail
  refine HC.out.mono ?_
  rintro f w2 ⟨hb2, u, rfl, _⟩
  have hB2 := below_then HB.out hb2
  clear q0 q1 q2 hb2
  go_wp2
  go_ret
  exact ⟨rfl, hB2⟩

end Go.Proofs.Ytmpjnabadplbjaa
