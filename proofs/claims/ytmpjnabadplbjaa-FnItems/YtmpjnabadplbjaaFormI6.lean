/-
  The walks of the program's ItemText, ReadItem.
  (-DROP-: what the seat lacks is left out.)
-/
import Derived.Test.YtmpjnabadplbjaaFormI2
import Derived.Test.YtmpjnabadplbjaaFormI4
import Derived.Test.YtmpjnabadplbjaaFormI5
import Derived.Test.YtmpjnabadplbjaaItemR5
namespace Go.Proofs.Ytmpjnabadplbjaa
open Go.RowKit

set_option maxHeartbeats 1600000 in
set_option maxRecDepth 100000 in
theorem iItemText_any (d : Nat) (x : It (d + 1)) (v : Value) (w : World) (ht : (itT x).size ≤ 9223372036854775807) (hK : KAt d w w.heap.size v (itK x)) :
    Calls Try.prog 11 #[itV (itL x) (itT x) v] w fun f w' => f = .returned (.tuple #[.string (textI x).1, .bool (textI x).2]) ∧ Below w.heap.size w w' := by
  obtain ⟨W, hW, hb, hx⟩ := box1 w 26 #[.bool (itL x), .string (itT x), v]
  have q0 := hx.cell 0
  have q1 := hx.cell 1
  have q2 := hx.cell 2
  have HB : Hid (Below w.heap.size w W) := hb
  have HC : Hid (Calls Try.prog 34 #[.agg #[.bool (itL x), .string (itT x), v], .int .i64 4] W (FoEnd d W x (okI x))) := iForm_any d 4 (Nat.le_refl _) x v W ht ((hK.on hb).wide hb.size)
  obtain ⟨a, cp, rfl⟩ := hK.slice
  have HI : Hid (textI x = if okI x then (if (textD (d + 1) x).size ≤ 900 then (textD (d + 1) x, true) else (⟨#[]⟩, false)) else (⟨#[]⟩, false)) := rfl
  generalize textI x = R at HI ⊢
  unfold itV
  clear hb hx hK
  cases ho : okI x
  · rw [ho] at HC HI
    have HR : Hid (R = (⟨#[]⟩, false)) := HI.out
    clear HI ho
    go_enter Try.func11, Try.ntmps11
    go_wp2_with fail
    refine HC.out.mono ?_
    rintro f w2 ⟨hb2, u, rfl, _⟩
    have hB2 := below_then HB.out hb2
    clear q0 q1 q2 hb2
    go_wp2
    go_ret2
    exact ⟨by rw [HR.out]; rfl, hB2⟩
  · have HF : Hid (Flat (d + 1) 4 x) := okD_flat (d + 1) 0 x ho
    rw [ho] at HC HI
    clear ho
    go_enter Try.func11, Try.ntmps11
    go_wp2_with fail
    refine HC.out.mono ?_
    rintro f w2 ⟨hb2, u, rfl, hin⟩
    have hB2 := below_then HB.out hb2
    have hin2 := hin rfl
    have hsz := wrD_size (d + 1) 4 x HF.out hin2.sizes
    have hwr := iWritten_any (d + 1) 4 (by decide) x u w2 HF.out (hin2.more fun b hb => hb.2)
    have hal := wrD_alike (d + 1) x
    have HT : Hid (R = if (textD (d + 1) x).size ≤ 900 then (textD (d + 1) x, true) else (⟨#[]⟩, false)) := HI.out
    clear q0 q1 q2 hb2 hin hin2 HI HF HC
    generalize wrD (d + 1) x = y at hsz hwr hal
    generalize textD (d + 1) x = z at hal HT
    have HR : Hid (if y.size ≤ 900 then R = (y, true) else R = (⟨#[]⟩, false)) := by
      show if y.size ≤ 900 then R = (y, true) else R = (⟨#[]⟩, false)
      rcases hal with rfl | h
      · by_cases h9 : y.size ≤ 900
        · rw [if_pos h9]; have := HT.out; rw [if_pos h9] at this; exact this
        · rw [if_neg h9]; have := HT.out; rw [if_neg h9] at this; exact this
      · rw [if_neg (by omega)]; have := HT.out; rw [if_neg (by omega)] at this; exact this
    have HCl : Hid (∀ wz, Calls Try.prog 35 #[.string y] wz fun e w' => e = .returned (.string y) ∧ Below wz.heap.size wz w') := fun wz => clone_any y wz (by omega)
    clear hal HT
    unfold WrOf at hwr
    by_cases h9 : y.size ≤ 900
    · have h9' : ¬ (900 : Int) < (y.size : Int) := by omega
      rw [if_pos h9] at HR
      clear h9 hsz
      rcases hwr with ⟨a1, n1, c1, rfl, hCk⟩ | ⟨s1, rfl, hCk⟩
      · have HCk : Hid (Calls Try.prog 81 #[.slice a1 n1 c1] w2 fun e w'' => e = .returned (.string y) ∧ Below w2.heap.size w2 w'') := hCk w2 (Below.refl _ _)
        clear hCk
        go_wp2_with fail
        refine HCk.out.mono ?_
        rintro f w3 ⟨rfl, hb3⟩
        have hB3 := below_then hB2 hb3
        clear hb3
        go_wp2_with fail
        refine (HCl.out _).mono ?_
        rintro f w4 ⟨rfl, hb4⟩
        have hB4 := below_then hB3 hb4
        go_wp2
        go_ret2
        exact ⟨by rw [HR.out]; rfl, hB4⟩
      · have HCk : Hid (Calls Try.prog 79 #[.string s1] w2 fun e w'' => e = .returned (.string y) ∧ Below w2.heap.size w2 w'') := hCk w2 (Below.refl _ _)
        clear hCk
        go_wp2_with fail
        refine HCk.out.mono ?_
        rintro f w3 ⟨rfl, hb3⟩
        have hB3 := below_then hB2 hb3
        clear hb3
        go_wp2_with fail
        refine (HCl.out _).mono ?_
        rintro f w4 ⟨rfl, hb4⟩
        have hB4 := below_then hB3 hb4
        go_wp2
        go_ret2
        exact ⟨by rw [HR.out]; rfl, hB4⟩
    · have h9' : (900 : Int) < (y.size : Int) := by omega
      rw [if_neg h9] at HR
      clear h9 hsz HCl
      rcases hwr with ⟨a1, n1, c1, rfl, hCk⟩ | ⟨s1, rfl, hCk⟩
      · have HCk : Hid (Calls Try.prog 81 #[.slice a1 n1 c1] w2 fun e w'' => e = .returned (.string y) ∧ Below w2.heap.size w2 w'') := hCk w2 (Below.refl _ _)
        clear hCk
        go_wp2_with fail
        refine HCk.out.mono ?_
        rintro f w3 ⟨rfl, hb3⟩
        have hB3 := below_then hB2 hb3
        clear hb3
        go_wp2
        go_ret2
        exact ⟨by rw [HR.out]; rfl, hB3⟩
      · have HCk : Hid (Calls Try.prog 79 #[.string s1] w2 fun e w'' => e = .returned (.string y) ∧ Below w2.heap.size w2 w'') := hCk w2 (Below.refl _ _)
        clear hCk
        go_wp2_with fail
        refine HCk.out.mono ?_
        rintro f w3 ⟨rfl, hb3⟩
        have hB3 := below_then hB2 hb3
        clear hb3
        go_wp2
        go_ret2
        exact ⟨by rw [HR.out]; rfl, hB3⟩

/-- What ReadItem answers. -/
def RjEnd (w : World) (r : Option (It (900 + 1))) (e : Ending) (w' : World) : Prop := Below w.heap.size w w' ∧ match r with
  | none => e = .returned (.tuple #[itV false ⟨#[]⟩ (.slice none 0 0), .bool false])
  | some x => ∃ v, e = .returned (.tuple #[itV (itL x) (itT x) v, .bool true]) ∧ TO 900 (fun b => w.heap.size ≤ b ∧ b < w'.heap.size) w' v (itK x) ∧ (itT x).size ≤ 1000000
theorem readF_long {t : ByteArray} (h : ¬ t.size ≤ 900) : readF t = none := if_neg h
theorem readF_none {t : ByteArray} (h : t.size ≤ 900) (h2 : rdF 900 t = none) : readF t = none := by rw [readF, if_pos h, h2]
theorem readF_yes {t r : ByteArray} {x : It (900 + 1)} (h : t.size ≤ 900) (h2 : rdF 900 t = some (x, r)) (h3 : (textI x).2 = true) (h4 : (textI x).1 = t) : readF t = some x := by
  rw [readF, if_pos h, h2]
  exact if_pos (by rw [← h4, ← h3])
theorem readF_no {t r : ByteArray} {x : It (900 + 1)} (h : t.size ≤ 900) (h2 : rdF 900 t = some (x, r)) (h3 : ¬ ((textI x).2 = true ∧ (textI x).1 = t)) : readF t = none := by
  rw [readF, if_pos h, h2]
  exact if_neg (fun h5 => h3 ⟨by rw [h5], by rw [h5]⟩)

set_option maxHeartbeats 3200000 in
set_option maxRecDepth 100000 in
theorem iReadItem_any (t : ByteArray) (w : World) : Calls Try.prog 12 #[.string t] w (RjEnd w (readF t)) := by
  obtain ⟨W, hW, hbW, hr⟩ := box1 w 26 #[.bool false, .string ⟨#[]⟩, .slice none 0 0]
  by_cases h9 : t.size ≤ 900
  · have h9' : ¬ 900 < t.size := by omega
    have HC : Hid (∀ w, Calls Try.prog 36 #[.string t] w (RfEnd 900 w (rdF 900 t))) := fun w => iReadForm_any 900 (by decide) t h9 w
    have k1 := readF_none h9
    have k2 := fun r x => @readF_yes t r x h9
    have k3 := fun r x => @readF_no t r x h9
    generalize readF t = R at k1 k2 k3 ⊢
    cases hq : rdF 900 t with
    | none =>
      rw [hq] at HC
      have HR2 : Hid (R = none) := k1 hq
      clear k1 k2 k3 hq
      go_enter Try.func12, Try.ntmps12
      go_wp2_with fail
      clear hW
      refine (HC.out _).mono ?_
      rintro fe w3 ⟨hb3, u, s, rfl⟩
      have hr3 := hr.on hb3 hr.lt
      have hB3 := below_then hbW hb3
      have hlr : w.heap.size < w3.heap.size := hr3.lt
      clear hr hbW hb3
      go_wp2_with (refine store_blkS (cs' := #[.bool false, .string ⟨#[]⟩, .slice none 0 0]) rfl rfl rfl rfl rfl hr3 infoIt rfl (onesIt _ _ _ _ _) ?_; intro V h5 hall hoth hbel; have hbV := hbel _ _ (Nat.le_refl _) hB3; clear hoth hbel)
      refine bodyPost_ret_by (result_It2 rfl rfl rfl h5 Try.underlying26 infoIt) rfl ⟨hbV, by rw [HR2.out]; rfl⟩
    | some y =>
      obtain ⟨x, r⟩ := y
      rw [hq] at HC
      have k2 := k2 r x hq
      have k3 := k3 r x hq
      have HT : Hid (∀ w v, (itT x).size ≤ 1000000 → KAt 900 w w.heap.size v (itK x) → Calls Try.prog 11 #[.agg #[.bool (itL x), .string (itT x), v]] w fun f w' => f = .returned (.tuple #[.string (textI x).1, .bool (textI x).2]) ∧ Below w.heap.size w w') := fun w v h1 h2 => iItemText_any 900 x v w (by omega) h2
      generalize (textI x).1 = T at HT k2 k3
      generalize (textI x).2 = o at HT k2 k3
      clear hq k1
      cases o
      · have HR2 : Hid (R = none) := k3 (fun h => Bool.noConfusion h.1)
        clear k2 k3
        go_enter Try.func12, Try.ntmps12
        go_wp2_with fail
        clear hW
        refine (HC.out _).mono ?_
        rintro fe w2 ⟨hb2, u, rfl, hin⟩
        have hr2 := hr.on hb2 hr.lt
        have hB2 := below_then hbW hb2
        have hlr : w.heap.size < w2.heap.size := hr2.lt
        have HIO := iItemOf_any 900 x u w2 (hin.more fun b hb => hb.2)
        clear hr hbW hb2 hin
        go_wp2_with fail
        refine HIO.mono ?_
        rintro fe w3 ⟨hb3, v, rfl, hto, htx⟩
        obtain ⟨a, cp, rfl⟩ := hto.slice
        have hr3 := hr2.on hb3 hr2.lt
        have hB3 := below_then hB2 hb3
        have HIN : Hid (TO 900 (fun b => w2.heap.size ≤ b ∧ b < w3.heap.size) w3 (.slice a (itK x).length cp) (itK x) ∧ (itT x).size ≤ 1000000 ∧ w.heap.size < w2.heap.size) := ⟨hto, htx, hlr⟩
        have hlr3 : w.heap.size < w3.heap.size := hr3.lt
        clear hr2 hB2 hb3 hto htx hlr HIO
        unfold itV
        go_wp2_with (refine store_blk (cs' := #[.bool (itL x), .string (itT x), .slice a (itK x).length cp]) rfl rfl rfl rfl rfl (Blk.new _ _ _) infoIt rfl (onesIt _ _ _ _ _) ?_; intro V1 h51 hoth1 hbel1; have hrV := hoth1 _ _ _ (by omega) (hr3.alloc _); have hbV1 := hbel1 _ _ (by omega) (hB3.alloc hB3.size _); have h31 := hbel1 w3.heap.size w3 (Nat.le_refl _) ((Below.refl _ _).alloc (Nat.le_refl _) _); have k0 := h51.cell 0; have k1 := h51.cell 1; have k2 := h51.cell 2; clear hoth1 hbel1)
        have HTV := HT.out V1 (.slice a (itK x).length cp) HIN.out.2.1 (((HIN.out.1.in.at (c := w3.heap.size) fun b hb => hb.2).on h31).wide h31.size)
        refine HTV.mono ?_
        rintro ge w4 ⟨rfl, hb4⟩
        have hr4 := hrV.on hb4 hrV.lt
        have hB4 := below_then hbV1 hb4
        have hk4 := h51.on hb4 h51.lt
        have HI4 : Hid (TO 900 (fun b => w2.heap.size ≤ b ∧ b < w4.heap.size) w4 (.slice a (itK x).length cp) (itK x)) := by
          have e1 := h31.size
          have e2 := hb4.size
          exact ((HIN.out.1.kept (w' := V1) fun b hb => h31.block b hb.2).kept (w' := w4) fun b hb => hb4.block b (by have := hb.2; omega)).more fun b hb => ⟨hb.1, by have := hb.2; omega⟩
        clear hrV hbV1 hb4 h51 k0 k1 k2 h31 HTV
        have p0 := hk4.cell 0
        have p1 := hk4.cell 1
        have p2 := hk4.cell 2
        go_wp2_with (refine store_blkS (cs' := #[.bool false, .string ⟨#[]⟩, .slice none 0 0]) rfl rfl rfl rfl rfl hr4 infoIt rfl (onesIt _ _ _ _ _) ?_; intro V h5 hall hoth hbel; have hbV := hbel _ _ (Nat.le_refl _) hB4; have hbV2 := hbel w.heap.size w4 (Nat.le_refl _) (Below.refl _ _); clear hoth hbel)
        refine bodyPost_ret_by (result_It2 rfl rfl rfl h5 Try.underlying26 infoIt) rfl ⟨hbV, by rw [HR2.out]; rfl⟩
      · by_cases hT : T = t
        · have HR2 : Hid (R = some x) := k2 rfl hT
          have hT' : (T.toList == t.toList) = true := by rw [hT]; exact beq_self_eq_true _
          clear k2 k3
          go_enter Try.func12, Try.ntmps12
          go_wp2_with fail
          clear hW
          refine (HC.out _).mono ?_
          rintro fe w2 ⟨hb2, u, rfl, hin⟩
          have hr2 := hr.on hb2 hr.lt
          have hB2 := below_then hbW hb2
          have hlr : w.heap.size < w2.heap.size := hr2.lt
          have HIO := iItemOf_any 900 x u w2 (hin.more fun b hb => hb.2)
          clear hr hbW hb2 hin
          go_wp2_with fail
          refine HIO.mono ?_
          rintro fe w3 ⟨hb3, v, rfl, hto, htx⟩
          obtain ⟨a, cp, rfl⟩ := hto.slice
          have hr3 := hr2.on hb3 hr2.lt
          have hB3 := below_then hB2 hb3
          have HIN : Hid (TO 900 (fun b => w2.heap.size ≤ b ∧ b < w3.heap.size) w3 (.slice a (itK x).length cp) (itK x) ∧ (itT x).size ≤ 1000000 ∧ w.heap.size < w2.heap.size) := ⟨hto, htx, hlr⟩
          have hlr3 : w.heap.size < w3.heap.size := hr3.lt
          clear hr2 hB2 hb3 hto htx hlr HIO
          unfold itV
          go_wp2_with (refine store_blk (cs' := #[.bool (itL x), .string (itT x), .slice a (itK x).length cp]) rfl rfl rfl rfl rfl (Blk.new _ _ _) infoIt rfl (onesIt _ _ _ _ _) ?_; intro V1 h51 hoth1 hbel1; have hrV := hoth1 _ _ _ (by omega) (hr3.alloc _); have hbV1 := hbel1 _ _ (by omega) (hB3.alloc hB3.size _); have h31 := hbel1 w3.heap.size w3 (Nat.le_refl _) ((Below.refl _ _).alloc (Nat.le_refl _) _); have k0 := h51.cell 0; have k1 := h51.cell 1; have k2 := h51.cell 2; clear hoth1 hbel1)
          have HTV := HT.out V1 (.slice a (itK x).length cp) HIN.out.2.1 (((HIN.out.1.in.at (c := w3.heap.size) fun b hb => hb.2).on h31).wide h31.size)
          refine HTV.mono ?_
          rintro ge w4 ⟨rfl, hb4⟩
          have hr4 := hrV.on hb4 hrV.lt
          have hB4 := below_then hbV1 hb4
          have hk4 := h51.on hb4 h51.lt
          have HI4 : Hid (TO 900 (fun b => w2.heap.size ≤ b ∧ b < w4.heap.size) w4 (.slice a (itK x).length cp) (itK x)) := by
            have e1 := h31.size
            have e2 := hb4.size
            exact ((HIN.out.1.kept (w' := V1) fun b hb => h31.block b hb.2).kept (w' := w4) fun b hb => hb4.block b (by have := hb.2; omega)).more fun b hb => ⟨hb.1, by have := hb.2; omega⟩
          clear hrV hbV1 hb4 h51 k0 k1 k2 h31 HTV
          have p0 := hk4.cell 0
          have p1 := hk4.cell 1
          have p2 := hk4.cell 2
          go_wp2_with (refine store_blkS (cs' := #[.bool (itL x), .string (itT x), .slice a (itK x).length cp]) rfl rfl rfl rfl rfl hr4 infoIt rfl (onesIt _ _ _ _ _) ?_; intro V h5 hall hoth hbel; have hbV := hbel _ _ (Nat.le_refl _) hB4; have hbV2 := hbel w.heap.size w4 (Nat.le_refl _) (Below.refl _ _); clear hoth hbel)
          refine bodyPost_ret_by (result_It2 rfl rfl rfl h5 Try.underlying26 infoIt) rfl ⟨hbV, by
            rw [HR2.out]
            have e3 := HIN.out.2.2
            have e4 := hbV2.size
            exact ⟨_, rfl, (HI4.out.kept (w' := V) fun b hb => hall b (by have := hb.1; omega)).more fun b hb => ⟨by have := hb.1; omega, by have := hb.2; omega⟩, HIN.out.2.1⟩⟩
        · have HR2 : Hid (R = none) := k3 (fun h => hT h.2)
          have hT' : (T.toList == t.toList) = false := by rw [beq_eq_false_iff_ne]; exact fun h => hT (same_bytes h)
          clear k2 k3
          go_enter Try.func12, Try.ntmps12
          go_wp2_with fail
          clear hW
          refine (HC.out _).mono ?_
          rintro fe w2 ⟨hb2, u, rfl, hin⟩
          have hr2 := hr.on hb2 hr.lt
          have hB2 := below_then hbW hb2
          have hlr : w.heap.size < w2.heap.size := hr2.lt
          have HIO := iItemOf_any 900 x u w2 (hin.more fun b hb => hb.2)
          clear hr hbW hb2 hin
          go_wp2_with fail
          refine HIO.mono ?_
          rintro fe w3 ⟨hb3, v, rfl, hto, htx⟩
          obtain ⟨a, cp, rfl⟩ := hto.slice
          have hr3 := hr2.on hb3 hr2.lt
          have hB3 := below_then hB2 hb3
          have HIN : Hid (TO 900 (fun b => w2.heap.size ≤ b ∧ b < w3.heap.size) w3 (.slice a (itK x).length cp) (itK x) ∧ (itT x).size ≤ 1000000 ∧ w.heap.size < w2.heap.size) := ⟨hto, htx, hlr⟩
          have hlr3 : w.heap.size < w3.heap.size := hr3.lt
          clear hr2 hB2 hb3 hto htx hlr HIO
          unfold itV
          go_wp2_with (refine store_blk (cs' := #[.bool (itL x), .string (itT x), .slice a (itK x).length cp]) rfl rfl rfl rfl rfl (Blk.new _ _ _) infoIt rfl (onesIt _ _ _ _ _) ?_; intro V1 h51 hoth1 hbel1; have hrV := hoth1 _ _ _ (by omega) (hr3.alloc _); have hbV1 := hbel1 _ _ (by omega) (hB3.alloc hB3.size _); have h31 := hbel1 w3.heap.size w3 (Nat.le_refl _) ((Below.refl _ _).alloc (Nat.le_refl _) _); have k0 := h51.cell 0; have k1 := h51.cell 1; have k2 := h51.cell 2; clear hoth1 hbel1)
          have HTV := HT.out V1 (.slice a (itK x).length cp) HIN.out.2.1 (((HIN.out.1.in.at (c := w3.heap.size) fun b hb => hb.2).on h31).wide h31.size)
          refine HTV.mono ?_
          rintro ge w4 ⟨rfl, hb4⟩
          have hr4 := hrV.on hb4 hrV.lt
          have hB4 := below_then hbV1 hb4
          have hk4 := h51.on hb4 h51.lt
          have HI4 : Hid (TO 900 (fun b => w2.heap.size ≤ b ∧ b < w4.heap.size) w4 (.slice a (itK x).length cp) (itK x)) := by
            have e1 := h31.size
            have e2 := hb4.size
            exact ((HIN.out.1.kept (w' := V1) fun b hb => h31.block b hb.2).kept (w' := w4) fun b hb => hb4.block b (by have := hb.2; omega)).more fun b hb => ⟨hb.1, by have := hb.2; omega⟩
          clear hrV hbV1 hb4 h51 k0 k1 k2 h31 HTV
          have p0 := hk4.cell 0
          have p1 := hk4.cell 1
          have p2 := hk4.cell 2
          go_wp2_with (refine store_blkS (cs' := #[.bool false, .string ⟨#[]⟩, .slice none 0 0]) rfl rfl rfl rfl rfl hr4 infoIt rfl (onesIt _ _ _ _ _) ?_; intro V h5 hall hoth hbel; have hbV := hbel _ _ (Nat.le_refl _) hB4; have hbV2 := hbel w.heap.size w4 (Nat.le_refl _) (Below.refl _ _); clear hoth hbel)
          refine bodyPost_ret_by (result_It2 rfl rfl rfl h5 Try.underlying26 infoIt) rfl ⟨hbV, by rw [HR2.out]; rfl⟩
  · have h9' : 900 < t.size := by omega
    have HR2 : Hid (readF t = none) := readF_long h9
    generalize readF t = R at HR2 ⊢
    go_enter Try.func12, Try.ntmps12
    go_wp2_with (refine store_blk (cs' := #[.bool false, .string ⟨#[]⟩, .slice none 0 0]) rfl rfl rfl rfl rfl hr infoIt rfl (onesIt _ _ _ _ _) ?_; intro V h5 hoth hbel; have hbV := hbel _ _ (Nat.le_refl _) hbW; clear hoth hbel)
    refine bodyPost_ret_by (result_It2 rfl rfl rfl h5 Try.underlying26 infoIt) rfl ⟨hbV, by rw [HR2.out]; rfl⟩

end Go.Proofs.Ytmpjnabadplbjaa
