/-
  The contract of the specification's ReadItem.
  (-DROP-: what the seat lacks is left out.)
-/
import Derived.Test.YtmpjnabadplbjaaJoined14
import Derived.Test.YtmpjnabadplbjaaJoined18
namespace Go.Proofs.Ytmpjnabadplbjaa
open Go.RowKit

theorem result_It2 {P : Program} {fn : Func} {p q : Tmp} {ty t : TypeId} {fs : Array Field} (h : fn.results = #[.cell p ty, .tmp q]) {tmps : Array Value} {w : World} {g : Nat} {cs : Array Value} {v : Value} (hp : tmps.getD p undef = .pointer (some ⟨g, 0, none⟩)) (hq : tmps.getD q undef = v)
    (hA : Blk w g t cs) (hu : P.underlying ty = some (.struct fs)) (hi : (P.info? ty).map (·.size) = some cs.size) : (results fn tmps).run P w = .ok (.tuple #[.agg cs, v]) w := by
  have hl := hA.load hu hi
  have hp' : tmps[p]?.getD undef = .pointer (some ⟨g, 0, none⟩) := by simpa using hp
  have hq' : tmps[q]?.getD undef = v := by simpa using hq
  simp [results, h, hp', hq', asAddr, hl, Result.andThen]

/-- The item whose text this is, as the specification finds it. -/
def readI (t : ByteArray) : Option (It 6) := if t.size ≤ 900 then (match rdI 5 t 0 with
  | none => none
  | some (x, j) => if j = t.size ∧ (textI x).2 = true ∧ (textI x).1 = t then some x else none) else none
/-- No item. -/
def itZ : It 6 := (false, ⟨#[]⟩, [])
/-- What ReadItem answers. -/
def RiEnd (w : World) (r : Option (It 6)) (e : Ending) (w' : World) : Prop := Below w.heap.size w w' ∧ match r with
  | none => e = .returned (.tuple #[itV false ⟨#[]⟩ (.slice none 0 0), .bool false])
  | some x => ∃ v, e = .returned (.tuple #[itV (itL x) (itT x) v, .bool true]) ∧ KIn (fun b => w.heap.size ≤ b ∧ b < w'.heap.size) 5 w' v (itK x) ∧ (itT x).size ≤ 1000000

set_option maxHeartbeats 3200000 in
set_option maxRecDepth 100000 in
theorem sReadItem_any (t : ByteArray) (w : World) :
    Calls Try.prog 15 #[.string t] w (RiEnd w (readI t)) := by
  obtain ⟨W, hW, hbW, hr⟩ := box1 w 26 #[.bool false, .string ⟨#[]⟩, .slice none 0 0]
  by_cases h9 : t.size ≤ 900
  · have ht : t.size ≤ 1000000 := by omega
    have h9' : ¬ 900 < t.size := by omega
    have HC : Hid (∀ w, Calls Try.prog 42 #[.string t, .int .i64 0, .int .i64 0] w (RdEnd 5 w (rdI 5 t 0))) := fun w => sRead_any 5 0 rfl t 0 w ht
    have HRr : Hid (readI t = match rdI 5 t 0 with
      | none => none
      | some (x, j) => if j = t.size ∧ (textI x).2 = true ∧ (textI x).1 = t then some x else none) := by
      show _ = _
      unfold readI
      rw [if_pos h9]
    generalize readI t = R at HRr ⊢
    cases hq : rdI 5 t 0 with
    | none =>
      rw [hq] at HC HRr
      have HR2 : Hid (R = none) := HRr.out
      have HT : Hid (∀ w, Calls Try.prog 13 #[.agg #[.bool false, .string ⟨#[]⟩, .slice none 0 0]] w fun f w' => f = .returned (.tuple #[.string (textI itZ).1, .bool (textI itZ).2]) ∧ Below w.heap.size w w') := fun w => sItemText_any 5 itZ (.slice none 0 0) w (Nat.zero_le _) ⟨none, 0, rfl, Nat.zero_le _, fun j hj => absurd hj (Nat.not_lt_zero _)⟩
      generalize (textI itZ).1 = T at HT
      generalize (textI itZ).2 = o at HT
      clear HRr
      go_enter Try.func15, Try.ntmps15
      go_wp2_with fail
      clear hW
      refine (HC.out _).mono ?_
      rintro fe w3 ⟨hb3, rfl⟩
      have hr3 := hr.on hb3 hr.lt
      have hB3 := below_then hbW hb3
      have hlr : w.heap.size < w3.heap.size := hr3.lt
      clear hr hbW hb3
      unfold itV
      go_wp2_with (refine store_blk (cs' := #[.bool false, .string ⟨#[]⟩, .slice none 0 0]) rfl rfl rfl rfl rfl (Blk.new _ _ _) infoIt rfl (onesIt _ _ _ _ _) ?_; intro V1 h51 hoth1 hbel1; have hrV := hoth1 _ _ _ (by omega) (hr3.alloc _); have hbV1 := hbel1 _ _ (by omega) (hB3.alloc hB3.size _); have h31 := hbel1 w3.heap.size w3 (Nat.le_refl _) ((Below.refl _ _).alloc (Nat.le_refl _) _); have k0 := h51.cell 0; have k1 := h51.cell 1; have k2 := h51.cell 2; clear hoth1 hbel1)
      refine (HT.out _).mono ?_
      rintro ge w4 ⟨rfl, hb4⟩
      have hr4 := hrV.on hb4 hrV.lt
      have hB4 := below_then hbV1 hb4
      clear hrV hbV1 hb4 h51 k0 k1 k2 h31
      go_wp2_with (refine store_blkS (cs' := #[.bool false, .string ⟨#[]⟩, .slice none 0 0]) rfl rfl rfl rfl rfl hr4 infoIt rfl (onesIt _ _ _ _ _) ?_; intro V h5 hall hoth hbel; have hbV := hbel _ _ (Nat.le_refl _) hB4; have hbV2 := hbel w.heap.size w4 (Nat.le_refl _) (Below.refl _ _); clear hoth hbel)
      refine bodyPost_ret_by (result_It2 rfl rfl rfl h5 Try.underlying26 infoIt) rfl ⟨hbV, by rw [HR2.out]; rfl⟩
    | some y =>
      obtain ⟨x, j⟩ := y
      rw [hq] at HC HRr
      have HR2 : Hid (R = if j = t.size ∧ (textI x).2 = true ∧ (textI x).1 = t then some x else none) := HRr.out
      clear HRr
      have HT : Hid (∀ w v, (itT x).size ≤ 1000000 → KAt 5 w w.heap.size v (itK x) → Calls Try.prog 13 #[.agg #[.bool (itL x), .string (itT x), v]] w fun f w' => f = .returned (.tuple #[.string (textI x).1, .bool (textI x).2]) ∧ Below w.heap.size w w') := fun w v h1 h2 => sItemText_any 5 x v w (by omega) h2
      generalize (textI x).1 = T at HT HR2
      generalize (textI x).2 = o at HT HR2
      have hjm : j ≤ 1000000 := by have := rdI_le 5 t 0 x j hq; omega
      clear hq
      by_cases hj : j = t.size
      · subst hj
        cases o
        · rw [if_neg (fun h => Bool.noConfusion h.2.1)] at HR2
          go_enter Try.func15, Try.ntmps15
          go_wp2_with fail
          clear hW
          refine (HC.out _).mono ?_
          rintro fe w3 ⟨hb3, v, rfl, hin, htx⟩
          obtain ⟨a, cp, rfl⟩ := hin.slice
          have hr3 := hr.on hb3 hr.lt
          have hB3 := below_then hbW hb3
          have hlr : w.heap.size < w3.heap.size := hr3.lt
          have HIN : Hid (KIn (fun b => W.heap.size ≤ b ∧ b < w3.heap.size) 5 w3 (.slice a (itK x).length cp) (itK x) ∧ (itT x).size ≤ 1000000 ∧ w.heap.size < W.heap.size) := ⟨hin, htx, hr.lt⟩
          clear hr hbW hb3 hin htx
          unfold itV
          go_wp2_with (refine store_blk (cs' := #[.bool (itL x), .string (itT x), .slice a (itK x).length cp]) rfl rfl rfl rfl rfl (Blk.new _ _ _) infoIt rfl (onesIt _ _ _ _ _) ?_; intro V1 h51 hoth1 hbel1; have hrV := hoth1 _ _ _ (by omega) (hr3.alloc _); have hbV1 := hbel1 _ _ (by omega) (hB3.alloc hB3.size _); have h31 := hbel1 w3.heap.size w3 (Nat.le_refl _) ((Below.refl _ _).alloc (Nat.le_refl _) _); have k0 := h51.cell 0; have k1 := h51.cell 1; have k2 := h51.cell 2; clear hoth1 hbel1)
          have HTV := HT.out V1 (.slice a (itK x).length cp) HIN.out.2.1 (((HIN.out.1.at (c := w3.heap.size) fun b hb => hb.2).on h31).wide h31.size)
          refine HTV.mono ?_
          rintro ge w4 ⟨rfl, hb4⟩
          have hr4 := hrV.on hb4 hrV.lt
          have hB4 := below_then hbV1 hb4
          have hk4 := h51.on hb4 h51.lt
          have HI4 : Hid (KIn (fun b => W.heap.size ≤ b ∧ b < w4.heap.size) 5 w4 (.slice a (itK x).length cp) (itK x)) := by
            have e1 := h31.size
            have e2 := hb4.size
            exact ((HIN.out.1.kept (w' := V1) fun b hb => h31.block b hb.2).kept (w' := w4) fun b hb => hb4.block b (by have := hb.2; omega)).more fun b hb => ⟨hb.1, by have := hb.2; omega⟩
          clear hrV hbV1 hb4 h51 k0 k1 k2 h31 HTV
          have p0 := hk4.cell 0
          have p1 := hk4.cell 1
          have p2 := hk4.cell 2
          go_wp2_with (refine store_blkS (cs' := #[.bool false, .string ⟨#[]⟩, .slice none 0 0]) rfl rfl rfl rfl rfl hr4 infoIt rfl (onesIt _ _ _ _ _) ?_; intro V h5 hall hoth hbel; have hbV := hbel _ _ (Nat.le_refl _) hB4; have hbV2 := hbel w.heap.size w4 (Nat.le_refl _) (Below.refl _ _); clear hoth hbel)
          refine bodyPost_ret_by (result_It2 rfl rfl rfl h5 Try.underlying26 infoIt) rfl ⟨hbV, by rw [HR2.out]; rfl⟩
        · by_cases hT : T = t
          · rw [if_pos ⟨rfl, rfl, hT⟩] at HR2
            have hT' : (T.toList == t.toList) = true := by rw [hT]; exact beq_self_eq_true _
            go_enter Try.func15, Try.ntmps15
            go_wp2_with fail
            clear hW
            refine (HC.out _).mono ?_
            rintro fe w3 ⟨hb3, v, rfl, hin, htx⟩
            obtain ⟨a, cp, rfl⟩ := hin.slice
            have hr3 := hr.on hb3 hr.lt
            have hB3 := below_then hbW hb3
            have hlr : w.heap.size < w3.heap.size := hr3.lt
            have HIN : Hid (KIn (fun b => W.heap.size ≤ b ∧ b < w3.heap.size) 5 w3 (.slice a (itK x).length cp) (itK x) ∧ (itT x).size ≤ 1000000 ∧ w.heap.size < W.heap.size) := ⟨hin, htx, hr.lt⟩
            clear hr hbW hb3 hin htx
            unfold itV
            go_wp2_with (refine store_blk (cs' := #[.bool (itL x), .string (itT x), .slice a (itK x).length cp]) rfl rfl rfl rfl rfl (Blk.new _ _ _) infoIt rfl (onesIt _ _ _ _ _) ?_; intro V1 h51 hoth1 hbel1; have hrV := hoth1 _ _ _ (by omega) (hr3.alloc _); have hbV1 := hbel1 _ _ (by omega) (hB3.alloc hB3.size _); have h31 := hbel1 w3.heap.size w3 (Nat.le_refl _) ((Below.refl _ _).alloc (Nat.le_refl _) _); have k0 := h51.cell 0; have k1 := h51.cell 1; have k2 := h51.cell 2; clear hoth1 hbel1)
            have HTV := HT.out V1 (.slice a (itK x).length cp) HIN.out.2.1 (((HIN.out.1.at (c := w3.heap.size) fun b hb => hb.2).on h31).wide h31.size)
            refine HTV.mono ?_
            rintro ge w4 ⟨rfl, hb4⟩
            have hr4 := hrV.on hb4 hrV.lt
            have hB4 := below_then hbV1 hb4
            have hk4 := h51.on hb4 h51.lt
            have HI4 : Hid (KIn (fun b => W.heap.size ≤ b ∧ b < w4.heap.size) 5 w4 (.slice a (itK x).length cp) (itK x)) := by
              have e1 := h31.size
              have e2 := hb4.size
              exact ((HIN.out.1.kept (w' := V1) fun b hb => h31.block b hb.2).kept (w' := w4) fun b hb => hb4.block b (by have := hb.2; omega)).more fun b hb => ⟨hb.1, by have := hb.2; omega⟩
            clear hrV hbV1 hb4 h51 k0 k1 k2 h31 HTV
            have p0 := hk4.cell 0
            have p1 := hk4.cell 1
            have p2 := hk4.cell 2
            go_wp2_with (refine store_blkS (cs' := #[.bool (itL x), .string (itT x), .slice a (itK x).length cp]) rfl rfl rfl rfl rfl hr4 infoIt rfl (onesIt _ _ _ _ _) ?_; intro V h5 hall hoth hbel; have hbV := hbel _ _ (Nat.le_refl _) hB4; have hbV2 := hbel w.heap.size w4 (Nat.le_refl _) (Below.refl _ _); clear hoth hbel)
            refine bodyPost_ret_by (result_It2 rfl rfl rfl h5 Try.underlying26 infoIt) rfl ⟨hbV, by
              rw [HR2.out]
              have e3 := HIN.out.2.2
              have e4 := hbV2.size
              exact ⟨_, rfl, (HI4.out.kept (w' := V) fun b hb => hall b (by have := hb.1; omega)).more fun b hb => ⟨by have := hb.1; omega, by have := hb.2; omega⟩, HIN.out.2.1⟩⟩
          · rw [if_neg (fun h => hT h.2.2)] at HR2
            have hT' : (T.toList == t.toList) = false := by rw [beq_eq_false_iff_ne]; exact fun h => hT (same_bytes h)
            go_enter Try.func15, Try.ntmps15
            go_wp2_with fail
            clear hW
            refine (HC.out _).mono ?_
            rintro fe w3 ⟨hb3, v, rfl, hin, htx⟩
            obtain ⟨a, cp, rfl⟩ := hin.slice
            have hr3 := hr.on hb3 hr.lt
            have hB3 := below_then hbW hb3
            have hlr : w.heap.size < w3.heap.size := hr3.lt
            have HIN : Hid (KIn (fun b => W.heap.size ≤ b ∧ b < w3.heap.size) 5 w3 (.slice a (itK x).length cp) (itK x) ∧ (itT x).size ≤ 1000000 ∧ w.heap.size < W.heap.size) := ⟨hin, htx, hr.lt⟩
            clear hr hbW hb3 hin htx
            unfold itV
            go_wp2_with (refine store_blk (cs' := #[.bool (itL x), .string (itT x), .slice a (itK x).length cp]) rfl rfl rfl rfl rfl (Blk.new _ _ _) infoIt rfl (onesIt _ _ _ _ _) ?_; intro V1 h51 hoth1 hbel1; have hrV := hoth1 _ _ _ (by omega) (hr3.alloc _); have hbV1 := hbel1 _ _ (by omega) (hB3.alloc hB3.size _); have h31 := hbel1 w3.heap.size w3 (Nat.le_refl _) ((Below.refl _ _).alloc (Nat.le_refl _) _); have k0 := h51.cell 0; have k1 := h51.cell 1; have k2 := h51.cell 2; clear hoth1 hbel1)
            have HTV := HT.out V1 (.slice a (itK x).length cp) HIN.out.2.1 (((HIN.out.1.at (c := w3.heap.size) fun b hb => hb.2).on h31).wide h31.size)
            refine HTV.mono ?_
            rintro ge w4 ⟨rfl, hb4⟩
            have hr4 := hrV.on hb4 hrV.lt
            have hB4 := below_then hbV1 hb4
            have hk4 := h51.on hb4 h51.lt
            have HI4 : Hid (KIn (fun b => W.heap.size ≤ b ∧ b < w4.heap.size) 5 w4 (.slice a (itK x).length cp) (itK x)) := by
              have e1 := h31.size
              have e2 := hb4.size
              exact ((HIN.out.1.kept (w' := V1) fun b hb => h31.block b hb.2).kept (w' := w4) fun b hb => hb4.block b (by have := hb.2; omega)).more fun b hb => ⟨hb.1, by have := hb.2; omega⟩
            clear hrV hbV1 hb4 h51 k0 k1 k2 h31 HTV
            have p0 := hk4.cell 0
            have p1 := hk4.cell 1
            have p2 := hk4.cell 2
            go_wp2_with (refine store_blkS (cs' := #[.bool false, .string ⟨#[]⟩, .slice none 0 0]) rfl rfl rfl rfl rfl hr4 infoIt rfl (onesIt _ _ _ _ _) ?_; intro V h5 hall hoth hbel; have hbV := hbel _ _ (Nat.le_refl _) hB4; have hbV2 := hbel w.heap.size w4 (Nat.le_refl _) (Below.refl _ _); clear hoth hbel)
            refine bodyPost_ret_by (result_It2 rfl rfl rfl h5 Try.underlying26 infoIt) rfl ⟨hbV, by rw [HR2.out]; rfl⟩
      · rw [if_neg (fun h => hj h.1)] at HR2
        have hj' : ((j : Int) == (t.size : Int)) = false := by rw [beq_eq_false_iff_ne]; omega
        go_enter Try.func15, Try.ntmps15
        go_wp2_with fail
        clear hW
        refine (HC.out _).mono ?_
        rintro fe w3 ⟨hb3, v, rfl, hin, htx⟩
        obtain ⟨a, cp, rfl⟩ := hin.slice
        have hr3 := hr.on hb3 hr.lt
        have hB3 := below_then hbW hb3
        have hlr : w.heap.size < w3.heap.size := hr3.lt
        have HIN : Hid (KIn (fun b => W.heap.size ≤ b ∧ b < w3.heap.size) 5 w3 (.slice a (itK x).length cp) (itK x) ∧ (itT x).size ≤ 1000000 ∧ w.heap.size < W.heap.size) := ⟨hin, htx, hr.lt⟩
        clear hr hbW hb3 hin htx
        unfold itV
        go_wp2_with (refine store_blk (cs' := #[.bool (itL x), .string (itT x), .slice a (itK x).length cp]) rfl rfl rfl rfl rfl (Blk.new _ _ _) infoIt rfl (onesIt _ _ _ _ _) ?_; intro V1 h51 hoth1 hbel1; have hrV := hoth1 _ _ _ (by omega) (hr3.alloc _); have hbV1 := hbel1 _ _ (by omega) (hB3.alloc hB3.size _); have h31 := hbel1 w3.heap.size w3 (Nat.le_refl _) ((Below.refl _ _).alloc (Nat.le_refl _) _); have k0 := h51.cell 0; have k1 := h51.cell 1; have k2 := h51.cell 2; clear hoth1 hbel1)
        have HTV := HT.out V1 (.slice a (itK x).length cp) HIN.out.2.1 (((HIN.out.1.at (c := w3.heap.size) fun b hb => hb.2).on h31).wide h31.size)
        refine HTV.mono ?_
        rintro ge w4 ⟨rfl, hb4⟩
        have hr4 := hrV.on hb4 hrV.lt
        have hB4 := below_then hbV1 hb4
        have hk4 := h51.on hb4 h51.lt
        have HI4 : Hid (KIn (fun b => W.heap.size ≤ b ∧ b < w4.heap.size) 5 w4 (.slice a (itK x).length cp) (itK x)) := by
          have e1 := h31.size
          have e2 := hb4.size
          exact ((HIN.out.1.kept (w' := V1) fun b hb => h31.block b hb.2).kept (w' := w4) fun b hb => hb4.block b (by have := hb.2; omega)).more fun b hb => ⟨hb.1, by have := hb.2; omega⟩
        clear hrV hbV1 hb4 h51 k0 k1 k2 h31 HTV
        have p0 := hk4.cell 0
        have p1 := hk4.cell 1
        have p2 := hk4.cell 2
        go_wp2_with (refine store_blkS (cs' := #[.bool false, .string ⟨#[]⟩, .slice none 0 0]) rfl rfl rfl rfl rfl hr4 infoIt rfl (onesIt _ _ _ _ _) ?_; intro V h5 hall hoth hbel; have hbV := hbel _ _ (Nat.le_refl _) hB4; have hbV2 := hbel w.heap.size w4 (Nat.le_refl _) (Below.refl _ _); clear hoth hbel)
        refine bodyPost_ret_by (result_It2 rfl rfl rfl h5 Try.underlying26 infoIt) rfl ⟨hbV, by rw [HR2.out]; rfl⟩
  · have h9' : 900 < t.size := by omega
    have HR2 : Hid (readI t = none) := by show _ = _; unfold readI; rw [if_neg h9]
    generalize readI t = R at HR2 ⊢
    go_enter Try.func15, Try.ntmps15
    go_wp2_with (refine store_blk (cs' := #[.bool false, .string ⟨#[]⟩, .slice none 0 0]) rfl rfl rfl rfl rfl hr infoIt rfl (onesIt _ _ _ _ _) ?_; intro V h5 hoth hbel; have hbV := hbel _ _ (Nat.le_refl _) hbW; clear hoth hbel)
    refine bodyPost_ret_by (result_It2 rfl rfl rfl h5 Try.underlying26 infoIt) rfl ⟨hbV, by rw [HR2.out]; rfl⟩

end Go.Proofs.Ytmpjnabadplbjaa
