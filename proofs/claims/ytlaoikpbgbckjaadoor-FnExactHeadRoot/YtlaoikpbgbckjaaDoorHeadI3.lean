/-
  The walk of the program's heads: what is read.
  (-DROP-: what the seat lacks is left out.)
-/
import Derived.Test.YtlaoikpbgbckjaaDoorHeadI2
namespace Go.Proofs.YtlaoikpbgbckjaaDoor
open Go.RowKit

set_option maxHeartbeats 1600000 in
set_option maxRecDepth 100000 in
theorem iReadHead_any (t : ByteArray) (ht : t.size ≤ 1048576) (w : World) :
    Calls Tryd.prog 9 #[.string t] w fun e w' => e = .returned (hrv (rdHead t)) ∧ Below w.heap.size w w' := by
  have HR : Hid (∀ w, Calls Tryd.prog 29 #[.string t, .int .i64 0] w fun e w' => e = .returned (ret3 (rdAt t 0)) ∧ w = w') := fun w => iReadVar_ok t 0 ht (Nat.zero_le _) w
  obtain ⟨W, hW, hb, hr⟩ := box1 w 25 #[.int .i64 0, .string ⟨#[]⟩, .string ⟨#[]⟩, .string ⟨#[]⟩]
  cases hx : rdAt t 0 with
  | none =>
    rw [hx] at HR
    have HV : Hid (rdHead t = (hZ, false)) := by
      show rdHead t = _
      unfold rdHead
      rw [hx]
    rw [HV.out]
    clear HV hx
    unfold ret3 at HR
    go_enter Tryd.func9, Tryd.ntmps9
    go_wp2_with fail
    clear hW
    refine (HR.out _).mono ?_
    rintro e w1 ⟨rfl, rfl⟩
    go_wp2_with (refine store_blk (cs' := #[.int .i64 0, .string ⟨#[]⟩, .string ⟨#[]⟩, .string ⟨#[]⟩]) rfl rfl rfl rfl rfl hr infoH rfl (ones4 hZ) ?_; intro V h5 hoth hbel; have hbV := hbel _ _ (by omega) hb; clear hoth hbel)
    refine bodyPost_ret_by (result_hT rfl rfl rfl h5 Tryd.underlying25 infoH) rfl ⟨rfl, hbV⟩
  | some x =>
    obtain ⟨n, j⟩ := x
    obtain ⟨hj, hn⟩ := rdAt_bound (Nat.zero_le _) hx
    rw [hx] at HR
    unfold ret3 at HR
    have hwj : IntKind.i64.wrap ((t.size : Int) - (j : Int)) = (t.size : Int) - (j : Int) := IntWalk.i64_in _ (by omega)
    by_cases hs : t.size = j + 96
    · have HV : Hid (rdHead t = if hOkB (hCut t n j) = true then (hCut t n j, true) else (hZ, false)) := by
        show rdHead t = _
        unfold rdHead
        rw [hx]
        simp only
        rw [if_pos hs]
      have HO : Hid (∀ w, Calls Tryd.prog 17 #[hv (hCut t n j)] w fun e w' => e = .returned (.bool (hOkB (hCut t n j))) ∧ Below w.heap.size w w') := iHeadOk_any _
      have HA : Hid (∀ w, Calls Tryd.prog 30 #[.string t, .int .i64 (j : Int)] w fun e w' => e = .returned (.string (t.extract j (j + 32))) ∧ Below w.heap.size w w') := digestAt_any t j _ rfl (by omega) ht
      have HB : Hid (∀ w, Calls Tryd.prog 30 #[.string t, .int .i64 ((j : Int) + 32)] w fun e w' => e = .returned (.string (t.extract (j + 32) (j + 64))) ∧ Below w.heap.size w w') := digestAt_any t (j + 32) _ (by omega) (by omega) ht
      have HC : Hid (∀ w, Calls Tryd.prog 30 #[.string t, .int .i64 ((j : Int) + 64)] w fun e w' => e = .returned (.string (t.extract (j + 64) t.size)) ∧ Below w.heap.size w w') := by rw [hs]; exact digestAt_any t (j + 64) _ (by omega) (by omega) ht
      have hw32 : IntKind.i64.wrap ((j : Int) + 32) = (j : Int) + 32 := IntWalk.i64_in _ (by omega)
      have hw64 : IntKind.i64.wrap ((j : Int) + 64) = (j : Int) + 64 := IntWalk.i64_in _ (by omega)
      have hsi : (t.size : Int) - (j : Int) = 96 := by omega
      unfold hCut hv hc at HO
      simp only at HO
      generalize hq : hOkB (hCut t n j) = q at HV
      have HO' : Hid (∀ w, Calls Tryd.prog 17 #[.agg #[.int .i64 (n : Int), .string (t.extract j (j + 32)), .string (t.extract (j + 32) (j + 64)), .string (t.extract (j + 64) t.size)]] w fun e w' => e = .returned (.bool q) ∧ Below w.heap.size w w') := by rw [← hq]; exact HO.out
      have HCT : Hid (hCut t n j = ((n : Int), t.extract j (j + 32), t.extract (j + 32) (j + 64), t.extract (j + 64) t.size)) := rfl
      clear HO hq hx
      generalize t.extract j (j + 32) = a at HA HO' HCT
      generalize t.extract (j + 32) (j + 64) = b at HB HO' HCT
      generalize t.extract (j + 64) t.size = c at HC HO' HCT
      obtain ⟨Rv, hRv⟩ : ∃ r, r = rdHead t := ⟨_, rfl⟩
      have HV2 : Hid (Rv = if q = true then (hCut t n j, true) else (hZ, false)) := by rw [hRv]; exact HV
      rw [← hRv]
      clear HV hs hRv
      go_enter Tryd.func9, Tryd.ntmps9
      go_wp2_with fail
      clear hW
      refine (HR.out _).mono ?_
      rintro e w1 ⟨rfl, rfl⟩
      clear HR
      go_wp2_with fail
      refine (HA.out _).mono ?_
      rintro e w2 ⟨rfl, hb2⟩
      have hr2 := hr.on hb2 hr.lt
      have hB2 := below_then hb hb2
      clear hr hb hb2
      go_wp2_with fail
      refine (HB.out _).mono ?_
      rintro e w3 ⟨rfl, hb3⟩
      have hr3 := hr2.on hb3 hr2.lt
      have hB3 := below_then hB2 hb3
      clear hr2 hB2 hb3
      go_wp2_with fail
      refine (HC.out _).mono ?_
      rintro e w4 ⟨rfl, hb4⟩
      have hr4 := hr3.on hb4 hr3.lt
      have hB4 := below_then hB3 hb4
      clear hr3 hB3 hb4 HA HB HC
      go_wp2_with fail
      obtain ⟨V, hV, hbV, hxV⟩ := box1 w4 25 #[.int .i64 (n : Int), .string a, .string b, .string c]
      rw [hV]
      have hr5 := hr4.on hbV hr4.lt
      have hB5 := below_then hB4 hbV
      clear hV hr4 hB4 hbV
      refine (HO'.out _).mono ?_
      rintro e w6 ⟨rfl, hb6⟩
      have hr6 := hr5.on hb6 hr5.lt
      have hx6 := hxV.on hb6 hxV.lt
      have hB6 := below_then hB5 hb6
      clear hr5 hB5 hb6 hxV HO'
      cases q
      · have HV3 : Hid (Rv = (hZ, false)) := (show Rv = (hZ, false) by have := HV2.out; simpa using this)
        clear HV2 HCT
        go_wp2_with (refine store_blk (cs' := #[.int .i64 0, .string ⟨#[]⟩, .string ⟨#[]⟩, .string ⟨#[]⟩]) rfl rfl rfl rfl rfl hr6 infoH rfl (ones4 hZ) ?_; intro V2 h5 hoth hbel; have hbV := hbel _ _ (by omega) hB6; clear hoth hbel)
        refine bodyPost_ret_by (result_hT rfl rfl rfl h5 Tryd.underlying25 infoH) rfl ⟨by rw [HV3.out]; rfl, hbV⟩
      · have HV3 : Hid (Rv = (((n : Int), a, b, c), true)) := (show Rv = (((n : Int), a, b, c), true) by have := HV2.out; rw [HCT.out] at this; simpa using this)
        clear HV2 HCT
        go_wp2_with (first | (refine load_blk rfl rfl rfl hx6 Tryd.underlying25 infoH ?_) | (refine store_blk (cs' := #[.int .i64 (n : Int), .string a, .string b, .string c]) rfl rfl rfl rfl rfl hr6 infoH rfl (ones4 ((n : Int), a, b, c)) ?_; intro V2 h5 hoth hbel; have hbV := hbel _ _ (by omega) hB6; clear hoth hbel))
        refine bodyPost_ret_by (result_hT rfl rfl rfl h5 Tryd.underlying25 infoH) rfl ⟨by rw [HV3.out]; rfl, hbV⟩
    · have HV : Hid (rdHead t = (hZ, false)) := by
        show rdHead t = _
        unfold rdHead
        rw [hx]
        simp only
        rw [if_neg hs]
      rw [HV.out]
      have hsi : ((t.size : Int) - (j : Int) != 96) = true := by rw [bne_iff_ne]; omega
      clear HV hx hs
      go_enter Tryd.func9, Tryd.ntmps9
      go_wp2_with fail
      clear hW
      refine (HR.out _).mono ?_
      rintro e w1 ⟨rfl, rfl⟩
      go_wp2_with (refine store_blk (cs' := #[.int .i64 0, .string ⟨#[]⟩, .string ⟨#[]⟩, .string ⟨#[]⟩]) rfl rfl rfl rfl rfl hr infoH rfl (ones4 hZ) ?_; intro V h5 hoth hbel; have hbV := hbel _ _ (by omega) hb; clear hoth hbel)
      refine bodyPost_ret_by (result_hT rfl rfl rfl h5 Tryd.underlying25 infoH) rfl ⟨rfl, hbV⟩

end Go.Proofs.YtlaoikpbgbckjaaDoor
