/-
  The walk of the specification's heads: what is read.
  (-DROP-: what the seat lacks is left out.)
-/
import Derived.Test.YtlaoikpbgbckjaaDoorHeadS
import Derived.Test.YtlaoikpbgbckjaaDoorOrd
namespace Go.Proofs.YtlaoikpbgbckjaaDoor
open Go.RowKit

/-- A result that lives in a block, and one in a slot. -/
theorem result_hT {P : Program} {fn : Func} {p q : Tmp} {ty t : TypeId} {fs : Array Field} (h : fn.results = #[.cell p ty, .tmp q]) {tmps : Array Value} {w : World} {g : Nat} {cs : Array Value} {v : Value} (hp : tmps.getD p undef = .pointer (some ⟨g, 0, none⟩)) (hq : tmps.getD q undef = v)
    (hA : Blk w g t cs) (hu : P.underlying ty = some (.struct fs)) (hi : (P.info? ty).map (·.size) = some cs.size) : (results fn tmps).run P w = .ok (.tuple #[.agg cs, v]) w := by
  have hl := hA.load hu hi
  have hp' : tmps[p]?.getD undef = .pointer (some ⟨g, 0, none⟩) := by simpa using hp
  have hq' : tmps[q]?.getD undef = v := by simpa using hq
  simp [results, h, hp', hq', asAddr, hl, Result.andThen]

theorem cut_rest (s : ByteArray) (a : Nat) (h : a ≤ s.size) (z : Int) (hz : z = (a : Int)) (wx : World) :
    (Instr.slice 9 (.string s) (some (.int .i64 z)) none none).run Tryd.prog wx = .ok (.string (s.extract a s.size)) wx := by
  subst hz
  have := run_slice_string_l (P := Tryd.prog) wx 9 s Tryd.underlying9 .i64 (a : Int) (by omega) (by omega)
  simpa using this

/-- What is read, as a value. -/
abbrev hrv (r : Hd × Bool) : Value := .tuple #[hv r.1, .bool r.2]

set_option maxHeartbeats 1600000 in
set_option maxRecDepth 100000 in
theorem sReadHead_any (t : ByteArray) (ht : t.size ≤ 1048576) (w : World) :
    Calls Tryd.prog 11 #[.string t] w fun e w' => e = .returned (hrv (rdHead t)) ∧ Below w.heap.size w w' := by
  have HR : Hid (∀ w, Calls Tryd.prog 34 #[.string t, .int .i64 0] w fun e w' => e = .returned (ret3 (rdAt t 0)) ∧ Below w.heap.size w w') := fun w => sReadVar_ok t 0 ht (Nat.zero_le _) w
  obtain ⟨W, hW, hb, hr⟩ := box1 w 25 #[.int .i64 0, .string ⟨#[]⟩, .string ⟨#[]⟩, .string ⟨#[]⟩]
  cases hx : rdAt t 0 with
  | none =>
    rw [hx] at HR
    have HV : Hid (rdHead t = (hZ, false)) := by
      show rdHead t = _
      unfold rdHead
      rw [hx]
    rw [HV.out]
    clear HV hx
    unfold ret3 at HR
    go_enter Tryd.func11, Tryd.ntmps11
    go_wp2_with fail
    clear hW
    refine (HR.out _).mono ?_
    rintro e w1 ⟨rfl, hb1⟩
    have hr1 := hr.on hb1 hr.lt
    have hB := below_then hb hb1
    clear hr hb hb1
    go_wp2_with (refine store_blk (cs' := #[.int .i64 0, .string ⟨#[]⟩, .string ⟨#[]⟩, .string ⟨#[]⟩]) rfl rfl rfl rfl rfl hr1 infoH rfl (ones4 hZ) ?_; intro V h5 hoth hbel; have hbV := hbel _ _ (by omega) hB; clear hoth hbel)
    refine bodyPost_ret_by (result_hT rfl rfl rfl h5 Tryd.underlying25 infoH) rfl ⟨rfl, hbV⟩
  | some x =>
    obtain ⟨n, j⟩ := x
    obtain ⟨hj, hn⟩ := rdAt_bound (Nat.zero_le _) hx
    rw [hx] at HR
    unfold ret3 at HR
    have hwj : IntKind.i64.wrap ((j : Int) + 96) = (j : Int) + 96 := IntWalk.i64_in _ (by omega)
    by_cases hs : t.size = j + 96
    · have HV : Hid (rdHead t = if hOkB (hCut t n j) = true then (hCut t n j, true) else (hZ, false)) := by
        show rdHead t = _
        unfold rdHead
        rw [hx]
        simp only
        rw [if_pos hs]
      have HO : Hid (∀ w, Calls Tryd.prog 16 #[hv (hCut t n j)] w fun e w' => e = .returned (.bool (hOkB (hCut t n j))) ∧ Below w.heap.size w w') := sHeadOk_any _
      have hs1 := cut_text t j (j + 32) (by omega) (by omega) ((j : Int) + 32) (by omega)
      have hs2' := cut_text t (j + 32) (j + 64) (by omega) (by omega) ((j : Int) + 64) (by omega)
      have hs2 : ∀ wx, (Instr.slice 9 (.string t) (some (.int .i64 ((j : Int) + 32))) (some (.int .i64 ((j : Int) + 64))) none).run Tryd.prog wx = .ok (.string (t.extract (j + 32) (j + 64))) wx := fun wx => by
        have := hs2' wx
        rw [show ((j + 32 : Nat) : Int) = (j : Int) + 32 by omega] at this
        exact this
      have hs3 := cut_rest t (j + 64) (by omega) ((j : Int) + 64) (by omega)
      have hw32 : IntKind.i64.wrap ((j : Int) + 32) = (j : Int) + 32 := IntWalk.i64_in _ (by omega)
      have hw64 : IntKind.i64.wrap ((j : Int) + 64) = (j : Int) + 64 := IntWalk.i64_in _ (by omega)
      have hsi : (t.size : Int) = (j : Int) + 96 := by omega
      unfold hCut hv hc at HO
      simp only at HO
      generalize hq : hOkB (hCut t n j) = q at HV
      have HO' : Hid (∀ w, Calls Tryd.prog 16 #[.agg #[.int .i64 (n : Int), .string (t.extract j (j + 32)), .string (t.extract (j + 32) (j + 64)), .string (t.extract (j + 64) t.size)]] w fun e w' => e = .returned (.bool q) ∧ Below w.heap.size w w') := by rw [← hq]; exact HO.out
      have HCT : Hid (hCut t n j = ((n : Int), t.extract j (j + 32), t.extract (j + 32) (j + 64), t.extract (j + 64) t.size)) := rfl
      clear HO hq hx hs2'
      generalize t.extract j (j + 32) = a at hs1 HO' HCT
      generalize t.extract (j + 32) (j + 64) = b at hs2 HO' HCT
      generalize t.extract (j + 64) t.size = c at hs3 HO' HCT
      cases q
      · simp only [Bool.false_eq_true, if_false] at HV
        rw [HV.out]
        clear HV HCT hs
        go_enter Tryd.func11, Tryd.ntmps11
        go_wp2_with fail
        clear hW
        refine (HR.out _).mono ?_
        rintro e w1 ⟨rfl, hb1⟩
        have hr1 := hr.on hb1 hr.lt
        have hB := below_then hb hb1
        clear hr hb hb1 HR
        go_wp2_with fail
        refine wp_region_made 17 mixes (by kernel_rfl) rfl rfl (fun a w => by go_simp <;> rfl) ?_
        simp only [List.take_succ_cons, List.take_zero, List.drop_succ_cons, List.drop_zero]
        repeat (refine bel_step rfl (fun K hK => ⟨_, (fun w' hw => by go_simp; exact rfl), ?_⟩); go_simp; refine hK _ ?_; clear hK K)
        refine bel_nil ?_
        intro gn w' hw hgn hnew
        refine frame_out fun K hK => ?_
        go_simp
        refine hK _ ?_
        clear hK K
        have hl1 : w.heap.size < w1.heap.size := hr1.lt
        have hr2 := hr1.on hw hr1.lt
        have hB2 := below_then hB hw
        clear hr1 hB hs1 hs2 hs3
        refine store_blk (cs' := #[.int .i64 (n : Int), .string a, .string b, .string c]) rfl rfl rfl rfl rfl hnew infoH rfl (ones4 ((n : Int), a, b, c)) ?_
        intro V hn5 hoth hbel
        have hr3 := hoth _ _ _ (by omega) hr2
        have hB3 := hbel _ _ (by omega) hB2
        clear hoth hbel hnew hr2 hB2 hw
        go_wp2_with (refine load_blk rfl rfl rfl hn5 Tryd.underlying25 infoH ?_)
        refine (HO'.out _).mono ?_
        rintro e w5 ⟨rfl, hb5⟩
        have hr4 := hr3.on hb5 hr3.lt
        have hB4 := below_then hB3 hb5
        clear hr3 hB3 hb5 hn5
        go_wp2_with (refine store_blk (cs' := #[.int .i64 0, .string ⟨#[]⟩, .string ⟨#[]⟩, .string ⟨#[]⟩]) rfl rfl rfl rfl rfl hr4 infoH rfl (ones4 hZ) ?_; intro V2 h5 hoth hbel; have hbV := hbel _ _ (by omega) hB4; clear hoth hbel)
        refine bodyPost_ret_by (result_hT rfl rfl rfl h5 Tryd.underlying25 infoH) rfl ⟨rfl, hbV⟩
      · simp only [if_true] at HV
        rw [HV.out, HCT.out]
        clear HV HCT hs
        go_enter Tryd.func11, Tryd.ntmps11
        go_wp2_with fail
        clear hW
        refine (HR.out _).mono ?_
        rintro e w1 ⟨rfl, hb1⟩
        have hr1 := hr.on hb1 hr.lt
        have hB := below_then hb hb1
        clear hr hb hb1 HR
        go_wp2_with fail
        refine wp_region_made 17 mixes (by kernel_rfl) rfl rfl (fun a w => by go_simp <;> rfl) ?_
        simp only [List.take_succ_cons, List.take_zero, List.drop_succ_cons, List.drop_zero]
        repeat (refine bel_step rfl (fun K hK => ⟨_, (fun w' hw => by go_simp; exact rfl), ?_⟩); go_simp; refine hK _ ?_; clear hK K)
        refine bel_nil ?_
        intro gn w' hw hgn hnew
        refine frame_out fun K hK => ?_
        go_simp
        refine hK _ ?_
        clear hK K
        have hl1 : w.heap.size < w1.heap.size := hr1.lt
        have hr2 := hr1.on hw hr1.lt
        have hB2 := below_then hB hw
        clear hr1 hB hs1 hs2 hs3
        refine store_blk (cs' := #[.int .i64 (n : Int), .string a, .string b, .string c]) rfl rfl rfl rfl rfl hnew infoH rfl (ones4 ((n : Int), a, b, c)) ?_
        intro V hn5 hoth hbel
        have hr3 := hoth _ _ _ (by omega) hr2
        have hB3 := hbel _ _ (by omega) hB2
        clear hoth hbel hnew hr2 hB2 hw
        go_wp2_with (refine load_blk rfl rfl rfl hn5 Tryd.underlying25 infoH ?_)
        refine (HO'.out _).mono ?_
        rintro e w5 ⟨rfl, hb5⟩
        have hr4 := hr3.on hb5 hr3.lt
        have hn6 := hn5.on hb5 hn5.lt
        have hB4 := below_then hB3 hb5
        clear hr3 hB3 hb5 hn5
        go_wp2_with (first | (refine load_blk rfl rfl rfl hn6 Tryd.underlying25 infoH ?_) | (refine store_blk (cs' := #[.int .i64 (n : Int), .string a, .string b, .string c]) rfl rfl rfl rfl rfl hr4 infoH rfl (ones4 ((n : Int), a, b, c)) ?_; intro V2 h5 hoth hbel; have hbV := hbel _ _ (by omega) hB4; clear hoth hbel))
        refine bodyPost_ret_by (result_hT rfl rfl rfl h5 Tryd.underlying25 infoH) rfl ⟨rfl, hbV⟩
    · have HV : Hid (rdHead t = (hZ, false)) := by
        show rdHead t = _
        unfold rdHead
        rw [hx]
        simp only
        rw [if_neg hs]
      rw [HV.out]
      have hsi : ((t.size : Int) == (j : Int) + 96) = false := by rw [beq_eq_false_iff_ne]; omega
      clear HV hx hs
      go_enter Tryd.func11, Tryd.ntmps11
      go_wp2_with fail
      clear hW
      refine (HR.out _).mono ?_
      rintro e w1 ⟨rfl, hb1⟩
      have hr1 := hr.on hb1 hr.lt
      have hB := below_then hb hb1
      clear hr hb hb1
      go_wp2_with (refine store_blk (cs' := #[.int .i64 0, .string ⟨#[]⟩, .string ⟨#[]⟩, .string ⟨#[]⟩]) rfl rfl rfl rfl rfl hr1 infoH rfl (ones4 hZ) ?_; intro V h5 hoth hbel; have hbV := hbel _ _ (by omega) hB; clear hoth hbel)
      refine bodyPost_ret_by (result_hT rfl rfl rfl h5 Tryd.underlying25 infoH) rfl ⟨rfl, hbV⟩

end Go.Proofs.YtlaoikpbgbckjaaDoor
