/-
  Texts of one's own, joined.
-/
import Derived.Test.YtjlijflfepffiaaLsHelp
import Derived.Test.YtjlijflfepffiaaRwHelp2
import Derived.Test.YtjlijflfepffiaaJoined46
import Derived.Test.YtjlijflfepffiaaRwDraw2
import Derived.Test.YtjlijflfepffiaaJoined49

/-
  The walk of the helper of the exact laws that copies a list of lists of numbers.
  (-DROP-: what the seat lacks is left out.)
-/
namespace Go.Proofs.Ytjlijflfepffiaa
open Go.RowKit

theorem infoLs : (Try.prog.info? 27).map (fun i => (i.zero, i.size, i.bytes)) = some (some (.slice none 0 0), 1, 24) := by kernel_rfl
/-- So many empty lists. -/
def nil1 (n : Nat) : Array Value := (List.replicate n (Value.slice none 0 0)).toArray
/-- make([][]int, n). -/
theorem make_ls (n : Nat) (h2 : n ≤ 1073741824) (W : World) :
    (Instr.makeSlice 39 (.int .i64 (n : Int)) (.int .i64 (n : Int))).run Try.prog W = .ok (.slice (some ⟨W.heap.size, 0, none⟩) n n) (W.alloc (.cells (nil1 n) 27)) := by
  obtain ⟨i0, hi, hz0, hz1, hz2⟩ := info_parts infoLs
  have hM : madeCells (Value.slice none 0 0).cells ((n : Int).toNat * i0.size) = nil1 n := by
    rw [hz1]
    have h3 := toList_madeCells_one (.slice none 0 0) n
    apply Array.toList_inj.1
    simpa [nil1, Value.cells] using h3
  have h := run_make (P := Try.prog) W 39 27 i0 (.slice none 0 0) Try.underlying39 hi hz0 .i64 .i64 (n : Int) (n : Int) (by omega) (by omega) (by rw [hz2]; omega) (by omega)
  rw [hM] at h
  simpa using h
theorem nown_made1 (w : World) (n : Nat) (hn : n ≤ 1048576) : NOwnV 1 27 w.heap.size (w.heap.size + 1) (w.alloc (.cells (nil1 n) 27)) (.slice (some ⟨w.heap.size, 0, none⟩) n n) n (List.replicate n (.slice none 0 0)) (List.replicate n []) := by
  have hv : ∀ j, j < n * 1 → (List.replicate n (Value.slice none 0 0)).getD j undef = .slice none 0 0 := fun j hj => by simp [show j < n by omega]
  refine ⟨?_, by simp, fun k hk => ?_, fun j hj => ?_, fun i j k h1 h2 h3 h4 => ?_, fun j k h1 h2 => ?_⟩
  · have h := World.ownsRow_lit (base := w.heap.size) (e := 27) (size := 1) w (nil1 n) n (Nat.le_refl _) (by unfold maxLen; omega) (by simp [nil1])
    simpa [nil1] using h
  · have e1 : some w.heap.size = some k := hk
    injection e1 with e1
    omega
  · rw [hv j hj]
    have : (List.replicate n ([] : List Int)).getD j [] = [] := by simp [show j < n by omega]
    rw [this]
    exact zown_nil _ _ _
  · rw [hv i h1] at h4; cases h4
  · rw [hv j h1] at h2; cases h2
theorem take_put (L : List (List Int)) {n k : Nat} (hn : L.length = n) (hk : k < n) : (L.take k ++ List.replicate (n - k) []).set k (L.getD k []) = L.take (k + 1) ++ List.replicate (n - (k + 1)) [] := by
  have hl : (L.take k).length = k := by simp; omega
  rw [List.set_append_right _ _ (by omega), hl, Nat.sub_self, show n - k = n - (k + 1) + 1 by omega, List.replicate_succ, List.set_cons_zero, List.take_succ_eq_append_getElem (by omega), List.append_assoc]
  simp [show k < L.length by omega]

set_option maxHeartbeats 1600000 in
set_option maxRecDepth 100000 in
theorem toLs_any (v : Value) (n : Nat) (L : List (List Int)) (hn : n ≤ 1048576) (hz : ∀ j, (L.getD j []).length ≤ 1048576) (w : World) (h : NAt 1 w w.heap.size v n L) :
    Calls Try.prog 37 #[v] w fun e w' => ∃ u vs, e = .returned u ∧ NOwnV 1 27 w.heap.size w'.heap.size w' u n vs L ∧ Below w.heap.size w w' := by
  obtain ⟨hlen, a, cp, rfl, hA⟩ := h
  have HA : Hid (∀ j, j < n * 1 → ∃ b off u, a = some ⟨b, off, none⟩ ∧ b < w.heap.size ∧ w.cell? ⟨b, off + j, none⟩ = some u ∧ ZAt w w.heap.size u (L.getD j [])) := hA
  have HZ : Hid (∀ j, (L.getD j []).length ≤ 1048576) := hz
  have HLN : Hid (L.length = n) := by show _ = _; omega
  have hmk : ∀ W : World, (Instr.makeSlice 39 (.int .i64 (n : Int)) (.int .i64 (n : Int))).run Try.prog W = .ok (.slice (some ⟨W.heap.size, 0, none⟩) n n) (W.alloc (.cells (nil1 n) 27)) := fun W => make_ls n (by omega) W
  have H0 : Hid (NOwnV 1 27 w.heap.size (w.alloc (.cells (nil1 n) 27)).heap.size (w.alloc (.cells (nil1 n) 27)) (.slice (some ⟨w.heap.size, 0, none⟩) n n) n (List.replicate n (.slice none 0 0)) (L.take 0 ++ List.replicate (n - 0) [])) := by
    have h := nown_made1 w n hn
    rw [List.take_zero, List.nil_append, Nat.sub_zero]
    rw [show (w.alloc (.cells (nil1 n) 27)).heap.size = w.heap.size + 1 by simp]
    exact h
  generalize nil1 n = M at hmk H0
  clear hA hz hlen
  go_enter Try.func37, Try.ntmps37
  go_wp2
  go_loopw [4] (fun i wr => ∃ (k : Nat) (vs : List Value), i = .int .i64 (k : Int) ∧ k ≤ n ∧ Hid (NOwnV 1 27 w.heap.size wr.heap.size wr (.slice (some ⟨w.heap.size, 0, none⟩) n n) n vs (L.take k ++ List.replicate (n - k) [])) ∧ Hid (Below w.heap.size w wr)) (fun i _ => n - (intOf i).toNat)
  case atStart => exact ⟨0, _, rfl, Nat.zero_le _, H0, (Below.refl _ _).alloc (Nat.le_refl _) _⟩
  case round =>
    obtain ⟨k, vs, rfl, hk, HO, HW⟩ := hrel
    clear hmk H0
    by_cases hlt : k < n
    · have hlt' : (k : Int) < (n : Int) := by omega
      have hk0 : (0 : Int) ≤ (k : Int) := by omega
      obtain ⟨b1, o1, v1, rfl, hb1, c1, z1⟩ := HA.out k (by omega)
      have c2 : wr.cell? ⟨b1, o1 + k, none⟩ = some v1 := (HW.out.cell (p := ⟨b1, o1 + k, none⟩) hb1).trans c1
      have CT : Hid (Calls Try.prog 38 #[v1] wr fun e w' => ∃ u, e = .returned u ∧ ZOwn wr.heap.size w'.heap.size w' u (L.getD k []) ∧ Below wr.heap.size wr w') := (toZ_any v1 _ (HZ.out k) wr ((z1.on HW.out).wide HW.out.size)).mono fun e w' ⟨g, h1, h2, h3⟩ => ⟨_, h1, h2, h3⟩
      obtain ⟨v1a, v1c, hv1, _⟩ := z1
      subst hv1
      generalize (L.getD k []).length = l1 at c2 CT
      clear c1 hb1
      go_wp2_with fail
      refine CT.out.mono ?_
      rintro e w1 ⟨u, rfl, hu, hb⟩
      have hO1 := HO.out.same (w' := w1) (Same.of_below hb (Nat.le_refl _))
      have hs1 : wr.heap.size ≤ w1.heap.size := hb.size
      have hcc := hO1.cell (j := k) (by omega)
      have hff : w1.frozen? ⟨w.heap.size, k, none⟩ = false := by
        rcases hO1.row.2 with ⟨_, hz⟩ | ⟨g', c', cur, hve, _, hh, _⟩
        · omega
        · injection hve with e1
          injection e1 with e1
          injection e1 with e1
          subst e1
          exact frozen_of_row w1 _ k _ _ hh
      have hput := hO1.put (j := k) (by omega) hu hs1 HW.out.size
      rw [take_put L HLN.out hlt] at hput
      obtain ⟨ua, uc, hue⟩ := row_form hu.1
      subst hue
      have HW1 : Hid (Below w.heap.size w (w1.setCell ⟨w.heap.size, k, none⟩ (.slice ua (L.getD k []).length uc))) := (HW.out.trans (hb.mono HW.out.size)).setCell (Nat.le_refl _) _
      have HP : Hid (NOwnV 1 27 w.heap.size (w1.setCell ⟨w.heap.size, k, none⟩ (.slice ua (L.getD k []).length uc)).heap.size (w1.setCell ⟨w.heap.size, k, none⟩ (.slice ua (L.getD k []).length uc)) (.slice (some ⟨w.heap.size, 0, none⟩) n n) n (vs.set k (.slice ua (L.getD k []).length uc)) (L.take (k + 1) ++ List.replicate (n - (k + 1)) [])) := by
        rw [show (w1.setCell ⟨w.heap.size, k, none⟩ (.slice ua (L.getD k []).length uc)).heap.size = w1.heap.size by simp [World.setCell]]
        exact hput
      generalize vs.getD k undef = old at hcc
      generalize (L.getD k []).length = l2 at HW1 HP ⊢
      clear hput hO1 hu hb HO HW CT c2
      go_wp2
      go_roundw
      case rel => exact ⟨k + 1, _, by go_num, hlt, HP, HW1⟩
      case measure => simp [intOf]; omega
    · have hlt' : ¬ (k : Int) < (n : Int) := by omega
      obtain rfl : n = k := by omega
      have HO2 : Hid (NOwnV 1 27 w.heap.size wr.heap.size wr (.slice (some ⟨w.heap.size, 0, none⟩) n n) n vs L) := by
        have h1 := HO.out
        rw [← HLN.out, List.take_length, Nat.sub_self, List.replicate_zero, List.append_nil] at h1
        rw [← HLN.out]
        exact h1
      clear HO
      go_wp2
      go_ret
      exact ⟨_, rfl, ⟨vs, HO2.out⟩, HW.out⟩

end Go.Proofs.Ytjlijflfepffiaa

/-
  The draws of right systems, of systems with a place, of what is mixed.
  (-DROP-: what the seat lacks is left out.)
-/
namespace Go.Proofs.Ytjlijflfepffiaa
open Go.RowKit

/-- A result that lives in a block, and two in slots. -/
theorem result_Btt {P : Program} {fn : Func} {p q r : Tmp} {ty t : TypeId} {fs : Array Field} (h : fn.results = #[.cell p ty, .tmp q, .tmp r]) {tmps : Array Value} {w : World} {g : Nat} {cs : Array Value} {v u : Value} (hp : tmps.getD p undef = .pointer (some ⟨g, 0, none⟩)) (hq : tmps.getD q undef = v) (hr : tmps.getD r undef = u)
    (hA : Blk w g t cs) (hu : P.underlying ty = some (.struct fs)) (hi : (P.info? ty).map (·.size) = some cs.size) : (results fn tmps).run P w = .ok (.tuple #[.agg cs, v, u]) w := by
  have hl := hA.load hu hi
  have hp' : tmps[p]?.getD undef = .pointer (some ⟨g, 0, none⟩) := by simpa using hp
  have hq' : tmps[q]?.getD undef = v := by simpa using hq
  have hr' : tmps[r]?.getD undef = u := by simpa using hr
  simp [results, h, hp', hq', hr', asAddr, hl, Result.andThen]

/-- What the draw of a right system leaves. -/
def SysDEnd (w : World) (e : Ending) (w' : World) : Prop := ∃ (wi pu : Int) (v u : Value) (n : Nat) (ls : List (List Int)) (m : List Int), e = .returned (.tuple #[sysV wi pu v, u]) ∧ Drawn wi pu n ls m ∧ Right wi pu n ls m ∧ NAt 3 w' w'.heap.size v n ls ∧ ZAt w' w'.heap.size u m ∧ Below w.heap.size w w'
/-- What the draw of a system with a place leaves. -/
def HoldsEnd (w : World) (e : Ending) (w' : World) : Prop := ∃ (wi pu : Int) (v u : Value) (n : Nat) (ls : List (List Int)) (m : List Int) (x : Int), e = .returned (.tuple #[sysV wi pu v, u, .int .i64 x]) ∧ (Lit.int .i64 wi).wf = true ∧ n ≤ 16 ∧ (∀ j, (ls.getD j []).length ≤ 16) ∧ m.length ≤ 16 ∧ NAt 3 w' w'.heap.size v n ls ∧ ZAt w' w'.heap.size u m ∧ Below w.heap.size w w'
/-- What the draw of what is mixed leaves. -/
def MixDEnd (w : World) (e : Ending) (w' : World) : Prop := ∃ (v : Option Addr) (cp : Nat) (u : Value) (L : List (List Int)) (m : List Int), e = .returned (.tuple #[.slice v L.length cp, u]) ∧ L.length ≤ 5 ∧ L.length ≤ cp ∧ (∀ j, (L.getD j []).length ≤ 65) ∧ m.length ≤ 5 ∧ NAt 1 w' w'.heap.size (.slice v L.length cp) L.length L ∧ ZAt w' w'.heap.size u m ∧ Below w.heap.size w w'

set_option maxHeartbeats 1600000 in
set_option maxRecDepth 100000 in
theorem systemD_any (len cap : Nat) (a : Option Addr) (hm : len ≤ 1048576) (w : World) (hA : ArgAt w a len w.heap.size) :
    Calls Try.prog 10 #[.slice a len cap] w fun e w' => SysDEnd w e w' := by
  obtain ⟨W, hW, hb, hr⟩ := box1 w 26 #[.int .i64 0, .int .i64 0, .slice none 0 0]
  have HA : Hid (ArgAt W a len W.heap.size) := fun j hj => by
    obtain ⟨b, off, z, h1, h2, h3⟩ := (hA.on hb) j hj
    exact ⟨b, off, z, h1, Nat.lt_of_lt_of_le h2 hb.size, h3⟩
  have H0 : Hid (Below w.heap.size w W ∧ Blk W w.heap.size 26 #[.int .i64 0, .int .i64 0, .slice none 0 0]) := ⟨hb, hr⟩
  clear hA hb hr
  go_enter Try.func10, Try.ntmps10
  go_wp2_with fail
  clear hW
  refine (new_any len cap a hm _ HA.out).mono ?_
  rintro e w1 ⟨rfl, hC, hA1, hb1⟩
  have HC : Hid (CurAt w1 W.heap.size a len cap) := hC
  have HA1 : Hid (ArgAt w1 a len W.heap.size) := hA1
  have H1 : Hid (Below w.heap.size w w1 ∧ Blk w1 w.heap.size 26 #[.int .i64 0, .int .i64 0, .slice none 0 0]) := ⟨H0.out.1.trans (hb1.mono H0.out.1.size), H0.out.2.on hb1 H0.out.2.lt⟩
  have hs0 : w.heap.size < W.heap.size := H0.out.2.lt
  have hs1 : W.heap.size < w1.heap.size := hC.lt
  clear hC hA1 hb1 H0 HA
  go_wp2_with fail
  refine (sSystemR_any W.heap.size len cap a hm _ HC.out HA1.out).mono ?_
  rintro e w2 ⟨wi, pu, v, u, n, ls, m, rfl, hdr, hrt, hN, hE⟩
  obtain ⟨va, vc, rfl⟩ : ∃ va vc, v = .slice va n vc := by obtain ⟨⟨_, va, vc, h, _⟩, _⟩ := hN w2 (fun _ _ _ => rfl); exact ⟨va, vc, h⟩
  have HN : Hid (∀ V, Same w1.heap.size w2.heap.size w2 V → NAt 3 V w2.heap.size (.slice va n vc) n ls ∧ ZAt V w2.heap.size u m) := hN
  have HDR : Hid (Drawn wi pu n ls m) := hdr
  have HRT : Hid (Right wi pu n ls m) := hrt
  have hres : Blk w2 w.heap.size 26 #[.int .i64 0, .int .i64 0, .slice none 0 0] := H1.out.2.grown hE.grown (by omega)
  have hB2 : Below w.heap.size w w2 := H1.out.1.trans ⟨hE.grown.os, hE.grown.tape, hE.grown.output, hE.grown.size, fun k hk => hE.grown.block k (by omega) (fun e => by have := Option.some.inj e; omega)⟩
  clear hE hN hdr hrt HC HA1 H1
  unfold sysV
  go_wp2_with (refine store_blkS (cs' := #[.int .i64 wi, .int .i64 pu, .slice va n vc]) rfl rfl rfl rfl rfl hres infoSy rfl (onesSy _ _ _ _ _) ?_; intro V8 h8 hheap hoth hbel; have hb8 := hbel _ _ (Nat.le_refl _) hB2; have hb9 := hbel 0 w2 (Nat.zero_le _) (Below.refl _ _); clear hoth hbel)
  have hs8 : w2.heap.size ≤ V8.heap.size := hb9.size
  have HX := HN.out V8 (fun k h1 h2 => hheap k (by omega))
  refine bodyPost_ret_by (result_Btmp rfl rfl rfl h8 Try.underlying26 infoSy) rfl ⟨wi, pu, _, u, n, ls, m, rfl, HDR.out, HRT.out, HX.1.wide hs8, HX.2.wide hs8, hb8⟩

set_option maxHeartbeats 1600000 in
set_option maxRecDepth 100000 in
theorem holdsD_any (len cap : Nat) (a : Option Addr) (hm : len ≤ 1048576) (w : World) (hA : ArgAt w a len w.heap.size) :
    Calls Try.prog 23 #[.slice a len cap] w fun e w' => HoldsEnd w e w' := by
  obtain ⟨W, hW, hb, hr⟩ := box1 w 26 #[.int .i64 0, .int .i64 0, .slice none 0 0]
  have HA : Hid (ArgAt W a len W.heap.size) := fun j hj => by
    obtain ⟨b, off, z, h1, h2, h3⟩ := (hA.on hb) j hj
    exact ⟨b, off, z, h1, Nat.lt_of_lt_of_le h2 hb.size, h3⟩
  have H0 : Hid (Below w.heap.size w W ∧ Blk W w.heap.size 26 #[.int .i64 0, .int .i64 0, .slice none 0 0]) := ⟨hb, hr⟩
  clear hA hb hr
  go_enter Try.func23, Try.ntmps23
  go_wp2_with fail
  clear hW
  refine (new_any len cap a hm _ HA.out).mono ?_
  rintro e w1 ⟨rfl, hC, hA1, hb1⟩
  have HC : Hid (CurAt w1 W.heap.size a len cap) := hC
  have HA1 : Hid (ArgAt w1 a len W.heap.size) := hA1
  have H1 : Hid (Below w.heap.size w w1 ∧ Blk w1 w.heap.size 26 #[.int .i64 0, .int .i64 0, .slice none 0 0]) := ⟨H0.out.1.trans (hb1.mono H0.out.1.size), H0.out.2.on hb1 H0.out.2.lt⟩
  have hs0 : w.heap.size < W.heap.size := H0.out.2.lt
  have hs1 : W.heap.size < w1.heap.size := hC.lt
  clear hC hA1 hb1 H0 HA
  go_wp2_with fail
  refine (scNum_any W.heap.size len cap a hm _ HC.out HA1.out).mono ?_
  rintro e w5 ⟨x, rfl, _, hE5⟩
  have hE50 := hE5.grown.size
  have HC5 : Hid (CurAt w5 W.heap.size a len cap) := hE5.cur
  have HA5 : Hid (ArgAt w5 a len W.heap.size) := hE5.arg
  have H5 : Hid (Below w.heap.size w w5 ∧ Blk w5 w.heap.size 26 #[.int .i64 0, .int .i64 0, .slice none 0 0]) := ⟨H1.out.1.trans ⟨hE5.grown.os, hE5.grown.tape, hE5.grown.output, hE5.grown.size, fun k hk => hE5.grown.block k (by omega) (fun e => by have := Option.some.inj e; omega)⟩, H1.out.2.grown hE5.grown (by omega)⟩
  clear hE5 HC HA1 H1
  go_wp2_with fail
  refine (sAny_any W.heap.size len cap a hm _ HC5.out HA5.out).mono ?_
  rintro e w2 ⟨wi, pu, v, u, n, ls, m, rfl, hwf, hn, hls, hml, hN, hE⟩
  obtain ⟨va, vc, rfl⟩ : ∃ va vc, v = .slice va n vc := by obtain ⟨⟨_, va, vc, h, _⟩, _⟩ := hN w2 (fun _ _ _ => rfl); exact ⟨va, vc, h⟩
  have HN : Hid (∀ V, Same w5.heap.size w2.heap.size w2 V → NAt 3 V w2.heap.size (.slice va n vc) n ls ∧ ZAt V w2.heap.size u m) := hN
  have HLS : Hid (∀ j, (ls.getD j []).length ≤ 16) := hls
  have HWF : Hid ((Lit.int .i64 wi).wf = true) := hwf
  have hres : Blk w2 w.heap.size 26 #[.int .i64 0, .int .i64 0, .slice none 0 0] := H5.out.2.grown hE.grown (by omega)
  have hB2 : Below w.heap.size w w2 := H5.out.1.trans ⟨hE.grown.os, hE.grown.tape, hE.grown.output, hE.grown.size, fun k hk => hE.grown.block k (by omega) (fun e => by have := Option.some.inj e; omega)⟩
  clear hE hN hls hwf HC5 HA5 H5
  unfold sysV
  obtain ⟨V0, hV0, hbv0, hsv0⟩ := box1 w2 26 #[.int .i64 0, .int .i64 0, .slice none 0 0]
  have hresV := hres.on hbv0 hres.lt
  go_wp2_with (first | (refine store_blkS (cs' := #[.int .i64 wi, .int .i64 pu, .slice va n vc]) rfl rfl rfl rfl rfl hsv0 infoSy rfl (onesSy _ _ _ _ _) ?_; intro V7 h7 hheap7 hoth7 hbel7; have hb7 := hbel7 _ _ (Nat.le_refl _) hbv0; have hres7 := hoth7 _ _ _ (by have := hres.lt; omega) hresV; clear hoth7 hbel7) | (refine load_blk rfl rfl rfl h7 Try.underlying26 infoSy ?_) | (refine store_blkS (cs' := #[.int .i64 wi, .int .i64 pu, .slice va n vc]) rfl rfl rfl rfl rfl hres7 infoSy rfl (onesSy _ _ _ _ _) ?_; intro V8 h8 hheap hoth hbel; have hb8 := hbel _ _ (Nat.le_refl _) (hB2.trans (hb7.mono hB2.size)); have hb9 := hbel 0 V7 (Nat.zero_le _) (Below.refl _ _); clear hoth hbel))
  have hs7 : w2.heap.size ≤ V7.heap.size := hb7.size
  have hs8 : V7.heap.size ≤ V8.heap.size := hb9.size
  have HX := HN.out V8 (fun k h1 h2 => (hheap k (by omega)).trans (hb7.block k h2))
  refine bodyPost_ret_by (result_Btt rfl rfl rfl rfl h8 Try.underlying26 infoSy) rfl ⟨wi, pu, _, u, n, ls, m, x, rfl, HWF.out, hn, HLS.out, hml, HX.1.wide (by omega), HX.2.wide (by omega), hb8⟩

theorem NOwnV.row_cap {e lo hi n c : Nat} {w : World} {a : Option Addr} {vs : List Value} {L : List (List Int)} (h : NOwnV 1 e lo hi w (.slice a n c) n vs L) : n ≤ c := by
  rcases h.row.2 with ⟨h0, h1⟩ | ⟨g, c', cur, hv, hg, hh, h1, h2, h3, h4⟩
  · omega
  · injection hv with e1 e2 e3; omega
theorem getD_small {L : List (List Int)} {p : List Int} (h : ∀ j, (L.getD j []).length ≤ 65) (hp : p.length ≤ 65) (j : Nat) : ((L ++ [p]).getD j []).length ≤ 65 := by
  by_cases hj : j < L.length
  · rw [getD_app_left _ _ _ _ hj]; exact h j
  · rw [getD_app_right _ _ _ _ (by omega)]
    cases hx : j - L.length with
    | zero => exact hp
    | succ i => simp

set_option maxHeartbeats 3200000 in
set_option maxRecDepth 100000 in
theorem mixedD_any (len cap : Nat) (a : Option Addr) (hm : len ≤ 1048576) (w : World) (hA : ArgAt w a len w.heap.size) :
    Calls Try.prog 20 #[.slice a len cap] w fun e w' => MixDEnd w e w' := by
  obtain ⟨k0, hk, hy0, hy1, hy2⟩ := info_parts infoLs
  have HA : Hid (ArgAt w a len w.heap.size) := hA
  clear hA
  go_enter Try.func20, Try.ntmps20
  go_wp2_with fail
  refine (new_any len cap a hm _ HA.out).mono ?_
  rintro e w1 ⟨rfl, hC, hA1, hb1⟩
  have HC : Hid (CurAt w1 w.heap.size a len cap) := hC
  have HA1 : Hid (ArgAt w1 a len w.heap.size) := hA1
  have HB1 : Hid (Below w.heap.size w w1) := hb1
  have hs1 : w.heap.size < w1.heap.size := hC.lt
  clear hC hA1 hb1 HA
  go_wp2_with fail
  refine (scList_any w.heap.size len cap a hm _ HC.out HA1.out).mono ?_
  rintro e w2 ⟨u, l, rfl, hl5, hR, hE⟩
  have hs2 : w1.heap.size ≤ w2.heap.size := hE.grown.size
  have HE2 : Hid (CurEnd w1 w2 w.heap.size a len cap ∧ ZOwn w1.heap.size w2.heap.size w2 u l) := ⟨hE, ZOwn.of hR⟩
  have HN3 : Hid (NOwnV 1 27 w2.heap.size (w2.heap.size + 1) (w2.alloc (.cells #[] 27)) (.slice (some ⟨w2.heap.size, 0, none⟩) 0 0) 0 [] []) := ⟨World.ownsRow_lit _ _ _ (Nat.le_refl _) (by simp [maxLen]) (by simp), rfl, fun k hk => by have : w2.heap.size = k := Option.some.inj hk; omega, fun j hj => (by omega), fun i j k h1 => (by omega), fun j k h1 => (by omega)⟩
  have HE3 : Hid (CurEnd w1 (w2.alloc (.cells #[] 27)) w.heap.size a len cap ∧ ZOwn w1.heap.size w2.heap.size (w2.alloc (.cells #[] 27)) u l) := ⟨HE2.out.1.alloc _, HE2.out.2.same (fun k _ h2 => Below.heap_alloc w2 _ k h2)⟩
  have hsa : w2.heap.size + 1 ≤ (w2.alloc (.cells #[] 27)).heap.size := by simp
  clear hR hE HE2 HC HA1
  go_wp2
  go_loopw [6, 7] (fun o i wr => ∃ (k : Nat) (vs : List Value) (L : List (List Int)) (hi : Nat), i = .int .i64 (k : Int) ∧ k ≤ 5 ∧ Hid (NOwnV 1 27 w2.heap.size hi wr o k vs L) ∧ hi ≤ wr.heap.size ∧ w2.heap.size ≤ hi ∧ Hid (∀ j, (L.getD j []).length ≤ 65) ∧ Hid (CurEnd w1 wr w.heap.size a len cap ∧ ZOwn w1.heap.size w2.heap.size wr u l)) (fun _ i _ => 6 - (intOf i).toNat)
  case atStart => exact ⟨0, [], [], w2.heap.size + 1, rfl, by omega, HN3, hsa, by omega, fun j => (by simp), HE3⟩
  case round =>
    obtain ⟨k, vs, L, hi, rfl, hk5, HN, hhi, hlo, HZ, HE⟩ := hrel
    clear HN3 HE3 hsa
    obtain ⟨oa, oc, hov⟩ := row_form HN.out.row
    subst hov
    go_wp2_with fail
    refine (below_any w.heap.size len cap a hm 5 (by omega) (by omega) _ HE.out.1.cur HE.out.1.arg).mono ?_
    rintro e w4 ⟨x, rfl, x0, x1, hE4⟩
    have hs4 := hE4.grown.size
    have HN4 : Hid (NOwnV 1 27 w2.heap.size hi w4 (.slice oa k oc) k vs L) := HN.out.same (cur_same hE4 hhi (by omega))
    have HE4 : Hid (CurEnd w1 w4 w.heap.size a len cap ∧ ZOwn w1.heap.size w2.heap.size w4 u l) := ⟨HE.out.1.trans hE4, HE.out.2.same (cur_same hE4 (by omega) (by omega))⟩
    clear HN HE hE4
    by_cases hkx : (k : Int) < x
    · have hm63 : k + 1 ≤ maxLen := by unfold maxLen; omega
      have hm47 : (k + 1) * 24 ≤ 140737488355328 := by omega
      go_wp2_with fail
      refine (poly_any w.heap.size len cap a hm _ HE4.out.1.cur HE4.out.1.arg).mono ?_
      rintro e w5 ⟨p, lp, rfl, hlp, hRp, hE5⟩
      have hs5 := hE5.grown.size
      obtain ⟨pa, pc, hpv⟩ := row_form hRp
      subst hpv
      have HP : Hid (ZOwn w4.heap.size w5.heap.size w5 (.slice pa lp.length pc) lp) := ZOwn.of hRp
      have HN5 : Hid (NOwnV 1 27 w2.heap.size hi w5 (.slice oa k oc) k vs L) := HN4.out.same (cur_same hE5 (by omega) (by omega))
      have HE5 : Hid (CurEnd w1 w5 w.heap.size a len cap ∧ ZOwn w1.heap.size w2.heap.size w5 u l) := ⟨HE4.out.1.trans hE5, HE4.out.2.same (cur_same hE5 (by omega) (by omega))⟩
      have HZ5 : Hid (∀ j, ((L ++ [lp]).getD j []).length ≤ 65) := fun j => getD_small HZ.out hlp j
      clear hRp hE5 HN4 HE4 HZ
      generalize hlp2 : lp.length = pl at *
      have hown5 := HN5.out.row.alloc (.cells #[.slice pa pl pc] 27)
      have hroom : w2.heap.size ≤ (w5.alloc (.cells #[.slice pa pl pc] 27)).heap.size := by simp; omega
      go_wp2_with (at_builtin; refine wpList_append_own_at _ rfl _ _ 39 rfl w2.heap.size 27 k0 (.slice none 0 0) 1 24 Try.underlying39 hk hy0 hy1 hy2 rfl (by decide) _ _ _ rfl hown5 ⟨w5.heap.size, 0, none⟩ 1 1 [.slice pa pl pc] rfl rfl (cell_one_new _ _ _) (fun u hu => by rw [List.mem_singleton] at hu; subst hu; rfl) hm63 hm47 hroom ?_)
      intro o6 w6 hown6 hg6 _ hat6
      have hAs : (w5.alloc (.cells #[.slice pa pl pc] 27)).heap.size = w5.heap.size + 1 := by simp
      have HNa : NOwnV 1 27 w2.heap.size hi (w5.alloc (.cells #[.slice pa pl pc] 27)) (.slice oa k oc) k vs L := HN5.out.same (fun j _ h2 => Below.heap_alloc w5 _ j (by omega))
      have hPa : ZOwn hi (w5.alloc (.cells #[.slice pa pl pc] 27)).heap.size (w5.alloc (.cells #[.slice pa pl pc] 27)) (.slice pa pl pc) lp := (HP.out.same (fun j _ h2 => Below.heap_alloc w5 _ j h2)).wide (by omega) (by omega)
      have hs6 : w5.heap.size + 1 ≤ w6.heap.size := by have := hg6.size; omega
      have HN6 : Hid (NOwnV 1 27 w2.heap.size w6.heap.size w6 o6 (k + 1) (vs ++ [.slice pa pl pc]) (L ++ [lp])) := HNa.app hown6 hg6 (by rw [hAs]; exact hat6) rfl (fun j hj => by
        have e0 : j = 0 := by omega
        subst e0
        exact hPa) (fun i j k hi hj hij => by omega) (by omega) (by omega) (by omega) (fun k hk => (hown6.lt k hk).2)
      have HE6 : Hid (CurEnd w1 w6 w.heap.size a len cap ∧ ZOwn w1.heap.size w2.heap.size w6 u l) := ⟨(HE5.out.1.alloc _).push hg6 (fun j hj => by have := (hown5.lt j hj).1; omega) (fun j hj => by have := (hown5.lt j hj).1; omega), (HE5.out.2.same (fun j _ h2 => Below.heap_alloc w5 _ j (by omega))).same (Same.of_grown hg6 (by omega) (fun j h1 h2 e => by have := (hown5.lt j e).1; omega))⟩
      clear hown6 hg6 hat6 HNa hPa hown5 hroom HN5 HE5 HP
      go_wp2
      go_roundw
      case rel => exact ⟨k + 1, _, _, w6.heap.size, by go_num, by omega, HN6, Nat.le_refl _, by omega, HZ5, HE6⟩
      case measure => simp [intOf]; omega
    · have hB4 : Below w.heap.size w w4 := HB1.out.trans ⟨HE4.out.1.grown.os, HE4.out.1.grown.tape, HE4.out.1.grown.output, HE4.out.1.grown.size, fun j hj => HE4.out.1.grown.block j (by omega) (fun e => by have := Option.some.inj e; omega)⟩
      have hLk : L.length = k := by have := HN4.out.len; omega
      go_wp2
      go_ret2
      refine ⟨oa, oc, u, L, l, by rw [hLk]; rfl, by omega, by rw [hLk]; exact HN4.out.row_cap, HZ.out, hl5, by rw [hLk]; exact HN4.out.at.wide (by omega), HE4.out.2.at.wide (by omega), hB4⟩

end Go.Proofs.Ytjlijflfepffiaa
