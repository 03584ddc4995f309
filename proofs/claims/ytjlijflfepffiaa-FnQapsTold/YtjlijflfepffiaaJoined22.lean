/-
  Texts of one's own, joined.
-/
import Derived.Test.YtjlijflfepffiaaJoined13
import Derived.Test.YtjlijflfepffiaaPolyMulS
import Derived.Test.YtjlijflfepffiaaJoined7
import Derived.Test.YtjlijflfepffiaaJoined6
import Derived.Test.YtjlijflfepffiaaJoined21
import Derived.Test.YtjlijflfepffiaaRwDraw2
import Derived.Test.YtjlijflfepffiaaJoined19
import Derived.Test.YtjlijflfepffiaaCur
import Derived.OpenShut

/-
  The draws of polynomials.
  (-DROP-: what the seat lacks is left out.)
-/
namespace Go.Proofs.Ytjlijflfepffiaa
open Go.RowKit

set_option maxHeartbeats 800000 in
set_option maxRecDepth 100000 in
theorem sameZ_any (a b : Option Addr) (n c1 c2 : Nat) (hn : n ≤ 1048576) (f : Nat → Int) (w : World) (hA : IntsAt w a n w.heap.size f) (hB : IntsAt w b n w.heap.size f) :
    Calls Try.prog 25 #[.slice a n c1, .slice b n c2] w fun e w' => e = .returned (.bool true) ∧ Below w.heap.size w w' := by
  have HA : Hid (IntsAt w a n w.heap.size f) := hA
  have HB : Hid (IntsAt w b n w.heap.size f) := hB
  clear hA hB
  go_enter Try.func25, Try.ntmps25
  go_wp2
  go_loopw [5] (fun i wr => ∃ k : Nat, i = .int .i64 (k : Int) ∧ k ≤ n ∧ Hid (Below w.heap.size w wr)) (fun i _ => n - (intOf i).toNat)
  case atStart => exact ⟨0, rfl, Nat.zero_le _, Below.refl _ _⟩
  case round =>
    obtain ⟨k, rfl, hk, HW⟩ := hrel
    by_cases hlt : k < n
    · have hlt' : (k : Int) < (n : Int) := by omega
      have hk0 : (0 : Int) ≤ (k : Int) := by omega
      obtain ⟨b, off, rfl, hb, hz⟩ := (HA.out.on HW.out) k hlt
      obtain ⟨b', off', rfl, hb', hz'⟩ := (HB.out.on HW.out) k hlt
      generalize f k = x at hz hz'
      clear hb hb' HA HB
      go_wp2
      refine wp_region_still_tail 8 mixesSc (by kernel_rfl) ?_
      simp only [List.take_succ_cons, List.take_zero, List.drop_succ_cons, List.drop_zero]
      repeat still_step
      refine wpStill_nil ?_
      go_wp2
      go_roundw
      case rel => exact ⟨k + 1, by go_num, hlt, HW.out.drew⟩
      case measure => simp [intOf]; omega
    · have hlt' : ¬ (k : Int) < (n : Int) := by omega
      go_wp2
      go_ret
      exact ⟨rfl, HW.out⟩

theorem sameO_any (v u : Value) (l : List Int) (hl : l.length ≤ 1048576) (w : World) (h : ZAt w w.heap.size v l) (h2 : ZAt w w.heap.size u l) :
    Calls Try.prog 25 #[v, u] w fun e w' => e = .returned (.bool true) ∧ Below w.heap.size w w' := by
  obtain ⟨a, cp, rfl, hA⟩ := h
  obtain ⟨b, cq, rfl, hB⟩ := h2
  exact sameZ_any a b l.length cp cq hl _ w hA hB

set_option maxHeartbeats 1600000 in
set_option maxRecDepth 100000 in
theorem poly_any (c len cap : Nat) (a : Option Addr) (hm : len ≤ 1048576) (w : World) (hC : CurAt w c a len cap) (hA : ArgAt w a len c) :
    Calls Try.prog 59 #[.pointer (some ⟨c, 0, none⟩)] w fun e w' => ∃ (v : Value) (l : List Int), e = .returned v ∧ l.length ≤ 65 ∧ RowZs w.heap.size w' v l ∧ CurEnd w w' c a len cap := by
  obtain ⟨i0, hi, hz0, hz1, hz2⟩ := info_parts info3
  have hcl := hC.lt
  have HS : Hid (CurEnd w w c a len cap) := CurEnd.refl hC hA
  clear hA hC
  go_enter Try.func59, Try.ntmps59
  go_wp2
  go_loopw [3, 4] (fun v i wr => ∃ (k : Nat) (l : List Int), i = .int .i64 (k : Int) ∧ k ≤ 7 ∧ Hid (l.length = k) ∧ wr.ownsRow w.heap.size 3 1 v l.length (zsV l) ∧ Hid (CurEnd w wr c a len cap)) (fun _ i _ => 8 - (intOf i).toNat)
  case atStart => exact ⟨0, [], rfl, by omega, rfl, World.ownsRow_lit _ _ _ (Nat.le_refl _) (by simp [maxLen]) (by simp), HS.out.alloc _⟩
  case round =>
    obtain ⟨k, l, rfl, hk, HL, hown, HE⟩ := hrel
    have hm63 : l.length + 1 ≤ maxLen := by have := HL.out; unfold maxLen; omega
    have hm47 : (l.length + 1) * 8 ≤ 140737488355328 := by have := HL.out; omega
    go_wp2_with fail
    refine (below_any c len cap a hm 8 (by omega) (by omega) _ HE.out.cur HE.out.arg).mono ?_
    rintro e w1 ⟨x, rfl, x0, x1, hE1⟩
    have hown1 : w1.ownsRow w.heap.size 3 1 _ l.length (zsV l) := hown.kept hE1.grown (by
      refine .inr ?_
      intro e
      have := (hown.lt c e).1
      omega)
    have HE1 : Hid (CurEnd w w1 c a len cap) := HE.out.trans hE1
    clear hE1 hown HE
    by_cases hlt : (k : Int) < x
    · go_wp2_with fail
      refine (scNum_any c len cap a hm _ HE1.out.cur HE1.out.arg).mono ?_
      rintro e w2 ⟨y, rfl, _, hE2⟩
      have hown2 : w2.ownsRow w.heap.size 3 1 _ l.length (zsV l) := hown1.kept hE2.grown (by
        refine .inr ?_
        intro e
        have := (hown1.lt c e).1
        omega)
      have HE2 : Hid (CurEnd w w2 c a len cap) := HE1.out.trans hE2
      have hsz : w.heap.size ≤ w2.heap.size := HE2.out.grown.size
      clear hE2 hown1 HE1
      go_wp2_with (at_builtin; refine wpList_append_own _ rfl _ _ 27 rfl w.heap.size 3 i0 (.int .i64 0) 1 8 Try.underlying27 hi hz0 hz1 hz2 rfl (by decide) _ _ _ rfl (hown2.alloc _) ⟨w2.heap.size, 0, none⟩ 1 1 [.int .i64 y] rfl rfl (cell_one_new _ _ _) (one_cell _ _) hm63 hm47 (room_for hsz _) ?_)
      intro v' w4 hown' hgrow _
      have R : w4.ownsRow w.heap.size 3 1 v' (l ++ [y]).length (zsV (l ++ [y])) := by
        rw [zsV_append, List.length_append]; exact hown'
      have HE4 : Hid (CurEnd w w4 c a len cap) := (HE2.out.alloc _).push hgrow (fun k hk => by have := (hown2.lt k hk).1; omega) (fun k hk => (hown2.lt k hk).1)
      have HL2 : Hid ((l ++ [y]).length = k + 1) := (show (l ++ [y]).length = k + 1 by rw [List.length_append, HL.out]; rfl)
      clear hown' hgrow hown2
      go_wp2
      go_roundw
      case rel => exact ⟨k + 1, _, by go_num, by omega, HL2, R, HE4⟩
      case measure => simp [intOf]; omega
    · obtain ⟨ra, rc, hv⟩ := row_form hown1
      subst hv
      have HO : Hid (w1.ownsRow w.heap.size 3 1 (.slice ra l.length rc) l.length (zsV l)) := hown1
      have hl7 : l.length ≤ 7 := by have := HL.out; omega
      clear hown1 hm63 hm47
      go_wp2_with fail
      refine (once_any c len cap a hm 16 (by omega) (by omega) _ HE1.out.cur HE1.out.arg).mono ?_
      rintro e w2 ⟨b, rfl, hE2⟩
      have HE2 : Hid (CurEnd w w2 c a len cap) := HE1.out.trans hE2
      have HO2 : Hid (w2.ownsRow w.heap.size 3 1 (.slice ra l.length rc) l.length (zsV l)) := HO.out.kept hE2.grown (by
        refine .inr ?_
        intro e
        have := (HO.out.lt c e).1
        omega)
      clear hE2 HE1 HO
      cases b
      · go_wp2
        go_ret
        exact ⟨_, l, rfl, by omega, HO2.out, HE2.out⟩
      · go_wp2_with fail
        refine (below_any c len cap a hm 2 (by omega) (by omega) _ HE2.out.cur HE2.out.arg).mono ?_
        rintro e w3 ⟨y, rfl, y0, y1, hE3⟩
        have HE3 : Hid (CurEnd w w3 c a len cap) := HE2.out.trans hE3
        clear hE3 HE2 HO2
        obtain ⟨n, hn⟩ : ∃ n : Nat, 64 + y = (n : Int) := ⟨(64 + y).toNat, by omega⟩
        have hn1 : 64 ≤ n ∧ n ≤ 65 := by omega
        have hwn : IntKind.i64.wrap (n : Int) = (n : Int) := IntWalk.i64_in _ (by omega)
        have hmk0 : (Instr.makeSlice 27 (.int .i64 (n : Int)) (.int .i64 (n : Int))).run Try.prog w3 = .ok (.slice (some ⟨w3.heap.size, 0, none⟩) n n) (w3.alloc (.cells (ic (fun _ => 0) n) 3)) := make_ints n n (Nat.le_refl _) (by omega) w3
        have hsz3 : w.heap.size ≤ w3.heap.size := HE3.out.grown.size
        have HR : Hid (RowZs w3.heap.size (w3.alloc (.cells (ic (fun _ => 0) n) 3)) (.slice (some ⟨w3.heap.size, 0, none⟩) n n) (List.replicate n 0)) := rowZ_none w3 n (by omega)
        have HE3a : Hid (CurEnd w (w3.alloc (.cells (ic (fun _ => 0) n) 3)) c a len cap) := HE3.out.alloc _
        generalize w3.alloc (.cells (ic (fun _ => 0) n) 3) = V at hmk0 HR HE3a
        obtain ⟨g', c', hve, _, _, hz, hf⟩ := HR.out.cellZ (j := 5) (by simp; omega)
        have hgg : g' = w3.heap.size := by injection hve with e1; injection e1 with e1; injection e1 with e1; exact e1.symm
        subst hgg
        generalize (List.replicate n (0 : Int)).getD 5 0 = old at hz
        have h5 : (5 : Int) < (n : Int) := by omega
        have HR2 : Hid (RowZs w.heap.size (V.setCell ⟨w3.heap.size, 5, none⟩ (.int .i64 3)) (.slice (some ⟨w3.heap.size, 0, none⟩) n n) ((List.replicate n 0).set 5 3)) := owns_low (HR.out.put 5 3) hsz3
        have HE4 : Hid (CurEnd w (V.setCell ⟨w3.heap.size, 5, none⟩ (.int .i64 3)) c a len cap) := HE3a.out.cell hsz3 hcl _
        clear hve HR HE3
        go_wp2
        go_ret
        exact ⟨_, _, rfl, by rw [List.length_set, List.length_replicate]; omega, HR2.out, HE4.out⟩

/-- Two polynomials. -/
def PairEnd (w : World) (e : Ending) (w' : World) : Prop := ∃ (v u : Value) (l m : List Int), e = .returned (.tuple #[v, u]) ∧ l.length ≤ 65 ∧ m.length ≤ 65 ∧ ZAt w' w'.heap.size v l ∧ ZAt w' w'.heap.size u m ∧ Below w.heap.size w w'

end Go.Proofs.Ytjlijflfepffiaa

/-
  The draws of right systems, of systems with a place, of what is mixed.
  (-DROP-: what the seat lacks is left out.)
-/
namespace Go.Proofs.Ytjlijflfepffiaa
open Go.RowKit

/-- A result that lives in a block, and two in slots. -/
theorem result_Btt {P : Program} {fn : Func} {p q r : Tmp} {ty t : TypeId} {fs : Array Field} (h : fn.results = #[.cell p ty, .tmp q, .tmp r]) {tmps : Array Value} {w : World} {g : Nat} {cs : Array Value} {v u : Value} (hp : tmps.getD p undef = .pointer (some ⟨g, 0, none⟩)) (hq : tmps.getD q undef = v) (hr : tmps.getD r undef = u)
    (hA : Blk w g t cs) (hu : P.underlying ty = some (.struct fs)) (hi : (P.info? ty).map (·.size) = some cs.size) : (results fn tmps).run P w = .ok (.tuple #[.agg cs, v, u]) w := by
  have hl := hA.load hu hi
  have hp' : tmps[p]?.getD undef = .pointer (some ⟨g, 0, none⟩) := by simpa using hp
  have hq' : tmps[q]?.getD undef = v := by simpa using hq
  have hr' : tmps[r]?.getD undef = u := by simpa using hr
  simp [results, h, hp', hq', hr', asAddr, hl, Result.andThen]

/-- What the draw of a right system leaves. -/
def SysDEnd (w : World) (e : Ending) (w' : World) : Prop := ∃ (wi pu : Int) (v u : Value) (n : Nat) (ls : List (List Int)) (m : List Int), e = .returned (.tuple #[sysV wi pu v, u]) ∧ Drawn wi pu n ls m ∧ Right wi pu n ls m ∧ NAt 3 w' w'.heap.size v n ls ∧ ZAt w' w'.heap.size u m ∧ Below w.heap.size w w'
/-- What the draw of a system with a place leaves. -/
def HoldsEnd (w : World) (e : Ending) (w' : World) : Prop := ∃ (wi pu : Int) (v u : Value) (n : Nat) (ls : List (List Int)) (m : List Int) (x : Int), e = .returned (.tuple #[sysV wi pu v, u, .int .i64 x]) ∧ (Lit.int .i64 wi).wf = true ∧ n ≤ 16 ∧ (∀ j, (ls.getD j []).length ≤ 16) ∧ m.length ≤ 16 ∧ NAt 3 w' w'.heap.size v n ls ∧ ZAt w' w'.heap.size u m ∧ Below w.heap.size w w'
/-- What the draw of what is mixed leaves. -/
def MixDEnd (w : World) (e : Ending) (w' : World) : Prop := ∃ (v : Option Addr) (cp : Nat) (u : Value) (L : List (List Int)) (m : List Int), e = .returned (.tuple #[.slice v L.length cp, u]) ∧ L.length ≤ 5 ∧ L.length ≤ cp ∧ (∀ j, (L.getD j []).length ≤ 65) ∧ m.length ≤ 5 ∧ NAt 1 w' w'.heap.size (.slice v L.length cp) L.length L ∧ ZAt w' w'.heap.size u m ∧ Below w.heap.size w w'

set_option maxHeartbeats 1600000 in
set_option maxRecDepth 100000 in
theorem systemD_any (len cap : Nat) (a : Option Addr) (hm : len ≤ 1048576) (w : World) (hA : ArgAt w a len w.heap.size) :
    Calls Try.prog 10 #[.slice a len cap] w fun e w' => SysDEnd w e w' := by
  obtain ⟨W, hW, hb, hr⟩ := box1 w 26 #[.int .i64 0, .int .i64 0, .slice none 0 0]
  have HA : Hid (ArgAt W a len W.heap.size) := fun j hj => by
    obtain ⟨b, off, z, h1, h2, h3⟩ := (hA.on hb) j hj
    exact ⟨b, off, z, h1, Nat.lt_of_lt_of_le h2 hb.size, h3⟩
  have H0 : Hid (Below w.heap.size w W ∧ Blk W w.heap.size 26 #[.int .i64 0, .int .i64 0, .slice none 0 0]) := ⟨hb, hr⟩
  clear hA hb hr
  go_enter Try.func10, Try.ntmps10
  go_wp2_with fail
  clear hW
  refine (new_any len cap a hm _ HA.out).mono ?_
  rintro e w1 ⟨rfl, hC, hA1, hb1⟩
  have HC : Hid (CurAt w1 W.heap.size a len cap) := hC
  have HA1 : Hid (ArgAt w1 a len W.heap.size) := hA1
  have H1 : Hid (Below w.heap.size w w1 ∧ Blk w1 w.heap.size 26 #[.int .i64 0, .int .i64 0, .slice none 0 0]) := ⟨H0.out.1.trans (hb1.mono H0.out.1.size), H0.out.2.on hb1 H0.out.2.lt⟩
  have hs0 : w.heap.size < W.heap.size := H0.out.2.lt
  have hs1 : W.heap.size < w1.heap.size := hC.lt
  clear hC hA1 hb1 H0 HA
  go_wp2_with fail
  refine (sSystemR_any W.heap.size len cap a hm _ HC.out HA1.out).mono ?_
  rintro e w2 ⟨wi, pu, v, u, n, ls, m, rfl, hdr, hrt, hN, hE⟩
  obtain ⟨va, vc, rfl⟩ : ∃ va vc, v = .slice va n vc := by obtain ⟨⟨_, va, vc, h, _⟩, _⟩ := hN w2 (fun _ _ _ => rfl); exact ⟨va, vc, h⟩
  have HN : Hid (∀ V, Same w1.heap.size w2.heap.size w2 V → NAt 3 V w2.heap.size (.slice va n vc) n ls ∧ ZAt V w2.heap.size u m) := hN
  have HDR : Hid (Drawn wi pu n ls m) := hdr
  have HRT : Hid (Right wi pu n ls m) := hrt
  have hres : Blk w2 w.heap.size 26 #[.int .i64 0, .int .i64 0, .slice none 0 0] := H1.out.2.grown hE.grown (by omega)
  have hB2 : Below w.heap.size w w2 := H1.out.1.trans ⟨hE.grown.os, hE.grown.tape, hE.grown.output, hE.grown.size, fun k hk => hE.grown.block k (by omega) (fun e => by have := Option.some.inj e; omega)⟩
  clear hE hN hdr hrt HC HA1 H1
  unfold sysV
  go_wp2_with (refine store_blkS (cs' := #[.int .i64 wi, .int .i64 pu, .slice va n vc]) rfl rfl rfl rfl rfl hres infoSy rfl (onesSy _ _ _ _ _) ?_; intro V8 h8 hheap hoth hbel; have hb8 := hbel _ _ (Nat.le_refl _) hB2; have hb9 := hbel 0 w2 (Nat.zero_le _) (Below.refl _ _); clear hoth hbel)
  have hs8 : w2.heap.size ≤ V8.heap.size := hb9.size
  have HX := HN.out V8 (fun k h1 h2 => hheap k (by omega))
  refine bodyPost_ret_by (result_Btmp rfl rfl rfl h8 Try.underlying26 infoSy) rfl ⟨wi, pu, _, u, n, ls, m, rfl, HDR.out, HRT.out, HX.1.wide hs8, HX.2.wide hs8, hb8⟩

set_option maxHeartbeats 1600000 in
set_option maxRecDepth 100000 in
theorem holdsD_any (len cap : Nat) (a : Option Addr) (hm : len ≤ 1048576) (w : World) (hA : ArgAt w a len w.heap.size) :
    Calls Try.prog 23 #[.slice a len cap] w fun e w' => HoldsEnd w e w' := by
  obtain ⟨W, hW, hb, hr⟩ := box1 w 26 #[.int .i64 0, .int .i64 0, .slice none 0 0]
  have HA : Hid (ArgAt W a len W.heap.size) := fun j hj => by
    obtain ⟨b, off, z, h1, h2, h3⟩ := (hA.on hb) j hj
    exact ⟨b, off, z, h1, Nat.lt_of_lt_of_le h2 hb.size, h3⟩
  have H0 : Hid (Below w.heap.size w W ∧ Blk W w.heap.size 26 #[.int .i64 0, .int .i64 0, .slice none 0 0]) := ⟨hb, hr⟩
  clear hA hb hr
  go_enter Try.func23, Try.ntmps23
  go_wp2_with fail
  clear hW
  refine (new_any len cap a hm _ HA.out).mono ?_
  rintro e w1 ⟨rfl, hC, hA1, hb1⟩
  have HC : Hid (CurAt w1 W.heap.size a len cap) := hC
  have HA1 : Hid (ArgAt w1 a len W.heap.size) := hA1
  have H1 : Hid (Below w.heap.size w w1 ∧ Blk w1 w.heap.size 26 #[.int .i64 0, .int .i64 0, .slice none 0 0]) := ⟨H0.out.1.trans (hb1.mono H0.out.1.size), H0.out.2.on hb1 H0.out.2.lt⟩
  have hs0 : w.heap.size < W.heap.size := H0.out.2.lt
  have hs1 : W.heap.size < w1.heap.size := hC.lt
  clear hC hA1 hb1 H0 HA
  go_wp2_with fail
  refine (scNum_any W.heap.size len cap a hm _ HC.out HA1.out).mono ?_
  rintro e w5 ⟨x, rfl, _, hE5⟩
  have hE50 := hE5.grown.size
  have HC5 : Hid (CurAt w5 W.heap.size a len cap) := hE5.cur
  have HA5 : Hid (ArgAt w5 a len W.heap.size) := hE5.arg
  have H5 : Hid (Below w.heap.size w w5 ∧ Blk w5 w.heap.size 26 #[.int .i64 0, .int .i64 0, .slice none 0 0]) := ⟨H1.out.1.trans ⟨hE5.grown.os, hE5.grown.tape, hE5.grown.output, hE5.grown.size, fun k hk => hE5.grown.block k (by omega) (fun e => by have := Option.some.inj e; omega)⟩, H1.out.2.grown hE5.grown (by omega)⟩
  clear hE5 HC HA1 H1
  go_wp2_with fail
  refine (sAny_any W.heap.size len cap a hm _ HC5.out HA5.out).mono ?_
  rintro e w2 ⟨wi, pu, v, u, n, ls, m, rfl, hwf, hn, hls, hml, hN, hE⟩
  obtain ⟨va, vc, rfl⟩ : ∃ va vc, v = .slice va n vc := by obtain ⟨⟨_, va, vc, h, _⟩, _⟩ := hN w2 (fun _ _ _ => rfl); exact ⟨va, vc, h⟩
  have HN : Hid (∀ V, Same w5.heap.size w2.heap.size w2 V → NAt 3 V w2.heap.size (.slice va n vc) n ls ∧ ZAt V w2.heap.size u m) := hN
  have HLS : Hid (∀ j, (ls.getD j []).length ≤ 16) := hls
  have HWF : Hid ((Lit.int .i64 wi).wf = true) := hwf
  have hres : Blk w2 w.heap.size 26 #[.int .i64 0, .int .i64 0, .slice none 0 0] := H5.out.2.grown hE.grown (by omega)
  have hB2 : Below w.heap.size w w2 := H5.out.1.trans ⟨hE.grown.os, hE.grown.tape, hE.grown.output, hE.grown.size, fun k hk => hE.grown.block k (by omega) (fun e => by have := Option.some.inj e; omega)⟩
  clear hE hN hls hwf HC5 HA5 H5
  unfold sysV
  obtain ⟨V0, hV0, hbv0, hsv0⟩ := box1 w2 26 #[.int .i64 0, .int .i64 0, .slice none 0 0]
  have hresV := hres.on hbv0 hres.lt
  go_wp2_with (first | (refine store_blkS (cs' := #[.int .i64 wi, .int .i64 pu, .slice va n vc]) rfl rfl rfl rfl rfl hsv0 infoSy rfl (onesSy _ _ _ _ _) ?_; intro V7 h7 hheap7 hoth7 hbel7; have hb7 := hbel7 _ _ (Nat.le_refl _) hbv0; have hres7 := hoth7 _ _ _ (by have := hres.lt; omega) hresV; clear hoth7 hbel7) | (refine load_blk rfl rfl rfl h7 Try.underlying26 infoSy ?_) | (refine store_blkS (cs' := #[.int .i64 wi, .int .i64 pu, .slice va n vc]) rfl rfl rfl rfl rfl hres7 infoSy rfl (onesSy _ _ _ _ _) ?_; intro V8 h8 hheap hoth hbel; have hb8 := hbel _ _ (Nat.le_refl _) (hB2.trans (hb7.mono hB2.size)); have hb9 := hbel 0 V7 (Nat.zero_le _) (Below.refl _ _); clear hoth hbel))
  have hs7 : w2.heap.size ≤ V7.heap.size := hb7.size
  have hs8 : V7.heap.size ≤ V8.heap.size := hb9.size
  have HX := HN.out V8 (fun k h1 h2 => (hheap k (by omega)).trans (hb7.block k h2))
  refine bodyPost_ret_by (result_Btt rfl rfl rfl rfl h8 Try.underlying26 infoSy) rfl ⟨wi, pu, _, u, n, ls, m, x, rfl, HWF.out, hn, HLS.out, hml, HX.1.wide (by omega), HX.2.wide (by omega), hb8⟩

theorem NOwnV.row_cap {e lo hi n c : Nat} {w : World} {a : Option Addr} {vs : List Value} {L : List (List Int)} (h : NOwnV 1 e lo hi w (.slice a n c) n vs L) : n ≤ c := by
  rcases h.row.2 with ⟨h0, h1⟩ | ⟨g, c', cur, hv, hg, hh, h1, h2, h3, h4⟩
  · omega
  · injection hv with e1 e2 e3; omega
theorem getD_small {L : List (List Int)} {p : List Int} (h : ∀ j, (L.getD j []).length ≤ 65) (hp : p.length ≤ 65) (j : Nat) : ((L ++ [p]).getD j []).length ≤ 65 := by
  by_cases hj : j < L.length
  · rw [getD_app_left _ _ _ _ hj]; exact h j
  · rw [getD_app_right _ _ _ _ (by omega)]
    cases hx : j - L.length with
    | zero => exact hp
    | succ i => simp

set_option maxHeartbeats 3200000 in
set_option maxRecDepth 100000 in
theorem mixedD_any (len cap : Nat) (a : Option Addr) (hm : len ≤ 1048576) (w : World) (hA : ArgAt w a len w.heap.size) :
    Calls Try.prog 20 #[.slice a len cap] w fun e w' => MixDEnd w e w' := by
  obtain ⟨k0, hk, hy0, hy1, hy2⟩ := info_parts infoLs
  have HA : Hid (ArgAt w a len w.heap.size) := hA
  clear hA
  go_enter Try.func20, Try.ntmps20
  go_wp2_with fail
  refine (new_any len cap a hm _ HA.out).mono ?_
  rintro e w1 ⟨rfl, hC, hA1, hb1⟩
  have HC : Hid (CurAt w1 w.heap.size a len cap) := hC
  have HA1 : Hid (ArgAt w1 a len w.heap.size) := hA1
  have HB1 : Hid (Below w.heap.size w w1) := hb1
  have hs1 : w.heap.size < w1.heap.size := hC.lt
  clear hC hA1 hb1 HA
  go_wp2_with fail
  refine (scList_any w.heap.size len cap a hm _ HC.out HA1.out).mono ?_
  rintro e w2 ⟨u, l, rfl, hl5, hR, hE⟩
  have hs2 : w1.heap.size ≤ w2.heap.size := hE.grown.size
  have HE2 : Hid (CurEnd w1 w2 w.heap.size a len cap ∧ ZOwn w1.heap.size w2.heap.size w2 u l) := ⟨hE, ZOwn.of hR⟩
  have HN3 : Hid (NOwnV 1 27 w2.heap.size (w2.heap.size + 1) (w2.alloc (.cells #[] 27)) (.slice (some ⟨w2.heap.size, 0, none⟩) 0 0) 0 [] []) := ⟨World.ownsRow_lit _ _ _ (Nat.le_refl _) (by simp [maxLen]) (by simp), rfl, fun k hk => by have : w2.heap.size = k := Option.some.inj hk; omega, fun j hj => (by omega), fun i j k h1 => (by omega), fun j k h1 => (by omega)⟩
  have HE3 : Hid (CurEnd w1 (w2.alloc (.cells #[] 27)) w.heap.size a len cap ∧ ZOwn w1.heap.size w2.heap.size (w2.alloc (.cells #[] 27)) u l) := ⟨HE2.out.1.alloc _, HE2.out.2.same (fun k _ h2 => Below.heap_alloc w2 _ k h2)⟩
  have hsa : w2.heap.size + 1 ≤ (w2.alloc (.cells #[] 27)).heap.size := by simp
  clear hR hE HE2 HC HA1
  go_wp2
  go_loopw [6, 7] (fun o i wr => ∃ (k : Nat) (vs : List Value) (L : List (List Int)) (hi : Nat), i = .int .i64 (k : Int) ∧ k ≤ 5 ∧ Hid (NOwnV 1 27 w2.heap.size hi wr o k vs L) ∧ hi ≤ wr.heap.size ∧ w2.heap.size ≤ hi ∧ Hid (∀ j, (L.getD j []).length ≤ 65) ∧ Hid (CurEnd w1 wr w.heap.size a len cap ∧ ZOwn w1.heap.size w2.heap.size wr u l)) (fun _ i _ => 6 - (intOf i).toNat)
  case atStart => exact ⟨0, [], [], w2.heap.size + 1, rfl, by omega, HN3, hsa, by omega, fun j => (by simp), HE3⟩
  case round =>
    obtain ⟨k, vs, L, hi, rfl, hk5, HN, hhi, hlo, HZ, HE⟩ := hrel
    clear HN3 HE3 hsa
    obtain ⟨oa, oc, hov⟩ := row_form HN.out.row
    subst hov
    go_wp2_with fail
    refine (below_any w.heap.size len cap a hm 5 (by omega) (by omega) _ HE.out.1.cur HE.out.1.arg).mono ?_
    rintro e w4 ⟨x, rfl, x0, x1, hE4⟩
    have hs4 := hE4.grown.size
    have HN4 : Hid (NOwnV 1 27 w2.heap.size hi w4 (.slice oa k oc) k vs L) := HN.out.same (cur_same hE4 hhi (by omega))
    have HE4 : Hid (CurEnd w1 w4 w.heap.size a len cap ∧ ZOwn w1.heap.size w2.heap.size w4 u l) := ⟨HE.out.1.trans hE4, HE.out.2.same (cur_same hE4 (by omega) (by omega))⟩
    clear HN HE hE4
    by_cases hkx : (k : Int) < x
    · have hm63 : k + 1 ≤ maxLen := by unfold maxLen; omega
      have hm47 : (k + 1) * 24 ≤ 140737488355328 := by omega
      go_wp2_with fail
      refine (poly_any w.heap.size len cap a hm _ HE4.out.1.cur HE4.out.1.arg).mono ?_
      rintro e w5 ⟨p, lp, rfl, hlp, hRp, hE5⟩
      have hs5 := hE5.grown.size
      obtain ⟨pa, pc, hpv⟩ := row_form hRp
      subst hpv
      have HP : Hid (ZOwn w4.heap.size w5.heap.size w5 (.slice pa lp.length pc) lp) := ZOwn.of hRp
      have HN5 : Hid (NOwnV 1 27 w2.heap.size hi w5 (.slice oa k oc) k vs L) := HN4.out.same (cur_same hE5 (by omega) (by omega))
      have HE5 : Hid (CurEnd w1 w5 w.heap.size a len cap ∧ ZOwn w1.heap.size w2.heap.size w5 u l) := ⟨HE4.out.1.trans hE5, HE4.out.2.same (cur_same hE5 (by omega) (by omega))⟩
      have HZ5 : Hid (∀ j, ((L ++ [lp]).getD j []).length ≤ 65) := fun j => getD_small HZ.out hlp j
      clear hRp hE5 HN4 HE4 HZ
      generalize hlp2 : lp.length = pl at *
      have hown5 := HN5.out.row.alloc (.cells #[.slice pa pl pc] 27)
      have hroom : w2.heap.size ≤ (w5.alloc (.cells #[.slice pa pl pc] 27)).heap.size := by simp; omega
      go_wp2_with (at_builtin; refine wpList_append_own_at _ rfl _ _ 39 rfl w2.heap.size 27 k0 (.slice none 0 0) 1 24 Try.underlying39 hk hy0 hy1 hy2 rfl (by decide) _ _ _ rfl hown5 ⟨w5.heap.size, 0, none⟩ 1 1 [.slice pa pl pc] rfl rfl (cell_one_new _ _ _) (fun u hu => by rw [List.mem_singleton] at hu; subst hu; rfl) hm63 hm47 hroom ?_)
      intro o6 w6 hown6 hg6 _ hat6
      have hAs : (w5.alloc (.cells #[.slice pa pl pc] 27)).heap.size = w5.heap.size + 1 := by simp
      have HNa : NOwnV 1 27 w2.heap.size hi (w5.alloc (.cells #[.slice pa pl pc] 27)) (.slice oa k oc) k vs L := HN5.out.same (fun j _ h2 => Below.heap_alloc w5 _ j (by omega))
      have hPa : ZOwn hi (w5.alloc (.cells #[.slice pa pl pc] 27)).heap.size (w5.alloc (.cells #[.slice pa pl pc] 27)) (.slice pa pl pc) lp := (HP.out.same (fun j _ h2 => Below.heap_alloc w5 _ j h2)).wide (by omega) (by omega)
      have hs6 : w5.heap.size + 1 ≤ w6.heap.size := by have := hg6.size; omega
      have HN6 : Hid (NOwnV 1 27 w2.heap.size w6.heap.size w6 o6 (k + 1) (vs ++ [.slice pa pl pc]) (L ++ [lp])) := HNa.app hown6 hg6 (by rw [hAs]; exact hat6) rfl (fun j hj => by
        have e0 : j = 0 := by omega
        subst e0
        exact hPa) (fun i j k hi hj hij => by omega) (by omega) (by omega) (by omega) (fun k hk => (hown6.lt k hk).2)
      have HE6 : Hid (CurEnd w1 w6 w.heap.size a len cap ∧ ZOwn w1.heap.size w2.heap.size w6 u l) := ⟨(HE5.out.1.alloc _).push hg6 (fun j hj => by have := (hown5.lt j hj).1; omega) (fun j hj => by have := (hown5.lt j hj).1; omega), (HE5.out.2.same (fun j _ h2 => Below.heap_alloc w5 _ j (by omega))).same (Same.of_grown hg6 (by omega) (fun j h1 h2 e => by have := (hown5.lt j e).1; omega))⟩
      clear hown6 hg6 hat6 HNa hPa hown5 hroom HN5 HE5 HP
      go_wp2
      go_roundw
      case rel => exact ⟨k + 1, _, _, w6.heap.size, by go_num, by omega, HN6, Nat.le_refl _, by omega, HZ5, HE6⟩
      case measure => simp [intOf]; omega
    · have hB4 : Below w.heap.size w w4 := HB1.out.trans ⟨HE4.out.1.grown.os, HE4.out.1.grown.tape, HE4.out.1.grown.output, HE4.out.1.grown.size, fun j hj => HE4.out.1.grown.block j (by omega) (fun e => by have := Option.some.inj e; omega)⟩
      have hLk : L.length = k := by have := HN4.out.len; omega
      go_wp2
      go_ret2
      refine ⟨oa, oc, u, L, l, by rw [hLk]; rfl, by omega, by rw [hLk]; exact HN4.out.row_cap, HZ.out, hl5, by rw [hLk]; exact HN4.out.at.wide (by omega), HE4.out.2.at.wide (by omega), hB4⟩

end Go.Proofs.Ytjlijflfepffiaa

/-
  What an argument of bytes is to the walk.
-/
namespace Go.Proofs.Ytjlijflfepffiaa
open Go.RowKit Go.ChangeShapes Go.WideShapes

theorem argAt_of {W : World} {x : Addr} {zs : List Int} {len cap : Nat} (hl : len ≤ cap) (hz : zs.length = cap) (hcell : ∀ i, i < zs.length → W.cell? (x.add i) = some (.int .u8 (zs.getD i 0))) (hwz : ∀ n ∈ zs, (Lit.int .u8 n).wf = true) : ArgAt W (some x) len W.heap.size := by
  intro j hj
  obtain ⟨b, off, spot⟩ := x
  have hspot : spot = none := by simpa [Addr.add] using World.cell?_spot (hcell 0 (by omega))
  subst hspot
  have hc := hcell j (by omega)
  have hc0 : W.cell? ⟨b, off + j, none⟩ = some (.int .u8 (zs.getD j 0)) := by rw [← Addr.add_lit]; exact hc
  have hlt := World.block_lt_of_cell? W _ hc0
  have hb := bounds_u8 (hwz (zs.getD j 0) (by rw [List.getD_eq_getElem?_getD, List.getElem?_eq_getElem (by omega)]; simp))
  exact ⟨b, off, _, rfl, hlt, hc0, hb.1, hb.2⟩


end Go.Proofs.Ytjlijflfepffiaa
