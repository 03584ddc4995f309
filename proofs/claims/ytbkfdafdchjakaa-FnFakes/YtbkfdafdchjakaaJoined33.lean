/-
  Texts of one's own, joined.
-/
import Derived.Test.YtbkfdafdchjakaaJoined10
import Derived.Test.YtbkfdafdchjakaaJoined31
import Derived.Test.YtbkfdafdchjakaaJoined30
import Derived.Test.YtbkfdafdchjakaaJoined8
import Derived.Test.YtbkfdafdchjakaaJoined9
import Derived.Test.YtbkfdafdchjakaaJoined32
import Derived.Test.YtbkfdafdchjakaaRwDraw2

/-
  The draws of polynomials.
  (-DROP-: what the seat lacks is left out.)
-/
namespace Go.Proofs.Ytbkfdafdchjakaa
open Go.RowKit

/-- Two polynomials. -/
def PairEnd (w : World) (e : Ending) (w' : World) : Prop := ∃ (v u : Value) (l m : List Int), e = .returned (.tuple #[v, u]) ∧ l.length ≤ 65 ∧ m.length ≤ 65 ∧ ZAt w' w'.heap.size v l ∧ ZAt w' w'.heap.size u m ∧ Below w.heap.size w w'

end Go.Proofs.Ytbkfdafdchjakaa

/-
  The walks of the helpers of the exact laws on rows and systems: marks, and whether they are held.
  (-DROP-: what the seat lacks is left out.)
-/
namespace Go.Proofs.Ytbkfdafdchjakaa
open Go.RowKit

theorem mark_cur (ls : List (List Int)) (k : Nat) {j : Nat} (h : j < ls.length) : (mkzz k (ls.take j) ++ ls.drop j).getD j [] = ls.getD j [] := by
  have hl : (mkzz k (ls.take j)).length = j := by rw [mkzz_length, List.length_take]; omega
  rw [getD_app_right _ _ _ _ (by omega), hl, Nat.sub_self]
  simp [h]

end Go.Proofs.Ytbkfdafdchjakaa

/-
  The walks of the helpers of the exact laws on lists of lists of numbers: the same, marks, whether they are held.
  (-DROP-: what the seat lacks is left out.)
-/
namespace Go.Proofs.Ytbkfdafdchjakaa
open Go.RowKit

end Go.Proofs.Ytbkfdafdchjakaa

/-
  The walk of the helper of the exact laws that copies a list of lists of numbers.
  (-DROP-: what the seat lacks is left out.)
-/
namespace Go.Proofs.Ytbkfdafdchjakaa
open Go.RowKit

theorem infoLs : (Try.prog.info? 27).map (fun i => (i.zero, i.size, i.bytes)) = some (some (.slice none 0 0), 1, 24) := by kernel_rfl
/-- So many empty lists. -/
def nil1 (n : Nat) : Array Value := (List.replicate n (Value.slice none 0 0)).toArray
/-- make([][]int, n). -/
theorem make_ls (n : Nat) (h2 : n ≤ 1073741824) (W : World) :
    (Instr.makeSlice 98 (.int .i64 (n : Int)) (.int .i64 (n : Int))).run Try.prog W = .ok (.slice (some ⟨W.heap.size, 0, none⟩) n n) (W.alloc (.cells (nil1 n) 27)) := by
  obtain ⟨i0, hi, hz0, hz1, hz2⟩ := info_parts infoLs
  have hM : madeCells (Value.slice none 0 0).cells ((n : Int).toNat * i0.size) = nil1 n := by
    rw [hz1]
    have h3 := toList_madeCells_one (.slice none 0 0) n
    apply Array.toList_inj.1
    simpa [nil1, Value.cells] using h3
  have h := run_make (P := Try.prog) W 98 27 i0 (.slice none 0 0) Try.underlying98 hi hz0 .i64 .i64 (n : Int) (n : Int) (by omega) (by omega) (by rw [hz2]; omega) (by omega)
  rw [hM] at h
  simpa using h
theorem nown_made1 (w : World) (n : Nat) (hn : n ≤ 1048576) : NOwnV 1 27 w.heap.size (w.heap.size + 1) (w.alloc (.cells (nil1 n) 27)) (.slice (some ⟨w.heap.size, 0, none⟩) n n) n (List.replicate n (.slice none 0 0)) (List.replicate n []) := by
  have hv : ∀ j, j < n * 1 → (List.replicate n (Value.slice none 0 0)).getD j undef = .slice none 0 0 := fun j hj => by simp [show j < n by omega]
  refine ⟨?_, by simp, fun k hk => ?_, fun j hj => ?_, fun i j k h1 h2 h3 h4 => ?_, fun j k h1 h2 => ?_⟩
  · have h := World.ownsRow_lit (base := w.heap.size) (e := 27) (size := 1) w (nil1 n) n (Nat.le_refl _) (by unfold maxLen; omega) (by simp [nil1])
    simpa [nil1] using h
  · have e1 : some w.heap.size = some k := hk
    injection e1 with e1
    omega
  · rw [hv j hj]
    have : (List.replicate n ([] : List Int)).getD j [] = [] := by simp [show j < n by omega]
    rw [this]
    exact zown_nil _ _ _
  · rw [hv i h1] at h4; cases h4
  · rw [hv j h1] at h2; cases h2
theorem take_put (L : List (List Int)) {n k : Nat} (hn : L.length = n) (hk : k < n) : (L.take k ++ List.replicate (n - k) []).set k (L.getD k []) = L.take (k + 1) ++ List.replicate (n - (k + 1)) [] := by
  have hl : (L.take k).length = k := by simp; omega
  rw [List.set_append_right _ _ (by omega), hl, Nat.sub_self, show n - k = n - (k + 1) + 1 by omega, List.replicate_succ, List.set_cons_zero, List.take_succ_eq_append_getElem (by omega), List.append_assoc]
  simp [show k < L.length by omega]

end Go.Proofs.Ytbkfdafdchjakaa

/-
  The draws of right systems, of systems with a place, of what is mixed.
  (-DROP-: what the seat lacks is left out.)
-/
namespace Go.Proofs.Ytbkfdafdchjakaa
open Go.RowKit

/-- A result that lives in a block, and two in slots. -/
theorem result_Btt {P : Program} {fn : Func} {p q r : Tmp} {ty t : TypeId} {fs : Array Field} (h : fn.results = #[.cell p ty, .tmp q, .tmp r]) {tmps : Array Value} {w : World} {g : Nat} {cs : Array Value} {v u : Value} (hp : tmps.getD p undef = .pointer (some ⟨g, 0, none⟩)) (hq : tmps.getD q undef = v) (hr : tmps.getD r undef = u)
    (hA : Blk w g t cs) (hu : P.underlying ty = some (.struct fs)) (hi : (P.info? ty).map (·.size) = some cs.size) : (results fn tmps).run P w = .ok (.tuple #[.agg cs, v, u]) w := by
  have hl := hA.load hu hi
  have hp' : tmps[p]?.getD undef = .pointer (some ⟨g, 0, none⟩) := by simpa using hp
  have hq' : tmps[q]?.getD undef = v := by simpa using hq
  have hr' : tmps[r]?.getD undef = u := by simpa using hr
  simp [results, h, hp', hq', hr', asAddr, hl, Result.andThen]

/-- What the draw of a right system leaves. -/
def SysDEnd (w : World) (e : Ending) (w' : World) : Prop := ∃ (wi pu : Int) (v u : Value) (n : Nat) (ls : List (List Int)) (m : List Int), e = .returned (.tuple #[sysV wi pu v, u]) ∧ Drawn wi pu n ls m ∧ Right wi pu n ls m ∧ NAt 3 w' w'.heap.size v n ls ∧ ZAt w' w'.heap.size u m ∧ Below w.heap.size w w'
/-- What the draw of a system with a place leaves. -/
def HoldsEnd (w : World) (e : Ending) (w' : World) : Prop := ∃ (wi pu : Int) (v u : Value) (n : Nat) (ls : List (List Int)) (m : List Int) (x : Int), e = .returned (.tuple #[sysV wi pu v, u, .int .i64 x]) ∧ (Lit.int .i64 wi).wf = true ∧ n ≤ 16 ∧ (∀ j, (ls.getD j []).length ≤ 16) ∧ m.length ≤ 16 ∧ NAt 3 w' w'.heap.size v n ls ∧ ZAt w' w'.heap.size u m ∧ Below w.heap.size w w'
/-- What the draw of what is mixed leaves. -/
def MixDEnd (w : World) (e : Ending) (w' : World) : Prop := ∃ (v : Option Addr) (cp : Nat) (u : Value) (L : List (List Int)) (m : List Int), e = .returned (.tuple #[.slice v L.length cp, u]) ∧ L.length ≤ 5 ∧ L.length ≤ cp ∧ (∀ j, (L.getD j []).length ≤ 65) ∧ m.length ≤ 5 ∧ NAt 1 w' w'.heap.size (.slice v L.length cp) L.length L ∧ ZAt w' w'.heap.size u m ∧ Below w.heap.size w w'

set_option maxHeartbeats 1600000 in
set_option maxRecDepth 100000 in
theorem systemD_any (len cap : Nat) (a : Option Addr) (hm : len ≤ 1048576) (w : World) (hA : ArgAt w a len w.heap.size) :
    Calls Try.prog 6 #[.slice a len cap] w fun e w' => SysDEnd w e w' := by
  obtain ⟨W, hW, hb, hr⟩ := box1 w 26 #[.int .i64 0, .int .i64 0, .slice none 0 0]
  have HA : Hid (ArgAt W a len W.heap.size) := fun j hj => by
    obtain ⟨b, off, z, h1, h2, h3⟩ := (hA.on hb) j hj
    exact ⟨b, off, z, h1, Nat.lt_of_lt_of_le h2 hb.size, h3⟩
  have H0 : Hid (Below w.heap.size w W ∧ Blk W w.heap.size 26 #[.int .i64 0, .int .i64 0, .slice none 0 0]) := ⟨hb, hr⟩
  clear hA hb hr
  go_enter Try.func6, Try.ntmps6
  go_wp2_with fail
  clear hW
  refine (new_any len cap a hm _ HA.out).mono ?_
  rintro e w1 ⟨rfl, hC, hA1, hb1⟩
  have HC : Hid (CurAt w1 W.heap.size a len cap) := hC
  have HA1 : Hid (ArgAt w1 a len W.heap.size) := hA1
  have H1 : Hid (Below w.heap.size w w1 ∧ Blk w1 w.heap.size 26 #[.int .i64 0, .int .i64 0, .slice none 0 0]) := ⟨H0.out.1.trans (hb1.mono H0.out.1.size), H0.out.2.on hb1 H0.out.2.lt⟩
  have hs0 : w.heap.size < W.heap.size := H0.out.2.lt
  have hs1 : W.heap.size < w1.heap.size := hC.lt
  clear hC hA1 hb1 H0 HA
  go_wp2_with fail
  refine (sSystemR_any W.heap.size len cap a hm _ HC.out HA1.out).mono ?_
  rintro e w2 ⟨wi, pu, v, u, n, ls, m, rfl, hdr, hrt, hN, hE⟩
  obtain ⟨va, vc, rfl⟩ : ∃ va vc, v = .slice va n vc := by obtain ⟨⟨_, va, vc, h, _⟩, _⟩ := hN w2 (fun _ _ _ => rfl); exact ⟨va, vc, h⟩
  have HN : Hid (∀ V, Same w1.heap.size w2.heap.size w2 V → NAt 3 V w2.heap.size (.slice va n vc) n ls ∧ ZAt V w2.heap.size u m) := hN
  have HDR : Hid (Drawn wi pu n ls m) := hdr
  have HRT : Hid (Right wi pu n ls m) := hrt
  have hres : Blk w2 w.heap.size 26 #[.int .i64 0, .int .i64 0, .slice none 0 0] := H1.out.2.grown hE.grown (by omega)
  have hB2 : Below w.heap.size w w2 := H1.out.1.trans ⟨hE.grown.os, hE.grown.tape, hE.grown.output, hE.grown.size, fun k hk => hE.grown.block k (by omega) (fun e => by have := Option.some.inj e; omega)⟩
  clear hE hN hdr hrt HC HA1 H1
  unfold sysV
  go_wp2_with (refine store_blkS (cs' := #[.int .i64 wi, .int .i64 pu, .slice va n vc]) rfl rfl rfl rfl rfl hres infoSy rfl (onesSy _ _ _ _ _) ?_; intro V8 h8 hheap hoth hbel; have hb8 := hbel _ _ (Nat.le_refl _) hB2; have hb9 := hbel 0 w2 (Nat.zero_le _) (Below.refl _ _); clear hoth hbel)
  have hs8 : w2.heap.size ≤ V8.heap.size := hb9.size
  have HX := HN.out V8 (fun k h1 h2 => hheap k (by omega))
  refine bodyPost_ret_by (result_Btmp rfl rfl rfl h8 Try.underlying26 infoSy) rfl ⟨wi, pu, _, u, n, ls, m, rfl, HDR.out, HRT.out, HX.1.wide hs8, HX.2.wide hs8, hb8⟩

theorem NOwnV.row_cap {e lo hi n c : Nat} {w : World} {a : Option Addr} {vs : List Value} {L : List (List Int)} (h : NOwnV 1 e lo hi w (.slice a n c) n vs L) : n ≤ c := by
  rcases h.row.2 with ⟨h0, h1⟩ | ⟨g, c', cur, hv, hg, hh, h1, h2, h3, h4⟩
  · omega
  · injection hv with e1 e2 e3; omega
theorem getD_small {L : List (List Int)} {p : List Int} (h : ∀ j, (L.getD j []).length ≤ 65) (hp : p.length ≤ 65) (j : Nat) : ((L ++ [p]).getD j []).length ≤ 65 := by
  by_cases hj : j < L.length
  · rw [getD_app_left _ _ _ _ hj]; exact h j
  · rw [getD_app_right _ _ _ _ (by omega)]
    cases hx : j - L.length with
    | zero => exact hp
    | succ i => simp

end Go.Proofs.Ytbkfdafdchjakaa
