/-
  The draw of a system and of numbers for it, of a code.
  (-DROP-: what the seat lacks is left out.)
-/
import Derived.Test.YtfiflcedbejamaaRwAny
namespace Go.Proofs.Ytfiflcedbejamaa
open Go.RowKit

/-- What the draw leaves. -/
def SatEnd (w : World) (e : Ending) (w' : World) : Prop := ∃ (wi pu : Int) (v u : Value) (n : Nat) (ls : List (List Int)) (m : List Int), e = .returned (.tuple #[sysV wi pu v, u]) ∧ (Lit.int .i64 wi).wf = true ∧ n ≤ 16 ∧ (∀ j, (ls.getD j []).length ≤ 16) ∧ m.length ≤ 16 ∧ NAt 3 w' w'.heap.size v n ls ∧ ZAt w' w'.heap.size u m ∧ Below w.heap.size w w'

set_option maxHeartbeats 1600000 in
set_option maxRecDepth 100000 in
theorem satD_any (len cap : Nat) (a : Option Addr) (hm : len ≤ 1048576) (w : World) (hA : ArgAt w a len w.heap.size) :
    Calls Try.prog 18 #[.slice a len cap] w fun e w' => SatEnd w e w' := by
  obtain ⟨W, hW, hb, hr⟩ := box1 w 28 #[.int .i64 0, .int .i64 0, .slice none 0 0]
  have HA : Hid (ArgAt W a len W.heap.size) := fun j hj => by
    obtain ⟨b, off, z, h1, h2, h3⟩ := (hA.on hb) j hj
    exact ⟨b, off, z, h1, Nat.lt_of_lt_of_le h2 hb.size, h3⟩
  have H0 : Hid (Below w.heap.size w W ∧ Blk W w.heap.size 28 #[.int .i64 0, .int .i64 0, .slice none 0 0]) := ⟨hb, hr⟩
  clear hA hb hr
  go_enter Try.func18, Try.ntmps18
  go_wp2_with fail
  clear hW
  refine (new_any len cap a hm _ HA.out).mono ?_
  rintro e w1 ⟨rfl, hC, hA1, hb1⟩
  have HC : Hid (CurAt w1 W.heap.size a len cap) := hC
  have HA1 : Hid (ArgAt w1 a len W.heap.size) := hA1
  have H1 : Hid (Below w.heap.size w w1 ∧ Blk w1 w.heap.size 28 #[.int .i64 0, .int .i64 0, .slice none 0 0]) := ⟨H0.out.1.trans (hb1.mono H0.out.1.size), H0.out.2.on hb1 H0.out.2.lt⟩
  have hs0 : w.heap.size < W.heap.size := H0.out.2.lt
  have hs1 : W.heap.size < w1.heap.size := hC.lt
  clear hC hA1 hb1 H0 HA
  go_wp2_with fail
  refine (sAny_any W.heap.size len cap a hm _ HC.out HA1.out).mono ?_
  rintro e w2 ⟨wi, pu, v, u, n, ls, m, rfl, hwf, hn, hls, hml, hN, hE⟩
  obtain ⟨va, vc, rfl⟩ : ∃ va vc, v = .slice va n vc := by obtain ⟨⟨_, va, vc, h, _⟩, _⟩ := hN w2 (fun _ _ _ => rfl); exact ⟨va, vc, h⟩
  have HN : Hid (∀ V, Same w1.heap.size w2.heap.size w2 V → NAt 3 V w2.heap.size (.slice va n vc) n ls ∧ ZAt V w2.heap.size u m) := hN
  have HLS : Hid (∀ j, (ls.getD j []).length ≤ 16) := hls
  have HWF : Hid ((Lit.int .i64 wi).wf = true) := hwf
  have hres : Blk w2 w.heap.size 28 #[.int .i64 0, .int .i64 0, .slice none 0 0] := H1.out.2.grown hE.grown (by omega)
  have hB2 : Below w.heap.size w w2 := H1.out.1.trans ⟨hE.grown.os, hE.grown.tape, hE.grown.output, hE.grown.size, fun k hk => hE.grown.block k (by omega) (fun e => by have := Option.some.inj e; omega)⟩
  clear hE hN hls hwf HC HA1 H1
  unfold sysV
  go_wp2_with (refine store_blkS (cs' := #[.int .i64 wi, .int .i64 pu, .slice va n vc]) rfl rfl rfl rfl rfl hres infoSy rfl (onesSy _ _ _ _ _) ?_; intro V8 h8 hheap hoth hbel; have hb8 := hbel _ _ (Nat.le_refl _) hB2; have hb9 := hbel 0 w2 (Nat.zero_le _) (Below.refl _ _); clear hoth hbel)
  have hs8 : w2.heap.size ≤ V8.heap.size := hb9.size
  have HX := HN.out V8 (fun k h1 h2 => hheap k (by omega))
  refine bodyPost_ret_by (result_Btmp rfl rfl rfl h8 Try.underlying28 infoSy) rfl ⟨wi, pu, _, u, n, ls, m, rfl, HWF.out, hn, HLS.out, hml, HX.1.wide hs8, HX.2.wide hs8, hb8⟩

end Go.Proofs.Ytfiflcedbejamaa
