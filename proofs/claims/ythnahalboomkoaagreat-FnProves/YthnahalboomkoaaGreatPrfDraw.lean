/-
  The draws of right numbers of keys.
  (-DROP-: what the seat lacks is left out.)
-/
import Derived.Test.YthnahalboomkoaaGreatJoined27
import Derived.Test.YthnahalboomkoaaGreatJoined17
import Derived.Test.YthnahalboomkoaaGreatJoined13

namespace Go.Proofs.YthnahalboomkoaaGreat
open Go.RowKit

theorem infoTxD : (Tryz.prog.info? 31).map (·.size) = some 5 := by kernel_rfl
theorem ones5d (a b c d e : Int) : (#[Value.int .i64 a, .int .i64 b, .int .i64 c, .int .i64 d, .int .i64 e]).all (·.oneCell') = true := by simp [Value.oneCell']
/-- Numbers that are right for any system that is drawn. -/
structure ToxD (ta al be ga de : Int) : Prop where
  t : 20 ≤ ta ∧ ta ≤ 269
  a : 1 ≤ al ∧ al ≤ 250
  b : 1 ≤ be ∧ be ≤ 250
  g : 1 ≤ ga ∧ ga ≤ 250
  d : 1 ≤ de ∧ de ≤ 250
theorem ToxD.tox {n : Nat} {ta al be ga de : Int} (h : ToxD ta al be ga de) (hn : n ≤ 16) : Tox n ta al be ga de := by
  obtain ⟨h1, h2, h3, h4, h5⟩ := h
  exact ⟨by omega, by omega, by omega, by omega, by omega, by omega⟩
/-- What the draw of numbers leaves. -/
def ToxEnd (w : World) (c : Nat) (a : Option Addr) (len cap : Nat) (e : Ending) (w' : World) : Prop := ∃ ta al be ga de : Int, e = .returned (.agg #[.int .i64 ta, .int .i64 al, .int .i64 be, .int .i64 ga, .int .i64 de]) ∧ ToxD ta al be ga de ∧ CurEnd w w' c a len cap
def ToxDEnd (w : World) (e : Ending) (w' : World) : Prop := ∃ ta al be ga de : Int, e = .returned (.agg #[.int .i64 ta, .int .i64 al, .int .i64 be, .int .i64 ga, .int .i64 de]) ∧ ToxD ta al be ga de ∧ Below w.heap.size w w'

set_option maxHeartbeats 1600000 in
set_option maxRecDepth 100000 in
theorem toxic_any (c len cap : Nat) (a : Option Addr) (hm : len ≤ 1048576) (w : World) (hC : CurAt w c a len cap) (hA : ArgAt w a len c) :
    Calls Tryz.prog 44 #[.pointer (some ⟨c, 0, none⟩)] w fun e w' => ToxEnd w c a len cap e w' := by
  obtain ⟨W, hW, hb, hr⟩ := box1 w 31 #[.int .i64 0, .int .i64 0, .int .i64 0, .int .i64 0, .int .i64 0]
  have H0 : Hid (CurEnd w W c a len cap ∧ Blk W w.heap.size 31 #[.int .i64 0, .int .i64 0, .int .i64 0, .int .i64 0, .int .i64 0]) := ⟨(CurEnd.refl hC hA).below hb, hr⟩
  have hcw : c < w.heap.size := hC.lt
  clear hC hA hb hr
  go_enter Tryz.func44, Tryz.ntmps44
  go_wp2_with fail
  clear hW
  refine (below_any c len cap a hm 250 (by decide) (by decide) _ H0.out.1.cur H0.out.1.arg).mono ?_
  rintro e w1 ⟨x0, rfl, l0, u0, hE0⟩
  have H1 : Hid (CurEnd w w1 c a len cap ∧ Blk w1 w.heap.size 31 #[.int .i64 0, .int .i64 0, .int .i64 0, .int .i64 0, .int .i64 0]) := ⟨H0.out.1.trans hE0, H0.out.2.grown hE0.grown (by omega)⟩
  clear hE0 H0
  have hw0 : IntKind.i64.wrap (20 + x0) = 20 + x0 := IntWalk.i64_in _ (by omega)
  go_wp2_with fail
  refine (below_any c len cap a hm 250 (by decide) (by decide) _ H1.out.1.cur H1.out.1.arg).mono ?_
  rintro e w2 ⟨x1, rfl, l1, u1, hE1⟩
  have H2 : Hid (CurEnd w w2 c a len cap ∧ Blk w2 w.heap.size 31 #[.int .i64 0, .int .i64 0, .int .i64 0, .int .i64 0, .int .i64 0]) := ⟨H1.out.1.trans hE1, H1.out.2.grown hE1.grown (by omega)⟩
  clear hE1 H1
  have hw1 : IntKind.i64.wrap (1 + x1) = 1 + x1 := IntWalk.i64_in _ (by omega)
  go_wp2_with fail
  refine (below_any c len cap a hm 250 (by decide) (by decide) _ H2.out.1.cur H2.out.1.arg).mono ?_
  rintro e w3 ⟨x2, rfl, l2, u2, hE2⟩
  have H3 : Hid (CurEnd w w3 c a len cap ∧ Blk w3 w.heap.size 31 #[.int .i64 0, .int .i64 0, .int .i64 0, .int .i64 0, .int .i64 0]) := ⟨H2.out.1.trans hE2, H2.out.2.grown hE2.grown (by omega)⟩
  clear hE2 H2
  have hw2 : IntKind.i64.wrap (1 + x2) = 1 + x2 := IntWalk.i64_in _ (by omega)
  go_wp2_with fail
  refine (below_any c len cap a hm 250 (by decide) (by decide) _ H3.out.1.cur H3.out.1.arg).mono ?_
  rintro e w4 ⟨x3, rfl, l3, u3, hE3⟩
  have H4 : Hid (CurEnd w w4 c a len cap ∧ Blk w4 w.heap.size 31 #[.int .i64 0, .int .i64 0, .int .i64 0, .int .i64 0, .int .i64 0]) := ⟨H3.out.1.trans hE3, H3.out.2.grown hE3.grown (by omega)⟩
  clear hE3 H3
  have hw3 : IntKind.i64.wrap (1 + x3) = 1 + x3 := IntWalk.i64_in _ (by omega)
  go_wp2_with fail
  refine (below_any c len cap a hm 250 (by decide) (by decide) _ H4.out.1.cur H4.out.1.arg).mono ?_
  rintro e w5 ⟨x4, rfl, l4, u4, hE4⟩
  have H5 : Hid (CurEnd w w5 c a len cap ∧ Blk w5 w.heap.size 31 #[.int .i64 0, .int .i64 0, .int .i64 0, .int .i64 0, .int .i64 0]) := ⟨H4.out.1.trans hE4, H4.out.2.grown hE4.grown (by omega)⟩
  clear hE4 H4
  have hw4 : IntKind.i64.wrap (1 + x4) = 1 + x4 := IntWalk.i64_in _ (by omega)
  have hr5 := H5.out.2
  have HE5 : Hid (CurEnd w w5 c a len cap) := H5.out.1
  clear H5
  go_wp2_with (refine store_blkS (cs' := #[.int .i64 (20 + x0), .int .i64 (1 + x1), .int .i64 (1 + x2), .int .i64 (1 + x3), .int .i64 (1 + x4)]) rfl rfl rfl rfl rfl hr5 infoTxD rfl (ones5d _ _ _ _ _) ?_; intro V8 h8 hheap hoth hbel; have hb8 := HE5.out.row (Nat.le_refl _) hcw hheap hbel; clear hoth hbel hheap)
  refine bodyPost_ret_by (result_blk rfl rfl h8 Tryz.underlying31 infoTxD) rfl ⟨_, _, _, _, _, rfl, ⟨by omega, by omega, by omega, by omega, by omega⟩, hb8⟩

set_option maxHeartbeats 1600000 in
set_option maxRecDepth 100000 in
theorem toxicD_any (len cap : Nat) (a : Option Addr) (hm : len ≤ 1048576) (w : World) (hA : ArgAt w a len w.heap.size) :
    Calls Tryz.prog 9 #[.slice a len cap] w fun e w' => ToxDEnd w e w' := by
  obtain ⟨W, hW, hb, hr⟩ := box1 w 31 #[.int .i64 0, .int .i64 0, .int .i64 0, .int .i64 0, .int .i64 0]
  have HA : Hid (ArgAt W a len W.heap.size) := fun j hj => by
    obtain ⟨b, off, z, h1, h2, h3⟩ := (hA.on hb) j hj
    exact ⟨b, off, z, h1, Nat.lt_of_lt_of_le h2 hb.size, h3⟩
  have H0 : Hid (Below w.heap.size w W ∧ Blk W w.heap.size 31 #[.int .i64 0, .int .i64 0, .int .i64 0, .int .i64 0, .int .i64 0]) := ⟨hb, hr⟩
  clear hA hb hr
  go_enter Tryz.func9, Tryz.ntmps9
  go_wp2_with fail
  clear hW
  refine (new_any len cap a hm _ HA.out).mono ?_
  rintro e w1 ⟨rfl, hC, hA1, hb1⟩
  have H1 : Hid (Below w.heap.size w w1 ∧ Blk w1 w.heap.size 31 #[.int .i64 0, .int .i64 0, .int .i64 0, .int .i64 0, .int .i64 0]) := ⟨H0.out.1.trans (hb1.mono H0.out.1.size), H0.out.2.on hb1 H0.out.2.lt⟩
  have hs0 : w.heap.size < W.heap.size := H0.out.2.lt
  clear hb1 H0 HA
  go_wp2_with fail
  refine (toxic_any W.heap.size len cap a hm _ hC hA1).mono ?_
  rintro e w2 ⟨ta, al, be, ga, de, rfl, hD, hE⟩
  have hres : Blk w2 w.heap.size 31 #[.int .i64 0, .int .i64 0, .int .i64 0, .int .i64 0, .int .i64 0] := H1.out.2.grown hE.grown (by omega)
  have hB2 : Below w.heap.size w w2 := H1.out.1.trans ⟨hE.grown.os, hE.grown.tape, hE.grown.output, hE.grown.size, fun k hk => hE.grown.block k (by have := H1.out.1.size; omega) (fun e => by have := Option.some.inj e; omega)⟩
  clear hE hC hA1 H1
  go_wp2_with (refine store_blkS (cs' := #[.int .i64 ta, .int .i64 al, .int .i64 be, .int .i64 ga, .int .i64 de]) rfl rfl rfl rfl rfl hres infoTxD rfl (ones5d _ _ _ _ _) ?_; intro V8 h8 hheap hoth hbel; have hb8 := hbel _ _ (Nat.le_refl _) hB2; clear hoth hbel hheap)
  refine bodyPost_ret_by (result_blk rfl rfl h8 Tryz.underlying31 infoTxD) rfl ⟨ta, al, be, ga, de, rfl, hD, hb8⟩

end Go.Proofs.YthnahalboomkoaaGreat
