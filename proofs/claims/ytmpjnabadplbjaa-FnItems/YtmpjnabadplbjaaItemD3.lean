/-
  The draws of promise 17.
  (-DROP-: what the seat lacks is left out.)
-/
import Derived.Test.YtmpjnabadplbjaaItemD2
import Derived.Test.YtmpjnabadplbjaaJoined44
import Derived.Test.YtmpjnabadplbjaaJoined45
import Derived.Test.YtmpjnabadplbjaaSpoilt
import Derived.Test.YtmpjnabadplbjaaJoined18
namespace Go.Proofs.Ytmpjnabadplbjaa
open Go.RowKit

set_option maxHeartbeats 1600000 in
set_option maxRecDepth 100000 in
theorem pickT_any (c len cap : Nat) (a : Option Addr) (hm : len ≤ 1048576) (g n m : Nat) (hn : 0 < n) (hn2 : n ≤ 1000) (w : World) (hC : CurAt w c a len cap) (hA : ArgAt w a len c) (hg : g ≠ c)
    (Q : ByteArray → Prop) (hl : ∀ j, j < n → ∃ z : ByteArray, w.cell? ⟨g, j, none⟩ = some (.string z) ∧ Q z) :
    Calls Try.prog 41 #[.pointer (some ⟨c, 0, none⟩), .slice (some ⟨g, 0, none⟩) n m] w fun e w' => ∃ x : ByteArray, e = .returned (.string x) ∧ Q x ∧ CurEnd w w' c a len cap := by
  have HA : Hid (ArgAt w a len c) := hA
  have HC : Hid (CurAt w c a len cap) := hC
  have HL : Hid (∀ j, j < n → ∃ z : ByteArray, w.cell? ⟨g, j, none⟩ = some (.string z) ∧ Q z) := hl
  clear hA hC hl
  go_enter Try.func41, Try.ntmps41
  go_wp2_with fail
  refine (below_any c len cap a hm (n : Int) (by omega) (by omega) _ HC.out HA.out).mono ?_
  rintro e w1 ⟨x, rfl, x0, x1, hE⟩
  have HE : Hid (CurEnd w w1 c a len cap) := hE
  clear hE
  obtain ⟨k, rfl⟩ : ∃ k : Nat, x = k := ⟨x.toNat, by omega⟩
  obtain ⟨z, hz, hQ⟩ := HL.out k (by omega)
  have HQ : Hid (Q z) := hQ
  have hz1 : w1.cell? ⟨g, k, none⟩ = some (.string z) := HE.out.grown.cell hz (fun e => hg (Option.some.inj e))
  clear hz hQ
  go_wp2
  go_ret
  exact ⟨_, rfl, HQ.out, HE.out⟩
theorem texts_new (w : World) (zs : List ByteArray) (arr : Array Value) (he : arr = (zs.map Value.string).toArray) (t : TypeId) (Q : ByteArray → Prop) (hQ : ∀ z ∈ zs, Q z) : ∀ j, j < zs.length → ∃ z : ByteArray, (w.alloc (.cells arr t)).cell? ⟨w.heap.size, j, none⟩ = some (.string z) ∧ Q z := by
  intro j hj
  refine ⟨zs[j], ?_, hQ _ (List.getElem_mem hj)⟩
  rw [cell_of_row _ w.heap.size j arr t (0, 0) (heap_alloc_new w _), he]
  simp [hj]

set_option maxHeartbeats 1600000 in
set_option maxRecDepth 100000 in
theorem drawNumText_any (len cap : Nat) (a : Option Addr) (hm : len ≤ 1048576) (w : World) (hA : ArgAt w a len w.heap.size) :
    Calls Try.prog 16 #[.slice a len cap] w fun e w' => ∃ n : Int, e = .returned (.int .i64 n) ∧ (-1 ≤ n ∧ n ≤ 9223372036854775807) ∧ Below w.heap.size w w' := by
  have HA : Hid (ArgAt w a len w.heap.size) := hA
  clear hA
  go_enter Try.func16, Try.ntmps16
  go_wp2_with fail
  refine (new_any len cap a hm _ HA.out).mono ?_
  rintro e w1 ⟨rfl, hC, hA1, hb⟩
  have hcl := hC.lt
  have HW := (CurEnd.refl hC hA1).alloc (.cells #[.int .i64 0, .int .i64 1, .int .i64 127, .int .i64 128, .int .i64 255, .int .i64 256, .int .i64 65535, .int .i64 65536, .int .i64 1000000000, .int .i64 (-1), .int .i64 9223372036854775807] 3)
  go_wp2_with fail
  refine (pick_any w.heap.size len cap a hm w1.heap.size 11 11 (by omega) (by omega) _ HW.cur HW.arg (by omega) (fun z => -1 ≤ z ∧ z ≤ 9223372036854775807) (ints_new w1 [0, 1, 127, 128, 255, 256, 65535, 65536, 1000000000, -1, 9223372036854775807] _ rfl (fun z => -1 ≤ z ∧ z ≤ 9223372036854775807) (by intro z hz; simp at hz; omega))).mono ?_
  rintro e w2 ⟨z, rfl, hz, hE⟩
  have hB : Below w.heap.size w w2 := hb.trans (below_of_grown (HW.trans hE).grown (Nat.le_of_lt hcl))
  have HZ : Hid (-1 ≤ z ∧ z ≤ 9223372036854775807) := hz
  clear hE HW hz hC hA1 hb
  go_wp2
  go_ret
  exact ⟨_, rfl, HZ.out, hB⟩

set_option maxHeartbeats 1600000 in
set_option maxRecDepth 100000 in
theorem drawReadNum_any (len cap : Nat) (a : Option Addr) (hm : len ≤ 1048576) (w : World) (hA : ArgAt w a len w.heap.size) :
    Calls Try.prog 19 #[.slice a len cap] w fun e w' => ∃ t : ByteArray, e = .returned (.string t) ∧ t.size ≤ 100 ∧ Below w.heap.size w w' := by
  have HA : Hid (ArgAt w a len w.heap.size) := hA
  clear hA
  go_enter Try.func19, Try.ntmps19
  go_wp2_with fail
  refine (new_any len cap a hm _ HA.out).mono ?_
  rintro e w1 ⟨rfl, hC, hA1, hb⟩
  have hcl := hC.lt
  have HW := (CurEnd.refl hC hA1).alloc (.cells #[.string ⟨#[]⟩, .string ⟨#[0]⟩, .string ⟨#[1]⟩, .string ⟨#[255]⟩, .string ⟨#[1, 0]⟩, .string ⟨#[0, 1]⟩, .string ⟨#[59, 154, 202, 0]⟩, .string ⟨#[59, 154, 202, 1]⟩, .string ⟨#[97, 98, 99, 100, 101]⟩] 9)
  go_wp2_with fail
  refine (pickT_any w.heap.size len cap a hm w1.heap.size 9 9 (by omega) (by omega) _ HW.cur HW.arg (by omega) (fun z => z.size ≤ 100) (texts_new w1 [⟨#[]⟩, ⟨#[0]⟩, ⟨#[1]⟩, ⟨#[255]⟩, ⟨#[1, 0]⟩, ⟨#[0, 1]⟩, ⟨#[59, 154, 202, 0]⟩, ⟨#[59, 154, 202, 1]⟩, ⟨#[97, 98, 99, 100, 101]⟩] _ rfl 9 (fun z => z.size ≤ 100) (by intro z hz; simp at hz; rcases hz with rfl | rfl | rfl | rfl | rfl | rfl | rfl | rfl | rfl <;> decide))).mono ?_
  rintro e w2 ⟨z, rfl, hz, hE⟩
  have hB : Below w.heap.size w w2 := hb.trans (below_of_grown (HW.trans hE).grown (Nat.le_of_lt hcl))
  have HZ : Hid (z.size ≤ 100) := hz
  clear hE HW hz hC hA1 hb
  go_wp2
  go_ret
  exact ⟨_, rfl, HZ.out, hB⟩

theorem ArgAt.up2 {w W : World} {a : Option Addr} {len : Nat} (h : ArgAt w a len w.heap.size) (hb : Below w.heap.size w W) : ArgAt W a len W.heap.size := fun j hj => by
  obtain ⟨b, off, z, h1, h2, h3, h4⟩ := h j hj
  exact ⟨b, off, z, h1, by have := hb.size; omega, (hb.cell (p := ⟨b, off + j, none⟩) h2).trans h3, h4⟩
/-- What DrawItemText leaves. -/
def DtEnd (w : World) (e : Ending) (w' : World) : Prop := ∃ (n : Nat) (x : It (n + 1)) (v : Value), e = .returned (itV (itL x) (itT x) v) ∧ TO n (fun b => w.heap.size ≤ b ∧ b < w'.heap.size) w' v (itK x) ∧ (itT x).size ≤ 1000 ∧ cntD (n + 1) x ≤ 100 ∧ Below w.heap.size w w'

set_option maxHeartbeats 1600000 in
set_option maxRecDepth 100000 in
theorem drawItemText_any (len cap : Nat) (a : Option Addr) (hm : len ≤ 1048576) (w : World) (hA : ArgAt w a len w.heap.size) :
    Calls Try.prog 10 #[.slice a len cap] w (DtEnd w) := by
  obtain ⟨W, hW, hb, hr⟩ := box1 w 26 #[.bool false, .string ⟨#[]⟩, .slice none 0 0]
  have HA : Hid (ArgAt W a len W.heap.size) := hA.up2 hb
  have hlW : w.heap.size < W.heap.size := hr.lt
  clear hA
  go_enter Try.func10, Try.ntmps10
  go_wp2_with fail
  clear hW
  refine (new_any len cap a hm _ HA.out).mono ?_
  rintro e w1 ⟨rfl, hC, hA1, hb1⟩
  have hr1 := hr.on hb1 hr.lt
  have hB1 := below_then hb hb1
  have HC : Hid (CurAt w1 W.heap.size a len cap ∧ ArgAt w1 a len W.heap.size) := ⟨hC, hA1⟩
  have hlc : W.heap.size < w1.heap.size := hC.lt
  clear hC hA1 hr hb1 hb
  go_wp2_with fail
  refine (drawAny W.heap.size len cap a hm w1 HC.out.1 HC.out.2).mono ?_
  rintro e w2 ⟨n, x, v, rfl, hto, htx, hcx, hE⟩
  obtain ⟨va, vc, rfl⟩ := hto.slice
  have hr2 := hr1.grown hE.grown (by omega)
  have hB2 : Below w.heap.size w w2 := hB1.trans ((below_of_grown hE.grown (Nat.le_of_lt hlc)).mono (by omega))
  have HX : Hid (TO n (fun b => w1.heap.size ≤ b ∧ b < w2.heap.size) w2 (.slice va (itK x).length vc) (itK x) ∧ (itT x).size ≤ 1000 ∧ cntD (n + 1) x ≤ 100) := ⟨hto, htx, hcx⟩
  clear hE hr1 hB1 HC hto htx hcx
  unfold itV
  go_wp2_with (refine store_blkS (cs' := #[.bool (itL x), .string (itT x), .slice va (itK x).length vc]) rfl rfl rfl rfl rfl hr2 infoIt rfl (onesIt _ _ _ _ _) ?_; intro V9 h9 hall hoth hbel; have hB9 := hbel _ _ (Nat.le_refl _) hB2; have hb9 := hbel 0 _ (Nat.zero_le _) (Below.refl 0 _); clear hoth hbel)
  refine bodyPost_ret_by (result_blk rfl rfl h9 Try.underlying26 infoIt) rfl ⟨n, x, _, rfl, (HX.out.1.kept (w' := V9) fun b hb => hall b (by have := hb.1; omega)).more fun b hb => ⟨by have := hb.1; omega, by have := hb.2; have := hb9.size; omega⟩, HX.out.2.1, HX.out.2.2, hB9⟩

theorem textI_few {d : Nat} (x : It d) : (textI x).1.size ≤ 900 := by
  unfold textI
  split
  · split
    · assumption
    · exact Nat.zero_le _
  · exact Nat.zero_le _
/-- What DrawSameItem leaves. -/
def DsEnd (w : World) (e : Ending) (w' : World) : Prop := ∃ (n : Nat) (x : It (n + 1)) (v : Value) (m : Nat) (y : It (m + 1)) (u : Value), e = .returned (.tuple #[itV (itL x) (itT x) v, itV (itL y) (itT y) u]) ∧ TO n (fun b => w.heap.size ≤ b ∧ b < w'.heap.size) w' v (itK x) ∧ TO m (fun b => w.heap.size ≤ b ∧ b < w'.heap.size) w' u (itK y) ∧ (itT x).size ≤ 1000 ∧ (itT y).size ≤ 1000 ∧ cntD (n + 1) x ≤ 100 ∧ Below w.heap.size w w'

set_option maxHeartbeats 3200000 in
set_option maxRecDepth 100000 in
theorem drawSameItem_any (len cap : Nat) (a : Option Addr) (hm : len ≤ 1048576) (w : World) (hA : ArgAt w a len w.heap.size) :
    Calls Try.prog 21 #[.slice a len cap] w (DsEnd w) := by
  obtain ⟨W, hW, hb, hr, hs⟩ := boxes1r w 26 26 #[.bool false, .string ⟨#[]⟩, .slice none 0 0] #[.bool false, .string ⟨#[]⟩, .slice none 0 0]
  have HA : Hid (ArgAt W a len W.heap.size) := hA.up2 hb
  have hlW : w.heap.size + 1 < W.heap.size := hs.lt
  clear hA
  go_enter Try.func21, Try.ntmps21
  go_wp2_with fail
  clear hW
  refine (new_any len cap a hm _ HA.out).mono ?_
  rintro e w1 ⟨rfl, hC, hA1, hb1⟩
  have hr1 := hr.on hb1 hr.lt
  have hs1 := hs.on hb1 hs.lt
  have hB1 := below_then hb hb1
  have HC : Hid (CurAt w1 W.heap.size a len cap ∧ ArgAt w1 a len W.heap.size) := ⟨hC, hA1⟩
  have hlc : W.heap.size < w1.heap.size := hC.lt
  clear hC hA1 hr hs hb1 hb
  go_wp2_with fail
  refine (drawAny W.heap.size len cap a hm w1 HC.out.1 HC.out.2).mono ?_
  rintro e w2 ⟨n, x, v, rfl, hto, htx, hcx, hE⟩
  obtain ⟨va, vc, rfl⟩ := hto.slice
  obtain ⟨V, hV, hbV, hx⟩ := box1 w2 26 #[.bool (itL x), .string (itT x), .slice va (itK x).length vc]
  have hr2 := (hr1.grown hE.grown (by omega)).on hbV (by have := (hr1.grown hE.grown (c := W.heap.size) (by omega)).lt; omega)
  have hs2 := (hs1.grown hE.grown (by omega)).on hbV (by have := (hs1.grown hE.grown (c := W.heap.size) (by omega)).lt; omega)
  have HEV : Hid (CurEnd w1 V W.heap.size a len cap) := by
    show CurEnd w1 V W.heap.size a len cap
    rw [← hV]
    exact hE.alloc _
  have hl2 : w1.heap.size ≤ w2.heap.size := hE.grown.size
  have hlV : w2.heap.size < V.heap.size := hx.lt
  have HX : Hid (TO n (fun b => w1.heap.size ≤ b ∧ b < w2.heap.size) V (.slice va (itK x).length vc) (itK x) ∧ (itT x).size ≤ 1000 ∧ cntD (n + 1) x ≤ 100) := ⟨hto.kept (w' := V) fun b hb => hbV.block b hb.2, htx, hcx⟩
  clear hE hr1 hs1 HC hto htx hcx hbV
  unfold itV
  go_wp2_with fail
  refine (once_any W.heap.size len cap a hm 2 (by omega) (by omega) _ HEV.out.cur HEV.out.arg).mono ?_
  rintro e w3 ⟨o, rfl, hE⟩
  have hr3 := hr2.grown hE.grown (by omega)
  have hs3 := hs2.grown hE.grown (by omega)
  have hx3 := hx.grown hE.grown (by omega)
  have hl3 : V.heap.size ≤ w3.heap.size := hE.grown.size
  have HE3 : Hid (CurEnd w1 w3 W.heap.size a len cap) := HEV.out.trans hE
  have HX3 : Hid (TO n (fun b => w1.heap.size ≤ b ∧ b < w2.heap.size) w3 (.slice va (itK x).length vc) (itK x) ∧ (itT x).size ≤ 1000 ∧ cntD (n + 1) x ≤ 100) := ⟨HX.out.1.kept (w' := w3) fun b hb => hE.grown.block b (by have := hb.2; omega) (fun e => by have e2 := Option.some.inj e; have := hb.1; omega), HX.out.2⟩
  clear hE hr2 hs2 hx HEV HX hV
  cases o
  · go_wp2_with fail
    refine wp_region_ord [(0, false), (1, false), (2, true), (3, true), (4, true)] (fun w' => Blk w' w2.heap.size 26 #[.bool (itL x), .string (itT x), .slice va (itK x).length vc]) mixes (by kernel_rfl) hx3.drew ?_
    refine ord_loadB rfl rfl rfl rfl (fun w' h => h) Try.underlying26 infoIt (fun K hK => ?_)
    go_simp
    refine hK _ ?_
    clear hK K
    repeat (refine ord_float rfl rfl (fun K hK => ⟨_, (fun w' hw => by have q0 := hw.cell 0; go_simp; exact rfl), ?_⟩); go_simp; refine hK _ ?_; clear hK K)
    refine ord_call rfl rfl (fun K hK => ⟨_, _, (by go_simp <;> first | exact rfl | exact ⟨rfl, rfl⟩), ?_⟩)
    refine (drawAny W.heap.size len cap a hm w3.drew HE3.out.drew.cur HE3.out.drew.arg).mono ?_
    rintro e w4 ⟨m, y, u, rfl, hto, hty, hcy, hE⟩
    obtain ⟨ya, yc, rfl⟩ := hto.slice
    have hx4 := hx3.drew.grown hE.grown (by omega)
    have hr4 := hr3.drew.grown hE.grown (by omega)
    have hs4 := hs3.drew.grown hE.grown (by omega)
    have hl4 : w3.heap.size ≤ w4.heap.size := hE.grown.size
    have HB4 : Hid (Below w.heap.size w w4) := hB1.trans ((below_of_grown (HE3.out.drew.trans hE).grown (Nat.le_of_lt hlc)).mono (by omega))
    have HX4 : Hid (TO n (fun b => w1.heap.size ≤ b ∧ b < w2.heap.size) w4 (.slice va (itK x).length vc) (itK x) ∧ TO m (fun b => w3.heap.size ≤ b ∧ b < w4.heap.size) w4 (.slice ya (itK y).length yc) (itK y) ∧ (itT y).size ≤ 1000) := ⟨TO.kept (w := w3) (w' := w4) (fun b hb => (hE.grown.block b (by have := hb.2; show b < w3.heap.size; omega) (fun e => by have e2 := Option.some.inj e; have := hb.1; omega)).trans rfl) HX3.out.1, hto, hty⟩
    clear hE hr3 hs3 hx3 HE3 hto hty hcy
    unfold itV
    refine ⟨_, rfl, hx4, ?_⟩
    go_simp
    refine hK _ _ ?_
    clear hK K
    refine ord_storeS (cs' := #[.bool (itL x), .string (itT x), .slice va (itK x).length vc]) rfl rfl rfl rfl rfl rfl hr4 infoIt rfl (onesIt _ _ _ _ _) ?_
    intro u1 er hh1 hoth hbel
    have e4 := hoth _ _ _ (by omega) hx4
    have es := hoth _ _ _ (by omega) hs4
    have eb := hbel _ _ (Nat.le_refl _) HB4.out
    have ez : w4.heap.size ≤ u1.heap.size := (hbel 0 _ (Nat.zero_le _) (Below.refl _ _)).size
    refine ⟨e4, ?_⟩
    clear hoth hbel hr4 hs4 hx4 HB4
    refine ord_storeS (cs' := #[.bool (itL y), .string (itT y), .slice ya (itK y).length yc]) rfl rfl rfl rfl rfl rfl es infoIt rfl (onesIt _ _ _ _ _) ?_
    intro u2 fs hh2 hoth hbel
    have f4 := hoth _ _ _ (by omega) e4
    have fr := hoth _ _ _ (by omega) er
    have fb := hbel _ _ (by omega) eb
    have fz : u1.heap.size ≤ u2.heap.size := (hbel 0 _ (Nat.zero_le _) (Below.refl _ _)).size
    refine ⟨f4, ord_nil ?_⟩
    clear f4 e4 hoth hbel es er eb
    go_wp2
    refine bodyPost_ret_by (result_blk2 rfl rfl rfl fr fs Try.underlying26 infoIt Try.underlying26 infoIt) rfl ⟨n, x, _, m, y, _, rfl, ((HX4.out.1.kept (w' := u1) fun b hb => hh1 b (by have := hb.1; omega)).kept (w' := u2) fun b hb => hh2 b (by have := hb.1; omega)).more fun b hb => ⟨by have := hb.1; omega, by have := hb.2; omega⟩, ((HX4.out.2.1.kept (w' := u1) fun b hb => hh1 b (by have := hb.1; omega)).kept (w' := u2) fun b hb => hh2 b (by have := hb.1; omega)).more fun b hb => ⟨by have := hb.1; omega, by have := hb.2; omega⟩, HX3.out.2.1, HX4.out.2.2, HX3.out.2.2, fb⟩
  · go_wp2_with fail
    refine wp_region_ord [(0, false), (1, false), (2, true), (3, true)] (fun w' => Blk w' w2.heap.size 26 #[.bool (itL x), .string (itT x), .slice va (itK x).length vc]) mixes (by kernel_rfl) hx3.drew ?_
    refine ord_loadB rfl rfl rfl rfl (fun w' h => h) Try.underlying26 infoIt (fun K hK => ?_)
    go_simp
    refine hK _ ?_
    clear hK K
    refine ord_loadB rfl rfl rfl rfl (fun w' h => h) Try.underlying26 infoIt (fun K hK => ?_)
    go_simp
    refine hK _ ?_
    clear hK K
    have HB4 : Hid (Below w.heap.size w w3.drew) := hB1.trans ((below_of_grown HE3.out.drew.grown (Nat.le_of_lt hlc)).mono (by omega))
    have hr4 := hr3.drew
    have hs4 := hs3.drew
    have hx4 := hx3.drew
    have HX4 : Hid (TO n (fun b => w1.heap.size ≤ b ∧ b < w2.heap.size) w3.drew (.slice va (itK x).length vc) (itK x)) := TO.kept (w := w3) (w' := w3.drew) (fun b hb => rfl) HX3.out.1
    have hld : w3.drew.heap.size = w3.heap.size := rfl
    generalize w3.drew = w4 at HB4 hr4 hs4 hx4 HX4 hld ⊢
    clear hr3 hs3 hx3 HE3
    refine ord_storeS (cs' := #[.bool (itL x), .string (itT x), .slice va (itK x).length vc]) rfl rfl rfl rfl rfl rfl hr4 infoIt rfl (onesIt _ _ _ _ _) ?_
    intro u1 er hh1 hoth hbel
    have e4 := hoth _ _ _ (by omega) hx4
    have es := hoth _ _ _ (by omega) hs4
    have eb := hbel _ _ (Nat.le_refl _) HB4.out
    have ez : w4.heap.size ≤ u1.heap.size := (hbel 0 _ (Nat.zero_le _) (Below.refl _ _)).size
    refine ⟨e4, ?_⟩
    clear hoth hbel hr4 hs4 hx4 HB4
    refine ord_storeS (cs' := #[.bool (itL x), .string (itT x), .slice va (itK x).length vc]) rfl rfl rfl rfl rfl rfl es infoIt rfl (onesIt _ _ _ _ _) ?_
    intro u2 fs hh2 hoth hbel
    have f4 := hoth _ _ _ (by omega) e4
    have fr := hoth _ _ _ (by omega) er
    have fb := hbel _ _ (by omega) eb
    have fz : u1.heap.size ≤ u2.heap.size := (hbel 0 _ (Nat.zero_le _) (Below.refl _ _)).size
    refine ⟨f4, ord_nil ?_⟩
    clear f4 e4 hoth hbel es er eb
    have hq : TO n (fun b => w.heap.size ≤ b ∧ b < u2.heap.size) u2 (.slice va (itK x).length vc) (itK x) := ((HX4.out.kept (w' := u1) fun b hb => hh1 b (by have := hb.1; omega)).kept (w' := u2) fun b hb => hh2 b (by have := hb.1; omega)).more fun b hb => ⟨by have := hb.1; omega, by have := hb.2; omega⟩
    have HQ : Hid (TO n (fun b => w.heap.size ≤ b ∧ b < u2.heap.size) u2 (.slice va (itK x).length vc) (itK x)) := hq
    clear hq hh1 hh2
    go_wp2
    refine bodyPost_ret_by (result_blk2 rfl rfl rfl fr fs Try.underlying26 infoIt Try.underlying26 infoIt) rfl ⟨n, x, _, n, x, _, rfl, HQ.out, HQ.out, HX3.out.2.1, HX3.out.2.1, HX3.out.2.2, fb⟩

set_option maxHeartbeats 3200000 in
set_option maxRecDepth 100000 in
theorem drawReadItem_any (len cap : Nat) (a : Option Addr) (hm : len ≤ 1048576) (w : World) (hA : ArgAt w a len w.heap.size) :
    Calls Try.prog 14 #[.slice a len cap] w fun e w' => ∃ t : ByteArray, e = .returned (.string t) ∧ t.size ≤ 1000 ∧ Below w.heap.size w w' := by
  have HA : Hid (ArgAt w a len w.heap.size) := hA
  clear hA
  go_enter Try.func14, Try.ntmps14
  go_wp2_with fail
  refine (new_any len cap a hm _ HA.out).mono ?_
  rintro e w1 ⟨rfl, hC, hA1, hb⟩
  have hcl := hC.lt
  have HC : Hid (CurAt w1 w.heap.size a len cap ∧ ArgAt w1 a len w.heap.size ∧ Below w.heap.size w w1) := ⟨hC, hA1, hb⟩
  clear hC hA1 hb
  go_wp2_with fail
  refine (below_any w.heap.size len cap a hm 6 (by omega) (by omega) _ HC.out.1 HC.out.2.1).mono ?_
  rintro e w2 ⟨k, rfl, k0, k1, hE⟩
  have HE2 : Hid (CurEnd w1 w2 w.heap.size a len cap) := hE
  clear hE
  go_wp2_with fail
  refine (drawAny w.heap.size len cap a hm w2 HE2.out.cur HE2.out.arg).mono ?_
  rintro e w3 ⟨n, x, v, rfl, hto, htx, hcx, hE⟩
  have HE3 : Hid (CurEnd w1 w3 w.heap.size a len cap) := HE2.out.trans hE
  have HT : Hid (Calls Try.prog 13 #[itV (itL x) (itT x) v] w3 fun f w' => f = .returned (.tuple #[.string (textI x).1, .bool (textI x).2]) ∧ Below w3.heap.size w3 w') := sItemText_any n x v w3 (by omega) (hto.in.at fun b hb => hb.2)
  have hsz := textI_few x
  obtain ⟨va, vc, rfl⟩ := hto.slice
  generalize (textI x).1 = t at HT hsz
  generalize (textI x).2 = o at HT
  clear hE HE2 hto htx hcx
  unfold itV at HT
  unfold itV
  go_wp2_with fail
  refine HT.out.mono ?_
  rintro e w4 ⟨rfl, hb4⟩
  have HE4 : Hid (CurEnd w1 w4 w.heap.size a len cap) := HE3.out.below hb4
  have hB4 : Below w.heap.size w w4 := HC.out.2.2.trans (below_of_grown HE4.out.grown (Nat.le_of_lt hcl))
  have HTs : Hid (t.size ≤ 900 ∧ w.heap.size < w4.heap.size) := ⟨hsz, HE4.out.cur.lt⟩
  clear hb4 HE3 HT hsz
  by_cases h0 : k = 0
  · subst h0
    go_wp2_with fail
    refine (spoilt_any w.heap.size len cap a hm t (by have := HTs.out.1; omega) _ HE4.out.cur HE4.out.arg).mono ?_
    rintro e w5 ⟨u, rfl, hu, hE⟩
    have hB5 : Below w.heap.size w w5 := HC.out.2.2.trans (below_of_grown (HE4.out.trans hE).grown (Nat.le_of_lt hcl))
    have HU : Hid (u.size ≤ 1000) := by have := HTs.out.1; show _ ≤ _; omega
    clear hE hB4 hu
    go_wp2
    go_ret
    exact ⟨_, rfl, HU.out, hB5⟩
  · have h0' : (k == 0) = false := by rw [beq_eq_false_iff_ne]; exact h0
    by_cases h1 : k = 1
    · subst h1
      have hcat : ∀ W : World, (Op.stringOp .add t ⟨#[120]⟩).run Try.prog W = .ok (.string (t ++ ⟨#[120]⟩)) W := fun W => run_string_add_sum (P := Try.prog) W t ⟨#[120]⟩ (by have h1 := HTs.out.1; show t.size + 1 ≤ 9223372036854775807; omega)
      have HU : Hid ((t ++ ⟨#[120]⟩).size ≤ 1000) := by
        have h1 := HTs.out.1
        show _ ≤ _
        rw [ByteArray.size_append]
        show t.size + 1 ≤ 1000
        omega
      generalize t ++ ⟨#[120]⟩ = u at hcat HU
      go_wp2
      go_ret
      exact ⟨_, rfl, HU.out, hB4⟩
    · have h1' : (k == 1) = false := by rw [beq_eq_false_iff_ne]; exact h1
      by_cases h2 : k = 2
      · subst h2
        go_wp2_with fail
        have HW := HE4.out.alloc (.cells #[.string ⟨#[]⟩, .string ⟨#[129, 5]⟩, .string ⟨#[184, 5, 104, 101, 108, 108, 111]⟩, .string ⟨#[248, 1, 97]⟩, .string ⟨#[194, 128]⟩, .string ⟨#[185, 0, 64]⟩, .string ⟨#[191]⟩, .string ⟨#[255, 1, 2]⟩] 9)
        have hl4 := HTs.out.2
        refine (pickT_any w.heap.size len cap a hm w4.heap.size 8 8 (by omega) (by omega) _ HW.cur HW.arg (by omega) (fun z => z.size ≤ 100) (texts_new w4 [⟨#[]⟩, ⟨#[129, 5]⟩, ⟨#[184, 5, 104, 101, 108, 108, 111]⟩, ⟨#[248, 1, 97]⟩, ⟨#[194, 128]⟩, ⟨#[185, 0, 64]⟩, ⟨#[191]⟩, ⟨#[255, 1, 2]⟩] _ rfl 9 (fun z => z.size ≤ 100) (by intro z hz; simp at hz; rcases hz with rfl | rfl | rfl | rfl | rfl | rfl | rfl | rfl <;> decide))).mono ?_
        rintro e w5 ⟨u, rfl, hu, hE⟩
        have hB5 : Below w.heap.size w w5 := HC.out.2.2.trans (below_of_grown (HW.trans hE).grown (Nat.le_of_lt hcl))
        have HU : Hid (u.size ≤ 1000) := by show _ ≤ _; omega
        clear hE hB4 hu HW
        go_wp2
        go_ret
        exact ⟨_, rfl, HU.out, hB5⟩
      · have h2' : (k == 2) = false := by rw [beq_eq_false_iff_ne]; exact h2
        have HU : Hid (t.size ≤ 1000) := by have := HTs.out.1; show _ ≤ _; omega
        go_wp2
        go_ret
        exact ⟨_, rfl, HU.out, hB4⟩

end Go.Proofs.Ytmpjnabadplbjaa
