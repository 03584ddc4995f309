/-
  The walk of the specification's l17Read where it reads a list.
  (-DROP-: what the seat lacks is left out.)
-/
import Derived.Test.YtmpjnabadplbjaaItemR2
import Derived.Test.YtmpjnabadplbjaaDraw
namespace Go.Proofs.Ytmpjnabadplbjaa
open Go.RowKit

theorem infoItz : (Try.prog.info? 26).map (fun i => (i.zero, i.size, i.bytes)) = some (some (.agg #[.bool false, .string ⟨#[]⟩, .slice none 0 0]), 3, 48) := by kernel_rfl
theorem cell_three_any (w : World) (x y z : Value) (t : TypeId) : ∀ j u, [x, y, z][j]? = some u → (w.alloc (.cells #[x, y, z] t)).cell? ((⟨w.heap.size, 0, none⟩ : Addr).add j) = some u := by
  intro j u hj
  rw [Addr.add_lit, Nat.zero_add, cell_of_row _ w.heap.size j #[x, y, z] t (0, 0) (heap_alloc_new w _)]
  simpa using hj
theorem three_cellI (l : Bool) (t : ByteArray) (a : Option Addr) (n c : Nat) : ∀ u ∈ [Value.bool l, .string t, .slice a n c], u.oneCell' = true := by
  intro u hu
  simp at hu
  rcases hu with rfl | rfl | rfl <;> rfl
theorem KOwn.same {ty d lo hi hi' : Nat} {w w' : World} {v : Value} {K : List (It (d + 1))} {vs : List Value} (h : KOwn ty d lo hi w v K vs) (hs : Same lo hi w w') (hh : hi ≤ hi') : KOwn ty d lo hi' w' v K vs :=
  ⟨owns_same h.row hs fun k hk => ⟨(h.row.lt k hk).1, h.top k hk⟩, fun g hg => by have := h.top g hg; omega, fun j hj => by
    obtain ⟨h1, h2, h3, h4⟩ := h.each j hj
    exact ⟨h1, h2, h3, (h4.kept (w' := w') fun b hb => hs b hb.1 hb.2.1).more fun b hb => ⟨hb.1, by omega, hb.2.2⟩⟩⟩
theorem KIn.slice {S : Nat → Prop} {d : Nat} {w : World} {v : Value} {K : List (It d)} (h : KIn S d w v K) : ∃ a cp, v = .slice a K.length cp := by
  cases d with
  | zero => obtain ⟨a, cp, h1, _⟩ := h; exact ⟨a, cp, h1⟩
  | succ d => obtain ⟨a, cp, h1, _⟩ := h; exact ⟨a, cp, h1⟩
theorem KOwn.slice {ty d lo hi : Nat} {w : World} {v : Value} {K : List (It (d + 1))} {vs : List Value} (h : KOwn ty d lo hi w v K vs) : ∃ a cp, v = .slice a K.length cp := by
  rcases h.row.2 with ⟨rfl, h0⟩ | ⟨g, cp, cur, rfl, _⟩
  · exact ⟨none, 0, by rw [h0]⟩
  · exact ⟨_, cp, rfl⟩

theorem row_slice {w : World} {B e sz n : Nat} {v : Value} {xs : List Value} (h : w.ownsRow B e sz v n xs) : ∃ a cp, v = .slice a n cp := by
  rcases h.2 with ⟨rfl, h0⟩ | ⟨g, cp, cur, rfl, _⟩
  · exact ⟨none, 0, by rw [h0]⟩
  · exact ⟨_, cp, rfl⟩

/-- What stands at the loop's head. -/
structure RdInv (f : Nat) (w : World) (gX : Nat) (g k : Nat) (acc : List (It (f + 1))) (v : Value) (vs : List Value) (R : Option (List (It (f + 1)))) (rd : Nat → Option (It (f + 1) × Nat)) (stop : Nat) (wr : World) : Prop where
  rest : kidsR rd stop g k acc = R
  fuel : g + acc.length = 18
  bel : Below w.heap.size w wr
  res : Blk wr w.heap.size 26 #[.bool false, .string ⟨#[]⟩, .slice none 0 0]
  box : Blk wr gX 26 #[.bool true, .string ⟨#[]⟩, v]
  own : KOwn 26 f (gX + 1) wr.heap.size wr v acc vs
  low : w.heap.size < gX
  few : acc.length ≤ 17

/-- How many kids the box holds. -/
def boxLen (gX : Nat) (w : World) : Nat := match w.cell? ⟨gX, 2, none⟩ with
  | some (.slice _ n _) => n
  | _ => 0
theorem boxLen_of {gX : Nat} {w : World} {a : Option Addr} {n cp : Nat} (h : Blk w gX 26 #[.bool true, .string ⟨#[]⟩, .slice a n cp]) : boxLen gX w = n := by
  unfold boxLen
  rw [h.cell 2]
  rfl

set_option maxHeartbeats 3200000 in
set_option maxRecDepth 100000 in
theorem sRead_list (t : ByteArray) (i e f b : Nat) (ht : t.size ≤ 1000000) (hi : i < t.size) (he : e ≤ 4) (hb : t[i].toNat = b) (hl : 192 ≤ b) (h3 : (sizeR t i 192 b).2.2 = true) (hyes : (sizeR t i 192 b).1 + (sizeR t i 192 b).2.1 ≤ t.size) (w : World) (rd : Nat → Option (It (f + 1) × Nat))
    (hrd : ∀ k x k', rd k = some (x, k') → k' ≤ 1000000)
    (hC : ∀ (k : Nat) w', k ≤ 1000000 → Calls Try.prog 42 #[.string (t.extract 0 ((sizeR t i 192 b).1 + (sizeR t i 192 b).2.1)), .int .i64 (k : Int), .int .i64 ((e + 1 : Nat) : Int)] w' (RdEnd f w' (rd k))) :
    Calls Try.prog 42 #[.string t, .int .i64 (i : Int), .int .i64 (e : Int)] w (RdEnd (f + 1) w ((kidsR rd ((sizeR t i 192 b).1 + (sizeR t i 192 b).2.1) 18 (sizeR t i 192 b).1 []).map fun K => ((true, ⟨#[]⟩, K), (sizeR t i 192 b).1 + (sizeR t i 192 b).2.1))) := by
  obtain ⟨W, hW, hbW, hr⟩ := box1 w 26 #[.bool false, .string ⟨#[]⟩, .slice none 0 0]
  have hi0 : (0 : Int) ≤ (i : Int) := by omega
  have hi1 : (i : Int) < (t.size : Int) := by omega
  have hb1 : ¬ (b : Int) < 128 := by omega
  have hl' : (192 : Int) ≤ (b : Int) := by omega
  have HC : Hid (∀ w, Calls Try.prog 62 #[.string t, .int .i64 (i : Int), .int .i64 192] w fun f w' => f = .returned (.tuple #[.int .i64 ((sizeR t i 192 b).1 : Int), .int .i64 ((sizeR t i 192 b).2.1 : Int), .bool true]) ∧ Below w.heap.size w w') := fun w => by
    have h := sSize17_any t i 192 b ht hi hb (by omega) w
    rw [h3] at h
    exact h
  clear h3
  have HK : Hid (∀ (k : Nat) w', k ≤ 1000000 → Calls Try.prog 42 #[.string (t.extract 0 ((sizeR t i 192 b).1 + (sizeR t i 192 b).2.1)), .int .i64 (k : Int), .int .i64 ((e + 1 : Nat) : Int)] w' (RdEnd f w' (rd k))) := hC
  have HRD : Hid (∀ k x k', rd k = some (x, k') → k' ≤ 1000000) := hrd
  clear hC hrd
  generalize (sizeR t i 192 b).1 = s1 at HC HK hyes ⊢
  generalize (sizeR t i 192 b).2.1 = s2 at HC HK hyes ⊢
  obtain ⟨R, hR⟩ : ∃ R, kidsR rd (s1 + s2) 18 s1 [] = R := ⟨_, rfl⟩
  have HR : Hid (kidsR rd (s1 + s2) 18 s1 [] = R) := hR
  rw [hR]
  clear hR
  have hs0 : ¬ (t.size : Int) - (s1 : Int) < (s2 : Int) := by omega
  have hs1 : (s1 : Int) ≤ (t.size : Int) := by omega
  go_enter Try.func42, Try.ntmps42
  go_wp2_with fail
  clear hW
  refine (HC.out _).mono ?_
  rintro g w2 ⟨rfl, hb2⟩
  have hr2 := hr.on hb2 hr.lt
  have hB2 := below_then hbW hb2
  have hlow : w.heap.size < w2.heap.size := hr2.lt
  clear hr hbW hb2
  go_wp2_with (refine store_blk (cs' := #[.bool true, .string ⟨#[]⟩, .slice none 0 0]) rfl rfl rfl rfl rfl (Blk.new _ _ _) infoIt rfl (onesIt _ _ _ _ _) ?_; intro V h5 hoth hbel; have hrV := hoth _ _ _ (by omega) (hr2.alloc _); have hbV := hbel _ _ (by omega) (hB2.alloc hB2.size _); clear hoth hbel)
  have H0 : Hid (RdInv f w w2.heap.size 18 s1 [] (.slice none 0 0) [] R rd (s1 + s2) V) := ⟨HR.out, rfl, hbV, hrV, h5, ⟨⟨rfl, .inl ⟨rfl, rfl⟩⟩, fun g hg => (by cases hg), fun j hj => absurd hj (Nat.not_lt_zero _)⟩, hlow, Nat.zero_le _⟩
  clear hr2 hB2 hlow hrV hbV h5 HR HC
  generalize w2.heap.size = gX at H0 ⊢
  go_loopw [15] (fun i wr => ∃ (g k : Nat) (acc : List (It (f + 1))) (v : Value) (vs : List Value), i = .int .i64 (k : Int) ∧ k ≤ 1000000 ∧ Hid (RdInv f w gX g k acc v vs R rd (s1 + s2) wr)) (fun _ wr => 18 - boxLen gX wr)
  case atStart => exact ⟨18, s1, [], _, _, rfl, by omega, H0⟩
  case round =>
    obtain ⟨g, k, acc, v, vs, rfl, hk, HI⟩ := hrel
    clear H0
    obtain ⟨a, cp, rfl⟩ := HI.out.own.slice
    have hx := HI.out.box
    have hB0 := HI.out.bel
    have hr := HI.out.res
    have q0 := hx.cell 0
    have q1 := hx.cell 1
    have q2 := hx.cell 2
    obtain ⟨g, rfl⟩ : ∃ g', g = g' + 1 := ⟨g - 1, by
      have h1 := HI.out.few
      have h2 := HI.out.fuel
      omega⟩
    by_cases hlt : k < s1 + s2
    · have hlt' : (k : Int) < (s1 : Int) + (s2 : Int) := by omega
      have hk0 : (0 : Int) ≤ (k : Int) := by omega
      have hwe : wrap64 ((e : Int) + 1) = ((e + 1 : Nat) : Int) := by rw [IntWalk.wrap64_in _ (by omega)]; omega
      have he1 : (e : Int) + 1 = ((e + 1 : Nat) : Int) := by omega
      have HCk : Hid (Calls Try.prog 42 #[.string (t.extract 0 (s1 + s2)), .int .i64 (k : Int), .int .i64 ((e + 1 : Nat) : Int)] wr (RdEnd f wr (rd k))) := HK.out k wr hk
      generalize ((e + 1 : Nat) : Int) = e1 at HCk he1 hwe
      have HRr : Hid (kidsR rd (s1 + s2) (g + 1) k acc = R) := HI.out.rest
      cases hrk : rd k with
      | none =>
        rw [hrk] at HCk
        have HR2 : Hid (R = none) := by
          show _ = _
          have h := HRr.out
          rw [kidsR, if_pos hlt, hrk] at h
          exact h.symm
        go_wp2_with fail
        refine HCk.out.mono ?_
        rintro fe w3 ⟨hb3, rfl⟩
        have hr3 := (hr.on hb3 hr.lt)
        have hB3 := below_then hB0 hb3
        have hlr : w.heap.size < w3.heap.size := hr3.lt
        clear hr hB0 hx q0 q1 q2 hb3
        unfold itV
        go_wp2_with (first | (refine store_blk (cs' := #[.bool false, .string ⟨#[]⟩, .slice none 0 0]) rfl rfl rfl rfl rfl (Blk.new _ _ _) infoIt rfl (onesIt _ _ _ _ _) ?_; intro V1 h51 hoth1 hbel1; have hrV := hoth1 _ _ _ (by omega) (hr3.alloc _); have hbV1 := hbel1 _ _ (by omega) (hB3.alloc hB3.size _); clear hoth1 hbel1) | (refine store_blk (cs' := #[.bool false, .string ⟨#[]⟩, .slice none 0 0]) rfl rfl rfl rfl rfl hrV infoIt rfl (onesIt _ _ _ _ _) ?_; intro V h5 hoth hbel; have hbV := hbel _ _ (Nat.le_refl _) hbV1; clear hoth hbel))
        refine bodyPost_ret_by (result_It3 rfl rfl rfl rfl h5 Try.underlying26 infoIt) rfl ⟨hbV, by rw [HR2.out]; rfl⟩
      | some y =>
        obtain ⟨x, k'⟩ := y
        have hk' : k' ≤ 1000000 := HRD.out k x k' hrk
        rw [hrk] at HCk
        have HR2 : Hid (R = if 17 ≤ acc.length then none else kidsR rd (s1 + s2) g k' (acc ++ [x])) := by
          show _ = _
          have h := HRr.out
          rw [kidsR, if_pos hlt, hrk] at h
          exact h.symm
        have hx3' := hx
        go_wp2_with fail
        refine HCk.out.mono ?_
        rintro fe w3 ⟨hb3, v', rfl, hin, htx⟩
        obtain ⟨a', cp', rfl⟩ := hin.slice
        have hr3 := (hr.on hb3 hr.lt)
        have hx3 := (hx.on hb3 hx.lt)
        have hB3 := below_then hB0 hb3
        have hlr : w.heap.size < w3.heap.size := hr3.lt
        have hlx : gX < w3.heap.size := hx3.lt
        have HIN : Hid (KIn (fun b => wr.heap.size ≤ b ∧ b < w3.heap.size) f w3 (.slice a' (itK x).length cp') (itK x) ∧ (itT x).size ≤ 1000000 ∧ Below wr.heap.size wr w3) := ⟨hin, htx, hb3⟩
        clear hr hB0 hx hx3' q0 q1 q2 hb3 hin htx
        unfold itV
        by_cases h17 : 17 ≤ acc.length
        · rw [if_pos h17] at HR2
          go_wp2_with (first | (refine store_blk (cs' := #[.bool (itL x), .string (itT x), .slice a' (itK x).length cp']) rfl rfl rfl rfl rfl (Blk.new _ _ _) infoIt rfl (onesIt _ _ _ _ _) ?_; intro V1 h51 hoth1 hbel1; have hrV := hoth1 _ _ _ (by omega) (hr3.alloc _); have hbV1 := hbel1 _ _ (by omega) (hB3.alloc hB3.size _); have hxV := hoth1 _ _ _ (by omega) (hx3.alloc _); have p2 := hxV.cell 2; clear hoth1 hbel1) | (refine store_blk (cs' := #[.bool false, .string ⟨#[]⟩, .slice none 0 0]) rfl rfl rfl rfl rfl hrV infoIt rfl (onesIt _ _ _ _ _) ?_; intro V h5 hoth hbel; have hbV := hbel _ _ (Nat.le_refl _) hbV1; clear hoth hbel))
          refine bodyPost_ret_by (result_It3 rfl rfl rfl rfl h5 Try.underlying26 infoIt) rfl ⟨hbV, by rw [HR2.out]; rfl⟩
        · rw [if_neg h17] at HR2
          have HOVT : ∀ V1, Below w3.heap.size w3 V1 → Hid (KOwn 26 f (gX + 1) wr.heap.size V1 (.slice a acc.length cp) acc vs ∧ KIn (fun b => wr.heap.size ≤ b ∧ b < V1.heap.size) f V1 (.slice a' (itK x).length cp') (itK x) ∧ wr.heap.size ≤ V1.heap.size ∧ gX + 1 ≤ V1.heap.size ∧ gX + 1 ≤ wr.heap.size) := fun V1 h => by
            have h1 := HIN.out.2.2.size
            have h2 := h.size
            have h3 := HI.out.box.lt
            refine ⟨(HI.out.own.same (Same.of_below HIN.out.2.2 (Nat.le_refl _)) (Nat.le_refl _)).same (Same.of_below h h1) (Nat.le_refl _), (HIN.out.1.kept (w' := V1) fun b hb => h.block b hb.2).more fun b hb => ⟨hb.1, by omega⟩, by omega, by omega, by omega⟩
          obtain ⟨i9, hi9, hz0, hz1, hz2⟩ := info_parts infoItz
          have hm63 : acc.length + 1 ≤ maxLen := by unfold maxLen; omega
          have hm47 : (acc.length + 1) * 48 ≤ 140737488355328 := by omega
          go_wp2_with (first | (refine store_blk (cs' := #[.bool (itL x), .string (itT x), .slice a' (itK x).length cp']) rfl rfl rfl rfl rfl (Blk.new _ _ _) infoIt rfl (onesIt _ _ _ _ _) ?_; intro V1 h51 hoth1 hbel1; have hrV := hoth1 _ _ _ (by omega) (hr3.alloc _); have hbV1 := hbel1 _ _ (by omega) (hB3.alloc hB3.size _); have hxV := hoth1 _ _ _ (by omega) (hx3.alloc _); have p2 := hxV.cell 2; have k0 := h51.cell 0; have k1 := h51.cell 1; have k2 := h51.cell 2; have HOV := HOVT V1 (hbel1 w3.heap.size w3 (Nat.le_refl _) ((Below.refl _ _).alloc (Nat.le_refl _) _)); clear hoth1 hbel1) | (at_builtin; refine wpList_append_own_at _ rfl _ _ 24 rfl (gX + 1) 26 i9 (.agg #[.bool false, .string ⟨#[]⟩, .slice none 0 0]) 3 48 Try.underlying24 hi9 hz0 hz1 hz2 rfl (by decide) _ _ _ rfl (HOV.out.1.row.alloc _) ⟨V1.heap.size, 0, none⟩ 1 1 [.bool (itL x), .string (itT x), .slice a' (itK x).length cp'] rfl rfl (cell_three_any _ _ _ _ _) (three_cellI _ _ _ _ _) hm63 hm47 (room_for HOV.out.2.2.2.1 _) ?_; intro v7 w7 hown' hgrow _ hat; obtain ⟨a7, cp7, rfl⟩ := row_slice hown'; have HW7 := (hgrow.block gX (hxV.alloc _).lt (fun e => by have := (HOV.out.1.row.lt _ e.symm).1; omega)).trans (hxV.alloc _); have HW8 : Blk w7 gX _ _ := HW7; have z2 := HW8.cell 2; have f2 := HW8.free 2))
          have HRN : Hid (kidsR rd (s1 + s2) g k' (acc ++ [x]) = R) := HR2.out.symm
          have hAb : Below V1.heap.size V1 (V1.alloc (.cells #[.bool (itL x), .string (itT x), .slice a' (itK x).length cp'] 26)) := (Below.refl _ _).alloc (Nat.le_refl _) _
          have hAs : (V1.alloc (.cells #[.bool (itL x), .string (itT x), .slice a' (itK x).length cp'] 26)).heap.size = V1.heap.size + 1 := by simp
          have own7 := KOwn.app (hi' := w7.heap.size) (HOV.out.1.same (Same.of_below hAb HOV.out.2.2.1) (Nat.le_refl _)) hown' hgrow hat ((HOV.out.2.1.kept (fun b hb => hAb.block b hb.2)).more (fun b hb => ⟨hb.1, by have := hb.2; omega⟩)) (by have := HIN.out.2.1; omega) (by have := HOV.out.2.2.1; omega) HOV.out.2.2.2.2 hgrow.size (fun k hk => (hown'.lt k hk).2)
          have hZb := HW8.set 2 (.slice a7 (acc.length + 1) cp7)
          have hZ2 : Blk (w7.setCell ⟨gX, 2, none⟩ (.slice a7 (acc.length + 1) cp7)) gX 26 #[.bool true, .string ⟨#[]⟩, .slice a7 (acc.length + 1) cp7] := hZb
          have hgw : w.heap.size < gX := HI.out.low
          have hown7 : ∀ k, (Value.slice a acc.length cp).ownBlock = some k → gX < k := fun k hk => (HOV.out.1.row.lt k hk).1
          have hres7 : Blk w7 w.heap.size 26 #[.bool false, .string ⟨#[]⟩, .slice none 0 0] := (hgrow.block w.heap.size (hrV.alloc _).lt (fun e => by have := hown7 _ e.symm; omega)).trans (hrV.alloc _)
          have hbel7 : Below w.heap.size w w7 := (hbV1.alloc hbV1.size _).grown hgrow (by have := hbV1.size; omega) (fun k hk => by have := hown7 k hk; omega)
          have hfew := HI.out.fuel
          refine ⟨⟨g, k', acc ++ [x], _, _, rfl, hk', ⟨HRN.out, by rw [List.length_append, List.length_singleton]; omega, hbel7.setCell (by show w.heap.size ≤ gX; omega) _, hres7.other (by omega) _, hZ2, own7.same (Same.set _ _ _ (.inl (Nat.lt_succ_self gX))) (by simp), hgw, by rw [List.length_append, List.length_singleton]; omega⟩⟩, ?_⟩
          rw [boxLen_of hZ2, boxLen_of HI.out.box]
          omega
    · have hlt' : ¬ (k : Int) < (s1 : Int) + (s2 : Int) := by omega
      have HR2 : Hid (R = some acc) := by
        show _ = _
        have h := HI.out.rest
        rw [kidsR, if_neg hlt] at h
        exact h.symm
      have hgw : w.heap.size < gX := HI.out.low
      go_wp2_with (refine store_blkS (cs' := #[.bool true, .string ⟨#[]⟩, .slice a acc.length cp]) rfl rfl rfl rfl rfl hr infoIt rfl (onesIt _ _ _ _ _) ?_; intro V h5 hall hoth hbel; have hbV := hbel _ _ (Nat.le_refl _) hB0; have hbV2 := hbel w.heap.size wr (Nat.le_refl _) (Below.refl _ _); clear hoth hbel)
      have hin := (HI.out.own.in (by have := HI.out.few; omega)).kept (w' := V) (fun b hb => hall b (by have := hb.1; omega))
      refine bodyPost_ret_by (result_It3 rfl rfl rfl rfl h5 Try.underlying26 infoIt) rfl ⟨hbV, by
        rw [HR2.out]
        exact ⟨_, rfl, hin.more fun b hb => ⟨by have := hb.1; omega, by have := hb.2; have := hbV2.size; omega⟩, Nat.zero_le _⟩⟩

end Go.Proofs.Ytmpjnabadplbjaa
