/-
  The walks of the program's tree of hashes: the lowest level, the one above.
  (-DROP-: what the seat lacks is left out.)
-/
import Derived.Test.YtlaoikpbgbckjaaDoorTreeI1
namespace Go.Proofs.YtlaoikpbgbckjaaDoor
open Go.RowKit

/-- The first k of g, then those of f. -/
def upToG (g f : Nat → ByteArray) (k : Nat) : Nat → ByteArray := fun j => if j < k then g j else f j
theorem upToG_next (g f : Nat → ByteArray) (k : Nat) : (fun i => if i = k then g k else upToG g f k i) = upToG g f (k + 1) := by
  funext i
  unfold upToG
  by_cases h : i = k
  · subst h
    rw [if_pos rfl, if_pos (by omega)]
  · rw [if_neg h]
    by_cases h2 : i < k
    · rw [if_pos h2, if_pos (by omega)]
    · rw [if_neg h2, if_neg (by omega)]
theorem upToG_in (g f : Nat → ByteArray) {k j : Nat} (h : j < k) : upToG g f k j = g j := if_pos h
theorem upToG_out (g f : Nat → ByteArray) {k j : Nat} (h : k ≤ j) : upToG g f k j = f j := if_neg (by omega)

set_option maxHeartbeats 1600000 in
set_option maxRecDepth 100000 in
theorem iLow_any (a : Option Addr) (n cp : Nat) (hn : n ≤ 32) (f : Nat → ByteArray) (hs : ∀ j, j < n → (f j).size ≤ 1048576) (w : World) (hA : StrsAt w a n w.heap.size f) (hT : Tab w) :
    Calls Tryd.prog 52 #[.slice a n cp] w fun e w' => e = .returned (.slice (some ⟨w.heap.size, 0, none⟩) (hashL digT (lst f n)).length (hashL digT (lst f n)).length) ∧ LevAt w' w.heap.size (hashL digT (lst f n)).length (hashL digT (lst f n)) ∧ Below w.heap.size w w' := by
  have HA : Hid (StrsAt w a n w.heap.size f) := hA
  have HT : Hid (Tab w) := hT
  clear hA hT
  obtain ⟨L, hL⟩ : ∃ L, L = lvN n := ⟨_, rfl⟩
  have hL5 : L ≤ 5 := by rw [hL]; exact lvN_le _
  have hnL : n ≤ 2 ^ L := by rw [hL]; exact lvN_pow hn
  have hLV : ∀ w, Calls Tryd.prog 61 #[.int .i64 (n : Int)] w fun e w' => e = .returned (.int .i64 (L : Int)) ∧ w = w' := by
    have h := iLevels_same (n : Int)
    have e : lvI (n : Int) = (L : Int) := by unfold lvI; rw [if_pos (by omega), hL]; simp
    rw [e] at h
    exact h
  have HLV : Hid (∀ w, Calls Tryd.prog 61 #[.int .i64 (n : Int)] w fun e w' => e = .returned (.int .i64 (L : Int)) ∧ w = w') := hLV
  clear hLV
  obtain ⟨N, hN⟩ : ∃ N : Nat, N = 2 ^ L := ⟨_, rfl⟩
  have hEi : (2 : Int) ^ L = (N : Int) := by rw [hN, Int.natCast_pow]; rfl
  have hN32 : N ≤ 32 := by
    have : 2 ^ L ≤ 2 ^ 5 := Nat.pow_le_pow_right (by decide) hL5
    omega
  have hnN : n ≤ N := by omega
  have hEw : IntKind.i64.wrap (N : Int) = (N : Int) := IntWalk.i64_in _ (by omega)
  have HLN : Hid ((hashL digT (lst f n)).length = N) := by
    have := hashL_length (D := digT) (l := lst f n) (by rw [lst_length]; exact hn)
    rw [lst_length, ← hL, ← hN] at this
    exact this
  obtain ⟨u, hu⟩ : ∃ u : Nat → ByteArray, u = fun j => if j < n then f j else noT := ⟨_, rfl⟩
  have HU : Hid (∀ j, j < N → (u j).size ≤ 1048576) := fun j _ => by
    rw [hu]
    show (if j < n then f j else noT).size ≤ 1048576
    split
    · exact hs j (by assumption)
    · show 0 ≤ _; omega
  have HG : Hid (∀ j, j < N → digT (u j) = (hashL digT (lst f n)).getD j noT) := fun j hj => by
    rw [hu]
    show digT (if j < n then f j else noT) = _
    by_cases h1 : j < n
    · rw [if_pos h1, hashL_at (lst f n) (by rw [lst_length]; exact h1), lst_at f h1]
    · rw [if_neg h1]
      unfold hashL
      rw [List.getD_eq_getElem?_getD, List.getElem?_append_right (by rw [List.length_map, lst_length]; omega), List.getElem?_replicate, List.length_map, lst_length, ← hL, ← hN, if_pos (by omega)]
      rfl
  rw [HLN.out]
  generalize hashL digT (lst f n) = H at HG HLN ⊢
  have hmk : ∀ W : World, (Instr.makeSlice 81 (.int .i64 (N : Int)) (.int .i64 (N : Int))).run Tryd.prog W = .ok (.slice (some ⟨W.heap.size, 0, none⟩) N N) (W.alloc (.cells (tc (fun _ => ⟨#[]⟩) N) 9)) := fun W => make_level N (by omega) W
  obtain ⟨Z, hZ⟩ : ∃ Z : List Value, Z = (tc (fun _ => ⟨#[]⟩) N).toList := ⟨_, rfl⟩
  have HZL : Hid (Z.length = N) := by show Z.length = N; rw [hZ, Array.length_toList, tc_size]
  obtain ⟨X, hX⟩ : ∃ X : List Value, X = (lst f n).map Value.string := ⟨_, rfl⟩
  have HXL : Hid (X.length = n) := by show X.length = n; rw [hX, List.length_map, lst_length]
  have HX1 : Hid (∀ v ∈ X, v.oneCell' = true) := fun v hv => by
    rw [hX] at hv
    obtain ⟨t, _, rfl⟩ := List.mem_map.1 hv
    rfl
  have HSP : Hid ((splice Z 0 X).toArray = tc u N) := by
    show (splice Z 0 X).toArray = tc u N
    rw [hZ, hX, tc_splice _ _ hnN, hu]
    rfl
  have HXS : Hid (∀ W : World, StrsAt W a n W.heap.size f → 0 < X.length → ∃ ad, a = some ad ∧ ∀ j v, X[j]? = some v → W.cell? (ad.add j) = some v) := fun W hW h0 => by
    have hx : X.length = n := HXL.out
    obtain ⟨b, off, ha, _, _⟩ := hW 0 (by omega)
    refine ⟨_, ha, fun j v hv => ?_⟩
    have hj : j < n := by
      have := (List.getElem?_eq_some_iff.1 hv).1
      omega
    obtain ⟨b', off', ha', _, hz⟩ := hW j hj
    rw [ha] at ha'
    cases ha'
    rw [hX] at hv
    have : v = .string (f j) := by simpa [lst, hj] using hv.symm
    rw [this, show (⟨b, off, none⟩ : Addr).add j = ⟨b, off + j, none⟩ by unfold Addr.add; split <;> simp_all]
    exact hz
  have hW0 : tc (fun _ => (⟨#[]⟩ : ByteArray)) N = Z.toArray := by rw [hZ]
  rw [hW0] at hmk
  clear hW0 hZ hX hL hN hu hs hnL
  have hni : (n : Int) ≤ 32 := by omega
  go_enter Tryd.func52, Tryd.ntmps52
  go_wp2_with fail
  refine (HLV.out _).mono ?_
  rintro e w1 ⟨rfl, rfl⟩
  clear HLV
  have hB0 : Below w.heap.size w (w.alloc (.cells Z.toArray 9)) := (Below.refl _ _).alloc (Nat.le_refl _) _
  have hA0 := (HA.out.on hB0).wide hB0.size
  have hX0 := HXS.out _ hA0
  have hmin : X.length = Nat.min n N := by rw [HXL.out]; exact (Nat.min_eq_left hnN).symm
  go_wp2_with (refine wpList_copy_splice rfl _ _ 81 33 rfl 9 Tryd.underlying81 (by kernel_rfl) _ _ _ _ _ _ rfl rfl w.heap.size 0 Z 9 (heap_alloc_new w _) X hmin (fun h => ⟨rfl, hX0 h⟩) (by rw [HXL.out, HZL.out]; omega) HX1.out w.heap.size w hB0 (Nat.le_refl _) ?_; intro w2 HR2 hB2)
  have HR0 : Hid (RowT w2 w.heap.size N (upToG (fun j => digT (u j)) u 0)) := by
    show RowT w2 w.heap.size N _
    have e : upToG (fun j => digT (u j)) u 0 = u := funext fun j => upToG_out _ _ (Nat.zero_le _)
    rw [e]
    unfold RowT
    rw [← HSP.out]
    exact HR2.out
  have HB2 : Hid (Below w.heap.size w w2) := hB2
  clear HR2 hB2 hX0 hA0 hB0 hmin HSP HXS HX1 HXL HZL hmk
  go_loopw [16] (fun i wr => ∃ k : Nat, i = .int .i64 (k : Int) ∧ k ≤ N ∧ Hid (RowT wr w.heap.size N (upToG (fun j => digT (u j)) u k)) ∧ Hid (Below w.heap.size w wr)) (fun i _ => N - (intOf i).toNat)
  case atStart => exact ⟨0, rfl, Nat.zero_le _, HR0, HB2⟩
  case round =>
    obtain ⟨k, rfl, hk, HR, HB⟩ := hrel
    clear HR0 HB2
    by_cases hlt : k < N
    · have hlt' : (k : Int) < (N : Int) := by omega
      have hk0 : (0 : Int) ≤ (k : Int) := by omega
      have hz : wr.cell? ⟨w.heap.size, k, none⟩ = some (.string (u k)) := by
        rw [HR.out.cell hlt, upToG_out _ _ (Nat.le_refl _)]
      have HD : Hid (Calls Tryd.prog 62 #[.string (u k)] wr fun e w' => e = .returned (.string (digT (u k))) ∧ Below wr.heap.size wr w') := iDig_any (u k) (by have := HU.out k hlt; omega) wr (HT.out.on HB.out HT.out.1)
      have HNX : Hid ((fun i => if i = k then digT (u k) else upToG (fun j => digT (u j)) u k i) = upToG (fun j => digT (u j)) u (k + 1)) := upToG_next (fun j => digT (u j)) u k
      generalize upToG (fun j => digT (u j)) u k = F at HR HNX
      obtain ⟨F2, hF2⟩ : ∃ F2, F2 = upToG (fun j => digT (u j)) u (k + 1) := ⟨_, rfl⟩
      rw [← hF2] at HNX
      have HF2 : Hid (F2 = upToG (fun j => digT (u j)) u (k + 1)) := hF2
      clear hF2
      generalize digT (u k) = d at HD HNX
      generalize u k = t at HD hz
      go_wp2_with fail
      refine HD.out.mono ?_
      rintro e w5 ⟨rfl, hb5⟩
      have hR5 : RowT w5 w.heap.size N F := HR.out.on hb5 HR.out.lt
      have HR6 : Hid (RowT (w5.setCell ⟨w.heap.size, k, none⟩ (.string d)) w.heap.size N F2) := by
        have := hR5.set k d
        rw [HNX.out] at this
        exact this
      have HB6 : Hid (Below w.heap.size w (w5.setCell ⟨w.heap.size, k, none⟩ (.string d))) := (HB.out.trans (hb5.mono HB.out.size)).setCell (Nat.le_refl _) _
      have hc := hR5.cell hlt
      have hf := hR5.free k
      generalize F k = y at hc
      clear HR HB hb5 hR5 HD hz HNX
      go_wp2
      go_roundw
      case rel => exact ⟨k + 1, by go_num, hlt, by rw [← HF2.out]; exact HR6, HB6⟩
      case measure => simp [intOf]; omega
    · have hlt' : ¬ (k : Int) < (N : Int) := by omega
      have HE : Hid (LevAt wr w.heap.size N H) := ⟨_, HR.out, by rw [HLN.out]; omega, fun j hj => by
        have hj' : j < N := by rw [← HLN.out]; exact hj
        rw [upToG_in _ _ (by omega)]
        exact HG.out j hj'⟩
      go_wp2
      go_ret
      exact ⟨rfl, HE.out, HB.out⟩

set_option maxHeartbeats 1600000 in
set_option maxRecDepth 100000 in
theorem iAbove_any (l : List ByteArray) (g N cp : Nat) (hl : l.length ≤ 32) (hg0 : 1 < g) (hs : ∀ j, j < l.length → (l.getD j noT).size ≤ 1048576) (hcp : l.length ≤ cp) (w : World) (hA : LevAt w g N l) (hT : Tab w) :
    Calls Tryd.prog 53 #[.slice (some ⟨g, 0, none⟩) l.length cp] w fun e w' => e = .returned (.slice (some ⟨g, 0, none⟩) (upL digT l).length (upL digT l).length) ∧ LevAt w' g N (upL digT l) ∧ Kps (fun k => k = g) w w' := by
  obtain ⟨F, hF, hN, hFl⟩ := hA
  have HT : Hid (Tab w) := hT
  obtain ⟨n, hn⟩ : ∃ n, n = l.length := ⟨_, rfl⟩
  obtain ⟨h, hh⟩ : ∃ h, h = n / 2 := ⟨_, rfl⟩
  have hUL : (upL digT l).length = h := by rw [upL_length, hh, hn]
  have HG : Hid (∀ j, j < h → (upL digT l).getD j noT = digT (F (2 * j) ++ F (2 * j + 1))) := fun j hj => by
    rw [upL_at l j (by omega), hFl _ (by omega), hFl _ (by omega)]
  have HS : Hid (∀ j, j < n → (F j).size ≤ 1048576) := fun j hj => by
    rw [hFl j (by omega)]
    exact hs j (by omega)
  rw [hUL, ← hn]
  rw [← hn] at hl hcp hN
  have HUL : Hid ((upL digT l).length = h) := hUL
  generalize upL digT l = U at HG HUL ⊢
  have hq : Int.tdiv (n : Int) 2 = (h : Int) := by rw [Int.tdiv_eq_ediv_of_nonneg (by omega)]; omega
  have hqe : (n : Int) / 2 = (h : Int) := by omega
  have h2 : 2 * h ≤ n := by omega
  have hhc : h ≤ cp := by omega
  have hhw : wrap64 (h : Int) = (h : Int) := IntWalk.wrap64_in _ (by omega)
  have HGL : Hid (1 < g ∧ Tab w) := ⟨hg0, hT⟩
  have HF0 : Hid (RowT w g N (upToG (fun j => digT (F (2 * j) ++ F (2 * j + 1))) F 0)) := by
    show RowT w g N _
    have e : upToG (fun j => digT (F (2 * j) ++ F (2 * j + 1))) F 0 = F := funext fun j => upToG_out _ _ (Nat.zero_le _)
    rw [e]
    exact hF
  clear hh hn hUL hT hF hFl hs hg0
  go_enter Tryd.func53, Tryd.ntmps53
  go_wp2
  go_loopw [9] (fun i wr => ∃ k : Nat, i = .int .i64 (k : Int) ∧ k ≤ h ∧ Hid (RowT wr g N (upToG (fun j => digT (F (2 * j) ++ F (2 * j + 1))) F k)) ∧ Hid (Kps (fun k => k = g) w wr)) (fun i _ => h - (intOf i).toNat)
  case atStart => exact ⟨0, rfl, Nat.zero_le _, HF0, Kps.refl _ _⟩
  case round =>
    obtain ⟨k, rfl, hk, HR, HB⟩ := hrel
    clear HF0
    by_cases hlt : k < h
    · have hlt' : (k : Int) < (h : Int) := by omega
      have hk0 : (0 : Int) ≤ (k : Int) := by omega
      have hkn : (k : Int) < (n : Int) := by omega
      obtain ⟨q, hq2⟩ : ∃ q : Nat, q = 2 * k := ⟨_, rfl⟩
      have hw1 : IntKind.i64.wrap (2 * (k : Int)) = (q : Int) := by rw [IntWalk.i64_in _ (by omega)]; omega
      have hw2 : IntKind.i64.wrap ((q : Int) + 1) = ((q + 1 : Nat) : Int) := by rw [IntWalk.i64_in _ (by omega)]; omega
      have hq0 : (0 : Int) ≤ (q : Int) := by omega
      have hqn : (q : Int) < (n : Int) := by omega
      have hqn1 : (q : Int) + 1 < (n : Int) := by omega
      have hq1 : (0 : Int) ≤ (q : Int) + 1 := by omega
      have hz : wr.cell? ⟨g, q, none⟩ = some (.string (F q)) := by
        rw [HR.out.cell (by omega), upToG_out _ _ (by omega)]
      have hz1 : wr.cell? ⟨g, q + 1, none⟩ = some (.string (F (q + 1))) := by
        rw [HR.out.cell (by omega), upToG_out _ _ (by omega)]
      have hTr : Tab wr := ⟨Nat.lt_of_lt_of_le HGL.out.2.1 HB.out.size, fun i hi => by
        have h1 := HGL.out.2.2 i hi
        have h2 := HB.out.block 1 HGL.out.2.1 (fun e => by have := HGL.out.1; omega)
        unfold World.cell? at h1 ⊢
        rw [show wr.heap[(⟨1, i, none⟩ : Addr).block]? = w.heap[(⟨1, i, none⟩ : Addr).block]? from h2]
        exact h1⟩
      have HD : Hid (Calls Tryd.prog 63 #[.string (F q), .string (F (q + 1))] wr.drew fun e w' => e = .returned (.string (digT (F q ++ F (q + 1)))) ∧ Below wr.heap.size wr.drew w') := iDPair_any _ _ (HS.out q (by omega)) (HS.out (q + 1) (by omega)) wr.drew hTr
      have HNX : Hid ((fun i => if i = k then digT (F q ++ F (q + 1)) else upToG (fun j => digT (F (2 * j) ++ F (2 * j + 1))) F k i) = upToG (fun j => digT (F (2 * j) ++ F (2 * j + 1))) F (k + 1)) := by rw [hq2]; exact upToG_next (fun j => digT (F (2 * j) ++ F (2 * j + 1))) F k
      have hkN : k < N := by omega
      generalize upToG (fun j => digT (F (2 * j) ++ F (2 * j + 1))) F k = F1 at HR HNX
      obtain ⟨F2, hF2⟩ : ∃ F2, F2 = upToG (fun j => digT (F (2 * j) ++ F (2 * j + 1))) F (k + 1) := ⟨_, rfl⟩
      rw [← hF2] at HNX
      have HF2 : Hid (F2 = upToG (fun j => digT (F (2 * j) ++ F (2 * j + 1))) F (k + 1)) := hF2
      clear hF2
      generalize digT (F q ++ F (q + 1)) = d at HD HNX
      generalize F q = t at HD hz
      generalize F (q + 1) = t1 at HD hz1
      have hgl := HR.out.lt
      have Z0 : ∀ w', Below wr.heap.size wr w' → w'.cell? ⟨g, q, none⟩ = some (.string t) := fun w' hw => (hw.cell (p := ⟨g, q, none⟩) hgl).trans hz
      have Z1 : ∀ w', Below wr.heap.size wr w' → w'.cell? ⟨g, q + 1, none⟩ = some (.string t1) := fun w' hw => (hw.cell (p := ⟨g, q + 1, none⟩) hgl).trans hz1
      clear hz hz1 hq2 hTr
      go_wp2_with fail
      refine wp_region_last [(0, false), (1, false), (2, false), (3, false), (4, false), (5, false), (6, false), (7, false), (8, false), (9, false), (10, false), (11, false), (12, false), (13, true), (14, false)] 15 (fun wz => Below wr.heap.size wr wz) mixes (by kernel_rfl) (Below.refl _ _).drew ?_
      repeat (refine ord_float rfl rfl (fun K hK => ⟨_, (fun w' hw => by have q0 := Z0 w' hw; have q1 :=  Z1 w' hw; go_simp; exact rfl), ?_⟩); go_simp; refine hK _ ?_; clear hK K)
      refine ord_call rfl rfl (fun K hK => ⟨_, _, (by go_simp <;> first | exact rfl | exact ⟨rfl, rfl⟩), ?_⟩)
      refine (HD.out).mono ?_
      rintro e w5 ⟨rfl, hw5⟩
      have HB5 : Hid (Below wr.heap.size wr w5) := (Below.refl _ _).drew.trans hw5
      clear hw5
      refine ⟨_, rfl, HB5.out, ?_⟩
      go_simp
      refine hK _ _ ?_
      clear hK K
      repeat (refine ord_float rfl rfl (fun K hK => ⟨_, (fun w' hw => by have q0 := Z0 w' hw; go_simp; exact rfl), ?_⟩); go_simp; refine hK _ ?_; clear hK K)
      refine ord_nil ?_
      have hR5 : RowT w5 g N F1 := HR.out.on HB5.out hgl
      have hc := hR5.cell hkN
      have hf := hR5.free k
      have HR6 : Hid (RowT (w5.setCell ⟨g, k, none⟩ (.string d)) g N F2) := by
        have := hR5.set k d
        rw [HNX.out] at this
        exact this
      have HB6 : Hid (Kps (fun k => k = g) w (w5.setCell ⟨g, k, none⟩ (.string d))) := (HB.out.trans (Kps.of_below HB5.out)).setCell rfl _
      refine last_store rfl rfl rfl (w5.setCell ⟨g, k, none⟩ (.string d)) (by go_simp <;> rfl) ?_
      generalize w5.setCell ⟨g, k, none⟩ (.string d) = w6 at HR6 HB6 ⊢
      clear HR HB hR5 HD HNX Z0 Z1 HB5 hc hf
      go_wp2
      go_roundw
      case rel => exact ⟨k + 1, by go_num, hlt, by rw [← HF2.out]; exact HR6, HB6⟩
      case measure => simp [intOf]; omega
    · have hlt' : ¬ (k : Int) < (h : Int) := by omega
      have HE : Hid (LevAt wr g N U) := ⟨_, HR.out, by rw [HUL.out]; omega, fun j hj => by
        have hj' : j < h := by rw [← HUL.out]; exact hj
        rw [upToG_in _ _ (by omega)]
        exact (HG.out j hj').symm⟩
      clear HR
      go_wp2
      go_ret
      exact ⟨rfl, HE.out, HB.out⟩

end Go.Proofs.YtlaoikpbgbckjaaDoor
