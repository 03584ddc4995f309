/-
  The walks of the specification's tree of hashes.
  (-DROP-: what the seat lacks is left out.)
-/
import Derived.Test.YtlaoikpbgbckjaaDoorJoined12
import Derived.Test.YtlaoikpbgbckjaaDoorJoined15
import Derived.Test.YtlaoikpbgbckjaaDoorStrRow
import Derived.Test.YtlaoikpbgbckjaaDoorJoined23
import Derived.Test.YtlaoikpbgbckjaaDoorDigS
import Derived.Maps.AppendAt
namespace Go.Proofs.YtlaoikpbgbckjaaDoor
open Go.RowKit

set_option maxHeartbeats 1600000 in
set_option maxRecDepth 100000 in
theorem sLevels_any (n : Int) (w : World) :
    Calls Tryd.prog 55 #[.int .i64 n] w fun e w' => e = .returned (.int .i64 (lvI n)) ∧ w = w' := by
  have HB : Hid (∀ w, Calls Tryd.prog 37 #[.int .i64 n, .int .i64 0, .int .i64 32] w fun e w' => e = .returned (.bool (decide (0 ≤ n ∧ n ≤ 32))) ∧ w = w') := sBetween_any n 0 32
  by_cases h : 0 ≤ n ∧ n ≤ 32
  · rw [decide_eq_true h] at HB
    obtain ⟨L, hL⟩ : ∃ L, L = lvN n.toNat := ⟨_, rfl⟩
    have HV : Hid (lvI n = (L : Int)) := by unfold lvI; rw [if_pos h, hL]; rfl
    have hL5 : L ≤ 5 := by rw [hL]; exact lvN_le _
    have HP : Hid (n.toNat ≤ 2 ^ L) := by rw [hL]; exact lvN_pow (by omega)
    have HQ : Hid (∀ k, k < L → 2 ^ k < n.toNat) := by rw [hL]; exact fun k hk => lvN_least hk
    clear hL
    go_enter Tryd.func55, Tryd.ntmps55
    go_wp2_with fail
    refine (HB.out _).mono ?_
    rintro e w1 ⟨rfl, rfl⟩
    go_wp2
    go_loopw [3] (fun i wr => ∃ k : Nat, i = .int .i64 (k : Int) ∧ k ≤ L ∧ w = wr) (fun i _ => 6 - (intOf i).toNat)
    case atStart => exact ⟨0, rfl, Nat.zero_le _, rfl⟩
    case round =>
      obtain ⟨k, rfl, hk, rfl⟩ := hrel
      have hk6 : k = 0 ∨ k = 1 ∨ k = 2 ∨ k = 3 ∨ k = 4 ∨ k = 5 := by omega
      by_cases hlt : k < L
      · have hlt' := HQ.out k hlt
        clear HP HQ HB
        rcases hk6 with rfl | rfl | rfl | rfl | rfl | rfl
        all_goals simp only [Nat.reducePow] at hlt'
        iterate 5 (rotate_left)
        · omega
        all_goals go_wp2
        · go_roundw
          case rel => exact ⟨1, by go_num, by omega, by trivial⟩
          case measure => simp [intOf]
        · go_roundw
          case rel => exact ⟨2, by go_num, by omega, by trivial⟩
          case measure => simp [intOf]
        · go_roundw
          case rel => exact ⟨3, by go_num, by omega, by trivial⟩
          case measure => simp [intOf]
        · go_roundw
          case rel => exact ⟨4, by go_num, by omega, by trivial⟩
          case measure => simp [intOf]
        · go_roundw
          case rel => exact ⟨5, by go_num, by omega, by trivial⟩
          case measure => simp [intOf]
      · obtain rfl : k = L := by omega
        have hge := HP.out
        clear HP HQ HB
        rcases hk6 with rfl | rfl | rfl | rfl | rfl | rfl
        all_goals simp only [Nat.reducePow] at hge
        all_goals go_wp2
        all_goals go_ret
        all_goals exact ⟨by rw [HV.out]; rfl, rfl⟩
  · rw [decide_eq_false h] at HB
    have HV : Hid (lvI n = -1) := if_neg h
    go_enter Tryd.func55, Tryd.ntmps55
    go_wp2_with fail
    refine (HB.out _).mono ?_
    rintro e w1 ⟨rfl, rfl⟩
    go_wp2
    go_ret
    exact ⟨by rw [HV.out]; rfl, rfl⟩

/-- The first n of a list. -/
def lst (f : Nat → ByteArray) (n : Nat) : List ByteArray := (List.range n).map f
theorem lst_next (f : Nat → ByteArray) (n : Nat) : lst f (n + 1) = lst f n ++ [f n] := by
  unfold lst
  rw [List.range_succ, List.map_append]
  rfl
theorem lst_length (f : Nat → ByteArray) (n : Nat) : (lst f n).length = n := by simp [lst]
theorem lst_at (f : Nat → ByteArray) {n j : Nat} (h : j < n) : (lst f n).getD j noT = f j := by simp [lst, h]

/-- A value is a list of these texts, owned from B on. -/
def RowS (B : Nat) (w : World) (v : Value) (l : List ByteArray) : Prop := w.ownsRow B 9 1 v l.length (l.map Value.string)

theorem RowS.strs {B : Nat} {w : World} {v : Value} {l : List ByteArray} (h : RowS B w v l) : ∃ a cp, v = .slice a l.length cp ∧ StrsAt w a l.length w.heap.size (fun j => l.getD j noT) := by
  rcases h.2 with ⟨rfl, h0⟩ | ⟨g, cp, cur, rfl, hg, hh, hrest⟩
  · exact ⟨none, 0, by rw [h0], fun j hj => by omega⟩
  · refine ⟨_, cp, rfl, fun j hj => ⟨g, 0, rfl, (Array.getElem?_eq_some_iff.1 hh).1, ?_⟩⟩
    have hc := h.cellAt j (by omega)
    rw [Nat.zero_add, hc]
    simp [hj]
theorem RowS.push {B : Nat} {w : World} {v : Value} {l : List ByteArray} {d : ByteArray} (h : w.ownsRow B 9 1 v (l.length + 1) (l.map Value.string ++ [.string d])) : RowS B w v (l ++ [d]) := by
  unfold RowS
  rw [List.length_append, List.map_append]
  exact h
theorem one_str (d : ByteArray) : ∀ u ∈ [Value.string d], u.oneCell' = true := by
  intro u hu
  simp at hu
  rw [hu]
  rfl

/-- The length of a list. (Laid as a fact, the list behind a letter, the walk uses it.) -/
theorem len_texts (a2 : Option Addr) (n cp : Nat) (ty : TypeId) (w : World) : (Builtin.len_ #[33] ty #[Value.slice a2 n cp]).run Tryd.prog w = .ok (.int .i64 (n : Int)) w := by
  simp [Builtin.len_, go_sem]

/-- The length of a list. -/
def slLen : Value → Nat
  | .slice _ n _ => n
  | _ => 0

set_option maxHeartbeats 1600000 in
set_option maxRecDepth 100000 in
theorem sHashes_any (a : Option Addr) (n cp : Nat) (hn : n ≤ 32) (f : Nat → ByteArray) (hs : ∀ j, j < n → (f j).size ≤ 1048576) (w : World) (hA : StrsAt w a n w.heap.size f) :
    Calls Tryd.prog 38 #[.slice a n cp] w fun e w' => ∃ v, e = .returned v ∧ RowS w.heap.size w' v (hashL digT (lst f n)) ∧ Below w.heap.size w w' := by
  obtain ⟨i0, hi, hz0, hz1, hz2⟩ := info_parts info9T
  have HA : Hid (StrsAt w a n w.heap.size f) := hA
  clear hA
  obtain ⟨g, d0, RS, hg, HG, HD0, HRS⟩ : ∃ (g : Nat → ByteArray) (d0 : ByteArray) (RS : List ByteArray), RS = hashL digT (lst f n) ∧ Hid (∀ j, j < n → ∀ w, Calls Tryd.prog 54 #[.string (f j)] w fun e w' => e = .returned (.string (g j)) ∧ Below w.heap.size w w') ∧ Hid (∀ w, Calls Tryd.prog 54 #[.string ⟨#[]⟩] w fun e w' => e = .returned (.string d0) ∧ Below w.heap.size w w') ∧ Hid (RS = lst g n ++ List.replicate (2 ^ lvN n - n) d0) := by
    refine ⟨fun j => digT (f j), digT noT, _, rfl, fun j hj => sDig_any (f j) (by have := hs j hj; omega), sDig_any noT (by show 0 ≤ _; omega), ?_⟩
    show hashL digT (lst f n) = _
    unfold hashL
    rw [lst_length]
    congr 1
    simp [lst]
  rw [← hg]
  clear hg hs
  obtain ⟨L, hL⟩ : ∃ L, L = lvN n := ⟨_, rfl⟩
  have hL5 : L ≤ 5 := by rw [hL]; exact lvN_le _
  have hnL : n ≤ 2 ^ L := by rw [hL]; exact lvN_pow hn
  have HLV : Hid (∀ w, Calls Tryd.prog 55 #[.int .i64 (n : Int)] w fun e w' => e = .returned (.int .i64 (L : Int)) ∧ w = w') := by
    have h := sLevels_any (n : Int)
    have e : lvI (n : Int) = (L : Int) := by unfold lvI; rw [if_pos (by omega), hL]; simp
    rw [e] at h
    exact h
  rw [← hL] at HRS
  clear hL
  have hni : (n : Int) ≤ 32 := by omega
  go_enter Tryd.func38, Tryd.ntmps38
  go_wp2
  go_loopw [3, 4] (fun v i wr => ∃ (u : Value) (k : Nat), u = v ∧ i = .int .i64 (k : Int) ∧ k ≤ n ∧ wr.ownsRow w.heap.size 9 1 u (lst g k).length ((lst g k).map Value.string) ∧ Hid (Below w.heap.size w wr)) (fun _ i _ => n - (intOf i).toNat)
  case atStart => exact ⟨_, 0, rfl, rfl, by omega, World.ownsRow_lit _ _ _ (Nat.le_refl _) (by simp [maxLen]) (by simp), (Below.refl _ _).alloc (Nat.le_refl _) _⟩
  case round =>
    obtain ⟨u, k, rfl, rfl, hk, hown, HB⟩ := hrel
    by_cases hlt : k < n
    · have hlt' : (k : Int) < (n : Int) := by omega
      have hk0 : (0 : Int) ≤ (k : Int) := by omega
      obtain ⟨b, off, rfl, hb, hz⟩ := (HA.out.on HB.out) k hlt
      have hm63 : (lst g k).length + 1 ≤ maxLen := by rw [lst_length]; unfold maxLen; omega
      have hm47 : ((lst g k).length + 1) * 16 ≤ 140737488355328 := by rw [lst_length]; omega
      have HDk : Hid (∀ w, Calls Tryd.prog 54 #[.string (f k)] w fun e w' => e = .returned (.string (g k)) ∧ Below w.heap.size w w') := HG.out k hlt
      have HNX : Hid (lst g (k + 1) = lst g k ++ [g k]) := lst_next g k
      generalize g k = d at HDk HNX
      generalize f k = t at HDk hz
      go_wp2_with fail
      refine (HDk.out _).mono ?_
      rintro e w5 ⟨rfl, hb5⟩
      have hown5 := owns_on hown hb5
      have HB5 : Hid (Below w.heap.size w w5) := HB.out.trans (hb5.mono HB.out.size)
      have hsz : w.heap.size ≤ w5.heap.size := HB5.out.size
      clear hb5 hown HB hz hb
      go_wp2_with (at_builtin; refine wpList_append_own _ rfl _ _ 33 rfl w.heap.size 9 i0 (.string ⟨#[]⟩) 1 16 Tryd.underlying33 hi hz0 hz1 hz2 rfl (by decide) _ _ _ rfl (hown5.alloc _) ⟨w5.heap.size, 0, none⟩ 1 1 [.string d] rfl rfl (cell_one_new _ _ _) (one_str _) hm63 hm47 (room_for hsz _) ?_)
      intro v' w7 hown' hgrow _
      have R7 : w7.ownsRow w.heap.size 9 1 v' (lst g (k + 1)).length ((lst g (k + 1)).map Value.string) := by
        rw [HNX.out]; exact RowS.push hown'
      have HB7 : Hid (Below w.heap.size w w7) := (HB5.out.alloc HB5.out.size _).grown hgrow (by simp; omega) (fun k hk => (hown5.lt k hk).1)
      clear hown' hgrow hown5 HB5
      go_wp2
      go_roundw
      case rel => exact ⟨_, k + 1, rfl, by go_num, hlt, R7, HB7⟩
      case measure => simp [intOf]; omega
    · have hlt' : ¬ (k : Int) < (n : Int) := by omega
      obtain rfl : k = n := by omega
      go_wp2_with fail
      refine (HD0.out _).mono ?_
      rintro e w5 ⟨rfl, hb5⟩
      have hown5 := owns_on hown hb5
      have HB5 : Hid (Below w.heap.size w w5) := HB.out.trans (hb5.mono HB.out.size)
      clear hb5 hown HB
      go_wp2
      have hown6 : w5.ownsRow w.heap.size 9 1 u (lst g k ++ List.replicate 0 d0).length ((lst g k ++ List.replicate 0 d0).map Value.string) := by
        rw [List.replicate_zero, List.append_nil]
        exact hown5
      go_loopw [3] (fun v wr => ∃ (u : Value) (j : Nat), u = v ∧ k + j ≤ 2 ^ L ∧ wr.ownsRow w.heap.size 9 1 u (lst g k ++ List.replicate j d0).length ((lst g k ++ List.replicate j d0).map Value.string) ∧ Hid (Below w.heap.size w wr)) (fun v _ => 33 - slLen v)
      case atStart => exact ⟨_, 0, rfl, by omega, hown6, HB5⟩
      case round =>
        clear hown5 hown6 HB5
        obtain ⟨u2, j, rfl, hj, hown, HB⟩ := hrel
        have hlen : (lst g k ++ List.replicate j d0).length = k + j := by rw [List.length_append, lst_length, List.length_replicate]
        obtain ⟨a2, cp2, hu⟩ := row_form hown
        have HU : Hid (u2 = .slice a2 (lst g k ++ List.replicate j d0).length cp2) := hu
        clear hu
        have hp5 : 2 ^ L ≤ 32 := by
          have : 2 ^ L ≤ 2 ^ 5 := Nat.pow_le_pow_right (by decide) hL5
          omega
        obtain ⟨E, hE⟩ : ∃ E : Nat, E = 2 ^ L := ⟨_, rfl⟩
        have hEi : (2 : Int) ^ L = (E : Int) := by rw [hE, Int.natCast_pow]; rfl
        have hm63 : (lst g k ++ List.replicate j d0).length + 1 ≤ maxLen := by rw [hlen]; unfold maxLen; omega
        have hm47 : ((lst g k ++ List.replicate j d0).length + 1) * 16 ≤ 140737488355328 := by rw [hlen]; omega
        have HNX : Hid (lst g k ++ List.replicate (j + 1) d0 = (lst g k ++ List.replicate j d0) ++ [d0]) := by
          show _ = _
          rw [List.replicate_succ', List.append_assoc]
        have HFN : Hid (k + j = 2 ^ L → RS = lst g k ++ List.replicate j d0) := fun h => by rw [HRS.out, ← h]; congr 2; omega
        generalize lst g k ++ List.replicate j d0 = l at hown hlen hm63 hm47 HNX HFN HU
        have hE32 : E ≤ 32 := by omega
        have hj2 : k + j ≤ E := by omega
        rw [← hE] at HFN
        have HJ : Hid (l.length < E → k + (j + 1) ≤ 2 ^ L) := fun h => by omega
        have HFN2 : Hid (¬ l.length < E → RS = l) := fun h => HFN.out (by omega)
        have hl32 : l.length ≤ 32 := by omega
        clear hj hp5 hE hj2 HFN hlen
        have hlnf : ∀ w, (Builtin.len_ #[33] 3 #[u2]).run Tryd.prog w = .ok (.int .i64 (l.length : Int)) w := fun w => by rw [HU.out]; exact len_texts _ _ _ _ w
        by_cases hlt2 : l.length < E
        · have hlt2' : (l.length : Int) < (E : Int) := by omega
          have hsz : w.heap.size ≤ wr.heap.size := HB.out.size
          go_wp2_with fail
          refine (HLV.out _).mono ?_
          rintro e w6 ⟨rfl, rfl⟩
          go_wp2_with (at_builtin; refine wpList_append_own _ rfl _ _ 33 rfl w.heap.size 9 i0 (.string ⟨#[]⟩) 1 16 Tryd.underlying33 hi hz0 hz1 hz2 rfl (by decide) _ _ _ rfl (hown.alloc _) ⟨wr.heap.size, 0, none⟩ 1 1 [.string d0] rfl rfl (cell_one_new _ _ _) (one_str _) hm63 hm47 (room_for hsz _) ?_)
          intro v' w7 hown' hgrow _
          have R7 : w7.ownsRow w.heap.size 9 1 v' (lst g k ++ List.replicate (j + 1) d0).length ((lst g k ++ List.replicate (j + 1) d0).map Value.string) := by
            rw [HNX.out]; exact RowS.push hown'
          have HB7 : Hid (Below w.heap.size w w7) := (HB.out.alloc HB.out.size _).grown hgrow (by simp; omega) (fun k hk => (hown.lt k hk).1)
          have HM : Hid (slLen v' = l.length + 1) := by
            obtain ⟨a3, cp3, hu3⟩ := row_form hown'
            show slLen v' = _
            rw [hu3]
            rfl
          have HM2 : Hid (slLen u2 = l.length) := by
            show slLen u2 = _
            rw [HU.out]
            rfl
          clear hown' hgrow hown HB
          go_wp2
          go_roundw
          case rel => exact ⟨_, j + 1, rfl, HJ.out hlt2, R7, HB7⟩
          case measure => have h1 := HM.out; have h2 := HM2.out; omega
        · have hlt2' : ¬ (l.length : Int) < (E : Int) := by omega
          have HE : Hid (RowS w.heap.size wr u2 RS) := by
            rw [HFN2.out hlt2]
            exact hown
          clear hown
          go_wp2_with fail
          refine (HLV.out _).mono ?_
          rintro e w6 ⟨rfl, rfl⟩
          go_wp2
          go_ret
          exact ⟨_, rfl, HE.out, HB.out⟩

end Go.Proofs.YtlaoikpbgbckjaaDoor
