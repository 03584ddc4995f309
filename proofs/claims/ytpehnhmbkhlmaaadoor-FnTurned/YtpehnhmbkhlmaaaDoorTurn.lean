/-
  The walk of FnTurned.
-/
import Derived.Test.YtpehnhmbkhlmaaaDoorTurnPure
import Derived.Test.YtpehnhmbkhlmaaaDoorPlaces
import Derived.BigRegion
namespace Go.Proofs.YtpehnhmbkhlmaaaDoor
open Go.RowKit

/-- What '[]byte(t)' leaves. -/
structure BytesAt (w4 w5 : World) (T : ByteArray) : Prop where
  bel : Below w4.heap.size w4 w5
  lt : w4.heap.size < w5.heap.size
  cell : ∀ j (hj : j < T.data.toList.length), w5.cell? ⟨w4.heap.size, j, none⟩ = some (.int .u8 (T.data.toList[j].toNat : Int))
  free : ∀ j, j < T.size → w5.frozen? ⟨w4.heap.size, j, none⟩ = false

theorem bytes_facts (w4 : World) (T : ByteArray) :
    ∃ K w5, (convert 9 22 (.string T)).run Tryd.prog w4 = .ok (.slice (some ⟨w4.heap.size, 0, none⟩) T.size K) w5 ∧ BytesAt w4 w5 T := by
  refine ⟨_, _, Lib.run_convert_string_bytes (P := Tryd.prog) w4 9 22 5 T Tryd.underlying9 Tryd.underlying22 Tryd.underlying5, ?_, ?_, ?_, ?_⟩
  · exact ⟨rfl, rfl, rfl, by rw [Lib.bytesWorld_size]; omega, fun k hk => Lib.bytesWorld_at_old w4 5 T k hk⟩
  · rw [Lib.bytesWorld_size]; omega
  · intro j hj
    rw [Lib.bytesWorld_cell w4 5 T j (by rw [Lib.size_eq]; exact hj)]
    simp only [List.getD_eq_getElem?_getD, List.getElem?_eq_getElem hj, Option.getD_some]
  · intro j hj
    have hsz : (Lib.bytesCells w4 5 T).size = T.size + (grownCap w4 T.size 0 5 - T.size) := by simp [Lib.bytesCells]
    unfold World.frozen?
    rw [Lib.bytesWorld_at_new]
    simp
    omega

set_option maxHeartbeats 3200000 in
set_option maxRecDepth 100000 in
theorem lawTurned (a : Option Addr) (len cap : Nat) (w : World) (hm : len ≤ 9223372036854775807) (hA : ArgAt w a len w.heap.size) (hT : Tab w) :
    Calls Tryd.prog 3 #[.slice a len cap] w fun e w' => e = .returned (.bool true) ∧ Below w.heap.size w w' := by
  have HA : Hid (ArgAt w a len w.heap.size) := hA
  have HT : Hid (Tab w) := hT
  have HB := big_any len cap a hm
  clear hA hT
  by_cases hbig : 1048576 < len
  · rw [show decide (1048576 < len) = true by simpa using hbig] at HB
    go_enter Tryd.func3, Tryd.ntmps3
    go_wp2_with fail
    refine (HB _).mono ?_
    rintro e w1 ⟨rfl, rfl⟩
    clear HB
    go_wp2
    go_ret
    exact ⟨rfl, Below.refl _ _⟩
  · rw [show decide (1048576 < len) = false by simpa using hbig] at HB
    have hlen : len ≤ 1048576 := by omega
    clear hbig
    go_enter Tryd.func3, Tryd.ntmps3
    go_wp2_with fail
    refine (HB _).mono ?_
    rintro e w1 ⟨rfl, rfl⟩
    clear HB
    go_wp2_with fail
    refine (drawSum_any len cap a hlen _ HA.out).mono ?_
    rintro e w1 ⟨t, rfl, ht, hb1⟩
    have hsz : (⟨t.toArray⟩ : ByteArray).size = t.length := by simp [ByteArray.size]
    have HS : Hid ((⟨t.toArray⟩ : ByteArray).size < 40) := (show (⟨t.toArray⟩ : ByteArray).size < 40 by rw [hsz]; exact ht)
    clear ht hsz
    generalize (⟨t.toArray⟩ : ByteArray) = s at HS
    have HA1 : Hid (ArgAt w1 a len w1.heap.size) := fun j hj => by
      obtain ⟨b, off, z, h1, h2, h3⟩ := HA.out.on hb1 j hj
      exact ⟨b, off, z, h1, Nat.lt_of_lt_of_le h2 hb1.size, h3⟩
    have HT1 : Hid (Tab w1) := HT.out.on hb1 HT.out.1
    have HB1 : Hid (Below w.heap.size w w1) := hb1
    clear hb1
    go_wp2_with fail
    refine (places_any len cap a hlen _ HA1.out).mono ?_
    rintro e w2 ⟨g, cp, x0, x1, rfl, hg, hx0, hx1, hc0, hc1, hb2⟩
    have HC : Hid (g < w2.heap.size ∧ w2.cell? ⟨g, 0, none⟩ = some (.int .i64 (x0 : Int)) ∧ w2.cell? ⟨g, 1, none⟩ = some (.int .i64 (x1 : Int))) := ⟨hg, hc0, hc1⟩
    have HT2 : Hid (Tab w2) := HT1.out.on hb2 HT1.out.1
    have HB2 : Hid (Below w.heap.size w w2) := HB1.out.trans (hb2.mono HB1.out.size)
    clear hb2 hg hc0 hc1 HA HA1 HB1 HT1
    have c3 := iSealed_any s (by have := HS.out; omega)
    rw [show sealOf s = .tuple #[.string (sealT s), .bool true] from if_pos (by have := HS.out; omega)] at c3
    have c4 := iUnseal_any (sealT s) (by rw [sealT_size]; have := HS.out; omega)
    rw [unseal_seal s (by have := HS.out; omega)] at c4
    go_wp2_with fail
    refine (c3 _ HT2.out).mono ?_
    rintro e w3 ⟨rfl, hb3⟩
    have HT3 : Hid (Tab w3) := HT2.out.on hb3 HT2.out.1
    have HB3 : Hid (Below w2.heap.size w2 w3) := hb3
    clear hb3 c3
    go_wp2_with fail
    refine (c4 _ HT3.out).mono ?_
    rintro e w4 ⟨rfl, hb4⟩
    have HT4 : Hid (Tab w4) := HT3.out.on hb4 HT3.out.1
    have HB4 : Hid (Below w2.heap.size w2 w4) := HB3.out.trans (hb4.mono HB3.out.size)
    clear hb4 c4 HB3
    obtain ⟨K, w5, hcv, hby⟩ := bytes_facts w4 (sealT s)
    have HBY : Hid (BytesAt w4 w5 (sealT s)) := hby
    have HP : Hid (w5.cell? ⟨g, 0, none⟩ = some (.int .i64 (x0 : Int)) ∧ w5.cell? ⟨g, 1, none⟩ = some (.int .i64 (x1 : Int))) := by
      have h4 := HB4.out
      have hlt : g < w4.heap.size := Nat.lt_of_lt_of_le HC.out.1 h4.size
      exact ⟨(hby.bel.cell (p := ⟨g, 0, none⟩) hlt).trans ((h4.cell (p := ⟨g, 0, none⟩) HC.out.1).trans HC.out.2.1), (hby.bel.cell (p := ⟨g, 1, none⟩) hlt).trans ((h4.cell (p := ⟨g, 1, none⟩) HC.out.1).trans HC.out.2.2)⟩
    clear hby
    obtain ⟨m, hm0, hm1⟩ : ∃ m : Nat, (sealT s).size = m ∧ m = s.size + 4 := ⟨_, rfl, sealT_size s⟩
    have hmpos : 0 < m := by omega
    have hm44 : m < 44 := by have := HS.out; omega
    have hleq : ((m : Int) != (s.size : Int) + 4) = false := by rw [bne_eq_false_iff_eq]; omega
    have hs40 : s.size < 40 := HS.out
    have HM : Hid (m = s.size + 4) := hm1
    clear hm1
    have hil : x0 % m < (sealT s).data.toList.length := by rw [← Lib.size_eq, hm0]; exact Nat.mod_lt _ hmpos
    have him : x0 % m < m := Nat.mod_lt _ hmpos
    have hemod : (x0 : Int) % (m : Int) = ((x0 % m : Nat) : Int) := by omega
    have hp0 := HP.out.1
    have hp1 := HP.out.2
    have hci := HBY.out.cell (x0 % m) hil
    have hfr := HBY.out.free (x0 % m) (by rw [hm0]; exact him)
    have HNB : Hid (UInt8.ofNat ((sealT s).data.toList[x0 % m].toNat ^^^ (1 + x1 % 255)) ≠ (sealT s).data.toList[x0 % m]) := other_byte _ _ (by omega) (by omega)
    have hxor : bits .xor .u8 (((sealT s).data.toList[x0 % m].toNat : Nat) : Int) (1 + (x1 : Int) % 255) = (((UInt8.ofNat ((sealT s).data.toList[x0 % m].toNat ^^^ (1 + x1 % 255))).toNat : Nat) : Int) := by
      have hb := (sealT s).data.toList[x0 % m].toNat_lt
      rw [show (1 : Int) + (x1 : Int) % 255 = ((1 + x1 % 255 : Nat) : Int) by omega, u8_xor_nat _ _ (by omega) (by omega), toNat_of]
      exact Nat.xor_lt_two_pow (n := 8) (by omega) (by omega)
    have c6 := iUnseal_any (turnT s (x0 % m) (UInt8.ofNat ((sealT s).data.toList[x0 % m].toNat ^^^ (1 + x1 % 255)))) (by rw [turnT_size]; have := HS.out; omega)
    rw [unseal_turned s (by have := HS.out; omega) _ _ hil HNB.out] at c6
    have hback : ∀ W : World, (∀ b off, W.cell? ⟨b, off, none⟩ = (w5.setCell ⟨w4.heap.size, x0 % m, none⟩ (.int .u8 (((UInt8.ofNat ((sealT s).data.toList[x0 % m].toNat ^^^ (1 + x1 % 255))).toNat : Nat) : Int))).cell? ⟨b, off, none⟩) →
        (convert 22 9 (.slice (some ⟨w4.heap.size, 0, none⟩) m K)).run Tryd.prog W = .ok (.string (turnT s (x0 % m) (UInt8.ofNat ((sealT s).data.toList[x0 % m].toNat ^^^ (1 + x1 % 255))))) W := by
      intro W hW
      have h := run_convert_bytes_back (P := Tryd.prog) W 22 9 5 ⟨w4.heap.size, 0, none⟩ K ((sealT s).data.toList.set (x0 % m) (UInt8.ofNat ((sealT s).data.toList[x0 % m].toNat ^^^ (1 + x1 % 255)))) Tryd.underlying22 Tryd.underlying5 Tryd.underlying9 (fun j hj => by
        have h2 := turned_row hil HBY.out.cell j hj
        rw [Addr.add_lit] at h2 ⊢
        rw [hW]
        exact h2)
      rw [List.length_set, ← Lib.size_eq, hm0] at h
      exact h
    have HBK : Hid (∀ W : World, (∀ b off, W.cell? ⟨b, off, none⟩ = (w5.setCell ⟨w4.heap.size, x0 % m, none⟩ (.int .u8 (((UInt8.ofNat ((sealT s).data.toList[x0 % m].toNat ^^^ (1 + x1 % 255))).toNat : Nat) : Int))).cell? ⟨b, off, none⟩) →
        (convert 22 9 (.slice (some ⟨w4.heap.size, 0, none⟩) m K)).run Tryd.prog W = .ok (.string (turnT s (x0 % m) (UInt8.ofNat ((sealT s).data.toList[x0 % m].toNat ^^^ (1 + x1 % 255))))) W) := hback
    clear hback
    have HHM : Hid ((sealT s).size = m) := hm0
    rw [hm0] at hcv
    generalize hcd : UInt8.ofNat ((sealT s).data.toList[x0 % m].toNat ^^^ (1 + x1 % 255)) = c at hxor c6 HBK
    generalize hbd : (sealT s).data.toList[x0 % m] = b at hci hxor
    clear hcd hbd HNB hil
    generalize x0 % m = i at hemod hci hfr him c6 HBK
    have hi0 : (0 : Int) ≤ (i : Int) := by omega
    have hi1 : (i : Int) < (m : Int) := by omega
    have hd0 : (0 : Int) ≤ (x1 : Int) % 255 := by omega
    have hd1 : (x1 : Int) % 255 < 255 := by omega
    go_wp2
    rw [hemod]
    have hw1 : IntKind.i64.wrap (1 + (x1 : Int) % 255) = 1 + (x1 : Int) % 255 := IntWalk.i64_in _ (by omega)
    have hw2 : IntKind.u8.wrap (1 + (x1 : Int) % 255) = 1 + (x1 : Int) % 255 := by rw [IntKind.wrap_u8']; omega
    have hraw : bits .xor .u8 (b.toNat : Int) (IntKind.u8.wrap (IntKind.i64.wrap (1 + (x1 : Int).tmod 255))) = (c.toNat : Int) := by
      rw [Int.tmod_eq_emod_of_nonneg (by omega), hw1, hw2]; exact hxor
    go_region
    have hcv2 := HBK.out (w5.setCell ⟨w4.heap.size, i, none⟩ (.int .u8 (c.toNat : Int))).drew (fun _ _ => rfl)
    have hb6 : Below w4.heap.size w4 (w5.setCell ⟨w4.heap.size, i, none⟩ (.int .u8 (c.toNat : Int))).drew := ((HBY.out.bel).setCell (Nat.le_refl _) _).drew
    have HT6 : Hid (Tab (w5.setCell ⟨w4.heap.size, i, none⟩ (.int .u8 (c.toNat : Int))).drew) := HT4.out.on hb6 HT4.out.1
    have HB6 : Hid (Below w2.heap.size w2 (w5.setCell ⟨w4.heap.size, i, none⟩ (.int .u8 (c.toNat : Int))).drew) := HB4.out.trans (hb6.mono HB4.out.size)
    clear hb6 HBK HBY HP hp0 hp1 hci hfr hxor hraw hw1 hw2 hcv HT4 HB4
    generalize (w5.setCell ⟨w4.heap.size, i, none⟩ (.int .u8 (c.toNat : Int))).drew = w6 at hcv2 HT6 HB6
    go_wp2_with fail
    refine (c6 _ HT6.out).mono ?_
    rintro e w7 ⟨rfl, hb7⟩
    have HT7 : Hid (Tab w7) := HT6.out.on hb7 HT6.out.1
    have HB7 : Hid (Below w2.heap.size w2 w7) := HB6.out.trans (hb7.mono HB6.out.size)
    clear hb7 c6 HB6 HT6 hcv2
    have hx1 : (⟨#[120]⟩ : ByteArray).size = 1 := rfl
    have hjx : ∀ W : World, (Op.stringOp .add s ⟨#[120]⟩).run Tryd.prog W = .ok (.string (s ++ ⟨#[120]⟩)) W := fun W => run_string_add_sum (P := Tryd.prog) W _ _ (by omega)
    have hsx : (s ++ ⟨#[120]⟩ : ByteArray).size ≤ 1048580 := by
      have : (s ++ ⟨#[120]⟩ : ByteArray).size = s.size + 1 := by rw [ByteArray.size_append, hx1]
      omega
    have HSX : Hid (sumL 4294967295 (s ++ ⟨#[120]⟩ : ByteArray).data.toList = sumL (sumL 4294967295 s.data.toList) (⟨#[120]⟩ : ByteArray).data.toList) := sum_x s
    have HHS : Hid ((s ++ ⟨#[120]⟩ : ByteArray).size ≤ 1048580) := hsx
    clear hsx
    generalize (s ++ ⟨#[120]⟩ : ByteArray) = sx at hjx HSX HHS
    go_wp2_with fail
    refine (iSum_any s (by omega) _ HT7.out).mono ?_
    rintro e w8 ⟨rfl, rfl⟩
    go_wp2_with fail
    refine (iMore_any _ (sum_lt _) ⟨#[120]⟩ (by omega) _ HT7.out).mono ?_
    rintro e w8 ⟨rfl, rfl⟩
    go_wp2_with fail
    refine (iSum_any sx HHS.out _ HT7.out).mono ?_
    rintro e w8 ⟨rfl, rfl⟩
    rw [HSX.out]
    go_wp2
    go_ret
    exact ⟨rfl, HB2.out.trans (HB7.out.mono HB2.out.size)⟩

end Go.Proofs.YtpehnhmbkhlmaaaDoor
