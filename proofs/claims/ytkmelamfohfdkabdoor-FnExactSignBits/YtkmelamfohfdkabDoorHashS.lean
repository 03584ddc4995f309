/-
  The walk of the specification's HashPoint.
  (-DROP-: what the seat lacks is left out.)
-/
import Derived.Test.YtkmelamfohfdkabDoorJoined28
import Derived.Test.YtkmelamfohfdkabDoorJoined38
import Derived.Test.YtkmelamfohfdkabDoorJoined20
import Derived.Test.YtkmelamfohfdkabDoorJoined20
namespace Go.Proofs.YtkmelamfohfdkabDoor
open Go.RowKit

/-- One byte in a row as a text. -/
theorem text1 (a : Nat) (ha : a < 256) (W : World) :
    (convert 45 9 (.slice (some ⟨W.heap.size, 0, none⟩) 1 1)).run Tryd.prog (W.alloc (.cells #[.int .u8 (a : Int)] 5)) = .ok (.string ⟨#[UInt8.ofNat a]⟩) (W.alloc (.cells #[.int .u8 (a : Int)] 5)) := by
  have h := World.ownsRow_lit (base := W.heap.size) (e := 5) (size := 1) W #[.int .u8 (a : Int)] 1 (Nat.le_refl _) (by simp [maxLen]) (by simp)
  have e : (#[Value.int .u8 (a : Int)]).toList = bytesV [UInt8.ofNat a] := by
    simp only [bytesV, List.map_cons, List.map_nil, toNat_of ha]
  rw [e] at h
  exact text_of_row (l := [UInt8.ofNat a]) h

theorem i64_or_nat (a b : Nat) (ha : a < 9223372036854775808) (hb : b < 9223372036854775808) : bits .or .i64 (a : Int) (b : Int) = ((a ||| b : Nat) : Int) := by
  have hx : a ||| b < 2 ^ 63 := Nat.or_lt_two_pow (by omega) (by omega)
  show IntKind.i64.wrap ((BitVec.ofInt 64 (a : Int) ||| BitVec.ofInt 64 (b : Int)).toNat : Int) = _
  rw [BitVec.toNat_or, ofInt_u64 a (by omega), ofInt_u64 b (by omega), IntWalk.i64_in _ (by omega)]

/-- The numbers of four bytes put together. -/
theorem two_or (a b i : Nat) (hb : b < 2 ^ i) : a * 2 ^ i ||| b = a * 2 ^ i + b := by
  rw [Nat.mul_comm, Nat.two_pow_add_eq_or_of_lt hb]

set_option maxHeartbeats 1600000 in
set_option maxRecDepth 100000 in
theorem sHash_any (t : ByteArray) (ht : t.size ≤ 1048576) (w : World) :
    Calls Tryd.prog 19 #[.string t] w fun e w' => e = .returned (pv (hashPt t)) ∧ Below w.heap.size w w' := by
  obtain ⟨RS, hRS⟩ : ∃ RS, RS = hashPt t := ⟨_, rfl⟩
  have HR0 : Hid (hashFrom t (64 - 0) 0 = RS) := hRS.symm
  rw [← hRS]
  clear hRS
  have htb : (t.size : Int) ≤ 1048576 := by omega
  go_enter Tryd.func19, Tryd.ntmps19
  go_wp2
  obtain ⟨W0, hW0, hb0, hr0⟩ := box1 w 23 #[.int .i64 0, .int .i64 0, .bool false]
  rw [hW0]
  have HD0 : Hid (Blk W0 w.heap.size 23 #[.int .i64 0, .int .i64 0, .bool false] ∧ Below w.heap.size w W0) := ⟨hr0, hb0⟩
  clear hW0 hb0 hr0
  go_loopw [3] (fun i wr => ∃ n : Nat, i = .int .i64 (n : Int) ∧ n ≤ 64 ∧ Hid (hashFrom t (64 - n) n = RS) ∧ Hid (Blk wr w.heap.size 23 #[.int .i64 0, .int .i64 0, .bool false] ∧ Below w.heap.size w wr)) (fun i _ => 64 - (intOf i).toNat)
  case atStart => exact ⟨0, rfl, by omega, HR0, HD0⟩
  case round =>
    obtain ⟨n, rfl, hn, HR, HD⟩ := hrel
    clear HR0 HD0
    by_cases hlt : n < 64
    · have hlt' : (n : Int) < 64 := by omega
      have hn8 : IntKind.u8.wrap (n : Int) = (n : Int) := by rw [IntWalk.u8_in _ (by omega)]
      have hcv := text1 n (by omega)
      have HG : Hid (∀ w, Calls Tryd.prog 27 #[.string (⟨#[UInt8.ofNat n]⟩ ++ t)] w fun e w' => e = .returned (.string (digT (preT n t))) ∧ Below w.heap.size w w') := sDig_any (preT n t) (by rw [preT_size]; omega)
      have HNX : Hid ((if (rootB (rhs (hashX t n)) && !(hashAt t n).2.2) = true then hashAt t n else hashFrom t (64 - (n + 1)) (n + 1)) = RS) := by
        have h := HR.out
        rw [show 64 - n = (64 - (n + 1)) + 1 by omega] at h
        exact h
      have HTM : Hid (∀ w, Calls Tryd.prog 18 #[.int .i64 12, pv (hashX t n, rootV (rhs (hashX t n)), false)] w fun e w' => e = .returned (pv (hashAt t n)) ∧ Below w.heap.size w w') := sTimes_any 12 _
      have HRH : Hid (∀ w, Calls Tryd.prog 30 #[.int .i64 (hashX t n)] w fun e w' => e = .returned (.int .i64 (rhs (hashX t n))) ∧ w = w') := sRight_any _
      have HRT : Hid (∀ w, Calls Tryd.prog 29 #[.int .i64 (rhs (hashX t n))] w fun e w' => e = .returned (.tuple #[.int .i64 (rootV (rhs (hashX t n))), .bool (rootB (rhs (hashX t n)))]) ∧ w = w') := sRoot_any _
      have HXX : Hid (hashX t n = hx (digT (preT n t))) := rfl
      have hds : (digT (preT n t)).size = 32 := digT_size _
      obtain ⟨nx, hnx⟩ : ∃ nx, nx = hashFrom t (64 - (n + 1)) (n + 1) := ⟨_, rfl⟩
      rw [← hnx] at HNX
      have HNE : Hid (nx = hashFrom t (64 - (n + 1)) (n + 1)) := hnx
      clear hnx
      generalize hashAt t n = p at HNX HTM
      generalize rootV (rhs (hashX t n)) = y at HTM HRT
      generalize rootB (rhs (hashX t n)) = ok at HNX HRT
      generalize rhs (hashX t n) = rr at HRH HRT
      generalize hashX t n = x at HTM HRH HXX
      generalize digT (preT n t) = dg at HG HXX hds
      obtain ⟨A, hA⟩ : ∃ A, A = byt dg 0 := ⟨_, rfl⟩
      obtain ⟨B, hB⟩ : ∃ B, B = byt dg 1 := ⟨_, rfl⟩
      obtain ⟨C, hC⟩ : ∃ C, C = byt dg 2 := ⟨_, rfl⟩
      obtain ⟨D, hD⟩ : ∃ D, D = byt dg 3 := ⟨_, rfl⟩
      have hAl : A < 256 := by rw [hA]; exact byt_lt _ _
      have hBl : B < 256 := by rw [hB]; exact byt_lt _ _
      have hCl : C < 256 := by rw [hC]; exact byt_lt _ _
      have hDl : D < 256 := by rw [hD]; exact byt_lt _ _
      have at0 : (dg[0]'(by omega)).toNat = A := by rw [hA]; exact byt_at _ _ _
      have at1 : (dg[1]'(by omega)).toNat = B := by rw [hB]; exact byt_at _ _ _
      have at2 : (dg[2]'(by omega)).toNat = C := by rw [hC]; exact byt_at _ _ _
      have at3 : (dg[3]'(by omega)).toNat = D := by rw [hD]; exact byt_at _ _ _
      have hwA : IntKind.i64.wrap (A : Int) = (A : Int) := IntWalk.i64_in _ (by omega)
      have hwB : IntKind.i64.wrap (B : Int) = (B : Int) := IntWalk.i64_in _ (by omega)
      have hwC : IntKind.i64.wrap (C : Int) = (C : Int) := IntWalk.i64_in _ (by omega)
      have hwD : IntKind.i64.wrap (D : Int) = (D : Int) := IntWalk.i64_in _ (by omega)
      obtain ⟨Z, hZ⟩ : ∃ Z : Nat, Z = A * 16777216 + B * 65536 + C * 256 + D := ⟨_, rfl⟩
      have HO : Hid (∀ w, Calls Tryd.prog 28 #[.int .i64 (Z : Int)] w fun e w' => e = .returned (.int .i64 x) ∧ w = w') := by
        have h := sOf_any (Z : Int)
        have e : fp (Z : Int) = x := by rw [HXX.out, hZ, hA, hB, hC, hD]; rfl
        rw [e] at h
        exact h
      obtain ⟨AA, hAA⟩ : ∃ AA : Nat, AA = A * 16777216 := ⟨_, rfl⟩
      obtain ⟨BB, hBB⟩ : ∃ BB : Nat, BB = B * 65536 := ⟨_, rfl⟩
      obtain ⟨CC, hCC⟩ : ∃ CC : Nat, CC = C * 256 := ⟨_, rfl⟩
      obtain ⟨AB, hAB⟩ : ∃ AB : Nat, AB = AA + BB := ⟨_, rfl⟩
      obtain ⟨AC, hAC⟩ : ∃ AC : Nat, AC = AB + CC := ⟨_, rfl⟩
      have s0 : IntKind.i64.wrap ((A : Int) * 16777216) = (AA : Int) := by rw [IntWalk.i64_in _ (by omega)]; omega
      have s1 : IntKind.i64.wrap ((B : Int) * 65536) = (BB : Int) := by rw [IntWalk.i64_in _ (by omega)]; omega
      have s2 : IntKind.i64.wrap ((C : Int) * 256) = (CC : Int) := by rw [IntWalk.i64_in _ (by omega)]; omega
      have o1 : bits .or .i64 (AA : Int) (BB : Int) = (AB : Int) := by
        rw [i64_or_nat _ _ (by omega) (by omega), hAA, show A * 16777216 = A * 2 ^ 24 from rfl, two_or A BB 24 (by omega), hAB, hAA]
      have o2 : bits .or .i64 (AB : Int) (CC : Int) = (AC : Int) := by
        rw [i64_or_nat _ _ (by omega) (by omega), show AB = (A * 256 + B) * 2 ^ 16 by omega, two_or _ CC 16 (by omega)]
        omega
      have o3 : bits .or .i64 (AC : Int) (D : Int) = (Z : Int) := by
        rw [i64_or_nat _ _ (by omega) (by omega), show AC = (A * 65536 + B * 256 + C) * 2 ^ 8 by omega, two_or _ D 8 (by omega)]
        omega
      clear hA hB hC hD HXX hAA hBB hCC hAB hAC hZ
      go_wp2_with fail
      refine (HG.out _).mono ?_
      rintro e w1 ⟨rfl, hb1⟩
      have hr1 : Blk w1 w.heap.size 23 #[.int .i64 0, .int .i64 0, .bool false] := by
        have h := (HD.out.1.alloc (.cells #[.int .u8 (n : Int)] 5))
        exact h.on hb1 h.lt
      have hB1 : Below w.heap.size w w1 := (HD.out.2.alloc HD.out.2.size _).trans (hb1.mono (by have := HD.out.2.size; simp; omega))
      clear hb1 HD HG hcv hn8
      go_wp2_with fail
      refine wp_region_class 19 (fun wz => Below w1.heap.size w1 wz) mixes (by kernel_rfl) (Below.refl _ _).drew ?_
      simp only [List.take_succ_cons, List.take_zero, List.drop_succ_cons, List.drop_zero]
      repeat (refine cls_step rfl (fun K hK => ⟨_, (fun w' hw => by go_simp; exact rfl), ?_⟩); go_simp; refine hK _ ?_; clear hK K)
      refine cls_call rfl (fun K hK => ⟨_, _, _, (fun w' => by go_simp <;> first | exact rfl | exact ⟨rfl, rfl⟩), (fun w' hw => calls_same hw (HO.out _)), ?_⟩); go_simp; refine hK _ ?_; clear hK K
      refine wq_nil ?_
      intro w' hw
      have hr2 := hr1.on hw hr1.lt
      have hB2 := below_then hB1 hw
      clear hr1 hB1 hw at0 at1 at2 at3 hwA hwB hwC hwD s0 s1 s2 o1 o2 o3 HO hds
      go_wp2_with fail
      refine (HRH.out _).mono ?_
      rintro e w2 ⟨rfl, rfl⟩
      go_wp2_with fail
      refine (HRT.out _).mono ?_
      rintro e w2 ⟨rfl, rfl⟩
      unfold pv at HTM
      simp only at HTM
      go_wp2_with fail
      refine (HTM.out _).mono ?_
      rintro e w3 ⟨rfl, hb3⟩
      have hr3 := hr2.on hb3 hr2.lt
      have hB3 := below_then hB2 hb3
      clear hr2 hB2 hb3 HRH HRT HTM
      obtain ⟨p1, p2, pz⟩ := p
      simp only at HNX
      have HD4 : Hid (Blk (w3.alloc (.cells #[.int .i64 p1, .int .i64 p2, .bool pz] 23)) w.heap.size 23 #[.int .i64 0, .int .i64 0, .bool false] ∧ Below w.heap.size w (w3.alloc (.cells #[.int .i64 p1, .int .i64 p2, .bool pz] 23))) := ⟨hr3.alloc _, hB3.alloc hB3.size _⟩
      clear hr3 hB3
      cases ok
      · have HN : Hid (nx = RS) := HNX.out
        clear HNX
        go_wp2
        go_roundw
        case rel => exact ⟨n + 1, by go_num, by omega, by rw [← HNE.out]; exact HN, HD4⟩
        case measure => simp [intOf]; omega
      · cases pz
        · have HN : Hid ((p1, p2, false) = RS) := HNX.out
          clear HNX
          have hr4 := HD4.out.1
          have hB4 := HD4.out.2
          go_wp2_with (first | (refine load_blk rfl rfl rfl (Blk.new _ _ _) Tryd.underlying23 infoP ?_) | (refine store_blk (cs' := #[.int .i64 p1, .int .i64 p2, .bool false]) rfl rfl rfl rfl rfl hr4 infoP rfl (ones3 _ _ _) ?_; intro V h5 hoth hbel; have hbV := hbel _ _ (by omega) hB4; clear hoth hbel))
          refine bodyPost_ret_by (result_blk rfl rfl h5 Tryd.underlying23 infoP) rfl ⟨by rw [← HN.out] <;> rfl, hbV⟩
        · have HN : Hid (nx = RS) := HNX.out
          clear HNX
          go_wp2
          go_roundw
          case rel => exact ⟨n + 1, by go_num, by omega, by rw [← HNE.out]; exact HN, HD4⟩
          case measure => simp [intOf]; omega
    · have hlt' : ¬ (n : Int) < 64 := by omega
      have HN : Hid (pB = RS) := by
        have h := HR.out
        rw [show 64 - n = 0 by omega] at h
        exact h
      have HB : Hid (∀ w, Calls Tryd.prog 31 #[] w fun e w' => e = .returned (pv pB) ∧ Below w.heap.size w w') := sBase_any
      generalize pB = B at HN HB
      clear HR
      go_wp2_with fail
      refine (HB.out _).mono ?_
      rintro e w1 ⟨rfl, hb1⟩
      have hr1 := HD.out.1.on hb1 HD.out.1.lt
      have hB1 := below_then HD.out.2 hb1
      clear HD hb1 HB
      go_wp2_with (refine store_blk (cs' := pc B) rfl rfl rfl rfl rfl hr1 infoP rfl (ones3 _ _ _) ?_; intro V h5 hoth hbel; have hbV := hbel _ _ (by omega) hB1; clear hoth hbel)
      refine bodyPost_ret_by (result_blk rfl rfl h5 Tryd.underlying23 infoP) rfl ⟨by rw [← HN.out] <;> rfl, hbV⟩

end Go.Proofs.YtkmelamfohfdkabDoor
