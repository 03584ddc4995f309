/-
  Texts of one's own, joined.
-/
import Derived.Test.YtldkdgbcnbgmiaaGreatDoorJoined21
import Derived.Test.YtldkdgbcnbgmiaaGreatDoorJoined25
import Derived.Test.YtldkdgbcnbgmiaaGreatDoorJoined31
import Derived.Test.YtldkdgbcnbgmiaaGreatDoorProg
import Derived.Test.YtldkdgbcnbgmiaaGreatDoorJoined16
import Derived.WalkLawsBesides
import Derived.WalkSpells
import Derived.Test.YtldkdgbcnbgmiaaGreatDoorJoined26
import Derived.Test.YtldkdgbcnbgmiaaGreatDoorJoined1
import Derived.Test.YtldkdgbcnbgmiaaGreatDoorJoined28

/-
  The walk of the specification's HashPoint.
  (-DROP-: what the seat lacks is left out.)
-/
namespace Go.Proofs.YtldkdgbcnbgmiaaGreatDoor
open Go.RowKit

/-- One byte in a row as a text. -/
theorem text1 (a : Nat) (ha : a < 256) (W : World) :
    (convert 22 9 (.slice (some ⟨W.heap.size, 0, none⟩) 1 1)).run Tryz.prog (W.alloc (.cells #[.int .u8 (a : Int)] 5)) = .ok (.string ⟨#[UInt8.ofNat a]⟩) (W.alloc (.cells #[.int .u8 (a : Int)] 5)) := by
  have h := World.ownsRow_lit (base := W.heap.size) (e := 5) (size := 1) W #[.int .u8 (a : Int)] 1 (Nat.le_refl _) (by simp [maxLen]) (by simp)
  have e : (#[Value.int .u8 (a : Int)]).toList = bytesV [UInt8.ofNat a] := by
    simp only [bytesV, List.map_cons, List.map_nil, toNat_of ha]
  rw [e] at h
  exact text_of_row (l := [UInt8.ofNat a]) h

theorem i64_or_nat (a b : Nat) (ha : a < 9223372036854775808) (hb : b < 9223372036854775808) : bits .or .i64 (a : Int) (b : Int) = ((a ||| b : Nat) : Int) := by
  have hx : a ||| b < 2 ^ 63 := Nat.or_lt_two_pow (by omega) (by omega)
  show IntKind.i64.wrap ((BitVec.ofInt 64 (a : Int) ||| BitVec.ofInt 64 (b : Int)).toNat : Int) = _
  rw [BitVec.toNat_or, ofInt_u64 a (by omega), ofInt_u64 b (by omega), IntWalk.i64_in _ (by omega)]

/-- The numbers of four bytes put together. -/
theorem two_or (a b i : Nat) (hb : b < 2 ^ i) : a * 2 ^ i ||| b = a * 2 ^ i + b := by
  rw [Nat.mul_comm, Nat.two_pow_add_eq_or_of_lt hb]

set_option maxHeartbeats 1600000 in
set_option maxRecDepth 100000 in
theorem sHash_any (t : ByteArray) (ht : t.size ≤ 1048576) (w : World) :
    Calls Tryz.prog 16 #[.string t] w fun e w' => e = .returned (pv (hashPt t)) ∧ Below w.heap.size w w' := by
  obtain ⟨RS, hRS⟩ : ∃ RS, RS = hashPt t := ⟨_, rfl⟩
  have HR0 : Hid (hashFrom t (64 - 0) 0 = RS) := hRS.symm
  rw [← hRS]
  clear hRS
  have htb : (t.size : Int) ≤ 1048576 := by omega
  go_enter Tryz.func16, Tryz.ntmps16
  go_wp2
  obtain ⟨W0, hW0, hb0, hr0⟩ := box1 w 27 #[.int .i64 0, .int .i64 0, .bool false]
  rw [hW0]
  have HD0 : Hid (Blk W0 w.heap.size 27 #[.int .i64 0, .int .i64 0, .bool false] ∧ Below w.heap.size w W0) := ⟨hr0, hb0⟩
  clear hW0 hb0 hr0
  go_loopw [3] (fun i wr => ∃ n : Nat, i = .int .i64 (n : Int) ∧ n ≤ 64 ∧ Hid (hashFrom t (64 - n) n = RS) ∧ Hid (Blk wr w.heap.size 27 #[.int .i64 0, .int .i64 0, .bool false] ∧ Below w.heap.size w wr)) (fun i _ => 64 - (intOf i).toNat)
  case atStart => exact ⟨0, rfl, by omega, HR0, HD0⟩
  case round =>
    obtain ⟨n, rfl, hn, HR, HD⟩ := hrel
    clear HR0 HD0
    by_cases hlt : n < 64
    · have hlt' : (n : Int) < 64 := by omega
      have hn8 : IntKind.u8.wrap (n : Int) = (n : Int) := by rw [IntWalk.u8_in _ (by omega)]
      have hcv := text1 n (by omega)
      have HG : Hid (∀ w, Calls Tryz.prog 38 #[.string (⟨#[UInt8.ofNat n]⟩ ++ t)] w fun e w' => e = .returned (.string (digT (preT n t))) ∧ Below w.heap.size w w') := sDig_any (preT n t) (by rw [preT_size]; omega)
      have HNX : Hid ((if (rootB (rhs (hashX t n)) && !(hashAt t n).2.2) = true then hashAt t n else hashFrom t (64 - (n + 1)) (n + 1)) = RS) := by
        have h := HR.out
        rw [show 64 - n = (64 - (n + 1)) + 1 by omega] at h
        exact h
      have HTM : Hid (∀ w, Calls Tryz.prog 42 #[.int .i64 12, pv (hashX t n, rootV (rhs (hashX t n)), false)] w fun e w' => e = .returned (pv (hashAt t n)) ∧ Below w.heap.size w w') := sTimes_any 12 _
      have HRH : Hid (∀ w, Calls Tryz.prog 41 #[.int .i64 (hashX t n)] w fun e w' => e = .returned (.int .i64 (rhs (hashX t n))) ∧ w = w') := sRight_any _
      have HRT : Hid (∀ w, Calls Tryz.prog 40 #[.int .i64 (rhs (hashX t n))] w fun e w' => e = .returned (.tuple #[.int .i64 (rootV (rhs (hashX t n))), .bool (rootB (rhs (hashX t n)))]) ∧ w = w') := sRoot_any _
      have HXX : Hid (hashX t n = hx (digT (preT n t))) := rfl
      have hds : (digT (preT n t)).size = 32 := digT_size _
      obtain ⟨nx, hnx⟩ : ∃ nx, nx = hashFrom t (64 - (n + 1)) (n + 1) := ⟨_, rfl⟩
      rw [← hnx] at HNX
      have HNE : Hid (nx = hashFrom t (64 - (n + 1)) (n + 1)) := hnx
      clear hnx
      generalize hashAt t n = p at HNX HTM
      generalize rootV (rhs (hashX t n)) = y at HTM HRT
      generalize rootB (rhs (hashX t n)) = ok at HNX HRT
      generalize rhs (hashX t n) = rr at HRH HRT
      generalize hashX t n = x at HTM HRH HXX
      generalize digT (preT n t) = dg at HG HXX hds
      obtain ⟨A, hA⟩ : ∃ A, A = byt dg 0 := ⟨_, rfl⟩
      obtain ⟨B, hB⟩ : ∃ B, B = byt dg 1 := ⟨_, rfl⟩
      obtain ⟨C, hC⟩ : ∃ C, C = byt dg 2 := ⟨_, rfl⟩
      obtain ⟨D, hD⟩ : ∃ D, D = byt dg 3 := ⟨_, rfl⟩
      have hAl : A < 256 := by rw [hA]; exact byt_lt _ _
      have hBl : B < 256 := by rw [hB]; exact byt_lt _ _
      have hCl : C < 256 := by rw [hC]; exact byt_lt _ _
      have hDl : D < 256 := by rw [hD]; exact byt_lt _ _
      have at0 : (dg[0]'(by omega)).toNat = A := by rw [hA]; exact byt_at _ _ _
      have at1 : (dg[1]'(by omega)).toNat = B := by rw [hB]; exact byt_at _ _ _
      have at2 : (dg[2]'(by omega)).toNat = C := by rw [hC]; exact byt_at _ _ _
      have at3 : (dg[3]'(by omega)).toNat = D := by rw [hD]; exact byt_at _ _ _
      have hwA : IntKind.i64.wrap (A : Int) = (A : Int) := IntWalk.i64_in _ (by omega)
      have hwB : IntKind.i64.wrap (B : Int) = (B : Int) := IntWalk.i64_in _ (by omega)
      have hwC : IntKind.i64.wrap (C : Int) = (C : Int) := IntWalk.i64_in _ (by omega)
      have hwD : IntKind.i64.wrap (D : Int) = (D : Int) := IntWalk.i64_in _ (by omega)
      obtain ⟨Z, hZ⟩ : ∃ Z : Nat, Z = A * 16777216 + B * 65536 + C * 256 + D := ⟨_, rfl⟩
      have HO : Hid (∀ w, Calls Tryz.prog 39 #[.int .i64 (Z : Int)] w fun e w' => e = .returned (.int .i64 x) ∧ w = w') := by
        have h := sOf_any (Z : Int)
        have e : fp (Z : Int) = x := by rw [HXX.out, hZ, hA, hB, hC, hD]; rfl
        rw [e] at h
        exact h
      obtain ⟨AA, hAA⟩ : ∃ AA : Nat, AA = A * 16777216 := ⟨_, rfl⟩
      obtain ⟨BB, hBB⟩ : ∃ BB : Nat, BB = B * 65536 := ⟨_, rfl⟩
      obtain ⟨CC, hCC⟩ : ∃ CC : Nat, CC = C * 256 := ⟨_, rfl⟩
      obtain ⟨AB, hAB⟩ : ∃ AB : Nat, AB = AA + BB := ⟨_, rfl⟩
      obtain ⟨AC, hAC⟩ : ∃ AC : Nat, AC = AB + CC := ⟨_, rfl⟩
      have s0 : IntKind.i64.wrap ((A : Int) * 16777216) = (AA : Int) := by rw [IntWalk.i64_in _ (by omega)]; omega
      have s1 : IntKind.i64.wrap ((B : Int) * 65536) = (BB : Int) := by rw [IntWalk.i64_in _ (by omega)]; omega
      have s2 : IntKind.i64.wrap ((C : Int) * 256) = (CC : Int) := by rw [IntWalk.i64_in _ (by omega)]; omega
      have o1 : bits .or .i64 (AA : Int) (BB : Int) = (AB : Int) := by
        rw [i64_or_nat _ _ (by omega) (by omega), hAA, show A * 16777216 = A * 2 ^ 24 from rfl, two_or A BB 24 (by omega), hAB, hAA]
      have o2 : bits .or .i64 (AB : Int) (CC : Int) = (AC : Int) := by
        rw [i64_or_nat _ _ (by omega) (by omega), show AB = (A * 256 + B) * 2 ^ 16 by omega, two_or _ CC 16 (by omega)]
        omega
      have o3 : bits .or .i64 (AC : Int) (D : Int) = (Z : Int) := by
        rw [i64_or_nat _ _ (by omega) (by omega), show AC = (A * 65536 + B * 256 + C) * 2 ^ 8 by omega, two_or _ D 8 (by omega)]
        omega
      clear hA hB hC hD HXX hAA hBB hCC hAB hAC hZ
      go_wp2_with fail
      refine (HG.out _).mono ?_
      rintro e w1 ⟨rfl, hb1⟩
      have hr1 : Blk w1 w.heap.size 27 #[.int .i64 0, .int .i64 0, .bool false] := by
        have h := (HD.out.1.alloc (.cells #[.int .u8 (n : Int)] 5))
        exact h.on hb1 h.lt
      have hB1 : Below w.heap.size w w1 := (HD.out.2.alloc HD.out.2.size _).trans (hb1.mono (by have := HD.out.2.size; simp; omega))
      clear hb1 HD HG hcv hn8
      go_wp2_with fail
      refine wp_region_class 19 (fun wz => Below w1.heap.size w1 wz) mixes (by kernel_rfl) (Below.refl _ _).drew ?_
      simp only [List.take_succ_cons, List.take_zero, List.drop_succ_cons, List.drop_zero]
      repeat (refine cls_step rfl (fun K hK => ⟨_, (fun w' hw => by go_simp; exact rfl), ?_⟩); go_simp; refine hK _ ?_; clear hK K)
      refine cls_call rfl (fun K hK => ⟨_, _, _, (fun w' => by go_simp <;> first | exact rfl | exact ⟨rfl, rfl⟩), (fun w' hw => calls_same hw (HO.out _)), ?_⟩); go_simp; refine hK _ ?_; clear hK K
      refine wq_nil ?_
      intro w' hw
      have hr2 := hr1.on hw hr1.lt
      have hB2 := below_then hB1 hw
      clear hr1 hB1 hw at0 at1 at2 at3 hwA hwB hwC hwD s0 s1 s2 o1 o2 o3 HO hds
      go_wp2_with fail
      refine (HRH.out _).mono ?_
      rintro e w2 ⟨rfl, rfl⟩
      go_wp2_with fail
      refine (HRT.out _).mono ?_
      rintro e w2 ⟨rfl, rfl⟩
      unfold pv at HTM
      simp only at HTM
      go_wp2_with fail
      refine (HTM.out _).mono ?_
      rintro e w3 ⟨rfl, hb3⟩
      have hr3 := hr2.on hb3 hr2.lt
      have hB3 := below_then hB2 hb3
      clear hr2 hB2 hb3 HRH HRT HTM
      obtain ⟨p1, p2, pz⟩ := p
      simp only at HNX
      have HD4 : Hid (Blk (w3.alloc (.cells #[.int .i64 p1, .int .i64 p2, .bool pz] 27)) w.heap.size 27 #[.int .i64 0, .int .i64 0, .bool false] ∧ Below w.heap.size w (w3.alloc (.cells #[.int .i64 p1, .int .i64 p2, .bool pz] 27))) := ⟨hr3.alloc _, hB3.alloc hB3.size _⟩
      clear hr3 hB3
      cases ok
      · have HN : Hid (nx = RS) := HNX.out
        clear HNX
        go_wp2
        go_roundw
        case rel => exact ⟨n + 1, by go_num, by omega, by rw [← HNE.out]; exact HN, HD4⟩
        case measure => simp [intOf]; omega
      · cases pz
        · have HN : Hid ((p1, p2, false) = RS) := HNX.out
          clear HNX
          have hr4 := HD4.out.1
          have hB4 := HD4.out.2
          go_wp2_with (first | (refine load_blk rfl rfl rfl (Blk.new _ _ _) Tryz.underlying27 infoP ?_) | (refine store_blk (cs' := #[.int .i64 p1, .int .i64 p2, .bool false]) rfl rfl rfl rfl rfl hr4 infoP rfl (ones3 _ _ _) ?_; intro V h5 hoth hbel; have hbV := hbel _ _ (by omega) hB4; clear hoth hbel))
          refine bodyPost_ret_by (result_blk rfl rfl h5 Tryz.underlying27 infoP) rfl ⟨by rw [← HN.out] <;> rfl, hbV⟩
        · have HN : Hid (nx = RS) := HNX.out
          clear HNX
          go_wp2
          go_roundw
          case rel => exact ⟨n + 1, by go_num, by omega, by rw [← HNE.out]; exact HN, HD4⟩
          case measure => simp [intOf]; omega
    · have hlt' : ¬ (n : Int) < 64 := by omega
      have HN : Hid (pB = RS) := by
        have h := HR.out
        rw [show 64 - n = 0 by omega] at h
        exact h
      have HB : Hid (∀ w, Calls Tryz.prog 43 #[] w fun e w' => e = .returned (pv pB) ∧ Below w.heap.size w w') := sBase_any
      generalize pB = B at HN HB
      clear HR
      go_wp2_with fail
      refine (HB.out _).mono ?_
      rintro e w1 ⟨rfl, hb1⟩
      have hr1 := HD.out.1.on hb1 HD.out.1.lt
      have hB1 := below_then HD.out.2 hb1
      clear HD hb1 HB
      go_wp2_with (refine store_blk (cs' := pc B) rfl rfl rfl rfl rfl hr1 infoP rfl (ones3 _ _ _) ?_; intro V h5 hoth hbel; have hbV := hbel _ _ (by omega) hB1; clear hoth hbel)
      refine bodyPost_ret_by (result_blk rfl rfl h5 Tryz.underlying27 infoP) rfl ⟨by rw [← HN.out] <;> rfl, hbV⟩

end Go.Proofs.YtldkdgbcnbgmiaaGreatDoor

/-
  The walks of the specification's scalars.
  (-DROP-: what the seat lacks is left out.)
-/
namespace Go.Proofs.YtldkdgbcnbgmiaaGreatDoor
open Go.RowKit

set_option maxHeartbeats 400000 in
set_option maxRecDepth 100000 in
theorem sScOf_any (n : Int) (w : World) :
    Calls Tryz.prog 9 #[.int .i64 n] w fun e w' => e = .returned (.int .i64 (sca n)) ∧ w = w' := by
  have hb := tmod_bounds_sca n
  by_cases h : Int.tmod n 1009 < 0
  · have he := tmod_neg_sca h
    go_enter Tryz.func9, Tryz.ntmps9
    go_wp2
    go_ret
    exact ⟨rfl, rfl⟩
  · have he := tmod_nonneg_sca h
    go_enter Tryz.func9, Tryz.ntmps9
    go_wp2
    go_ret
    exact ⟨rfl, rfl⟩

set_option maxHeartbeats 400000 in
set_option maxRecDepth 100000 in
theorem sScAdd_any (a b : Int) (w : World) :
    Calls Tryz.prog 19 #[.int .i64 a, .int .i64 b] w fun e w' => e = .returned (.int .i64 (scAdd a b)) ∧ w = w' := by
  have ha0 := sca_nonneg a
  have ha1 := sca_lt a
  have hb0 := sca_nonneg b
  have hb1 := sca_lt b
  have HE : Hid (scAdd a b = sca (sca a + sca b)) := rfl
  go_enter Tryz.func19, Tryz.ntmps19
  go_wp2_with (go_at_call 9; refine (sScOf_any _ _).mono ?_; rintro e w1 ⟨rfl, rfl⟩)
  go_ret
  exact ⟨by rw [HE.out]; rfl, rfl⟩

end Go.Proofs.YtldkdgbcnbgmiaaGreatDoor

/-
  The walks of the program's numbers two by two.
  (-DROP-: what the seat lacks is left out.)
-/
namespace Go.Proofs.YtldkdgbcnbgmiaaGreatDoor
open Go.RowKit

theorem infoN : (Tryz.prog.info? 77).map (·.size) = some 2 := by kernel_rfl
theorem infoT : (Tryz.prog.info? 55).map (·.size) = some 2 := by kernel_rfl

/-- A number of two parts, as a value. -/
abbrev tv (x : Int × Int) : Value := .agg #[.int .i64 x.1, .int .i64 x.2]
theorem ones2 (a b : Int) : (#[Value.int .i64 a, Value.int .i64 b]).all (·.oneCell') = true := by simp [Value.oneCell']
theorem fp_sub_fp (a b : Int) : fp (fp a - fp b) = fp (a - b) := by unfold fp; simp

set_option maxHeartbeats 800000 in
set_option maxRecDepth 100000 in
theorem times2_any (x y : Int × Int) (hx2 : In2 x) (hy2 : In2 y) (w : World) :
    Calls Tryz.prog 87 #[tv x, tv y] w fun e w' => e = .returned (tv (tm x y)) ∧ Below w.heap.size w w' := by
  obtain ⟨a, b⟩ := x
  obtain ⟨c, d⟩ := y
  obtain ⟨⟨a0, a1⟩, b0, b1⟩ := hx2
  obtain ⟨⟨c0, c1⟩, d0, d1⟩ := hy2
  simp only at a0 a1 b0 b1 c0 c1 d0 d1
  have HAC : Hid (∀ w, Calls Tryz.prog 59 #[.int .i64 a, .int .i64 c] w fun e w' => e = .returned (.int .i64 (fp (a * c))) ∧ w = w') := times_any a c a0 a1 c0 c1
  have HBD : Hid (∀ w, Calls Tryz.prog 59 #[.int .i64 b, .int .i64 d] w fun e w' => e = .returned (.int .i64 (fp (b * d))) ∧ w = w') := times_any b d b0 b1 d0 d1
  have HAD : Hid (∀ w, Calls Tryz.prog 59 #[.int .i64 a, .int .i64 d] w fun e w' => e = .returned (.int .i64 (fp (a * d))) ∧ w = w') := times_any a d a0 a1 d0 d1
  have HBC : Hid (∀ w, Calls Tryz.prog 59 #[.int .i64 b, .int .i64 c] w fun e w' => e = .returned (.int .i64 (fp (b * c))) ∧ w = w') := times_any b c b0 b1 c0 c1
  have HM : Hid (∀ w, Calls Tryz.prog 61 #[.int .i64 (fp (a * c)), .int .i64 (fp (b * d))] w fun e w' => e = .returned (.int .i64 (fp (a * c - b * d))) ∧ w = w') := by
    rw [← fp_sub_fp]; exact minus_any _ _ (fp_nonneg _) (fp_lt _) (fp_nonneg _) (fp_lt _)
  have HP : Hid (∀ w, Calls Tryz.prog 83 #[.int .i64 (fp (a * d)), .int .i64 (fp (b * c))] w fun e w' => e = .returned (.int .i64 (fp (a * d + b * c))) ∧ w = w') := by
    rw [← fp_add_fp]; exact plus_any _ _ (fp_nonneg _) (fp_lt _) (fp_nonneg _) (fp_lt _)
  clear a0 a1 b0 b1 c0 c1 d0 d1
  go_enter Tryz.func87, Tryz.ntmps87
  go_wp2
  obtain ⟨W, hW, hb, hx, hy, hr⟩ := boxes2r w 77 77 77 #[.int .i64 a, .int .i64 b] #[.int .i64 c, .int .i64 d] #[.int .i64 0, .int .i64 0]
  rw [hW]
  clear hW
  refine wp_region_class 23 (fun wz => Below W.heap.size W wz) mixes (by kernel_rfl) (Below.refl _ _).drew ?_
  simp only [List.take_succ_cons, List.take_zero, List.drop_succ_cons, List.drop_zero]
  repeat (refine cls_step rfl (fun K hK => ⟨_, (fun w' hw => by have q0 := (hx.on hw hx.lt).cell 0; have q1 := (hx.on hw hx.lt).cell 1; have q2 := (hy.on hw hy.lt).cell 0; have q3 := (hy.on hw hy.lt).cell 1; go_simp; exact rfl), ?_⟩); go_simp; refine hK _ ?_; clear hK K)
  refine cls_call rfl (fun K hK => ⟨_, _, _, (fun w' => by go_simp <;> first | exact rfl | exact ⟨rfl, rfl⟩), (fun w' hw => calls_same hw (HAC.out _)), ?_⟩); go_simp; refine hK _ ?_; clear hK K
  repeat (refine cls_step rfl (fun K hK => ⟨_, (fun w' hw => by have q0 := (hx.on hw hx.lt).cell 0; have q1 := (hx.on hw hx.lt).cell 1; have q2 := (hy.on hw hy.lt).cell 0; have q3 := (hy.on hw hy.lt).cell 1; go_simp; exact rfl), ?_⟩); go_simp; refine hK _ ?_; clear hK K)
  refine cls_call rfl (fun K hK => ⟨_, _, _, (fun w' => by go_simp <;> first | exact rfl | exact ⟨rfl, rfl⟩), (fun w' hw => calls_same hw (HBD.out _)), ?_⟩); go_simp; refine hK _ ?_; clear hK K
  refine cls_call rfl (fun K hK => ⟨_, _, _, (fun w' => by go_simp <;> first | exact rfl | exact ⟨rfl, rfl⟩), (fun w' hw => calls_same hw (HM.out _)), ?_⟩); go_simp; refine hK _ ?_; clear hK K
  repeat (refine cls_step rfl (fun K hK => ⟨_, (fun w' hw => by have q0 := (hx.on hw hx.lt).cell 0; have q1 := (hx.on hw hx.lt).cell 1; have q2 := (hy.on hw hy.lt).cell 0; have q3 := (hy.on hw hy.lt).cell 1; go_simp; exact rfl), ?_⟩); go_simp; refine hK _ ?_; clear hK K)
  refine cls_call rfl (fun K hK => ⟨_, _, _, (fun w' => by go_simp <;> first | exact rfl | exact ⟨rfl, rfl⟩), (fun w' hw => calls_same hw (HAD.out _)), ?_⟩); go_simp; refine hK _ ?_; clear hK K
  repeat (refine cls_step rfl (fun K hK => ⟨_, (fun w' hw => by have q0 := (hx.on hw hx.lt).cell 0; have q1 := (hx.on hw hx.lt).cell 1; have q2 := (hy.on hw hy.lt).cell 0; have q3 := (hy.on hw hy.lt).cell 1; go_simp; exact rfl), ?_⟩); go_simp; refine hK _ ?_; clear hK K)
  refine cls_call rfl (fun K hK => ⟨_, _, _, (fun w' => by go_simp <;> first | exact rfl | exact ⟨rfl, rfl⟩), (fun w' hw => calls_same hw (HBC.out _)), ?_⟩); go_simp; refine hK _ ?_; clear hK K
  refine cls_call rfl (fun K hK => ⟨_, _, _, (fun w' => by go_simp <;> first | exact rfl | exact ⟨rfl, rfl⟩), (fun w' hw => calls_same hw (HP.out _)), ?_⟩); go_simp; refine hK _ ?_; clear hK K
  repeat (refine cls_step rfl (fun K hK => ⟨_, (fun w' hw => by go_simp; exact rfl), ?_⟩); go_simp; refine hK _ ?_; clear hK K)
  refine wq_nil ?_
  intro w' hw
  have q0 := (hr.on hw hr.lt).cell 0
  have r0 := (hr.on hw hr.lt).free 0
  have q1 := (hr.on hw hr.lt).cell 1
  have r1 := (hr.on hw hr.lt).free 1
  go_wp2
  refine bodyPost_ret_by (result_blk rfl rfl (((hr.on hw hr.lt).set 0 _).set 1 _) Tryz.underlying77 infoN) rfl ⟨rfl, ((hb.trans (hw.mono hb.size)).setCell (by simp; omega) _).setCell (by simp; omega) _⟩

set_option maxHeartbeats 800000 in
set_option maxRecDepth 100000 in
theorem two_any (x : Int × Int) (w : World) :
    Calls Tryz.prog 57 #[tv x] w fun e w' => e = .returned (tv x) ∧ Below w.heap.size w w' := by
  obtain ⟨a, b⟩ := x
  go_enter Tryz.func57, Tryz.ntmps57
  go_wp2
  refine bodyPost_ret_by (result_blk rfl rfl (Blk.newAt (by simp)) Tryz.underlying55 infoT) rfl ⟨rfl, ((Below.refl _ _).alloc (Nat.le_refl _) _).alloc (by simp) _⟩

set_option maxHeartbeats 800000 in
set_option maxRecDepth 100000 in
theorem turned_any (x : Int × Int) (hx2 : In2 x) (w : World) :
    Calls Tryz.prog 86 #[tv x] w fun e w' => e = .returned (tv (tt x)) ∧ Below w.heap.size w w' := by
  obtain ⟨a, b⟩ := x
  have HM : Hid (∀ w, Calls Tryz.prog 61 #[.int .i64 0, .int .i64 b] w fun e w' => e = .returned (.int .i64 (fp (0 - b))) ∧ w = w') := minus_any 0 b (by decide) (by decide) hx2.2.1 hx2.2.2
  clear hx2
  go_enter Tryz.func86, Tryz.ntmps86
  go_wp2
  obtain ⟨W, hW, hb, hx, hr⟩ := boxes1r w 77 77 #[.int .i64 a, .int .i64 b] #[.int .i64 0, .int .i64 0]
  rw [hW]
  clear hW
  refine wp_region_class 6 (fun wz => Below W.heap.size W wz) mixes (by kernel_rfl) (Below.refl _ _).drew ?_
  simp only [List.take_succ_cons, List.take_zero, List.drop_succ_cons, List.drop_zero]
  repeat (refine cls_step rfl (fun K hK => ⟨_, (fun w' hw => by have q0 := (hx.on hw hx.lt).cell 0; have q1 := (hx.on hw hx.lt).cell 1; go_simp; exact rfl), ?_⟩); go_simp; refine hK _ ?_; clear hK K)
  refine cls_call rfl (fun K hK => ⟨_, _, _, (fun w' => by go_simp <;> first | exact rfl | exact ⟨rfl, rfl⟩), (fun w' hw => calls_same hw (HM.out _)), ?_⟩); go_simp; refine hK _ ?_; clear hK K
  repeat (refine cls_step rfl (fun K hK => ⟨_, (fun w' hw => by go_simp; exact rfl), ?_⟩); go_simp; refine hK _ ?_; clear hK K)
  refine wq_nil ?_
  intro w' hw
  have q0 := (hr.on hw hr.lt).cell 0
  have r0 := (hr.on hw hr.lt).free 0
  have q1 := (hr.on hw hr.lt).cell 1
  have r1 := (hr.on hw hr.lt).free 1
  go_wp2
  refine bodyPost_ret_by (result_blk rfl rfl (((hr.on hw hr.lt).set 0 _).set 1 _) Tryz.underlying77 infoN) rfl ⟨by simp [tt], ((hb.trans (hw.mono hb.size)).setCell (by simp) _).setCell (by simp) _⟩

end Go.Proofs.YtldkdgbcnbgmiaaGreatDoor
